/- TextNums: numbers in digits, there and back. -/
import Derived.Test.YtolihnipoggokaaDoorText8
namespace Go.Proofs.YtolihnipoggokaaDoor
open Go.RowKit
set_option linter.unusedSimpArgs false
set_option linter.unusedVariables false

set_option maxHeartbeats 2000000 in
set_option maxRecDepth 100000 in
theorem law_TextNums (n : Int) (s : ByteArray) (w : World) (hn : isI n) (hs : s.size ≤ 140737488355328) (hV : Vars w) : Calls Tryd.prog 4 #[.int .i64 n, .string s] w fun e w' => e = .returned (.bool true) ∧ Kept w w' := by
  have HV := hidMk hV
  have HN := hidMk hn
  have key : ∃ x f, isI x ∧ (∀ w, Vars w → Calls Tryd.prog 12 #[.string s] w fun e w' => e = .returned (.tuple #[.int .i64 x, .int .i64 f]) ∧ Kept w w') ∧ ∀ w, Calls Tryd.prog 13 #[.string s] w fun e w' => e = .returned (.tuple #[.int .i64 x, .int .i64 f]) ∧ w' = w := by
    by_cases h : ∃ v, isI v ∧ numS v = s
    · obtain ⟨v, hv, rfl⟩ := h
      exact ⟨v, 0, hv, fun w _ => text_Read_ok v hv w, ref_Read_ok v hv⟩
    · have hno : ∀ v, isI v → numS v ≠ s := fun v hv e => h ⟨v, hv, e⟩
      exact ⟨0, 6, by unfold isI; omega, fun w hw => text_Read_no s hs hno w hw, ref_Read_no s (by omega) hno⟩
  obtain ⟨x, f, hx, h1, h2⟩ := key
  have H1 := hidMk h1
  have H2 := hidMk h2
  have H3 := hidMk (text_Read_ok n hn)
  have H4 := hidMk (text_Num n hn)
  have H5 := hidMk (ref_Num n hn)
  have hxx : (x == x) = true := by simp
  have hff : (f == f) = true := by simp
  have hnn : (n == n) = true := by simp
  clear h1 h2 hV hn hx
  generalize numS n = y at *
  go_enter Tryd.func4, Tryd.ntmps4
  go_wp2_with fail
  refine (H1.out _ HV.out).mono ?_
  rintro e w1 ⟨rfl, k1⟩
  have K1 := hidMk k1
  clear k1
  go_wp2_with fail
  refine (H2.out _).mono ?_
  rintro e w2 ⟨rfl, rfl⟩
  go_wp2_with fail
  refine (H4.out _).mono ?_
  rintro e w3 ⟨rfl, k3⟩
  have K3 := hidMk (K1.out.trans k3)
  clear k3
  go_wp2_with fail
  refine (H3.out _).mono ?_
  rintro e w4 ⟨rfl, k4⟩
  have K4 := hidMk (K3.out.trans k4)
  clear k4
  go_wp2_with fail
  refine (H4.out _).mono ?_
  rintro e w5 ⟨rfl, k5⟩
  have K5 := hidMk (K4.out.trans k5)
  clear k5
  go_wp2_with fail
  refine (H5.out _).mono ?_
  rintro e w6 ⟨rfl, rfl⟩
  go_wp2_with fail
  refine (law_known _ (HV.out.kept K5.out)).mono ?_
  rintro e w7 ⟨rfl, k7⟩
  go_wp2_with fail
  go_ret
  exact ⟨rfl, K5.out.trans k7⟩
end Go.Proofs.YtolihnipoggokaaDoor
