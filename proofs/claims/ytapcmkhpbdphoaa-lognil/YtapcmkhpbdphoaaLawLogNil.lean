/- LogNil: a log that is not there has no records; without a file there is none. -/
import Derived.Test.YtapcmkhpbdphoaaLgE
namespace Go.Proofs.Ytapcmkhpbdphoaa
open Go.RowKit Go.Maps
set_option linter.unusedSimpArgs false
set_option linter.unusedVariables false

set_option maxRecDepth 100000 in
theorem clr_nil (x y : Int) (w : World) : Calls Try.prog 19 #[.pointer none, .int .i64 x, .int .i64 y] w fun e w' => e = .returned (.int .i64 1) ∧ w' = w := by
  have HA := hidMk (ask_nil x y w)
  go_enter Try.func19, Try.ntmps19
  go_wp2_with (go_at_call 31; refine HA.out.mono ?_; rintro e w1 ⟨rfl, rfl⟩)
  go_loopw [7, 8] (fun u v wr => u = .int .i64 1 ∧ v = .int .i64 x ∧ wr = w1) (fun _ _ _ => 0)
  case atStart => exact ⟨rfl, rfl, rfl⟩
  case round =>
    obtain ⟨rfl, rfl, rfl⟩ := hrel
    by_cases h : x < y
    · go_wp2_with fail
      go_ret
      exact ⟨rfl, rfl⟩
    · have h' : y ≤ x := by omega
      go_wp2_with fail
      go_ret
      exact ⟨rfl, rfl⟩
set_option maxHeartbeats 1000000 in
set_option maxRecDepth 100000 in
theorem law_LogNil (x : Int) (a : Option Addr) (n c : Nat) (w : World) : Calls Try.prog 5 #[.int .i64 x, .slice a n c] w fun e w' => e = .returned (.bool true) ∧ Kept w w' := by
  go_enter Try.func5, Try.ntmps5
  go_wp2_with fail
  refine (opn_nil 0 x w).mono ?_
  rintro e w1 ⟨rfl, hw1⟩
  rw [hw1]
  clear hw1 w1
  go_wp2_with fail
  refine (nil_Records w).mono ?_
  rintro e w2 ⟨rfl, k2⟩
  have K2 := hidMk k2
  clear k2
  go_wp2_with fail
  refine (nil_Add a n c w2).mono ?_
  rintro e w3 ⟨rfl, k3⟩
  have K3 := hidMk (K2.out.trans k3)
  clear k3
  go_wp2_with fail
  refine (nil_Trim w3).mono ?_
  rintro e w4 ⟨rfl, k4⟩
  have K4 := hidMk (K3.out.trans k4)
  clear k4
  go_wp2_with fail
  refine (nil_Used w4).mono ?_
  rintro e w5 ⟨rfl, k5⟩
  have K5 := hidMk (K4.out.trans k5)
  clear k5
  go_wp2_with fail
  refine (nil_Room w5).mono ?_
  rintro e w6 ⟨rfl, k6⟩
  have K6 := hidMk (K5.out.trans k6)
  clear k6
  go_wp2_with fail
  refine (nil_Clean w6).mono ?_
  rintro e w7 ⟨rfl, k7⟩
  have K7 := hidMk (K6.out.trans k7)
  clear k7
  go_wp2_with fail
  refine (clr_nil 0 x w7).mono ?_
  rintro e w8 ⟨rfl, hw8⟩
  rw [hw8]
  clear hw8 w8
  go_wp2_with fail
  refine (law25_known w7).mono ?_
  rintro e w9 ⟨rfl, k9⟩
  have K9 := hidMk (K7.out.trans k9)
  clear k9
  go_wp2_with fail
  go_ret
  exact ⟨rfl, K9.out⟩
end Go.Proofs.Ytapcmkhpbdphoaa
