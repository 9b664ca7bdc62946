/- What must come of fixed calls (layer 4). -/
import Derived.Test.YtolihnipoggokaaWire7
namespace Go.Proofs.Ytolihnipoggokaa
open Go.RowKit
set_option linter.unusedSimpArgs false
set_option linter.unusedVariables false

theorem encI_300 : encI 300 = [216, 4] := by
  unfold encI
  rw [show zig 300 = 600 from rfl, enc_ge (by omega), enc_lt (by omega)]
  rfl
def sixB : List Int := [216, 4, 1, 4, 104, 105]
theorem six1 : numOV sixB 0 = 300 ∧ numOS sixB 0 = 2 ∧ numOE sixB 0 = 0 := by decide +kernel
theorem six2 : numOV (sixB.drop 2) 0 = -1 ∧ numOS (sixB.drop 2) 0 = 1 ∧ numOE (sixB.drop 2) 0 = 0 := by decide +kernel
theorem six3 : textV ((sixB.drop 2).drop 1) 0 = [104, 105] ∧ textR ((sixB.drop 2).drop 1) 0 = [] ∧ textE ((sixB.drop 2).drop 1) 0 = 0 := by decide +kernel
theorem six_isB : ∀ x ∈ sixB, isB x := by unfold sixB isB; decide

set_option maxHeartbeats 1000000 in
set_option maxRecDepth 100000 in
theorem law_known (w : World) : Calls Try.prog 5 #[] w fun e w' => e = .returned (.bool true) ∧ Kept w w' := by
  go_enter Try.func5, Try.ntmps5
  go_wp2_with fail
  refine (wire_New _ 6 6 sixB _ (sl_new .u8 w sixB 5 (by unfold sixB maxLen; decide)) six_isB (by decide)).mono ?_
  rintro e w1 ⟨p, rfl, hp, r1, k1⟩
  have K1 := hidMk (show Kept w w1 from ((Kept.refl w).alloc _).trans k1)
  have hp1 : w.heap.size ≤ p := by simp at hp; omega
  have R1 := hidMk r1
  clear r1 k1
  go_wp2_with fail
  have c2 := num_at R1.out
  rw [six1.1, six1.2.1, six1.2.2] at c2
  refine c2.mono ?_
  rintro e w2 ⟨rfl, r2, b2⟩
  have K2 := hidMk (But.kept K1.out hp1 b2)
  have R2 := hidMk r2
  clear r2 b2 c2
  go_wp2_with fail
  have c3 := num_at R2.out
  rw [six2.1, six2.2.1, six2.2.2] at c3
  refine c3.mono ?_
  rintro e w3 ⟨rfl, r3, b3⟩
  have K3 := hidMk (But.kept K2.out hp1 b3)
  have R3 := hidMk r3
  clear r3 b3 c3
  go_wp2_with fail
  have c4 := text_at R3.out
  rw [six3.1, six3.2.1, six3.2.2] at c4
  refine c4.mono ?_
  rintro e w4 ⟨rfl, r4, b4⟩
  have K4 := hidMk (But.kept K3.out hp1 b4)
  have R4 := hidMk r4
  clear r4 b4 c4
  have hstr : str [104, 105] = ⟨#[104, 105]⟩ := by decide +kernel
  rw [hstr]
  go_wp2_with fail
  refine (wire_Put none 0 0 [] 300 _ (sl_none rfl) (Nat.le_refl _) (by unfold isI; omega) (by decide)).mono ?_
  rintro e w5 ⟨v5, rfl, o5, k5⟩
  rw [encI_300, List.nil_append] at o5
  obtain ⟨a5, c5, rfl, s5, _, _⟩ := owned_sl o5 (by unfold maxLen; decide)
  have hcv : (convert 22 9 (.slice a5 2 c5)).run Try.prog w5 = .ok (.string (str [216, 4])) w5 := run_string_sl (c := c5) s5 (by intro x hx; simp at hx; unfold isB; omega)
  have hstr2 : str [216, 4] = ⟨#[216, 4]⟩ := by decide +kernel
  rw [hstr2] at hcv
  have K5 := hidMk (K4.out.trans k5)
  have R5 := hidMk (R4.out.kept k5)
  clear s5 o5 k5
  go_wp2_with (first | (go_at_call 24; refine (why_at R5.out).mono ?_; rintro e w6 ⟨rfl, rfl⟩) | (go_at_call 25; refine (left_at R5.out).mono ?_; rintro e w6 ⟨rfl, rfl⟩))
  go_ret
  exact ⟨rfl, K5.out⟩
end Go.Proofs.Ytolihnipoggokaa
