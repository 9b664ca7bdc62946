/- The fixed calls of the laws of layer 1. -/
import Derived.Test.YtldfnlkineehbaaNum4
import Derived.Deep.QuietTactic
import Derived.BigQuiet
import Derived.WalkSmall
namespace Go.Proofs.Ytldfnlkineehbaa
open Go.RowKit
set_option linter.unusedSimpArgs false
set_option linter.unusedVariables false

theorem num_MulDiv_known (w : World) :
    Calls Try.prog 26 #[.int .u64 10, .int .u64 10, .int .u64 7] w fun e w' => e = .returned (.tuple #[.int .u64 14, .int .u64 2, .int .i64 0]) ∧ Kept w w' := by
  have H := bits_Mul64 10 10 w (by unfold isU; omega) (by unfold isU; omega)
  rw [show mulHi 10 10 = 0 from by decide, show mulLo 10 10 = 100 from by decide] at H
  have HH := hidMk H
  have D := bits_Div64_low 100 7 w (by unfold isU; omega) (by unfold isU; omega) (by omega)
  rw [show (100 : Int) / 7 = 14 from by decide, show (100 : Int) % 7 = 2 from by decide] at D
  have HD := hidMk D
  clear H D
  go_enter Try.func26, Try.ntmps26
  go_wp2_with fail
  refine HH.out.mono ?_
  rintro e w1 ⟨rfl, rfl⟩
  go_wp2_with fail
  refine HD.out.mono ?_
  rintro e w2 ⟨rfl, hk⟩
  go_wp2_with fail
  go_ret3
  exact ⟨rfl, hk⟩

theorem law_known (w : World) :
    Calls Try.prog 15 #[] w fun e w' => e = .returned (.bool true) ∧ Kept w w' := by
  have hs := sl_new .i64 w [9223372036854775807, 1, -1] 2 (by simp [maxLen])
  have H := num_Sum _ _ 3 _ _ hs (by intro x hx; simp at hx; rcases hx with rfl | rfl | rfl <;> (unfold isI; omega))
  rw [show fitV (sumL [9223372036854775807, 1, -1]) = 9223372036854775807 from by decide, show fitE (sumL [9223372036854775807, 1, -1]) = 0 from by decide] at H
  have HH := hidMk H
  clear H hs
  go_enter Try.func15, Try.ntmps15
  go_wp2_with fail
  refine HH.out.mono ?_
  rintro e w1 ⟨rfl, hk1⟩
  have A := num_Add 9223372036854775807 1 w1 (by unfold isI; omega) (by unfold isI; omega)
  rw [show fitV (9223372036854775807 + 1) = 0 from by decide, show fitE (9223372036854775807 + 1) = 8 from by decide] at A
  have HA := hidMk A
  clear A
  go_wp2_with fail
  refine HA.out.mono ?_
  rintro e w2 ⟨rfl, rfl⟩
  go_wp2_with fail
  refine (num_MulDiv_known _).mono ?_
  rintro e w3 ⟨rfl, hk3⟩
  go_wp2_with fail
  go_ret
  exact ⟨rfl, (((Kept.refl _).alloc _).trans hk1).trans hk3⟩
end Go.Proofs.Ytldfnlkineehbaa
