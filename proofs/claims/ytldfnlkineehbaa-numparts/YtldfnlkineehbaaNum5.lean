/- The contracts of bits.Mul64, of bits.Div64 where the upper half is 0, and of the law's fixed calls. -/
import Derived.Test.YtldfnlkineehbaaNum4
import Derived.Deep.QuietTactic
import Derived.BigQuiet
import Derived.WalkSmall
namespace Go.Proofs.Ytldfnlkineehbaa
open Go.RowKit
set_option linter.unusedSimpArgs false
set_option linter.unusedVariables false

def mulHi (x y : Int) : Int := x * y / 18446744073709551616
def mulLo (x y : Int) : Int := x * y % 18446744073709551616

theorem mulHi_eq (x y : Int) (hx : isU x) (hy : isU y) :
    IntKind.u64.wrap (IntKind.u64.wrap (IntKind.u64.wrap (x / 4294967296 * (y / 4294967296)) + IntKind.u64.wrap (IntKind.u64.wrap (x / 4294967296 * bits BinOp.and IntKind.u64 y 4294967295) +
        IntKind.u64.wrap (bits BinOp.and IntKind.u64 x 4294967295 * bits BinOp.and IntKind.u64 y 4294967295) / 4294967296) / 4294967296) +
      IntKind.u64.wrap (bits BinOp.and IntKind.u64 (IntKind.u64.wrap (IntKind.u64.wrap (x / 4294967296 * bits BinOp.and IntKind.u64 y 4294967295) +
        IntKind.u64.wrap (bits BinOp.and IntKind.u64 x 4294967295 * bits BinOp.and IntKind.u64 y 4294967295) / 4294967296)) 4294967295 +
        IntKind.u64.wrap (bits BinOp.and IntKind.u64 x 4294967295 * (y / 4294967296))) / 4294967296) = mulHi x y := by
  have hx' := hx; have hy' := hy
  unfold isU at hx' hy'
  rw [and_low32 (IntKind.u64.wrap _) (u64_is _).1 (by have := (u64_is (IntKind.u64.wrap (x / 4294967296 * bits BinOp.and IntKind.u64 y 4294967295) + IntKind.u64.wrap (bits BinOp.and IntKind.u64 x 4294967295 * bits BinOp.and IntKind.u64 y 4294967295) / 4294967296)).2; omega)]
  rw [and_low32 x (by omega) (by omega), and_low32 y (by omega) (by omega)]
  simp only [IntKind.wrap_u64]
  exact mul64_arith x y (by omega) (by omega) (by omega) (by omega)

theorem bits_Mul64 (x y : Int) (w : World) (hx : isU x) (hy : isU y) :
    Calls Try.prog 38 #[.int .u64 x, .int .u64 y] w fun e w' => e = .returned (.tuple #[.int .u64 (mulHi x y), .int .u64 (mulLo x y)]) ∧ w' = w := by
  go_enter Try.func38, Try.ntmps38
  go_wp2
  go_ret2
  exact ⟨ret_two (mulHi_eq x y hx hy) (IntKind.wrap_u64 _), rfl⟩

theorem bits_Div64_low (lo y : Int) (w : World) (hl : isU lo) (hy : isU y) (h0 : 1 ≤ y) :
    Calls Try.prog 39 #[.int .u64 0, .int .u64 lo, .int .u64 y] w fun e w' => e = .returned (.tuple #[.int .u64 (lo / y), .int .u64 (lo % y)]) ∧ Kept w w' := by
  have b1 : 0 ≤ lo := hl.1
  have b2 : lo ≤ 18446744073709551615 := hl.2
  have b3 : (y == 0) = false := by simp; omega
  have b4 : ¬ y ≤ 0 := by omega
  go_enter Try.func39, Try.ntmps39
  go_wp2
  go_quiet (fail)
  go_wp2
  go_ret2
  exact ⟨rfl, below_drewN (Below.refl _ _) _⟩

theorem num_MulDiv_known (w : World) :
    Calls Try.prog 26 #[.int .u64 10, .int .u64 10, .int .u64 7] w fun e w' => e = .returned (.tuple #[.int .u64 14, .int .u64 2, .int .i64 0]) ∧ Kept w w' := by
  have H := bits_Mul64 10 10 w (by unfold isU; omega) (by unfold isU; omega)
  rw [show mulHi 10 10 = 0 from by decide, show mulLo 10 10 = 100 from by decide] at H
  have HH := hidMk H
  have D := bits_Div64_low 100 7 w (by unfold isU; omega) (by unfold isU; omega) (by omega)
  rw [show (100 : Int) / 7 = 14 from by decide, show (100 : Int) % 7 = 2 from by decide] at D
  have HD := hidMk D
  clear H D
  go_enter Try.func26, Try.ntmps26
  go_wp2_with fail
  refine HH.out.mono ?_
  rintro e w1 ⟨rfl, rfl⟩
  go_wp2_with fail
  refine HD.out.mono ?_
  rintro e w2 ⟨rfl, hk⟩
  go_wp2_with fail
  go_ret3
  exact ⟨rfl, hk⟩

theorem law_known (w : World) :
    Calls Try.prog 15 #[] w fun e w' => e = .returned (.bool true) ∧ Kept w w' := by
  have hs := sl_new .i64 w [9223372036854775807, 1, -1] 2 (by simp [maxLen])
  have H := num_Sum _ _ 3 _ _ hs (by intro x hx; simp at hx; rcases hx with rfl | rfl | rfl <;> (unfold isI; omega))
  rw [show fitV (sumL [9223372036854775807, 1, -1]) = 9223372036854775807 from by decide, show fitE (sumL [9223372036854775807, 1, -1]) = 0 from by decide] at H
  have HH := hidMk H
  clear H hs
  go_enter Try.func15, Try.ntmps15
  go_wp2_with fail
  refine HH.out.mono ?_
  rintro e w1 ⟨rfl, hk1⟩
  have A := num_Add 9223372036854775807 1 w1 (by unfold isI; omega) (by unfold isI; omega)
  rw [show fitV (9223372036854775807 + 1) = 0 from by decide, show fitE (9223372036854775807 + 1) = 8 from by decide] at A
  have HA := hidMk A
  clear A
  go_wp2_with fail
  refine HA.out.mono ?_
  rintro e w2 ⟨rfl, rfl⟩
  go_wp2_with fail
  refine (num_MulDiv_known _).mono ?_
  rintro e w3 ⟨rfl, hk3⟩
  go_wp2_with fail
  go_ret
  exact ⟨rfl, (((Kept.refl _).alloc _).trans hk1).trans hk3⟩
end Go.Proofs.Ytldfnlkineehbaa
