/- The library's Add64, Mul64, and Div64 where the upper half is 0. -/
import Derived.Test.YtldfnlkineehbaaChecked
import Derived.Test.YtldfnlkineehbaaMathNum
import Derived.Deep.QuietTactic
import Derived.BigQuiet
import Derived.WalkSmall
namespace Go.Proofs.Ytldfnlkineehbaa
open Go.RowKit
set_option linter.unusedSimpArgs false
set_option linter.unusedVariables false

def cry (x y : Int) : Int := (x + y) / 18446744073709551616
theorem run_Add64 (x y : Int) (hx : isU x) (hy : isU y) (w : World) :
    (callFunc 37 #[.int .u64 x, .int .u64 y, .int .u64 0]).run Try.prog w = .ok (.value (.tuple #[.int .u64 (wLo (x + y)), .int .u64 (cry x y)])) w := by
  rw [run_callFunc_extern Try.func37 (by kernel_rfl) (by kernel_rfl) (by kernel_rfl) (e := add64Entry) (by kernel_rfl), run_add64 x y 0 hx.1 hy.1 (by omega) (by omega)]
  simp only [Result.andThen, Int.add_zero]
  rfl
def mulHi (x y : Int) : Int := x * y / 18446744073709551616
def mulLo (x y : Int) : Int := x * y % 18446744073709551616

theorem mulHi_eq (x y : Int) (hx : isU x) (hy : isU y) :
    IntKind.u64.wrap (IntKind.u64.wrap (IntKind.u64.wrap (x / 4294967296 * (y / 4294967296)) + IntKind.u64.wrap (IntKind.u64.wrap (x / 4294967296 * bits BinOp.and IntKind.u64 y 4294967295) +
        IntKind.u64.wrap (bits BinOp.and IntKind.u64 x 4294967295 * bits BinOp.and IntKind.u64 y 4294967295) / 4294967296) / 4294967296) +
      IntKind.u64.wrap (bits BinOp.and IntKind.u64 (IntKind.u64.wrap (IntKind.u64.wrap (x / 4294967296 * bits BinOp.and IntKind.u64 y 4294967295) +
        IntKind.u64.wrap (bits BinOp.and IntKind.u64 x 4294967295 * bits BinOp.and IntKind.u64 y 4294967295) / 4294967296)) 4294967295 +
        IntKind.u64.wrap (bits BinOp.and IntKind.u64 x 4294967295 * (y / 4294967296))) / 4294967296) = mulHi x y := by
  have hx' := hx; have hy' := hy
  unfold isU at hx' hy'
  rw [and_low32 (IntKind.u64.wrap _) (u64_is _).1 (by have := (u64_is (IntKind.u64.wrap (x / 4294967296 * bits BinOp.and IntKind.u64 y 4294967295) + IntKind.u64.wrap (bits BinOp.and IntKind.u64 x 4294967295 * bits BinOp.and IntKind.u64 y 4294967295) / 4294967296)).2; omega)]
  rw [and_low32 x (by omega) (by omega), and_low32 y (by omega) (by omega)]
  simp only [IntKind.wrap_u64]
  exact mul64_arith x y (by omega) (by omega) (by omega) (by omega)

theorem bits_Mul64 (x y : Int) (w : World) (hx : isU x) (hy : isU y) :
    Calls Try.prog 38 #[.int .u64 x, .int .u64 y] w fun e w' => e = .returned (.tuple #[.int .u64 (mulHi x y), .int .u64 (mulLo x y)]) ∧ w' = w := by
  go_enter Try.func38, Try.ntmps38
  go_wp2
  go_ret2
  exact ⟨ret_two (mulHi_eq x y hx hy) (IntKind.wrap_u64 _), rfl⟩

theorem bits_Div64_low (lo y : Int) (w : World) (hl : isU lo) (hy : isU y) (h0 : 1 ≤ y) :
    Calls Try.prog 39 #[.int .u64 0, .int .u64 lo, .int .u64 y] w fun e w' => e = .returned (.tuple #[.int .u64 (lo / y), .int .u64 (lo % y)]) ∧ Kept w w' := by
  have b1 : 0 ≤ lo := hl.1
  have b2 : lo ≤ 18446744073709551615 := hl.2
  have b3 : (y == 0) = false := by simp; omega
  have b4 : ¬ y ≤ 0 := by omega
  go_enter Try.func39, Try.ntmps39
  go_wp2
  go_quiet (fail)
  go_wp2
  go_ret2
  exact ⟨rfl, below_drewN (Below.refl _ _) _⟩
end Go.Proofs.Ytldfnlkineehbaa
