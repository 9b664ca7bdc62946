/- bits.Len64 and bits.LeadingZeros64. -/
import Derived.Test.YtldfnlkineehbaaBits
import Derived.Deep.Light
namespace Go.Proofs.Ytldfnlkineehbaa
open Go.RowKit
set_option linter.unusedSimpArgs false
set_option linter.unusedVariables false

theorem len_up (b k : Nat) (x y : Int) (hx : 0 ≤ x) (hy : y.toNat = x.toNat / 2 ^ b) (h1 : 1 ≤ y) (h2 : y < 256) (hb : b ≤ 56) : wrap64 (b + wrap64 (bitLen y.toNat : Nat)) = (bitLen x.toNat : Nat) := by
  have l := bitLen_le8 y.toNat (by omega)
  have s := bitLen_shift x.toNat b (by rw [← hy]; omega)
  rw [← hy] at s
  rw [s]
  unfold wrap64
  omega
theorem len_low (x : Int) (h2 : x < 256) (hx : 0 ≤ x) : wrap64 (wrap64 (bitLen x.toNat : Nat)) = (bitLen x.toNat : Nat) := by
  have l := bitLen_le8 x.toNat (by omega)
  unfold wrap64
  omega

set_option maxHeartbeats 1600000 in
set_option maxRecDepth 1000000 in
theorem bits_Len64 (x : Int) (w : World) (hx : isU x) :
    Calls Try.prog 49 #[.int .u64 x] w fun e w' => e = .returned (.int .i64 (bitLen x.toNat)) ∧ w' = w := by
  have h0 : 0 ≤ x := hx.1
  have h1 : x ≤ 18446744073709551615 := hx.2
  go_enter Try.func49, Try.ntmps49
  go_wp2
  all_goals go_ret
  all_goals refine ⟨ret_int ?_, rfl⟩
  all_goals go_light
  · rw [len8tab_get]; exact len_up 56 56 x _ h0 (by omega) (by omega) (by omega) (by omega)
  · rw [len8tab_get]; exact len_up 48 56 x _ h0 (by omega) (by omega) (by omega) (by omega)
  · rw [len8tab_get]; exact len_up 40 56 x _ h0 (by omega) (by omega) (by omega) (by omega)
  · rw [len8tab_get]; exact len_up 32 56 x _ h0 (by omega) (by omega) (by omega) (by omega)
  · rw [len8tab_get]; exact len_up 24 56 x _ h0 (by omega) (by omega) (by omega) (by omega)
  · rw [len8tab_get]; exact len_up 16 56 x _ h0 (by omega) (by omega) (by omega) (by omega)
  · rw [len8tab_get]; exact len_up 8 56 x _ h0 (by omega) (by omega) (by omega) (by omega)
  · rw [len8tab_get]; exact len_low x (by omega) h0
end Go.Proofs.Ytldfnlkineehbaa
