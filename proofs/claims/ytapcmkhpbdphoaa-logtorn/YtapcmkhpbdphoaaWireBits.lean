/- The words of layer 4: the sign as the lowest bit; seven bits more. No program is named here. -/
import Derived.Test.YtapcmkhpbdphoaaWireMath
import Derived.Laws.BitsAllLaws
namespace Go.Proofs.Ytapcmkhpbdphoaa
open Go.RowKit
set_option linter.unusedSimpArgs false
set_option linter.unusedVariables false

theorem xor_ones (a : Nat) (ha : a < 18446744073709551616) : a ^^^ 18446744073709551615 = 18446744073709551615 - a := by
  have h : (BitVec.ofNat 64 a ^^^ BitVec.allOnes 64).toNat = 18446744073709551615 - a := by
    rw [BitVec.xor_allOnes, BitVec.toNat_not, BitVec.toNat_ofNat]
    omega
  rw [BitVec.toNat_xor, BitVec.toNat_ofNat, BitVec.toNat_allOnes] at h
  rw [Nat.mod_eq_of_lt (by omega)] at h
  exact h
/-- 2n, or -2n - 1. -/
theorem zig_word (n : Int) (h : isI n) : bits .xor .u64 (IntKind.u64.wrap (IntKind.u64.wrap n * 2)) (IntKind.u64.wrap (n / 9223372036854775808)) = (zig n : Int) := by
  unfold isI at h
  rw [IntKind.wrap_u64, IntKind.wrap_u64, IntKind.wrap_u64]
  rw [u64_xor _ _ (by omega) (by omega) (by omega) (by omega)]
  unfold zig
  by_cases h0 : 0 ≤ n
  · rw [if_pos h0]
    have e : (n / 9223372036854775808 % 18446744073709551616).toNat = 0 := by omega
    rw [e, Nat.xor_zero]
    omega
  · rw [if_neg h0]
    have e : (n / 9223372036854775808 % 18446744073709551616).toNat = 18446744073709551615 := by omega
    rw [e, xor_ones _ (by omega)]
    omega
theorem or128_word (u : Nat) : bits .or .u8 (IntKind.u8.wrap (u : Int)) 128 = ((u % 128 + 128 : Nat) : Int) := by
  rw [IntKind.wrap_u8, u8_or _ _ (by omega) (by omega) (by omega) (by omega)]
  have h : ∀ x : Fin 256, x.val ||| 128 = x.val % 128 + 128 := by decide +kernel
  have e := h ⟨((u : Int) % 256).toNat, by omega⟩
  dsimp at e
  rw [show ((128 : Int)).toNat = 128 from rfl, e]
  omega
theorem andNot128_word (c : Int) (h : isB c) : bits .andNot .u8 c 128 = c % 128 := by
  unfold isB at h
  rw [u8_andNot _ _ (by omega) (by omega) (by omega) (by omega)]
  have h : ∀ x : Fin 256, x.val &&& 127 = x.val % 128 := by decide +kernel
  have e := h ⟨c.toNat, by omega⟩
  dsimp at e
  rw [show (255 - ((128 : Int)).toNat) = 127 from rfl, e]
  omega
theorem join7_word (u : Nat) (c : Int) (hc : isB c) (hu : 128 * u + 127 < 18446744073709551616) : bits .or .u64 (IntKind.u64.wrap ((u : Int) * 128)) (c % 128) = (((c % 128).toNat + 128 * u : Nat) : Int) := by
  unfold isB at hc
  rw [IntKind.wrap_u64, u64_or _ _ (by omega) (by omega) (by omega) (by omega), nat_join 7 _ _ (by omega) (by omega)]
  omega
theorem and1_word (u : Nat) (hu : u < 18446744073709551616) : bits .and .u64 (u : Int) 1 = ((u % 2 : Nat) : Int) := by
  rw [show (1 : Int) = ((1 : Nat) : Int) from rfl, u64_and_nat _ _ hu (by omega), Nat.and_one_is_mod]
theorem i64_not' (a : Nat) (ha : a < 9223372036854775808) : bits .xor .i64 (a : Int) (-1) = -1 - (a : Int) := by
  show IntKind.i64.wrap ((BitVec.ofInt 64 (a : Int) ^^^ BitVec.ofInt 64 (-1)).toNat : Int) = _
  have h1 : BitVec.ofInt 64 (-1) = BitVec.allOnes 64 := by decide
  rw [h1, BitVec.xor_allOnes, BitVec.toNat_not, ofInt_u64 a (by omega)]
  simp [IntKind.wrap, IntKind.bits, IntKind.signed]
  omega
theorem i64_xor_zero (a : Nat) (ha : a < 9223372036854775808) : bits .xor .i64 (a : Int) 0 = (a : Int) := by
  show IntKind.i64.wrap ((BitVec.ofInt 64 (a : Int) ^^^ BitVec.ofInt 64 0).toNat : Int) = _
  have h1 : BitVec.ofInt 64 0 = 0#64 := by decide
  rw [h1, BitVec.xor_zero, ofInt_u64 a (by omega)]
  simp [IntKind.wrap, IntKind.bits, IntKind.signed]
  omega
theorem zag_word (u : Nat) (hu : u < 18446744073709551616) : bits .xor .i64 (wrap64 ((u : Int) / 2)) (wrap64 (-(((u % 2 : Nat) : Int)))) = zag u := by
  have e1 : wrap64 ((u : Int) / 2) = ((u / 2 : Nat) : Int) := by unfold wrap64; omega
  rw [e1]
  unfold zag
  by_cases h : u % 2 = 0
  · rw [if_pos h, h]
    have e2 : wrap64 (-(((0 : Nat)) : Int)) = 0 := by unfold wrap64; omega
    rw [e2, i64_xor_zero _ (by omega)]
  · rw [if_neg h]
    have e2 : wrap64 (-(((u % 2 : Nat)) : Int)) = -1 := by unfold wrap64; omega
    rw [e2, i64_not' _ (by omega)]
    omega
theorem zag_word2 (u : Nat) (hu : u < 18446744073709551616) : bits .xor .i64 ((u : Int) / 2) (-((u : Int) % 2)) = zag u := by
  rw [← zag_word u hu]
  congr 1
  · unfold wrap64; omega
  · unfold wrap64; omega
end Go.Proofs.Ytapcmkhpbdphoaa
