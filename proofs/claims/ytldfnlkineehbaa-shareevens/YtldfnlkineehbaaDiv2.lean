/- bits.Div64, whole. -/
import Derived.Test.YtldfnlkineehbaaDiv1
import Derived.Test.YtldfnlkineehbaaDivMath
namespace Go.Proofs.Ytldfnlkineehbaa
open Go.RowKit
set_option linter.unusedSimpArgs false
set_option linter.unusedVariables false

theorem lz_spec (y : Int) (h1 : 1 ≤ y) (h2 : y ≤ 18446744073709551615) : ∃ s : Nat, s ≤ 63 ∧ bitLen y.toNat = 64 - s ∧ 9223372036854775808 ≤ y * 2 ^ s ∧ y * 2 ^ s < 18446744073709551616 := by
  obtain ⟨n, rfl⟩ := Int.eq_ofNat_of_zero_le (show 0 ≤ y by omega)
  have hb := bitLen_spec n
  simp only [Int.toNat_natCast]
  have hpos : 1 ≤ bitLen n := by
    unfold bitLen; split <;> omega
  have hle : bitLen n ≤ 64 := by
    by_cases h : bitLen n ≤ 64
    · exact h
    · have h3 := hb.2 (by omega)
      have h4 : (2 : Nat) ^ 64 ≤ 2 ^ (bitLen n - 1) := Nat.pow_le_pow_right (by omega) (by omega)
      omega
  refine ⟨64 - bitLen n, by omega, by omega, ?_, ?_⟩
  · have h3 := hb.2 (by omega)
    have h4 : 2 ^ (bitLen n - 1) * 2 ^ (64 - bitLen n) = 2 ^ 63 := by rw [← Nat.pow_add]; congr 1; omega
    have h5 := Nat.mul_le_mul_right (2 ^ (64 - bitLen n)) h3
    rw [h4] at h5
    have : ((2 ^ 63 : Nat) : Int) ≤ ((n * 2 ^ (64 - bitLen n) : Nat) : Int) := Int.ofNat_le.2 h5
    rw [Int.natCast_mul, Int.natCast_pow] at this
    simpa using this
  · have h3 := hb.1
    have h4 : 2 ^ bitLen n * 2 ^ (64 - bitLen n) = 2 ^ 64 := by rw [← Nat.pow_add]; congr 1; omega
    have h5 := Nat.mul_lt_mul_of_pos_right h3 (Nat.two_pow_pos (64 - bitLen n))
    rw [h4] at h5
    have : ((n * 2 ^ (64 - bitLen n) : Nat) : Int) < ((2 ^ 64 : Nat) : Int) := Int.ofNat_lt.2 h5
    rw [Int.natCast_mul, Int.natCast_pow] at this
    simpa using this

theorem bits_LeadingZeros64 (y : Int) (s : Nat) (w : World) (hy : isU y) (hs : s ≤ 63) (hb : bitLen y.toNat = 64 - s) :
    Calls Try.prog 45 #[.int .u64 y] w fun e w' => e = .returned (.int .i64 s) ∧ w' = w := by
  have C := bits_Len64 y w hy
  rw [hb] at C
  have HC := hidMk C
  clear C hb
  go_enter Try.func45, Try.ntmps45
  go_wp2_with fail
  refine HC.out.mono ?_
  rintro e w1 ⟨rfl, rfl⟩
  go_wp2_with fail
  go_ret
  exact ⟨ret_int (by omega), rfl⟩

theorem or_add (a b : Nat) (s : Nat) (hb : b < 2 ^ s) (h : a * 2 ^ s + b < 18446744073709551616) : bits .or .u64 ((a * 2 ^ s : Nat) : Int) (b : Int) = ((a * 2 ^ s + b : Nat) : Int) := by
  rw [bits_or_u64_nat _ _ (by omega) (by omega), Nat.mul_comm, ← Nat.two_pow_add_eq_or_of_lt hb]

/-- What the shifts make of a dividend and a divisor. -/
structure Shifted (hi lo y : Int) (s : Nat) (Y U L : Int) : Prop where
  eY : IntKind.u64.wrap (y * 2 ^ s) = Y
  eU : bits .or .u64 (IntKind.u64.wrap (hi * 2 ^ s)) (lo / 2 ^ (64 - s)) = U
  eL : IntKind.u64.wrap (lo * 2 ^ s) = L
  y1 : 9223372036854775808 ≤ Y
  y2 : Y < 18446744073709551616
  l0 : 0 ≤ L
  l1 : L < 18446744073709551616
  u0 : 0 ≤ U
  ul : U < Y
  all : U * 18446744073709551616 + L = (hi * 18446744073709551616 + lo) * 2 ^ s
  yy : Y = y * 2 ^ s

theorem shifted (hi lo y : Int) (s : Nat) (hh : isU hi) (hl : isU lo) (hlt : hi < y) (hs : s ≤ 63) (h1 : 9223372036854775808 ≤ y * 2 ^ s) (h2 : y * 2 ^ s < 18446744073709551616) :
    ∃ Y U L, Shifted hi lo y s Y U L := by
  obtain ⟨a, rfl⟩ := Int.eq_ofNat_of_zero_le hh.1
  obtain ⟨b, rfl⟩ := Int.eq_ofNat_of_zero_le hl.1
  have hb := hl.2
  have hP : (0 : Int) < 2 ^ s := Int.pow_pos (by omega)
  have hPn : 0 < 2 ^ s := Nat.two_pow_pos s
  have hQn : 0 < 2 ^ (64 - s) := Nat.two_pow_pos (64 - s)
  have hPQ : 2 ^ s * 2 ^ (64 - s) = 18446744073709551616 := by
    rw [← Nat.pow_add, show s + (64 - s) = 64 by omega]
  have hc : ((2 ^ s : Nat) : Int) = 2 ^ s := by rw [Int.natCast_pow]; rfl
  have hc' : ((2 ^ (64 - s) : Nat) : Int) = 2 ^ (64 - s) := by rw [Int.natCast_pow]; rfl
  have hd : b / 2 ^ (64 - s) < 2 ^ s := by
    rw [Nat.div_lt_iff_lt_mul hQn, hPQ]; omega
  have hm : ((a : Int) + 1) * 2 ^ s ≤ y * 2 ^ s := Int.mul_le_mul_of_nonneg_right (by omega) (by omega)
  rw [Int.add_mul, Int.one_mul] at hm
  have ha : (a : Int) * 2 ^ s = ((a * 2 ^ s : Nat) : Int) := by rw [Int.natCast_mul, hc]
  have hbd : (b : Int) / 2 ^ (64 - s) = ((b / 2 ^ (64 - s) : Nat) : Int) := by rw [← hc']; rfl
  have hsum : a * 2 ^ s + b / 2 ^ (64 - s) < 18446744073709551616 := by
    have : ((2 ^ s : Nat) : Int) = 2 ^ s := hc
    omega
  have hdm := Nat.div_add_mod b (2 ^ (64 - s))
  have hmod : b % 2 ^ (64 - s) < 2 ^ (64 - s) := Nat.mod_lt _ hQn
  have hr : 2 ^ s * (b % 2 ^ (64 - s)) < 18446744073709551616 := by
    rw [← hPQ]; exact Nat.mul_lt_mul_of_pos_left hmod hPn
  have hbl : b * 2 ^ s = 18446744073709551616 * (b / 2 ^ (64 - s)) + 2 ^ s * (b % 2 ^ (64 - s)) := by
    have h3 : 2 ^ s * b = 2 ^ s * (2 ^ (64 - s) * (b / 2 ^ (64 - s)) + b % 2 ^ (64 - s)) := by rw [hdm]
    rw [Nat.mul_add, ← Nat.mul_assoc, hPQ] at h3
    rw [Nat.mul_comm, h3]
  have hbI : (b : Int) * 2 ^ s = ((b * 2 ^ s : Nat) : Int) := by rw [Int.natCast_mul, hc]
  refine ⟨y * 2 ^ s, ((a * 2 ^ s + b / 2 ^ (64 - s) : Nat) : Int), ((2 ^ s * (b % 2 ^ (64 - s)) : Nat) : Int), ?_, ?_, ?_, h1, h2, by omega, by omega, by omega, ?_, ?_, rfl⟩
  · rw [IntKind.wrap_u64]; exact Int.emod_eq_of_lt (by omega) h2
  · rw [ha, hbd, IntKind.wrap_u64, Int.emod_eq_of_lt (by omega) (by omega)]
    exact or_add a _ s hd hsum
  · rw [IntKind.wrap_u64, hbI, hbl]
    generalize 2 ^ s * (b % 2 ^ (64 - s)) = r at *
    generalize b / 2 ^ (64 - s) = q at *
    omega
  · rw [Int.natCast_add, ← ha, ← hbd]
    have : ((b / 2 ^ (64 - s) : Nat) : Int) < ((2 ^ s : Nat) : Int) := Int.ofNat_lt.2 hd
    rw [hc, ← hbd] at this
    omega
  · rw [Int.add_mul, hbI, hbl, Int.natCast_add, Int.natCast_add, Int.natCast_mul 18446744073709551616, Int.mul_right_comm, ha, Int.add_mul]
    generalize 2 ^ s * (b % 2 ^ (64 - s)) = r at *
    generalize b / 2 ^ (64 - s) = q at *
    generalize a * 2 ^ s = p at *
    omega
end Go.Proofs.Ytldfnlkineehbaa
