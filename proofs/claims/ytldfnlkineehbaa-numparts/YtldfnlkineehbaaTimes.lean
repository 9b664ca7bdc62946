/- The definition's Times, bit by bit. -/
import Derived.Test.YtldfnlkineehbaaDiv4
namespace Go.Proofs.Ytldfnlkineehbaa
open Go.RowKit
set_option linter.unusedSimpArgs false
set_option linter.unusedVariables false

theorem or_two (x t : Int) (hx : 0 ≤ x) (t0 : 0 ≤ t) (t1 : t ≤ 1) (h : x * 2 + t < 18446744073709551616) : bits .or .u64 (x * 2) t = x * 2 + t := by
  obtain ⟨n, rfl⟩ := Int.eq_ofNat_of_zero_le hx
  obtain ⟨m, rfl⟩ := Int.eq_ofNat_of_zero_le t0
  have := or_add n m 1 (by omega) (by omega)
  simpa using this
theorem or_up (V : Int) (h0 : 0 ≤ V) (h1 : 2 * V < 340282366920938463463374607431768211456) :
    bits .or .u64 (IntKind.u64.wrap (V / 18446744073709551616 * 2)) (V % 18446744073709551616 / 9223372036854775808) = 2 * V / 18446744073709551616 := by
  rw [IntKind.wrap_u64, Int.emod_eq_of_lt (by omega) (by omega), or_two _ _ (by omega) (by omega) (by omega) (by omega)]
  omega
theorem and_one (x : Int) (h0 : 0 ≤ x) (h1 : x < 18446744073709551616) : bits .and .u64 x 1 = x % 2 := by
  obtain ⟨n, rfl⟩ := Int.eq_ofNat_of_zero_le h0
  have h := bits_and_u64_nat n 1 (by omega) (by omega)
  have e : n &&& 1 = n % 2 := Nat.and_one_is_mod n
  rw [e] at h
  simpa using h
theorem half_pow (b : Int) (j : Nat) (h : 0 ≤ b) : b / 2 ^ (j + 1) = b / 2 ^ j / 2 := by
  rw [Int.pow_succ, Int.ediv_ediv_of_nonneg]
  exact Int.le_of_lt (Int.pow_pos (by omega))
theorem pow_le_self (b : Int) (j : Nat) (h : 0 ≤ b) : 0 ≤ b / 2 ^ j ∧ b / 2 ^ j ≤ b :=
  ⟨Int.ediv_nonneg h (Int.le_of_lt (Int.pow_pos (by omega))), Int.ediv_le_self _ h⟩
/-- A step of Times, where the bit is set. -/
theorem times_one (a c c2 : Int) (ha : isU a) (hc2 : isU c2) (hc : c = c2 / 2) (hbit : c2 % 2 = 1) :
    bits .or .u64 (IntKind.u64.wrap (mulHi a c * 2)) (mulLo a c / 9223372036854775808) = 2 * (a * c) / 18446744073709551616 ∧ a * c2 = 2 * (a * c) + a ∧ 0 ≤ a * c ∧ 2 * (a * c) + a < 340282366920938463463374607431768211456 := by
  have e : a * c2 = 2 * (a * c) + a := by
    rw [show c2 = 2 * c + 1 by omega, Int.mul_add, Int.mul_one, Int.mul_left_comm]
  have h1 : 0 ≤ a * c := Int.mul_nonneg ha.1 (by have := hc2.1; omega)
  have h2 : a * c2 ≤ 18446744073709551615 * 18446744073709551615 := Int.mul_le_mul ha.2 hc2.2 hc2.1 (by omega)
  have := ha.1
  exact ⟨or_up (a * c) h1 (by omega), e, h1, by omega⟩
theorem times_zero (a c c2 : Int) (ha : isU a) (hc2 : isU c2) (hc : c = c2 / 2) (hbit : c2 % 2 = 0) :
    bits .or .u64 (IntKind.u64.wrap (mulHi a c * 2)) (mulLo a c / 9223372036854775808) = 2 * (a * c) / 18446744073709551616 ∧ a * c2 = 2 * (a * c) ∧ 0 ≤ a * c ∧ 2 * (a * c) < 340282366920938463463374607431768211456 := by
  have e : a * c2 = 2 * (a * c) := by
    rw [show c2 = 2 * c by omega, Int.mul_left_comm]
  have h1 : 0 ≤ a * c := Int.mul_nonneg ha.1 (by have := hc2.1; omega)
  have h2 : a * c2 ≤ 18446744073709551615 * 18446744073709551615 := Int.mul_le_mul ha.2 hc2.2 hc2.1 (by omega)
  exact ⟨or_up (a * c) h1 (by omega), e, h1, by omega⟩

theorem ref_Times (a b : Int) (w : World) (ha : isU a) (hb : isU b) :
    Calls Try.prog 28 #[.int .u64 a, .int .u64 b] w fun e w' => e = .returned (.tuple #[.int .u64 (mulHi a b), .int .u64 (mulLo a b)]) ∧ w' = w := by
  have b0 := hb.1
  have b1 := hb.2
  go_enter Try.func28, Try.ntmps28
  go_wp2
  go_loop [6, 7, 8] (fun h l i => ∃ k : Nat, k ≤ 64 ∧ i = .int .i64 ((k : Int) - 1) ∧ h = .int .u64 (mulHi a (b / 2 ^ k)) ∧ l = .int .u64 (mulLo a (b / 2 ^ k))) (fun _ _ i => (intOf i + 1).toNat)
  case atStart => exact ⟨64, by omega, rfl, by rw [Int.ediv_eq_zero_of_lt b0 (by omega)]; simp [mulHi], by rw [Int.ediv_eq_zero_of_lt b0 (by omega)]; simp [mulLo]⟩
  case round =>
    obtain ⟨k, hk, rfl, rfl, rfl⟩ := hrel
    by_cases h0 : 1 ≤ k
    · obtain ⟨j, rfl⟩ : ∃ j, k = j + 1 := ⟨k - 1, by omega⟩
      have hp := pow_le_self b j b0
      have hu : isU (b / 2 ^ j) := ⟨hp.1, by omega⟩
      have hh := half_pow b j b0
      have hand := and_one (b / 2 ^ j) hp.1 (by omega)
      rcases (show b / 2 ^ j % 2 = 1 ∨ b / 2 ^ j % 2 = 0 by omega) with hbit | hbit
      · have T := hidMk (times_one a _ _ ha hu hh hbit)
        have hb1 : (bits .and .u64 (b / 2 ^ j) 1 == 1) = true := by rw [hand, hbit]; rfl
        clear hand hbit hp
        have HH := hidMk hh
        clear hh
        go_wp2
        all_goals
          refine ⟨⟨j, by omega, rfl, ?_, ?_⟩, by simp [intOf]⟩
          all_goals
            obtain ⟨t1, t2, t3, t4⟩ := T.out
            congr 1
            simp only [IntKind.wrap_u64] at *
            first | rw [t1] | skip
            simp only [mulHi, mulLo] at *
            rw [t2]
            generalize a * (b / 2 ^ (j + 1)) = V at *
            unfold isU at ha
            omega
      · have T := hidMk (times_zero a _ _ ha hu hh hbit)
        have hb1 : (bits .and .u64 (b / 2 ^ j) 1 == 1) = false := by rw [hand, hbit]; rfl
        clear hand hbit hp
        have HH := hidMk hh
        clear hh
        go_wp2
        refine ⟨⟨j, by omega, rfl, ?_, ?_⟩, by simp [intOf]⟩
        all_goals
            obtain ⟨t1, t2, t3, t4⟩ := T.out
            congr 1
            simp only [IntKind.wrap_u64] at *
            first | rw [t1] | skip
            simp only [mulHi, mulLo] at *
            first
              | (rw [t2]; done)
              | (rw [t2]; generalize a * (b / 2 ^ (j + 1)) = V at *; omega)
    · have hk0 : k = 0 := by omega
      subst hk0
      go_wp2
      go_ret2
      exact ⟨ret_two (by simp) (by simp), rfl⟩
end Go.Proofs.Ytldfnlkineehbaa
