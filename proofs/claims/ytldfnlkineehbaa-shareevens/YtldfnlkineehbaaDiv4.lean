/- bits.Div64 by its answer; num.MulDiv. -/
import Derived.Test.YtldfnlkineehbaaDiv3
namespace Go.Proofs.Ytldfnlkineehbaa
open Go.RowKit
set_option linter.unusedSimpArgs false
set_option linter.unusedVariables false

theorem bits_Div64 (hi lo y : Int) (w : World) (hh : isU hi) (hl : isU lo) (hy : isU y) (hlt : hi < y) :
    Calls Try.prog 39 #[.int .u64 hi, .int .u64 lo, .int .u64 y] w fun e w' => e = .returned (.tuple #[.int .u64 ((hi * 18446744073709551616 + lo) / y), .int .u64 ((hi * 18446744073709551616 + lo) % y)]) ∧ Kept w w' := by
  have hh' := hh.1
  by_cases h0 : hi = 0
  · subst h0
    rw [Int.zero_mul, Int.zero_add]
    exact bits_Div64_low lo y w hl hy (by omega)
  · obtain ⟨s, hs, hb, h1, h2⟩ := lz_spec y (by omega) hy.2
    obtain ⟨Y, U, L, h⟩ := shifted hi lo y s hh hl hlt hs h1 h2
    have n := norm_of h
    obtain ⟨eY, eU, eL, y1, y2, l0, l1, u0, ul, hall, hyy⟩ := h
    have c := bits_Div64_high hi lo y s w Y U L _ _ _ _ hh hl hy (by omega) hlt hs hb eY eU eL rfl (and_low32 Y (by omega) y2) rfl (and_low32 L l0 l1) n (by omega) (by omega) (by omega)
    obtain ⟨t1, t2⟩ := two_digits (d' := L % 4294967296) n
    rw [show U * 18446744073709551616 + L / 4294967296 * 4294967296 + L % 4294967296 = (hi * 18446744073709551616 + lo) * 2 ^ s by rw [← hall]; omega, show Y / 4294967296 * 4294967296 + Y % 4294967296 = y * 2 ^ s by rw [← hyy]; omega] at t1 t2
    have hP : (0 : Int) < 2 ^ s := Int.pow_pos (by omega)
    have hmod : (hi * 18446744073709551616 + lo) * 2 ^ s % (y * 2 ^ s) = (hi * 18446744073709551616 + lo) % y * 2 ^ s := by
      rw [Int.mul_comm _ (2 ^ s), Int.mul_comm y, Int.mul_emod_mul_of_pos _ _ hP, Int.mul_comm]
    rw [← t1, ← t2, Int.mul_ediv_mul_of_pos_left _ _ hP, hmod, Int.mul_ediv_cancel _ (by omega)] at c
    refine c.mono ?_
    rintro e w' ⟨rfl, rfl⟩
    exact ⟨rfl, Kept.refl _⟩

/-- The answers of MulDiv. -/
def mdQ (a b c : Int) : Int := if c = 0 then 0 else if mulHi a b < c then a * b / c else 0
def mdR (a b c : Int) : Int := if c = 0 then 0 else if mulHi a b < c then a * b % c else 0
def mdE (a b c : Int) : Int := if c = 0 then 9 else if mulHi a b < c then 0 else 8

theorem mulHi_is (a b : Int) (ha : isU a) (hb : isU b) : isU (mulHi a b) := by
  unfold isU mulHi at *
  have h1 : 0 ≤ a * b := Int.mul_nonneg ha.1 hb.1
  have h2 : a * b ≤ 18446744073709551615 * 18446744073709551615 := Int.mul_le_mul ha.2 hb.2 hb.1 (by omega)
  generalize a * b = p at *
  omega
theorem mulLo_is (a b : Int) : isU (mulLo a b) := by unfold isU mulLo; omega
theorem mul_join (a b : Int) : mulHi a b * 18446744073709551616 + mulLo a b = a * b := by unfold mulHi mulLo; omega

theorem num_MulDiv (a b c : Int) (w : World) (ha : isU a) (hb : isU b) (hc : isU c) :
    Calls Try.prog 26 #[.int .u64 a, .int .u64 b, .int .u64 c] w fun e w' => e = .returned (.tuple #[.int .u64 (mdQ a b c), .int .u64 (mdR a b c), .int .i64 (mdE a b c)]) ∧ Kept w w' := by
  have hc0 := hc.1
  by_cases h0 : c = 0
  · subst h0
    go_enter Try.func26, Try.ntmps26
    go_wp2_with fail
    go_ret3
    exact ⟨rfl, Kept.refl _⟩
  · have b0 : (c == 0) = false := by simp [h0]
    by_cases h1 : mulHi a b < c
    · have q1 : mdQ a b c = a * b / c := by unfold mdQ; rw [if_neg h0, if_pos h1]
      have q2 : mdR a b c = a * b % c := by unfold mdR; rw [if_neg h0, if_pos h1]
      have q3 : mdE a b c = 0 := by unfold mdE; rw [if_neg h0, if_pos h1]
      rw [q1, q2, q3]
      have C := bits_Mul64 a b w ha hb
      have D := bits_Div64 (mulHi a b) (mulLo a b) c w (mulHi_is a b ha hb) (mulLo_is a b) hc h1
      rw [mul_join] at D
      have HC := hidMk C
      have HD := hidMk D
      clear C D q1 q2 q3
      generalize mulHi a b = H at *
      generalize mulLo a b = L at *
      go_enter Try.func26, Try.ntmps26
      go_wp2_with fail
      refine HC.out.mono ?_
      rintro e w1 ⟨rfl, rfl⟩
      go_wp2_with fail
      refine HD.out.mono ?_
      rintro e w2 ⟨rfl, hk⟩
      go_wp2_with fail
      go_ret3
      exact ⟨rfl, hk⟩
    · have q1 : mdQ a b c = 0 := by unfold mdQ; rw [if_neg h0, if_neg h1]
      have q2 : mdR a b c = 0 := by unfold mdR; rw [if_neg h0, if_neg h1]
      have q3 : mdE a b c = 8 := by unfold mdE; rw [if_neg h0, if_neg h1]
      rw [q1, q2, q3]
      have HC := hidMk (bits_Mul64 a b w ha hb)
      clear q1 q2 q3
      generalize mulHi a b = H at *
      generalize mulLo a b = L at *
      go_enter Try.func26, Try.ntmps26
      go_wp2_with fail
      refine HC.out.mono ?_
      rintro e w1 ⟨rfl, rfl⟩
      go_wp2_with fail
      go_ret3
      exact ⟨rfl, Kept.refl _⟩
end Go.Proofs.Ytldfnlkineehbaa
