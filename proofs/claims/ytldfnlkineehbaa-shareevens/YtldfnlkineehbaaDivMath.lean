/- The arithmetic of a long division by digits of 32 bits. No program is named here. -/
import Derived.Test.YtldfnlkineehbaaMathNum
namespace Go.Proofs.Ytldfnlkineehbaa
open Go.RowKit
set_option linter.unusedSimpArgs false
set_option linter.unusedVariables false

/-- A divisor of two digits, the upper one at least half of what a digit can be; a dividend below it, and one digit more. -/
structure Norm (U d v1 v0 : Int) : Prop where
  u0 : 0 ≤ U
  ul : U < v1 * 4294967296 + v0
  d0 : 0 ≤ d
  dl : d < 4294967296
  a0 : 2147483648 ≤ v1
  al : v1 < 4294967296
  b0 : 0 ≤ v0
  bl : v0 < 4294967296
def digit (U d v1 v0 : Int) : Int := (U * 4294967296 + d) / (v1 * 4294967296 + v0)
def left (U d v1 v0 : Int) : Int := (U * 4294967296 + d) % (v1 * 4294967296 + v0)
structure DInv (U d v1 v0 Q R : Int) : Prop where
  eq : Q * v1 + R = U
  ge : digit U d v1 v0 ≤ Q

theorem digit_le {U d v1 v0 Q : Int} (n : Norm U d v1 v0) (h : U * 4294967296 + d < (Q + 1) * (v1 * 4294967296 + v0)) : digit U d v1 v0 ≤ Q := by
  obtain ⟨u0, ul, d0, dl, a0, al, b0, bl⟩ := n
  have hY : 0 < v1 * 4294967296 + v0 := by omega
  have := (Int.ediv_lt_iff_lt_mul hY).2 h
  unfold digit
  omega
theorem le_digit {U d v1 v0 Q : Int} (n : Norm U d v1 v0) (h : Q * (v1 * 4294967296 + v0) ≤ U * 4294967296 + d) : Q ≤ digit U d v1 v0 := by
  obtain ⟨u0, ul, d0, dl, a0, al, b0, bl⟩ := n
  have hY : 0 < v1 * 4294967296 + v0 := by omega
  exact (Int.le_ediv_iff_mul_le hY).2 h
theorem expand (Q v1 v0 : Int) : Q * (v1 * 4294967296 + v0) = Q * v1 * 4294967296 + Q * v0 := by rw [Int.mul_add, Int.mul_assoc]
theorem digit_small {U d v1 v0 : Int} (n : Norm U d v1 v0) : digit U d v1 v0 ≤ 4294967295 := by
  refine digit_le n ?_
  obtain ⟨u0, ul, d0, dl, a0, al, b0, bl⟩ := n
  omega
theorem digit_pos {U d v1 v0 : Int} (n : Norm U d v1 v0) : 0 ≤ digit U d v1 v0 := by
  refine le_digit n ?_
  obtain ⟨u0, ul, d0, dl, a0, al, b0, bl⟩ := n
  omega
theorem dinv_start {U d v1 v0 : Int} (n : Norm U d v1 v0) : DInv U d v1 v0 (U / v1) (U % v1) ∧ 0 ≤ U / v1 ∧ U / v1 ≤ 4294967297 ∧ 0 ≤ U % v1 ∧ U % v1 < v1 := by
  have n' := n
  obtain ⟨u0, ul, d0, dl, a0, al, b0, bl⟩ := n
  have hm := Int.emod_lt_of_pos U (show 0 < v1 by omega)
  have hm0 := Int.emod_nonneg U (show v1 ≠ 0 by omega)
  have he := Int.mul_ediv_add_emod U v1
  have hq0 : 0 ≤ U / v1 := Int.ediv_nonneg u0 (by omega)
  refine ⟨⟨by rw [Int.mul_comm]; exact he, ?_⟩, hq0, ?_, hm0, hm⟩
  · refine digit_le n' ?_
    rw [expand]
    have e1 : (U / v1 + 1) * v1 = v1 * (U / v1) + v1 := by rw [Int.add_mul, Int.one_mul, Int.mul_comm]
    have e2 : 0 ≤ (U / v1 + 1) * v0 := Int.mul_nonneg (by omega) b0
    rw [e1]
    generalize v1 * (U / v1) = a at *
    omega
  · have := (Int.ediv_lt_iff_lt_mul (show 0 < v1 by omega) (a := U) (b := 4294967298)).2 (by omega)
    omega
theorem dinv_down {U d v1 v0 Q R : Int} (n : Norm U d v1 v0) (h : DInv U d v1 v0 Q R) (t : 4294967296 ≤ Q ∨ 4294967296 * R + d < Q * v0) : DInv U d v1 v0 (Q - 1) (R + v1) ∧ 1 ≤ Q := by
  have hs := digit_small n
  have hp := digit_pos n
  have key : digit U d v1 v0 ≤ Q - 1 := by
    rcases t with t | t
    · omega
    · refine digit_le n ?_
      rw [show Q - 1 + 1 = Q by omega, expand]
      have := h.eq
      generalize Q * v1 = a at *
      generalize Q * v0 = b at *
      omega
  refine ⟨⟨?_, key⟩, by omega⟩
  rw [Int.sub_mul, Int.one_mul]
  have := h.eq
  omega
theorem dinv_stop {U d v1 v0 Q R : Int} (n : Norm U d v1 v0) (h : DInv U d v1 v0 Q R) (t : Q * v0 ≤ 4294967296 * R + d) : Q = digit U d v1 v0 := by
  have h1 := h.ge
  have h2 : Q ≤ digit U d v1 v0 := by
    refine le_digit n ?_
    rw [expand]
    have := h.eq
    generalize Q * v1 = a at *
    generalize Q * v0 = b at *
    omega
  omega
theorem dinv_break {U d v1 v0 Q R : Int} (n : Norm U d v1 v0) (h : DInv U d v1 v0 Q R) (hq0 : 0 ≤ Q) (hq : Q ≤ 4294967296) (t : 4294967296 ≤ R) : Q = digit U d v1 v0 := by
  refine dinv_stop n h ?_
  have h1 : Q * v0 ≤ 4294967296 * 4294967295 := Int.mul_le_mul hq (by have := n.bl; omega) n.b0 (by omega)
  have := n.d0
  omega
theorem small_mul {Q v : Int} (h0 : 0 ≤ Q) (h1 : Q < 4294967296) (v0 : 0 ≤ v) (v1 : v < 4294967296) : 0 ≤ Q * v ∧ Q * v < 18446744073709551616 := by
  have h2 : Q * v ≤ 4294967295 * 4294967295 := Int.mul_le_mul (by omega) (by omega) v0 (by omega)
  exact ⟨Int.mul_nonneg h0 v0, by omega⟩
/-- The test of the loop, with its wraps. -/
theorem test_eq {Q R d v0 : Int} (h0 : 0 ≤ Q) (h1 : Q < 4294967296) (r0 : 0 ≤ R) (r1 : R < 4294967296) (d0 : 0 ≤ d) (d1 : d < 4294967296) (v00 : 0 ≤ v0) (v01 : v0 < 4294967296) :
    IntKind.u64.wrap (Q * v0) = Q * v0 ∧ IntKind.u64.wrap (IntKind.u64.wrap (4294967296 * R) + d) = 4294967296 * R + d := by
  have := small_mul h0 h1 v00 v01
  simp only [IntKind.wrap_u64]
  generalize Q * v0 = b at *
  omega
/-- What is left behind a digit, with its wraps. -/
theorem left_eq {U d v1 v0 : Int} (n : Norm U d v1 v0) : IntKind.u64.wrap (IntKind.u64.wrap (IntKind.u64.wrap (U * 4294967296) + d) - IntKind.u64.wrap (digit U d v1 v0 * (v1 * 4294967296 + v0))) = left U d v1 v0 := by
  obtain ⟨u0, ul, d0, dl, a0, al, b0, bl⟩ := n
  have hY : 0 < v1 * 4294967296 + v0 := by omega
  have h1 := Int.emod_lt_of_pos (U * 4294967296 + d) hY
  have h2 := Int.emod_nonneg (U * 4294967296 + d) (show v1 * 4294967296 + v0 ≠ 0 by omega)
  have h3 := Int.mul_ediv_add_emod (U * 4294967296 + d) (v1 * 4294967296 + v0)
  simp only [IntKind.wrap_u64, digit, left]
  rw [Int.mul_comm ((U * 4294967296 + d) / (v1 * 4294967296 + v0))]
  generalize (v1 * 4294967296 + v0) * ((U * 4294967296 + d) / (v1 * 4294967296 + v0)) = a at *
  generalize (U * 4294967296 + d) % (v1 * 4294967296 + v0) = r at *
  omega
theorem left_norm {U d v1 v0 d' : Int} (n : Norm U d v1 v0) (h0 : 0 ≤ d') (h1 : d' < 4294967296) : Norm (left U d v1 v0) d' v1 v0 := by
  obtain ⟨u0, ul, d0, dl, a0, al, b0, bl⟩ := n
  have hY : 0 < v1 * 4294967296 + v0 := by omega
  have h1 := Int.emod_lt_of_pos (U * 4294967296 + d) hY
  have h2 := Int.emod_nonneg (U * 4294967296 + d) (show v1 * 4294967296 + v0 ≠ 0 by omega)
  exact ⟨h2, h1, h0, by assumption, a0, al, b0, bl⟩
/-- The first rest of a digit, with its wraps. -/
theorem rest_eq {U d v1 v0 : Int} (n : Norm U d v1 v0) : IntKind.u64.wrap (U - IntKind.u64.wrap (U / v1 * v1)) = U % v1 := by
  obtain ⟨u0, ul, d0, dl, a0, al, b0, bl⟩ := n
  have hm := Int.emod_lt_of_pos U (show 0 < v1 by omega)
  have hm0 := Int.emod_nonneg U (show v1 ≠ 0 by omega)
  have he := Int.mul_ediv_add_emod U v1
  rw [Int.mul_comm]
  simp only [IntKind.wrap_u64]
  generalize v1 * (U / v1) = a at *
  generalize U % v1 = r at *
  omega
/-- Two digits are the quotient; what is left behind the second is the rest. -/
theorem two_digits {U d d' v1 v0 : Int} (n : Norm U d v1 v0) :
    (U * 18446744073709551616 + d * 4294967296 + d') / (v1 * 4294967296 + v0) = digit U d v1 v0 * 4294967296 + digit (left U d v1 v0) d' v1 v0 ∧
    (U * 18446744073709551616 + d * 4294967296 + d') % (v1 * 4294967296 + v0) = left (left U d v1 v0) d' v1 v0 := by
  obtain ⟨u0, ul, d0, dl, a0, al, b0, bl⟩ := n
  have hY : 0 < v1 * 4294967296 + v0 := by omega
  have h3 := Int.mul_ediv_add_emod (U * 4294967296 + d) (v1 * 4294967296 + v0)
  have e : U * 18446744073709551616 + d * 4294967296 + d' = ((U * 4294967296 + d) % (v1 * 4294967296 + v0) * 4294967296 + d') + (v1 * 4294967296 + v0) * ((U * 4294967296 + d) / (v1 * 4294967296 + v0) * 4294967296) := by
    rw [← Int.mul_assoc]
    generalize (v1 * 4294967296 + v0) * ((U * 4294967296 + d) / (v1 * 4294967296 + v0)) = a at *
    generalize (U * 4294967296 + d) % (v1 * 4294967296 + v0) = r at *
    omega
  unfold digit left
  rw [e, Int.add_mul_ediv_left _ _ (by omega), Int.add_mul_emod_self_left]
  exact ⟨by omega, rfl⟩
end Go.Proofs.Ytldfnlkineehbaa
