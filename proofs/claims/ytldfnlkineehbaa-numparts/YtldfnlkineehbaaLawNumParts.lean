/- The walk of the law NumParts. -/
import Derived.Test.YtldfnlkineehbaaMulDivRef
import Derived.Test.YtldfnlkineehbaaNum5
namespace Go.Proofs.Ytldfnlkineehbaa
open Go.RowKit
set_option linter.unusedSimpArgs false
set_option linter.unusedVariables false

theorem parts_sum (a b c : Int) (ha : isU a) (hb : isU b) (hc : isU c) (h0 : c ≠ 0) (h1 : mulHi a b < c) :
    isU (a * b / c) ∧ 0 ≤ a * b % c ∧ a * b % c < c ∧
    (IntKind.u64.wrap (mulLo (a * b / c) c + a * b % c) < mulLo (a * b / c) c → IntKind.u64.wrap (mulHi (a * b / c) c + 1) = mulHi a b) ∧
    (mulLo (a * b / c) c ≤ IntKind.u64.wrap (mulLo (a * b / c) c + a * b % c) → mulHi (a * b / c) c = mulHi a b) ∧
    IntKind.u64.wrap (mulLo (a * b / c) c + a * b % c) = mulLo a b := by
  have hj := mul_join a b
  have hl := mulLo_is a b
  have hh := mulHi_is a b ha hb
  have hm := Int.mul_ediv_add_emod (a * b) c
  have hp : 0 ≤ a * b := Int.mul_nonneg ha.1 hb.1
  have c0 := hc.1
  have c1 := hc.2
  have r0 := Int.emod_nonneg (a * b) h0
  have r1 := Int.emod_lt_of_pos (a * b) (show 0 < c by omega)
  have q0 : 0 ≤ a * b / c := Int.ediv_nonneg hp c0
  have q1 : a * b / c < 18446744073709551616 := by
    refine Int.ediv_lt_of_lt_mul (by omega) ?_
    unfold isU at *
    omega
  refine ⟨⟨q0, by omega⟩, r0, r1, ?_⟩
  have e : mulHi (a * b / c) c = c * (a * b / c) / 18446744073709551616 ∧ mulLo (a * b / c) c = c * (a * b / c) % 18446744073709551616 := by
    unfold mulHi mulLo; rw [Int.mul_comm]; exact ⟨rfl, rfl⟩
  rw [e.1, e.2]
  simp only [mulHi, mulLo, IntKind.wrap_u64, isU] at *
  generalize a * b % c = r at *
  generalize c * (a * b / c) = p at *
  generalize a * b = n at *
  omega

set_option maxHeartbeats 1000000 in
theorem law_NumParts (a b c : Int) (w : World) (ha : isU a) (hb : isU b) (hc : isU c) :
    Calls Try.prog 6 #[.int .u64 a, .int .u64 b, .int .u64 c] w fun e w' => e = .returned (.bool true) ∧ Below w.heap.size w w' := by
  by_cases hok : c ≠ 0 ∧ mulHi a b < c
  · obtain ⟨h0, h1⟩ := hok
    have q1 : mdQ a b c = a * b / c := by unfold mdQ; rw [if_neg h0, if_pos h1]
    have q2 : mdR a b c = a * b % c := by unfold mdR; rw [if_neg h0, if_pos h1]
    have q3 : mdE a b c = 0 := by unfold mdE; rw [if_neg h0, if_pos h1]
    obtain ⟨p1, p2, p3, p4, p5, p6⟩ := parts_sum a b c ha hb hc h0 h1
    have A := fun w => num_MulDiv a b c w ha hb hc
    have B := fun w => ref_MulDiv a b c w ha hb hc
    rw [q1, q2, q3] at A B
    have C := fun w => ref_Times (a * b / c) c w p1 hc
    have D := fun w => ref_Times a b w ha hb
    generalize a * b / c = Q at *
    generalize a * b % c = R at *
    generalize mulHi Q c = H2 at *
    generalize mulLo Q c = L2 at *
    generalize mulHi a b = H1 at *
    generalize mulLo a b = L1 at *
    have HA := hidMk A
    have HB := hidMk B
    have HC := hidMk C
    have HD := hidMk D
    have P4 := hidMk p4
    have P5 := hidMk p5
    clear A B C D q1 q2 q3 p4 p5 h0 h1
    go_enter Try.func6, Try.ntmps6
    go_wp2_with fail
    refine (HA.out _).mono ?_
    rintro e w1 ⟨rfl, k1⟩
    go_wp2_with fail
    refine (HB.out _).mono ?_
    rintro e w2 ⟨rfl, rfl⟩
    go_wp2_with fail
    refine (HD.out _).mono ?_
    rintro e w3 ⟨rfl, rfl⟩
    go_wp2_with fail
    refine (HC.out _).mono ?_
    rintro e w4 ⟨rfl, rfl⟩
    by_cases hlow : L1 < L2
    · have p7 := P4.out (by rw [p6]; exact hlow)
      clear P4 P5
      go_wp2_with fail
      refine (law_known _).mono ?_
      rintro e w5 ⟨rfl, k5⟩
      go_wp2_with fail
      go_ret
      exact ⟨rfl, k1.trans k5⟩
    · have p7 := P5.out (by rw [p6]; omega)
      clear P4 P5 HC
      subst p7
      go_wp2_with fail
      refine (law_known _).mono ?_
      rintro e w5 ⟨rfl, k5⟩
      go_wp2_with fail
      go_ret
      exact ⟨rfl, k1.trans k5⟩
  · have hE : mdE a b c = 9 ∨ mdE a b c = 8 := by
      unfold mdE
      by_cases h0 : c = 0
      · left; rw [if_pos h0]
      · right; rw [if_neg h0, if_neg (fun h => hok ⟨h0, h⟩)]
    have A := fun w => num_MulDiv a b c w ha hb hc
    have B := fun w => ref_MulDiv a b c w ha hb hc
    generalize mdQ a b c = Q at *
    generalize mdR a b c = R at *
    generalize mdE a b c = E at *
    have HA := hidMk A
    have HB := hidMk B
    clear A B hok
    rcases hE with rfl | rfl
    all_goals
      go_enter Try.func6, Try.ntmps6
      go_wp2_with fail
      refine (HA.out _).mono ?_
      rintro e w1 ⟨rfl, k1⟩
      go_wp2_with fail
      refine (HB.out _).mono ?_
      rintro e w2 ⟨rfl, rfl⟩
      go_wp2_with fail
      refine (law_known _).mono ?_
      rintro e w5 ⟨rfl, k5⟩
      go_wp2_with fail
      go_ret
      exact ⟨rfl, k1.trans k5⟩
end Go.Proofs.Ytldfnlkineehbaa
