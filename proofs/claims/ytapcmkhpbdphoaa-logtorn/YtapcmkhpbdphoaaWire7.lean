/- Readers: within, Num, Count, Text. -/
import Derived.Test.YtapcmkhpbdphoaaWire6
namespace Go.Proofs.Ytapcmkhpbdphoaa
open Go.RowKit
set_option linter.unusedSimpArgs false
set_option linter.unusedVariables false

theorem within_nil (lo hi : Int) (w : World) : Calls Try.prog 69 #[.pointer none, .int .i64 lo, .int .i64 hi] w fun e w' => e = .returned (.int .i64 0) ∧ w' = w := by
  go_enter Try.func69, Try.ntmps69
  go_wp2_with (go_at_call 70; refine (ahead_nil _ _ _).mono ?_; rintro e w1 ⟨rfl, rfl⟩)
  go_ret
  exact ⟨rfl, rfl⟩
theorem num_nil (w : World) : Calls Try.prog 66 #[.pointer none] w fun e w' => e = .returned (.int .i64 0) ∧ w' = w := by
  go_enter Try.func66, Try.ntmps66
  go_wp2_with (go_at_call 69; refine (within_nil _ _ _).mono ?_; rintro e w1 ⟨rfl, rfl⟩)
  go_ret
  exact ⟨rfl, rfl⟩
theorem outS_zero {l : List Int} {y lo hi : Int} : outS l y lo hi = 0 ↔ outE l y lo hi ≠ 0 := by
  unfold outS
  by_cases h : outE l y lo hi = 0
  · rw [if_pos h]
    have he : numE l = 0 := by
      unfold outE at h
      by_cases hy : y ≠ 0
      · rw [if_pos hy] at h; omega
      · rw [if_neg hy] at h
        by_cases hq : numE l ≠ 0
        · rw [if_pos hq] at h; omega
        · omega
    rcases numE_cases l with ⟨_, hsz⟩ | ⟨he2, _⟩
    · simp [h]; omega
    · omega
  · rw [if_neg h]; simp [h]

set_option maxHeartbeats 400000 in
theorem within_at {w : World} {B b : Nat} {l : List Int} {y : Int} (h : Rd w B b l y) (lo hi : Int) :
    Calls Try.prog 69 #[.pointer (some ⟨b, 0, none⟩), .int .i64 lo, .int .i64 hi] w fun e w' => e = .returned (.int .i64 (outV l y lo hi)) ∧ Rd w' B b (l.drop (outS l y lo hi)) (outE l y lo hi) ∧ But b w w' := by
  have HR := hidMk h
  have hle := outS_le l y lo hi
  have HC := hidMk (ahead_at h lo hi)
  clear h
  by_cases hs : outS l y lo hi = 0
  · have hv : outV l y lo hi = 0 := by unfold outV; rw [if_neg (outS_zero.1 hs)]
    have HV := hidMk hv
    rw [hs, hv] at HC
    rw [hs, hv]
    generalize outE l y lo hi = q at *
    clear hs hv hle HV
    go_enter Try.func69, Try.ntmps69
    go_wp2_with (go_at_call 70; refine HC.out.mono ?_; rintro e w1 ⟨rfl, r1, b1⟩)
    go_ret
    exact ⟨rfl, r1, b1⟩
  · generalize outE l y lo hi = q at *
    generalize outV l y lo hi = v at *
    generalize outS l y lo hi = m at *
    have hm : ((m : Int) == 0) = false := by simp; omega
    go_enter Try.func69, Try.ntmps69
    go_wp2_with (first | (go_at_call 70; refine HC.out.mono ?_; rintro e w1 ⟨rfl, r1, b1⟩) | (go_at_call 71; refine (cut_at r1 m hle).mono ?_; rintro e w2 ⟨a2, rfl, s2, r2, b2⟩))
    go_ret
    exact ⟨rfl, r2, b1.trans b2⟩

def numOE (l : List Int) (y : Int) : Int := if y ≠ 0 then y else numE l
def numOV (l : List Int) (y : Int) : Int := if numOE l y = 0 then numV l else 0
def numOS (l : List Int) (y : Int) : Nat := if numOE l y = 0 then numS l else 0
theorem outE_num {l : List Int} (hb : ∀ x ∈ l, isB x) (y : Int) : outE l y (-9223372036854775808) 9223372036854775807 = numOE l y := by
  unfold outE numOE
  have hv := numV_is hb
  unfold isI at hv
  by_cases hy : y ≠ 0
  · rw [if_pos hy, if_pos hy]
  · rw [if_neg hy, if_neg hy]
    by_cases he : numE l ≠ 0
    · rw [if_pos he]
    · rw [if_neg he, if_neg (by omega)]; omega
theorem num_at {w : World} {B b : Nat} {l : List Int} {y : Int} (h : Rd w B b l y) :
    Calls Try.prog 66 #[.pointer (some ⟨b, 0, none⟩)] w fun e w' => e = .returned (.int .i64 (numOV l y)) ∧ Rd w' B b (l.drop (numOS l y)) (numOE l y) ∧ But b w w' := by
  have hc := within_at h (-9223372036854775808) 9223372036854775807
  have he := outE_num h.ok y
  have e1 : outV l y (-9223372036854775808) 9223372036854775807 = numOV l y := by unfold outV numOV; rw [he]
  have e2 : outS l y (-9223372036854775808) 9223372036854775807 = numOS l y := by unfold outS numOS; rw [he]
  rw [e1, e2, he] at hc
  have HC := hidMk hc
  clear hc h he e1 e2
  go_enter Try.func66, Try.ntmps66
  go_wp2_with (go_at_call 69; refine HC.out.mono ?_; rintro e w1 ⟨rfl, r1, b1⟩)
  go_ret
  exact ⟨rfl, r1, b1⟩

def textE (l : List Int) (y : Int) : Int := if outE l y 0 8000 ≠ 0 then outE l y 0 8000 else if (l.length : Int) - numS l < numV l then 7 else 0
def textV (l : List Int) (y : Int) : List Int := if textE l y = 0 then (l.drop (numS l)).take (numV l).toNat else []
def textR (l : List Int) (y : Int) : List Int := if textE l y = 0 then (l.drop (numS l)).drop (numV l).toNat else l

end Go.Proofs.Ytapcmkhpbdphoaa
