/- The walk of the law NumDiffs. -/
import Derived.Test.YtldfnlkineehbaaNum5
namespace Go.Proofs.Ytldfnlkineehbaa
open Go.RowKit
set_option linter.unusedSimpArgs false
set_option linter.unusedVariables false

theorem off_back (a b : Int) : off b (far a b) (decide (a < b)) = a := by
  unfold off far
  by_cases h : a < b <;> simp [h] <;> omega

theorem num_Off_back (a b : Int) (w : World) (ha : isI a) (hb : isI b) :
    Calls Try.prog 18 #[.int .i64 b, .int .u64 (far a b), .bool (decide (a < b))] w fun e w' => e = .returned (.tuple #[.int .i64 a, .int .i64 0]) ∧ w' = w := by
  have h := num_Off b (far a b) (decide (a < b)) w hb (far_is a b ha hb)
  rw [off_back, fitV_in ha, fitE_in ha] at h
  exact h

theorem law_NumDiffs (a b f : Int) (below : Bool) (w : World) (ha : isI a) (hb : isI b) (hf : isU f) :
    Calls Try.prog 4 #[.int .i64 a, .int .i64 b, .int .u64 f, .bool below] w fun e w' => e = .returned (.bool true) ∧ Below w.heap.size w w' := by
  go_enter Try.func4, Try.ntmps4
  go_wp2_with fail
  refine (num_Diff _ _ _ ha hb).mono ?_
  rintro e w1 ⟨rfl, rfl⟩
  go_wp2_with fail
  refine (ref_Diff _ _ _ ha hb).mono ?_
  rintro e w2 ⟨rfl, rfl⟩
  go_wp2_with fail
  refine (num_Off _ _ _ _ ha hf).mono ?_
  rintro e w3 ⟨rfl, rfl⟩
  go_wp2_with fail
  refine (ref_Off _ _ _ _ ha hf).mono ?_
  rintro e w4 ⟨rfl, k4⟩
  go_wp2_with fail
  refine (num_Off_back _ _ _ ha hb).mono ?_
  rintro e w5 ⟨rfl, rfl⟩
  go_wp2_with fail
  refine (law_known _).mono ?_
  rintro e w7 ⟨rfl, k7⟩
  go_wp2_with fail
  go_ret
  exact ⟨rfl, k4.trans k7⟩
end Go.Proofs.Ytldfnlkineehbaa
