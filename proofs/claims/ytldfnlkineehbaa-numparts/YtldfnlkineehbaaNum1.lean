/- The contracts of num.Add, num.Sub, num.Neg, num.Diff, num.Off and of their definitions' helpers that make no slice. -/
import Derived.Test.YtldfnlkineehbaaChecked
import Derived.Test.YtldfnlkineehbaaMathNum
namespace Go.Proofs.Ytldfnlkineehbaa
open Go.RowKit
set_option linter.unusedSimpArgs false
set_option linter.unusedVariables false

theorem add_yes (a b : Int) (ha : isI a) (hb : isI b) (h : (!decide (wrap64 (a + b) < a) == decide (b < 0)) = false) : wrap64 (a + b) = fitV (a + b) ∧ 0 = fitE (a + b) := by
  have : isI (a + b) := by unfold isI wrap64 at *; simp at h; by_cases hb : b < 0 <;> simp [hb] at h <;> omega
  rw [fitV_in this, fitE_in this]; refine ⟨?_, rfl⟩
  unfold isI at this; unfold wrap64; omega
theorem add_no (a b : Int) (ha : isI a) (hb : isI b) (h : (!decide (wrap64 (a + b) < a) == decide (b < 0)) = true) : 0 = fitV (a + b) ∧ 8 = fitE (a + b) := by
  have : ¬ isI (a + b) := by unfold isI wrap64 at *; simp at h; by_cases hb : b < 0 <;> simp [hb] at h <;> omega
  rw [fitV_out this, fitE_out this]; exact ⟨rfl, rfl⟩
theorem sub_yes (a b : Int) (ha : isI a) (hb : isI b) (h : (!decide (a < wrap64 (a - b)) == decide (b < 0)) = false) : wrap64 (a - b) = fitV (a - b) ∧ 0 = fitE (a - b) := by
  have : isI (a - b) := by unfold isI wrap64 at *; simp at h; by_cases hb : b < 0 <;> simp [hb] at h <;> omega
  rw [fitV_in this, fitE_in this]; refine ⟨?_, rfl⟩
  unfold isI at this; unfold wrap64; omega
theorem sub_no (a b : Int) (ha : isI a) (hb : isI b) (h : (!decide (a < wrap64 (a - b)) == decide (b < 0)) = true) : 0 = fitV (a - b) ∧ 8 = fitE (a - b) := by
  have : ¬ isI (a - b) := by unfold isI wrap64 at *; simp at h; by_cases hb : b < 0 <;> simp [hb] at h <;> omega
  rw [fitV_out this, fitE_out this]; exact ⟨rfl, rfl⟩

theorem num_Add (a b : Int) (w : World) (ha : isI a) (hb : isI b) :
    Calls Try.prog 9 #[.int .i64 a, .int .i64 b] w fun e w' => e = .returned (.tuple #[.int .i64 (fitV (a + b)), .int .i64 (fitE (a + b))]) ∧ w' = w := by
  go_enter Try.func9, Try.ntmps9
  go_wp2
  · have h := add_no a b ha hb ‹_›
    go_ret2
    exact ⟨ret_two h.1 h.2, rfl⟩
  · have h := add_yes a b ha hb ‹_›
    go_ret2
    exact ⟨ret_two h.1 h.2, rfl⟩

theorem num_Sub (a b : Int) (w : World) (ha : isI a) (hb : isI b) :
    Calls Try.prog 11 #[.int .i64 a, .int .i64 b] w fun e w' => e = .returned (.tuple #[.int .i64 (fitV (a - b)), .int .i64 (fitE (a - b))]) ∧ w' = w := by
  go_enter Try.func11, Try.ntmps11
  go_wp2
  · have h := sub_no a b ha hb ‹_›
    go_ret2
    exact ⟨ret_two h.1 h.2, rfl⟩
  · have h := sub_yes a b ha hb ‹_›
    go_ret2
    exact ⟨ret_two h.1 h.2, rfl⟩

theorem num_Neg (a : Int) (w : World) (ha : isI a) :
    Calls Try.prog 13 #[.int .i64 a] w fun e w' => e = .returned (.tuple #[.int .i64 (fitV (-a)), .int .i64 (fitE (-a))]) ∧ w' = w := by
  go_enter Try.func13, Try.ntmps13
  go_wp2_with (go_at_call 11; refine (num_Sub _ _ _ (by unfold isI; omega) ha).mono ?_; rintro e w' ⟨rfl, rfl⟩)
  go_ret2
  exact ⟨rfl, rfl⟩

def far (a b : Int) : Int := if a < b then b - a else a - b
theorem far_is (a b : Int) (ha : isI a) (hb : isI b) : isU (far a b) := by unfold isI isU far at *; split <;> omega
theorem far_lt (a b : Int) (ha : isI a) (hb : isI b) (h : a < b) : IntKind.u64.wrap (IntKind.u64.wrap b - IntKind.u64.wrap a) = far a b := by
  simp only [IntKind.wrap_u64]; unfold isI far at *; rw [if_pos h]; omega
theorem far_ge (a b : Int) (ha : isI a) (hb : isI b) (h : b ≤ a) : IntKind.u64.wrap (IntKind.u64.wrap a - IntKind.u64.wrap b) = far a b := by
  simp only [IntKind.wrap_u64]; unfold isI far at *; rw [if_neg (by omega)]; omega

theorem num_Diff (a b : Int) (w : World) (ha : isI a) (hb : isI b) :
    Calls Try.prog 16 #[.int .i64 a, .int .i64 b] w fun e w' => e = .returned (.tuple #[.int .u64 (far a b), .bool (decide (a < b))]) ∧ w' = w := by
  go_enter Try.func16, Try.ntmps16
  go_wp2
  · have h : a < b := by assumption
    go_ret2
    exact ⟨ret_ib (far_lt a b ha hb h) (by simp [h]), rfl⟩
  · have h : b ≤ a := by assumption
    go_ret2
    exact ⟨ret_ib (far_ge a b ha hb h) (by simp; omega), rfl⟩
theorem ref_Diff (a b : Int) (w : World) (ha : isI a) (hb : isI b) :
    Calls Try.prog 17 #[.int .i64 a, .int .i64 b] w fun e w' => e = .returned (.tuple #[.int .u64 (far a b), .bool (decide (a < b))]) ∧ w' = w := by
  go_enter Try.func17, Try.ntmps17
  go_wp2
  · have h : a < b := by assumption
    go_ret2
    exact ⟨ret_ib (far_lt a b ha hb h) (by simp [h]), rfl⟩
  · have h : b ≤ a := by assumption
    go_ret2
    exact ⟨ret_ib (far_ge a b ha hb h) (by simp; omega), rfl⟩
end Go.Proofs.Ytldfnlkineehbaa
