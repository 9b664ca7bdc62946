/- The definition's tree: Span. -/
import Derived.Test.YtofppldiipjllaaRefTree6
namespace Go.Proofs.Ytofppldiipjllaa
open Go.RowKit Go.Maps
set_option linter.unusedSimpArgs false
set_option linter.unusedVariables false

theorem idx_stop {α : Type} {p : α → Bool} {L : List α} {k : Nat} (hk : k ≤ L.length) (h : ∀ t (ht : t < L.length), t < k → p L[t] = false) (hs : ∀ (ht : k < L.length), p L[k] = true) : L.findIdx p = k := by
  by_cases e : k < L.length
  · rw [List.findIdx_eq e]
    exact ⟨hs e, fun t ht => h t (by omega) ht⟩
  · have e2 : k = L.length := by omega
    subst e2
    rw [List.findIdx_eq_length]
    intro x hx
    obtain ⟨t, ht, rfl⟩ := List.getElem_of_mem hx
    exact h t ht ht
theorem idx_drop {α : Type} {p : α → Bool} {L : List α} {f k : Nat} (hf : f ≤ k) (hk : k ≤ L.length) (h : ∀ t (ht : t < L.length), f ≤ t → t < k → p L[t] = true) (hs : ∀ (ht : k < L.length), p L[k] = false) : f + (L.drop f).findIdx (fun x => !p x) = k := by
  have : (L.drop f).findIdx (fun x => !p x) = k - f := by
    refine idx_stop (by simp; omega) (fun t ht h2 => ?_) (fun ht => ?_)
    · simp at ht
      rw [List.getElem_drop, h (f + t) (by omega) (by omega) (by omega)]
      rfl
    · simp at ht
      have e : f + (k - f) = k := by omega
      rw [List.getElem_drop]
      simp only [e]
      rw [hs (by omega)]
      rfl
  omega
end Go.Proofs.Ytofppldiipjllaa
