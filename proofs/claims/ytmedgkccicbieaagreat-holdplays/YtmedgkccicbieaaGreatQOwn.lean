/- Slices that a call makes by append: what they hold, as a slice of integers. -/
import Derived.Test.YtmedgkccicbieaaGreatQMathNum
import Derived.ProofKit
import Derived.OpenShut
namespace Go.Proofs.YtmedgkccicbieaaGreat
open Go.RowKit
set_option linter.unusedSimpArgs false
set_option linter.unusedVariables false

theorem own_sl {w : World} {base : Nat} {e : TypeId} {v : Value} {k : IntKind} {l : List Int} {n : Nat} (hn : l.length = n) (hm : n ≤ maxLen) (h : w.ownsRow base e 1 v n (l.map (Value.int k))) :
    ∃ a cap, v = .slice a n cap ∧ Sl k w a n l := by
  have h' := h
  obtain ⟨_, ⟨rfl, rfl⟩ | ⟨g, cap, cur, rfl, hb, hheap, hc, hcm, hsz, htk⟩⟩ := h
  · exact ⟨_, _, rfl, ⟨hn, hm, fun hp => absurd hp (by omega)⟩⟩
  · refine ⟨_, _, rfl, ⟨hn, hm, fun hp => ⟨g, 0, rfl, ?_, fun i hi => ?_⟩⟩⟩
    · by_cases hlt : g < w.heap.size
      · exact hlt
      · rw [Array.getElem?_eq_none (by omega)] at hheap; cases hheap
    · rw [Nat.zero_add, h'.cellAt i (by omega)]
      simp [List.getElem?_map, List.getElem?_eq_getElem (show i < l.length by omega), List.getD]
theorem cell_lt {w : World} {p : Addr} {v : Value} (h : w.cell? p = some v) : p.block < w.heap.size := by
  by_cases hlt : p.block < w.heap.size
  · exact hlt
  · simp only [World.cell?] at h
    rw [Array.getElem?_eq_none (by omega)] at h
    cases h
end Go.Proofs.YtmedgkccicbieaaGreat
