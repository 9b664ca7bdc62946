/- Slices that a call makes by append: what they hold, as a slice of integers. -/
import Derived.Test.YtbhojgodkblflaaMathNum
import Derived.ProofKit
import Derived.OpenShut
namespace Go.Proofs.Ytbhojgodkblflaa
open Go.RowKit
set_option linter.unusedSimpArgs false
set_option linter.unusedVariables false

theorem own_ge {w : World} {base : Nat} {e : TypeId} {size n : Nat} {v : Value} {xs : List Value} (h : w.ownsRow base e size v n xs) : ∀ k, v.ownBlock = some k → base ≤ k := by
  intro k hk
  obtain ⟨_, h | ⟨g, cap, cur, rfl, hb, _⟩⟩ := h
  · obtain ⟨rfl, _⟩ := h
    simp [Value.ownBlock] at hk
  · simp [Value.ownBlock] at hk
    omega
theorem kept_grown {a w w' : World} {e : TypeId} {size n : Nat} {v : Value} {xs : List Value} (h : Kept a w) (ho : w.ownsRow a.heap.size e size v n xs) (hg : w.grownBy w' v.ownBlock) : Kept a w' :=
  Below.grown h hg h.size (own_ge ho)
theorem own_sl {w : World} {base : Nat} {e : TypeId} {v : Value} {k : IntKind} {l : List Int} {n : Nat} (hn : l.length = n) (hm : n ≤ maxLen) (h : w.ownsRow base e 1 v n (l.map (Value.int k))) :
    ∃ a cap, v = .slice a n cap ∧ Sl k w a n l := by
  have h' := h
  obtain ⟨_, ⟨rfl, rfl⟩ | ⟨g, cap, cur, rfl, hb, hheap, hc, hcm, hsz, htk⟩⟩ := h
  · exact ⟨_, _, rfl, ⟨hn, hm, fun hp => absurd hp (by omega)⟩⟩
  · refine ⟨_, _, rfl, ⟨hn, hm, fun hp => ⟨g, 0, rfl, ?_, fun i hi => ?_⟩⟩⟩
    · by_cases hlt : g < w.heap.size
      · exact hlt
      · rw [Array.getElem?_eq_none (by omega)] at hheap; cases hheap
    · rw [Nat.zero_add, h'.cellAt i (by omega)]
      simp [List.getElem?_map, List.getElem?_eq_getElem (show i < l.length by omega), List.getD]
theorem cell_lt {w : World} {p : Addr} {v : Value} (h : w.cell? p = some v) : p.block < w.heap.size := by
  by_cases hlt : p.block < w.heap.size
  · exact hlt
  · simp only [World.cell?] at h
    rw [Array.getElem?_eq_none (by omega)] at h
    cases h
/-- A slice of integers that came in. -/
theorem isRow_sl {k : IntKind} {w : World} {a : Option Addr} {len cap : Nat} {zs : List Int}
    (h : (a = none ∧ len = 0 ∧ cap = 0 ∧ zs = []) ∨ ∃ x, a = some x ∧ len ≤ cap ∧ cap ≤ maxLen ∧ zs.length = cap ∧ (∀ i, i < zs.length → w.cell? (x.add i) = some (.int k (zs.getD i 0))) ∧ ∀ n ∈ zs, (Lit.int k n).wf = true) :
    ∃ l, Sl k w a len l ∧ ∀ n ∈ l, (Lit.int k n).wf = true := by
  rcases h with ⟨rfl, rfl, rfl, rfl⟩ | ⟨x, rfl, h1, h2, h3, h4, h5⟩
  · exact ⟨[], ⟨rfl, Nat.zero_le _, fun hp => absurd hp (by omega)⟩, by simp⟩
  · refine ⟨zs.take len, ⟨by simp; omega, by omega, fun hp => ?_⟩, fun n hn => h5 n (List.mem_of_mem_take hn)⟩
    obtain ⟨b, off, spot⟩ := x
    have hspot : spot = none := by simpa [Addr.add] using World.cell?_spot (h4 0 (by omega))
    subst hspot
    refine ⟨b, off, rfl, cell_lt (p := ⟨b, off, none⟩) (by simpa [Addr.add] using h4 0 (by omega)), fun i hi => ?_⟩
    have h := h4 i (by omega)
    rw [Go.WideShapes.add_plain] at h
    rw [h, List.getD_eq_getElem?_getD, List.getD_eq_getElem?_getD, List.getElem?_take_of_lt hi]
end Go.Proofs.Ytbhojgodkblflaa
