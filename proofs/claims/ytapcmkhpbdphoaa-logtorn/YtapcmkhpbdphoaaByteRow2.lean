/- Rows of bytes, parts of them. -/
import Derived.Test.YtapcmkhpbdphoaaByteRow
namespace Go.Proofs.Ytapcmkhpbdphoaa
open Go.RowKit
set_option linter.unusedSimpArgs false
set_option linter.unusedVariables false

theorem sl_take {w : World} {b o n : Nat} {l : List Int} (h : Sl .u8 w (some ⟨b, o, none⟩) n l) (k : Nat) (hk : k ≤ n) : Sl .u8 w (some ⟨b, o, none⟩) k (l.take k) := by
  have hl := h.len
  refine ⟨by rw [List.length_take]; omega, Nat.le_trans hk h.big, fun hp => ?_⟩
  obtain ⟨b', o', e, h2, h3⟩ := h.cells (by omega)
  cases e
  refine ⟨b, o, rfl, h2, fun i hi => ?_⟩
  rw [h3 i (by omega), List.getD_eq_getElem?_getD, List.getD_eq_getElem?_getD, List.getElem?_take_of_lt hi]
theorem sl_drop {w : World} {b o n : Nat} {l : List Int} (h : Sl .u8 w (some ⟨b, o, none⟩) n l) (k : Nat) (hk : k ≤ n) : Sl .u8 w (some ⟨b, o + k, none⟩) (n - k) (l.drop k) := by
  have hl := h.len
  refine ⟨by rw [List.length_drop]; omega, Nat.le_trans (Nat.sub_le _ _) h.big, fun hp => ?_⟩
  obtain ⟨b', o', e, h2, h3⟩ := h.cells (by omega)
  cases e
  refine ⟨b, o + k, rfl, h2, fun i hi => ?_⟩
  rw [Nat.add_assoc, h3 (k + i) (by omega), List.getD_eq_getElem?_getD, List.getD_eq_getElem?_getD, List.getElem?_drop]
theorem sl_none {w : World} {a : Option Addr} {l : List Int} (h : l = []) : Sl .u8 w a 0 l := by
  subst h
  exact ⟨rfl, Nat.zero_le _, fun hp => absurd hp (by omega)⟩

theorem Owned.kept {w0 w w' : World} {v : Value} {l : List Int} (h : Owned w0 w v l) (k : Kept w w') : Owned w0 w' v l := by
  obtain ⟨h0, h1 | ⟨g, cap, cur, hv, hb, hheap, r⟩⟩ := h
  · exact ⟨h0, .inl h1⟩
  · refine ⟨h0, .inr ⟨g, cap, cur, hv, hb, ?_, r⟩⟩
    rw [k.block g (by
      by_cases hlt : g < w.heap.size
      · exact hlt
      · rw [Array.getElem?_eq_none (by omega)] at hheap; cases hheap)]
    exact hheap
theorem Owned.but {w0 w w' : World} {b : Nat} {g n c : Nat} {l : List Int} (h : Owned w0 w (.slice (some ⟨g, 0, none⟩) n c) l) (k : But b w w') (hne : g ≠ b) : Owned w0 w' (.slice (some ⟨g, 0, none⟩) n c) l := by
  obtain ⟨h0, ⟨e, _⟩ | ⟨g', cap, cur, hv, hb, hheap, r⟩⟩ := h
  · cases e
  · cases hv
    refine ⟨h0, .inr ⟨g, c, cur, rfl, hb, ?_, r⟩⟩
    rw [k.block g (by
      by_cases hlt : g < w.heap.size
      · exact hlt
      · rw [Array.getElem?_eq_none (by omega)] at hheap; cases hheap) hne]
    exact hheap
/-- An own row that is not empty. -/
theorem owned_at {w0 w : World} {v : Value} {l : List Int} (h : Owned w0 w v l) (hp : 0 < l.length) : ∃ g c, v = .slice (some ⟨g, 0, none⟩) l.length c ∧ w0.heap.size ≤ g ∧ g < w.heap.size := by
  have h' := h
  obtain ⟨h0, ⟨e, hz⟩ | ⟨g, cap, cur, hv, hb, hheap, r⟩⟩ := h
  · omega
  · refine ⟨g, cap, hv, hb, ?_⟩
    by_cases hlt : g < w.heap.size
    · exact hlt
    · rw [Array.getElem?_eq_none (by omega)] at hheap; cases hheap
theorem owned_slx {w0 w : World} {a : Option Addr} {n c : Nat} {l : List Int} (h : Owned w0 w (.slice a n c) l) (hn : l.length = n) (hm : n ≤ maxLen) : Sl .u8 w a n l := by
  obtain ⟨a', c', e, hs, _⟩ := owned_sl h (by omega)
  cases e
  rw [hn] at hs
  exact hs
theorem app_isB {l m : List Int} (h1 : ∀ x ∈ l, isB x) (h2 : ∀ x ∈ m, isB x) : ∀ x ∈ l ++ m, isB x := by
  intro x hx
  rcases List.mem_append.1 hx with hx | hx
  · exact h1 x hx
  · exact h2 x hx
end Go.Proofs.Ytapcmkhpbdphoaa
