/- The reference's New of a catalogue. -/
import Derived.Test.YtofppldiipjllaaRefDims7
namespace Go.Proofs.Ytofppldiipjllaa
open Go.RowKit Go.Maps
set_option linter.unusedSimpArgs false
set_option linter.unusedVariables false

theorem idxS_le {l : List ByteArray} {s : ByteArray} {k : Nat} (hk : k < l.length) (h : l.getD k ByteArray.empty = s) : idxS l s ≤ k := by
  unfold idxS
  by_cases c : l.findIdx (fun x => decide (x = s)) ≤ k
  · exact c
  · have := List.not_of_lt_findIdx (p := fun x => decide (x = s)) (xs := l) (i := k) (by omega)
    have e : l.getD k ByteArray.empty = l[k] := by simp [List.getD, List.getElem?_eq_getElem hk]
    rw [e] at h
    simp [h] at this
/-- A name among those ahead of its place. -/
theorem idx_ahead {ds : List Dm} {k : Nat} (hk : k < ds.length) : (idxI (lbl (ds.take k)) (dmN ds k) = -1 ↔ ¬ idxI (lbl ds) (dmN ds k) < (k : Int)) := by
  have hl : (lbl ds).length = ds.length := by simp [lbl]
  have hl2 : (lbl (ds.take k)).length = k := by simp [lbl]; omega
  have hg := lbl_get ds k hk
  have h1 : idxS (lbl ds) (dmN ds k) ≤ k := idxS_le (by omega) hg
  have e1 : idxI (lbl ds) (dmN ds k) = idxS (lbl ds) (dmN ds k) := if_pos (by omega)
  have et : lbl (ds.take k) = (lbl ds).take k := by simp [lbl, List.map_take]
  rw [e1]
  constructor
  · intro h hlt
    have hn : idxS (lbl ds) (dmN ds k) < k := by omega
    have : idxS (lbl (ds.take k)) (dmN ds k) < (lbl (ds.take k)).length := by
      unfold idxS at hn ⊢
      rw [hl2, et]
      have hm : ∃ x, x ∈ (lbl ds).take k ∧ decide (x = dmN ds k) = true := by
        have hlt2 : (lbl ds).findIdx (fun x => decide (x = dmN ds k)) < (lbl ds).length := by omega
        have hp := List.findIdx_getElem (w := hlt2)
        refine ⟨(lbl ds)[(lbl ds).findIdx (fun x => decide (x = dmN ds k))], ?_, hp⟩
        rw [List.mem_take_iff_getElem]
        exact ⟨_, by omega, rfl⟩
      have := List.findIdx_lt_length.2 hm
      rw [List.length_take] at this
      omega
    unfold idxI at h
    rw [if_pos this] at h
    omega
  · intro h
    unfold idxI
    rw [if_neg]
    intro hlt
    have hx : idxS (lbl (ds.take k)) (dmN ds k) < k := by omega
    have hp : (lbl ds).getD (idxS (lbl (ds.take k)) (dmN ds k)) ByteArray.empty = dmN ds k := by
      have hp := List.findIdx_getElem (w := hlt)
      simp only [decide_eq_true_eq] at hp
      have e2 : (lbl (ds.take k)).getD (idxS (lbl (ds.take k)) (dmN ds k)) ByteArray.empty = dmN ds k := by
        unfold idxS at hlt ⊢
        rw [List.getD_eq_getElem?_getD, List.getElem?_eq_getElem hlt]
        exact hp
      rw [et] at e2 hx ⊢
      rw [List.getD_eq_getElem?_getD, List.getElem?_take_of_lt hx] at e2
      rw [List.getD_eq_getElem?_getD]
      exact e2
    have := idxS_le (l := lbl ds) (s := dmN ds k) (by omega) hp
    omega
theorem add_of_named {ds : List Dm} {k : Nat} (hk : k < ds.length) : (measE (lbl ds) k ≠ 0 → AddOk ds k (measE (lbl ds) k)) ∧ (measE (lbl ds) k = 0 → ∀ at_ er, NewIs (dmL ds k) at_ er → AddOk ds k er) := by
  have hg : msA (lbl ds) k = dmN ds k := lbl_get ds k hk
  have hi := idx_ahead hk
  unfold AddOk AddIs measE
  rw [hg]
  cases hn : nameB (dmN ds k) with
  | false => exact ⟨fun _ => .inl ⟨rfl, by simp⟩, fun h => by simp at h⟩
  | true =>
    simp only [if_true]
    by_cases c : idxI (lbl ds) (dmN ds k) < (k : Int)
    · rw [if_pos c]
      exact ⟨fun _ => .inr (.inl ⟨by first | rfl | trivial, fun e => (hi.1 e) c, rfl⟩), fun h => by omega⟩
    · rw [if_neg c]
      exact ⟨fun h => absurd rfl h, fun _ at_ er hN => .inr (.inr ⟨by first | rfl | trivial, hi.2 c, at_, hN⟩)⟩
def RNewPost (w : World) (ds : List Dm) (ms : List ByteArray) (lv sc : Int) (e : Ending) (w' : World) : Prop :=
  (∃ p rt, e = .returned (.tuple #[.pointer (some ⟨p, 0, none⟩), .int .i64 0, .int .i64 0]) ∧ CatIs ds ms lv sc 0 0 ∧ RDm w' p ds rt ms ∧ Kept w w') ∨
  ∃ at_ er, e = .returned (.tuple #[.pointer none, .int .i64 at_, .int .i64 er]) ∧ er ≠ 0 ∧ CatIs ds ms lv sc at_ er ∧ Kept w w'
end Go.Proofs.Ytofppldiipjllaa
