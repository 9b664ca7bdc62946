/- Rows of integers in blocks of a call's own. -/
import Derived.Test.YtldfnlkineehbaaSort6
import Derived.Test.YtldfnlkineehbaaOwn
namespace Go.Proofs.Ytldfnlkineehbaa
open Go.RowKit
set_option linter.unusedSimpArgs false
set_option linter.unusedVariables false

structure Arr (k : IntKind) (w : World) (B n : Nat) (d : Nat → Int) : Prop where
  lt : B < w.heap.size
  cell : ∀ i, i < n → w.cell? ⟨B, i, none⟩ = some (.int k (d i))
  fr : ∀ i, i < n → w.frozen? ⟨B, i, none⟩ = false
theorem Arr.drew {k : IntKind} {w : World} {B n : Nat} {d : Nat → Int} (h : Arr k w B n d) : Arr k w.drew B n d := ⟨h.lt, h.cell, h.fr⟩
theorem Arr.drewN {k : IntKind} {w : World} {B n : Nat} {d : Nat → Int} (h : Arr k w B n d) (q : Nat) : Arr k (w.drewN q) B n d := ⟨h.lt, h.cell, h.fr⟩
theorem Arr.below {k : IntKind} {w w' : World} {B M n : Nat} {d : Nat → Int} (h : Arr k w B n d) (g : Below M w w') (hb : B < M) : Arr k w' B n d :=
  ⟨Nat.lt_of_lt_of_le h.lt g.size, fun i hi => (g.cell (p := ⟨B, i, none⟩) hb).trans (h.cell i hi), fun i hi => (g.frozen (p := ⟨B, i, none⟩) hb).trans (h.fr i hi)⟩
theorem Arr.kept {k : IntKind} {w w' : World} {B n : Nat} {d : Nat → Int} (h : Arr k w B n d) (g : Kept w w') : Arr k w' B n d := Arr.below h g h.lt
theorem Arr.eqv {k : IntKind} {w : World} {B n : Nat} {d e : Nat → Int} (h : Arr k w B n d) (he : ∀ i, i < n → e i = d i) : Arr k w B n e := ⟨h.lt, fun i hi => by rw [he i hi]; exact h.cell i hi, h.fr⟩
theorem Arr.set {k : IntKind} {w : World} {B n : Nat} {d : Nat → Int} (h : Arr k w B n d) (p : Nat) (hp : p < n) (x : Int) : Arr k (w.setCell ⟨B, p, none⟩ (.int k x)) B n (fun i => if i = p then x else d i) := by
  refine ⟨by simpa [World.setCell] using h.lt, fun i hi => ?_, fun i hi => by simpa using h.fr i hi⟩
  by_cases e : i = p
  · subst e
    rw [if_pos rfl]
    exact World.cell?_setCell_same _ _ _ (h.cell i hi)
  · rw [if_neg e]
    exact (World.cell?_setCell_other _ _ _ _ (by intro e'; simp only [Addr.mk.injEq] at e'; omega)).trans (h.cell i hi)
theorem Arr.other {k : IntKind} {w : World} {B C n : Nat} {d : Nat → Int} (h : Arr k w B n d) (hne : C ≠ B) (p : Nat) (v : Value) : Arr k (w.setCell ⟨C, p, none⟩ v) B n d := by
  refine ⟨by simpa [World.setCell] using h.lt, fun i hi => ?_, fun i hi => by simpa using h.fr i hi⟩
  exact (World.cell?_setCell_other _ _ _ _ (by intro e'; simp only [Addr.mk.injEq] at e'; omega)).trans (h.cell i hi)
def lst (n : Nat) (d : Nat → Int) : List Int := (List.range n).map d
theorem lst_len (n : Nat) (d : Nat → Int) : (lst n d).length = n := by simp [lst]
theorem lst_get (n : Nat) (d : Nat → Int) (i : Nat) (h : i < n) : (lst n d).getD i 0 = d i := by simp [lst, List.getD, h]
theorem lst_mem {n : Nat} {d : Nat → Int} {x : Int} (h : x ∈ lst n d) : ∃ i, i < n ∧ x = d i := by
  simp only [lst, List.mem_map, List.mem_range] at h
  obtain ⟨i, hi, rfl⟩ := h
  exact ⟨i, hi, rfl⟩
theorem Arr.sl {k : IntKind} {w : World} {B n : Nat} {d : Nat → Int} (h : Arr k w B n d) (hn : n ≤ maxLen) : Sl k w (some ⟨B, 0, none⟩) n (lst n d) :=
  ⟨lst_len n d, hn, fun _ => ⟨B, 0, rfl, h.lt, fun i hi => by rw [Nat.zero_add, lst_get n d i hi]; exact h.cell i hi⟩⟩
theorem AW.arr {w0 : World} {B n : Nat} {d : Nat → Int} {w : World} (h : AW w0 B n d w) : Arr .i64 w B n d := ⟨h.lt, h.cell, h.fr⟩
theorem Arr.aw {w0 w : World} {B n : Nat} {d : Nat → Int} (h : Arr .i64 w B n d) (g : Below B w0 w) : AW w0 B n d w := ⟨g, h.lt, h.cell, h.fr⟩
/-- A row that make has made. -/
theorem arr_made {k : IntKind} {w : World} {base e g n : Nat} (h : w.ownsRow base e 1 (.slice (some ⟨g, 0, none⟩) n n) n (madeCells #[.int k 0] n).toList) (hn : 0 < n) : Arr k w g n (fun _ => 0) := by
  have h' := h
  obtain ⟨hl, ⟨hv, hz⟩ | ⟨g', cap, cur, hv, hb, hheap, hc, hcm, hsz, htk⟩⟩ := h
  · omega
  · simp only [Value.slice.injEq, Option.some.injEq, Addr.mk.injEq] at hv
    obtain ⟨⟨rfl, _, _⟩, _, rfl⟩ := hv
    refine ⟨?_, fun i hi => ?_, fun i hi => ?_⟩
    · by_cases hlt : g < w.heap.size
      · exact hlt
      · rw [Array.getElem?_eq_none (by omega)] at hheap; cases hheap
    · rw [h'.cellAt i (by omega)]
      simp [madeCells, Nat.mod_one, hi]
    · simp [World.frozen?, hheap]
end Go.Proofs.Ytldfnlkineehbaa
