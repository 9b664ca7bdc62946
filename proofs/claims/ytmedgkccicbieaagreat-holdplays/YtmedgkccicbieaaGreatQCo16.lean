/- coord: slices.Backward over the four counts. · coord: parts. · coord: parts, walked. · coord: Cell. · coord: Leaf. · coord: Inside, Swap. · coord: a space that is not there. · coord: a tree of one member or more has a leaf. -/
import Derived.Test.YtmedgkccicbieaaGreatQCo8
import Derived.Deep.Heap
namespace Go.Proofs.YtmedgkccicbieaaGreat
open Go.RowKit Go.Maps Go.Shelf
set_option linter.unusedSimpArgs false
set_option linter.unusedVariables false
attribute [local go_sem] Oper.semAt_some

end Go.Proofs.YtmedgkccicbieaaGreat
namespace Go.Proofs.YtmedgkccicbieaaGreat
open Go.RowKit Go.Maps Go.Shelf
set_option linter.unusedSimpArgs false
set_option linter.unusedVariables false
attribute [local go_sem] Oper.semAt_some

/-- What is left of a number behind i divisions. -/
def prQ (f : Nat → Int) (N : Int) : Nat → Int
  | 0 => N
  | i + 1 => (prQ f N i).tdiv (f (3 - i))
/-- A place of a number. -/
def prA (f : Nat → Int) (N : Int) (k : Nat) : Int := (prQ f N (3 - k)).tmod (f k)
theorem put_cell {X : World} {b c k : Nat} {o : Obj} (h : c ≠ b) : (X.putObj b o).cell? ⟨c, k, none⟩ = X.cell? ⟨c, k, none⟩ := by
  simp only [World.cell?, World.putObj_heap_other h]
theorem put_frozen {X : World} {b c k : Nat} {o : Obj} (h : c ≠ b) : (X.putObj b o).frozen? ⟨c, k, none⟩ = X.frozen? ⟨c, k, none⟩ := by
  simp only [World.frozen?, World.putObj_heap_other h]
theorem put_kept {w X : World} {b : Nat} {o : Obj} (h : Kept w X) (hb : w.heap.size ≤ b) : Kept w (X.putObj b o) :=
  ⟨h.os, h.tape, h.output, by rw [World.putObj_size]; exact h.size, fun j hj => (World.putObj_heap_other (by omega)).trans (h.block j hj)⟩
/-- Between two rounds of parts, behind i of them; block B is the first of its own. -/
structure PJ (f : Nat → Int) (N : Int) (w : World) (i : Nat) (X : World) : Prop where
  q : X.cell? ⟨w.heap.size + 1, 0, none⟩ = some (.int .i64 (prQ f N i))
  qf : X.frozen? ⟨w.heap.size + 1, 0, none⟩ = false
  a : ∀ k, k < 4 → X.cell? ⟨w.heap.size + 3, k, none⟩ = some (.int .i64 (if 4 - i ≤ k then prA f N k else 0))
  af : ∀ k, X.frozen? ⟨w.heap.size + 3, k, none⟩ = false
  n : ∀ k, k < 4 → X.cell? ⟨w.heap.size, k, none⟩ = some (.int .i64 (f k))
  s : X.cell? ⟨w.heap.size + 4, 0, none⟩ = some (.slice (some ⟨w.heap.size, 0, none⟩) 4 4)
  r : ∀ k, k < 4 → X.cell? ⟨w.heap.size + 2, k, none⟩ = some (.int .i64 0)
  rf : ∀ k, X.frozen? ⟨w.heap.size + 2, k, none⟩ = false
  kp : Kept w X
theorem PJ.put {f : Nat → Int} {N : Int} {w X : World} {i b : Nat} {o : Obj} (h : PJ f N w i X) (hb : w.heap.size + 5 ≤ b) : PJ f N w i (X.putObj b o) :=
  ⟨(put_cell (by omega)).trans h.q, (put_frozen (by omega)).trans h.qf, fun k hk => (put_cell (by omega)).trans (h.a k hk), fun k => (put_frozen (by omega)).trans (h.af k), fun k hk => (put_cell (by omega)).trans (h.n k hk),
    (put_cell (by omega)).trans h.s, fun k hk => (put_cell (by omega)).trans (h.r k hk), fun k => (put_frozen (by omega)).trans (h.rf k), put_kept h.kp (by omega)⟩
theorem PJ.step {f : Nat → Int} {N : Int} {w X : World} {i : Nat} (h : PJ f N w i X) (hi : i < 4) : PJ f N w (i + 1) ((X.setCell ⟨w.heap.size + 3, 3 - i, none⟩ (.int .i64 ((prQ f N i).tmod (f (3 - i))))).setCell ⟨w.heap.size + 1, 0, none⟩ (.int .i64 ((prQ f N i).tdiv (f (3 - i))))) := by
  have far : ∀ {c o : Nat} {u : Value}, c ≠ w.heap.size + 3 → c ≠ w.heap.size + 1 → X.cell? ⟨c, o, none⟩ = some u → ((X.setCell ⟨w.heap.size + 3, 3 - i, none⟩ (.int .i64 ((prQ f N i).tmod (f (3 - i))))).setCell ⟨w.heap.size + 1, 0, none⟩ (.int .i64 ((prQ f N i).tdiv (f (3 - i))))).cell? ⟨c, o, none⟩ = some u := fun h1 h2 hu => by
    rw [World.cell?_setCell_other _ _ _ _ (by intro e; injection e with e1 _ _; omega), World.cell?_setCell_other _ _ _ _ (by intro e; injection e with e1 _ _; omega)]; exact hu
  refine ⟨?_, by rw [World.frozen?_setCell, World.frozen?_setCell]; exact h.qf, fun k hk => ?_, fun k => by rw [World.frozen?_setCell, World.frozen?_setCell]; exact h.af k, fun k hk => far (by omega) (by omega) (h.n k hk), far (by omega) (by omega) h.s, fun k hk => far (by omega) (by omega) (h.r k hk), fun k => by rw [World.frozen?_setCell, World.frozen?_setCell]; exact h.rf k, (h.kp.setCell (p := ⟨w.heap.size + 3, 3 - i, none⟩) (by simp) _).setCell (p := ⟨w.heap.size + 1, 0, none⟩) (by simp) _⟩
  · exact World.cell?_setCell_same _ _ _ (by rw [World.cell?_setCell_other _ _ _ _ (by intro e; injection e with e1 _ _; omega)]; exact h.q)
  · rw [World.cell?_setCell_other _ _ _ _ (by intro e; injection e with e1 _ _; omega)]
    by_cases e : k = 3 - i
    · subst e
      rw [World.cell?_setCell_same _ _ _ (h.a _ hk), if_pos (by omega)]
      unfold prA
      rw [show 3 - (3 - i) = i by omega]
    · rw [World.cell?_setCell_other _ _ _ _ (by intro e'; injection e' with _ e1 _; omega), h.a k hk]
      by_cases e2 : 4 - i ≤ k
      · rw [if_pos e2, if_pos (by omega)]
      · rw [if_neg e2, if_neg (by omega)]
theorem prQ_bound {f : Nat → Int} {N : Int} (hN : 0 ≤ N ∧ N ≤ 1000000000000000) (hf : ∀ k, 1 ≤ f k ∧ f k ≤ 1000) (i : Nat) : 0 ≤ prQ f N i ∧ prQ f N i ≤ 1000000000000000 := by
  induction i with
  | zero => exact hN
  | succ i ih =>
    show 0 ≤ (prQ f N i).tdiv (f (3 - i)) ∧ (prQ f N i).tdiv (f (3 - i)) ≤ _
    have := hf (3 - i)
    rw [Int.tdiv_eq_ediv_of_nonneg ih.1]
    exact ⟨Int.ediv_nonneg ih.1 (by omega), Int.le_trans (Int.ediv_le_self _ ih.1) ih.2⟩
theorem rem_bound {q d : Int} (hq : 0 ≤ q) (hd : 1 ≤ d ∧ d ≤ 1000) : 0 ≤ q.tmod d ∧ q.tmod d < d := by
  rw [Int.tmod_eq_emod_of_nonneg hq]
  exact ⟨Int.emod_nonneg _ (by omega), Int.emod_lt_of_pos _ (by omega)⟩
end Go.Proofs.YtmedgkccicbieaaGreat
namespace Go.Proofs.YtmedgkccicbieaaGreat
open Go.RowKit Go.Maps Go.Shelf
set_option linter.unusedSimpArgs false
set_option linter.unusedVariables false
attribute [local go_sem] Oper.semAt_some

theorem then_only {F : Fence} {n : Nat} {P : Program} {c : Code} {K : Act → World → Prop} {Q : Exit → Act → World → Prop} {a : Act} {w : World} (h : c.wpIn F n P (Exit.then K (fun _ _ _ => False)) a w) : c.wpIn F n P (Exit.then K Q) a w :=
  Go.wpIn_mono h (fun e a w h => by cases e <;> first | exact h | exact h.elim)
theorem PJ.keep {f : Nat → Int} {N : Int} {w X Y : World} {i : Nat} (h : PJ f N w i X) (k : Kept X Y) : PJ f N w i Y :=
  ⟨k.cellp h.q, (k.frozen (p := ⟨w.heap.size + 1, 0, none⟩) (cell_lt h.q)).trans h.qf, fun j hj => k.cellp (h.a j hj), fun j => (k.frozen (p := ⟨w.heap.size + 3, j, none⟩) (show w.heap.size + 3 < X.heap.size from cell_lt (h.a 0 (by omega)))).trans (h.af j), fun j hj => k.cellp (h.n j hj), k.cellp h.s,
    fun j hj => k.cellp (h.r j hj), fun j => (k.frozen (p := ⟨w.heap.size + 2, j, none⟩) (show w.heap.size + 2 < X.heap.size from cell_lt (h.r 0 (by omega)))).trans (h.rf j), h.kp.trans k⟩
end Go.Proofs.YtmedgkccicbieaaGreat
namespace Go.Proofs.YtmedgkccicbieaaGreat
open Go.RowKit Go.Maps Go.Shelf
set_option linter.unusedSimpArgs false
set_option linter.unusedVariables false
attribute [local go_sem] Oper.semAt_some

section
variable {w : World} {s p : Nat} {ds : List Dm} {ms : List ByteArray} {tp : Nat → Nat} {rv : Nat → Option Addr × Nat}
/-- Five cells, set one behind another. -/
def set5 (X : World) (b : Nat) (v0 v1 v2 v3 v4 : Value) : World := ((((X.setCell ⟨b, 0, none⟩ v0).setCell ⟨b, 1, none⟩ v1).setCell ⟨b, 2, none⟩ v2).setCell ⟨b, 3, none⟩ v3).setCell ⟨b, 4, none⟩ v4
theorem set5_cells {X : World} {b : Nat} {u0 u1 u2 u3 u4 : Value} (h0 : X.cell? ⟨b, 0, none⟩ = some u0) (h1 : X.cell? ⟨b, 1, none⟩ = some u1) (h2 : X.cell? ⟨b, 2, none⟩ = some u2) (h3 : X.cell? ⟨b, 3, none⟩ = some u3) (h4 : X.cell? ⟨b, 4, none⟩ = some u4) (v0 v1 v2 v3 v4 : Value) : (set5 X b v0 v1 v2 v3 v4).cell? ⟨b, 0, none⟩ = some v0 ∧ (set5 X b v0 v1 v2 v3 v4).cell? ⟨b, 1, none⟩ = some v1 ∧ (set5 X b v0 v1 v2 v3 v4).cell? ⟨b, 2, none⟩ = some v2 ∧ (set5 X b v0 v1 v2 v3 v4).cell? ⟨b, 3, none⟩ = some v3 ∧ (set5 X b v0 v1 v2 v3 v4).cell? ⟨b, 4, none⟩ = some v4 := by
  unfold set5
  refine ⟨?_, ?_, ?_, ?_, ?_⟩ <;> simp [World.cell?_setCell_other, World.cell?_setCell_same, h0, h1, h2, h3, h4]
theorem set5_kept {w X : World} {b : Nat} (k : Kept w X) (hb : w.heap.size ≤ b) (v0 v1 v2 v3 v4 : Value) : Kept w (set5 X b v0 v1 v2 v3 v4) :=
  ((((k.setCell (p := ⟨b, 0, none⟩) hb _).setCell (p := ⟨b, 1, none⟩) hb _).setCell (p := ⟨b, 2, none⟩) hb _).setCell (p := ⟨b, 3, none⟩) hb _).setCell (p := ⟨b, 4, none⟩) hb _
end
end Go.Proofs.YtmedgkccicbieaaGreat
namespace Go.Proofs.YtmedgkccicbieaaGreat
open Go.RowKit Go.Maps Go.Shelf
set_option linter.unusedSimpArgs false
set_option linter.unusedVariables false
attribute [local go_sem] Oper.semAt_some

/-- The members of the leaf of a code, the first j of them. -/
def lfF (ds : List Dm) (N : Int) (j k : Nat) : Int := if k < j then (ints (lvsN (dmL ds k))).getD (prA (fun k => leas ds k) N k).toNat 0 else 0
section
variable {w : World} {s p : Nat} {ds : List Dm} {ms : List ByteArray} {tp : Nat → Nat} {rv : Nat → Option Addr × Nat}
end
end Go.Proofs.YtmedgkccicbieaaGreat
namespace Go.Proofs.YtmedgkccicbieaaGreat
open Go.RowKit Go.Maps Go.Shelf
set_option linter.unusedSimpArgs false
set_option linter.unusedVariables false
attribute [local go_sem] Oper.semAt_some

/-- A code that there is. -/
def okC (ms : List ByteArray) (ds : List Dm) (n : Int) : Prop := 0 ≤ n ∧ n < mulK (fun k => leas ds k) ms.length 4
section
variable {w : World} {s p : Nat} {ds : List Dm} {ms : List ByteArray} {tp : Nat → Nat} {rv : Nat → Option Addr × Nat}
end
end Go.Proofs.YtmedgkccicbieaaGreat
namespace Go.Proofs.YtmedgkccicbieaaGreat
open Go.RowKit Go.Maps Go.Shelf
set_option linter.unusedSimpArgs false
set_option linter.unusedVariables false
attribute [local go_sem] Oper.semAt_some

theorem n_New (w : World) : Calls Tryz.prog 45 #[.pointer none] w fun e w' => e = .returned (.tuple #[.pointer none, .int .i64 1]) ∧ w' = w := by
  go_enter Tryz.func45, Tryz.ntmps45
  go_wp2_with fail
  go_ret2
  exact ⟨rfl, rfl⟩
end Go.Proofs.YtmedgkccicbieaaGreat
namespace Go.Proofs.YtmedgkccicbieaaGreat
open Go.RowKit Go.Maps Go.Shelf
set_option linter.unusedSimpArgs false
set_option linter.unusedVariables false

/-- From any member on, by ways down: a leaf, since no way is longer than six. -/
theorem leaf_from {l : List Nd} (h : Tr l) : ∀ (g i : Nat), i < l.length → 6 < hl l (i : Int) + g → ∃ x, x < l.length ∧ leafB l x = true := by
  intro g
  induction g with
  | zero => intro i hi hg; have := h.deep i hi; omega
  | succ g ih =>
    intro i hi hg
    cases hb : leafB l i with
    | true => exact ⟨i, hi, hb⟩
    | false =>
      unfold leafB at hb
      cases hk : kidN l (i : Int) with
      | nil => rw [hk] at hb; simp at hb
      | cons k r =>
        obtain ⟨k1, k2⟩ := mem_kidN.1 (show k ∈ kidN l (i : Int) by rw [hk]; simp)
        have e : upI l (k : Int) = (i : Int) := by unfold upI; rw [if_pos (isP_nat k1)]; exact k2
        have h1 := hl_up h.nl (isP_nat k1)
        rw [e] at h1
        exact ih k k1 (by omega)
theorem lvs_ne {l : List Nd} (h : Tr l) (h1 : 1 ≤ l.length) : 1 ≤ (lvsN l).length := by
  obtain ⟨x, hx, hb⟩ := leaf_from h 7 0 (by omega) (by omega)
  have : x ∈ lvsN l := by unfold lvsN; rw [List.mem_filter]; exact ⟨ord_all h hx, hb⟩
  exact List.length_pos_of_mem this
end Go.Proofs.YtmedgkccicbieaaGreat
