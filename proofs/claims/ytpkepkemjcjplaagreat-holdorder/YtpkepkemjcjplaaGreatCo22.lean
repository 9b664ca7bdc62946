/- coord: rows of cells that are made one by one; what a leaf is within. · coord: Over. -/
import Derived.Test.YtpkepkemjcjplaaGreatCo18
import Derived.Test.YtpkepkemjcjplaaGreatCo20
namespace Go.Proofs.YtpkepkemjcjplaaGreat
open Go.RowKit Go.Maps Go.Shelf
set_option linter.unusedSimpArgs false
set_option linter.unusedVariables false

theorem cells_new (w : World) (vs : Array Value) (t : TypeId) : ∀ (j : Nat) u, vs.toList[j]? = some u → (w.alloc (.cells vs t)).cell? ((⟨w.heap.size, 0, none⟩ : Addr).add j) = some u := by
  intro j u hj
  rw [Addr.add_lit, Nat.zero_add]
  exact new_cell _ _ _ _ j _ rfl (by simpa using hj)
theorem ownsRow_base {w : World} {B B' : Nat} {e : TypeId} {sz : Nat} {v : Value} {n : Nat} {xs : List Value} (h : w.ownsRow B e sz v n xs) (hB : B' ≤ B) : w.ownsRow B' e sz v n xs := by
  obtain ⟨h0, h1 | ⟨g, cap, cur, hv, hb, r⟩⟩ := h
  · exact ⟨h0, .inl h1⟩
  · exact ⟨h0, .inr ⟨g, cap, cur, hv, Nat.le_trans hB hb, r⟩⟩
theorem ownsRow_form {w : World} {B : Nat} {e : TypeId} {sz : Nat} {v : Value} {n : Nat} {xs : List Value} (h : w.ownsRow B e sz v n xs) : ∃ a c, v = .slice a n c := by
  obtain ⟨_, ⟨h1, hz⟩ | ⟨g, cap, cur, h1, _⟩⟩ := h
  · exact ⟨none, 0, by rw [h1, hz]⟩
  · exact ⟨_, _, h1⟩
/-- Between two rounds of a range over a function: what there is so far, in a row of its own N blocks behind WA's. -/
structure UG {α : Type} (e : TypeId) (sz N : Nat) (WA : World) (enc : α → List Value) (pre : List α) (X : World) : Prop where
  kp : Kept WA X
  big : WA.heap.size + N ≤ X.heap.size
  bx : ∃ v, X.cell? ⟨WA.heap.size, 0, none⟩ = some v ∧ X.ownsRow (WA.heap.size + N) e sz v pre.length (pre.flatMap enc)
  fz : X.frozen? ⟨WA.heap.size, 0, none⟩ = false
section
variable {α : Type} {e : TypeId} {sz N : Nat} {WA X Y Z : World} {enc : α → List Value} {pre : List α}
theorem UG.chg {S : Nat → Prop} (h : UG e sz N WA enc pre X) (k : Chg S X Y) (hS : ∀ j, S j → WA.heap.size < j ∧ j < WA.heap.size + N) : UG e sz N WA enc pre Y := by
  obtain ⟨v, h1, h2⟩ := h.bx
  have n0 : ¬ S WA.heap.size := fun e => by have := hS _ e; omega
  exact ⟨Chg.kept h.kp k (fun j e => by have := hS j e; omega), Nat.le_trans h.big k.size, ⟨v, k.cellp h1 n0, ownsRow_chg h2 k (fun g hg e => by have h3 := hS g e; have h4 := (World.ownsRow.lt h2 g hg).1; omega)⟩, (k.frozen (p := ⟨WA.heap.size, 0, none⟩) (cell_lt h1) n0).trans h.fz⟩
theorem UG.keep (h : UG e sz N WA enc pre X) (k : Kept X Y) : UG e sz N WA enc pre Y := h.chg (S := fun _ => False) (Chg.of_kept k) (fun _ e => e.elim)
theorem UG.put {b : Nat} {o : Obj} (h : UG e sz N WA enc pre X) (hb : WA.heap.size < b ∧ b < WA.heap.size + N) : UG e sz N WA enc pre (X.putObj b o) := h.chg (chg_put X b o) (fun j e => by subst e; exact hb)
theorem UG.next (hN : 0 < N) {x : α} (h : UG e sz N WA enc pre X) (k : Kept X Y) {v : Value} (hv : X.cell? ⟨WA.heap.size, 0, none⟩ = some v) (hg : Chg (fun g => v.ownBlock = some g) Y Z) {v' : Value} (ho : Z.ownsRow (WA.heap.size + N) e sz v' (pre.length + 1) (pre.flatMap enc ++ enc x)) : UG e sz N WA enc (pre ++ [x]) (Z.setCell ⟨WA.heap.size, 0, none⟩ v') ∧ Chg (fun j => j = WA.heap.size ∨ WA.heap.size + N ≤ j) X (Z.setCell ⟨WA.heap.size, 0, none⟩ v') := by
  obtain ⟨v0, h1, h2⟩ := h.bx
  rw [h1] at hv
  obtain rfl : v0 = v := by simpa using hv
  have e0 := k.cellp h1
  have hb : ∀ g, v0.ownBlock = some g → WA.heap.size + N ≤ g := fun g e => (World.ownsRow.lt h2 g e).1
  have n0 : ¬ v0.ownBlock = some WA.heap.size := fun e => by have := hb _ e; omega
  have c1 : Chg (fun j => j = WA.heap.size ∨ WA.heap.size + N ≤ j) X Z := (Chg.of_kept k).trans (hg.mono (fun j hj e => .inr (hb j e)))
  have c2 : Chg (fun j => j = WA.heap.size ∨ WA.heap.size + N ≤ j) X (Z.setCell ⟨WA.heap.size, 0, none⟩ v') := c1.setCell (p := ⟨WA.heap.size, 0, none⟩) (.inl (.inl rfl)) _
  have z0 := hg.cellp e0 n0
  have f0 : Z.frozen? ⟨WA.heap.size, 0, none⟩ = false := ((hg.frozen (p := ⟨WA.heap.size, 0, none⟩) (cell_lt e0) n0).trans (k.frozen (p := ⟨WA.heap.size, 0, none⟩) (cell_lt h1))).trans h.fz
  refine ⟨⟨Chg.kept h.kp c2 (fun j e => by omega), Nat.le_trans h.big c2.size, ⟨v', World.cell?_setCell_same _ _ _ z0, ?_⟩, by rw [World.frozen?_setCell]; exact f0⟩, c2⟩
  rw [List.flatMap_append, List.flatMap_singleton, List.length_append, List.length_singleton]
  refine ownsRow_chg ho (S := fun j => j = WA.heap.size) (Chg.setCell (S := fun j => j = WA.heap.size) (Chg.refl _ Z) (p := ⟨WA.heap.size, 0, none⟩) (.inl rfl) _) (fun g hg' e => ?_)
  have := (World.ownsRow.lt ho g hg').1
  omega
end
/-- A cell's five cells. -/
def cfl (m : Int) (x : List Int) : List Value := [.int .i64 m, .int .i64 (at4 x 0), .int .i64 (at4 x 1), .int .i64 (at4 x 2), .int .i64 (at4 x 3)]
theorem cinfo : ∃ i0, Tryz.prog.info? 29 = some i0 ∧ i0.zero = some (cellV 0 (fun _ => 0)) ∧ i0.size = 5 ∧ i0.bytes = 40 := by
  have h : (Tryz.prog.info? 29).map (fun i => (i.zero, i.size, i.bytes)) = some (some (cellV 0 (fun _ => 0)), 5, 40) := by kernel_rfl
  exact info_parts h
/-- The members that a leaf's member is within, rising. -/
noncomputable def upL (ds : List Dm) (N : Int) (k : Nat) : List Int := sortI (abvA (dmL ds k) (lfF ds N ds.length k))
/-- The cells that a leaf is within. -/
noncomputable def ovL (ds : List Dm) (N : Int) : List (List Int) := prods (lsK (upL ds N) ds.length)
/-- A row of cells of one measure, from block B on. -/
def OwnC (w : World) (B : Nat) (v : Value) (m : Int) (l : List (List Int)) : Prop := w.ownsRow B 29 5 v l.length (l.flatMap (cfl m))
noncomputable def OvrP (w : World) (ms : List ByteArray) (ds : List Dm) (n : Int) (e : Ending) (w' : World) : Prop := (okC ms ds n → ∃ v, e = .returned v ∧ OwnC w' w.heap.size v (prQ (fun k => leas ds k) n 4) (ovL ds n)) ∧ (¬ okC ms ds n → e = .returned (.slice none 0 0)) ∧ Kept w w'
theorem abv_one {l : List Nd} (h : Tr l) {i : Int} (hi : isP l i) : 1 ≤ (abvA l i).length ∧ (abvA l i).length ≤ l.length := by
  have h1 := hl_up h.nl hi
  have h2 := (hl_ends h.nl i).2
  unfold hl at h1 h2
  omega
section
variable {w : World} {s p : Nat} {ds : List Dm} {ms : List ByteArray} {tp : Nat → Nat} {rv : Nat → Option Addr × Nat}
/-- A leaf's member is a leaf of its tree. -/
theorem lf_leaf (h : SW w s p ds ms tp rv) {n : Int} (hn : 0 ≤ n ∧ n < mulK (fun k => leas ds k) ms.length 4) {k : Nat} (hk : k < ds.length) : ∃ r : Nat, prA (fun k => leas ds k) n k = r ∧ r < (lvsN (dmL ds k)).length ∧ lfF ds n ds.length k = ((lvsN (dmL ds k)).getD r 0 : Nat) ∧ (lvsN (dmL ds k)).getD r 0 ∈ lvsN (dmL ds k) := by
  have hb0 := (mulK_bound (f := fun k => (leas ds k : Int)) (m := ms.length) (by have := h.m4; omega) (fun k => leas_bound h k)).2.2.2.2
  have hb := rem_bound (prQ_bound ⟨hn.1, (by omega : n ≤ 1000000000000000)⟩ (fun k => leas_pos h k) (3 - k)).1 (leas_pos h k)
  have e : leas ds k = (lvsN (dmL ds k)).length := if_pos hk
  have e1 : prA (fun k => leas ds k) n k = ((prA (fun k => leas ds k) n k).toNat : Int) := by unfold prA; dsimp only; omega
  have e2 : (prA (fun k => leas ds k) n k).toNat < (lvsN (dmL ds k)).length := by unfold prA; dsimp only; omega
  refine ⟨_, e1, e2, ?_, ?_⟩
  · unfold lfF
    rw [if_pos hk]
    generalize (prA (fun k => leas ds k) n k).toNat = r at e2 ⊢
    unfold ints
    rw [List.getD_eq_getElem?_getD, List.getD_eq_getElem?_getD, List.getElem?_map, List.getElem?_eq_getElem e2]
    rfl
  · rw [List.getD_eq_getElem?_getD, List.getElem?_eq_getElem e2]
    exact List.getElem_mem e2
theorem lf_isP (h : SW w s p ds ms tp rv) {n : Int} (hn : 0 ≤ n ∧ n < mulK (fun k => leas ds k) ms.length 4) {k : Nat} (hk : k < ds.length) : isP (dmL ds k) (lfF ds n ds.length k) := by
  obtain ⟨r, _, _, h3, h4⟩ := lf_leaf h hn hk
  rw [h3]
  exact isP_nat ((lvs_mem (h.whole hk).tr).1 h4).1
theorem up_len (h : SW w s p ds ms tp rv) {n : Int} (hn : 0 ≤ n ∧ n < mulK (fun k => leas ds k) ms.length 4) {k : Nat} (hk : k < ds.length) : 1 ≤ (abvA (dmL ds k) (lfF ds n ds.length k)).length ∧ (abvA (dmL ds k) (lfF ds n ds.length k)).length ≤ 60 := by
  have h1 := abv_one (h.whole hk).tr (lf_isP h hn hk)
  have h2 := (h.whole hk).big
  omega
end
end Go.Proofs.YtpkepkemjcjplaaGreat
namespace Go.Proofs.YtpkepkemjcjplaaGreat
open Go.RowKit Go.Maps Go.Shelf
set_option linter.unusedSimpArgs false
set_option linter.unusedVariables false

section
variable {w : World} {s p : Nat} {ds : List Dm} {ms : List ByteArray} {tp : Nat → Nat} {rv : Nat → Option Addr × Nat}
end
end Go.Proofs.YtpkepkemjcjplaaGreat
