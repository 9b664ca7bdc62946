/- Two trees together: at which codes they differ, and the row that is made of it. · pages: what is done with a code, in All and in Differ. -/
import Derived.Test.YtjkbhaplngnniaaDoorPg20
namespace Go.Proofs.YtjkbhaplngnniaaDoor
open Go.RowKit Go.Maps
set_option linter.unusedSimpArgs false
set_option linter.unusedVariables false

/-- What is told of a code. -/
def sel (j : Int) (x y : Int × Bool) : List (Int × Int × Bool) := if x = y then [] else [(j, x.1, x.2)]
def selL (nd : Int → ANd) (l : Nat) (a b first : Int) (m : Nat) : List (Int × Int × Bool) := (List.range m).flatMap fun (o : Nat) => sel (first + (o : Int)) (entL nd l a o) (entL nd l b o)
theorem flat_ext {α β : Type} {f g : α → List β} : ∀ l : List α, (∀ x ∈ l, f x = g x) → l.flatMap f = l.flatMap g := by
  intro l
  induction l with
  | nil => intro _; rfl
  | cons x r ih => intro h; rw [List.flatMap_cons, List.flatMap_cons, h x (by simp), ih (fun y hy => h y (by simp [hy]))]
theorem sel_len (j : Int) (x y : Int × Bool) : (sel j x y).length ≤ 1 := by unfold sel; split <;> simp
theorem flat_len {α β : Type} {f : α → List β} (h : ∀ x, (f x).length ≤ 1) : ∀ l : List α, (l.flatMap f).length ≤ l.length := by
  intro l
  induction l with
  | nil => simp
  | cons x r ih => rw [List.flatMap_cons, List.length_append, List.length_cons]; have := h x; omega
theorem selL_len (nd : Int → ANd) (l : Nat) (a b first : Int) (m : Nat) : (selL nd l a b first m).length ≤ m := by
  have := flat_len (f := fun o : Nat => sel (first + (o : Int)) (entL nd l a o) (entL nd l b o)) (fun o => sel_len _ _ _) (List.range m)
  rw [List.length_range] at this
  exact this
theorem selL_same (nd : Int → ANd) (l : Nat) (a first : Int) (m : Nat) : selL nd l a a first m = [] := by
  unfold selL sel; simp
theorem selL_zero (nd : Int → ANd) (l : Nat) (a b first : Int) : selL nd l a b first 0 = [] := rfl
theorem selL_one (nd : Int → ANd) (a b first : Int) (i : Nat) : selL nd 1 a b first (i + 1) = selL nd 1 a b first i ++ sel (first + (i : Int)) ((ndZ nd a).vals.getD i (0, false)) ((ndZ nd b).vals.getD i (0, false)) := by
  unfold selL
  rw [List.range_succ, List.flatMap_append]
  simp [entL]
theorem selL_step (nd : Int → ANd) (l : Nat) (a b first : Int) (i : Nat) : selL nd (l + 2) a b first ((i + 1) * 8 ^ (l + 1)) = selL nd (l + 2) a b first (i * 8 ^ (l + 1)) ++ selL nd (l + 1) ((ndZ nd a).kids.getD i 0) ((ndZ nd b).kids.getD i 0) (first + ((i * 8 ^ (l + 1) : Nat) : Int)) (8 ^ (l + 1)) := by
  unfold selL
  have hP : 0 < 8 ^ (l + 1) := Nat.pow_pos (by omega)
  generalize hp : 8 ^ (l + 1) = P at *
  rw [show (i + 1) * P = i * P + P from Nat.succ_mul i P, List.range_add, List.flatMap_append, List.flatMap_map]
  congr 1
  refine flat_ext _ (fun o ho => ?_)
  have ho' : o < P := List.mem_range.1 ho
  have e1 : (i * P + o) / P = i := by rw [Nat.mul_comm i P, Nat.mul_add_div hP, Nat.div_eq_of_lt ho', Nat.add_zero]
  have e2 : (i * P + o) % P = o := by rw [Nat.mul_comm i P, Nat.mul_add_mod, Nat.mod_eq_of_lt ho']
  show sel _ (entL nd (l + 1) ((ndZ nd a).kids.getD ((i * P + o) / 8 ^ (l + 1)) 0) ((i * P + o) % 8 ^ (l + 1))) (entL nd (l + 1) ((ndZ nd b).kids.getD ((i * P + o) / 8 ^ (l + 1)) 0) ((i * P + o) % 8 ^ (l + 1))) = _
  rw [hp, e1, e2]
  congr 1
  push_cast
  omega
/-- The row that is made: its variable lies in block ab. -/
structure RW (ab B : Nat) (T : TypeId) (sz : Nat) (cf : List (Int × Int × Bool) → List Value) (X : World) (v : Value) (l : List (Int × Int × Bool)) : Prop where
  c : X.cell? ⟨ab, 0, none⟩ = some v
  fz : X.frozen? ⟨ab, 0, none⟩ = false
  ow : X.ownsRow B T sz v l.length (cf l)
  lo : ab < B
  sz : B ≤ X.heap.size
section
variable {ab B : Nat} {T : TypeId} {sz : Nat} {cf : List (Int × Int × Bool) → List Value} {X Y Z : World} {v v' : Value} {l m : List (Int × Int × Bool)}
theorem owns_chg {S : Nat → Prop} {B : Nat} {n : Nat} {xs : List Value} (h : X.ownsRow B T sz v n xs) (g : Chg S X Y) (hb : ∀ k, v.ownBlock = some k → ¬ S k) : Y.ownsRow B T sz v n xs := by
  have hlt := World.ownsRow.lt h
  obtain ⟨h0, ⟨h1, h2⟩ | ⟨k, cap, cur, hv, hb', hh, r⟩⟩ := h
  · exact ⟨h0, .inl ⟨h1, h2⟩⟩
  · subst hv
    exact ⟨h0, .inr ⟨k, cap, cur, rfl, hb', by rw [g.block k (hlt k rfl).2 (hb k rfl)]; exact hh, r⟩⟩
theorem RW.kept (h : RW ab B T sz cf X v l) (k : Kept X Y) : RW ab B T sz cf Y v l :=
  ⟨k.cellp h.c, (k.frozen (p := ⟨ab, 0, none⟩) (cell_lt h.c)).trans h.fz, owns_chg h.ow (Chg.of_kept (S := fun _ => False) k) (fun _ _ e => e), h.lo, Nat.le_trans h.sz k.size⟩
/-- A call that may have made the row longer. -/
def StepR (ab B : Nat) (T : TypeId) (sz : Nat) (cf : List (Int × Int × Bool) → List Value) (X : World) (v : Value) (Y : World) (l : List (Int × Int × Bool)) : Prop :=
  ∃ v', RW ab B T sz cf Y v' l ∧ Chg (fun k => k = ab ∨ v.ownBlock = some k) X Y ∧ ∀ k, v'.ownBlock = some k → v.ownBlock = some k ∨ X.heap.size ≤ k
theorem StepR.same (h : RW ab B T sz cf X v l) (k : Kept X Y) : StepR ab B T sz cf X v Y l := ⟨v, h.kept k, Chg.of_kept k, fun k hk => .inl hk⟩
theorem StepR.pre (k : Kept X Y) (h : StepR ab B T sz cf Y v Z l) : StepR ab B T sz cf X v Z l := by
  obtain ⟨v', h1, h2, h3⟩ := h
  exact ⟨v', h1, (Chg.of_kept k).trans h2, fun j hj => (h3 j hj).imp id (fun e => Nat.le_trans k.size e)⟩
theorem StepR.thn {v1 : Value} (h1 : Chg (fun k => k = ab ∨ v.ownBlock = some k) X Y) (h2 : ∀ k, v1.ownBlock = some k → v.ownBlock = some k ∨ X.heap.size ≤ k) (h : StepR ab B T sz cf Y v1 Z l) : StepR ab B T sz cf X v Z l := by
  obtain ⟨v', g1, g2, g3⟩ := h
  refine ⟨v', g1, h1.thn g2 (fun j hj e => ?_), fun j hj => ?_⟩
  · rcases e with e | e
    · exact .inl e
    · rcases h2 j e with e | e
      · exact .inr e
      · omega
  · rcases g3 j hj with e | e
    · exact h2 j e
    · exact .inr (Nat.le_trans h1.size e)
end
/-- The row is one longer. -/
theorem StepR.pushed {ab B g' cap : Nat} {T : TypeId} {sz : Nat} {cf : List (Int × Int × Bool) → List Value} {X X5 X6 : World} {v : Value} {l : List (Int × Int × Bool)} {x : Int × Int × Bool} (h : RW ab B T sz cf X v l) (k5 : Kept X X5)
    (o6 : X6.ownsRow B T sz (.slice (some ⟨g', 0, none⟩) (l.length + 1) cap) (l.length + 1) (cf (l ++ [x]))) (c6 : Chg (fun k => v.ownBlock = some k) X5 X6) (hg : v.ownBlock = some g' ∨ X5.heap.size ≤ g') (hlt : g' < X6.heap.size) :
    StepR ab B T sz cf X v (X6.setCell ⟨ab, 0, none⟩ (.slice (some ⟨g', 0, none⟩) (l.length + 1) cap)) (l ++ [x]) := by
  have h5 := h.kept k5
  have hab5 : ab < X5.heap.size := cell_lt h5.c
  have hne : v.ownBlock ≠ some ab := fun e => by have := (World.ownsRow.lt h5.ow ab e).1; have := h.lo; omega
  have hBg : B ≤ g' := by
    rcases hg with e | e
    · exact (World.ownsRow.lt h5.ow g' e).1
    · have := h5.sz; omega
  have hgne : g' ≠ ab := by have := h.lo; omega
  have c7 : Chg (fun k => k = ab) X6 (X6.setCell ⟨ab, 0, none⟩ (.slice (some ⟨g', 0, none⟩) (l.length + 1) cap)) := Chg.setCell (S := fun k => k = ab) (Chg.refl _ X6) (p := ⟨ab, 0, none⟩) (.inl rfl) _
  have hc6 : X6.cell? ⟨ab, 0, none⟩ = some v := c6.cellp h5.c hne
  refine ⟨.slice (some ⟨g', 0, none⟩) (l.length + 1) cap, ⟨World.cell?_setCell_same _ _ _ hc6, ?_, ?_, h.lo, ?_⟩, ?_, fun k hk => ?_⟩
  · rw [World.frozen?_setCell, c6.frozen (p := ⟨ab, 0, none⟩) hab5 hne]; exact h5.fz
  · rw [List.length_append, List.length_singleton]
    exact owns_chg o6 c7 (fun k hk e => by simp [Value.ownBlock] at hk; exact hgne (hk.trans e))
  · exact Nat.le_trans h5.sz (Nat.le_trans c6.size c7.size)
  · exact (((Chg.of_kept k5).trans (c6.mono (fun j _ e => .inr e)))).trans (c7.mono (fun j _ e => .inl e))
  · simp [Value.ownBlock] at hk
    subst hk
    exact hg.imp id (fun e => Nat.le_trans k5.size e)
/-- What is there while two trees are gone through. -/
structure DE (w0 : World) (g p : Nat) (ow : Option Nat) (most : Int) (n : Nat) (rf : Int → Nat) (nd : Int → ANd) (M : Nat) (codes : Int) (pb sb fb ab B : Nat) (sv fv : Value) (X : World) : Prop where
  ar : AS w0 X p ow most n rf nd M
  pg : PG X g p codes
  c4 : X.cell? ⟨pb, 0, none⟩ = some (.pointer (some ⟨g, 0, none⟩))
  c5 : X.cell? ⟨sb, 0, none⟩ = some sv
  c6 : X.cell? ⟨fb, 0, none⟩ = some fv
  lo : w0.heap.size ≤ ab ∧ w0.heap.size ≤ B
  ne : (p < B ∧ p ≠ ab) ∧ (∀ j, ow = some j → j < B ∧ j ≠ ab) ∧ (g < B ∧ g ≠ ab) ∧ (pb < B ∧ pb ≠ ab) ∧ (sb < B ∧ sb ≠ ab) ∧ (fb < B ∧ fb ≠ ab)
section
variable {w0 X Y : World} {g p : Nat} {ow : Option Nat} {most : Int} {n : Nat} {rf : Int → Nat} {nd : Int → ANd} {M : Nat} {codes : Int} {pb sb fb ab B : Nat} {sv fv : Value}
theorem DE.chg {S : Nat → Prop} (h : DE w0 g p ow most n rf nd M codes pb sb fb ab B sv fv X) (k : Chg S X Y) (hS : ∀ j, S j → j = ab ∨ B ≤ j) : DE w0 g p ow most n rf nd M codes pb sb fb ab B sv fv Y := by
  obtain ⟨n1, n2, n3, n4, n5, n6⟩ := h.ne
  have no : ∀ j, j < B ∧ j ≠ ab → ¬ S j := fun j hj e => by rcases hS j e with e | e <;> omega
  exact ⟨h.ar.chg k (fun j e => by have := h.lo; rcases hS j e with e | e <;> omega) (no _ n1) (fun j hj => no _ (n2 j hj)), ⟨k.cellp h.pg.c0 (no _ n3), k.cellp h.pg.c1 (no _ n3), k.cellp h.pg.c2 (no _ n3), h.pg.k1, h.pg.k2⟩, k.cellp h.c4 (no _ n4), k.cellp h.c5 (no _ n5), k.cellp h.c6 (no _ n6), h.lo, h.ne⟩
theorem DE.keep (h : DE w0 g p ow most n rf nd M codes pb sb fb ab B sv fv X) (k : Kept X Y) : DE w0 g p ow most n rf nd M codes pb sb fb ab B sv fv Y := h.chg (Chg.of_kept (S := fun _ => False) k) (fun j e => e.elim)
theorem DE.step {T : TypeId} {sz : Nat} {cf : List (Int × Int × Bool) → List Value} {v : Value} {l : List (Int × Int × Bool)} (h : DE w0 g p ow most n rf nd M codes pb sb fb ab B sv fv X) (hr : RW ab B T sz cf X v l) (k : Chg (fun k => k = ab ∨ v.ownBlock = some k) X Y) : DE w0 g p ow most n rf nd M codes pb sb fb ab B sv fv Y :=
  h.chg k (fun j e => e.imp id (fun e => (World.ownsRow.lt hr.ow j e).1))
end
/-- The cells of leaves, and of codes. -/
def cfL : List (Int × Int × Bool) → List Value
  | [] => []
  | x :: r => .int .i64 x.1 :: .int .i64 x.2.1 :: .bool x.2.2 :: cfL r
theorem cfL_app : ∀ l m, cfL (l ++ m) = cfL l ++ cfL m := by
  intro l m
  induction l with
  | nil => rfl
  | cons e r ih => simp only [cfL, List.cons_append, ih]
theorem cfL_len : ∀ l, (cfL l).length = l.length * 3 := by
  intro l
  induction l with
  | nil => rfl
  | cons e r ih => simp only [cfL, List.length_cons, ih]; omega
def cfI (l : List (Int × Int × Bool)) : List Value := (l.map fun x => x.1).map (Value.int .i64)
theorem lfinfo : ∃ i0, Tryd.prog.info? 80 = some i0 ∧ i0.zero = some (.agg #[.int .i64 0, .int .i64 0, .bool false]) ∧ i0.size = 3 ∧ i0.bytes = 24 := by
  have h : (Tryd.prog.info? 80).map (fun i => (i.zero, i.size, i.bytes)) = some (some (.agg #[.int .i64 0, .int .i64 0, .bool false]), 3, 24) := by kernel_rfl
  exact info_parts h
/-- One more leaf behind those of a row. -/
theorem wpl_pushL {ops : Array Oper} {rest : List Oper} {o : Oper} {a : Act} {Q : Exit → Act → World → Prop} (w : World) (hgd : o.guard = none) (s x : Operand)
    (ho : o.op = .call { callee := .builtin .append, args := #[s, x], argTypes := #[50, 50] })
    (B : Nat) (v : Value) (n : Nat) (xs : List Value) (hs : a.eval s = v) (hv : w.ownsRow B 80 3 v n xs) (hB : B ≤ w.heap.size) (g : Nat) (L : List Value) (hL : L.length = 3) (h1 : ∀ u ∈ L, u.oneCell' = true) (hx : a.eval x = .slice (some ⟨g, 0, none⟩) 1 1)
    (hr : w.rangeAt g 0 L) (h47 : n ≤ 20001) (H : Nat) (hH : w.heap.size = H)
    (h : ∀ g' cap w', w'.ownsRow B 80 3 (.slice (some ⟨g', 0, none⟩) (n + 1) cap) (n + 1) (xs ++ L) → Chg (fun k => v.ownBlock = some k) w w' → (v.ownBlock = some g' ∨ g' = H) → g' < w'.heap.size → wpList Tryd.prog ops Q rest (a.put o.dst (.slice (some ⟨g', 0, none⟩) (n + 1) cap)) w') : wpList Tryd.prog ops Q (o :: rest) a w := by
  obtain ⟨i0, hi0, hz0, hz1, hz2⟩ := lfinfo
  refine wpList_append_lies w hgd s x 50 ho B 80 i0 _ 3 24 Tryd.underlying50 hi0 hz0 hz1 hz2 (by rfl) (by decide) v _ _ hs hv ⟨g, 0, none⟩ 1 1 L hx (by omega) (fun j u hu => ?_) h1 (by omega) (by unfold maxLen; omega) (by omega) hB H hH ?_
  · rw [Addr.add_lit]; exact hr j u hu
  · intro g' cap w' h2 h3 h4 h5
    exact h g' cap w' h2 ((Chg.refl _ w).grown h3 (fun k hk => .inl hk)) h4 h5
/-- While two nodes are gone through. -/
def DnS (w0 : World) (g p : Nat) (ow : Option Nat) (most : Int) (n : Nat) (rf : Int → Nat) (nd : Int → ANd) (M : Nat) (codes : Int) (pb sb fb ab B : Nat) (sv fv : Value) (T : TypeId) (sz : Nat) (cf : List (Int × Int × Bool) → List Value) (l : Nat) (a b first : Int) (P : Nat) (acc : List (Int × Int × Bool)) (ws : World) (v : Value) (xb yb : Nat) (LA LB : List Value) (i : Nat) (wr : World) : Prop :=
  ∃ vv, RW ab B T sz cf wr vv (acc ++ selL nd l a b first (i * P)) ∧ DE w0 g p ow most n rf nd M codes pb sb fb ab B sv fv wr ∧ wr.rangeAt xb 0 LA ∧ wr.rangeAt yb 0 LB ∧ Chg (fun k => k = ab ∨ v.ownBlock = some k) ws wr ∧ (∀ k, vv.ownBlock = some k → v.ownBlock = some k ∨ ws.heap.size ≤ k) ∧ (∀ k, vv.ownBlock = some k → k ≠ xb ∧ k ≠ yb) ∧ (xb < wr.heap.size ∧ yb < wr.heap.size) ∧ (ab ≠ xb ∧ ab ≠ yb)
theorem dns_step {w0 : World} {g p : Nat} {ow : Option Nat} {most : Int} {n : Nat} {rf : Int → Nat} {nd : Int → ANd} {M : Nat} {codes : Int} {pb sb fb ab B : Nat} {sv fv : Value} {T : TypeId} {sz : Nat} {cf : List (Int × Int × Bool) → List Value} {l : Nat} {a b first : Int} {P : Nat} {acc l0 : List (Int × Int × Bool)} {ws wr wK : World} {v vv : Value} {xb yb : Nat} {LA LB : List Value} {i : Nat}
    (hr : RW ab B T sz cf wr vv l0) (hd : DE w0 g p ow most n rf nd M codes pb sb fb ab B sv fv wr) (ra : wr.rangeAt xb 0 LA) (rb : wr.rangeAt yb 0 LB) (hc : Chg (fun k => k = ab ∨ v.ownBlock = some k) ws wr) (ho : ∀ k, vv.ownBlock = some k → v.ownBlock = some k ∨ ws.heap.size ≤ k) (hne : ∀ k, vv.ownBlock = some k → k ≠ xb ∧ k ≠ yb) (hlt : xb < wr.heap.size ∧ yb < wr.heap.size) (hge : ab ≠ xb ∧ ab ≠ yb)
    (hst : StepR ab B T sz cf wr.drew vv wK (acc ++ selL nd l a b first ((i + 1) * P))) : DnS w0 g p ow most n rf nd M codes pb sb fb ab B sv fv T sz cf l a b first P acc ws v xb yb LA LB (i + 1) wK := by
  obtain ⟨v', g1, g2, g3⟩ := hst
  have c0 : Chg (fun k => k = ab ∨ vv.ownBlock = some k) wr wK := (Chg.of_kept ((Kept.refl wr).drew)).trans g2
  have hx : ¬ (xb = ab ∨ vv.ownBlock = some xb) := fun e => e.elim (fun e => hge.1 e.symm) (fun e => (hne xb e).1 rfl)
  have hy : ¬ (yb = ab ∨ vv.ownBlock = some yb) := fun e => e.elim (fun e => hge.2 e.symm) (fun e => (hne yb e).2 rfl)
  refine ⟨v', g1, hd.step hr c0, fun j u hu => c0.cellp (ra j u hu) hx, fun j u hu => c0.cellp (rb j u hu) hy, hc.thn c0 (fun j hj e => ?_), fun k hk => ?_, fun k hk => ?_, ⟨Nat.lt_of_lt_of_le hlt.1 c0.size, Nat.lt_of_lt_of_le hlt.2 c0.size⟩, hge⟩
  · rcases e with e | e
    · exact .inl e
    · rcases ho j e with e | e
      · exact .inr e
      · omega
  · rcases g3 k hk with e | e
    · exact ho k e
    · exact .inr (Nat.le_trans hc.size e)
  · rcases g3 k hk with e | e
    · exact hne k e
    · have e' : wr.heap.size ≤ k := e
      omega
end Go.Proofs.YtjkbhaplngnniaaDoor
namespace Go.Proofs.YtjkbhaplngnniaaDoor
open Go.RowKit Go.Maps
set_option linter.unusedSimpArgs false
set_option linter.unusedVariables false

section
variable {ab B : Nat} {X : World} {v : Value} {acc : List (Int × Int × Bool)}
theorem range_lt {X : World} {b f : Nat} {L : List Value} (h : X.rangeAt b f L) (hl : 0 < L.length) : b < X.heap.size := by
  have := h 0 L[0] (List.getElem?_eq_getElem hl)
  exact cell_lt (p := ⟨b, f + 0, none⟩) this
theorem new_range_at (w : World) (L : List Value) (t : TypeId) {b : Nat} (hb : w.heap.size = b) : (w.alloc (.cells L.toArray t)).rangeAt b 0 L := by subst hb; exact new_range w L t
theorem new_cell_at (w : World) (y : Int) (t : TypeId) {b : Nat} (hb : w.heap.size = b) : (w.alloc (.cells #[.int .i64 y] t)).cell? ⟨b, 0, none⟩ = some (.int .i64 y) := by
  have := new_range_at w [.int .i64 y] t hb 0 _ rfl
  simpa using this
theorem RW.shape {T : TypeId} {sz : Nat} {cf : List (Int × Int × Bool) → List Value} (h : RW ab B T sz cf X v acc) : ∃ a c, v = .slice a acc.length c := by
  obtain ⟨h0, ⟨h1, h2⟩ | ⟨k, cap, cur, hv, _⟩⟩ := h.ow
  · exact ⟨none, 0, by rw [h1, h2]⟩
  · exact ⟨_, _, hv⟩
theorem RW.facts {T : TypeId} {sz : Nat} {cf : List (Int × Int × Bool) → List Value} (h : RW ab B T sz cf X v acc) : (∀ Y, Kept X Y → Y.ownsRow B T sz v acc.length (cf acc)) ∧ ∀ Y Z, Kept X Y → Chg (fun k => v.ownBlock = some k) Y Z → Z.cell? ⟨ab, 0, none⟩ = some v ∧ Z.frozen? ⟨ab, 0, none⟩ = false := by
  refine ⟨fun Y k => (h.kept k).ow, fun Y Z k c => ?_⟩
  have h5 := h.kept k
  have hne : v.ownBlock ≠ some ab := fun e => by have := (World.ownsRow.lt h5.ow ab e).1; have := h.lo; omega
  exact ⟨c.cellp h5.c hne, (c.frozen (p := ⟨ab, 0, none⟩) (cell_lt h5.c) hne).trans h5.fz⟩
set_option maxHeartbeats 4000000 in
theorem see_All (h : RW ab B 80 3 cfL X v acc) (hl : acc.length ≤ 20000) (j x1 : Int) (x2 : Bool) : Calls Tryd.prog 36 #[.int .i64 j, .agg #[.int .i64 x1, .bool x2], .agg #[.int .i64 0, .bool false], .pointer (some ⟨ab, 0, none⟩)] X fun e X' => e = .returned (.tuple #[]) ∧ StepR ab B 80 3 cfL X v X' (acc ++ sel j (x1, x2) (0, false)) := by
  obtain ⟨va, vc, hv⟩ := h.shape
  subst hv
  have HRW := hidMk h
  have hsz := h.sz
  have c := h.c
  obtain ⟨hf1, hf2⟩ := h.facts
  obtain ⟨m, hm⟩ : ∃ m, m = acc.length := ⟨_, rfl⟩
  rw [← hm] at hf1 hf2 c
  rw [← hm] at HRW ⊢
  have c3 : ∀ o1 o2 o3, (((X.alloc o1).alloc o2).alloc o3).cell? ⟨ab, 0, none⟩ = some (.slice va m vc) := fun _ _ _ => ((((Kept.refl X).alloc _).alloc _).alloc _).cellp c
  have c2 : ∀ o1 o2, ((X.alloc o1).alloc o2).cell? ⟨ab, 0, none⟩ = some (.slice va m vc) := fun _ _ => (((Kept.refl X).alloc _).alloc _).cellp c
  have HF := hidMk (And.intro hf1 hf2)
  have HM := hidMk (And.intro hm hl)
  clear h hm hl hf1 hf2
  by_cases hx : x1 = 0
  · subst hx
    cases x2
    · go_enter Tryd.func36, Tryd.ntmps36
      go_wp2_with fail
      go_end0
      refine ⟨rfl, ?_⟩
      rw [show sel j (0, false) (0, false) = [] from if_pos rfl, List.append_nil]
      exact StepR.same HRW.out ((((Kept.refl X).alloc _).alloc _).alloc _)
    · go_enter Tryd.func36, Tryd.ntmps36
      go_wp2_with (at_builtin; refine wpl_pushL _ rfl _ _ rfl B (.slice va m vc) m (cfL acc) rfl (HF.out.1 _ (((((Kept.refl X).alloc _).alloc _).alloc _).alloc _)) (by simp; omega) (X.heap.size + 1 + 1 + 1) [.int .i64 j, .int .i64 0, .bool true] rfl (by simp [Value.oneCell']) rfl (new_range_at _ [.int .i64 j, .int .i64 0, .bool true] _ (by simp)) (by have := HM.out; omega) (X.heap.size + 1 + 1 + 1 + 1) (by simp) ?_; intro g6 cap6 w6 o6 k6 a6 l6; have H6 := hidMk (And.intro o6 (And.intro (show (Value.slice va m vc).ownBlock = some g6 ∨ (X.heap.size + 1 + 1 + 1 + 1) ≤ g6 from by rcases a6 with e | e; exact .inl e; exact .inr (by omega)) l6)); have C6 := hidMk k6; obtain ⟨e1, ef⟩ := HF.out.2 _ _ (((((Kept.refl X).alloc _).alloc _).alloc _).alloc _) C6.out; clear o6 k6 a6 l6)
      go_end0
      refine ⟨rfl, ?_⟩
      rw [show sel _ _ _ = [_] from if_neg (by simp)]
      have hm := HM.out.1
      subst hm
      exact StepR.pushed HRW.out (((((Kept.refl X).alloc _).alloc _).alloc _).alloc _) (by have := H6.out.1; rw [cfL_app]; exact this) C6.out (by have := H6.out.2.1; simpa using this) H6.out.2.2
  · have hx' : (x1 == 0) = false := by simpa using hx
    go_enter Tryd.func36, Tryd.ntmps36
    go_wp2_with (at_builtin; refine wpl_pushL _ rfl _ _ rfl B (.slice va m vc) m (cfL acc) rfl (HF.out.1 _ (((((Kept.refl X).alloc _).alloc _).alloc _).alloc _)) (by simp; omega) (X.heap.size + 1 + 1 + 1) [.int .i64 j, .int .i64 x1, .bool x2] rfl (by simp [Value.oneCell']) rfl (new_range_at _ [.int .i64 j, .int .i64 x1, .bool x2] _ (by simp)) (by have := HM.out; omega) (X.heap.size + 1 + 1 + 1 + 1) (by simp) ?_; intro g6 cap6 w6 o6 k6 a6 l6; have H6 := hidMk (And.intro o6 (And.intro (show (Value.slice va m vc).ownBlock = some g6 ∨ (X.heap.size + 1 + 1 + 1 + 1) ≤ g6 from by rcases a6 with e | e; exact .inl e; exact .inr (by omega)) l6)); have C6 := hidMk k6; obtain ⟨e1, ef⟩ := HF.out.2 _ _ (((((Kept.refl X).alloc _).alloc _).alloc _).alloc _) C6.out; clear o6 k6 a6 l6)
    go_end0
    refine ⟨rfl, ?_⟩
    rw [show sel _ _ _ = [_] from if_neg (by simp; intro e; exact absurd e hx)]
    have hm := HM.out.1
    subst hm
    exact StepR.pushed HRW.out (((((Kept.refl X).alloc _).alloc _).alloc _).alloc _) (by have := H6.out.1; rw [cfL_app]; exact this) C6.out (by have := H6.out.2.1; simpa using this) H6.out.2.2
set_option maxHeartbeats 4000000 in
theorem see_Differ (h : RW ab B 3 1 cfI X v acc) (hl : acc.length ≤ 20000) (j x1 y1 : Int) (x2 y2 : Bool) : Calls Tryd.prog 38 #[.int .i64 j, .agg #[.int .i64 x1, .bool x2], .agg #[.int .i64 y1, .bool y2], .pointer (some ⟨ab, 0, none⟩)] X fun e X' => e = .returned (.tuple #[]) ∧ StepR ab B 3 1 cfI X v X' (acc ++ sel j (x1, x2) (y1, y2)) := by
  obtain ⟨va, vc, hv⟩ := h.shape
  subst hv
  have HRW := hidMk h
  have hsz := h.sz
  have c := h.c
  obtain ⟨hf1, hf2⟩ := h.facts
  obtain ⟨m, hm⟩ : ∃ m, m = acc.length := ⟨_, rfl⟩
  rw [← hm] at hf1 hf2 c
  rw [← hm] at HRW ⊢
  have c3 : ∀ o1 o2 o3, (((X.alloc o1).alloc o2).alloc o3).cell? ⟨ab, 0, none⟩ = some (.slice va m vc) := fun _ _ _ => ((((Kept.refl X).alloc _).alloc _).alloc _).cellp c
  have c2 : ∀ o1 o2, ((X.alloc o1).alloc o2).cell? ⟨ab, 0, none⟩ = some (.slice va m vc) := fun _ _ => (((Kept.refl X).alloc _).alloc _).cellp c
  have HF := hidMk (And.intro hf1 hf2)
  have HM := hidMk (And.intro hm hl)
  clear h hm hl hf1 hf2
  by_cases hx : (x1, x2) = (y1, y2)
  · have heq : ∀ W, (Op.equalIn 10000 39 (.agg #[.int .i64 x1, .bool x2]) (.agg #[.int .i64 y1, .bool y2])).run Tryd.prog W = .ok true W := fun W => by rw [en_eq 9998, decide_eq_true hx]
    have HX := hidMk hx
    clear hx
    go_enter Tryd.func38, Tryd.ntmps38
    go_wp2_with fail
    go_end0
    refine ⟨rfl, ?_⟩
    rw [show sel j (x1, x2) (y1, y2) = [] from if_pos HX.out, List.append_nil]
    exact StepR.same HRW.out (((Kept.refl X).alloc _).alloc _)
  · have heq : ∀ W, (Op.equalIn 10000 39 (.agg #[.int .i64 x1, .bool x2]) (.agg #[.int .i64 y1, .bool y2])).run Tryd.prog W = .ok false W := fun W => by rw [en_eq 9998, decide_eq_false hx]
    have HX := hidMk hx
    clear hx
    go_enter Tryd.func38, Tryd.ntmps38
    go_wp2_with (at_builtin; refine wpList_pushI _ (by rfl) _ _ (by rfl) B (.slice va m vc) (acc.map fun x => x.1) (by rfl) (by unfold OwnI; rw [List.length_map, ← HM.out.1]; exact HF.out.1 _ ((((Kept.refl X).alloc _).alloc _).alloc _)) (by simp; omega) (X.heap.size + 1 + 1) j (by rfl) (new_cell_at _ _ _ (by simp)) (by have := HM.out; rw [List.length_map]; omega) (X.heap.size + 1 + 1 + 1) (by simp) ?_; intro g6 cap6 w6 o6 k6 a6 l6; have H6 := hidMk (And.intro o6 (And.intro (show (Value.slice va m vc).ownBlock = some g6 ∨ (X.heap.size + 1 + 1 + 1) ≤ g6 from by rcases a6 with e | e; exact .inl e; exact .inr (by omega)) l6)); have C6 := hidMk k6; obtain ⟨e1, ef⟩ := HF.out.2 _ _ ((((Kept.refl X).alloc _).alloc _).alloc _) C6.out; clear o6 k6 a6 l6)
    go_end0
    refine ⟨rfl, ?_⟩
    rw [show sel _ _ _ = [_] from if_neg (HX.out)]
    have hm := HM.out.1
    subst hm
    exact StepR.pushed HRW.out ((((Kept.refl X).alloc _).alloc _).alloc _) (by have := H6.out.1; unfold OwnI at this; rw [List.length_append, List.length_map, List.length_singleton] at this; unfold cfI; rw [List.map_append, List.map_append]; rw [List.map_append] at this; exact this) C6.out (by have := H6.out.2.1; simpa using this) H6.out.2.2
end
end Go.Proofs.YtjkbhaplngnniaaDoor
