/- Worlds that part in some blocks alone; rows of numbers. -/
import Derived.Test.YtifddieoekbnfaaDoorChecked
import Derived.Test.YtifddieoekbnfaaDoorOwn
import Derived.Maps.Own
import Derived.Deep.Draws
import Derived.WalkSpells
import Derived.WalkLawsBesides
import Derived.Deep.QuietTactic
import Derived.BigQuiet
import Derived.BigRegion
import Derived.Deep.LoopGhost
import Derived.Deep.DeepAppendWide
import Derived.Deep.AppendLies
import Derived.Maps.AppendAt
import Derived.Laws.ResultCell
namespace Go.Proofs.YtifddieoekbnfaaDoor
open Go.RowKit Go.Maps
set_option linter.unusedSimpArgs false
set_option linter.unusedVariables false

/-- All blocks but those of S are as they were. -/
structure Chg (S : Nat → Prop) (w w' : World) : Prop where
  os : w'.os = w.os
  tape : w'.tape = w.tape
  output : w'.output = w.output
  size : w.heap.size ≤ w'.heap.size
  block : ∀ j, j < w.heap.size → ¬ S j → w'.heap[j]? = w.heap[j]?
theorem Chg.refl (S : Nat → Prop) (w : World) : Chg S w w := ⟨rfl, rfl, rfl, Nat.le_refl _, fun _ _ _ => rfl⟩
theorem Chg.trans {S : Nat → Prop} {x y z : World} (h : Chg S x y) (k : Chg S y z) : Chg S x z :=
  ⟨k.os.trans h.os, k.tape.trans h.tape, k.output.trans h.output, Nat.le_trans h.size k.size, fun j hj hb => (k.block j (Nat.lt_of_lt_of_le hj h.size) hb).trans (h.block j hj hb)⟩
theorem Chg.mono {S S' : Nat → Prop} {x y : World} (h : Chg S x y) (hs : ∀ j, j < x.heap.size → S j → S' j) : Chg S' x y :=
  ⟨h.os, h.tape, h.output, h.size, fun j hj hb => h.block j hj (fun e => hb (hs j hj e))⟩
theorem Chg.of_kept {S : Nat → Prop} {x y : World} (h : Kept x y) : Chg S x y := ⟨h.os, h.tape, h.output, Below.size h, fun j hj _ => h.block j hj⟩
theorem Chg.drew {S : Nat → Prop} {x y : World} (h : Chg S x y) : Chg S x y.drew := ⟨h.os, h.tape, h.output, h.size, h.block⟩
theorem Chg.drewN {S : Nat → Prop} {x y : World} (h : Chg S x y) (q : Nat) : Chg S x (y.drewN q) := ⟨h.os, h.tape, h.output, h.size, h.block⟩
theorem Kept.drewN {a w : World} (h : Kept a w) (q : Nat) : Kept a (w.drewN q) := ⟨h.os, h.tape, h.output, h.size, h.block⟩
theorem Chg.alloc {S : Nat → Prop} {x y : World} (h : Chg S x y) (o : Obj) : Chg S x (y.alloc o) := h.trans (Chg.of_kept ((Kept.refl y).alloc o))
theorem Chg.setCell {S : Nat → Prop} {x y : World} (h : Chg S x y) {p : Addr} (hp : S p.block ∨ x.heap.size ≤ p.block) (u : Value) : Chg S x (y.setCell p u) :=
  ⟨h.os, h.tape, h.output, by simpa [World.setCell] using h.size, fun j hj hb => by
    rw [← h.block j hj hb]
    refine Below.heap_setCell _ _ _ _ (fun e => ?_)
    subst e
    rcases hp with hp | hp
    · exact hb hp
    · omega⟩
theorem Chg.grown {S : Nat → Prop} {x y z : World} {row : Option Nat} (h : Chg S x y) (hg : y.grownBy z row) (hr : ∀ k, row = some k → S k ∨ x.heap.size ≤ k) : Chg S x z :=
  ⟨hg.os.trans h.os, hg.tape.trans h.tape, hg.output.trans h.output, Nat.le_trans h.size hg.size, fun j hj hb => by
    rw [← h.block j hj hb]
    refine hg.block j (Nat.lt_of_lt_of_le hj h.size) (fun e => ?_)
    rcases hr j e.symm with g | g
    · exact hb g
    · omega⟩
theorem Chg.cell {S : Nat → Prop} {w w' : World} (h : Chg S w w') {p : Addr} (hp : p.block < w.heap.size) (hb : ¬ S p.block) : w'.cell? p = w.cell? p := by
  simp only [World.cell?, h.block p.block hp hb]
theorem Chg.frozen {S : Nat → Prop} {w w' : World} (h : Chg S w w') {p : Addr} (hp : p.block < w.heap.size) (hb : ¬ S p.block) : w'.frozen? p = w.frozen? p := by
  simp only [World.frozen?, h.block p.block hp hb]
/-- What was written lies above: nothing that was there has turned. -/
theorem Chg.kept {S : Nat → Prop} {w0 x y : World} (h : Kept w0 x) (k : Chg S x y) (hs : ∀ j, S j → w0.heap.size ≤ j) : Kept w0 y :=
  Below.trans h ⟨k.os, k.tape, k.output, k.size, fun j hj => k.block j (Nat.lt_of_lt_of_le hj h.size) (fun e => by have := hs j e; omega)⟩
theorem Chg.keptAll {x y : World} (k : Chg (fun _ => False) x y) : Kept x y := ⟨k.os, k.tape, k.output, k.size, fun j hj => k.block j hj (fun e => e)⟩
theorem Sl.chg {k : IntKind} {S : Nat → Prop} {w w' : World} {a : Option Addr} {n : Nat} {l : List Int} (h : Sl k w a n l) (g : Chg S w w') (hb : 0 < n → ∀ ad, a = some ad → ¬ S ad.block) : Sl k w' a n l :=
  ⟨h.len, h.big, fun hp => by
    obtain ⟨c, o, h1, h2, h3⟩ := h.cells hp
    refine ⟨c, o, h1, Nat.lt_of_lt_of_le h2 g.size, fun i hi => ?_⟩
    have hne : ¬ S c := hb hp ⟨c, o, none⟩ h1
    rw [g.cell (p := ⟨c, o + i, none⟩) h2 hne]
    exact h3 i hi⟩

theorem Kept.cellp {a w : World} (h : Kept a w) {b o : Nat} {v : Value} (hc : a.cell? ⟨b, o, none⟩ = some v) : w.cell? ⟨b, o, none⟩ = some v := (h.cell (p := ⟨b, o, none⟩) (show b < a.heap.size from cell_lt hc)).trans hc
theorem Chg.cellp {S : Nat → Prop} {a w : World} (h : Chg S a w) {b o : Nat} {v : Value} (hc : a.cell? ⟨b, o, none⟩ = some v) (hs : ¬ S b) : w.cell? ⟨b, o, none⟩ = some v := (h.cell (p := ⟨b, o, none⟩) (show b < a.heap.size from cell_lt hc) hs).trans hc

theorem Chg.thn {S S' : Nat → Prop} {x y z : World} (h : Chg S x y) (k : Chg S' y z) (hs : ∀ j, j < x.heap.size → S' j → S j) : Chg S x z :=
  ⟨k.os.trans h.os, k.tape.trans h.tape, k.output.trans h.output, Nat.le_trans h.size k.size, fun j hj hb => (k.block j (Nat.lt_of_lt_of_le hj h.size) (fun e => hb (hs j hj e))).trans (h.block j hj hb)⟩
theorem gen_world {f : World → Prop} {W : World} (P : World → Prop) (h : P W) (k : ∀ W', P W' → f W') : f W := k W h
/-- Places in a row from block B on. -/
def OwnI (w : World) (B : Nat) (v : Value) (l : List Int) : Prop := w.ownsRow B 3 1 v l.length (l.map (Value.int .i64))
theorem ownI_nil (w : World) (B : Nat) : OwnI w B (.slice none 0 0) [] := World.ownsRow_nil _ _ _ _
theorem OwnI.sl {w : World} {B : Nat} {v : Value} {l : List Int} (h : OwnI w B v l) (hm : l.length ≤ maxLen) : ∃ a c, v = .slice a l.length c ∧ Sl .i64 w a l.length l := own_sl rfl hm h
theorem OwnI.base {w : World} {B B' : Nat} {v : Value} {l : List Int} (h : OwnI w B v l) (hB : B' ≤ B) : OwnI w B' v l := by
  obtain ⟨h0, h1 | ⟨g, cap, cur, hv, hb, r⟩⟩ := h
  · exact ⟨h0, .inl h1⟩
  · exact ⟨h0, .inr ⟨g, cap, cur, hv, Nat.le_trans hB hb, r⟩⟩
theorem OwnI.lt {w : World} {B : Nat} {v : Value} {l : List Int} (h : OwnI w B v l) : ∀ g, v.ownBlock = some g → B ≤ g ∧ g < w.heap.size := World.ownsRow.lt h
theorem OwnI.chg {S : Nat → Prop} {w w' : World} {B : Nat} {v : Value} {l : List Int} (h : OwnI w B v l) (g : Chg S w w') (hb : ∀ k, v.ownBlock = some k → ¬ S k) : OwnI w' B v l := by
  have hlt := h.lt
  obtain ⟨h0, h1 | ⟨k, cap, cur, hv, hb', hh, r⟩⟩ := h
  · exact ⟨h0, .inl h1⟩
  · subst hv
    refine ⟨h0, .inr ⟨k, cap, cur, rfl, hb', ?_, r⟩⟩
    rw [g.block k (hlt k rfl).2 (hb k rfl)]
    exact hh
theorem iinfo : ∃ i0, Tryd.prog.info? 3 = some i0 ∧ i0.zero = some (.int .i64 0) ∧ i0.size = 1 ∧ i0.bytes = 8 := by
  have h : (Tryd.prog.info? 3).map (fun i => (i.zero, i.size, i.bytes)) = some (some (.int .i64 0), 1, 8) := by kernel_rfl
  exact info_parts h
theorem ints_one (l : List Int) : ∀ u ∈ l.map (Value.int .i64), u.oneCell' = true := by
  intro u hu
  obtain ⟨x, _, rfl⟩ := List.mem_map.1 hu
  rfl
theorem cell_news {w : World} {g : Nat} {y : Int} (h : w.cell? ⟨g, 0, none⟩ = some (.int .i64 y)) : ∀ (j : Nat) u, [Value.int .i64 y][j]? = some u → w.cell? ((⟨g, 0, none⟩ : Addr).add j) = some u := by
  intro j u hj
  cases j with
  | zero => simp at hj; subst hj; simpa [Addr.add] using h
  | succ j => simp at hj
theorem sl_newsI {w : World} {a : Option Addr} {n : Nat} {l : List Int} (h : Sl .i64 w a n l) {ad : Addr} (ha : a = some ad) : ∀ (j : Nat) u, (l.map (Value.int .i64))[j]? = some u → w.cell? (ad.add j) = some u := by
  intro j u hj
  have hjn : j < n := by
    have := (List.getElem?_eq_some_iff.1 hj).1
    have := h.len
    simp at *; omega
  obtain ⟨bb, oo, e, _, hcs⟩ := h.cells (by omega)
  rw [ha] at e
  cases e
  have hl := h.len
  rw [Addr.add_lit, hcs j hjn, ← hj, List.getElem?_map, List.getElem?_eq_getElem (by omega)]
  simp [List.getD, List.getElem?_eq_getElem (show j < l.length by omega)]

end Go.Proofs.YtifddieoekbnfaaDoor
