/- A tree's cells that are written; members below each other in order. · Those just below each member: the first loop of tree.lay. · Members gone down in order: the closure of tree.lay. · Rows of integers, worlds by blocks: out of the texts of trees. -/
import Derived.Test.YtpehinmckppjoaaGreatDoorWTree4B
import Derived.Laws.EntriesVeiled
import Derived.Deep.RegionHeld3
import Derived.Maps.Own
import Derived.Deep.Draws
import Derived.WalkSpells
import Derived.WalkLawsBesides
import Derived.Deep.QuietTactic
import Derived.BigQuiet
import Derived.BigRegion
import Derived.Deep.LoopGhost
import Derived.Deep.DeepAppendWide
import Derived.Deep.AppendLies
import Derived.Maps.AppendAt
import Derived.Laws.ResultCell
namespace Go.Proofs.YtpehinmckppjoaaGreatDoor
open Go.RowKit Go.Maps
set_option linter.unusedSimpArgs false
set_option linter.unusedVariables false

theorem TM.setK {w : World} {p mb pb : Nat} {l : List Nd} {kv : Nat → Option Addr × Nat × Nat} {rk fr to : Nat → Int} {ov lv : Value} (h : TM w p mb pb l kv rk fr to ov lv) (i : Nat) (hi : i < l.length) (x : Option Addr × Nat × Nat) : TM (w.setCell ⟨mb, i * 6 + 2, none⟩ (slv x)) p mb pb l (fun j => if j = i then x else kv j) rk fr to ov lv := by
  have hne := h.ne
  refine ⟨⟨(World.cell?_setCell_other _ _ _ _ (by intro e; simp only [Addr.mk.injEq] at e; omega)).trans h.c0, fun j hj => (World.cell?_setCell_other _ _ _ _ (by intro e; simp only [Addr.mk.injEq] at e; omega)).trans (h.nm j hj), fun j hj => (World.cell?_setCell_other _ _ _ _ (by intro e; simp only [Addr.mk.injEq] at e; omega)).trans (h.up j hj), h.big, h.nmb, h.upb⟩, (World.cell?_setCell_other _ _ _ _ (by intro e; simp only [Addr.mk.injEq] at e; omega)).trans h.c1, (World.cell?_setCell_other _ _ _ _ (by intro e; simp only [Addr.mk.injEq] at e; omega)).trans h.c2, (World.cell?_setCell_other _ _ _ _ (by intro e; simp only [Addr.mk.injEq] at e; omega)).trans h.c3, ?_, ?_, ?_, ?_, fun j => by simpa using h.fz j, fun j => by simpa using h.fm j, ?_, h.ne⟩
  · exact fun j hj => by
      by_cases e : j = i
      · subst e; simp only [if_true]; exact World.cell?_setCell_same _ _ _ (h.kd j hj)
      · simp only [e, if_false]; exact (World.cell?_setCell_other _ _ _ _ (by intro e; simp only [Addr.mk.injEq] at e; omega)).trans (h.kd j hj)
  · exact fun j hj => (World.cell?_setCell_other _ _ _ _ (by intro e; simp only [Addr.mk.injEq] at e; omega)).trans (h.rk j hj)
  · exact fun j hj => (World.cell?_setCell_other _ _ _ _ (by intro e; simp only [Addr.mk.injEq] at e; omega)).trans (h.fr j hj)
  · exact fun j hj => (World.cell?_setCell_other _ _ _ _ (by intro e; simp only [Addr.mk.injEq] at e; omega)).trans (h.to j hj)
  · obtain ⟨n, hn, hm⟩ := h.pm
    exact ⟨n, hn, hm.chg ((Chg.refl (· = mb) w).setCell (p := ⟨mb, i * 6 + 2, none⟩) (.inl rfl) _) (fun e => hne.2.2 e.symm)⟩
theorem TM.setRk {w : World} {p mb pb : Nat} {l : List Nd} {kv : Nat → Option Addr × Nat × Nat} {rk fr to : Nat → Int} {ov lv : Value} (h : TM w p mb pb l kv rk fr to ov lv) (i : Nat) (hi : i < l.length) (x : Int) : TM (w.setCell ⟨mb, i * 6 + 3, none⟩ (.int .i64 x)) p mb pb l kv (fun j => if j = i then x else rk j) fr to ov lv := by
  have hne := h.ne
  refine ⟨⟨(World.cell?_setCell_other _ _ _ _ (by intro e; simp only [Addr.mk.injEq] at e; omega)).trans h.c0, fun j hj => (World.cell?_setCell_other _ _ _ _ (by intro e; simp only [Addr.mk.injEq] at e; omega)).trans (h.nm j hj), fun j hj => (World.cell?_setCell_other _ _ _ _ (by intro e; simp only [Addr.mk.injEq] at e; omega)).trans (h.up j hj), h.big, h.nmb, h.upb⟩, (World.cell?_setCell_other _ _ _ _ (by intro e; simp only [Addr.mk.injEq] at e; omega)).trans h.c1, (World.cell?_setCell_other _ _ _ _ (by intro e; simp only [Addr.mk.injEq] at e; omega)).trans h.c2, (World.cell?_setCell_other _ _ _ _ (by intro e; simp only [Addr.mk.injEq] at e; omega)).trans h.c3, ?_, ?_, ?_, ?_, fun j => by simpa using h.fz j, fun j => by simpa using h.fm j, ?_, h.ne⟩
  · exact fun j hj => (World.cell?_setCell_other _ _ _ _ (by intro e; simp only [Addr.mk.injEq] at e; omega)).trans (h.kd j hj)
  · exact fun j hj => by
      by_cases e : j = i
      · subst e; simp only [if_true]; exact World.cell?_setCell_same _ _ _ (h.rk j hj)
      · simp only [e, if_false]; exact (World.cell?_setCell_other _ _ _ _ (by intro e; simp only [Addr.mk.injEq] at e; omega)).trans (h.rk j hj)
  · exact fun j hj => (World.cell?_setCell_other _ _ _ _ (by intro e; simp only [Addr.mk.injEq] at e; omega)).trans (h.fr j hj)
  · exact fun j hj => (World.cell?_setCell_other _ _ _ _ (by intro e; simp only [Addr.mk.injEq] at e; omega)).trans (h.to j hj)
  · obtain ⟨n, hn, hm⟩ := h.pm
    exact ⟨n, hn, hm.chg ((Chg.refl (· = mb) w).setCell (p := ⟨mb, i * 6 + 3, none⟩) (.inl rfl) _) (fun e => hne.2.2 e.symm)⟩
theorem TM.setFr {w : World} {p mb pb : Nat} {l : List Nd} {kv : Nat → Option Addr × Nat × Nat} {rk fr to : Nat → Int} {ov lv : Value} (h : TM w p mb pb l kv rk fr to ov lv) (i : Nat) (hi : i < l.length) (x : Int) : TM (w.setCell ⟨mb, i * 6 + 4, none⟩ (.int .i64 x)) p mb pb l kv rk (fun j => if j = i then x else fr j) to ov lv := by
  have hne := h.ne
  refine ⟨⟨(World.cell?_setCell_other _ _ _ _ (by intro e; simp only [Addr.mk.injEq] at e; omega)).trans h.c0, fun j hj => (World.cell?_setCell_other _ _ _ _ (by intro e; simp only [Addr.mk.injEq] at e; omega)).trans (h.nm j hj), fun j hj => (World.cell?_setCell_other _ _ _ _ (by intro e; simp only [Addr.mk.injEq] at e; omega)).trans (h.up j hj), h.big, h.nmb, h.upb⟩, (World.cell?_setCell_other _ _ _ _ (by intro e; simp only [Addr.mk.injEq] at e; omega)).trans h.c1, (World.cell?_setCell_other _ _ _ _ (by intro e; simp only [Addr.mk.injEq] at e; omega)).trans h.c2, (World.cell?_setCell_other _ _ _ _ (by intro e; simp only [Addr.mk.injEq] at e; omega)).trans h.c3, ?_, ?_, ?_, ?_, fun j => by simpa using h.fz j, fun j => by simpa using h.fm j, ?_, h.ne⟩
  · exact fun j hj => (World.cell?_setCell_other _ _ _ _ (by intro e; simp only [Addr.mk.injEq] at e; omega)).trans (h.kd j hj)
  · exact fun j hj => (World.cell?_setCell_other _ _ _ _ (by intro e; simp only [Addr.mk.injEq] at e; omega)).trans (h.rk j hj)
  · exact fun j hj => by
      by_cases e : j = i
      · subst e; simp only [if_true]; exact World.cell?_setCell_same _ _ _ (h.fr j hj)
      · simp only [e, if_false]; exact (World.cell?_setCell_other _ _ _ _ (by intro e; simp only [Addr.mk.injEq] at e; omega)).trans (h.fr j hj)
  · exact fun j hj => (World.cell?_setCell_other _ _ _ _ (by intro e; simp only [Addr.mk.injEq] at e; omega)).trans (h.to j hj)
  · obtain ⟨n, hn, hm⟩ := h.pm
    exact ⟨n, hn, hm.chg ((Chg.refl (· = mb) w).setCell (p := ⟨mb, i * 6 + 4, none⟩) (.inl rfl) _) (fun e => hne.2.2 e.symm)⟩
theorem TM.setTo {w : World} {p mb pb : Nat} {l : List Nd} {kv : Nat → Option Addr × Nat × Nat} {rk fr to : Nat → Int} {ov lv : Value} (h : TM w p mb pb l kv rk fr to ov lv) (i : Nat) (hi : i < l.length) (x : Int) : TM (w.setCell ⟨mb, i * 6 + 5, none⟩ (.int .i64 x)) p mb pb l kv rk fr (fun j => if j = i then x else to j) ov lv := by
  have hne := h.ne
  refine ⟨⟨(World.cell?_setCell_other _ _ _ _ (by intro e; simp only [Addr.mk.injEq] at e; omega)).trans h.c0, fun j hj => (World.cell?_setCell_other _ _ _ _ (by intro e; simp only [Addr.mk.injEq] at e; omega)).trans (h.nm j hj), fun j hj => (World.cell?_setCell_other _ _ _ _ (by intro e; simp only [Addr.mk.injEq] at e; omega)).trans (h.up j hj), h.big, h.nmb, h.upb⟩, (World.cell?_setCell_other _ _ _ _ (by intro e; simp only [Addr.mk.injEq] at e; omega)).trans h.c1, (World.cell?_setCell_other _ _ _ _ (by intro e; simp only [Addr.mk.injEq] at e; omega)).trans h.c2, (World.cell?_setCell_other _ _ _ _ (by intro e; simp only [Addr.mk.injEq] at e; omega)).trans h.c3, ?_, ?_, ?_, ?_, fun j => by simpa using h.fz j, fun j => by simpa using h.fm j, ?_, h.ne⟩
  · exact fun j hj => (World.cell?_setCell_other _ _ _ _ (by intro e; simp only [Addr.mk.injEq] at e; omega)).trans (h.kd j hj)
  · exact fun j hj => (World.cell?_setCell_other _ _ _ _ (by intro e; simp only [Addr.mk.injEq] at e; omega)).trans (h.rk j hj)
  · exact fun j hj => (World.cell?_setCell_other _ _ _ _ (by intro e; simp only [Addr.mk.injEq] at e; omega)).trans (h.fr j hj)
  · exact fun j hj => by
      by_cases e : j = i
      · subst e; simp only [if_true]; exact World.cell?_setCell_same _ _ _ (h.to j hj)
      · simp only [e, if_false]; exact (World.cell?_setCell_other _ _ _ _ (by intro e; simp only [Addr.mk.injEq] at e; omega)).trans (h.to j hj)
  · obtain ⟨n, hn, hm⟩ := h.pm
    exact ⟨n, hn, hm.chg ((Chg.refl (· = mb) w).setCell (p := ⟨mb, i * 6 + 5, none⟩) (.inl rfl) _) (fun e => hne.2.2 e.symm)⟩
theorem TM.setO {w : World} {p mb pb : Nat} {l : List Nd} {kv : Nat → Option Addr × Nat × Nat} {rk fr to : Nat → Int} {ov lv : Value} (h : TM w p mb pb l kv rk fr to ov lv) (x : Value) : TM (w.setCell ⟨p, 2, none⟩ x) p mb pb l kv rk fr to x lv := by
  have hne := h.ne
  refine ⟨⟨(World.cell?_setCell_other _ _ _ _ (by intro e; simp only [Addr.mk.injEq] at e; omega)).trans h.c0, fun j hj => (World.cell?_setCell_other _ _ _ _ (by intro e; simp only [Addr.mk.injEq] at e; omega)).trans (h.nm j hj), fun j hj => (World.cell?_setCell_other _ _ _ _ (by intro e; simp only [Addr.mk.injEq] at e; omega)).trans (h.up j hj), h.big, h.nmb, h.upb⟩, (World.cell?_setCell_other _ _ _ _ (by intro e; simp only [Addr.mk.injEq] at e; omega)).trans h.c1, World.cell?_setCell_same _ _ _ h.c2, (World.cell?_setCell_other _ _ _ _ (by intro e; simp only [Addr.mk.injEq] at e; omega)).trans h.c3, fun j hj => (World.cell?_setCell_other _ _ _ _ (by intro e; simp only [Addr.mk.injEq] at e; omega)).trans (h.kd j hj), fun j hj => (World.cell?_setCell_other _ _ _ _ (by intro e; simp only [Addr.mk.injEq] at e; omega)).trans (h.rk j hj), fun j hj => (World.cell?_setCell_other _ _ _ _ (by intro e; simp only [Addr.mk.injEq] at e; omega)).trans (h.fr j hj), fun j hj => (World.cell?_setCell_other _ _ _ _ (by intro e; simp only [Addr.mk.injEq] at e; omega)).trans (h.to j hj), fun j => by simpa using h.fz j, fun j => by simpa using h.fm j, ?_, h.ne⟩
  obtain ⟨n, hn, hm⟩ := h.pm
  exact ⟨n, hn, hm.chg ((Chg.refl (· = p) w).setCell (p := ⟨p, 2, none⟩) (.inl rfl) _) (fun e => hne.2.1 e.symm)⟩
theorem TM.setL {w : World} {p mb pb : Nat} {l : List Nd} {kv : Nat → Option Addr × Nat × Nat} {rk fr to : Nat → Int} {ov lv : Value} (h : TM w p mb pb l kv rk fr to ov lv) (x : Value) : TM (w.setCell ⟨p, 3, none⟩ x) p mb pb l kv rk fr to ov x := by
  have hne := h.ne
  refine ⟨⟨(World.cell?_setCell_other _ _ _ _ (by intro e; simp only [Addr.mk.injEq] at e; omega)).trans h.c0, fun j hj => (World.cell?_setCell_other _ _ _ _ (by intro e; simp only [Addr.mk.injEq] at e; omega)).trans (h.nm j hj), fun j hj => (World.cell?_setCell_other _ _ _ _ (by intro e; simp only [Addr.mk.injEq] at e; omega)).trans (h.up j hj), h.big, h.nmb, h.upb⟩, (World.cell?_setCell_other _ _ _ _ (by intro e; simp only [Addr.mk.injEq] at e; omega)).trans h.c1, (World.cell?_setCell_other _ _ _ _ (by intro e; simp only [Addr.mk.injEq] at e; omega)).trans h.c2, World.cell?_setCell_same _ _ _ h.c3, fun j hj => (World.cell?_setCell_other _ _ _ _ (by intro e; simp only [Addr.mk.injEq] at e; omega)).trans (h.kd j hj), fun j hj => (World.cell?_setCell_other _ _ _ _ (by intro e; simp only [Addr.mk.injEq] at e; omega)).trans (h.rk j hj), fun j hj => (World.cell?_setCell_other _ _ _ _ (by intro e; simp only [Addr.mk.injEq] at e; omega)).trans (h.fr j hj), fun j hj => (World.cell?_setCell_other _ _ _ _ (by intro e; simp only [Addr.mk.injEq] at e; omega)).trans (h.to j hj), fun j => by simpa using h.fz j, fun j => by simpa using h.fm j, ?_, h.ne⟩
  obtain ⟨n, hn, hm⟩ := h.pm
  exact ⟨n, hn, hm.chg ((Chg.refl (· = p) w).setCell (p := ⟨p, 3, none⟩) (.inl rfl) _) (fun e => hne.2.1 e.symm)⟩
theorem Kept.cellp {a w : World} (h : Kept a w) {b o : Nat} {v : Value} (hc : a.cell? ⟨b, o, none⟩ = some v) : w.cell? ⟨b, o, none⟩ = some v := (h.cell (p := ⟨b, o, none⟩) (show b < a.heap.size from cell_lt hc)).trans hc
theorem Chg.cellp {S : Nat → Prop} {a w : World} (h : Chg S a w) {b o : Nat} {v : Value} (hc : a.cell? ⟨b, o, none⟩ = some v) (hs : ¬ S b) : w.cell? ⟨b, o, none⟩ = some v := (h.cell (p := ⟨b, o, none⟩) (show b < a.heap.size from cell_lt hc) hs).trans hc

theorem Chg.thn {S S' : Nat → Prop} {x y z : World} (h : Chg S x y) (k : Chg S' y z) (hs : ∀ j, j < x.heap.size → S' j → S j) : Chg S x z :=
  ⟨k.os.trans h.os, k.tape.trans h.tape, k.output.trans h.output, Nat.le_trans h.size k.size, fun j hj hb => (k.block j (Nat.lt_of_lt_of_le hj h.size) (fun e => hb (hs j hj e))).trans (h.block j hj hb)⟩
/-- Those just below one, among the first k members. -/
def kidK (l : List Nd) (k : Nat) (j : Int) : List Nat := (List.range k).filter fun i => decide (upA l i = j)
def kidN (l : List Nd) (j : Int) : List Nat := kidK l l.length j
def ints (l : List Nat) : List Int := l.map Int.ofNat
theorem ints_len (l : List Nat) : (ints l).length = l.length := by simp [ints]
theorem ints_app (a b : List Nat) : ints (a ++ b) = ints a ++ ints b := by simp [ints]
theorem ints_get (l : List Nat) (i : Nat) (h : i < l.length) : (ints l).getD i 0 = (l[i] : Nat) := by
  simp [ints, List.getD, List.getElem?_map, List.getElem?_eq_getElem h]
theorem kidK_succ (l : List Nd) (k : Nat) (j : Int) : kidK l (k + 1) j = if upA l k = j then kidK l k j ++ [k] else kidK l k j := by
  unfold kidK
  rw [List.range_succ, List.filter_append]
  by_cases e : upA l k = j <;> simp [e]
theorem kidK_len (l : List Nd) (k : Nat) (j : Int) : (kidK l k j).length ≤ k := by
  unfold kidK
  have := List.length_filter_le (fun i => decide (upA l i = j)) (List.range k)
  simpa using this
theorem mem_kidN {l : List Nd} {j : Int} {i : Nat} : i ∈ kidN l j ↔ i < l.length ∧ upA l i = j := by
  unfold kidN kidK
  simp [List.mem_filter]
end Go.Proofs.YtpehinmckppjoaaGreatDoor
namespace Go.Proofs.YtpehinmckppjoaaGreatDoor
open Go.RowKit Go.Maps
set_option linter.unusedSimpArgs false
set_option linter.unusedVariables false

/-- The first k members are below those above them. -/
structure LayR (w0 wr : World) (B p mb pb k : Nat) (l : List Nd) (kv : Nat → Option Addr × Nat × Nat) (tv : Value) : Prop where
  chg : Chg (· = mb) w0 wr
  tm : TM wr p mb pb l kv (fun _ => -1) (fun _ => 0) (fun _ => 0) (.slice none 0 0) (.slice none 0 0)
  kids : ∀ j : Nat, j < l.length → OwnI wr B (slv (kv j)) (ints (kidK l k j))
  tops : OwnI wr B tv (ints (kidK l k (-1)))
  ap : ∀ j, j < l.length → ∀ j', j' < l.length → j ≠ j' → ∀ g, (slv (kv j)).ownBlock = some g → (slv (kv j')).ownBlock ≠ some g
  apt : ∀ j, j < l.length → ∀ g, (slv (kv j)).ownBlock = some g → tv.ownBlock ≠ some g
  lt : p < B ∧ mb < B ∧ pb < B ∧ B = w0.heap.size
theorem LayR.kept {w0 x y : World} {B p mb pb k : Nat} {l : List Nd} {kv : Nat → Option Addr × Nat × Nat} {tv : Value} (h : LayR w0 x B p mb pb k l kv tv) (g : Kept x y) (h1 : 1 ≤ l.length) : LayR w0 y B p mb pb k l kv tv :=
  ⟨h.chg.trans (Chg.of_kept g), h.tm.kept g h1, fun j hj => (h.kids j hj).chg (S := fun _ => False) (Chg.of_kept g) (fun _ _ e => e), h.tops.chg (S := fun _ => False) (Chg.of_kept g) (fun _ _ e => e), h.ap, h.apt, h.lt⟩
/-- A member that none is above. -/
theorem LayR.top {w0 x y : World} {B p mb pb k : Nat} {l : List Nd} {kv : Nat → Option Addr × Nat × Nat} {tv : Value} (h : LayR w0 x B p mb pb k l kv tv) (h1 : 1 ≤ l.length) (hu : upA l k = -1)
    {g cap : Nat} {nl : Nat} (ho : OwnI y B (.slice (some ⟨g, 0, none⟩) nl cap) (ints (kidK l k (-1)) ++ [(k : Int)])) (hc : Chg (fun t => tv.ownBlock = some t) x y) (hg : tv.ownBlock = some g ∨ g = x.heap.size) :
    LayR w0 y B p mb pb (k + 1) l kv (.slice (some ⟨g, 0, none⟩) nl cap) := by
  have hlt := h.lt
  have hB : ∀ t, tv.ownBlock = some t → B ≤ t ∧ t < x.heap.size := h.tops.lt
  have n1 : ¬ tv.ownBlock = some p := fun e => by have := hB p e; omega
  have n2 : ¬ tv.ownBlock = some mb := fun e => by have := hB mb e; omega
  have n3 : ¬ tv.ownBlock = some pb := fun e => by have := hB pb e; omega
  refine ⟨h.chg.thn hc (fun j hj e => by have := hB j e; omega), h.tm.chg hc n1 n2 n3 h1, fun j hj => ?_, ?_, h.ap, fun j hj g' e => ?_, hlt⟩
  · rw [kidK_succ, if_neg (by omega)]
    exact (h.kids j hj).chg hc (fun t e e' => h.apt j hj t e e')
  · rw [kidK_succ, if_pos hu, ints_app]
    exact ho
  · have h2 := h.apt j hj g' e
    have h3 := (h.kids j hj).lt g' e
    simp only [Value.ownBlock, ne_eq, Option.some.injEq]
    rcases hg with hg | hg
    · intro e2; subst e2; exact h2 hg
    · omega
/-- A member below another one. -/
theorem LayR.kid {w0 x y : World} {B p mb pb k u : Nat} {l : List Nd} {kv : Nat → Option Addr × Nat × Nat} {tv : Value} (h : LayR w0 x B p mb pb k l kv tv) (h1 : 1 ≤ l.length) (hu : upA l k = u) (hul : u < l.length)
    {g cap : Nat} {nl : Nat} (ho : OwnI y B (.slice (some ⟨g, 0, none⟩) nl cap) (ints (kidK l k u) ++ [(k : Int)])) (hc : Chg (fun t => (slv (kv u)).ownBlock = some t) x y) (hg : (slv (kv u)).ownBlock = some g ∨ g = x.heap.size) :
    LayR w0 (y.setCell ⟨mb, u * 6 + 2, none⟩ (.slice (some ⟨g, 0, none⟩) nl cap)) B p mb pb (k + 1) l (fun j => if j = u then (some ⟨g, 0, none⟩, nl, cap) else kv j) tv := by
  have hlt := h.lt
  have hB : ∀ t, (slv (kv u)).ownBlock = some t → B ≤ t ∧ t < x.heap.size := (h.kids u hul).lt
  have n1 : ¬ (slv (kv u)).ownBlock = some p := fun e => by have := hB p e; omega
  have n2 : ¬ (slv (kv u)).ownBlock = some mb := fun e => by have := hB mb e; omega
  have n3 : ¬ (slv (kv u)).ownBlock = some pb := fun e => by have := hB pb e; omega
  have c2 : Chg (· = mb) y (y.setCell ⟨mb, u * 6 + 2, none⟩ (.slice (some ⟨g, 0, none⟩) nl cap)) := (Chg.refl (· = mb) y).setCell (p := ⟨mb, u * 6 + 2, none⟩) (.inl rfl) _
  have gB : B ≤ g := (ho.lt g rfl).1
  refine ⟨(h.chg.thn hc (fun j hj e => by have := hB j e; omega)).trans c2, (h.tm.chg hc n1 n2 n3 h1).setK u hul (some ⟨g, 0, none⟩, nl, cap), fun j hj => ?_, ?_, fun j hj j' hj' hne g' e => ?_, fun j hj g' e => ?_, hlt⟩
  · by_cases e : j = u
    · subst e
      rw [kidK_succ, if_pos hu, ints_app]
      show OwnI _ B (slv (if j = j then _ else _)) _
      rw [if_pos rfl]
      exact ho.chg c2 (fun t e => by simp [Value.ownBlock, slv] at e; omega)
    · have ek : kidK l (k + 1) j = kidK l k j := by rw [kidK_succ, if_neg (by omega)]
      rw [ek]
      show OwnI _ B (slv (if j = u then _ else _)) _
      rw [if_neg e]
      exact ((h.kids j hj).chg hc (fun t e1 e2 => h.ap j hj u hul e t e1 e2)).chg c2 (fun t e1 => by have := ((h.kids j hj).lt t e1).1; omega)
  · rw [kidK_succ, if_neg (by omega)]
    exact (h.tops.chg hc (fun t e1 e2 => h.apt u hul t e2 e1)).chg c2 (fun t e1 => by have := (h.tops.lt t e1).1; omega)
  · by_cases e1 : j = u
    · subst e1
      have e2 : j' ≠ j := fun x => hne x.symm
      simp only [if_true, slv, Value.ownBlock, Option.some.injEq] at e
      simp only [e2, if_false]
      intro e3
      subst e
      rcases hg with hg | hg
      · exact h.ap j hj j' hj' hne g hg e3
      · have := ((h.kids j' hj').lt g e3).2; omega
    · simp only [e1, if_false] at e
      by_cases e2 : j' = u
      · subst e2
        simp only [if_true, slv, Value.ownBlock, ne_eq, Option.some.injEq]
        intro e3
        subst e3
        rcases hg with hg | hg
        · exact h.ap j hj j' hj' hne g e hg
        · have := ((h.kids j hj).lt g e).2; omega
      · simp only [e2, if_false]
        exact h.ap j hj j' hj' hne g' e
  · by_cases e1 : j = u
    · subst e1
      simp only [if_true, slv, Value.ownBlock, Option.some.injEq] at e
      intro e3
      subst e
      rcases hg with hg | hg
      · exact h.apt j hj g hg e3
      · have := (h.tops.lt g e3).2; omega
    · simp only [e1, if_false] at e
      exact h.apt j hj g' e
end Go.Proofs.YtpehinmckppjoaaGreatDoor
namespace Go.Proofs.YtpehinmckppjoaaGreatDoor
open Go.RowKit Go.Maps
set_option linter.unusedSimpArgs false
set_option linter.unusedVariables false

def dfsL (l : List Nd) : Nat → List Nat → List Nat
  | 0, _ => []
  | d + 1, ps => ps.flatMap fun i => i :: dfsL l d (kidN l i)
/-- Ways down from these are no longer than d. -/
def Fit (l : List Nd) : Nat → List Nat → Prop
  | 0, ps => ps = []
  | d + 1, ps => ∀ i ∈ ps, Fit l d (kidN l i)
def leafB (l : List Nd) (i : Nat) : Bool := (kidN l i).isEmpty
theorem fit_more {l : List Nd} {d : Nat} {ps : List Nat} (h : Fit l d ps) : Fit l (d + 1) ps ∧ dfsL l (d + 1) ps = dfsL l d ps := by
  induction d generalizing ps with
  | zero =>
    have : ps = [] := h
    subst this
    exact ⟨fun i hi => by simp at hi, rfl⟩
  | succ d ih =>
    refine ⟨fun i hi => (ih (h i hi)).1, ?_⟩
    show (ps.flatMap fun i => i :: dfsL l (d + 1) (kidN l i)) = ps.flatMap fun i => i :: dfsL l d (kidN l i)
    have e : ∀ (qs : List Nat), (∀ i ∈ qs, i ∈ ps) → (qs.flatMap fun i => i :: dfsL l (d + 1) (kidN l i)) = qs.flatMap fun i => i :: dfsL l d (kidN l i) := by
      intro qs hq
      induction qs with
      | nil => rfl
      | cons a r ihr =>
        simp only [List.flatMap_cons]
        rw [(ih (h a (hq a (List.mem_cons_self ..)))).2, ihr (fun i hi => hq i (List.mem_cons_of_mem _ hi))]
    exact e ps (fun i hi => hi)
theorem fit_le {l : List Nd} {d e : Nat} {ps : List Nat} (h : Fit l d ps) (he : d ≤ e) : Fit l e ps ∧ dfsL l e ps = dfsL l d ps := by
  induction e with
  | zero =>
    have : d = 0 := by omega
    subst this
    exact ⟨h, rfl⟩
  | succ e ih =>
    by_cases hd : d = e + 1
    · subst hd; exact ⟨h, rfl⟩
    · obtain ⟨h1, h2⟩ := ih (by omega)
      obtain ⟨h3, h4⟩ := fit_more h1
      exact ⟨h3, h4.trans h2⟩
def sub (l : List Nd) (i : Nat) : List Nat := dfsL l 8 [i]
def lvS (l : List Nd) (i : Nat) : List Nat := (sub l i).filter (leafB l)
theorem sub_eq {l : List Nd} {d i : Nat} (h : Fit l d (kidN l i)) (hd : d ≤ 7) : sub l i = i :: dfsL l d (kidN l i) := by
  show ([i].flatMap fun i => i :: dfsL l 7 (kidN l i)) = _
  simp only [List.flatMap_cons, List.flatMap_nil, List.append_nil]
  rw [(fit_le h hd).2]
theorem dfsL_app (l : List Nd) (d : Nat) (a b : List Nat) : dfsL l d (a ++ b) = dfsL l d a ++ dfsL l d b := by
  cases d with
  | zero => rfl
  | succ d => simp [dfsL, List.flatMap_append]
/-- The leaves of i stand together in L, from fr i on, up to ahead of to i. -/
def Spn (l : List Nd) (L : List Nat) (rk fr to : Nat → Int) (i : Nat) : Prop :=
  ∃ A C, L = A ++ lvS l i ++ C ∧ fr i = A.length ∧ to i = A.length + (lvS l i).length ∧ (leafB l i = true → rk i = A.length)
theorem Spn.more {l : List Nd} {L : List Nat} {rk fr to : Nat → Int} {i : Nat} (h : Spn l L rk fr to i) (M : List Nat) : Spn l (L ++ M) rk fr to i := by
  obtain ⟨A, C, h1, h2⟩ := h
  exact ⟨A, C ++ M, by rw [h1]; simp, h2⟩
theorem Spn.same {l : List Nd} {L : List Nat} {rk fr to rk' fr' to' : Nat → Int} {i : Nat} (h : Spn l L rk fr to i) (e1 : rk' i = rk i) (e2 : fr' i = fr i) (e3 : to' i = to i) : Spn l L rk' fr' to' i := by
  obtain ⟨A, C, h1, h2, h3, h4⟩ := h
  exact ⟨A, C, h1, e2.trans h2, e3.trans h3, fun x => e1.trans (h4 x)⟩
/-- A tree while it is gone down. -/
structure DR (w0 wr : World) (p mb pb : Nat) (l : List Nd) (kv : Nat → Option Addr × Nat × Nat) (rk fr to : Nat → Int) (ov lv : Value) (O L : List Nat) : Prop where
  chg : Chg (fun j => j = p ∨ j = mb) w0 wr
  tm : TM wr p mb pb l kv rk fr to ov lv
  ord : OwnI wr w0.heap.size ov (ints O)
  lvs : OwnI wr w0.heap.size lv (ints L)
  ap : ∀ g, ov.ownBlock = some g → lv.ownBlock ≠ some g
  lt : p < w0.heap.size ∧ mb < w0.heap.size ∧ pb < w0.heap.size
  one : 1 ≤ l.length
section
variable {w0 x y : World} {p mb pb : Nat} {l : List Nd} {kv : Nat → Option Addr × Nat × Nat} {rk fr to : Nat → Int} {ov lv : Value} {O L : List Nat}
theorem DR.kept (h : DR w0 x p mb pb l kv rk fr to ov lv O L) (g : Kept x y) : DR w0 y p mb pb l kv rk fr to ov lv O L :=
  ⟨h.chg.trans (Chg.of_kept g), h.tm.kept g h.one, h.ord.chg (S := fun _ => False) (Chg.of_kept g) (fun _ _ e => e), h.lvs.chg (S := fun _ => False) (Chg.of_kept g) (fun _ _ e => e), h.ap, h.lt, h.one⟩
theorem DR.pushO (h : DR w0 x p mb pb l kv rk fr to ov lv O L) (i : Nat) {g cap nl : Nat} (ho : OwnI y w0.heap.size (.slice (some ⟨g, 0, none⟩) nl cap) (ints O ++ [(i : Int)])) (hc : Chg (fun t => ov.ownBlock = some t) x y) (hg : ov.ownBlock = some g ∨ g = x.heap.size) :
    y.cell? ⟨p, 2, none⟩ = some ov ∧ y.frozen? ⟨p, 2, none⟩ = false ∧ DR w0 (y.setCell ⟨p, 2, none⟩ (.slice (some ⟨g, 0, none⟩) nl cap)) p mb pb l kv rk fr to (.slice (some ⟨g, 0, none⟩) nl cap) lv (O ++ [i]) L := by
  have hlt := h.lt
  have hB : ∀ t, ov.ownBlock = some t → w0.heap.size ≤ t ∧ t < x.heap.size := h.ord.lt
  have n1 : ¬ ov.ownBlock = some p := fun e => by have := hB p e; omega
  have n2 : ¬ ov.ownBlock = some mb := fun e => by have := hB mb e; omega
  have n3 : ¬ ov.ownBlock = some pb := fun e => by have := hB pb e; omega
  have t2 := h.tm.chg hc n1 n2 n3 h.one
  have gB : w0.heap.size ≤ g := (ho.lt g rfl).1
  have c2 : Chg (· = p) y (y.setCell ⟨p, 2, none⟩ (.slice (some ⟨g, 0, none⟩) nl cap)) := (Chg.refl (· = p) y).setCell (p := ⟨p, 2, none⟩) (.inl rfl) _
  refine ⟨t2.c2, t2.fz 2, (h.chg.thn hc (fun j hj e => by have := hB j e; omega)).thn c2 (fun j _ e => .inl e), t2.setO _, ?_, ?_, fun g' e => ?_, hlt, h.one⟩
  · rw [ints_app]
    exact ho.chg c2 (fun t e => by simp [Value.ownBlock] at e; omega)
  · exact (h.lvs.chg hc (fun t e1 e2 => h.ap t e2 e1)).chg c2 (fun t e1 => by have := (h.lvs.lt t e1).1; omega)
  · simp only [Value.ownBlock, Option.some.injEq] at e
    subst e
    intro e3
    rcases hg with hg | hg
    · exact h.ap g hg e3
    · have := (h.lvs.lt g e3).2; omega
theorem DR.pushL (h : DR w0 x p mb pb l kv rk fr to ov lv O L) (i : Nat) {g cap nl : Nat} (ho : OwnI y w0.heap.size (.slice (some ⟨g, 0, none⟩) nl cap) (ints L ++ [(i : Int)])) (hc : Chg (fun t => lv.ownBlock = some t) x y) (hg : lv.ownBlock = some g ∨ g = x.heap.size) :
    y.cell? ⟨p, 3, none⟩ = some lv ∧ y.frozen? ⟨p, 3, none⟩ = false ∧ DR w0 (y.setCell ⟨p, 3, none⟩ (.slice (some ⟨g, 0, none⟩) nl cap)) p mb pb l kv rk fr to ov (.slice (some ⟨g, 0, none⟩) nl cap) O (L ++ [i]) := by
  have hlt := h.lt
  have hB : ∀ t, lv.ownBlock = some t → w0.heap.size ≤ t ∧ t < x.heap.size := h.lvs.lt
  have n1 : ¬ lv.ownBlock = some p := fun e => by have := hB p e; omega
  have n2 : ¬ lv.ownBlock = some mb := fun e => by have := hB mb e; omega
  have n3 : ¬ lv.ownBlock = some pb := fun e => by have := hB pb e; omega
  have t2 := h.tm.chg hc n1 n2 n3 h.one
  have gB : w0.heap.size ≤ g := (ho.lt g rfl).1
  have c2 : Chg (· = p) y (y.setCell ⟨p, 3, none⟩ (.slice (some ⟨g, 0, none⟩) nl cap)) := (Chg.refl (· = p) y).setCell (p := ⟨p, 3, none⟩) (.inl rfl) _
  refine ⟨t2.c3, t2.fz 3, (h.chg.thn hc (fun j hj e => by have := hB j e; omega)).thn c2 (fun j _ e => .inl e), t2.setL _, ?_, ?_, fun g' e => ?_, hlt, h.one⟩
  · exact (h.ord.chg hc (fun t e1 e2 => h.ap t e1 e2)).chg c2 (fun t e1 => by have := (h.ord.lt t e1).1; omega)
  · rw [ints_app]
    exact ho.chg c2 (fun t e => by simp [Value.ownBlock] at e; omega)
  · simp only [Value.ownBlock, ne_eq, Option.some.injEq]
    intro e3
    subst e3
    rcases hg with hg | hg
    · exact h.ap g e hg
    · have := (h.ord.lt g e).2; omega
theorem DR.setRk (h : DR w0 x p mb pb l kv rk fr to ov lv O L) (i : Nat) (hi : i < l.length) (z : Int) : DR w0 (x.setCell ⟨mb, i * 6 + 3, none⟩ (.int .i64 z)) p mb pb l kv (fun j => if j = i then z else rk j) fr to ov lv O L := by
  have c2 : Chg (· = mb) x (x.setCell ⟨mb, i * 6 + 3, none⟩ (.int .i64 z)) := (Chg.refl (· = mb) x).setCell (p := ⟨mb, i * 6 + 3, none⟩) (.inl rfl) _
  have hlt := h.lt
  exact ⟨h.chg.thn c2 (fun j _ e => .inr e), h.tm.setRk i hi z, h.ord.chg c2 (fun t e1 => by have := (h.ord.lt t e1).1; omega), h.lvs.chg c2 (fun t e1 => by have := (h.lvs.lt t e1).1; omega), h.ap, h.lt, h.one⟩
theorem DR.setFr (h : DR w0 x p mb pb l kv rk fr to ov lv O L) (i : Nat) (hi : i < l.length) (z : Int) : DR w0 (x.setCell ⟨mb, i * 6 + 4, none⟩ (.int .i64 z)) p mb pb l kv rk (fun j => if j = i then z else fr j) to ov lv O L := by
  have c2 : Chg (· = mb) x (x.setCell ⟨mb, i * 6 + 4, none⟩ (.int .i64 z)) := (Chg.refl (· = mb) x).setCell (p := ⟨mb, i * 6 + 4, none⟩) (.inl rfl) _
  have hlt := h.lt
  exact ⟨h.chg.thn c2 (fun j _ e => .inr e), h.tm.setFr i hi z, h.ord.chg c2 (fun t e1 => by have := (h.ord.lt t e1).1; omega), h.lvs.chg c2 (fun t e1 => by have := (h.lvs.lt t e1).1; omega), h.ap, h.lt, h.one⟩
theorem DR.setTo (h : DR w0 x p mb pb l kv rk fr to ov lv O L) (i : Nat) (hi : i < l.length) (z : Int) : DR w0 (x.setCell ⟨mb, i * 6 + 5, none⟩ (.int .i64 z)) p mb pb l kv rk fr (fun j => if j = i then z else to j) ov lv O L := by
  have c2 : Chg (· = mb) x (x.setCell ⟨mb, i * 6 + 5, none⟩ (.int .i64 z)) := (Chg.refl (· = mb) x).setCell (p := ⟨mb, i * 6 + 5, none⟩) (.inl rfl) _
  have hlt := h.lt
  exact ⟨h.chg.thn c2 (fun j _ e => .inr e), h.tm.setTo i hi z, h.ord.chg c2 (fun t e1 => by have := (h.ord.lt t e1).1; omega), h.lvs.chg c2 (fun t e1 => by have := (h.lvs.lt t e1).1; omega), h.ap, h.lt, h.one⟩
end
theorem step_pushI {ops : Array Oper} {o : Oper} {a : Act} {K : Act → World → Prop} {Q : Exit → Act → World → Prop} {E : Prop} (w : World) (hgd : o.guard = none) (s x : Operand)
    (ho : o.op = .call { callee := .builtin .append, args := #[s, x], argTypes := #[107, 107] })
    (B : Nat) (v : Value) (l : List Int) (hs : a.eval s = v) (hv : OwnI w B v l) (hB : B ≤ w.heap.size) (g : Nat) (y : Int) (hx : a.eval x = .slice (some ⟨g, 0, none⟩) 1 1) (hcell : w.cell? ⟨g, 0, none⟩ = some (.int .i64 y))
    (h47 : (l.length + 1) * 8 ≤ 140737488355328) (H : Nat) (hH : w.heap.size = H)
    (h : ∀ g' cap w', OwnI w' B (.slice (some ⟨g', 0, none⟩) (l.length + 1) cap) (l ++ [y]) → Chg (fun k => v.ownBlock = some k) w w' → (v.ownBlock = some g' ∨ g' = H) → g' < w'.heap.size → K (a.put o.dst (.slice (some ⟨g', 0, none⟩) (l.length + 1) cap)) w') :
    if Region.wanted o (yielded ops a.tmps) = true then Oper.wp Tryz.prog o a w K Q else E := by
  obtain ⟨i0, hi0, hz0, hz1, hz2⟩ := iinfo
  refine step_append_lies w hgd s x 107 ho B 3 i0 (.int .i64 0) 1 8 Tryz.underlying107 hi0 hz0 hz1 hz2 rfl (by decide) v _ _ hs hv ⟨g, 0, none⟩ 1 1 [.int .i64 y] hx rfl (cell_news hcell) (by intro u hu; simp at hu; subst hu; rfl) (by omega) (by unfold maxLen; omega) (by omega) hB H hH ?_
  intro g' cap w' h2 h3 h4 h5
  refine h g' cap w' ?_ ((Chg.refl _ w).grown h3 (fun k hk => .inl hk)) h4 h5
  unfold OwnI
  simpa using h2
end Go.Proofs.YtpehinmckppjoaaGreatDoor

