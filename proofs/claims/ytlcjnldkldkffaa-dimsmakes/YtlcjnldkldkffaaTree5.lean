/- A tree's cells that are written; members below each other in order. -/
import Derived.Test.YtlcjnldkldkffaaTree4
namespace Go.Proofs.Ytlcjnldkldkffaa
open Go.RowKit Go.Maps
set_option linter.unusedSimpArgs false
set_option linter.unusedVariables false

theorem TM.setK {w : World} {p mb pb : Nat} {l : List Nd} {kv : Nat → Option Addr × Nat × Nat} {rk fr to : Nat → Int} {ov lv : Value} (h : TM w p mb pb l kv rk fr to ov lv) (i : Nat) (hi : i < l.length) (x : Option Addr × Nat × Nat) : TM (w.setCell ⟨mb, i * 6 + 2, none⟩ (slv x)) p mb pb l (fun j => if j = i then x else kv j) rk fr to ov lv := by
  have hne := h.ne
  refine ⟨⟨(World.cell?_setCell_other _ _ _ _ (by intro e; simp only [Addr.mk.injEq] at e; omega)).trans h.c0, fun j hj => (World.cell?_setCell_other _ _ _ _ (by intro e; simp only [Addr.mk.injEq] at e; omega)).trans (h.nm j hj), fun j hj => (World.cell?_setCell_other _ _ _ _ (by intro e; simp only [Addr.mk.injEq] at e; omega)).trans (h.up j hj), h.big, h.nmb, h.upb⟩, (World.cell?_setCell_other _ _ _ _ (by intro e; simp only [Addr.mk.injEq] at e; omega)).trans h.c1, (World.cell?_setCell_other _ _ _ _ (by intro e; simp only [Addr.mk.injEq] at e; omega)).trans h.c2, (World.cell?_setCell_other _ _ _ _ (by intro e; simp only [Addr.mk.injEq] at e; omega)).trans h.c3, ?_, ?_, ?_, ?_, fun j => by simpa using h.fz j, fun j => by simpa using h.fm j, ?_, h.ne⟩
  · exact fun j hj => by
      by_cases e : j = i
      · subst e; simp only [if_true]; exact World.cell?_setCell_same _ _ _ (h.kd j hj)
      · simp only [e, if_false]; exact (World.cell?_setCell_other _ _ _ _ (by intro e; simp only [Addr.mk.injEq] at e; omega)).trans (h.kd j hj)
  · exact fun j hj => (World.cell?_setCell_other _ _ _ _ (by intro e; simp only [Addr.mk.injEq] at e; omega)).trans (h.rk j hj)
  · exact fun j hj => (World.cell?_setCell_other _ _ _ _ (by intro e; simp only [Addr.mk.injEq] at e; omega)).trans (h.fr j hj)
  · exact fun j hj => (World.cell?_setCell_other _ _ _ _ (by intro e; simp only [Addr.mk.injEq] at e; omega)).trans (h.to j hj)
  · obtain ⟨n, hn, hm⟩ := h.pm
    exact ⟨n, hn, hm.chg ((Chg.refl (· = mb) w).setCell (p := ⟨mb, i * 6 + 2, none⟩) (.inl rfl) _) (fun e => hne.2.2 e.symm)⟩
theorem TM.setRk {w : World} {p mb pb : Nat} {l : List Nd} {kv : Nat → Option Addr × Nat × Nat} {rk fr to : Nat → Int} {ov lv : Value} (h : TM w p mb pb l kv rk fr to ov lv) (i : Nat) (hi : i < l.length) (x : Int) : TM (w.setCell ⟨mb, i * 6 + 3, none⟩ (.int .i64 x)) p mb pb l kv (fun j => if j = i then x else rk j) fr to ov lv := by
  have hne := h.ne
  refine ⟨⟨(World.cell?_setCell_other _ _ _ _ (by intro e; simp only [Addr.mk.injEq] at e; omega)).trans h.c0, fun j hj => (World.cell?_setCell_other _ _ _ _ (by intro e; simp only [Addr.mk.injEq] at e; omega)).trans (h.nm j hj), fun j hj => (World.cell?_setCell_other _ _ _ _ (by intro e; simp only [Addr.mk.injEq] at e; omega)).trans (h.up j hj), h.big, h.nmb, h.upb⟩, (World.cell?_setCell_other _ _ _ _ (by intro e; simp only [Addr.mk.injEq] at e; omega)).trans h.c1, (World.cell?_setCell_other _ _ _ _ (by intro e; simp only [Addr.mk.injEq] at e; omega)).trans h.c2, (World.cell?_setCell_other _ _ _ _ (by intro e; simp only [Addr.mk.injEq] at e; omega)).trans h.c3, ?_, ?_, ?_, ?_, fun j => by simpa using h.fz j, fun j => by simpa using h.fm j, ?_, h.ne⟩
  · exact fun j hj => (World.cell?_setCell_other _ _ _ _ (by intro e; simp only [Addr.mk.injEq] at e; omega)).trans (h.kd j hj)
  · exact fun j hj => by
      by_cases e : j = i
      · subst e; simp only [if_true]; exact World.cell?_setCell_same _ _ _ (h.rk j hj)
      · simp only [e, if_false]; exact (World.cell?_setCell_other _ _ _ _ (by intro e; simp only [Addr.mk.injEq] at e; omega)).trans (h.rk j hj)
  · exact fun j hj => (World.cell?_setCell_other _ _ _ _ (by intro e; simp only [Addr.mk.injEq] at e; omega)).trans (h.fr j hj)
  · exact fun j hj => (World.cell?_setCell_other _ _ _ _ (by intro e; simp only [Addr.mk.injEq] at e; omega)).trans (h.to j hj)
  · obtain ⟨n, hn, hm⟩ := h.pm
    exact ⟨n, hn, hm.chg ((Chg.refl (· = mb) w).setCell (p := ⟨mb, i * 6 + 3, none⟩) (.inl rfl) _) (fun e => hne.2.2 e.symm)⟩
theorem TM.setFr {w : World} {p mb pb : Nat} {l : List Nd} {kv : Nat → Option Addr × Nat × Nat} {rk fr to : Nat → Int} {ov lv : Value} (h : TM w p mb pb l kv rk fr to ov lv) (i : Nat) (hi : i < l.length) (x : Int) : TM (w.setCell ⟨mb, i * 6 + 4, none⟩ (.int .i64 x)) p mb pb l kv rk (fun j => if j = i then x else fr j) to ov lv := by
  have hne := h.ne
  refine ⟨⟨(World.cell?_setCell_other _ _ _ _ (by intro e; simp only [Addr.mk.injEq] at e; omega)).trans h.c0, fun j hj => (World.cell?_setCell_other _ _ _ _ (by intro e; simp only [Addr.mk.injEq] at e; omega)).trans (h.nm j hj), fun j hj => (World.cell?_setCell_other _ _ _ _ (by intro e; simp only [Addr.mk.injEq] at e; omega)).trans (h.up j hj), h.big, h.nmb, h.upb⟩, (World.cell?_setCell_other _ _ _ _ (by intro e; simp only [Addr.mk.injEq] at e; omega)).trans h.c1, (World.cell?_setCell_other _ _ _ _ (by intro e; simp only [Addr.mk.injEq] at e; omega)).trans h.c2, (World.cell?_setCell_other _ _ _ _ (by intro e; simp only [Addr.mk.injEq] at e; omega)).trans h.c3, ?_, ?_, ?_, ?_, fun j => by simpa using h.fz j, fun j => by simpa using h.fm j, ?_, h.ne⟩
  · exact fun j hj => (World.cell?_setCell_other _ _ _ _ (by intro e; simp only [Addr.mk.injEq] at e; omega)).trans (h.kd j hj)
  · exact fun j hj => (World.cell?_setCell_other _ _ _ _ (by intro e; simp only [Addr.mk.injEq] at e; omega)).trans (h.rk j hj)
  · exact fun j hj => by
      by_cases e : j = i
      · subst e; simp only [if_true]; exact World.cell?_setCell_same _ _ _ (h.fr j hj)
      · simp only [e, if_false]; exact (World.cell?_setCell_other _ _ _ _ (by intro e; simp only [Addr.mk.injEq] at e; omega)).trans (h.fr j hj)
  · exact fun j hj => (World.cell?_setCell_other _ _ _ _ (by intro e; simp only [Addr.mk.injEq] at e; omega)).trans (h.to j hj)
  · obtain ⟨n, hn, hm⟩ := h.pm
    exact ⟨n, hn, hm.chg ((Chg.refl (· = mb) w).setCell (p := ⟨mb, i * 6 + 4, none⟩) (.inl rfl) _) (fun e => hne.2.2 e.symm)⟩
theorem TM.setTo {w : World} {p mb pb : Nat} {l : List Nd} {kv : Nat → Option Addr × Nat × Nat} {rk fr to : Nat → Int} {ov lv : Value} (h : TM w p mb pb l kv rk fr to ov lv) (i : Nat) (hi : i < l.length) (x : Int) : TM (w.setCell ⟨mb, i * 6 + 5, none⟩ (.int .i64 x)) p mb pb l kv rk fr (fun j => if j = i then x else to j) ov lv := by
  have hne := h.ne
  refine ⟨⟨(World.cell?_setCell_other _ _ _ _ (by intro e; simp only [Addr.mk.injEq] at e; omega)).trans h.c0, fun j hj => (World.cell?_setCell_other _ _ _ _ (by intro e; simp only [Addr.mk.injEq] at e; omega)).trans (h.nm j hj), fun j hj => (World.cell?_setCell_other _ _ _ _ (by intro e; simp only [Addr.mk.injEq] at e; omega)).trans (h.up j hj), h.big, h.nmb, h.upb⟩, (World.cell?_setCell_other _ _ _ _ (by intro e; simp only [Addr.mk.injEq] at e; omega)).trans h.c1, (World.cell?_setCell_other _ _ _ _ (by intro e; simp only [Addr.mk.injEq] at e; omega)).trans h.c2, (World.cell?_setCell_other _ _ _ _ (by intro e; simp only [Addr.mk.injEq] at e; omega)).trans h.c3, ?_, ?_, ?_, ?_, fun j => by simpa using h.fz j, fun j => by simpa using h.fm j, ?_, h.ne⟩
  · exact fun j hj => (World.cell?_setCell_other _ _ _ _ (by intro e; simp only [Addr.mk.injEq] at e; omega)).trans (h.kd j hj)
  · exact fun j hj => (World.cell?_setCell_other _ _ _ _ (by intro e; simp only [Addr.mk.injEq] at e; omega)).trans (h.rk j hj)
  · exact fun j hj => (World.cell?_setCell_other _ _ _ _ (by intro e; simp only [Addr.mk.injEq] at e; omega)).trans (h.fr j hj)
  · exact fun j hj => by
      by_cases e : j = i
      · subst e; simp only [if_true]; exact World.cell?_setCell_same _ _ _ (h.to j hj)
      · simp only [e, if_false]; exact (World.cell?_setCell_other _ _ _ _ (by intro e; simp only [Addr.mk.injEq] at e; omega)).trans (h.to j hj)
  · obtain ⟨n, hn, hm⟩ := h.pm
    exact ⟨n, hn, hm.chg ((Chg.refl (· = mb) w).setCell (p := ⟨mb, i * 6 + 5, none⟩) (.inl rfl) _) (fun e => hne.2.2 e.symm)⟩
theorem TM.setO {w : World} {p mb pb : Nat} {l : List Nd} {kv : Nat → Option Addr × Nat × Nat} {rk fr to : Nat → Int} {ov lv : Value} (h : TM w p mb pb l kv rk fr to ov lv) (x : Value) : TM (w.setCell ⟨p, 2, none⟩ x) p mb pb l kv rk fr to x lv := by
  have hne := h.ne
  refine ⟨⟨(World.cell?_setCell_other _ _ _ _ (by intro e; simp only [Addr.mk.injEq] at e; omega)).trans h.c0, fun j hj => (World.cell?_setCell_other _ _ _ _ (by intro e; simp only [Addr.mk.injEq] at e; omega)).trans (h.nm j hj), fun j hj => (World.cell?_setCell_other _ _ _ _ (by intro e; simp only [Addr.mk.injEq] at e; omega)).trans (h.up j hj), h.big, h.nmb, h.upb⟩, (World.cell?_setCell_other _ _ _ _ (by intro e; simp only [Addr.mk.injEq] at e; omega)).trans h.c1, World.cell?_setCell_same _ _ _ h.c2, (World.cell?_setCell_other _ _ _ _ (by intro e; simp only [Addr.mk.injEq] at e; omega)).trans h.c3, fun j hj => (World.cell?_setCell_other _ _ _ _ (by intro e; simp only [Addr.mk.injEq] at e; omega)).trans (h.kd j hj), fun j hj => (World.cell?_setCell_other _ _ _ _ (by intro e; simp only [Addr.mk.injEq] at e; omega)).trans (h.rk j hj), fun j hj => (World.cell?_setCell_other _ _ _ _ (by intro e; simp only [Addr.mk.injEq] at e; omega)).trans (h.fr j hj), fun j hj => (World.cell?_setCell_other _ _ _ _ (by intro e; simp only [Addr.mk.injEq] at e; omega)).trans (h.to j hj), fun j => by simpa using h.fz j, fun j => by simpa using h.fm j, ?_, h.ne⟩
  obtain ⟨n, hn, hm⟩ := h.pm
  exact ⟨n, hn, hm.chg ((Chg.refl (· = p) w).setCell (p := ⟨p, 2, none⟩) (.inl rfl) _) (fun e => hne.2.1 e.symm)⟩
theorem TM.setL {w : World} {p mb pb : Nat} {l : List Nd} {kv : Nat → Option Addr × Nat × Nat} {rk fr to : Nat → Int} {ov lv : Value} (h : TM w p mb pb l kv rk fr to ov lv) (x : Value) : TM (w.setCell ⟨p, 3, none⟩ x) p mb pb l kv rk fr to ov x := by
  have hne := h.ne
  refine ⟨⟨(World.cell?_setCell_other _ _ _ _ (by intro e; simp only [Addr.mk.injEq] at e; omega)).trans h.c0, fun j hj => (World.cell?_setCell_other _ _ _ _ (by intro e; simp only [Addr.mk.injEq] at e; omega)).trans (h.nm j hj), fun j hj => (World.cell?_setCell_other _ _ _ _ (by intro e; simp only [Addr.mk.injEq] at e; omega)).trans (h.up j hj), h.big, h.nmb, h.upb⟩, (World.cell?_setCell_other _ _ _ _ (by intro e; simp only [Addr.mk.injEq] at e; omega)).trans h.c1, (World.cell?_setCell_other _ _ _ _ (by intro e; simp only [Addr.mk.injEq] at e; omega)).trans h.c2, World.cell?_setCell_same _ _ _ h.c3, fun j hj => (World.cell?_setCell_other _ _ _ _ (by intro e; simp only [Addr.mk.injEq] at e; omega)).trans (h.kd j hj), fun j hj => (World.cell?_setCell_other _ _ _ _ (by intro e; simp only [Addr.mk.injEq] at e; omega)).trans (h.rk j hj), fun j hj => (World.cell?_setCell_other _ _ _ _ (by intro e; simp only [Addr.mk.injEq] at e; omega)).trans (h.fr j hj), fun j hj => (World.cell?_setCell_other _ _ _ _ (by intro e; simp only [Addr.mk.injEq] at e; omega)).trans (h.to j hj), fun j => by simpa using h.fz j, fun j => by simpa using h.fm j, ?_, h.ne⟩
  obtain ⟨n, hn, hm⟩ := h.pm
  exact ⟨n, hn, hm.chg ((Chg.refl (· = p) w).setCell (p := ⟨p, 3, none⟩) (.inl rfl) _) (fun e => hne.2.1 e.symm)⟩
theorem Kept.cellp {a w : World} (h : Kept a w) {b o : Nat} {v : Value} (hc : a.cell? ⟨b, o, none⟩ = some v) : w.cell? ⟨b, o, none⟩ = some v := (h.cell (p := ⟨b, o, none⟩) (show b < a.heap.size from cell_lt hc)).trans hc
theorem Chg.cellp {S : Nat → Prop} {a w : World} (h : Chg S a w) {b o : Nat} {v : Value} (hc : a.cell? ⟨b, o, none⟩ = some v) (hs : ¬ S b) : w.cell? ⟨b, o, none⟩ = some v := (h.cell (p := ⟨b, o, none⟩) (show b < a.heap.size from cell_lt hc) hs).trans hc

theorem Chg.thn {S S' : Nat → Prop} {x y z : World} (h : Chg S x y) (k : Chg S' y z) (hs : ∀ j, j < x.heap.size → S' j → S j) : Chg S x z :=
  ⟨k.os.trans h.os, k.tape.trans h.tape, k.output.trans h.output, Nat.le_trans h.size k.size, fun j hj hb => (k.block j (Nat.lt_of_lt_of_le hj h.size) (fun e => hb (hs j hj e))).trans (h.block j hj hb)⟩
/-- Those just below one, among the first k members. -/
def kidK (l : List Nd) (k : Nat) (j : Int) : List Nat := (List.range k).filter fun i => decide (upA l i = j)
def kidN (l : List Nd) (j : Int) : List Nat := kidK l l.length j
def ints (l : List Nat) : List Int := l.map Int.ofNat
theorem ints_len (l : List Nat) : (ints l).length = l.length := by simp [ints]
theorem ints_app (a b : List Nat) : ints (a ++ b) = ints a ++ ints b := by simp [ints]
theorem ints_get (l : List Nat) (i : Nat) (h : i < l.length) : (ints l).getD i 0 = (l[i] : Nat) := by
  simp [ints, List.getD, List.getElem?_map, List.getElem?_eq_getElem h]
theorem kidK_succ (l : List Nd) (k : Nat) (j : Int) : kidK l (k + 1) j = if upA l k = j then kidK l k j ++ [k] else kidK l k j := by
  unfold kidK
  rw [List.range_succ, List.filter_append]
  by_cases e : upA l k = j <;> simp [e]
theorem kidK_len (l : List Nd) (k : Nat) (j : Int) : (kidK l k j).length ≤ k := by
  unfold kidK
  have := List.length_filter_le (fun i => decide (upA l i = j)) (List.range k)
  simpa using this
theorem mem_kidN {l : List Nd} {j : Int} {i : Nat} : i ∈ kidN l j ↔ i < l.length ∧ upA l i = j := by
  unfold kidN kidK
  simp [List.mem_filter]
end Go.Proofs.Ytlcjnldkldkffaa
