/- A history: Do. -/
import Derived.Test.YtbikelbobanfbaaUndo2
import Derived.Deep.RegionLaw
namespace Go.Proofs.Ytbikelbobanfbaa
open Go.RowKit Go.Maps
set_option linter.unusedSimpArgs false
set_option linter.unusedVariables false

def goneL (past fut : List Int) : List Int := if past.length = 12 then fut ++ [past.getD 0 0] else fut
def pastL (past : List Int) (now : Int) : List Int := (if past.length = 12 then past.drop 1 else past) ++ [now]
/-- What Do tells, and leaves. -/
def DoP (w : World) (hb : Nat) (pa : Option Addr) (pc : Nat) (fa : Option Addr) (fc : Nat) (past : List Int) (now : Int) (fut : List Int) (next : Int) (e : Ending) (w' : World) : Prop :=
  ∃ ga gc pa' pc', e = .returned (.slice ga (goneL past fut).length gc) ∧ Ro w' ga gc (goneL past fut) ∧ Hi w' hb pa' pc' none 0 (pastL past now) next [] ∧ Chg (HB hb pa pc fa fc) w w' ∧
    (∀ b, HB hb pa' pc' none 0 b → HB hb pa pc fa fc b ∨ w.heap.size ≤ b) ∧ ∀ b, Bk ga gc b → w.heap.size ≤ b
/-- The three cells of a history, written. -/
theorem hi_set {w y : World} {hb : Nat} {v0 v1 v2 : Value} (h0 : (w.cell? ⟨hb, 0, none⟩).isSome = true) (h1 : (w.cell? ⟨hb, 1, none⟩).isSome = true) (h2 : (w.cell? ⟨hb, 2, none⟩).isSome = true) (hy : y = ((w.setCell ⟨hb, 0, none⟩ v0).setCell ⟨hb, 1, none⟩ v1).setCell ⟨hb, 2, none⟩ v2) :
    y.cell? ⟨hb, 0, none⟩ = some v0 ∧ y.cell? ⟨hb, 1, none⟩ = some v1 ∧ y.cell? ⟨hb, 2, none⟩ = some v2 := by
  subst hy
  obtain ⟨u0, h0⟩ := Option.isSome_iff_exists.1 h0
  obtain ⟨u1, h1⟩ := Option.isSome_iff_exists.1 h1
  obtain ⟨u2, h2⟩ := Option.isSome_iff_exists.1 h2
  have a0 : ((w.setCell ⟨hb, 0, none⟩ v0).cell? ⟨hb, 0, none⟩) = some v0 := World.cell?_setCell_same _ _ _ h0
  have a1 : ((w.setCell ⟨hb, 0, none⟩ v0).cell? ⟨hb, 1, none⟩) = some u1 := (World.cell?_setCell_other _ _ _ _ (by simp)).trans h1
  have a2 : ((w.setCell ⟨hb, 0, none⟩ v0).cell? ⟨hb, 2, none⟩) = some u2 := (World.cell?_setCell_other _ _ _ _ (by simp)).trans h2
  refine ⟨(World.cell?_setCell_other _ _ _ _ (by simp)).trans ((World.cell?_setCell_other _ _ _ _ (by simp)).trans a0), (World.cell?_setCell_other _ _ _ _ (by simp)).trans (World.cell?_setCell_same _ _ _ a1), World.cell?_setCell_same _ _ _ ((World.cell?_setCell_other _ _ _ _ (by simp)).trans a2)⟩
theorem hi_fin {w y W : World} {hb : Nat} {pa : Option Addr} {pc : Nat} {fa : Option Addr} {fc : Nat} {past : List Int} {now : Int} {fut : List Int} (h : Hi w hb pa pc fa fc past now fut) (hc : Chg (HB hb pa pc fa fc) w y)
    {u0 u1 u2 : Value} (e0 : y.cell? ⟨hb, 0, none⟩ = some u0) (e1 : y.cell? ⟨hb, 1, none⟩ = some u1) (e2 : y.cell? ⟨hb, 2, none⟩ = some u2) (g0 : y.frozen? ⟨hb, 0, none⟩ = false) (g1 : y.frozen? ⟨hb, 1, none⟩ = false) (g2 : y.frozen? ⟨hb, 2, none⟩ = false)
    {a4 : Option Addr} {c4 : Nat} {a5 : Option Addr} {c5 : Nat} {past' fut' : List Int} {now' : Int} (r4 : Ro y a4 c4 past') (r5 : Ro y a5 c5 fut') (b4 : ∀ b, Bk a4 c4 b → Bk pa pc b ∨ w.heap.size ≤ b) (b5 : ∀ b, Bk a5 c5 b → Bk fa fc b ∨ w.heap.size ≤ b)
    (ap : ∀ b, Bk a4 c4 b → ¬ Bk a5 c5 b) (hm : past'.length + fut'.length ≤ 12)
    (hW : W = ((y.setCell ⟨hb, 0, none⟩ (.slice a4 past'.length c4)).setCell ⟨hb, 1, none⟩ (.int .i64 now')).setCell ⟨hb, 2, none⟩ (.slice a5 fut'.length c5)) :
    Hi W hb a4 c4 a5 c5 past' now' fut' ∧ Chg (HB hb pa pc fa fc) w W ∧ (∀ b, HB hb a4 c4 a5 c5 b → HB hb pa pc fa fc b ∨ w.heap.size ≤ b) ∧ Chg (· = hb) y W := by
  obtain ⟨p0, p1, p2⟩ := hi_set (by rw [e0]; rfl) (by rw [e1]; rfl) (by rw [e2]; rfl) hW
  have hlt := h.hlt
  have n4 : ¬ Bk a4 c4 hb := fun e => (b4 _ e).elim h.ph (fun g => by omega)
  have n5 : ¬ Bk a5 c5 hb := fun e => (b5 _ e).elim h.fh (fun g => by omega)
  have k : Chg (· = hb) y W := by rw [hW]; exact ((((Chg.refl (· = hb) y).setCell (p := ⟨hb, 0, none⟩) (.inl rfl) _).setCell (p := ⟨hb, 1, none⟩) (.inl rfl) _).setCell (p := ⟨hb, 2, none⟩) (.inl rfl) _)
  refine ⟨⟨p0, p1, p2, by rw [hW]; simpa using g0, by rw [hW]; simpa using g1, by rw [hW]; simpa using g2, r4.chg k (fun b e f => n4 (f ▸ e)), r5.chg k (fun b e f => n5 (f ▸ e)), n4, n5, ap, hm⟩, hc.thn k (fun j _ e => .inl e), ?_, k⟩
  rintro b (rfl | e | e)
  · exact .inl (.inl rfl)
  · exact (b4 _ e).elim (fun g => .inl (.inr (.inl g))) .inr
  · exact (b5 _ e).elim (fun g => .inl (.inr (.inr g))) .inr
set_option maxHeartbeats 800000 in
theorem undo_Do_some {w : World} {hb : Nat} {pa : Option Addr} {pc : Nat} {fa : Option Addr} {fc : Nat} {past : List Int} {now : Int} {fut : List Int} (h : Hi w hb pa pc fa fc past now fut) (next : Int) (hn : past.length ≠ 12) :
    Calls Try.prog 11 #[.pointer (some ⟨hb, 0, none⟩), .int .i64 next] w (DoP w hb pa pc fa fc past now fut next) := by
  have hl := h.hlt
  have HF := hidMk (undo_Future h)
  have H := hidMk h
  have hm := h.many
  have hne : ¬ ((past.length : Int) = 12) := by omega
  have HKC := hidMk (show ∀ y, Kept w y → y.cell? ⟨hb, 0, none⟩ = some (.slice pa past.length pc) ∧ y.cell? ⟨hb, 1, none⟩ = some (.int .i64 now) ∧ y.cell? ⟨hb, 2, none⟩ = some (.slice fa fut.length fc) ∧ y.frozen? ⟨hb, 0, none⟩ = false ∧ y.frozen? ⟨hb, 1, none⟩ = false ∧ y.frozen? ⟨hb, 2, none⟩ = false ∧ hb < y.heap.size from fun y hy => by
    have g := h.kept hy
    exact ⟨g.c0, g.c1, g.c2, g.z0, g.z1, g.z2, g.hlt⟩)
  clear h
  go_enter Try.func11, Try.ntmps11
  go_wp2_with fail
  refine HF.out.mono ?_
  rintro e w1 ⟨ga, gc, rfl, r1, k1, b1⟩
  have HR := hidMk r1
  have HK := hidMk k1
  have HB1 := hidMk b1
  obtain ⟨d0, d1, d2, f0, f1, f2, hl1⟩ := HKC.out _ k1
  clear r1 k1 b1
  go_wp2_with fail
  have HP := hidMk (show ∀ y, Kept w1 y → Ro y pa pc past from fun y hy => H.out.pr.kept (HK.out.trans hy))
  have HQ := hidMk (show ∀ y W, Kept w1 y → Chg (Bk pa pc) y W → W.cell? ⟨hb, 0, none⟩ = some (.slice pa past.length pc) ∧ W.cell? ⟨hb, 1, none⟩ = some (.int .i64 now) ∧ W.cell? ⟨hb, 2, none⟩ = some (.slice fa fut.length fc) ∧ W.frozen? ⟨hb, 0, none⟩ = false ∧ W.frozen? ⟨hb, 1, none⟩ = false ∧ W.frozen? ⟨hb, 2, none⟩ = false ∧ hb < W.heap.size from fun y W hy hc => by
    obtain ⟨e0, e1, e2, g0, g1, g2, gl⟩ := HKC.out _ (HK.out.trans hy)
    have hh := H.out.ph
    exact ⟨hc.cellp e0 hh, hc.cellp e1 hh, hc.cellp e2 hh, (hc.frozen (p := ⟨hb, 0, none⟩) gl hh).trans g0, (hc.frozen (p := ⟨hb, 1, none⟩) gl hh).trans g1, (hc.frozen (p := ⟨hb, 2, none⟩) gl hh).trans g2, Nat.lt_of_lt_of_le gl hc.size⟩)
  go_region_law ((refine step_pushRo _ (by rfl) _ _ (by rfl) pa pc past (by rfl) (HP.out _ (((Kept.refl _).alloc _).drew)) w1.heap.size now (by rfl) (by simp) (by omega) ?_; intro a4 c4 w4 r4 k4 b4; obtain ⟨e0, e1, e2, g0, g1, g2, gl⟩ := HQ.out _ _ (((Kept.refl _).alloc _).drew) k4; have H4 := hidMk r4; have H5 := hidMk k4; have H6 := hidMk b4; clear r4 k4 b4))
  all_goals go_wp2_with fail
  all_goals
    go_ret
    have hgo : goneL past fut = fut := if_neg hn
    have hpl : pastL past now = past ++ [now] := by unfold pastL; rw [if_neg hn]
    unfold DoP
    rw [hgo, hpl]
    have kk : Chg (HB hb pa pc fa fc) w w4 := (Chg.of_kept ((HK.out.alloc _).drew)).thn H5.out (fun j _ e => .inr (.inl e))
    have bb : ∀ b, Bk a4 c4 b → Bk pa pc b ∨ w.heap.size ≤ b := fun b e => (H6.out b e).elim .inl (fun g => .inr (Nat.le_trans ((HK.out.alloc _).drew).size g))
    obtain ⟨f1, f2, f3, f4⟩ := hi_fin (past' := past ++ [now]) (fut' := []) H.out kk e0 e1 e2 g0 g1 g2 H4.out (ro_nil _) bb (fun b e => absurd e (not_bk_none _ _)) (fun b _ => not_bk_none _ _) (by simp; omega) (W := _) (by simp only [List.length_append, List.length_singleton, List.length_nil]; rfl)
    have hgr : Ro w4 ga gc fut := (HR.out.kept (((Kept.refl w1).alloc _).drew)).chg H5.out (fun b e f => by have := HB1.out b e; have := H.out.pr.lt b f; omega)
    exact ⟨ga, gc, a4, c4, rfl, hgr.chg f4 (fun b e f => by have := HB1.out b e; omega), f1, f2, f3, HB1.out⟩
set_option maxHeartbeats 800000 in
theorem undo_Do_full {w : World} {hb : Nat} {pa : Option Addr} {pc : Nat} {fa : Option Addr} {fc : Nat} {past : List Int} {now : Int} {fut : List Int} (h : Hi w hb pa pc fa fc past now fut) (next : Int) (hn : past.length = 12) :
    Calls Try.prog 11 #[.pointer (some ⟨hb, 0, none⟩), .int .i64 next] w (DoP w hb pa pc fa fc past now fut next) := by
  have hl := h.hlt
  have HF := hidMk (undo_Future h)
  have H := hidMk h
  have hm := h.many
  have hle := h.pr.le
  obtain ⟨g, o, rfl, hg, hcs, hsp⟩ := h.pr.cells (by omega)
  have hx := hcs 0 (by omega)
  rw [Nat.add_zero] at hx
  have HX := hidMk hx
  have HKC := hidMk (show ∀ y, Kept w y → y.cell? ⟨hb, 0, none⟩ = some (.slice (some ⟨g, o, none⟩) 12 pc) ∧ y.cell? ⟨hb, 1, none⟩ = some (.int .i64 now) ∧ y.cell? ⟨hb, 2, none⟩ = some (.slice fa fut.length fc) ∧ y.frozen? ⟨hb, 0, none⟩ = false ∧ y.frozen? ⟨hb, 1, none⟩ = false ∧ y.frozen? ⟨hb, 2, none⟩ = false ∧ hb < y.heap.size ∧ y.cell? ⟨g, o, none⟩ = some (.int .i64 (past.getD 0 0)) from fun y hy => by
    have g := h.kept hy
    exact ⟨hn ▸ g.c0, g.c1, g.c2, g.z0, g.z1, g.z2, g.hlt, hy.cellp HX.out⟩)
  obtain ⟨x0, hx0⟩ : ∃ x, past.getD 0 0 = x := ⟨_, rfl⟩
  rw [hx0] at HKC
  have HX0 := hidMk hx0
  have hf0 : fut = [] := List.eq_nil_of_length_eq_zero (by omega)
  subst hf0
  clear hx0
  clear h hcs hsp hx
  have hpc : 12 ≤ pc := by omega
  have hp1 : ¬ pc = 1 := by omega
  go_enter Try.func11, Try.ntmps11
  go_wp2_with fail
  refine HF.out.mono ?_
  rintro e w1 ⟨ga, gc, rfl, r1, k1, b1⟩
  have HR := hidMk r1
  have HK := hidMk k1
  have HB1 := hidMk b1
  obtain ⟨d0, d1, d2, f0, f1, f2, hl1, hx1⟩ := HKC.out _ k1
  clear r1 k1 b1
  go_wp2_with (at_builtin; refine wpList_pushRo _ rfl _ _ rfl ga gc [] rfl (HR.out.kept ((Kept.refl w1).alloc _)) _ [x0] rfl (src_one (by simp)) (by simp) ?_)
  intro a2 c2 w2 r2 k2 b2
  have HR2 := hidMk r2
  have hkk : Chg (fun b => w.heap.size ≤ b) w w2 := (Chg.of_kept (HK.out.alloc _)).thn k2 (fun j _ e => HB1.out j e)
  have HC := hidMk hkk
  have HI := hidMk (H.out.chg hkk (fun b e f => by have := H.out.lt b e; omega))
  have HBK := hidMk (show ∀ b, Bk a2 c2 b → w.heap.size ≤ b from fun b e => (b2 b e).elim (HB1.out b) (fun f => by have := HK.out.size; omega))
  have hs2 : w.heap.size ≤ w2.heap.size := hkk.size
  clear d0 d1 d2 f0 f1 f2 hl1 hx1 r2 k2 b2 hkk
  have d0 := HI.out.c0
  rw [hn] at d0
  have d1 := HI.out.c1
  have d2 := HI.out.c2
  have f0 := HI.out.z0
  have f1 := HI.out.z1
  have f2 := HI.out.z2
  have hl2 := HI.out.hlt
  go_wp2_with fail
  have hd : (past.drop 1).length = 11 := by simp; omega
  refine gen_world (f := fun W => Code.wp _ _ _ _ W) (fun W => Chg (· = hb) w2 W ∧ Hi W hb (some ⟨g, o + 1, none⟩) 11 fa fc (past.drop 1) now []) ?_ ?_
  · have k : Chg (· = hb) w2 (w2.setCell ⟨hb, 0, none⟩ (.slice (some ⟨g, o + 1, none⟩) 11 11)) := (Chg.refl (· = hb) w2).setCell (p := ⟨hb, 0, none⟩) (.inl rfl) _
    refine ⟨k, ?_⟩
    have hcut := HI.out.pr.cut 1 11 (by omega)
    rw [List.take_of_length_le (by omega)] at hcut
    have hb1 : ∀ b, Bk (some ⟨g, o + 1, none⟩) 11 b → Bk (some ⟨g, o, none⟩) pc b := fun b e => ⟨by omega, by obtain ⟨_, ad, h1, h2⟩ := e; cases h1; exact ⟨_, rfl, h2⟩⟩
    exact ⟨by rw [hd]; exact World.cell?_setCell_same _ _ _ d0, (World.cell?_setCell_other _ _ _ _ (by simp)).trans d1, (World.cell?_setCell_other _ _ _ _ (by simp)).trans d2, by simpa using f0, by simpa using f1, by simpa using f2, hcut.chg k (fun b e f => HI.out.ph (f ▸ hb1 b e)), HI.out.fr.chg k (fun b e f => HI.out.fh (f ▸ e)), fun e => HI.out.ph (hb1 _ e), HI.out.fh, fun b e => HI.out.pf b (hb1 b e), by rw [hd]; simp⟩
  rintro W3 ⟨kW, hW⟩
  have HW := hidMk hW
  have HKW := hidMk kW
  have hsw : w2.heap.size ≤ W3.heap.size := kW.size
  clear d0 d1 d2 f0 f1 f2 hl2
  have d0 := hW.c0
  rw [hd] at d0
  have d1 := hW.c1
  have d2 := hW.c2
  have f0 := hW.z0
  have f1 := hW.z1
  have f2 := hW.z2
  have hl3 := hW.hlt
  clear hW kW
  have HP := hidMk (show ∀ y, Kept W3 y → Ro y (some ⟨g, o + 1, none⟩) 11 (past.drop 1) from fun y hy => HW.out.pr.kept hy)
  have HQ := hidMk (show ∀ y W, Kept W3 y → Chg (Bk (some ⟨g, o + 1, none⟩) 11) y W → W.cell? ⟨hb, 0, none⟩ = some (.slice (some ⟨g, o + 1, none⟩) 11 11) ∧ W.cell? ⟨hb, 1, none⟩ = some (.int .i64 now) ∧ W.cell? ⟨hb, 2, none⟩ = some (.slice fa 0 fc) ∧ W.frozen? ⟨hb, 0, none⟩ = false ∧ W.frozen? ⟨hb, 1, none⟩ = false ∧ W.frozen? ⟨hb, 2, none⟩ = false ∧ hb < W.heap.size from fun y W hy hc => by
    have hh := HW.out.ph
    have q := HW.out.kept hy
    have gl := q.hlt
    exact ⟨by have := hc.cellp q.c0 hh; rwa [hd] at this, hc.cellp q.c1 hh, hc.cellp q.c2 hh, (hc.frozen (p := ⟨hb, 0, none⟩) gl hh).trans q.z0, (hc.frozen (p := ⟨hb, 1, none⟩) gl hh).trans q.z1, (hc.frozen (p := ⟨hb, 2, none⟩) gl hh).trans q.z2, Nat.lt_of_lt_of_le gl hc.size⟩)
  have HD := hidMk hd
  clear hd
  go_region_law ((refine step_pushRo _ (by rfl) _ _ (by rfl) (some ⟨g, o + 1, none⟩) 11 (past.drop 1) (by rw [HD.out]; rfl) (HP.out _ (((Kept.refl _).alloc _).drew)) W3.heap.size now (by rfl) (by simp) (by rw [HD.out]; omega) ?_; rw [HD.out]; intro a4 c4 w4 r4 k4 b4; obtain ⟨e0, e1, e2, g0, g1, g2, gl⟩ := HQ.out _ _ (((Kept.refl _).alloc _).drew) k4; have H4 := hidMk r4; have H5 := hidMk k4; have H6 := hidMk b4; clear r4 k4 b4))
  all_goals go_wp2_with fail
  all_goals
    go_ret
    have hgo : goneL past [] = [x0] := by unfold goneL; rw [if_pos hn, HX0.out]; rfl
    have hpl : pastL past now = past.drop 1 ++ [now] := by unfold pastL; rw [if_pos hn]
    unfold DoP
    rw [hgo, hpl]
    have hb1 : ∀ b, Bk (some ⟨g, o + 1, none⟩) 11 b → Bk (some ⟨g, o, none⟩) pc b := fun b e => ⟨by omega, by obtain ⟨_, ad, h1, h2⟩ := e; cases h1; exact ⟨_, rfl, h2⟩⟩
    have k3 : Chg (HB hb (some ⟨g, o, none⟩) pc fa fc) w W3 := ((HC.out.mono (fun j hj e => absurd hj (by omega))).thn HKW.out (fun j _ e => .inl e))
    have kk : Chg (HB hb (some ⟨g, o, none⟩) pc fa fc) w w4 := (k3.trans (Chg.of_kept (((Kept.refl W3).alloc _).drew))).thn H5.out (fun j _ e => .inr (.inl (hb1 _ e)))
    have bb : ∀ b, Bk a4 c4 b → Bk (some ⟨g, o, none⟩) pc b ∨ w.heap.size ≤ b := fun b e => (H6.out b e).elim (fun e => .inl (hb1 _ e)) (fun g => .inr (by have := (((Kept.refl W3).alloc (.cells #[.int .i64 now] 3)).drew).size; omega))
    obtain ⟨f1, f2, f3, f4⟩ := hi_fin (past' := past.drop 1 ++ [now]) (fut' := []) H.out kk e0 e1 e2 g0 g1 g2 H4.out (ro_nil _) bb (fun b e => absurd e (not_bk_none _ _)) (fun b _ => not_bk_none _ _) (by simp; omega) (W := _) (by simp only [List.length_append, List.length_singleton, List.length_nil, HD.out]; rfl)
    have hgr : Ro w4 a2 c2 [x0] := (((HR2.out.chg HKW.out (fun b e f => by have := HBK.out b e; omega)).kept (((Kept.refl W3).alloc _).drew)).chg H5.out (fun b e f => by have := HBK.out b e; have := H.out.pr.lt b (hb1 _ f); omega))
    exact ⟨a2, c2, a4, c4, rfl, hgr.chg f4 (fun b e f => by have := HBK.out b e; omega), f1, f2, f3, HBK.out⟩
theorem undo_Do {w : World} {hb : Nat} {pa : Option Addr} {pc : Nat} {fa : Option Addr} {fc : Nat} {past : List Int} {now : Int} {fut : List Int} (h : Hi w hb pa pc fa fc past now fut) (next : Int) :
    Calls Try.prog 11 #[.pointer (some ⟨hb, 0, none⟩), .int .i64 next] w (DoP w hb pa pc fa fc past now fut next) := by
  by_cases hn : past.length = 12
  · exact undo_Do_full h next hn
  · exact undo_Do_some h next hn
end Go.Proofs.Ytbikelbobanfbaa
