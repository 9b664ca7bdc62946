/- A history: Undo, Redo. -/
import Derived.Test.YtbikelbobanfbaaUndo3
import Derived.BigRegion
namespace Go.Proofs.Ytbikelbobanfbaa
open Go.RowKit Go.Maps
set_option linter.unusedSimpArgs false
set_option linter.unusedVariables false

theorem hi_of {w y W : World} {hb : Nat} {pa : Option Addr} {pc : Nat} {fa : Option Addr} {fc : Nat} {past : List Int} {now : Int} {fut : List Int} (h : Hi w hb pa pc fa fc past now fut) (hc : Chg (HB hb pa pc fa fc) w y)
    {a4 : Option Addr} {c4 : Nat} {a5 : Option Addr} {c5 : Nat} {past' fut' : List Int} {now' : Int} (r4 : Ro y a4 c4 past') (r5 : Ro y a5 c5 fut') (b4 : ∀ b, Bk a4 c4 b → Bk pa pc b ∨ w.heap.size ≤ b) (b5 : ∀ b, Bk a5 c5 b → Bk fa fc b ∨ w.heap.size ≤ b)
    (ap : ∀ b, Bk a4 c4 b → ¬ Bk a5 c5 b) (hm : past'.length + fut'.length ≤ 12) (k : Chg (· = hb) y W)
    (p0 : W.cell? ⟨hb, 0, none⟩ = some (.slice a4 past'.length c4)) (p1 : W.cell? ⟨hb, 1, none⟩ = some (.int .i64 now')) (p2 : W.cell? ⟨hb, 2, none⟩ = some (.slice a5 fut'.length c5))
    (g0 : W.frozen? ⟨hb, 0, none⟩ = false) (g1 : W.frozen? ⟨hb, 1, none⟩ = false) (g2 : W.frozen? ⟨hb, 2, none⟩ = false) :
    Hi W hb a4 c4 a5 c5 past' now' fut' ∧ Chg (HB hb pa pc fa fc) w W ∧ (∀ b, HB hb a4 c4 a5 c5 b → HB hb pa pc fa fc b ∨ w.heap.size ≤ b) := by
  have hlt := h.hlt
  have n4 : ¬ Bk a4 c4 hb := fun e => (b4 _ e).elim h.ph (fun g => by omega)
  have n5 : ¬ Bk a5 c5 hb := fun e => (b5 _ e).elim h.fh (fun g => by omega)
  refine ⟨⟨p0, p1, p2, g0, g1, g2, r4.chg k (fun b e f => n4 (f ▸ e)), r5.chg k (fun b e f => n5 (f ▸ e)), n4, n5, ap, hm⟩, hc.thn k (fun j _ e => .inl e), ?_⟩
  rintro b (rfl | e | e)
  · exact .inl (.inl rfl)
  · exact (b4 _ e).elim (fun g => .inl (.inr (.inl g))) .inr
  · exact (b5 _ e).elim (fun g => .inl (.inr (.inr g))) .inr
/-- What Undo or Redo tells, and leaves. -/
def GoP (w : World) (hb : Nat) (pa : Option Addr) (pc : Nat) (fa : Option Addr) (fc : Nat) (past' : List Int) (now' : Int) (fut' : List Int) (e : Ending) (w' : World) : Prop :=
  ∃ pa' pc' fa' fc', e = .returned (.tuple #[.int .i64 now', .int .i64 0]) ∧ Hi w' hb pa' pc' fa' fc' past' now' fut' ∧ Chg (HB hb pa pc fa fc) w w' ∧ (∀ b, HB hb pa' pc' fa' fc' b → HB hb pa pc fa fc b ∨ w.heap.size ≤ b)
theorem undo_Undo_none {w : World} {hb : Nat} {pa : Option Addr} {pc : Nat} {fa : Option Addr} {fc : Nat} {now : Int} {fut : List Int} (h : Hi w hb pa pc fa fc [] now fut) :
    Calls Try.prog 13 #[.pointer (some ⟨hb, 0, none⟩)] w fun e w' => e = .returned (.tuple #[.int .i64 0, .int .i64 19]) ∧ w' = w := by
  have c0 := h.c0
  have hl := h.hlt
  clear h
  go_enter Try.func13, Try.ntmps13
  go_wp2
  go_ret2
  exact ⟨rfl, rfl⟩
theorem undo_Redo_none {w : World} {hb : Nat} {pa : Option Addr} {pc : Nat} {fa : Option Addr} {fc : Nat} {past : List Int} {now : Int} (h : Hi w hb pa pc fa fc past now []) :
    Calls Try.prog 15 #[.pointer (some ⟨hb, 0, none⟩)] w fun e w' => e = .returned (.tuple #[.int .i64 0, .int .i64 19]) ∧ w' = w := by
  have c0 := h.c2
  have hl := h.hlt
  clear h
  go_enter Try.func15, Try.ntmps15
  go_wp2
  go_ret2
  exact ⟨rfl, rfl⟩
set_option maxHeartbeats 1600000 in
theorem undo_Undo_some {w : World} {hb : Nat} {pa : Option Addr} {pc : Nat} {fa : Option Addr} {fc : Nat} {p : List Int} {x now : Int} {fut : List Int} (h : Hi w hb pa pc fa fc (p ++ [x]) now fut) :
    Calls Try.prog 13 #[.pointer (some ⟨hb, 0, none⟩)] w (GoP w hb pa pc fa fc p x (now :: fut)) := by
  have hl := h.hlt
  have hm := h.many
  have hle := h.pr.le
  obtain ⟨g, o, rfl, hg, hcs, hsp⟩ := h.pr.cells (by simp at hle; omega)
  have hx := hcs p.length (by simp)
  rw [show (p ++ [x]).getD p.length 0 = x by simp [List.getD]] at hx
  obtain ⟨N, hN⟩ : ∃ N, N = p.length := ⟨_, rfl⟩
  rw [← hN] at hx
  have H := hidMk h
  have hlen : (p ++ [x]).length = N + 1 := by simp [hN]
  have HL := hidMk hlen
  have HN := hidMk hN
  have HKC := hidMk (show ∀ y, Kept w y → y.cell? ⟨hb, 0, none⟩ = some (.slice (some ⟨g, o, none⟩) (N + 1) pc) ∧ y.cell? ⟨hb, 1, none⟩ = some (.int .i64 now) ∧ y.cell? ⟨hb, 2, none⟩ = some (.slice fa fut.length fc) ∧ y.frozen? ⟨hb, 0, none⟩ = false ∧ y.frozen? ⟨hb, 1, none⟩ = false ∧ y.frozen? ⟨hb, 2, none⟩ = false ∧ hb < y.heap.size ∧ y.cell? ⟨g, o + N, none⟩ = some (.int .i64 x) from fun y hy => by
    have q := h.kept hy
    exact ⟨hlen ▸ q.c0, q.c1, q.c2, q.z0, q.z1, q.z2, q.hlt, hy.cellp hx⟩)
  have HIN := hidMk (show ∀ T y, Kept (w.alloc (.cells #[.int .i64 now] 3)) y → T = w.heap.size → Calls Try.prog 26 #[.slice fa fut.length fc, .int .i64 0, .slice (some ⟨T, 0, none⟩) 1 1] y (InsP y fa fc fut now) from fun T y hy hT => by
    subst hT
    have hlt : w.heap.size < (w.alloc (.cells #[.int .i64 now] 3)).heap.size := by simp
    refine slices_Ins0 fa fc fut w.heap.size now y (h.fr.kept (((Kept.refl w).alloc _).trans hy)) (hy.cellp (by simp)) (fun e => by have := h.fr.lt _ e; omega) ?_ (fun j => ?_) (by omega)
    · have hb := hy.block w.heap.size hlt
      have hp : (w.alloc (.cells #[.int .i64 now] 3)).heap[w.heap.size]? = some (.cells #[.int .i64 now] 3) := Array.getElem?_push_size
      unfold World.shape?
      rw [hb, hp]
      rfl
    · rw [hy.frozen (p := ⟨w.heap.size, j, none⟩) hlt]
      simp)
  have HQ := hidMk (show ∀ y W, Kept w y → Chg (Bk fa fc) y W → W.cell? ⟨hb, 0, none⟩ = some (.slice (some ⟨g, o, none⟩) (N + 1) pc) ∧ W.cell? ⟨hb, 1, none⟩ = some (.int .i64 now) ∧ W.cell? ⟨hb, 2, none⟩ = some (.slice fa fut.length fc) ∧ W.frozen? ⟨hb, 0, none⟩ = false ∧ W.frozen? ⟨hb, 1, none⟩ = false ∧ W.frozen? ⟨hb, 2, none⟩ = false ∧ hb < W.heap.size ∧ W.cell? ⟨g, o + N, none⟩ = some (.int .i64 x) from fun y W hy hc => by
    obtain ⟨e0, e1, e2, g0, g1, g2, gl, gx⟩ := HKC.out _ hy
    have hh := h.fh
    have hg : ¬ Bk fa fc g := h.pf g ⟨by omega, _, rfl, rfl⟩
    exact ⟨hc.cellp e0 hh, hc.cellp e1 hh, hc.cellp e2 hh, (hc.frozen (p := ⟨hb, 0, none⟩) gl hh).trans g0, (hc.frozen (p := ⟨hb, 1, none⟩) gl hh).trans g1, (hc.frozen (p := ⟨hb, 2, none⟩) gl hh).trans g2, Nat.lt_of_lt_of_le gl hc.size, hc.cellp gx hg⟩)
  obtain ⟨d0, d1, d2, f0, f1, f2, hl1, hx1⟩ := HKC.out _ (Kept.refl w)
  clear h hcs hsp hx hN hlen hle
  have hpc : N + 1 ≤ pc := by have := H.out.pr.le; have := HL.out; omega
  have hpc1 : (N : Int) ≤ (pc : Int) := by omega
  have hpc2 : N ≤ pc := by omega
  have hpc3 : ¬ pc = 0 := by omega
  have hN12 : N ≤ 11 := by have := HL.out; have := HN.out; simp at hm; omega
  have hNz : ¬ ((N : Int) + 1 = 0) := by omega
  have hw1 : IntKind.i64.wrap ((N : Int) + 1 - 1) = (N : Int) := by rw [IntKind.wrap_i64]; omega
  go_enter Try.func13, Try.ntmps13
  go_wp2_with fail
  go_region_with ((go_at_call 26; refine (HIN.out _ _ ((Kept.refl _).drew) rfl).mono ?_; rintro e w5 ⟨a5, c5, rfl, r5, k5, b5⟩; obtain ⟨e0, e1, e2, g0, g1, g2, gl, gx⟩ := HQ.out _ _ (((Kept.refl w).alloc _).drew) k5; have HR5 := hidMk r5; have HK5 := hidMk k5; have HB5 := hidMk b5; clear r5 k5 b5))
  all_goals
    refine gen_world (f := fun W => Exit.then _ _ _ _ W) (fun W => W.cell? ⟨hb, 0, none⟩ = some (.slice (some ⟨g, o, none⟩) (N + 1) pc) ∧ W.cell? ⟨hb, 1, none⟩ = some (.int .i64 now) ∧ W.cell? ⟨hb, 2, none⟩ = some (.slice a5 (fut.length + 1) c5) ∧ W.frozen? ⟨hb, 0, none⟩ = false ∧ W.frozen? ⟨hb, 1, none⟩ = false ∧ W.frozen? ⟨hb, 2, none⟩ = false ∧ hb < W.heap.size ∧ W.cell? ⟨g, o + N, none⟩ = some (.int .i64 x) ∧ Chg (· = hb) w5 W) ?_ ?_
    · have hgh : g ≠ hb := fun e => H.out.ph ⟨by have := H.out.pr.le; have := HL.out; omega, _, rfl, e⟩
      exact ⟨(World.cell?_setCell_other _ _ _ _ (by simp)).trans e0, (World.cell?_setCell_other _ _ _ _ (by simp)).trans e1, World.cell?_setCell_same _ _ _ e2, by simpa using g0, by simpa using g1, by simpa using g2, by simpa using gl, (World.cell?_setCell_other _ _ _ _ (by simp [Ne.symm hgh])).trans gx, (Chg.refl (· = hb) w5).setCell (p := ⟨hb, 2, none⟩) (.inl rfl) _⟩
    rintro W6 ⟨i0, i1, i2, j0, j1, j2, jl, ix, kW⟩
    have HW := hidMk kW
    clear kW e0 e1 e2 g0 g1 g2 gl gx d0 d1 d2 f0 f1 f2 hl1 hx1
    go_wp2_with fail
    go_region
    go_wp2_with fail
    go_ret2
    have kk : Chg (HB hb (some ⟨g, o, none⟩) pc fa fc) w w5 := (Chg.of_kept (((Kept.refl w).alloc _).drew)).thn HK5.out (fun j _ e => .inr (.inr e))
    have hcut := ((H.out.pr.kept (((Kept.refl w).alloc (.cells #[.int .i64 now] 3)).drew)).chg HK5.out (fun b e => H.out.pf b e)).cut 0 N (by have := HL.out; omega)
    rw [List.drop_zero, List.take_append_of_le_length (by have := HN.out; omega), List.take_of_length_le (by have := HN.out; omega)] at hcut
    have hb1 : ∀ b, Bk (some ⟨g, o + 0, none⟩) N b → Bk (some ⟨g, o, none⟩) pc b := fun b e => ⟨by omega, by obtain ⟨_, ad, h1, h2⟩ := e; cases h1; exact ⟨_, rfl, h2⟩⟩
    have bb : ∀ b, Bk a5 c5 b → Bk fa fc b ∨ w.heap.size ≤ b := fun b e => (HB5.out b e).elim .inl (fun f => .inr (Nat.le_trans (((Kept.refl w).alloc (.cells #[.int .i64 now] 3)).drew).size f))
    have k6 : Chg (· = hb) w5 (((W6.setCell ⟨hb, 1, none⟩ (.int .i64 x)).setCell ⟨hb, 0, none⟩ (.slice (some ⟨g, o, none⟩) N N)).drew) := (((HW.out.setCell (p := ⟨hb, 1, none⟩) (.inl rfl) _).setCell (p := ⟨hb, 0, none⟩) (.inl rfl) _).drew)
    have hmm : p.length + (now :: fut).length ≤ 12 := by have := HN.out; have := HL.out; simp only [List.length_cons]; omega
    have ap : ∀ b, Bk (some ⟨g, o + 0, none⟩) N b → ¬ Bk a5 c5 b := fun b e f => (bb b f).elim (H.out.pf b (hb1 b e)) (fun q => by have := H.out.pr.lt b (hb1 b e); omega)
    obtain ⟨q1, q2, q3⟩ := hi_of (past' := p) (fut' := now :: fut) (now' := x) H.out kk hcut HR5.out (fun b e => .inl (hb1 b e)) bb ap hmm k6 (by rw [← HN.out]; exact World.cell?_setCell_same _ _ _ ((World.cell?_setCell_other _ _ _ _ (by simp)).trans i0)) ((World.cell?_setCell_other _ _ _ _ (by simp)).trans (World.cell?_setCell_same _ _ _ i1)) ((World.cell?_setCell_other _ _ _ _ (by simp)).trans ((World.cell?_setCell_other _ _ _ _ (by simp)).trans i2)) (by simpa using j0) (by simpa using j1) (by simpa using j2)
    exact ⟨_, _, _, _, rfl, q1, q2, q3⟩
set_option maxHeartbeats 1600000 in
theorem undo_Redo_some {w : World} {hb : Nat} {pa : Option Addr} {pc : Nat} {fa : Option Addr} {fc : Nat} {past : List Int} {now x : Int} {f : List Int} (h : Hi w hb pa pc fa fc past now (x :: f)) :
    Calls Try.prog 15 #[.pointer (some ⟨hb, 0, none⟩)] w (GoP w hb pa pc fa fc (past ++ [now]) x f) := by
  have hl := h.hlt
  have hm := h.many
  have hle := h.fr.le
  obtain ⟨g, o, rfl, hg, hcs, hsp⟩ := h.fr.cells (by simp at hle; omega)
  have hx := hcs 0 (by simp)
  rw [Nat.add_zero, show (x :: f).getD 0 0 = x from rfl] at hx
  obtain ⟨N, hN⟩ : ∃ N, N = f.length := ⟨_, rfl⟩
  have H := hidMk h
  have hlen : (x :: f).length = N + 1 := by simp [hN]
  have HL := hidMk hlen
  have HN := hidMk hN
  have HKC := hidMk (show ∀ y, Kept w y → y.cell? ⟨hb, 0, none⟩ = some (.slice pa past.length pc) ∧ y.cell? ⟨hb, 1, none⟩ = some (.int .i64 now) ∧ y.cell? ⟨hb, 2, none⟩ = some (.slice (some ⟨g, o, none⟩) (N + 1) fc) ∧ y.frozen? ⟨hb, 0, none⟩ = false ∧ y.frozen? ⟨hb, 1, none⟩ = false ∧ y.frozen? ⟨hb, 2, none⟩ = false ∧ hb < y.heap.size ∧ y.cell? ⟨g, o, none⟩ = some (.int .i64 x) from fun y hy => by
    have q := h.kept hy
    exact ⟨q.c0, q.c1, hlen ▸ q.c2, q.z0, q.z1, q.z2, q.hlt, hy.cellp hx⟩)
  have HP := hidMk (show ∀ y, Kept w y → Ro y pa pc past from fun y hy => h.pr.kept hy)
  have HQ := hidMk (show ∀ y W, Kept w y → Chg (Bk pa pc) y W → W.cell? ⟨hb, 0, none⟩ = some (.slice pa past.length pc) ∧ W.cell? ⟨hb, 1, none⟩ = some (.int .i64 now) ∧ W.cell? ⟨hb, 2, none⟩ = some (.slice (some ⟨g, o, none⟩) (N + 1) fc) ∧ W.frozen? ⟨hb, 0, none⟩ = false ∧ W.frozen? ⟨hb, 1, none⟩ = false ∧ W.frozen? ⟨hb, 2, none⟩ = false ∧ hb < W.heap.size ∧ W.cell? ⟨g, o, none⟩ = some (.int .i64 x) from fun y W hy hc => by
    obtain ⟨e0, e1, e2, g0, g1, g2, gl, gx⟩ := HKC.out _ hy
    have hh := h.ph
    have hg : ¬ Bk pa pc g := fun e => h.pf g e ⟨by omega, _, rfl, rfl⟩
    exact ⟨hc.cellp e0 hh, hc.cellp e1 hh, hc.cellp e2 hh, (hc.frozen (p := ⟨hb, 0, none⟩) gl hh).trans g0, (hc.frozen (p := ⟨hb, 1, none⟩) gl hh).trans g1, (hc.frozen (p := ⟨hb, 2, none⟩) gl hh).trans g2, Nat.lt_of_lt_of_le gl hc.size, hc.cellp gx hg⟩)
  obtain ⟨d0, d1, d2, f0, f1, f2, hl1, hx1⟩ := HKC.out _ (Kept.refl w)
  clear h hcs hsp hx hN hlen hle
  have hfc : N + 1 ≤ fc := by have := H.out.fr.le; have := HL.out; omega
  have hfc1 : (N : Int) + 1 ≤ (fc : Int) := by omega
  have hfc3 : ¬ fc = 0 := by omega
  have hN12 : N ≤ 11 := by have := HL.out; omega
  have hp12 : past.length ≤ 12 := by omega
  have hNz : ¬ ((N : Int) + 1 = 0) := by omega
  go_enter Try.func15, Try.ntmps15
  go_wp2_with fail
  go_region_law ((refine step_pushRo _ (by rfl) _ _ (by rfl) pa pc past (by rfl) (HP.out _ (((Kept.refl _).alloc _).drew)) w.heap.size now (by rfl) (by simp) (by omega) ?_; intro a5 c5 w5 r5 k5 b5; obtain ⟨e0, e1, e2, g0, g1, g2, gl, gx⟩ := HQ.out _ _ (((Kept.refl _).alloc _).drew) k5; have HR5 := hidMk r5; have HK5 := hidMk k5; have HB5 := hidMk b5; clear r5 k5 b5))
  all_goals
    refine gen_world (f := fun W => Exit.then _ _ _ _ W) (fun W => W.cell? ⟨hb, 0, none⟩ = some (.slice a5 (past.length + 1) c5) ∧ W.cell? ⟨hb, 1, none⟩ = some (.int .i64 now) ∧ W.cell? ⟨hb, 2, none⟩ = some (.slice (some ⟨g, o, none⟩) (N + 1) fc) ∧ W.frozen? ⟨hb, 0, none⟩ = false ∧ W.frozen? ⟨hb, 1, none⟩ = false ∧ W.frozen? ⟨hb, 2, none⟩ = false ∧ hb < W.heap.size ∧ W.cell? ⟨g, o, none⟩ = some (.int .i64 x) ∧ Chg (· = hb) w5 W) ?_ ?_
    · have hgh : g ≠ hb := fun e => H.out.fh ⟨by omega, _, rfl, e⟩
      exact ⟨World.cell?_setCell_same _ _ _ e0, (World.cell?_setCell_other _ _ _ _ (by simp)).trans e1, (World.cell?_setCell_other _ _ _ _ (by simp)).trans e2, by simpa using g0, by simpa using g1, by simpa using g2, by simpa using gl, (World.cell?_setCell_other _ _ _ _ (by simp [Ne.symm hgh])).trans gx, (Chg.refl (· = hb) w5).setCell (p := ⟨hb, 0, none⟩) (.inl rfl) _⟩
    rintro W6 ⟨i0, i1, i2, j0, j1, j2, jl, ix, kW⟩
    have HW := hidMk kW
    clear kW e0 e1 e2 g0 g1 g2 gl gx d0 d1 d2 f0 f1 f2 hl1 hx1
    have HF := hidMk (show ∀ ad : Addr, (N = 0 ∨ ad = ⟨g, o + 1, none⟩) → GoP w hb pa pc (some ⟨g, o, none⟩) fc (past ++ [now]) x f (.returned (.tuple #[.int .i64 x, .int .i64 0])) (((W6.setCell ⟨hb, 1, none⟩ (.int .i64 x)).setCell ⟨hb, 2, none⟩ (.slice (some ad) N N)).drew) from fun ad had => by
      have kk : Chg (HB hb pa pc (some ⟨g, o, none⟩) fc) w w5 := (Chg.of_kept (((Kept.refl w).alloc _).drew)).thn HK5.out (fun j _ e => .inr (.inl e))
      have hr : Ro w5 (some ad) N f := by
        rcases had with h0 | rfl
        · have hf : f = [] := List.eq_nil_of_length_eq_zero (by have := HN.out; omega)
          rw [h0, hf]
          exact ro_none _ _
        · have hcut := ((H.out.fr.kept (((Kept.refl w).alloc (.cells #[.int .i64 now] 3)).drew)).chg HK5.out (fun b e q => H.out.pf b q e)).cut 1 N (by have := HL.out; omega)
          rwa [show ((x :: f).drop 1).take N = f by simp [List.take_of_length_le (show f.length ≤ N by have := HN.out; omega)]] at hcut
      have hb1 : ∀ b, Bk (some ad) N b → Bk (some ⟨g, o, none⟩) fc b := fun b e => by
        obtain ⟨h0, ad', h1, h2⟩ := e
        rcases had with h3 | rfl
        · omega
        · cases h1; exact ⟨by omega, _, rfl, h2⟩
      have bb : ∀ b, Bk a5 c5 b → Bk pa pc b ∨ w.heap.size ≤ b := fun b e => (HB5.out b e).elim .inl (fun f => .inr (Nat.le_trans (((Kept.refl w).alloc (.cells #[.int .i64 now] 3)).drew).size f))
      have k6 : Chg (· = hb) w5 (((W6.setCell ⟨hb, 1, none⟩ (.int .i64 x)).setCell ⟨hb, 2, none⟩ (.slice (some ad) N N)).drew) := (((HW.out.setCell (p := ⟨hb, 1, none⟩) (.inl rfl) _).setCell (p := ⟨hb, 2, none⟩) (.inl rfl) _).drew)
      have hmm : (past ++ [now]).length + f.length ≤ 12 := by have := HN.out; have := HL.out; simp only [List.length_append, List.length_singleton]; omega
      have ap : ∀ b, Bk a5 c5 b → ¬ Bk (some ad) N b := fun b q e => (bb b q).elim (fun q => H.out.pf b q (hb1 b e)) (fun q => by have := H.out.fr.lt b (hb1 b e); omega)
      obtain ⟨q1, q2, q3⟩ := hi_of (past' := past ++ [now]) (fut' := f) (now' := x) H.out kk HR5.out hr bb (fun b e => .inl (hb1 b e)) ap hmm k6 ((World.cell?_setCell_other _ _ _ _ (by simp)).trans ((World.cell?_setCell_other _ _ _ _ (by simp)).trans (by simpa using i0))) ((World.cell?_setCell_other _ _ _ _ (by simp)).trans (World.cell?_setCell_same _ _ _ i1)) (by rw [← HN.out]; exact World.cell?_setCell_same _ _ _ ((World.cell?_setCell_other _ _ _ _ (by simp)).trans i2)) (by simpa using j0) (by simpa using j1) (by simpa using j2)
      exact ⟨_, _, _, _, rfl, q1, q2, q3⟩)
    by_cases hz : N = 0
    · subst hz
      go_wp2_with fail
      go_region
      go_wp2_with fail
      go_ret2
      exact HF.out _ (by simp)
    · go_wp2_with fail
      go_region
      go_wp2_with fail
      go_ret2
      exact HF.out _ (.inr rfl)
end Go.Proofs.Ytbikelbobanfbaa
