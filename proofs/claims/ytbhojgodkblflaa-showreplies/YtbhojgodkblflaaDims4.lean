/- dims.add. -/
import Derived.Test.YtbhojgodkblflaaDims3B
namespace Go.Proofs.Ytbhojgodkblflaa
open Go.RowKit Go.Maps
set_option linter.unusedSimpArgs false
set_option linter.unusedVariables false

theorem Ss.chg {S : Nat → Prop} {w w' : World} {a : Option Addr} {n : Nat} {l : List ByteArray} (h : Ss w a n l) (g : Chg S w w') (hb : 0 < n → ∀ ad, a = some ad → ¬ S ad.block) : Ss w' a n l :=
  ⟨h.len, h.big, fun hp => by
    obtain ⟨c, o, h1, h2, h3⟩ := h.cells hp
    refine ⟨c, o, h1, Nat.lt_of_lt_of_le h2 g.size, fun i hi => ?_⟩
    have hne : ¬ S c := hb hp ⟨c, o, none⟩ h1
    rw [g.cell (p := ⟨c, o + i, none⟩) h2 hne]
    exact h3 i hi⟩
theorem DP.push {w0 x y : World} {p : Nat} {ds : List Dm} {tp : Nat → Nat} {ma : Option Addr} {mc : Nat} {ms : List ByteArray} {lv sc : Int} {dv : Value} (h : DP w0 x p ds tp ma mc ms lv sc dv) (nm : ByteArray) (nd : List Nd) (q : Nat) {g cap : Nat}
    (ho : y.ownsRow w0.heap.size 100 2 (.slice (some ⟨g, 0, none⟩) (ds.length + 1) cap) (ds.length + 1) (dimVs ds tp ++ [.string nm, .pointer (some ⟨q, 0, none⟩)])) (hc : Chg (fun t => dv.ownBlock = some t) x y) (hg : dv.ownBlock = some g ∨ g = x.heap.size)
    {lo hi : Nat} (hsol : Solid lo hi q nd x) (hpl : p < lo) (hrow : ∀ t, dv.ownBlock = some t → t < lo) :
    y.cell? ⟨p, 0, none⟩ = some dv ∧ y.frozen? ⟨p, 0, none⟩ = false ∧ DP w0 (y.setCell ⟨p, 0, none⟩ (.slice (some ⟨g, 0, none⟩) (ds.length + 1) cap)) p (ds ++ [(nm, nd)]) (fun k => if k = ds.length then q else tp k) ma mc ms lv sc (.slice (some ⟨g, 0, none⟩) (ds.length + 1) cap) := by
  have hlt := h.lt
  have hB : ∀ t, dv.ownBlock = some t → w0.heap.size ≤ t ∧ t < x.heap.size := World.ownsRow.lt h.own
  have n1 : ¬ dv.ownBlock = some p := fun e => by have := hB p e; omega
  have gB : w0.heap.size ≤ g := (World.ownsRow.lt ho g rfl).1
  have lp : p < x.heap.size := cell_lt h.c0
  have q0 := hc.cellp h.c0 n1
  have c2 : Chg (· = p) y (y.setCell ⟨p, 0, none⟩ (.slice (some ⟨g, 0, none⟩) (ds.length + 1) cap)) := (Chg.refl (· = p) y).setCell (p := ⟨p, 0, none⟩) (.inl rfl) _
  have oth : ∀ j v, j ≠ 0 → y.cell? ⟨p, j, none⟩ = some v → (y.setCell ⟨p, 0, none⟩ (.slice (some ⟨g, 0, none⟩) (ds.length + 1) cap)).cell? ⟨p, j, none⟩ = some v := fun j v hj e => (World.cell?_setCell_other _ _ _ _ (by intro e; simp only [Addr.mk.injEq] at e; omega)).trans e
  refine ⟨q0, (hc.frozen (p := ⟨p, 0, none⟩) lp n1).trans (h.fz 0), (h.chg.thn hc (fun j hj e => by have := hB j e; omega)).trans c2, World.cell?_setCell_same _ _ _ q0, oth 1 _ (by omega) (hc.cellp h.c1 n1), oth 2 _ (by omega) (hc.cellp h.c2 n1), oth 3 _ (by omega) (hc.cellp h.c3 n1), fun j => by simpa using (hc.frozen (p := ⟨p, j, none⟩) lp n1).trans (h.fz j), ?_, fun k hk => ?_, ?_, h.mb, hlt⟩
  · rw [dimVs_app, List.length_append, List.length_singleton]
    obtain ⟨h0, h1 | ⟨k, cap', cur, hv, hb', hh, r⟩⟩ := ho
    · exact ⟨h0, .inl h1⟩
    · refine ⟨h0, .inr ⟨k, cap', cur, hv, hb', ?_, r⟩⟩
      have hk : k < y.heap.size := by
        by_cases hlt : k < y.heap.size
        · exact hlt
        · rw [Array.getElem?_eq_none (by omega)] at hh; cases hh
      rw [c2.block k hk (by omega)]
      exact hh
  · rw [List.length_append, List.length_singleton] at hk
    by_cases e : k = ds.length
    · subst e
      rw [dmL_app2]
      simp only [if_true]
      refine ⟨lo, hi, (hsol.chg hc (fun j h1 h2 e => by have := hrow j e; omega)).chg c2 (fun j h1 h2 e => by omega), hpl, fun g' e ⟨e1, e2⟩ => ?_⟩
      simp only [Value.ownBlock, Option.some.injEq] at e
      subst e
      rcases hg with hg | hg
      · have := hrow g hg; omega
      · have := hsol.hi_le; omega
    · rw [dmL_app1 (by omega)]
      simp only [e, if_false]
      obtain ⟨lo', hi', h1, h2, h3⟩ := h.tr k (by omega)
      refine ⟨lo', hi', (h1.chg hc (fun j a b e => h3 j e ⟨a, b⟩)).chg c2 (fun j a b e => by omega), h2, fun g' e ⟨e1, e2⟩ => ?_⟩
      simp only [Value.ownBlock, Option.some.injEq] at e
      subst e
      rcases hg with hg | hg
      · exact h3 g hg ⟨e1, e2⟩
      · have := h1.hi_le; omega
  · exact (h.mss.chg hc (fun hp ad had e => by have := hB _ e; have := (h.mb hp ad had).2; omega)).chg c2 (fun hp ad had e => (h.mb hp ad had).1 e)
/-- What add answers. -/
def AddIs (ds : List Dm) (nm : ByteArray) (nd : List Nd) (er : Int) : Prop :=
  (nameB nm = false ∧ er = 3) ∨ (nameB nm = true ∧ idxI (lbl ds) nm ≠ -1 ∧ er = 4) ∨ (nameB nm = true ∧ idxI (lbl ds) nm = -1 ∧ ∃ at_, NewIs nd at_ er)
def AddPost (w0 w : World) (p : Nat) (ds : List Dm) (ma : Option Addr) (mc : Nat) (ms : List ByteArray) (lv sc : Int) (nm : ByteArray) (nd : List Nd) (e : Ending) (w' : World) : Prop :=
  ∃ er, e = .returned (.int .i64 er) ∧ AddIs ds nm nd er ∧ ((er = 0 ∧ ∃ tp' dv', DP w0 w' p (ds ++ [(nm, nd)]) tp' ma mc ms lv sc dv') ∨ (er ≠ 0 ∧ Kept w w'))
set_option maxHeartbeats 4000000 in
set_option maxRecDepth 100000 in
theorem dims_add {w0 w : World} {p : Nat} {ds : List Dm} {tp : Nat → Nat} {ma : Option Addr} {mc : Nat} {ms : List ByteArray} {lv sc : Int} {dv : Value} (h : DP w0 w p ds tp ma mc ms lv sc dv) (hm : ds.length ≤ 50) (nm : ByteArray) (hnm : nm.size ≤ maxLen) (a : Option Addr) (n c : Nat) (nd : List Nd) (hs : Ns w a n nd) :
    Calls Try.prog 34 #[.pointer (some ⟨p, 0, none⟩), .agg #[.string nm, .slice a n c]] w (AddPost w0 w p ds ma mc ms lv sc nm nd) := by
  have HD := hidMk h
  have HS := hidMk hs
  have HN := hidMk (text_Name nm hnm)
  clear hs
  cases hb : nameB nm with
  | false =>
    rw [hb] at HN
    have HB := hidMk hb
    clear hb h
    go_enter Try.func34, Try.ntmps34
    go_wp2_with (go_at_call 47; refine (HN.out _).mono ?_; rintro e w1 ⟨rfl, rfl⟩)
    go_ret
    exact ⟨3, rfl, .inl ⟨HB.out, rfl⟩, .inr ⟨by omega, (Kept.refl w).alloc _⟩⟩
  | true =>
    rw [hb] at HN
    have HB := hidMk hb
    clear hb h
    have HF := hidMk (show ∀ y, Kept w y → _ from fun y hy => dims_Find (HD.out.kept hy) (by omega) nm)
    by_cases hf : idxI (lbl ds) nm = -1
    · rw [hf] at HF
      have HFF := hidMk hf
      clear hf
      have hpw : p < w.heap.size := cell_lt HD.out.c0
      go_enter Try.func34, Try.ntmps34
      have HBX := hidMk (show ∀ t, (w.alloc (.cells #[.string nm, .slice a n c] t)).cell? ⟨w.heap.size, 0, none⟩ = some (.string nm) ∧ (w.alloc (.cells #[.string nm, .slice a n c] t)).cell? ⟨w.heap.size, 1, none⟩ = some (.slice a n c) from fun t => ⟨by simp, by simp⟩)
      go_wp2_with (go_at_call 47; refine (HN.out _).mono ?_; rintro e w1 ⟨rfl, rfl⟩)
      refine (HF.out _ ((Kept.refl w).alloc _)).mono ?_
      rintro e w2 ⟨rfl, k2⟩
      have b1 := k2.cellp (HBX.out _).1
      have b2 := k2.cellp (HBX.out _).2
      have K2 := hidMk (((Kept.refl w).alloc _).trans k2)
      clear k2
      have HT := hidMk (tree_New a n c nd w2 (HS.out.kept K2.out))
      have hmm : (((-1 : Int)) != (-1 : Int)) = false := by decide
      go_wp2_with fail
      refine HT.out.mono ?_
      rintro e w3 (⟨q, ⟨hq, hsol⟩, rfl, hni, _, k3⟩ | ⟨at_, er, rfl, her, hni, k3⟩)
      · have b1' := k3.cellp b1
        have K3 := hidMk (K2.out.trans k3)
        have D3 := HD.out.kept K3.out
        have D2 := HD.out.kept K2.out
        have hw2 : w2.heap.size ≤ w3.heap.size := k3.size
        have HRB := hidMk (show ∀ t, dv.ownBlock = some t → t < w2.heap.size from fun t ht => (World.ownsRow.lt D2.own t ht).2)
        have hpl : p < w2.heap.size := Nat.lt_of_lt_of_le hpw K2.out.size
        obtain ⟨da, dc, rfl, _⟩ := D3.rows (by omega)
        have HSOL := hidMk hsol
        have HNI := hidMk hni
        have HD3 := hidMk D3
        have t0 := D3.c0
        have t0' := fun o => (((Kept.refl w3).alloc o).drew).cellp t0
        have b1'' := fun o => (((Kept.refl w3).alloc o).drew).cellp b1'
        have hsz := D3.chg.size
        have HOV := hidMk (show ∀ y, Kept w3 y → y.ownsRow w0.heap.size 100 2 (.slice da ds.length dc) ds.length (dimVs ds tp) from fun y hy => (D3.kept hy).own)
        have HPU := hidMk (show ∀ (y z : World) (g cap : Nat), Kept w3 y → z.ownsRow w0.heap.size 100 2 (.slice (some ⟨g, 0, none⟩) (ds.length + 1) cap) (ds.length + 1) (dimVs ds tp ++ [.string nm, .pointer (some ⟨q, 0, none⟩)]) → Chg (fun t => (Value.slice da ds.length dc).ownBlock = some t) y z → ((Value.slice da ds.length dc).ownBlock = some g ∨ g = y.heap.size) → _ from fun y z g cap hy ho hc hg => (D3.kept hy).push nm nd q ho hc hg (HSOL.out.kept hy) hpl HRB.out)
        clear D3 D2 hsol hni k3 HD HS HF HN HT b1 b2
        go_upto_region 7 with fail
        go_cut [] from 8 to 40 (fun w' => ∃ tp' dv', DP w0 w' p (ds ++ [(nm, nd)]) tp' ma mc ms lv sc dv')
        case first =>
          go_region_law ((refine step_pushD _ (by rfl) _ _ (by rfl) w0.heap.size (.slice da ds.length dc) ds tp (by rfl) (HOV.out _ (((Kept.refl _).alloc _).drew)) (by simp; omega) w3.heap.size nm q (by rfl) (by simp) (by simp) (by omega) (w3.heap.size + 1) (by simp) ?_; intro g4 cap4 w4 o4 k4 a4 l4; obtain ⟨q4, f4, d4⟩ := HPU.out _ w4 g4 cap4 (((Kept.refl _).alloc _).drew) o4 k4 (by simpa using a4); have H4 := hidMk d4; clear o4 k4 a4 l4 d4))
          all_goals (try go_wp2_with fail)
          all_goals go_meet
          all_goals exact ⟨_, _, H4.out⟩
        case rest =>
          obtain ⟨tp', dv', h9⟩ := hcut
          have H9 := hidMk h9
          clear h9
          go_wp2_with fail
          go_ret
          exact ⟨0, rfl, .inr (.inr ⟨HB.out, HFF.out, 0, HNI.out⟩), .inl ⟨rfl, tp', dv', H9.out⟩⟩
      · have K3 := hidMk (K2.out.trans k3)
        have HNI := hidMk hni
        have HER := hidMk her
        have her' : (er == 0) = false := by simpa using her
        clear k3 hni her
        go_wp2_with fail
        go_ret
        exact ⟨er, rfl, .inr (.inr ⟨HB.out, HFF.out, at_, HNI.out⟩), .inr ⟨HER.out, K3.out⟩⟩
    · have HFF := hidMk (show AddIs ds nm nd 4 from .inr (.inl ⟨HB.out, hf, rfl⟩))
      generalize idxI (lbl ds) nm = ix at *
      have hix : (ix != -1) = true := by simpa using hf
      clear hf
      go_enter Try.func34, Try.ntmps34
      go_wp2_with (first | (go_at_call 47; refine (HN.out _).mono ?_; rintro e w1 ⟨rfl, rfl⟩) | (go_at_call 48; refine (HF.out _ ((Kept.refl w).alloc _)).mono ?_; rintro e w2 ⟨rfl, k2⟩; have K2 := hidMk (((Kept.refl w).alloc _).trans k2); clear k2))
      go_ret
      exact ⟨4, rfl, HFF.out, .inr ⟨by omega, K2.out⟩⟩
end Go.Proofs.Ytbhojgodkblflaa
