/- dims' nodes: a dimension's members, as they were handed in. · dims.Cat. -/
import Derived.Test.YtmmdfpafkmhgcaaGreatDims11B
import Derived.OwnWalk
import Derived.Deep.RegionHeld3
import Derived.Test.YtmmdfpafkmhgcaaGreatLawDims2
namespace Go.Proofs.YtmmdfpafkmhgcaaGreat
open Go.RowKit Go.Maps
set_option linter.unusedSimpArgs false
set_option linter.unusedVariables false

theorem ninfo : ∃ i0, Tryz.prog.info? 68 = some i0 ∧ i0.zero = some (.agg #[.string ⟨#[]⟩, .int .i64 0]) ∧ i0.size = 2 ∧ i0.bytes = 24 := by
  have h : (Tryz.prog.info? 68).map (fun i => (i.zero, i.size, i.bytes)) = some (some (.agg #[.string ⟨#[]⟩, .int .i64 0]), 2, 24) := by kernel_rfl
  exact info_parts h
/-- A row of members that is being filled. -/
structure NR (y : World) (g : Nat) (l : List Nd) (k : Nat) : Prop where
  lt : g < y.heap.size
  cell : ∀ i, i < l.length → ∃ s u, y.cell? ⟨g, i * 2, none⟩ = some (.string s) ∧ y.cell? ⟨g, i * 2 + 1, none⟩ = some (.int .i64 u) ∧ (i < k → s = nmA l i ∧ u = upA l i)
  fz : ∀ j, y.frozen? ⟨g, j, none⟩ = false
theorem NR.kept {y z : World} {g : Nat} {l : List Nd} {k : Nat} (h : NR y g l k) (t : Kept y z) : NR z g l k :=
  ⟨Nat.lt_of_lt_of_le h.lt t.size, fun i hi => by
    obtain ⟨s, u, h1, h2, h3⟩ := h.cell i hi
    exact ⟨s, u, t.cellp h1, t.cellp h2, h3⟩, fun j => (t.frozen (p := ⟨g, j, none⟩) h.lt).trans (h.fz j)⟩
theorem NR.set {y : World} {g : Nat} {l : List Nd} {k : Nat} (h : NR y g l k) (hk : k < l.length) : NR ((y.setCell ⟨g, k * 2, none⟩ (.string (nmA l k))).setCell ⟨g, k * 2 + 1, none⟩ (.int .i64 (upA l k))) g l (k + 1) := by
  obtain ⟨s, u, c1, c2, _⟩ := h.cell k hk
  have e1 : ∀ j, j ≠ k * 2 → (y.setCell ⟨g, k * 2, none⟩ (.string (nmA l k))).cell? ⟨g, j, none⟩ = y.cell? ⟨g, j, none⟩ := fun j hj => World.cell?_setCell_other _ _ _ _ (by intro e; simp only [Addr.mk.injEq] at e; omega)
  have e2 : ∀ j, j ≠ k * 2 + 1 → ((y.setCell ⟨g, k * 2, none⟩ (.string (nmA l k))).setCell ⟨g, k * 2 + 1, none⟩ (.int .i64 (upA l k))).cell? ⟨g, j, none⟩ = (y.setCell ⟨g, k * 2, none⟩ (.string (nmA l k))).cell? ⟨g, j, none⟩ := fun j hj => World.cell?_setCell_other _ _ _ _ (by intro e; simp only [Addr.mk.injEq] at e; omega)
  refine ⟨by simpa [World.setCell] using h.lt, fun i hi => ?_, fun j => by simpa using h.fz j⟩
  by_cases e : i = k
  · subst e
    refine ⟨_, _, ?_, ?_, fun _ => ⟨rfl, rfl⟩⟩
    · rw [e2 _ (by omega)]; exact World.cell?_setCell_same _ _ _ c1
    · exact World.cell?_setCell_same _ _ _ ((e1 _ (by omega)).trans c2)
  · obtain ⟨s', u', d1, d2, d3⟩ := h.cell i hi
    refine ⟨s', u', ?_, ?_, fun hi' => d3 (by omega)⟩
    · rw [e2 _ (by omega), e1 _ (by omega)]; exact d1
    · rw [e2 _ (by omega), e1 _ (by omega)]; exact d2
theorem nr_made {w : World} {base e g : Nat} {l : List Nd} (h : w.ownsRow base e 2 (.slice (some ⟨g, 0, none⟩) l.length l.length) l.length (madeCells #[.string ⟨#[]⟩, .int .i64 0] (l.length * 2)).toList) (hn : 0 < l.length) : NR w g l 0 := by
  have h' := h
  obtain ⟨hl, ⟨hv, hz⟩ | ⟨g', cap, cur, hv, hb, hheap, hc, hcm, hsz, htk⟩⟩ := h
  · omega
  · simp only [Value.slice.injEq, Option.some.injEq, Addr.mk.injEq] at hv
    obtain ⟨⟨rfl, _, _⟩, _, rfl⟩ := hv
    refine ⟨?_, fun i hi => ⟨⟨#[]⟩, 0, ?_, ?_, fun h => absurd h (by omega)⟩, fun i => by simp [World.frozen?, hheap]⟩
    · by_cases hlt : g < w.heap.size
      · exact hlt
      · rw [Array.getElem?_eq_none (by omega)] at hheap; cases hheap
    · rw [h'.cellAt (i * 2) (by omega)]
      simp [madeCells, show i * 2 < l.length * 2 by omega]
    · rw [h'.cellAt (i * 2 + 1) (by omega)]
      simp [madeCells, show i * 2 + 1 < l.length * 2 by omega, show (i * 2 + 1) % 2 = 1 by omega]
def NodesPost (w : World) (l : List Nd) (e : Ending) (w' : World) : Prop := ∃ g, e = .returned (.slice (some ⟨g, 0, none⟩) l.length l.length) ∧ w.heap.size ≤ g ∧ g < w'.heap.size ∧ Ns w' (some ⟨g, 0, none⟩) l.length l ∧ Kept w w'
set_option maxHeartbeats 4000000 in
set_option maxRecDepth 100000 in
theorem dim_nodes {w : World} (q : Nat) (nm : ByteArray) (l : List Nd) (hw : Whole w q l) (h1 : 1 ≤ l.length) (h60 : l.length ≤ 60) (hnb : ∀ i, i < l.length → (nmA l i).size ≤ maxLen) (hub : ∀ i, i < l.length → isI (upA l i)) :
    Calls Tryz.prog 79 #[.agg #[.string nm, .pointer (some ⟨q, 0, none⟩)]] w (NodesPost w l) := by
  have HLN := hidMk (show ∀ y, Kept w y → _ from fun y hy => w_Len (hw.kept hy))
  have HNM := hidMk (show ∀ y, Kept w y → ∀ k : Nat, k < l.length → Calls Tryz.prog 95 #[.pointer (some ⟨q, 0, none⟩), .int .i64 k] y fun e w' => e = .returned (.string (nmA l k)) ∧ w' = y from fun y hy k hk => by
    have := w_Name (hw.kept hy) k
    unfold nmI at this
    rw [if_pos (show isP l k from ⟨by omega, by omega⟩), Int.toNat_natCast] at this
    exact this)
  have HUP := hidMk (show ∀ y, Kept w y → ∀ k : Nat, k < l.length → Calls Tryz.prog 75 #[.pointer (some ⟨q, 0, none⟩), .int .i64 k] y fun e w' => e = .returned (.int .i64 (upA l k)) ∧ w' = y from fun y hy k hk => by
    have := w_Up (hw.kept hy) k
    unfold upI at this
    rw [if_pos (show isP l k from ⟨by omega, by omega⟩), Int.toNat_natCast] at this
    exact this)
  have HB := hidMk (And.intro hnb hub)
  clear hw hnb hub
  obtain ⟨i0, hi0, hz0, hz1, hz2⟩ := ninfo
  go_enter Tryz.func79, Tryz.ntmps79
  go_wp2_with fail
  refine (HLN.out _ ((Kept.refl w).alloc _)).mono ?_
  rintro e w1 ⟨rfl, hw1⟩
  rw [hw1]
  clear hw1
  go_wp2_with (at_make; refine wpList_make_full _ rfl _ _ 69 rfl (w.heap.size + 1) 68 i0 (.agg #[.string ⟨#[]⟩, .int .i64 0]) 2 Tryz.underlying69 hi0 hz0 hz1 .i64 .i64 _ _ l.length rfl rfl ?c1 ?c2 ?c3 ?c4 ?c5 ?_)
  case c1 => rfl
  case c2 => rfl
  case c3 => rw [hz2]; omega
  case c4 => unfold maxLen; omega
  case c5 => simp
  intro w2 hown hgrow
  have HNR := hidMk (nr_made hown (by omega))
  have hk2 : Kept (w.alloc (.cells #[.string nm, .pointer (some ⟨q, 0, none⟩)] 118)) w2 := (Chg.refl (fun _ => False) _).grown hgrow (fun k hk => by cases hk) |>.keptAll
  have hb2 : w2.cell? ⟨w.heap.size, 1, none⟩ = some (.pointer (some ⟨q, 0, none⟩)) := hk2.cellp (by simp)
  have HK2 := hidMk (((Kept.refl w).alloc _).trans hk2)
  clear hown hgrow hk2
  go_wp2_with fail
  go_loopg [11] l.length (fun g x wr => ∃ k : Nat, k + g = l.length ∧ x = .int .i64 k ∧ NR wr (w.heap.size + 1) l k ∧ Kept w wr ∧ wr.cell? ⟨w.heap.size, 1, none⟩ = some (.pointer (some ⟨q, 0, none⟩)))
  case atStart => exact ⟨0, by omega, rfl, by simpa using HNR.out, HK2.out, hb2⟩
  case round =>
    obtain ⟨k, hkg, rfl, hnr, hk, hbx⟩ := hrel
    have HKG := hidMk hkg
    have HK := hidMk hk
    have HN := hidMk hnr
    by_cases hkl : k < l.length
    · obtain ⟨s0, u0, c1, c2, _⟩ := hnr.cell k hkl
      have f1 := hnr.fz (k * 2)
      have f2 := hnr.fz (k * 2 + 1)
      have HSET := hidMk (show ∀ y, Kept wr y → _ from fun y hy => (hnr.kept hy).set hkl)
      have hk' : (k : Int) < l.length := by omega
      have HBX := hidMk hbx
      have hlt := hnr.lt
      have HNK := hidMk (show ∀ y, Kept wr y → _ from fun y hy => HNM.out y (hk.trans hy) k hkl)
      have HUK := hidMk (show ∀ y, Kept wr y → _ from fun y hy => HUP.out y (hk.trans hy) k hkl)
      clear hnr hkg hk hb2 HNR
      generalize hnk : nmA l k = nk at *
      generalize huk : upA l k = uk at *
      go_wp2_with fail
      go_region_held3 (fun w' => w'.cell? ⟨w.heap.size, 1, none⟩ = some (.pointer (some ⟨q, 0, none⟩))) (first | assumption | go_keep) (first | (go_at_call 95; refine (HNK.out _ (by (repeat (first | (with_reducible exact Kept.refl _) | (with_reducible refine Kept.drew ?_) | (with_reducible refine Kept.drewN ?_ _))))).mono ?_; rintro e w5 ⟨rfl, rfl⟩) | (go_at_call 75; refine (HUK.out _ (by (repeat (first | (with_reducible exact Kept.refl _) | (with_reducible refine Kept.drew ?_) | (with_reducible refine Kept.drewN ?_ _))))).mono ?_; rintro e w5 ⟨rfl, rfl⟩))
      have HS2 := HSET.out wr (Kept.refl _)
      refine gen_world (f := fun W => Exit.inBlock _ _ _ _ W) (fun W => NR W (w.heap.size + 1) l (k + 1) ∧ Kept w W ∧ W.cell? ⟨w.heap.size, 1, none⟩ = some (.pointer (some ⟨q, 0, none⟩))) ⟨HS2.kept ((Kept.refl _).drew), (((HK.out.setCell (p := ⟨w.heap.size + 1, k * 2, none⟩) (by show w.heap.size ≤ w.heap.size + 1; omega) _).setCell (p := ⟨w.heap.size + 1, k * 2 + 1, none⟩) (by show w.heap.size ≤ w.heap.size + 1; omega) _)).drew, ?_⟩ ?_
      · exact cell_oth (a := ⟨w.heap.size + 1, k * 2 + 1, none⟩) (cell_oth (a := ⟨w.heap.size + 1, k * 2, none⟩) HBX.out (by show w.heap.size + 1 ≠ w.heap.size; omega) _) (by show w.heap.size + 1 ≠ w.heap.size; omega) _
      rintro W ⟨hW1, hW2, hW3⟩
      have HW := hidMk (And.intro hW1 (And.intro hW2 hW3))
      clear hW1 hW2 hW3 HS2 c1 c2 f1 f2 hbx HBX HSET
      go_wp2_with fail
      go_roundg (gk - 1)
      case measure => have := HKG.out; omega
      case rel => exact ⟨k + 1, by have := HKG.out; omega, by go_num, HW.out.1, HW.out.2.1, HW.out.2.2⟩
    · have hk' : ¬ ((k : Int) < l.length) := by omega
      have e : k = l.length := by omega
      subst e
      clear hnr hkg hk hb2 HNR
      go_wp2_with fail
      go_ret
      refine ⟨_, rfl, by omega, HN.out.lt, ⟨rfl, by unfold maxLen; omega, HB.out.1, HB.out.2, fun _ => ⟨_, 0, rfl, HN.out.lt, fun i hi => ?_⟩⟩, HK.out⟩
      obtain ⟨s, u, c1, c2, c3⟩ := HN.out.cell i hi
      obtain ⟨rfl, rfl⟩ := c3 hi
      rw [Nat.zero_add]
      exact ⟨c1, c2⟩
end Go.Proofs.YtmmdfpafkmhgcaaGreat
namespace Go.Proofs.YtmmdfpafkmhgcaaGreat
open Go.RowKit Go.Maps
set_option linter.unusedSimpArgs false
set_option linter.unusedVariables false

theorem dminfo : ∃ i0, Tryz.prog.info? 71 = some i0 ∧ i0.zero = some (.agg #[.string ⟨#[]⟩, .slice none 0 0]) ∧ i0.size = 2 ∧ i0.bytes = 40 := by
  have h : (Tryz.prog.info? 71).map (fun i => (i.zero, i.size, i.bytes)) = some (some (.agg #[.string ⟨#[]⟩, .slice none 0 0]), 2, 40) := by kernel_rfl
  exact info_parts h
def rwV (ds : List Dm) (na : Nat → Option Addr × Nat × Nat) (j : Nat) : Value := if j % 2 = 0 then .string (dmN ds (j / 2)) else slv (na (j / 2))
def rwL (ds : List Dm) (na : Nat → Option Addr × Nat × Nat) (k : Nat) : List Value := (List.range (k * 2)).map (rwV ds na)
theorem rwL_len (ds : List Dm) (na : Nat → Option Addr × Nat × Nat) (k : Nat) : (rwL ds na k).length = k * 2 := by simp [rwL]
theorem rwL_snoc (ds : List Dm) (na : Nat → Option Addr × Nat × Nat) (k : Nat) (x : Option Addr × Nat × Nat) : rwL ds (fun j => if j = k then x else na j) (k + 1) = rwL ds na k ++ [.string (dmN ds k), slv x] := by
  unfold rwL
  rw [show (k + 1) * 2 = k * 2 + 1 + 1 by omega, List.range_succ, List.range_succ, List.map_append, List.map_append, List.append_assoc]
  congr 1
  · apply List.map_congr_left
    intro j hj
    simp only [List.mem_range] at hj
    unfold rwV
    have h2 : ¬ (j / 2 = k) := by omega
    simp [h2]
  · have e1 : rwV ds (fun j => if j = k then x else na j) (k * 2) = .string (dmN ds k) := by
      unfold rwV
      rw [if_pos (by omega), show k * 2 / 2 = k by omega]
    have e2 : rwV ds (fun j => if j = k then x else na j) (k * 2 + 1) = slv x := by
      unfold rwV
      rw [if_neg (by omega), show (k * 2 + 1) / 2 = k by omega]
      simp
    simp only [List.map_cons, List.map_nil, List.singleton_append]
    rw [e1, e2]
/-- A catalogue that is being put together: block cb. -/
structure CR (w0 y : World) (cb : Nat) (ds : List Dm) (na : Nat → Option Addr × Nat × Nat) (k : Nat) (v : Value) (mb : Option Addr) (m mc : Nat) (ms : List ByteArray) (lv sc : Int) : Prop where
  kept : Kept w0 y
  lo : w0.heap.size ≤ cb
  c0 : y.cell? ⟨cb, 0, none⟩ = some v
  c1 : y.cell? ⟨cb, 1, none⟩ = some (.slice mb m mc)
  c2 : y.cell? ⟨cb, 2, none⟩ = some (.int .i64 lv)
  c3 : y.cell? ⟨cb, 3, none⟩ = some (.int .i64 sc)
  fz : ∀ j, y.frozen? ⟨cb, j, none⟩ = false
  own : y.ownsRow (cb + 1) 71 2 v k (rwL ds na k)
  ns : ∀ j, j < k → ∃ g, na j = (some ⟨g, 0, none⟩, (dmL ds j).length, (dmL ds j).length) ∧ Ns y (some ⟨g, 0, none⟩) (dmL ds j).length (dmL ds j) ∧ g < y.heap.size ∧ cb < g ∧ v.ownBlock ≠ some g
  mss : Ss y mb m ms
  mbl : 0 < m → ∀ ad, mb = some ad → ad.block ≠ cb ∧ ad.block < y.heap.size ∧ v.ownBlock ≠ some ad.block ∧ w0.heap.size ≤ ad.block
section
variable {w0 y : World} {cb : Nat} {ds : List Dm} {na : Nat → Option Addr × Nat × Nat} {k : Nat} {v : Value} {mb : Option Addr} {m mc : Nat} {ms : List ByteArray} {lv sc : Int}
theorem CR.keep {z : World} (h : CR w0 y cb ds na k v mb m mc ms lv sc) (g : Kept y z) : CR w0 z cb ds na k v mb m mc ms lv sc := by
  have lc : cb < y.heap.size := cell_lt h.c0
  refine ⟨h.kept.trans g, h.lo, g.cellp h.c0, g.cellp h.c1, g.cellp h.c2, g.cellp h.c3, fun j => (g.frozen (p := ⟨cb, j, none⟩) lc).trans (h.fz j), ?_, fun j hj => ?_, h.mss.kept g, fun hp ad had => ⟨(h.mbl hp ad had).1, Nat.lt_of_lt_of_le (h.mbl hp ad had).2.1 g.size, (h.mbl hp ad had).2.2⟩⟩
  · have hlt := World.ownsRow.lt h.own
    obtain ⟨h0, h1 | ⟨b, cap, cur, hv, hb', hh, r⟩⟩ := h.own
    · exact ⟨h0, .inl h1⟩
    · subst hv
      refine ⟨h0, .inr ⟨b, cap, cur, rfl, hb', ?_, r⟩⟩
      rw [g.block b (hlt b rfl).2]
      exact hh
  · obtain ⟨b, h1, h2, h3, h4, h5⟩ := h.ns j hj
    exact ⟨b, h1, h2.kept g, Nat.lt_of_lt_of_le h3 g.size, h4, h5⟩
/-- One more dimension. -/
theorem CR.push {x z : World} {g g' cap : Nat} (h : CR w0 x cb ds na k v mb m mc ms lv sc) (hg : Ns x (some ⟨g, 0, none⟩) (dmL ds k).length (dmL ds k)) (hgl : g < x.heap.size) (hcg : cb < g) (hvg : v.ownBlock ≠ some g)
    (ho : z.ownsRow (cb + 1) 71 2 (.slice (some ⟨g', 0, none⟩) (k + 1) cap) (k + 1) (rwL ds na k ++ [.string (dmN ds k), .slice (some ⟨g, 0, none⟩) (dmL ds k).length (dmL ds k).length])) (hc : Chg (fun t => v.ownBlock = some t) x z) (hg' : v.ownBlock = some g' ∨ g' = x.heap.size) :
    z.cell? ⟨cb, 0, none⟩ = some v ∧ z.frozen? ⟨cb, 0, none⟩ = false ∧ CR w0 (z.setCell ⟨cb, 0, none⟩ (.slice (some ⟨g', 0, none⟩) (k + 1) cap)) cb ds (fun j => if j = k then (some ⟨g, 0, none⟩, (dmL ds k).length, (dmL ds k).length) else na j) (k + 1) (.slice (some ⟨g', 0, none⟩) (k + 1) cap) mb m mc ms lv sc := by
  have hB : ∀ t, v.ownBlock = some t → cb + 1 ≤ t ∧ t < x.heap.size := World.ownsRow.lt h.own
  have n1 : ¬ v.ownBlock = some cb := fun e => by have := hB cb e; omega
  have lc : cb < x.heap.size := cell_lt h.c0
  have q0 := hc.cellp h.c0 n1
  have c2 : Chg (· = cb) z (z.setCell ⟨cb, 0, none⟩ (.slice (some ⟨g', 0, none⟩) (k + 1) cap)) := (Chg.refl (· = cb) z).setCell (p := ⟨cb, 0, none⟩) (.inl rfl) _
  have oth : ∀ j u, j ≠ 0 → z.cell? ⟨cb, j, none⟩ = some u → (z.setCell ⟨cb, 0, none⟩ (.slice (some ⟨g', 0, none⟩) (k + 1) cap)).cell? ⟨cb, j, none⟩ = some u := fun j u hj e => (World.cell?_setCell_other _ _ _ _ (by intro e; simp only [Addr.mk.injEq] at e; omega)).trans e
  have gB := (World.ownsRow.lt ho g' rfl).1
  have hlo := h.lo
  refine ⟨q0, (hc.frozen (p := ⟨cb, 0, none⟩) lc n1).trans (h.fz 0), Chg.kept (Chg.kept h.kept hc (fun j e => by have := hB j e; omega)) c2 (fun j e => by omega), h.lo, World.cell?_setCell_same _ _ _ q0, oth 1 _ (by omega) (hc.cellp h.c1 n1), oth 2 _ (by omega) (hc.cellp h.c2 n1), oth 3 _ (by omega) (hc.cellp h.c3 n1), fun j => by simpa using (hc.frozen (p := ⟨cb, j, none⟩) lc n1).trans (h.fz j), ?_, fun j hj => ?_, ?_, fun hp ad had => ?_⟩
  · rw [rwL_snoc]
    obtain ⟨h0, h1 | ⟨b, cap', cur, hv, hb', hh, r⟩⟩ := ho
    · exact ⟨h0, .inl h1⟩
    · refine ⟨h0, .inr ⟨b, cap', cur, hv, hb', ?_, r⟩⟩
      have hk : b < z.heap.size := by
        by_cases hlt : b < z.heap.size
        · exact hlt
        · rw [Array.getElem?_eq_none (by omega)] at hh; cases hh
      rw [c2.block b hk (by omega)]
      exact hh
  · have hz1 := hc.size
    have hz2 := c2.size
    by_cases e : j = k
    · subst e
      refine ⟨g, by simp, (hg.chg hc (fun _ ad had e => by cases had; exact hvg e)).chg c2 (fun _ ad had e => by cases had; simp only at e; omega), by omega, hcg, fun e => ?_⟩
      simp only [Value.ownBlock, Option.some.injEq] at e
      subst e
      rcases hg' with e | e
      · exact hvg e
      · omega
    · obtain ⟨b, h1, h2, h3, h4, h5⟩ := h.ns j (by omega)
      refine ⟨b, by simp [e, h1], (h2.chg hc (fun _ ad had e => by cases had; exact h5 e)).chg c2 (fun _ ad had e => by cases had; simp only at e; omega), by omega, h4, fun e => ?_⟩
      simp only [Value.ownBlock, Option.some.injEq] at e
      subst e
      rcases hg' with e | e
      · exact h5 e
      · omega
  · exact (h.mss.chg hc (fun hp ad had e => (h.mbl hp ad had).2.2.1 e)).chg c2 (fun hp ad had e => (h.mbl hp ad had).1 e)
  · obtain ⟨m1, m2, m3, m4⟩ := h.mbl hp ad had
    have hz1 := hc.size
    have hz2 := c2.size
    refine ⟨m1, by omega, fun e => ?_, m4⟩
    simp only [Value.ownBlock, Option.some.injEq] at e
    rcases hg' with e' | e'
    · exact m3 (by rw [← e]; exact e')
    · omega
/-- A block below is written. -/
theorem CR.low {w z : World} {q : Nat} (h : CR w0 y cb ds na k v mb m mc ms lv sc) (hk : Kept w w0) (hq : w.heap.size ≤ q) (hq' : q < w0.heap.size) (g : Chg (· = q) y z) : CR w z cb ds na k v mb m mc ms lv sc := by
  have lc : cb < y.heap.size := cell_lt h.c0
  have hlo := h.lo
  have hB : ∀ t, v.ownBlock = some t → cb + 1 ≤ t ∧ t < y.heap.size := World.ownsRow.lt h.own
  have ne : ¬ (cb = q) := by omega
  refine ⟨Chg.kept (hk.trans h.kept) g (fun j e => by omega), by omega, g.cellp h.c0 ne, g.cellp h.c1 ne, g.cellp h.c2 ne, g.cellp h.c3 ne, fun j => (g.frozen (p := ⟨cb, j, none⟩) lc ne).trans (h.fz j), ?_, fun j hj => ?_, h.mss.chg g (fun hp ad had e => by have := (h.mbl hp ad had).2.2.2; omega), fun hp ad had => ⟨(h.mbl hp ad had).1, Nat.lt_of_lt_of_le (h.mbl hp ad had).2.1 g.size, (h.mbl hp ad had).2.2.1, by have := (h.mbl hp ad had).2.2.2; omega⟩⟩
  · obtain ⟨h0, h1 | ⟨b, cap, cur, hv, hb', hh, r⟩⟩ := h.own
    · exact ⟨h0, .inl h1⟩
    · subst hv
      refine ⟨h0, .inr ⟨b, cap, cur, rfl, hb', ?_, r⟩⟩
      rw [g.block b (hB b rfl).2 (by omega)]
      exact hh
  · obtain ⟨b, h1, h2, h3, h4, h5⟩ := h.ns j hj
    exact ⟨b, h1, h2.chg g (fun _ ad had e => by cases had; simp only at e; omega), Nat.lt_of_lt_of_le h3 g.size, h4, h5⟩
/-- What it comes to. -/
theorem CR.dss (h : CR w0 y cb ds na ds.length v mb m mc ms lv sc) (hl : ds.length ≤ 60) (hn : ∀ k, k < ds.length → (dmN ds k).size ≤ maxLen) : ∃ a c, v = .slice a ds.length c ∧ Dss y a ds.length ds na := by
  have h' := h.own
  have hns : ∀ k, k < ds.length → Ns y (na k).1 (na k).2.1 (dmL ds k) := fun k hk => by
    obtain ⟨b, h1, h2, _⟩ := h.ns k hk
    rw [h1]; exact h2
  obtain ⟨_, ⟨hv, hz⟩ | ⟨g, cap, cur, hv, hb, hheap, hc, hcm, hsz, htk⟩⟩ := h.own
  · exact ⟨none, 0, by rw [hv, hz], rfl, by unfold maxLen; omega, hn, hns, fun hp => absurd hp (by omega)⟩
  · refine ⟨_, _, hv, rfl, by unfold maxLen; omega, hn, hns, fun hp => ⟨g, 0, rfl, ?_, fun k hk => ?_⟩⟩
    · exact (World.ownsRow.lt h.own g (by rw [hv]; rfl)).2
    · subst hv
      rw [Nat.zero_add, h'.cellAt (k * 2) (by omega), h'.cellAt (k * 2 + 1) (by omega)]
      constructor
      · simp only [rwL, List.getElem?_map]
        rw [List.getElem?_range (by omega)]
        simp only [Option.map_some, rwV]
        rw [if_pos (by omega), show k * 2 / 2 = k by omega]
      · simp only [rwL, List.getElem?_map]
        rw [List.getElem?_range (by omega)]
        simp only [Option.map_some, rwV]
        rw [if_neg (by omega), show (k * 2 + 1) / 2 = k by omega]
end
/-- One more dimension behind those of a row. -/
theorem step_pushC {ops : Array Oper} {o : Oper} {a : Act} {K : Act → World → Prop} {Q : Exit → Act → World → Prop} {E : Prop} (w : World) (hgd : o.guard = none) (s x : Operand)
    (ho : o.op = .call { callee := .builtin .append, args := #[s, x], argTypes := #[22, 22] })
    (B : Nat) (v : Value) (k : Nat) (L : List Value) (hs : a.eval s = v) (hv : w.ownsRow B 71 2 v k L) (hB : B ≤ w.heap.size) (g : Nat) (nm : ByteArray) (sv : Option Addr × Nat × Nat) (hx : a.eval x = .slice (some ⟨g, 0, none⟩) 1 1)
    (hc0 : w.cell? ⟨g, 0, none⟩ = some (.string nm)) (hc1 : w.cell? ⟨g, 1, none⟩ = some (slv sv)) (h47 : k ≤ 60) (H : Nat) (hH : w.heap.size = H)
    (h : ∀ g' cap w', w'.ownsRow B 71 2 (.slice (some ⟨g', 0, none⟩) (k + 1) cap) (k + 1) (L ++ [.string nm, slv sv]) → Chg (fun t => v.ownBlock = some t) w w' → (v.ownBlock = some g' ∨ g' = H) → g' < w'.heap.size → K (a.put o.dst (.slice (some ⟨g', 0, none⟩) (k + 1) cap)) w') :
    if Region.wanted o (yielded ops a.tmps) = true then Oper.wp Tryz.prog o a w K Q else E := by
  obtain ⟨i0, hi0, hz0, hz1, hz2⟩ := dminfo
  refine step_append_lies w hgd s x 22 ho B 71 i0 _ 2 40 Tryz.underlying22 hi0 hz0 hz1 hz2 rfl (by decide) v _ _ hs hv ⟨g, 0, none⟩ 1 1 [.string nm, slv sv] hx rfl ?_ (by intro u hu; simp at hu; rcases hu with rfl | rfl <;> rfl) (by omega) (by unfold maxLen; omega) (by omega) hB H hH ?_
  · intro j u hj
    have : j = 0 ∨ j = 1 ∨ 2 ≤ j := by omega
    rcases this with rfl | rfl | hj2
    · simp at hj; subst hj; simpa [Addr.add] using hc0
    · simp at hj; subst hj; simpa [Addr.add] using hc1
    · rw [List.getElem?_eq_none (by simpa using hj2)] at hj; cases hj
  · intro g' cap w' h2 h3 h4 h5
    exact h g' cap w' h2 ((Chg.refl _ w).grown h3 (fun k hk => .inl hk)) h4 h5
end Go.Proofs.YtmmdfpafkmhgcaaGreat
