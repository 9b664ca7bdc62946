/- dims' nodes: a dimension's members, as they were handed in. · dims.Cat. · dims.Cat, walked. -/
import Derived.Test.YtpehinmckppjoaaGreatDoorWDims11B
import Derived.OwnWalk
import Derived.Deep.RegionHeld3
import Derived.Test.YtpehinmckppjoaaGreatDoorWLawDimsEB
import Derived.Deep.MidRow
namespace Go.Proofs.YtpehinmckppjoaaGreatDoor
open Go.RowKit Go.Maps
set_option linter.unusedSimpArgs false
set_option linter.unusedVariables false

theorem ninfo : ∃ i0, Tryz.prog.info? 61 = some i0 ∧ i0.zero = some (.agg #[.string ⟨#[]⟩, .int .i64 0]) ∧ i0.size = 2 ∧ i0.bytes = 24 := by
  have h : (Tryz.prog.info? 61).map (fun i => (i.zero, i.size, i.bytes)) = some (some (.agg #[.string ⟨#[]⟩, .int .i64 0]), 2, 24) := by kernel_rfl
  exact info_parts h
/-- A row of members that is being filled. -/
structure NR (y : World) (g : Nat) (l : List Nd) (k : Nat) : Prop where
  lt : g < y.heap.size
  cell : ∀ i, i < l.length → ∃ s u, y.cell? ⟨g, i * 2, none⟩ = some (.string s) ∧ y.cell? ⟨g, i * 2 + 1, none⟩ = some (.int .i64 u) ∧ (i < k → s = nmA l i ∧ u = upA l i)
  fz : ∀ j, y.frozen? ⟨g, j, none⟩ = false
theorem NR.kept {y z : World} {g : Nat} {l : List Nd} {k : Nat} (h : NR y g l k) (t : Kept y z) : NR z g l k :=
  ⟨Nat.lt_of_lt_of_le h.lt t.size, fun i hi => by
    obtain ⟨s, u, h1, h2, h3⟩ := h.cell i hi
    exact ⟨s, u, t.cellp h1, t.cellp h2, h3⟩, fun j => (t.frozen (p := ⟨g, j, none⟩) h.lt).trans (h.fz j)⟩
theorem NR.set {y : World} {g : Nat} {l : List Nd} {k : Nat} (h : NR y g l k) (hk : k < l.length) : NR ((y.setCell ⟨g, k * 2, none⟩ (.string (nmA l k))).setCell ⟨g, k * 2 + 1, none⟩ (.int .i64 (upA l k))) g l (k + 1) := by
  obtain ⟨s, u, c1, c2, _⟩ := h.cell k hk
  have e1 : ∀ j, j ≠ k * 2 → (y.setCell ⟨g, k * 2, none⟩ (.string (nmA l k))).cell? ⟨g, j, none⟩ = y.cell? ⟨g, j, none⟩ := fun j hj => World.cell?_setCell_other _ _ _ _ (by intro e; simp only [Addr.mk.injEq] at e; omega)
  have e2 : ∀ j, j ≠ k * 2 + 1 → ((y.setCell ⟨g, k * 2, none⟩ (.string (nmA l k))).setCell ⟨g, k * 2 + 1, none⟩ (.int .i64 (upA l k))).cell? ⟨g, j, none⟩ = (y.setCell ⟨g, k * 2, none⟩ (.string (nmA l k))).cell? ⟨g, j, none⟩ := fun j hj => World.cell?_setCell_other _ _ _ _ (by intro e; simp only [Addr.mk.injEq] at e; omega)
  refine ⟨by simpa [World.setCell] using h.lt, fun i hi => ?_, fun j => by simpa using h.fz j⟩
  by_cases e : i = k
  · subst e
    refine ⟨_, _, ?_, ?_, fun _ => ⟨rfl, rfl⟩⟩
    · rw [e2 _ (by omega)]; exact World.cell?_setCell_same _ _ _ c1
    · exact World.cell?_setCell_same _ _ _ ((e1 _ (by omega)).trans c2)
  · obtain ⟨s', u', d1, d2, d3⟩ := h.cell i hi
    refine ⟨s', u', ?_, ?_, fun hi' => d3 (by omega)⟩
    · rw [e2 _ (by omega), e1 _ (by omega)]; exact d1
    · rw [e2 _ (by omega), e1 _ (by omega)]; exact d2
theorem nr_made {w : World} {base e g : Nat} {l : List Nd} (h : w.ownsRow base e 2 (.slice (some ⟨g, 0, none⟩) l.length l.length) l.length (madeCells #[.string ⟨#[]⟩, .int .i64 0] (l.length * 2)).toList) (hn : 0 < l.length) : NR w g l 0 := by
  have h' := h
  obtain ⟨hl, ⟨hv, hz⟩ | ⟨g', cap, cur, hv, hb, hheap, hc, hcm, hsz, htk⟩⟩ := h
  · omega
  · simp only [Value.slice.injEq, Option.some.injEq, Addr.mk.injEq] at hv
    obtain ⟨⟨rfl, _, _⟩, _, rfl⟩ := hv
    refine ⟨?_, fun i hi => ⟨⟨#[]⟩, 0, ?_, ?_, fun h => absurd h (by omega)⟩, fun i => by simp [World.frozen?, hheap]⟩
    · by_cases hlt : g < w.heap.size
      · exact hlt
      · rw [Array.getElem?_eq_none (by omega)] at hheap; cases hheap
    · rw [h'.cellAt (i * 2) (by omega)]
      simp [madeCells, show i * 2 < l.length * 2 by omega]
    · rw [h'.cellAt (i * 2 + 1) (by omega)]
      simp [madeCells, show i * 2 + 1 < l.length * 2 by omega, show (i * 2 + 1) % 2 = 1 by omega]
def NodesPost (w : World) (l : List Nd) (e : Ending) (w' : World) : Prop := ∃ g, e = .returned (.slice (some ⟨g, 0, none⟩) l.length l.length) ∧ w.heap.size ≤ g ∧ g < w'.heap.size ∧ Ns w' (some ⟨g, 0, none⟩) l.length l ∧ Kept w w'
set_option maxHeartbeats 4000000 in
set_option maxRecDepth 100000 in
theorem dim_nodes {w : World} (q : Nat) (nm : ByteArray) (l : List Nd) (hw : Whole w q l) (h1 : 1 ≤ l.length) (h60 : l.length ≤ 60) (hnb : ∀ i, i < l.length → (nmA l i).size ≤ maxLen) (hub : ∀ i, i < l.length → isI (upA l i)) :
    Calls Tryz.prog 190 #[.agg #[.string nm, .pointer (some ⟨q, 0, none⟩)]] w (NodesPost w l) := by
  have HLN := hidMk (show ∀ y, Kept w y → _ from fun y hy => w_Len (hw.kept hy))
  have HNM := hidMk (show ∀ y, Kept w y → ∀ k : Nat, k < l.length → Calls Tryz.prog 189 #[.pointer (some ⟨q, 0, none⟩), .int .i64 k] y fun e w' => e = .returned (.string (nmA l k)) ∧ w' = y from fun y hy k hk => by
    have := w_Name (hw.kept hy) k
    unfold nmI at this
    rw [if_pos (show isP l k from ⟨by omega, by omega⟩), Int.toNat_natCast] at this
    exact this)
  have HUP := hidMk (show ∀ y, Kept w y → ∀ k : Nat, k < l.length → Calls Tryz.prog 124 #[.pointer (some ⟨q, 0, none⟩), .int .i64 k] y fun e w' => e = .returned (.int .i64 (upA l k)) ∧ w' = y from fun y hy k hk => by
    have := w_Up (hw.kept hy) k
    unfold upI at this
    rw [if_pos (show isP l k from ⟨by omega, by omega⟩), Int.toNat_natCast] at this
    exact this)
  have HB := hidMk (And.intro hnb hub)
  clear hw hnb hub
  obtain ⟨i0, hi0, hz0, hz1, hz2⟩ := ninfo
  go_enter Tryz.func190, Tryz.ntmps190
  go_wp2_with fail
  refine (HLN.out _ ((Kept.refl w).alloc _)).mono ?_
  rintro e w1 ⟨rfl, hw1⟩
  rw [hw1]
  clear hw1
  go_wp2_with (at_make; refine wpList_make_full _ rfl _ _ 53 rfl (w.heap.size + 1) 61 i0 (.agg #[.string ⟨#[]⟩, .int .i64 0]) 2 Tryz.underlying53 hi0 hz0 hz1 .i64 .i64 _ _ l.length rfl rfl ?c1 ?c2 ?c3 ?c4 ?c5 ?_)
  case c1 => rfl
  case c2 => rfl
  case c3 => rw [hz2]; omega
  case c4 => unfold maxLen; omega
  case c5 => simp
  intro w2 hown hgrow
  have HNR := hidMk (nr_made hown (by omega))
  have hk2 : Kept (w.alloc (.cells #[.string nm, .pointer (some ⟨q, 0, none⟩)] 145)) w2 := (Chg.refl (fun _ => False) _).grown hgrow (fun k hk => by cases hk) |>.keptAll
  have hb2 : w2.cell? ⟨w.heap.size, 1, none⟩ = some (.pointer (some ⟨q, 0, none⟩)) := hk2.cellp (by simp)
  have HK2 := hidMk (((Kept.refl w).alloc _).trans hk2)
  clear hown hgrow hk2
  go_wp2_with fail
  go_loopg [11] l.length (fun g x wr => ∃ k : Nat, k + g = l.length ∧ x = .int .i64 k ∧ NR wr (w.heap.size + 1) l k ∧ Kept w wr ∧ wr.cell? ⟨w.heap.size, 1, none⟩ = some (.pointer (some ⟨q, 0, none⟩)))
  case atStart => exact ⟨0, by omega, rfl, by simpa using HNR.out, HK2.out, hb2⟩
  case round =>
    obtain ⟨k, hkg, rfl, hnr, hk, hbx⟩ := hrel
    have HKG := hidMk hkg
    have HK := hidMk hk
    have HN := hidMk hnr
    by_cases hkl : k < l.length
    · obtain ⟨s0, u0, c1, c2, _⟩ := hnr.cell k hkl
      have f1 := hnr.fz (k * 2)
      have f2 := hnr.fz (k * 2 + 1)
      have HSET := hidMk (show ∀ y, Kept wr y → _ from fun y hy => (hnr.kept hy).set hkl)
      have hk' : (k : Int) < l.length := by omega
      have HBX := hidMk hbx
      have hlt := hnr.lt
      have HNK := hidMk (show ∀ y, Kept wr y → _ from fun y hy => HNM.out y (hk.trans hy) k hkl)
      have HUK := hidMk (show ∀ y, Kept wr y → _ from fun y hy => HUP.out y (hk.trans hy) k hkl)
      clear hnr hkg hk hb2 HNR
      generalize hnk : nmA l k = nk at *
      generalize huk : upA l k = uk at *
      go_wp2_with fail
      go_region_held3 (fun w' => w'.cell? ⟨w.heap.size, 1, none⟩ = some (.pointer (some ⟨q, 0, none⟩))) (first | assumption | go_keep) (first | (go_at_call 189; refine (HNK.out _ (by (repeat (first | (with_reducible exact Kept.refl _) | (with_reducible refine Kept.drew ?_) | (with_reducible refine Kept.drewN ?_ _))))).mono ?_; rintro e w5 ⟨rfl, rfl⟩) | (go_at_call 124; refine (HUK.out _ (by (repeat (first | (with_reducible exact Kept.refl _) | (with_reducible refine Kept.drew ?_) | (with_reducible refine Kept.drewN ?_ _))))).mono ?_; rintro e w5 ⟨rfl, rfl⟩))
      have HS2 := HSET.out wr (Kept.refl _)
      refine gen_world (f := fun W => Exit.inBlock _ _ _ _ W) (fun W => NR W (w.heap.size + 1) l (k + 1) ∧ Kept w W ∧ W.cell? ⟨w.heap.size, 1, none⟩ = some (.pointer (some ⟨q, 0, none⟩))) ⟨HS2.kept ((Kept.refl _).drew), (((HK.out.setCell (p := ⟨w.heap.size + 1, k * 2, none⟩) (by show w.heap.size ≤ w.heap.size + 1; omega) _).setCell (p := ⟨w.heap.size + 1, k * 2 + 1, none⟩) (by show w.heap.size ≤ w.heap.size + 1; omega) _)).drew, ?_⟩ ?_
      · exact cell_oth (a := ⟨w.heap.size + 1, k * 2 + 1, none⟩) (cell_oth (a := ⟨w.heap.size + 1, k * 2, none⟩) HBX.out (by show w.heap.size + 1 ≠ w.heap.size; omega) _) (by show w.heap.size + 1 ≠ w.heap.size; omega) _
      rintro W ⟨hW1, hW2, hW3⟩
      have HW := hidMk (And.intro hW1 (And.intro hW2 hW3))
      clear hW1 hW2 hW3 HS2 c1 c2 f1 f2 hbx HBX HSET
      go_wp2_with fail
      go_roundg (gk - 1)
      case measure => have := HKG.out; omega
      case rel => exact ⟨k + 1, by have := HKG.out; omega, by go_num, HW.out.1, HW.out.2.1, HW.out.2.2⟩
    · have hk' : ¬ ((k : Int) < l.length) := by omega
      have e : k = l.length := by omega
      subst e
      clear hnr hkg hk hb2 HNR
      go_wp2_with fail
      go_ret
      refine ⟨_, rfl, by omega, HN.out.lt, ⟨rfl, by unfold maxLen; omega, HB.out.1, HB.out.2, fun _ => ⟨_, 0, rfl, HN.out.lt, fun i hi => ?_⟩⟩, HK.out⟩
      obtain ⟨s, u, c1, c2, c3⟩ := HN.out.cell i hi
      obtain ⟨rfl, rfl⟩ := c3 hi
      rw [Nat.zero_add]
      exact ⟨c1, c2⟩
end Go.Proofs.YtpehinmckppjoaaGreatDoor
namespace Go.Proofs.YtpehinmckppjoaaGreatDoor
open Go.RowKit Go.Maps
set_option linter.unusedSimpArgs false
set_option linter.unusedVariables false

theorem dminfo : ∃ i0, Tryz.prog.info? 55 = some i0 ∧ i0.zero = some (.agg #[.string ⟨#[]⟩, .slice none 0 0]) ∧ i0.size = 2 ∧ i0.bytes = 40 := by
  have h : (Tryz.prog.info? 55).map (fun i => (i.zero, i.size, i.bytes)) = some (some (.agg #[.string ⟨#[]⟩, .slice none 0 0]), 2, 40) := by kernel_rfl
  exact info_parts h
def rwV (ds : List Dm) (na : Nat → Option Addr × Nat × Nat) (j : Nat) : Value := if j % 2 = 0 then .string (dmN ds (j / 2)) else slv (na (j / 2))
def rwL (ds : List Dm) (na : Nat → Option Addr × Nat × Nat) (k : Nat) : List Value := (List.range (k * 2)).map (rwV ds na)
theorem rwL_snoc (ds : List Dm) (na : Nat → Option Addr × Nat × Nat) (k : Nat) (x : Option Addr × Nat × Nat) : rwL ds (fun j => if j = k then x else na j) (k + 1) = rwL ds na k ++ [.string (dmN ds k), slv x] := by
  unfold rwL
  rw [show (k + 1) * 2 = k * 2 + 1 + 1 by omega, List.range_succ, List.range_succ, List.map_append, List.map_append, List.append_assoc]
  congr 1
  · apply List.map_congr_left
    intro j hj
    simp only [List.mem_range] at hj
    unfold rwV
    have h2 : ¬ (j / 2 = k) := by omega
    simp [h2]
  · have e1 : rwV ds (fun j => if j = k then x else na j) (k * 2) = .string (dmN ds k) := by
      unfold rwV
      rw [if_pos (by omega), show k * 2 / 2 = k by omega]
    have e2 : rwV ds (fun j => if j = k then x else na j) (k * 2 + 1) = slv x := by
      unfold rwV
      rw [if_neg (by omega), show (k * 2 + 1) / 2 = k by omega]
      simp
    simp only [List.map_cons, List.map_nil, List.singleton_append]
    rw [e1, e2]
/-- A catalogue that is being put together: block cb. -/
structure CR (w0 y : World) (cb : Nat) (ds : List Dm) (na : Nat → Option Addr × Nat × Nat) (k : Nat) (v : Value) (mb : Option Addr) (m mc : Nat) (ms : List ByteArray) (lv sc : Int) : Prop where
  kept : Kept w0 y
  lo : w0.heap.size ≤ cb
  c0 : y.cell? ⟨cb, 0, none⟩ = some v
  c1 : y.cell? ⟨cb, 1, none⟩ = some (.slice mb m mc)
  c2 : y.cell? ⟨cb, 2, none⟩ = some (.int .i64 lv)
  c3 : y.cell? ⟨cb, 3, none⟩ = some (.int .i64 sc)
  fz : ∀ j, y.frozen? ⟨cb, j, none⟩ = false
  own : y.ownsRow (cb + 1) 55 2 v k (rwL ds na k)
  ns : ∀ j, j < k → ∃ g, na j = (some ⟨g, 0, none⟩, (dmL ds j).length, (dmL ds j).length) ∧ Ns y (some ⟨g, 0, none⟩) (dmL ds j).length (dmL ds j) ∧ g < y.heap.size ∧ cb < g ∧ v.ownBlock ≠ some g
  mss : Ss y mb m ms
  mbl : 0 < m → ∀ ad, mb = some ad → ad.block ≠ cb ∧ ad.block < y.heap.size ∧ v.ownBlock ≠ some ad.block ∧ w0.heap.size ≤ ad.block
section
variable {w0 y : World} {cb : Nat} {ds : List Dm} {na : Nat → Option Addr × Nat × Nat} {k : Nat} {v : Value} {mb : Option Addr} {m mc : Nat} {ms : List ByteArray} {lv sc : Int}
theorem CR.keep {z : World} (h : CR w0 y cb ds na k v mb m mc ms lv sc) (g : Kept y z) : CR w0 z cb ds na k v mb m mc ms lv sc := by
  have lc : cb < y.heap.size := cell_lt h.c0
  refine ⟨h.kept.trans g, h.lo, g.cellp h.c0, g.cellp h.c1, g.cellp h.c2, g.cellp h.c3, fun j => (g.frozen (p := ⟨cb, j, none⟩) lc).trans (h.fz j), ?_, fun j hj => ?_, h.mss.kept g, fun hp ad had => ⟨(h.mbl hp ad had).1, Nat.lt_of_lt_of_le (h.mbl hp ad had).2.1 g.size, (h.mbl hp ad had).2.2⟩⟩
  · have hlt := World.ownsRow.lt h.own
    obtain ⟨h0, h1 | ⟨b, cap, cur, hv, hb', hh, r⟩⟩ := h.own
    · exact ⟨h0, .inl h1⟩
    · subst hv
      refine ⟨h0, .inr ⟨b, cap, cur, rfl, hb', ?_, r⟩⟩
      rw [g.block b (hlt b rfl).2]
      exact hh
  · obtain ⟨b, h1, h2, h3, h4, h5⟩ := h.ns j hj
    exact ⟨b, h1, h2.kept g, Nat.lt_of_lt_of_le h3 g.size, h4, h5⟩
/-- One more dimension. -/
theorem CR.push {x z : World} {g g' cap : Nat} (h : CR w0 x cb ds na k v mb m mc ms lv sc) (hg : Ns x (some ⟨g, 0, none⟩) (dmL ds k).length (dmL ds k)) (hgl : g < x.heap.size) (hcg : cb < g) (hvg : v.ownBlock ≠ some g)
    (ho : z.ownsRow (cb + 1) 55 2 (.slice (some ⟨g', 0, none⟩) (k + 1) cap) (k + 1) (rwL ds na k ++ [.string (dmN ds k), .slice (some ⟨g, 0, none⟩) (dmL ds k).length (dmL ds k).length])) (hc : Chg (fun t => v.ownBlock = some t) x z) (hg' : v.ownBlock = some g' ∨ g' = x.heap.size) :
    z.cell? ⟨cb, 0, none⟩ = some v ∧ z.frozen? ⟨cb, 0, none⟩ = false ∧ CR w0 (z.setCell ⟨cb, 0, none⟩ (.slice (some ⟨g', 0, none⟩) (k + 1) cap)) cb ds (fun j => if j = k then (some ⟨g, 0, none⟩, (dmL ds k).length, (dmL ds k).length) else na j) (k + 1) (.slice (some ⟨g', 0, none⟩) (k + 1) cap) mb m mc ms lv sc := by
  have hB : ∀ t, v.ownBlock = some t → cb + 1 ≤ t ∧ t < x.heap.size := World.ownsRow.lt h.own
  have n1 : ¬ v.ownBlock = some cb := fun e => by have := hB cb e; omega
  have lc : cb < x.heap.size := cell_lt h.c0
  have q0 := hc.cellp h.c0 n1
  have c2 : Chg (· = cb) z (z.setCell ⟨cb, 0, none⟩ (.slice (some ⟨g', 0, none⟩) (k + 1) cap)) := (Chg.refl (· = cb) z).setCell (p := ⟨cb, 0, none⟩) (.inl rfl) _
  have oth : ∀ j u, j ≠ 0 → z.cell? ⟨cb, j, none⟩ = some u → (z.setCell ⟨cb, 0, none⟩ (.slice (some ⟨g', 0, none⟩) (k + 1) cap)).cell? ⟨cb, j, none⟩ = some u := fun j u hj e => (World.cell?_setCell_other _ _ _ _ (by intro e; simp only [Addr.mk.injEq] at e; omega)).trans e
  have gB := (World.ownsRow.lt ho g' rfl).1
  have hlo := h.lo
  refine ⟨q0, (hc.frozen (p := ⟨cb, 0, none⟩) lc n1).trans (h.fz 0), Chg.kept (Chg.kept h.kept hc (fun j e => by have := hB j e; omega)) c2 (fun j e => by omega), h.lo, World.cell?_setCell_same _ _ _ q0, oth 1 _ (by omega) (hc.cellp h.c1 n1), oth 2 _ (by omega) (hc.cellp h.c2 n1), oth 3 _ (by omega) (hc.cellp h.c3 n1), fun j => by simpa using (hc.frozen (p := ⟨cb, j, none⟩) lc n1).trans (h.fz j), ?_, fun j hj => ?_, ?_, fun hp ad had => ?_⟩
  · rw [rwL_snoc]
    obtain ⟨h0, h1 | ⟨b, cap', cur, hv, hb', hh, r⟩⟩ := ho
    · exact ⟨h0, .inl h1⟩
    · refine ⟨h0, .inr ⟨b, cap', cur, hv, hb', ?_, r⟩⟩
      have hk : b < z.heap.size := by
        by_cases hlt : b < z.heap.size
        · exact hlt
        · rw [Array.getElem?_eq_none (by omega)] at hh; cases hh
      rw [c2.block b hk (by omega)]
      exact hh
  · have hz1 := hc.size
    have hz2 := c2.size
    by_cases e : j = k
    · subst e
      refine ⟨g, by simp, (hg.chg hc (fun _ ad had e => by cases had; exact hvg e)).chg c2 (fun _ ad had e => by cases had; simp only at e; omega), by omega, hcg, fun e => ?_⟩
      simp only [Value.ownBlock, Option.some.injEq] at e
      subst e
      rcases hg' with e | e
      · exact hvg e
      · omega
    · obtain ⟨b, h1, h2, h3, h4, h5⟩ := h.ns j (by omega)
      refine ⟨b, by simp [e, h1], (h2.chg hc (fun _ ad had e => by cases had; exact h5 e)).chg c2 (fun _ ad had e => by cases had; simp only at e; omega), by omega, h4, fun e => ?_⟩
      simp only [Value.ownBlock, Option.some.injEq] at e
      subst e
      rcases hg' with e | e
      · exact h5 e
      · omega
  · exact (h.mss.chg hc (fun hp ad had e => (h.mbl hp ad had).2.2.1 e)).chg c2 (fun hp ad had e => (h.mbl hp ad had).1 e)
  · obtain ⟨m1, m2, m3, m4⟩ := h.mbl hp ad had
    have hz1 := hc.size
    have hz2 := c2.size
    refine ⟨m1, by omega, fun e => ?_, m4⟩
    simp only [Value.ownBlock, Option.some.injEq] at e
    rcases hg' with e' | e'
    · exact m3 (by rw [← e]; exact e')
    · omega
/-- A block below is written. -/
theorem CR.low {w z : World} {q : Nat} (h : CR w0 y cb ds na k v mb m mc ms lv sc) (hk : Kept w w0) (hq : w.heap.size ≤ q) (hq' : q < w0.heap.size) (g : Chg (· = q) y z) : CR w z cb ds na k v mb m mc ms lv sc := by
  have lc : cb < y.heap.size := cell_lt h.c0
  have hlo := h.lo
  have hB : ∀ t, v.ownBlock = some t → cb + 1 ≤ t ∧ t < y.heap.size := World.ownsRow.lt h.own
  have ne : ¬ (cb = q) := by omega
  refine ⟨Chg.kept (hk.trans h.kept) g (fun j e => by omega), by omega, g.cellp h.c0 ne, g.cellp h.c1 ne, g.cellp h.c2 ne, g.cellp h.c3 ne, fun j => (g.frozen (p := ⟨cb, j, none⟩) lc ne).trans (h.fz j), ?_, fun j hj => ?_, h.mss.chg g (fun hp ad had e => by have := (h.mbl hp ad had).2.2.2; omega), fun hp ad had => ⟨(h.mbl hp ad had).1, Nat.lt_of_lt_of_le (h.mbl hp ad had).2.1 g.size, (h.mbl hp ad had).2.2.1, by have := (h.mbl hp ad had).2.2.2; omega⟩⟩
  · obtain ⟨h0, h1 | ⟨b, cap, cur, hv, hb', hh, r⟩⟩ := h.own
    · exact ⟨h0, .inl h1⟩
    · subst hv
      refine ⟨h0, .inr ⟨b, cap, cur, rfl, hb', ?_, r⟩⟩
      rw [g.block b (hB b rfl).2 (by omega)]
      exact hh
  · obtain ⟨b, h1, h2, h3, h4, h5⟩ := h.ns j hj
    exact ⟨b, h1, h2.chg g (fun _ ad had e => by cases had; simp only at e; omega), Nat.lt_of_lt_of_le h3 g.size, h4, h5⟩
/-- What it comes to. -/
theorem CR.dss (h : CR w0 y cb ds na ds.length v mb m mc ms lv sc) (hl : ds.length ≤ 60) (hn : ∀ k, k < ds.length → (dmN ds k).size ≤ maxLen) : ∃ a c, v = .slice a ds.length c ∧ Dss y a ds.length ds na := by
  have h' := h.own
  have hns : ∀ k, k < ds.length → Ns y (na k).1 (na k).2.1 (dmL ds k) := fun k hk => by
    obtain ⟨b, h1, h2, _⟩ := h.ns k hk
    rw [h1]; exact h2
  obtain ⟨_, ⟨hv, hz⟩ | ⟨g, cap, cur, hv, hb, hheap, hc, hcm, hsz, htk⟩⟩ := h.own
  · exact ⟨none, 0, by rw [hv, hz], rfl, by unfold maxLen; omega, hn, hns, fun hp => absurd hp (by omega)⟩
  · refine ⟨_, _, hv, rfl, by unfold maxLen; omega, hn, hns, fun hp => ⟨g, 0, rfl, ?_, fun k hk => ?_⟩⟩
    · exact (World.ownsRow.lt h.own g (by rw [hv]; rfl)).2
    · subst hv
      rw [Nat.zero_add, h'.cellAt (k * 2) (by omega), h'.cellAt (k * 2 + 1) (by omega)]
      constructor
      · simp only [rwL, List.getElem?_map]
        rw [List.getElem?_range (by omega)]
        simp only [Option.map_some, rwV]
        rw [if_pos (by omega), show k * 2 / 2 = k by omega]
      · simp only [rwL, List.getElem?_map]
        rw [List.getElem?_range (by omega)]
        simp only [Option.map_some, rwV]
        rw [if_neg (by omega), show (k * 2 + 1) / 2 = k by omega]
end
/-- One more dimension behind those of a row. -/
theorem step_pushC {ops : Array Oper} {o : Oper} {a : Act} {K : Act → World → Prop} {Q : Exit → Act → World → Prop} {E : Prop} (w : World) (hgd : o.guard = none) (s x : Operand)
    (ho : o.op = .call { callee := .builtin .append, args := #[s, x], argTypes := #[22, 22] })
    (B : Nat) (v : Value) (k : Nat) (L : List Value) (hs : a.eval s = v) (hv : w.ownsRow B 55 2 v k L) (hB : B ≤ w.heap.size) (g : Nat) (nm : ByteArray) (sv : Option Addr × Nat × Nat) (hx : a.eval x = .slice (some ⟨g, 0, none⟩) 1 1)
    (hc0 : w.cell? ⟨g, 0, none⟩ = some (.string nm)) (hc1 : w.cell? ⟨g, 1, none⟩ = some (slv sv)) (h47 : k ≤ 60) (H : Nat) (hH : w.heap.size = H)
    (h : ∀ g' cap w', w'.ownsRow B 55 2 (.slice (some ⟨g', 0, none⟩) (k + 1) cap) (k + 1) (L ++ [.string nm, slv sv]) → Chg (fun t => v.ownBlock = some t) w w' → (v.ownBlock = some g' ∨ g' = H) → g' < w'.heap.size → K (a.put o.dst (.slice (some ⟨g', 0, none⟩) (k + 1) cap)) w') :
    if Region.wanted o (yielded ops a.tmps) = true then Oper.wp Tryz.prog o a w K Q else E := by
  obtain ⟨i0, hi0, hz0, hz1, hz2⟩ := dminfo
  refine step_append_lies w hgd s x 22 ho B 55 i0 _ 2 40 Tryz.underlying22 hi0 hz0 hz1 hz2 rfl (by decide) v _ _ hs hv ⟨g, 0, none⟩ 1 1 [.string nm, slv sv] hx rfl ?_ (by intro u hu; simp at hu; rcases hu with rfl | rfl <;> rfl) (by omega) (by unfold maxLen; omega) (by omega) hB H hH ?_
  · intro j u hj
    have : j = 0 ∨ j = 1 ∨ 2 ≤ j := by omega
    rcases this with rfl | rfl | hj2
    · simp at hj; subst hj; simpa [Addr.add] using hc0
    · simp at hj; subst hj; simpa [Addr.add] using hc1
    · rw [List.getElem?_eq_none (by simpa using hj2)] at hj; cases hj
  · intro g' cap w' h2 h3 h4 h5
    exact h g' cap w' h2 ((Chg.refl _ w).grown h3 (fun k hk => .inl hk)) h4 h5
end Go.Proofs.YtpehinmckppjoaaGreatDoor
namespace Go.Proofs.YtpehinmckppjoaaGreatDoor
open Go.RowKit Go.Maps
set_option linter.unusedSimpArgs false
set_option linter.unusedVariables false

def CatPost (w : World) (ds : List Dm) (ms : List ByteArray) (lv sc : Int) (e : Ending) (w' : World) : Prop :=
  ∃ a c na b d, e = .returned (.agg #[.slice a ds.length c, .slice b ms.length d, .int .i64 lv, .int .i64 sc]) ∧ Dss w' a ds.length ds na ∧ Ss w' b ms.length ms ∧ Kept w w'
theorem far4 {W : World} {q p : Nat} (h : ¬ (q = p)) (a b c d : Value) (j : Nat) : ((((W.setCell ⟨q, 0, none⟩ a).setCell ⟨q, 1, none⟩ b).setCell ⟨q, 2, none⟩ c).setCell ⟨q, 3, none⟩ d).cell? ⟨p, j, none⟩ = W.cell? ⟨p, j, none⟩ := by
  have hn : ∀ o, (⟨p, j, none⟩ : Addr) ≠ ⟨q, o, none⟩ := fun o e => h (by simp only [Addr.mk.injEq] at e; exact e.1.symm)
  rw [World.cell?_setCell_other _ _ _ _ (fun e => hn 3 e.symm), World.cell?_setCell_other _ _ _ _ (fun e => hn 2 e.symm), World.cell?_setCell_other _ _ _ _ (fun e => hn 1 e.symm), World.cell?_setCell_other _ _ _ _ (fun e => hn 0 e.symm)]
theorem cr_new {w1 w3 : World} {T : TypeId} {mb : Option Addr} {m mc : Nat} {ms : List ByteArray} {lv sc : Int} {ds : List Dm} (k : Kept w1 w3) (hs : Ss w3 mb m ms) (hb : ∀ ad, mb = some ad → w1.heap.size ≤ ad.block) : CR w1 (w3.alloc (.cells #[.slice none 0 0, .slice mb m mc, .int .i64 lv, .int .i64 sc] T)) w3.heap.size ds (fun _ => (none, 0, 0)) 0 (.slice none 0 0) mb m mc ms lv sc := by
  refine ⟨k.alloc _, k.size, by simp, by simp, by simp, by simp, fun j => by simp, World.ownsRow_nil _ _ _ _, fun j hj => absurd hj (by omega), hs.kept ((Kept.refl w3).alloc _), fun hp ad had => ?_⟩
  obtain ⟨b, o, e1, e2, _⟩ := hs.cells hp
  have := hb ad had
  rw [had] at e1
  cases e1
  exact ⟨by simp only; omega, by simp only [World.size_alloc]; omega, by simp [Value.ownBlock], this⟩
theorem cr_old {w1 w3 : World} {mb : Option Addr} {m mc : Nat} {ms : List ByteArray} {lv sc : Int} {ds : List Dm} {u0 u1 u2 u3 : Value} (k : Kept w1 w3) (hs : Ss w3 mb m ms) (hb : ∀ ad, mb = some ad → w1.heap.size < ad.block) (c0 : w3.cell? ⟨w1.heap.size, 0, none⟩ = some u0) (c1 : w3.cell? ⟨w1.heap.size, 1, none⟩ = some u1) (c2 : w3.cell? ⟨w1.heap.size, 2, none⟩ = some u2) (c3 : w3.cell? ⟨w1.heap.size, 3, none⟩ = some u3) (hf : ∀ j, w3.frozen? ⟨w1.heap.size, j, none⟩ = false) :
    CR w1 ((((w3.setCell ⟨w1.heap.size, 0, none⟩ (.slice none 0 0)).setCell ⟨w1.heap.size, 1, none⟩ (.slice mb m mc)).setCell ⟨w1.heap.size, 2, none⟩ (.int .i64 lv)).setCell ⟨w1.heap.size, 3, none⟩ (.int .i64 sc)) w1.heap.size ds (fun _ => (none, 0, 0)) 0 (.slice none 0 0) mb m mc ms lv sc := by
  have g : Chg (· = w1.heap.size) w3 ((((w3.setCell ⟨w1.heap.size, 0, none⟩ (.slice none 0 0)).setCell ⟨w1.heap.size, 1, none⟩ (.slice mb m mc)).setCell ⟨w1.heap.size, 2, none⟩ (.int .i64 lv)).setCell ⟨w1.heap.size, 3, none⟩ (.int .i64 sc)) :=
    ((((Chg.refl (· = w1.heap.size) w3).setCell (p := ⟨w1.heap.size, 0, none⟩) (.inl rfl) _).setCell (p := ⟨w1.heap.size, 1, none⟩) (.inl rfl) _).setCell (p := ⟨w1.heap.size, 2, none⟩) (.inl rfl) _).setCell (p := ⟨w1.heap.size, 3, none⟩) (.inl rfl) _
  have hn : ∀ (i j : Nat), i ≠ j → ∀ (W : World) (v : Value), (W.setCell ⟨w1.heap.size, i, none⟩ v).cell? ⟨w1.heap.size, j, none⟩ = W.cell? ⟨w1.heap.size, j, none⟩ := fun i j hij W v => World.cell?_setCell_other _ _ _ _ (by intro e; simp only [Addr.mk.injEq] at e; omega)
  refine ⟨Chg.kept k g (fun j e => by omega), Nat.le_refl _, ?_, ?_, ?_, ?_, fun j => by simpa using hf j, World.ownsRow_nil _ _ _ _, fun j hj => absurd hj (by omega), hs.chg g (fun _ ad had e => by have := hb ad had; omega), fun hp ad had => ?_⟩
  · rw [hn 3 0 (by omega), hn 2 0 (by omega), hn 1 0 (by omega)]; exact World.cell?_setCell_same _ _ _ c0
  · rw [hn 3 1 (by omega), hn 2 1 (by omega)]; exact World.cell?_setCell_same _ _ _ ((hn 0 1 (by omega) _ _).trans c1)
  · rw [hn 3 2 (by omega)]; exact World.cell?_setCell_same _ _ _ ((hn 1 2 (by omega) _ _).trans ((hn 0 2 (by omega) _ _).trans c2))
  · exact World.cell?_setCell_same _ _ _ ((hn 2 3 (by omega) _ _).trans ((hn 1 3 (by omega) _ _).trans ((hn 0 3 (by omega) _ _).trans c3)))
  · obtain ⟨b, o, e1, e2, _⟩ := hs.cells hp
    have := hb ad had
    rw [had] at e1
    cases e1
    exact ⟨by simp only at this ⊢; omega, Nat.lt_of_lt_of_le e2 g.size, by simp [Value.ownBlock], by simp only at this ⊢; omega⟩
theorem set4 {W : World} {q : Nat} {u0 u1 u2 u3 : Value} (a b c d : Value) (c0 : W.cell? ⟨q, 0, none⟩ = some u0) (c1 : W.cell? ⟨q, 1, none⟩ = some u1) (c2 : W.cell? ⟨q, 2, none⟩ = some u2) (c3 : W.cell? ⟨q, 3, none⟩ = some u3) :
    ((((W.setCell ⟨q, 0, none⟩ a).setCell ⟨q, 1, none⟩ b).setCell ⟨q, 2, none⟩ c).setCell ⟨q, 3, none⟩ d).rangeAt q 0 [a, b, c, d] ∧ Chg (· = q) W ((((W.setCell ⟨q, 0, none⟩ a).setCell ⟨q, 1, none⟩ b).setCell ⟨q, 2, none⟩ c).setCell ⟨q, 3, none⟩ d) := by
  have hn : ∀ (i j : Nat), i ≠ j → ∀ (W : World) (v : Value), (W.setCell ⟨q, i, none⟩ v).cell? ⟨q, j, none⟩ = W.cell? ⟨q, j, none⟩ := fun i j hij W v => World.cell?_setCell_other _ _ _ _ (by intro e; simp only [Addr.mk.injEq] at e; omega)
  refine ⟨fun j v hv => ?_, ((((Chg.refl (· = q) W).setCell (p := ⟨q, 0, none⟩) (.inl rfl) _).setCell (p := ⟨q, 1, none⟩) (.inl rfl) _).setCell (p := ⟨q, 2, none⟩) (.inl rfl) _).setCell (p := ⟨q, 3, none⟩) (.inl rfl) _⟩
  have hj : j < 4 := by have := (List.getElem?_eq_some_iff.1 hv).1; simpa using this
  have : j = 0 ∨ j = 1 ∨ j = 2 ∨ j = 3 := by omega
  rw [Nat.zero_add]
  rcases this with rfl | rfl | rfl | rfl <;> (simp at hv; subst hv)
  · rw [hn 3 0 (by omega), hn 2 0 (by omega), hn 1 0 (by omega)]; exact World.cell?_setCell_same _ _ _ c0
  · rw [hn 3 1 (by omega), hn 2 1 (by omega)]; exact World.cell?_setCell_same _ _ _ ((hn 0 1 (by omega) _ _).trans c1)
  · rw [hn 3 2 (by omega)]; exact World.cell?_setCell_same _ _ _ ((hn 1 2 (by omega) _ _).trans ((hn 0 2 (by omega) _ _).trans c2))
  · exact World.cell?_setCell_same _ _ _ ((hn 2 3 (by omega) _ _).trans ((hn 1 3 (by omega) _ _).trans ((hn 0 3 (by omega) _ _).trans c3)))
theorem cat_size : (Tryz.prog.info? 25).map (·.size) = some 4 := by kernel_rfl
theorem cat_row : ∃ d, Tryz.prog.underlying 25 = some d ∧ d.isRow = true := ⟨_, Tryz.underlying25, rfl⟩
theorem cat_rets {R : Ending → World → Prop} {a : Act} {w : World} (g : Nat) (v0 v1 v2 v3 : Value) (hr : w.rangeAt g 0 [v0, v1, v2, v3]) (hp : a.tmps.getD 2 undef = .pointer (some ⟨g, 0, none⟩)) (hd : a.defers = [])
    (h : R (.returned (.agg #[v0, v1, v2, v3])) w) : bodyPost Tryz.prog Tryz.f187 R .ret a w := by
  obtain ⟨d, h1, h2⟩ := cat_row
  refine bodyPost_ret (v := .agg #[v0, v1, v2, v3]) ?_ hd h
  have hl := run_loadVar_mid (P := Tryz.prog) w g 0 25 [v0, v1, v2, v3] d hr h1 h2 cat_size
  have hp' : a.tmps[2]?.getD undef = .pointer (some ⟨g, 0, none⟩) := by simpa using hp
  have hres : Tryz.f187.results = #[.cell 2 25] := rfl
  simp [results, hres, hp', asAddr, hl]
theorem clone_new {w1 : World} {T : TypeId} {f : FuncId} {args : Array Value} {n : Nat} {l : List ByteArray} (hn : n ≤ 1000) (h : Calls Tryz.prog f args ((w1.alloc (.cells #[.slice none 0 0, .slice none 0 0, .int .i64 0, .int .i64 0] T)).drew) fun e w' => ∃ a' c', e = .returned (.slice a' n c') ∧ Ss w' a' n l ∧ (∀ ad, a' = some ad → ((w1.alloc (.cells #[.slice none 0 0, .slice none 0 0, .int .i64 0, .int .i64 0] T)).drew).heap.size ≤ ad.block) ∧ Kept ((w1.alloc (.cells #[.slice none 0 0, .slice none 0 0, .int .i64 0, .int .i64 0] T)).drew) w') :
    Calls Tryz.prog f args ((w1.alloc (.cells #[.slice none 0 0, .slice none 0 0, .int .i64 0, .int .i64 0] T)).drew) fun e W => ∃ a' c', e = .returned (.slice a' n c') ∧ Ss W a' n l ∧ (∀ ad, a' = some ad → ((w1.alloc (.cells #[.slice none 0 0, .slice none 0 0, .int .i64 0, .int .i64 0] T)).drew).heap.size ≤ ad.block) ∧ Kept ((w1.alloc (.cells #[.slice none 0 0, .slice none 0 0, .int .i64 0, .int .i64 0] T)).drew) W ∧ W.cell? ⟨w1.heap.size, 0, none⟩ = some (.slice none 0 0) ∧ W.cell? ⟨w1.heap.size, 1, none⟩ = some (.slice none 0 0) ∧ W.cell? ⟨w1.heap.size, 2, none⟩ = some (.int .i64 0) ∧ W.cell? ⟨w1.heap.size, 3, none⟩ = some (.int .i64 0) ∧ ∀ j, W.frozen? ⟨w1.heap.size, j, none⟩ = false := by
  refine h.mono ?_
  rintro e W ⟨a, c, he, hs, hb, k⟩
  have hf : ∀ j, W.frozen? ⟨w1.heap.size, j, none⟩ = false := fun j => (k.frozen (p := ⟨w1.heap.size, j, none⟩) (by simp)).trans (by simp)
  have hc : ∀ j v, (w1.alloc (.cells #[.slice none 0 0, .slice none 0 0, .int .i64 0, .int .i64 0] T)).drew.cell? ⟨w1.heap.size, j, none⟩ = some v → W.cell? ⟨w1.heap.size, j, none⟩ = some v := fun j v hv => k.cellp hv
  exact ⟨a, c, he, hs, hb, k, hc 0 _ (by simp), hc 1 _ (by simp), hc 2 _ (by simp), hc 3 _ (by simp), hf⟩
set_option maxHeartbeats 8000000 in
set_option maxRecDepth 100000 in
theorem dims_Cat {w0 w : World} {p : Nat} {ds : List Dm} {tp : Nat → Nat} {ma : Option Addr} {mc : Nat} {ms : List ByteArray} {lv sc : Int} {dv : Value} (h : DP w0 w p ds tp ma mc ms lv sc dv) (hm : ds.length ≤ 4) (hg : ∀ k, k < ds.length → 1 ≤ (dmL ds k).length ∧ (dmL ds k).length ≤ 60 ∧ (∀ i, i < (dmL ds k).length → (nmA (dmL ds k) i).size ≤ maxLen) ∧ (∀ i, i < (dmL ds k).length → isI (upA (dmL ds k) i))) (hn : ∀ k, k < ds.length → (dmN ds k).size ≤ maxLen) (hml : ms.length ≤ 4) :
    Calls Tryz.prog 187 #[.pointer (some ⟨p, 0, none⟩)] w (CatPost w ds ms lv sc) := by
  have hln : ds.length ≤ 60 := by omega
  obtain ⟨da, dc, rfl, hrows⟩ := h.rows (by omega)
  have HR := hidMk (And.intro hrows hn)
  have HND := hidMk (show ∀ y, Kept w y → ∀ k, k < ds.length → Calls Tryz.prog 190 #[.agg #[.string (dmN ds k), .pointer (some ⟨tp k, 0, none⟩)]] y (NodesPost y (dmL ds k)) from fun y hy k hk => by
    obtain ⟨lo, hi, hs, _⟩ := h.tr k hk
    obtain ⟨g1, g2, g3, g4⟩ := hg k hk
    exact dim_nodes (tp k) (dmN ds k) (dmL ds k) (hs.whole.kept hy) g1 g2 g3 g4)
  have hz : w.heap.size < w.heap.size + 1 := by omega
  have x0 := h.c0
  have x1 := h.c1
  have x2 := h.c2
  have x3 := h.c3
  have hMS := h.mss
  have HCL := hidMk (show ∀ y, Kept w y → _ from fun y hy => slices_CloneS ma ms.length mc ms y (hMS.kept hy) (by omega))
  clear h hg hn hrows hMS
  go_enter Tryz.func187, Tryz.ntmps187
  go_upto_region 3 with fail
  obtain ⟨w1, hw1⟩ : ∃ w1, w1 = w.alloc (.cells #[.slice none 0 0, .slice none 0 0, .int .i64 0, .int .i64 0] 25) := ⟨_, rfl⟩
  rw [← hw1]
  have K1 : Kept w w1 := by rw [hw1]; exact (Kept.refl w).alloc _
  have HK1 := hidMk K1
  have hs1 : w1.heap.size = w.heap.size + 1 := by rw [hw1]; simp
  have R1 := hidMk (show (∀ j, j < 4 → ∃ u, w1.cell? ⟨w.heap.size, j, none⟩ = some u) ∧ ∀ j, w1.frozen? ⟨w.heap.size, j, none⟩ = false from by
    rw [hw1]
    refine ⟨fun j hj => ?_, fun j => by simp⟩
    have : j = 0 ∨ j = 1 ∨ j = 2 ∨ j = 3 := by omega
    rcases this with rfl | rfl | rfl | rfl <;> simp)
  have y0 := K1.cellp x0
  have y1 := K1.cellp x1
  have y2 := K1.cellp x2
  have y3 := K1.cellp x3
  have HPN := hidMk <| show ¬ (w1.heap.size = p) from by have : p < w1.heap.size := cell_lt y0; omega
  clear x0 x1 x2 x3 hw1 K1
  have HCA := hidMk (clone_new (by omega) (HCL.out _ ((HK1.out.alloc (.cells #[.slice none 0 0, .slice none 0 0, .int .i64 0, .int .i64 0] 25)).drew)))
  have HS1 := hidMk hs1
  clear hs1
  go_cut [3] from 6 to 22 (fun c3 W => ∃ cb mb mcc, c3 = .pointer (some ⟨cb, 0, none⟩) ∧ CR w1 W cb ds (fun _ => (none, 0, 0)) 0 (.slice none 0 0) mb ms.length mcc ms lv sc)
  case first =>
    go_region_held3 (fun w' => w'.cell? ⟨p, 1, none⟩ = some (.slice ma ms.length mc) ∧ w'.cell? ⟨p, 2, none⟩ = some (.int .i64 lv) ∧ w'.cell? ⟨p, 3, none⟩ = some (.int .i64 sc)) (first | assumption | (refine ⟨Kept.cellp ?_ y1, Kept.cellp ?_ y2, Kept.cellp ?_ y3⟩ <;> ((repeat (first | (with_reducible exact Kept.refl _) | (with_reducible refine Kept.alloc ?_ _) | (with_reducible refine Kept.drew ?_) | (with_reducible refine Kept.drewN ?_ _) | (with_reducible refine Kept.trans ?_ (by assumption)))); done)) | (refine ⟨(far4 HPN.out _ _ _ _ _).trans (Kept.cellp ?_ y1), (far4 HPN.out _ _ _ _ _).trans (Kept.cellp ?_ y2), (far4 HPN.out _ _ _ _ _).trans (Kept.cellp ?_ y3)⟩ <;> ((repeat (first | (with_reducible exact Kept.refl _) | (with_reducible refine Kept.alloc ?_ _) | (with_reducible refine Kept.drew ?_) | (with_reducible refine Kept.drewN ?_ _) | (with_reducible refine Kept.trans ?_ (by assumption)))); done))) (first | (go_at_call 38; (with_reducible refine HCA.out.mono ?_); rintro e w3 ⟨mb, mcc, rfl, s3, b3, k3, z0, z1, z2, z3, zf⟩; have S3 := hidMk s3; have B3 := hidMk b3; have ZF := hidMk zf; have zf0 := zf 0; have zf1 := zf 1; have zf2 := zf 2; have zf3 := zf 3; clear s3 b3 zf) | (go_at_call 38; refine (HCL.out _ (HK1.out.trans (by (repeat (first | (with_reducible exact Kept.refl _) | (with_reducible refine Kept.drew ?_) | (with_reducible refine Kept.drewN ?_ _)))))).mono ?_; rintro e w3 ⟨mb, mcc, rfl, s3, b3, k3⟩; have S3 := hidMk s3; have B3 := hidMk b3; clear s3 b3))
    all_goals (try go_wp2_with fail)
    all_goals go_meet
    all_goals first | exact ⟨_, _, _, rfl, cr_new (((Kept.refl w1).drew).trans k3) S3.out (fun ad had => by have := B3.out ad had; simpa using this)⟩ | exact ⟨_, _, _, rfl, cr_old ((((Kept.refl w1).alloc _).drew).trans k3) S3.out (fun ad had => by have := B3.out ad had; simp at this; omega) z0 z1 z2 z3 ZF.out⟩
  case rest =>
    obtain ⟨cb, mb, mcc, rfl, hCR⟩ := hcut
    have e0 := hCR.kept.cellp y0
    have HC0 := hidMk hCR
    have hcbl := hCR.lo
    clear hCR y1 y2 y3
    go_wp2_with fail
    go_loopg [28] ds.length (fun g x wr => ∃ (k : Nat) (v : Value) (na : Nat → Option Addr × Nat × Nat), k + g = ds.length ∧ x = .int .i64 k ∧ CR w1 wr cb ds na k v mb ms.length mcc ms lv sc)
    case atStart => exact ⟨0, _, _, by omega, rfl, HC0.out⟩
    case round =>
      obtain ⟨k, v, na, hkg, rfl, hCR⟩ := hrel
      have HKG := hidMk hkg
      have HC := hidMk hCR
      by_cases hkd : k < ds.length
      · obtain ⟨b, rfl, hb⟩ := HR.out.1 (by omega)
        obtain ⟨c1, c2⟩ := hb k hkd
        have hkw := HK1.out.trans hCR.kept
        have d1 := hkw.cellp c1
        have d2 := hkw.cellp c2
        have kd' : (k : Int) < ds.length := by omega
        have HNK := hidMk (show ∀ y, Kept wr y → _ from fun y hy => HND.out y (hkw.trans hy) k hkd)
        have hcb : cb < wr.heap.size := cell_lt hCR.c0
        have cc0 := hCR.c0
        clear hb c1 c2 hkw hkg hCR HC0 e0
        go_upto_region 7 with fail
        refine gen_world (f := fun W => Code.wp _ _ _ _ W) (fun W => Kept wr W ∧ W.cell? ⟨wr.heap.size, 0, none⟩ = some (.string (dmN ds k)) ∧ W.cell? ⟨wr.heap.size, 1, none⟩ = some (.pointer (some ⟨tp k, 0, none⟩))) ⟨(Kept.refl wr).alloc _, by simp, by simp⟩ ?_
        rintro W0 ⟨hW0, f0, f1⟩
        have fc := hW0.cellp cc0
        have HC1 := hidMk (HC.out.keep hW0)
        have HW0 := hidMk hW0
        have hcbw : cb < W0.heap.size := Nat.lt_of_lt_of_le hcb hW0.size
        have hdz : W0.drew.heap.size = W0.heap.size := by simp
        have HPU := hidMk (show ∀ (x z : World) (g g' cap : Nat), Kept W0.drew x → Ns x (some ⟨g, 0, none⟩) (dmL ds k).length (dmL ds k) → W0.drew.heap.size ≤ g → g < x.heap.size → z.ownsRow (cb + 1) 55 2 (.slice (some ⟨g', 0, none⟩) (k + 1) cap) (k + 1) (rwL ds na k ++ [.string (dmN ds k), .slice (some ⟨g, 0, none⟩) (dmL ds k).length (dmL ds k).length]) → Chg (fun t => v.ownBlock = some t) x z → (v.ownBlock = some g' ∨ g' = x.heap.size) → _ from fun x z g g' cap hx hg hgl hgx ho hc hg' => (HC1.out.keep (((Kept.refl W0).drew).trans hx)).push hg hgx (by omega) (fun e => by have := (World.ownsRow.lt HC1.out.own g e).2; omega) ho hc hg')
        have HDZ := hidMk hdz
        have HOV := hidMk (show ∀ x, Kept W0.drew x → x.ownsRow (cb + 1) 55 2 v k (rwL ds na k) from fun x hx => (HC1.out.keep (((Kept.refl W0).drew).trans hx)).own)
        have HNW := hidMk (HNK.out W0.drew (hW0.drew))
        clear hW0 cc0 HNK HC d1 d2 hdz
        generalize dmN ds k = nm at *
        generalize hLn : (dmL ds k).length = ln at *
        generalize dmL ds k = L at *
        generalize tp k = q at *
        go_region_law (first | (go_simp; go_at_call 190; refine HNW.out.mono ?_; rintro e w5 ⟨g5, rfl, hg5, hg5', hn5, k5⟩; have i0 := k5.cellp (((Kept.refl W0).drew).cellp f0); have ic := k5.cellp (((Kept.refl W0).drew).cellp fc); have ic' := (fun o => ((Kept.refl w5).alloc o).cellp ic); have i0' := (fun o => ((Kept.refl w5).alloc o).cellp i0); have K5 := hidMk k5; have HN5 := hidMk (And.intro hg5 (And.intro hn5 hg5')); clear k5 hg5 hn5 hg5') | (refine step_pushC _ (by rfl) _ _ (by rfl) (cb + 1) v k (rwL ds na k) (by rfl) (HOV.out _ (K5.out.alloc _)) (by have := K5.out.size; have := HDZ.out; simp only [World.size_alloc]; omega) w5.heap.size nm (some ⟨g5, 0, none⟩, ln, ln) (by rfl) (by simp) (by simp [slv]) (by omega) (w5.heap.size + 1) (by simp) ?_; intro g6 cap6 w6 o6 c6 a6 l6; obtain ⟨q6, f6, d6⟩ := HPU.out _ w6 g5 g6 cap6 (K5.out.alloc _) (by rw [← hLn]; exact HN5.out.2.1.kept ((Kept.refl w5).alloc _)) HN5.out.1 (by have := HN5.out.2.2; simp only [World.size_alloc]; omega) o6 c6 (by simpa using a6); have H6 := hidMk d6; clear o6 c6 a6 l6 d6))
        all_goals (try go_wp2_with fail)
        all_goals (go_roundg (gk - 1))
        all_goals first | (have := HKG.out; omega) | exact ⟨k + 1, _, _, by have := HKG.out; omega, by go_num, H6.out⟩
      · have e : k = ds.length := by omega
        subst e
        have kd' : ¬ ((ds.length : Int) < ds.length) := by omega
        obtain ⟨a9, c9, rfl, hD9⟩ := hCR.dss hln HR.out.2
        have n0 := hCR.c0
        have n1 := hCR.c1
        have n2 := hCR.c2
        have n3 := hCR.c3
        obtain ⟨⟨r0, hr0⟩, ⟨r1, hr1⟩, ⟨r2, hr2⟩, ⟨r3, hr3⟩⟩ := (show (∃ u, w1.cell? ⟨w.heap.size, 0, none⟩ = some u) ∧ (∃ u, w1.cell? ⟨w.heap.size, 1, none⟩ = some u) ∧ (∃ u, w1.cell? ⟨w.heap.size, 2, none⟩ = some u) ∧ (∃ u, w1.cell? ⟨w.heap.size, 3, none⟩ = some u) from ⟨R1.out.1 0 (by omega), R1.out.1 1 (by omega), R1.out.1 2 (by omega), R1.out.1 3 (by omega)⟩)
        have m0 := hCR.kept.cellp hr0
        have m1 := hCR.kept.cellp hr1
        have m2 := hCR.kept.cellp hr2
        have m3 := hCR.kept.cellp hr3
        have hfr : ∀ j, wr.frozen? ⟨w.heap.size, j, none⟩ = false := fun j => (hCR.kept.frozen (p := ⟨w.heap.size, j, none⟩) (show w.heap.size < w1.heap.size from cell_lt hr0)).trans (R1.out.2 j)
        have hf0 := hfr 0
        have hf1 := hfr 1
        have hf2 := hfr 2
        have hf3 := hfr 3
        have HFIN := hidMk hCR
        have HS4 := hidMk (show ∀ a b c d, _ from fun a b c d => set4 (W := wr) (q := w.heap.size) a b c d m0 m1 m2 m3)
        have hq1 : w.heap.size < w1.heap.size := cell_lt hr0
        have HNM := hidMk HR.out.2
        clear hCR hkg hD9 hfr hr0 hr1 hr2 hr3 HC0 e0
        go_wp2_with fail
        refine cat_rets w.heap.size _ _ _ _ (HS4.out _ _ _ _).1 rfl rfl ?_
        have hlow := HFIN.out.low HK1.out (Nat.le_refl _) hq1 (HS4.out (.slice a9 ds.length c9) (.slice mb ms.length mcc) (.int .i64 lv) (.int .i64 sc)).2
        obtain ⟨a8, c8, he8, hD8⟩ := hlow.dss hln HNM.out
        cases he8
        exact ⟨_, _, _, _, _, rfl, hD8, hlow.mss, hlow.kept⟩
end Go.Proofs.YtpehinmckppjoaaGreatDoor
