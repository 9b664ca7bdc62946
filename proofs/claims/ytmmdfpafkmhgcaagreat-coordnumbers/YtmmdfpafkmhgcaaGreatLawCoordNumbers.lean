/- CoordNumbers. -/
import Derived.Test.YtmmdfpafkmhgcaaGreatCoFr
import Derived.Test.YtmmdfpafkmhgcaaGreatRefCo7
namespace Go.Proofs.YtmmdfpafkmhgcaaGreat
open Go.RowKit Go.Maps
set_option linter.unusedSimpArgs false
set_option linter.unusedVariables false

section
variable {ds : List Dm} {ms : List ByteArray}
theorem rank_lf (h : Ct ds ms) {n : Int} (hn : okC ms ds n) {k : Nat} (hk : k < ds.length) : rankI (dmL ds k) (lfF ds n ds.length k) = prA (fun k => leas ds k) n k := by
  obtain ⟨r, hr, h1, h2, h3, h4⟩ := lf_at h hn hk
  rw [h1, h2]
  refine rank_at (h.tr k hk) hr rfl (fun t ht e => ?_)
  rw [ints_get _ t (by omega)] at e
  have := (List.getElem_inj (nodup_lvs (h.tr k hk))).1 (show (lvsN (dmL ds k))[t] = (lvsN (dmL ds k))[r] by omega)
  omega
theorem code_lf (h : Ct ds ms) {n : Int} (hn : okC ms ds n) : codeI ms ds (prQ (fun k => leas ds k) n 4) (lfF ds n ds.length) = n := by
  unfold codeI
  rw [if_pos ⟨lf_right h hn, lf_leaves h hn⟩]
  refine Eq.trans (num_congr 4 (fun j hj => ?_)) (num_parts (fun k => leas ds k) n)
  unfold rkF
  by_cases c : j < ds.length
  · rw [if_pos c]; exact rank_lf h hn c
  · rw [if_neg c]; exact (prA_out (d := ds.length) (fun k hk => by rw [leas_out (by omega)]; rfl) (by omega)).symm
theorem index_cell (h : Ct ds ms) {n : Int} (hn : 0 ≤ n ∧ n < mulK (fun k => many ds k) ms.length 4) : (if rightB ms ds (prQ (fun k => many ds k) n 4) (prA (fun k => many ds k) n) then numK (fun k => many ds k) (prA (fun k => many ds k) n) (prQ (fun k => many ds k) n 4) 4 else -1) = n := by
  obtain ⟨h1, h2⟩ := part_ok (f := fun k => many ds k) (fun k => h.many k) hn
  rw [if_pos (right_iff.2 ⟨h1, h2⟩)]
  exact num_parts _ n
/-- What both sides answer: one pair. -/
theorem leaf_form (h : Ct ds ms) (n : Int) : ∃ xm xt a, (∀ e : Ending, (if 0 ≤ n ∧ n < mulK (fun k => leas ds k) ms.length 4 then e = .returned (.tuple #[cellV (prQ (fun k => leas ds k) n 4) (lfF ds n ds.length), .bool true]) else e = .returned (.tuple #[cellV 0 (fun _ => 0), .bool false])) → e = .returned (.tuple #[cellV xm xt, .bool a])) ∧ (a = true → codeI ms ds xm xt = n) := by
  by_cases c : 0 ≤ n ∧ n < mulK (fun k => leas ds k) ms.length 4
  · exact ⟨_, _, true, fun e he => by rw [if_pos c] at he; exact he, fun _ => code_lf h c⟩
  · exact ⟨_, _, false, fun e he => by rw [if_neg c] at he; exact he, fun e => by cases e⟩
theorem cell_form (h : Ct ds ms) (n : Int) : ∃ xm xt a, (∀ e : Ending, (if 0 ≤ n ∧ n < mulK (fun k => many ds k) ms.length 4 then e = .returned (.tuple #[cellV (prQ (fun k => many ds k) n 4) (prA (fun k => many ds k) n), .bool true]) else e = .returned (.tuple #[cellV 0 (fun _ => 0), .bool false])) → e = .returned (.tuple #[cellV xm xt, .bool a])) ∧ (a = true → (if rightB ms ds xm xt then numK (fun k => many ds k) xt xm 4 else -1) = n) := by
  by_cases c : 0 ≤ n ∧ n < mulK (fun k => many ds k) ms.length 4
  · exact ⟨_, _, true, fun e he => by rw [if_pos c] at he; exact he, fun _ => index_cell h c⟩
  · exact ⟨_, _, false, fun e he => by rw [if_neg c] at he; exact he, fun e => by cases e⟩
end
section
variable {W0 X Y Z : World} {r q : Nat} {ds : List Dm} {ms : List ByteArray} {rt : Nat → Nat} {y4 y5 : Value} {pp : Option (Nat × Nat)}
theorem rr_keep (h : RR W0 r q ds y4 y5 pp X Y) (k : Kept Y Z) : RR W0 r q ds y4 y5 pp X Z := by
  obtain ⟨⟨p3, h3, h4⟩, h5⟩ := h
  exact ⟨⟨p3, h3.keep k, h4⟩, h5.trans (Chg.of_kept k)⟩
theorem rr_kp (h : RR W0 r q ds y4 y5 pp X Y) : Kept W0 Y := h.1.choose_spec.1.kp
/-- The definition's space as open made it. -/
theorem rq_open (W0 : World) (q : Nat) (ds : List Dm) : RQ W0 W0.heap.size q ds (.slice none 0 0) (.slice none 0 0) none (W0.alloc (.cells #[.pointer (some ⟨q, 0, none⟩), .slice none 0 0, .slice none 0 0, .slice none 0 0, .slice none 0 0, .slice none 0 0] 66)) :=
  ⟨(Kept.refl _).alloc _, new_cell _ _ _ _ 0 _ rfl rfl, new_cell _ _ _ _ 4 _ rfl rfl, new_cell _ _ _ _ 5 _ rfl rfl, fun k => new_frozen _ _ _ rfl k, fun _ => ⟨new_cell _ _ _ _ 1 _ rfl rfl, new_cell _ _ _ _ 2 _ rfl rfl, new_cell _ _ _ _ 3 _ rfl rfl⟩, fun B H e => by cases e⟩
end
/-- A cell's five numbers in a block. -/
def C5 (cb : Nat) (cm : Int) (at_ : Nat → Int) (Y : World) : Prop := Y.cell? ⟨cb, 0, none⟩ = some (.int .i64 cm) ∧ Y.cell? ⟨cb, 1, none⟩ = some (.int .i64 (at_ 0)) ∧ Y.cell? ⟨cb, 2, none⟩ = some (.int .i64 (at_ 1)) ∧ Y.cell? ⟨cb, 3, none⟩ = some (.int .i64 (at_ 2)) ∧ Y.cell? ⟨cb, 4, none⟩ = some (.int .i64 (at_ 3))
theorem C5.kept {cb : Nat} {cm : Int} {at_ : Nat → Int} {X Y : World} (h : C5 cb cm at_ X) (k : Kept X Y) : C5 cb cm at_ Y := ⟨k.cellp h.1, k.cellp h.2.1, k.cellp h.2.2.1, k.cellp h.2.2.2.1, k.cellp h.2.2.2.2⟩
theorem C5.chg {cb r : Nat} {cm : Int} {at_ : Nat → Int} {X Y : World} (h : C5 cb cm at_ X) (k : Chg (fun j => j = r) X Y) (n : cb ≠ r) : C5 cb cm at_ Y := ⟨k.cellp h.1 n, k.cellp h.2.1 n, k.cellp h.2.2.1 n, k.cellp h.2.2.2.1 n, k.cellp h.2.2.2.2 n⟩
theorem C5.new (X : World) (cm : Int) (at_ : Nat → Int) (t : TypeId) : C5 X.heap.size cm at_ (X.alloc (.cells #[.int .i64 cm, .int .i64 (at_ 0), .int .i64 (at_ 1), .int .i64 (at_ 2), .int .i64 (at_ 3)] t)) := (cell_box X cm at_ t rfl _ (Kept.refl _)).1
set_option maxHeartbeats 8000000 in
set_option maxRecDepth 100000 in
theorem law_CoordNumbers (a : Option Addr) (n c : Nat) (ds : List Dm) (na : Nat → Option Addr × Nat × Nat) (b : Option Addr) (m d : Nat) (ms : List ByteArray) (lv sc cm : Int) (at_ : Nat → Int) (nn : Int) (w : World) (hs : Dss w a n ds na) (hm : Ss w b m ms) (hmz : ∀ i, i < ms.length → (msA ms i).size ≤ maxLen) :
    Calls Tryz.prog 3 #[.agg #[.slice a n c, .slice b m d, .int .i64 lv, .int .i64 sc], cellV cm at_, .int .i64 nn] w fun e w' => e = .returned (.bool true) ∧ Kept w w' := by
  obtain ⟨tb, htb⟩ : ∃ x, x = w.heap.size := ⟨_, rfl⟩
  obtain ⟨cb, hcb⟩ : ∃ x, x = w.heap.size + 1 := ⟨_, rfl⟩
  obtain ⟨W1, hW1⟩ : ∃ X, X = (w.alloc (.cells #[.slice a n c, .slice b m d, .int .i64 lv, .int .i64 sc] 25)).alloc (.cells #[.int .i64 cm, .int .i64 (at_ 0), .int .i64 (at_ 1), .int .i64 (at_ 2), .int .i64 (at_ 3)] 28) := ⟨_, rfl⟩
  have k1 : Kept w W1 := by rw [hW1]; exact ((Kept.refl w).alloc _).alloc _
  have HK1 := hidMk k1
  have HTC := hidMk (show W1.cell? ⟨tb, 0, none⟩ = some (.slice a n c) ∧ W1.cell? ⟨tb, 1, none⟩ = some (.slice b m d) ∧ W1.cell? ⟨tb, 2, none⟩ = some (.int .i64 lv) ∧ W1.cell? ⟨tb, 3, none⟩ = some (.int .i64 sc) from by
    rw [hW1]
    exact ⟨((Kept.refl _).alloc _).cellp (new_cell _ _ _ _ 0 _ htb rfl), ((Kept.refl _).alloc _).cellp (new_cell _ _ _ _ 1 _ htb rfl), ((Kept.refl _).alloc _).cellp (new_cell _ _ _ _ 2 _ htb rfl), ((Kept.refl _).alloc _).cellp (new_cell _ _ _ _ 3 _ htb rfl)⟩)
  have HCC := hidMk (show C5 cb cm at_ W1 from by
    rw [hW1, hcb]
    have := C5.new (w.alloc (.cells #[.slice a n c, .slice b m d, .int .i64 lv, .int .i64 sc] 25)) cm at_ 28
    rwa [World.size_alloc] at this)
  have HOP := hidMk (law7_open a n c ds na b m d ms lv sc W1 (hs.kept k1) (hm.kept k1) hmz)
  clear hs hm hmz k1
  have HCB := hidMk hcb
  have HW1S := hidMk (show W1.heap.size = w.heap.size + 1 + 1 from by rw [hW1, World.size_alloc, World.size_alloc])
  unfold cellV
  go_enter Tryz.func3, Tryz.ntmps3
  obtain ⟨y0, y1, y2, y3⟩ := HTC.out
  rw [hW1, htb] at y0 y1 y2 y3
  go_wp2_with fail
  rw [← hW1]
  rw [← hcb, ← htb]
  clear hW1 hcb htb y0 y1 y2 y3 HTC
  refine HOP.out.mono ?_
  rintro e w1 (⟨W0, s, p, tp, rv, q, rt, rfl, _, hcat, hsw, hrd, hk, hw1⟩ | ⟨v1, v2, rfl, hno, hk⟩)
  · have hq1 := rq_open W0 q ds
    rw [← hw1] at hq1
    have HE := hidMk (show RE W0 W0.heap.size q ds ms rt from ⟨rfl, hrd, hsw.ct⟩)
    have HKW := hidMk hk
    have HSW := hidMk hsw
    have HNR := hidMk (show cb ≠ W0.heap.size from by have h1 := HCB.out; have h2 := HW1S.out; have h3 := hk.size; omega)
    obtain ⟨r, hr⟩ : ∃ r, r = W0.heap.size := ⟨_, rfl⟩
    rw [← hr] at hq1 HE HNR
    have HQ1 := hidMk hq1
    rw [← hr]
    obtain ⟨xm, xt, xa, hxf, hxc⟩ := leaf_form hsw.ct nn
    obtain ⟨zm, zt, za, hzf, hzc⟩ := cell_form hsw.ct nn
    have HXF := hidMk hxf
    have HZF := hidMk hzf
    have HXC := hidMk hxc
    have HZC := hidMk hzc
    have HC1 := hidMk (HCC.out.kept (HKW.out.trans hq1.kp))
    clear hw1 hsw hrd hk hcat hq1 hxf hzf hxc hzc HOP HCC hr HCB HW1S
    -- the program's leaf
    have HA := hidMk (sw_LeafOf (HSW.out.keep HQ1.out.kp) nn)
    go_wp2_with fail
    refine HA.out.mono ?_
    rintro e w2 ⟨he, k2⟩
    have he' := HXF.out e he
    subst he'
    unfold cellV
    obtain ⟨X2, hX2⟩ : ∃ V, V = w2.alloc (.cells #[.int .i64 xm, .int .i64 (xt 0), .int .i64 (xt 1), .int .i64 (xt 2), .int .i64 (xt 3)] 28) := ⟨_, rfl⟩
    obtain ⟨xb, hxb⟩ : ∃ x, x = w2.heap.size := ⟨_, rfl⟩
    have k2' : Kept w1 X2 := by rw [hX2]; exact k2.alloc _
    have HQ2 := hidMk (HQ1.out.keep k2')
    have HX2 := hidMk (show C5 xb xm xt X2 from by rw [hX2, hxb]; exact C5.new _ _ _ _)
    have HC2 := hidMk (HC1.out.kept k2')
    have HNX := hidMk (show xb ≠ r from by have h1 := HQ1.out.lt; have h2 := k2.size; omega)
    clear he k2 k2' HA HQ1 HC1
    go_wp2_with fail
    rw [← hX2]
    rw [← hxb]
    clear hX2 hxb
    -- the definition's leaf
    have HA := hidMk (r7_Leaf HE.out HQ2.out nn)
    refine HA.out.mono ?_
    rintro e w3 ⟨he, ⟨p3, hq3, hnx3⟩, hc3⟩
    have he' := HXF.out e he
    subst he'
    unfold cellV
    obtain ⟨X3, hX3⟩ : ∃ V, V = w3.alloc (.cells #[.int .i64 xm, .int .i64 (xt 0), .int .i64 (xt 1), .int .i64 (xt 2), .int .i64 (xt 3)] 28) := ⟨_, rfl⟩
    obtain ⟨yb, hyb⟩ : ∃ x, x = w3.heap.size := ⟨_, rfl⟩
    have k3 : Kept w3 X3 := by rw [hX3]; exact (Kept.refl _).alloc _
    have HQ3 := hidMk (hq3.keep k3)
    have HY3 := hidMk (show C5 yb xm xt X3 from by rw [hX3, hyb]; exact C5.new _ _ _ _)
    have HX3 := hidMk ((HX2.out.chg hc3 HNX.out).kept k3)
    have HC3 := hidMk ((HC2.out.chg hc3 HNR.out).kept k3)
    have HNY := hidMk (show yb ≠ r from by have h1 := hq3.lt; omega)
    clear he hq3 hc3 hnx3 HA k3 HQ2 HX2 HC2
    go_wp2_with fail
    rw [← hX3]
    rw [← hyb]
    clear hX3 hyb
    -- the program's cell
    have HA := hidMk (sw_Cell (HSW.out.keep HQ3.out.kp) nn)
    refine HA.out.mono ?_
    rintro e w4 ⟨he, k4⟩
    have he' := HZF.out e he
    subst he'
    unfold cellV
    obtain ⟨X4, hX4⟩ : ∃ V, V = w4.alloc (.cells #[.int .i64 zm, .int .i64 (zt 0), .int .i64 (zt 1), .int .i64 (zt 2), .int .i64 (zt 3)] 28) := ⟨_, rfl⟩
    obtain ⟨zb, hzb⟩ : ∃ x, x = w4.heap.size := ⟨_, rfl⟩
    have k4' : Kept X3 X4 := by rw [hX4]; exact k4.alloc _
    have HQ4 := hidMk (HQ3.out.keep k4')
    have HZ4 := hidMk (show C5 zb zm zt X4 from by rw [hX4, hzb]; exact C5.new _ _ _ _)
    have HY4 := hidMk (HY3.out.kept k4')
    have HX4 := hidMk (HX3.out.kept k4')
    have HC4 := hidMk (HC3.out.kept k4')
    have HNZ := hidMk (show zb ≠ r from by have h1 := HQ3.out.lt; have h2 := k4.size; omega)
    clear he k4 k4' HA HQ3 HY3 HX3 HC3
    go_wp2_with fail
    rw [← hX4]
    rw [← hzb]
    clear hX4 hzb
    -- the definition's cell
    have HA := hidMk (r7_Cell HE.out HQ4.out nn)
    refine HA.out.mono ?_
    rintro e w5 ⟨he, k5⟩
    have he' := HZF.out e he
    subst he'
    unfold cellV
    obtain ⟨X5, hX5⟩ : ∃ V, V = w5.alloc (.cells #[.int .i64 zm, .int .i64 (zt 0), .int .i64 (zt 1), .int .i64 (zt 2), .int .i64 (zt 3)] 28) := ⟨_, rfl⟩
    obtain ⟨wb, hwb⟩ : ∃ x, x = w5.heap.size := ⟨_, rfl⟩
    have k5' : Kept X4 X5 := by rw [hX5]; exact k5.alloc _
    have HQ5 := hidMk (HQ4.out.keep k5')
    have HNW := hidMk (show wb ≠ r from by have h1 := HQ4.out.lt; have h2 := k5.size; omega)
    have HW5 := hidMk (show C5 wb zm zt X5 from by rw [hX5, hwb]; exact C5.new _ _ _ _)
    have HCL := hidMk (show ∀ Y, RR W0 r q ds (.slice none 0 0) (.slice none 0 0) p3 X5 Y → (C5 cb cm at_ Y ∧ C5 xb xm xt Y) ∧ C5 yb xm xt Y ∧ C5 zb zm zt Y ∧ C5 wb zm zt Y from fun Y h =>
      ⟨⟨(HC4.out.kept k5').chg h.2 HNR.out, (HX4.out.kept k5').chg h.2 HNX.out⟩, (HY4.out.kept k5').chg h.2 HNY.out, (HZ4.out.kept k5').chg h.2 HNZ.out, HW5.out.chg h.2 HNW.out⟩)
    clear he k5 k5' HA HQ4 HZ4 HY4 HX4 HC4 HW5 HNR HNX HNY HNZ HNW HXF HZF
    go_upto_region 8 with fail
    rw [← hX5]
    rw [← hwb]
    clear hX5 hwb
    -- each call ahead of the answer
    have HL1 := hidMk (show ∀ Y, RR W0 r q ds (.slice none 0 0) (.slice none 0 0) p3 X5 Y → _ from fun Y h => (sw_Leaves (HSW.out.keep (rr_kp h))).mono fun e w' h2 => (show e = _ ∧ RR W0 r q ds (.slice none 0 0) (.slice none 0 0) p3 X5 w' from ⟨h2.1, rr_keep h h2.2⟩))
    have HL3 := hidMk (show ∀ Y, RR W0 r q ds (.slice none 0 0) (.slice none 0 0) p3 X5 Y → _ from fun Y h => (r7_Leaves HE.out h.1.choose_spec.1).mono fun e w' h2 => (show e = _ ∧ RR W0 r q ds (.slice none 0 0) (.slice none 0 0) p3 X5 w' from ⟨h2.1, by
      obtain ⟨_, ⟨B, H, h3, h4⟩, h5⟩ := h2
      exact rr_trans h.1.choose_spec.1 h.1.choose_spec.2 h.2 (Kept.refl _) ⟨⟨_, h3, h4⟩, h5⟩⟩))
    have HL7 := hidMk (show ∀ Y, RR W0 r q ds (.slice none 0 0) (.slice none 0 0) p3 X5 Y → _ from fun Y h => (sw_Cells (HSW.out.keep (rr_kp h))).mono fun e w' h2 => (show e = _ ∧ RR W0 r q ds (.slice none 0 0) (.slice none 0 0) p3 X5 w' from ⟨h2.1, rr_keep h h2.2⟩))
    have HL9 := hidMk (show ∀ Y, RR W0 r q ds (.slice none 0 0) (.slice none 0 0) p3 X5 Y → _ from fun Y h => (r7_Cells HE.out h.1.choose_spec.1).mono fun e w' h2 => (show e = _ ∧ RR W0 r q ds (.slice none 0 0) (.slice none 0 0) p3 X5 w' from ⟨h2.1, rr_keep h h2.2⟩))
    have HL15 := hidMk (show ∀ Y, RR W0 r q ds (.slice none 0 0) (.slice none 0 0) p3 X5 Y → _ from fun Y h => (sw_Code (HSW.out.keep (rr_kp h)) cm at_).mono fun e w' h2 => (show e = _ ∧ RR W0 r q ds (.slice none 0 0) (.slice none 0 0) p3 X5 w' from ⟨h2.1, rr_keep h h2.2⟩))
    have HL18 := hidMk (show ∀ Y, RR W0 r q ds (.slice none 0 0) (.slice none 0 0) p3 X5 Y → _ from fun Y h => (r7_Code HE.out h.1.choose_spec.1 cm at_).mono fun e w' h2 => (show e = _ ∧ RR W0 r q ds (.slice none 0 0) (.slice none 0 0) p3 X5 w' from ⟨h2.1, rr_trans h.1.choose_spec.1 h.1.choose_spec.2 h.2 (Kept.refl _) h2.2⟩))
    have HL24 := hidMk (show ∀ Y, RR W0 r q ds (.slice none 0 0) (.slice none 0 0) p3 X5 Y → _ from fun Y h => (sw_Index (HSW.out.keep (rr_kp h)) cm at_).mono fun e w' h2 => (show e = _ ∧ RR W0 r q ds (.slice none 0 0) (.slice none 0 0) p3 X5 w' from ⟨h2.1, rr_keep h h2.2⟩))
    have HL27 := hidMk (show ∀ Y, RR W0 r q ds (.slice none 0 0) (.slice none 0 0) p3 X5 Y → _ from fun Y h => (r7_Index HE.out h.1.choose_spec.1 cm at_).mono fun e w' h2 => (show e = _ ∧ RR W0 r q ds (.slice none 0 0) (.slice none 0 0) p3 X5 w' from ⟨h2.1, rr_keep h h2.2⟩))
    have HBC := hidMk (show ∀ Y, RR W0 r q ds (.slice none 0 0) (.slice none 0 0) p3 X5 Y → _ from fun Y h => (sw_Code (HSW.out.keep (rr_kp h)) xm xt).mono fun e w' h2 => (show e = _ ∧ RR W0 r q ds (.slice none 0 0) (.slice none 0 0) p3 X5 w' from ⟨h2.1, rr_keep h h2.2⟩))
    have HBI := hidMk (show ∀ Y, RR W0 r q ds (.slice none 0 0) (.slice none 0 0) p3 X5 Y → _ from fun Y h => (sw_Index (HSW.out.keep (rr_kp h)) zm zt).mono fun e w' h2 => (show e = _ ∧ RR W0 r q ds (.slice none 0 0) (.slice none 0 0) p3 X5 w' from ⟨h2.1, rr_keep h h2.2⟩))
    have HR5 := hidMk (HQ5.out.rr ((Kept.refl X5).drew))
    unfold cellV at *
    generalize codeI ms ds cm at_ = o1 at *
    generalize (if rightB ms ds cm at_ then numK (fun k => many ds k) at_ cm 4 else -1) = o2 at *
    generalize mulK (fun k => leas ds k) ms.length 4 = o3 at *
    generalize mulK (fun k => many ds k) ms.length 4 = o4 at *
    generalize codeI ms ds xm xt = o5 at *
    generalize (if rightB ms ds zm zt then numK (fun k => many ds k) zt zm 4 else -1) = o6 at *
    clear HE HSW HQ5
    have qx := eq_arr (xt 0) (xt 1) (xt 2) (xt 3)
    have qz := eq_arr (zt 0) (zt 1) (zt 2) (zt 3)
    refine wp_region_held_drew (S := (fun w' => RR W0 r q ds (.slice none 0 0) (.slice none 0 0) p3 X5 w')) (by kernel_rfl) ?_ (fun hHeld => ?_)
    · exact HR5.out
    refine wpAnyH_take (i := 0) (oi := { dst := some 51, op := _, type := _, pos := _, after := _, guard := _ }) (v := ?_) rfl (by kernel_rfl) (by kernel_rfl) (by kernel_rfl) (fun _ _ _ h => h) (Or.inl ⟨by rfl, ?_⟩) (by assumption) ?_
    rotate_left
    · (intro w9 hSw; clear hSw; go_simp; (try with_reducible rfl))
    (try simp only [Act.put, List.setIfInBounds_toArray, List.set_cons_zero, List.set_cons_succ])
    refine wpAnyH_take (i := 2) (oi := { dst := some 53, op := _, type := _, pos := _, after := _, guard := _ }) (v := ?_) rfl (by kernel_rfl) (by kernel_rfl) (by kernel_rfl) (fun _ _ _ h => h) (Or.inl ⟨by rfl, ?_⟩) (by assumption) ?_
    rotate_left
    · (intro w9 hSw; clear hSw; go_simp; (try with_reducible rfl))
    (try simp only [Act.put, List.setIfInBounds_toArray, List.set_cons_zero, List.set_cons_succ])
    refine wpAnyH_ready (rs := [1]) (by kernel_rfl) (by simp) ?_
    refine AllReadyH.cons (o := { dst := some 52, op := _, type := _, pos := _, after := _, guard := _ }) rfl (fun K hK => ?_) AllReadyH.nil
    go_simp
    refine (HL1.out _ hHeld).mono ?_
    rintro e wA ⟨rfl, hA⟩
    have HAA := hidMk hA
    clear hA
    (try go_wp2_with fail)
    refine hK.out _ _ ?_ (fun hHeld => ?_)
    · exact HAA.out
    clear hK K
    (try simp only [Act.put, List.setIfInBounds_toArray, List.set_cons_zero, List.set_cons_succ])
    refine wpAnyH_ready (rs := [3]) (by kernel_rfl) (by simp) ?_
    refine AllReadyH.cons (o := { dst := some 54, op := _, type := _, pos := _, after := _, guard := _ }) rfl (fun K hK => ?_) AllReadyH.nil
    go_simp
    refine (HL3.out _ hHeld).mono ?_
    rintro e wA ⟨rfl, hA⟩
    have HAA := hidMk hA
    clear hA
    (try go_wp2_with fail)
    refine hK.out _ _ ?_ (fun hHeld => ?_)
    · exact HAA.out
    clear hK K
    (try simp only [Act.put, List.setIfInBounds_toArray, List.set_cons_zero, List.set_cons_succ])
    refine wpAnyH_take (i := 4) (oi := { dst := some 55, op := _, type := _, pos := _, after := _, guard := _ }) (v := ?_) rfl (by kernel_rfl) (by kernel_rfl) (by kernel_rfl) (fun _ _ _ h => h) (Or.inl ⟨by rfl, ?_⟩) (by assumption) ?_
    rotate_left
    · (intro w9 hSw; clear hSw; go_simp; (try with_reducible rfl))
    (try simp only [Act.put, List.setIfInBounds_toArray, List.set_cons_zero, List.set_cons_succ])
    refine wpAnyH_take (i := 5) (oi := { dst := some 56, op := _, type := _, pos := _, after := _, guard := _ }) (v := ?_) rfl (by kernel_rfl) (by kernel_rfl) (by kernel_rfl) (fun _ _ _ h => h) (Or.inl ⟨by rfl, ?_⟩) (by assumption) ?_
    rotate_left
    · (intro w9 hSw; clear hSw; go_simp; (try with_reducible rfl))
    (try simp only [Act.put, List.setIfInBounds_toArray, List.set_cons_zero, List.set_cons_succ])
    refine wpAnyH_take (i := 6) (oi := { dst := some 57, op := _, type := _, pos := _, after := _, guard := _ }) (v := ?_) rfl (by kernel_rfl) (by kernel_rfl) (by kernel_rfl) (fun _ _ _ h => h) (Or.inl ⟨by rfl, ?_⟩) (by assumption) ?_
    rotate_left
    · (intro w9 hSw; clear hSw; go_simp; (try with_reducible rfl))
    (try simp only [Act.put, List.setIfInBounds_toArray, List.set_cons_zero, List.set_cons_succ])
    refine wpAnyH_take (i := 8) (oi := { dst := some 59, op := _, type := _, pos := _, after := _, guard := _ }) (v := ?_) rfl (by kernel_rfl) (by kernel_rfl) (by kernel_rfl) (fun _ _ _ h => h) (Or.inl ⟨by rfl, ?_⟩) (by assumption) ?_
    rotate_left
    · (intro w9 hSw; clear hSw; go_simp; (try with_reducible rfl))
    (try simp only [Act.put, List.setIfInBounds_toArray, List.set_cons_zero, List.set_cons_succ])
    refine wpAnyH_ready (rs := [7]) (by kernel_rfl) (by simp) ?_
    refine AllReadyH.cons (o := { dst := some 58, op := _, type := _, pos := _, after := _, guard := _ }) rfl (fun K hK => ?_) AllReadyH.nil
    go_simp
    refine (HL7.out _ hHeld).mono ?_
    rintro e wA ⟨rfl, hA⟩
    have HAA := hidMk hA
    clear hA
    (try go_wp2_with fail)
    refine hK.out _ _ ?_ (fun hHeld => ?_)
    · exact HAA.out
    clear hK K
    (try simp only [Act.put, List.setIfInBounds_toArray, List.set_cons_zero, List.set_cons_succ])
    refine wpAnyH_ready (rs := [9]) (by kernel_rfl) (by simp) ?_
    refine AllReadyH.cons (o := { dst := some 60, op := _, type := _, pos := _, after := _, guard := _ }) rfl (fun K hK => ?_) AllReadyH.nil
    go_simp
    refine (HL9.out _ hHeld).mono ?_
    rintro e wA ⟨rfl, hA⟩
    have HAA := hidMk hA
    clear hA
    (try go_wp2_with fail)
    refine hK.out _ _ ?_ (fun hHeld => ?_)
    · exact HAA.out
    clear hK K
    (try simp only [Act.put, List.setIfInBounds_toArray, List.set_cons_zero, List.set_cons_succ])
    refine wpAnyH_take (i := 10) (oi := { dst := some 61, op := _, type := _, pos := _, after := _, guard := _ }) (v := ?_) rfl (by kernel_rfl) (by kernel_rfl) (by kernel_rfl) (fun _ _ _ h => h) (Or.inl ⟨by rfl, ?_⟩) (by assumption) ?_
    rotate_left
    · (intro w9 hSw; clear hSw; go_simp; (try with_reducible rfl))
    (try simp only [Act.put, List.setIfInBounds_toArray, List.set_cons_zero, List.set_cons_succ])
    refine wpAnyH_take (i := 11) (oi := { dst := some 62, op := _, type := _, pos := _, after := _, guard := _ }) (v := ?_) rfl (by kernel_rfl) (by kernel_rfl) (by kernel_rfl) (fun _ _ _ h => h) (Or.inl ⟨by rfl, ?_⟩) (by assumption) ?_
    rotate_left
    · (intro w9 hSw; clear hSw; go_simp; (try with_reducible rfl))
    (try simp only [Act.put, List.setIfInBounds_toArray, List.set_cons_zero, List.set_cons_succ])
    refine wpAnyH_take (i := 12) (oi := { dst := some 63, op := _, type := _, pos := _, after := _, guard := _ }) (v := ?_) rfl (by kernel_rfl) (by kernel_rfl) (by kernel_rfl) (fun _ _ _ h => h) (Or.inl ⟨by rfl, ?_⟩) (by assumption) ?_
    rotate_left
    · (intro w9 hSw; clear hSw; go_simp; (try with_reducible rfl))
    (try simp only [Act.put, List.setIfInBounds_toArray, List.set_cons_zero, List.set_cons_succ])
    refine wpAnyH_take (i := 13) (oi := { dst := some 64, op := _, type := _, pos := _, after := _, guard := _ }) (v := ?_) rfl (by kernel_rfl) (by kernel_rfl) (by kernel_rfl) (fun _ _ _ h => h) (Or.inl ⟨by rfl, ?_⟩) (by assumption) ?_
    rotate_left
    · (intro w9 hSw; clear hSw; go_simp; (try with_reducible rfl))
    (try simp only [Act.put, List.setIfInBounds_toArray, List.set_cons_zero, List.set_cons_succ])
    refine wpAnyH_take (i := 14) (oi := { dst := some 65, op := _, type := _, pos := _, after := _, guard := _ }) (v := ?_) rfl (by kernel_rfl) (by kernel_rfl) (by kernel_rfl) (fun _ _ _ h => h) (Or.inl ⟨by rfl, ?_⟩) (by assumption) ?_
    rotate_left
    · (intro w9 hSw; obtain ⟨⟨⟨b0, b1, b2, b3, b4⟩, _⟩, _⟩ := HCL.out w9 hSw; clear hSw; go_simp; (try with_reducible rfl))
    (try simp only [Act.put, List.setIfInBounds_toArray, List.set_cons_zero, List.set_cons_succ])
    refine wpAnyH_take (i := 16) (oi := { dst := some 67, op := _, type := _, pos := _, after := _, guard := _ }) (v := ?_) rfl (by kernel_rfl) (by kernel_rfl) (by kernel_rfl) (fun _ _ _ h => h) (Or.inl ⟨by rfl, ?_⟩) (by assumption) ?_
    rotate_left
    · (intro w9 hSw; clear hSw; go_simp; (try with_reducible rfl))
    (try simp only [Act.put, List.setIfInBounds_toArray, List.set_cons_zero, List.set_cons_succ])
    refine wpAnyH_take (i := 17) (oi := { dst := some 68, op := _, type := _, pos := _, after := _, guard := _ }) (v := ?_) rfl (by kernel_rfl) (by kernel_rfl) (by kernel_rfl) (fun _ _ _ h => h) (Or.inl ⟨by rfl, ?_⟩) (by assumption) ?_
    rotate_left
    · (intro w9 hSw; obtain ⟨⟨⟨b0, b1, b2, b3, b4⟩, _⟩, _⟩ := HCL.out w9 hSw; clear hSw; go_simp; (try with_reducible rfl))
    (try simp only [Act.put, List.setIfInBounds_toArray, List.set_cons_zero, List.set_cons_succ])
    refine wpAnyH_ready (rs := [15]) (by kernel_rfl) (by simp) ?_
    refine AllReadyH.cons (o := { dst := some 66, op := _, type := _, pos := _, after := _, guard := _ }) rfl (fun K hK => ?_) AllReadyH.nil
    go_simp
    refine (HL15.out _ hHeld).mono ?_
    rintro e wA ⟨rfl, hA⟩
    have HAA := hidMk hA
    clear hA
    (try go_wp2_with fail)
    refine hK.out _ _ ?_ (fun hHeld => ?_)
    · exact HAA.out
    clear hK K
    (try simp only [Act.put, List.setIfInBounds_toArray, List.set_cons_zero, List.set_cons_succ])
    refine wpAnyH_ready (rs := [18]) (by kernel_rfl) (by simp) ?_
    refine AllReadyH.cons (o := { dst := some 69, op := _, type := _, pos := _, after := _, guard := _ }) rfl (fun K hK => ?_) AllReadyH.nil
    go_simp
    refine (HL18.out _ hHeld).mono ?_
    rintro e wA ⟨rfl, hA⟩
    have HAA := hidMk hA
    clear hA
    (try go_wp2_with fail)
    refine hK.out _ _ ?_ (fun hHeld => ?_)
    · exact HAA.out
    clear hK K
    (try simp only [Act.put, List.setIfInBounds_toArray, List.set_cons_zero, List.set_cons_succ])
    refine wpAnyH_take (i := 19) (oi := { dst := some 70, op := _, type := _, pos := _, after := _, guard := _ }) (v := ?_) rfl (by kernel_rfl) (by kernel_rfl) (by kernel_rfl) (fun _ _ _ h => h) (Or.inl ⟨by rfl, ?_⟩) (by assumption) ?_
    rotate_left
    · (intro w9 hSw; clear hSw; go_simp; (try with_reducible rfl))
    (try simp only [Act.put, List.setIfInBounds_toArray, List.set_cons_zero, List.set_cons_succ])
    refine wpAnyH_take (i := 20) (oi := { dst := some 71, op := _, type := _, pos := _, after := _, guard := _ }) (v := ?_) rfl (by kernel_rfl) (by kernel_rfl) (by kernel_rfl) (fun _ _ _ h => h) (Or.inl ⟨by rfl, ?_⟩) (by assumption) ?_
    rotate_left
    · (intro w9 hSw; clear hSw; go_simp; (try with_reducible rfl))
    (try simp only [Act.put, List.setIfInBounds_toArray, List.set_cons_zero, List.set_cons_succ])
    refine wpAnyH_take (i := 21) (oi := { dst := some 72, op := _, type := _, pos := _, after := _, guard := _ }) (v := ?_) rfl (by kernel_rfl) (by kernel_rfl) (by kernel_rfl) (fun _ _ _ h => h) (Or.inl ⟨by rfl, ?_⟩) (by assumption) ?_
    rotate_left
    · (intro w9 hSw; clear hSw; go_simp; (try with_reducible rfl))
    (try simp only [Act.put, List.setIfInBounds_toArray, List.set_cons_zero, List.set_cons_succ])
    refine wpAnyH_take (i := 22) (oi := { dst := some 73, op := _, type := _, pos := _, after := _, guard := _ }) (v := ?_) rfl (by kernel_rfl) (by kernel_rfl) (by kernel_rfl) (fun _ _ _ h => h) (Or.inl ⟨by rfl, ?_⟩) (by assumption) ?_
    rotate_left
    · (intro w9 hSw; clear hSw; go_simp; (try with_reducible rfl))
    (try simp only [Act.put, List.setIfInBounds_toArray, List.set_cons_zero, List.set_cons_succ])
    refine wpAnyH_take (i := 23) (oi := { dst := some 74, op := _, type := _, pos := _, after := _, guard := _ }) (v := ?_) rfl (by kernel_rfl) (by kernel_rfl) (by kernel_rfl) (fun _ _ _ h => h) (Or.inl ⟨by rfl, ?_⟩) (by assumption) ?_
    rotate_left
    · (intro w9 hSw; obtain ⟨⟨⟨b0, b1, b2, b3, b4⟩, _⟩, _⟩ := HCL.out w9 hSw; clear hSw; go_simp; (try with_reducible rfl))
    (try simp only [Act.put, List.setIfInBounds_toArray, List.set_cons_zero, List.set_cons_succ])
    refine wpAnyH_take (i := 25) (oi := { dst := some 76, op := _, type := _, pos := _, after := _, guard := _ }) (v := ?_) rfl (by kernel_rfl) (by kernel_rfl) (by kernel_rfl) (fun _ _ _ h => h) (Or.inl ⟨by rfl, ?_⟩) (by assumption) ?_
    rotate_left
    · (intro w9 hSw; clear hSw; go_simp; (try with_reducible rfl))
    (try simp only [Act.put, List.setIfInBounds_toArray, List.set_cons_zero, List.set_cons_succ])
    refine wpAnyH_take (i := 26) (oi := { dst := some 77, op := _, type := _, pos := _, after := _, guard := _ }) (v := ?_) rfl (by kernel_rfl) (by kernel_rfl) (by kernel_rfl) (fun _ _ _ h => h) (Or.inl ⟨by rfl, ?_⟩) (by assumption) ?_
    rotate_left
    · (intro w9 hSw; obtain ⟨⟨⟨b0, b1, b2, b3, b4⟩, _⟩, _⟩ := HCL.out w9 hSw; clear hSw; go_simp; (try with_reducible rfl))
    (try simp only [Act.put, List.setIfInBounds_toArray, List.set_cons_zero, List.set_cons_succ])
    refine wpAnyH_ready (rs := [24]) (by kernel_rfl) (by simp) ?_
    refine AllReadyH.cons (o := { dst := some 75, op := _, type := _, pos := _, after := _, guard := _ }) rfl (fun K hK => ?_) AllReadyH.nil
    go_simp
    refine (HL24.out _ hHeld).mono ?_
    rintro e wA ⟨rfl, hA⟩
    have HAA := hidMk hA
    clear hA
    (try go_wp2_with fail)
    refine hK.out _ _ ?_ (fun hHeld => ?_)
    · exact HAA.out
    clear hK K
    (try simp only [Act.put, List.setIfInBounds_toArray, List.set_cons_zero, List.set_cons_succ])
    refine wpAnyH_ready (rs := [27]) (by kernel_rfl) (by simp) ?_
    refine AllReadyH.cons (o := { dst := some 78, op := _, type := _, pos := _, after := _, guard := _ }) rfl (fun K hK => ?_) AllReadyH.nil
    go_simp
    refine (HL27.out _ hHeld).mono ?_
    rintro e wA ⟨rfl, hA⟩
    have HAA := hidMk hA
    clear hA
    (try go_wp2_with fail)
    refine hK.out _ _ ?_ (fun hHeld => ?_)
    · exact HAA.out
    clear hK K
    (try simp only [Act.put, List.setIfInBounds_toArray, List.set_cons_zero, List.set_cons_succ])
    refine wpAnyH_take (i := 28) (oi := { dst := some 79, op := _, type := _, pos := _, after := _, guard := _ }) (v := ?_) rfl (by kernel_rfl) (by kernel_rfl) (by kernel_rfl) (fun _ _ _ h => h) (Or.inl ⟨by rfl, ?_⟩) (by assumption) ?_
    rotate_left
    · (intro w9 hSw; clear hSw; go_simp; (try with_reducible rfl))
    (try simp only [Act.put, List.setIfInBounds_toArray, List.set_cons_zero, List.set_cons_succ])
    refine wpAnyH_take (i := 29) (oi := { dst := some 80, op := _, type := _, pos := _, after := _, guard := _ }) (v := ?_) rfl (by kernel_rfl) (by kernel_rfl) (by kernel_rfl) (fun _ _ _ h => h) (Or.inl ⟨by rfl, ?_⟩) (by assumption) ?_
    rotate_left
    · (intro w9 hSw; clear hSw; go_simp; (try with_reducible rfl))
    (try simp only [Act.put, List.setIfInBounds_toArray, List.set_cons_zero, List.set_cons_succ])
    refine wpAnyH_take (i := 30) (oi := { dst := some 81, op := _, type := _, pos := _, after := _, guard := _ }) (v := ?_) rfl (by kernel_rfl) (by kernel_rfl) (by kernel_rfl) (fun _ _ _ h => h) (Or.inl ⟨by rfl, ?_⟩) (by assumption) ?_
    rotate_left
    · (intro w9 hSw; clear hSw; go_simp; (try with_reducible rfl))
    (try simp only [Act.put, List.setIfInBounds_toArray, List.set_cons_zero, List.set_cons_succ])
    refine wpAnyH_take (i := 31) (oi := { dst := some 82, op := _, type := _, pos := _, after := _, guard := _ }) (v := ?_) rfl (by kernel_rfl) (by kernel_rfl) (by kernel_rfl) (fun _ _ _ h => h) (Or.inl ⟨by rfl, ?_⟩) (by assumption) ?_
    rotate_left
    · (intro w9 hSw; obtain ⟨⟨_, ⟨b0, b1, b2, b3, b4⟩⟩, _⟩ := HCL.out w9 hSw; clear hSw; go_simp; (try with_reducible rfl))
    (try simp only [Act.put, List.setIfInBounds_toArray, List.set_cons_zero, List.set_cons_succ])
    refine wpAnyH_take (i := 32) (oi := { dst := some 83, op := _, type := _, pos := _, after := _, guard := _ }) (v := ?_) rfl (by kernel_rfl) (by kernel_rfl) (by kernel_rfl) (fun _ _ _ h => h) (Or.inl ⟨by rfl, ?_⟩) (by assumption) ?_
    rotate_left
    · (intro w9 hSw; obtain ⟨_, ⟨b0, b1, b2, b3, b4⟩, _⟩ := HCL.out w9 hSw; clear hSw; go_simp; (try with_reducible rfl))
    (try simp only [Act.put, List.setIfInBounds_toArray, List.set_cons_zero, List.set_cons_succ])
    refine wpAnyH_take (i := 33) (oi := { dst := some 84, op := _, type := _, pos := _, after := _, guard := _ }) (v := ?_) rfl (by kernel_rfl) (by kernel_rfl) (by kernel_rfl) (fun _ _ _ h => h) (Or.inl ⟨by rfl, ?_⟩) (by assumption) ?_
    rotate_left
    · (intro w9 hSw; clear hSw; go_simp; (try with_reducible rfl))
    (try simp only [Act.put, List.setIfInBounds_toArray, List.set_cons_zero, List.set_cons_succ])
    refine wpAnyH_take (i := 34) (oi := { dst := some 85, op := _, type := _, pos := _, after := _, guard := _ }) (v := ?_) rfl (by kernel_rfl) (by kernel_rfl) (by kernel_rfl) (fun _ _ _ h => h) (Or.inl ⟨by rfl, ?_⟩) (by assumption) ?_
    rotate_left
    · (intro w9 hSw; clear hSw; go_simp; (try with_reducible rfl))
    (try simp only [Act.put, List.setIfInBounds_toArray, List.set_cons_zero, List.set_cons_succ])
    refine wpAnyH_take (i := 35) (oi := { dst := some 86, op := _, type := _, pos := _, after := _, guard := _ }) (v := ?_) rfl (by kernel_rfl) (by kernel_rfl) (by kernel_rfl) (fun _ _ _ h => h) (Or.inl ⟨by rfl, ?_⟩) (by assumption) ?_
    rotate_left
    · (intro w9 hSw; clear hSw; go_simp; (try with_reducible rfl))
    (try simp only [Act.put, List.setIfInBounds_toArray, List.set_cons_zero, List.set_cons_succ])
    refine wpAnyH_take (i := 36) (oi := { dst := some 87, op := _, type := _, pos := _, after := _, guard := _ }) (v := ?_) rfl (by kernel_rfl) (by kernel_rfl) (by kernel_rfl) (fun _ _ _ h => h) (Or.inl ⟨by rfl, ?_⟩) (by assumption) ?_
    rotate_left
    · (intro w9 hSw; clear hSw; go_simp; (try with_reducible rfl))
    (try simp only [Act.put, List.setIfInBounds_toArray, List.set_cons_zero, List.set_cons_succ])
    refine wpAnyH_take (i := 37) (oi := { dst := some 88, op := _, type := _, pos := _, after := _, guard := _ }) (v := ?_) rfl (by kernel_rfl) (by kernel_rfl) (by kernel_rfl) (fun _ _ _ h => h) (Or.inl ⟨by rfl, ?_⟩) (by assumption) ?_
    rotate_left
    · (intro w9 hSw; clear hSw; go_simp; (try with_reducible rfl))
    (try simp only [Act.put, List.setIfInBounds_toArray, List.set_cons_zero, List.set_cons_succ])
    refine wpAnyH_take (i := 38) (oi := { dst := some 89, op := _, type := _, pos := _, after := _, guard := _ }) (v := ?_) rfl (by kernel_rfl) (by kernel_rfl) (by kernel_rfl) (fun _ _ _ h => h) (Or.inl ⟨by rfl, ?_⟩) (by assumption) ?_
    rotate_left
    · (intro w9 hSw; clear hSw; go_simp; (try with_reducible rfl))
    (try simp only [Act.put, List.setIfInBounds_toArray, List.set_cons_zero, List.set_cons_succ])
    refine wpAnyH_take (i := 39) (oi := { dst := some 90, op := _, type := _, pos := _, after := _, guard := _ }) (v := ?_) rfl (by kernel_rfl) (by kernel_rfl) (by kernel_rfl) (fun _ _ _ h => h) (Or.inl ⟨by rfl, ?_⟩) (by assumption) ?_
    rotate_left
    · (intro w9 hSw; clear hSw; go_simp; (try with_reducible rfl))
    (try simp only [Act.put, List.setIfInBounds_toArray, List.set_cons_zero, List.set_cons_succ])
    refine wpAnyH_take (i := 40) (oi := { dst := some 91, op := _, type := _, pos := _, after := _, guard := _ }) (v := ?_) rfl (by kernel_rfl) (by kernel_rfl) (by kernel_rfl) (fun _ _ _ h => h) (Or.inl ⟨by rfl, ?_⟩) (by assumption) ?_
    rotate_left
    · (intro w9 hSw; clear hSw; go_simp; (try with_reducible rfl))
    (try simp only [Act.put, List.setIfInBounds_toArray, List.set_cons_zero, List.set_cons_succ])
    refine wpAnyH_take (i := 41) (oi := { dst := some 92, op := _, type := _, pos := _, after := _, guard := _ }) (v := ?_) rfl (by kernel_rfl) (by kernel_rfl) (by kernel_rfl) (fun _ _ _ h => h) (Or.inl ⟨by rfl, ?_⟩) (by assumption) ?_
    rotate_left
    · (intro w9 hSw; obtain ⟨_, _, ⟨b0, b1, b2, b3, b4⟩, _⟩ := HCL.out w9 hSw; clear hSw; go_simp; (try with_reducible rfl))
    (try simp only [Act.put, List.setIfInBounds_toArray, List.set_cons_zero, List.set_cons_succ])
    refine wpAnyH_take (i := 42) (oi := { dst := some 93, op := _, type := _, pos := _, after := _, guard := _ }) (v := ?_) rfl (by kernel_rfl) (by kernel_rfl) (by kernel_rfl) (fun _ _ _ h => h) (Or.inl ⟨by rfl, ?_⟩) (by assumption) ?_
    rotate_left
    · (intro w9 hSw; obtain ⟨_, _, _, ⟨b0, b1, b2, b3, b4⟩⟩ := HCL.out w9 hSw; clear hSw; go_simp; (try with_reducible rfl))
    (try simp only [Act.put, List.setIfInBounds_toArray, List.set_cons_zero, List.set_cons_succ])
    refine wpAnyH_take (i := 43) (oi := { dst := some 94, op := _, type := _, pos := _, after := _, guard := _ }) (v := ?_) rfl (by kernel_rfl) (by kernel_rfl) (by kernel_rfl) (fun _ _ _ h => h) (Or.inl ⟨by rfl, ?_⟩) (by assumption) ?_
    rotate_left
    · (intro w9 hSw; clear hSw; go_simp; (try with_reducible rfl))
    (try simp only [Act.put, List.setIfInBounds_toArray, List.set_cons_zero, List.set_cons_succ])
    refine wpAnyH_take (i := 44) (oi := { dst := some 95, op := _, type := _, pos := _, after := _, guard := _ }) (v := ?_) rfl (by kernel_rfl) (by kernel_rfl) (by kernel_rfl) (fun _ _ _ h => h) (Or.inl ⟨by rfl, ?_⟩) (by assumption) ?_
    rotate_left
    · (intro w9 hSw; clear hSw; go_simp; (try with_reducible rfl))
    (try simp only [Act.put, List.setIfInBounds_toArray, List.set_cons_zero, List.set_cons_succ])
    refine wpAnyH_take (i := 45) (oi := { dst := some 96, op := _, type := _, pos := _, after := _, guard := _ }) (v := ?_) rfl (by kernel_rfl) (by kernel_rfl) (by kernel_rfl) (fun _ _ _ h => h) (Or.inl ⟨by rfl, ?_⟩) (by assumption) ?_
    rotate_left
    · (intro w9 hSw; clear hSw; go_simp; (try with_reducible rfl))
    (try simp only [Act.put, List.setIfInBounds_toArray, List.set_cons_zero, List.set_cons_succ])
    refine wpAnyH_take (i := 46) (oi := { dst := some 97, op := _, type := _, pos := _, after := _, guard := _ }) (v := ?_) rfl (by kernel_rfl) (by kernel_rfl) (by kernel_rfl) (fun _ _ _ h => h) (Or.inl ⟨by rfl, ?_⟩) (by assumption) ?_
    rotate_left
    · (intro w9 hSw; clear hSw; go_simp; (try with_reducible rfl))
    (try simp only [Act.put, List.setIfInBounds_toArray, List.set_cons_zero, List.set_cons_succ])
    refine wpAnyH_take (i := 47) (oi := { dst := some 98, op := _, type := _, pos := _, after := _, guard := _ }) (v := ?_) rfl (by kernel_rfl) (by kernel_rfl) (by kernel_rfl) (fun _ _ _ h => h) (Or.inl ⟨by rfl, ?_⟩) (by assumption) ?_
    rotate_left
    · (intro w9 hSw; clear hSw; go_simp; (try with_reducible rfl))
    (try simp only [Act.put, List.setIfInBounds_toArray, List.set_cons_zero, List.set_cons_succ])
    refine wpAnyH_take (i := 48) (oi := { dst := some 99, op := _, type := _, pos := _, after := _, guard := _ }) (v := ?_) rfl (by kernel_rfl) (by kernel_rfl) (by kernel_rfl) (fun _ _ _ h => h) (Or.inl ⟨by rfl, ?_⟩) (by assumption) ?_
    rotate_left
    · (intro w9 hSw; clear hSw; go_simp; (try with_reducible rfl))
    (try simp only [Act.put, List.setIfInBounds_toArray, List.set_cons_zero, List.set_cons_succ])
    refine wpAnyH_take (i := 49) (oi := { dst := some 100, op := _, type := _, pos := _, after := _, guard := _ }) (v := ?_) rfl (by kernel_rfl) (by kernel_rfl) (by kernel_rfl) (fun _ _ _ h => h) (Or.inl ⟨by rfl, ?_⟩) (by assumption) ?_
    rotate_left
    · (intro w9 hSw; clear hSw; go_simp; (try with_reducible rfl))
    (try simp only [Act.put, List.setIfInBounds_toArray, List.set_cons_zero, List.set_cons_succ])
    refine wpAnyH_done (by kernel_rfl) ?_ _
    have HR9 := hidMk hHeld
    clear hHeld HR5 HL1 HL3 HL7 HL9 HL15 HL18 HL24 HL27 qx qz
    obtain ⟨_, ⟨b0, b1, b2, b3, b4⟩, _, _⟩ := HCL.out _ HR9.out
    cases xa with
    | false =>
      cases za with
      | false =>
        go_wp2_with fail
        refine (law7_known _).mono ?_
        rintro e wk ⟨rfl, kk⟩
        have HKK := hidMk kk
        clear kk
        go_wp2_with fail
        go_ret
        exact ⟨rfl, HK1.out.trans (HKW.out.trans ((rr_kp HR9.out).trans HKK.out))⟩
      | true =>
        have hzc := HZC.out rfl
        subst hzc
        obtain ⟨_, _, _, ⟨f0, f1, f2, f3, f4⟩⟩ := HCL.out _ HR9.out
        go_wp2_with fail
        refine (HBI.out _ HR9.out).mono ?_
        rintro e wi ⟨rfl, hi⟩
        have HRI := hidMk hi
        clear hi b0 b1 b2 b3 b4 f0 f1 f2 f3 f4
        go_wp2_with fail
        refine (law7_known _).mono ?_
        rintro e wk ⟨rfl, kk⟩
        have HKK := hidMk kk
        clear kk
        go_wp2_with fail
        go_ret
        exact ⟨rfl, HK1.out.trans (HKW.out.trans ((rr_kp HRI.out).trans HKK.out))⟩
    | true =>
      have hxc := HXC.out rfl
      subst hxc
      go_wp2_with fail
      refine (HBC.out _ HR9.out).mono ?_
      rintro e wc ⟨rfl, hc⟩
      have HRC := hidMk hc
      clear hc b0 b1 b2 b3 b4
      cases za with
      | false =>
        go_wp2_with fail
        refine (law7_known _).mono ?_
        rintro e wk ⟨rfl, kk⟩
        have HKK := hidMk kk
        clear kk
        go_wp2_with fail
        go_ret
        exact ⟨rfl, HK1.out.trans (HKW.out.trans ((rr_kp HRC.out).trans HKK.out))⟩
      | true =>
        have hzc := HZC.out rfl
        obtain ⟨_, _, _, ⟨f0, f1, f2, f3, f4⟩⟩ := HCL.out _ HRC.out
        go_wp2_with fail
        refine (HBI.out _ HRC.out).mono ?_
        rintro e wi ⟨rfl, hi⟩
        have HRI := hidMk hi
        clear hi f0 f1 f2 f3 f4
        rw [hzc]
        go_wp2_with fail
        refine (law7_known _).mono ?_
        rintro e wk ⟨rfl, kk⟩
        have HKK := hidMk kk
        clear kk
        go_wp2_with fail
        go_ret
        exact ⟨rfl, HK1.out.trans (HKW.out.trans ((rr_kp HRI.out).trans HKK.out))⟩
  · have HK2 := hidMk hk
    clear hk HOP
    go_wp2_with fail
    refine (law7_known _).mono ?_
    rintro e w3 ⟨rfl, k3⟩
    have HK4 := hidMk k3
    clear k3
    go_wp2_with fail
    go_ret
    exact ⟨rfl, HK1.out.trans (HK2.out.trans HK4.out)⟩
end Go.Proofs.YtmmdfpafkmhgcaaGreat
