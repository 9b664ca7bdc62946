/- moietylaw13.known. -/
import Derived.Test.YtpkepkemjcjplaaGreatLaw13B
namespace Go.Proofs.YtpkepkemjcjplaaGreat
open Go.RowKit Go.Maps
set_option linter.unusedSimpArgs false
set_option linter.unusedVariables false

theorem agg_z13 : clV z13 = .agg #[.int .i64 0, .int .i64 0, .int .i64 0, .int .i64 0, .int .i64 0] := rfl
theorem agg_a13 : clV a13 = .agg #[.int .i64 0, .int .i64 1, .int .i64 0, .int .i64 0, .int .i64 0] := rfl
set_option maxHeartbeats 8000000 in
set_option maxRecDepth 100000 in
theorem law13_known (w : World) : Calls Tryz.prog 8 #[] w fun e w' => e = .returned (.bool true) ∧ Kept w w' := by
  have HSM := hidMk (law13_small w)
  have HOP := hidMk (fun (W : World) g q b (h1 : W.cell? ⟨g, 0, none⟩ = some (.string ⟨#[120]⟩)) (h2 : W.cell? ⟨g, 1, none⟩ = some (.slice (some ⟨q, 0, none⟩) 3 3)) (hn : Ns W (some ⟨q, 0, none⟩) 3 k6) (h3 : W.cell? ⟨b, 0, none⟩ = some (.string ⟨#[109]⟩)) => law13_open (some ⟨g, 0, none⟩) 1 1 ds7 _ (some ⟨b, 0, none⟩) 1 1 ms7 9 3 W (k7_dss h1 h2 hn) (one_ss h3) k7_sz)
  go_enter Tryz.func8, Tryz.ntmps8
  go_wp2_with fail
  refine HSM.out.mono ?_
  rintro e w1 ⟨g, q, b, rfl, x1, x2, x3, x4, k1⟩
  have H2 := hidMk (HOP.out w1 g q b x1 x2 x3 x4)
  have HK1 := hidMk k1
  clear x1 x2 x3 x4 k1 HOP
  go_wp2_with fail
  refine H2.out.mono ?_
  rintro e w2 (⟨W0, s, p, tp, rv, q, rt, rfl, _, _, hsw, _, hk, hw1⟩ | ⟨v1, v2, rfl, hno, _⟩)
  rotate_left
  · exact absurd ⟨k13_sm, k13_cat⟩ hno
  have k02 : Kept W0 w2 := by rw [hw1]; exact (Kept.refl _).alloc _
  have HK2 := hidMk (HK1.out.trans (hk.trans k02))
  have HSW := hidMk (hsw.keep k02)
  generalize W0.heap.size = rb at *
  clear hw1 hk k02 hsw H2 HSM HK1
  obtain ⟨WA, hWA⟩ : ∃ V, V = (w2.alloc (.cells #[.slice none 0 0] 37)).alloc (.cells #[.int .i64 0, .int .i64 1, .int .i64 0, .int .i64 0, .int .i64 0] 29) := ⟨_, rfl⟩
  have kA : Kept w2 WA := by rw [hWA]; exact ((Kept.refl _).alloc _).alloc _
  have HKA := hidMk kA
  obtain ⟨hb, hhb⟩ : ∃ x, x = w2.heap.size := ⟨_, rfl⟩
  have HX := hidMk (show WA.cell? ⟨hb, 0, none⟩ = some (.slice none 0 0) ∧ WA.cell? ⟨hb + 1, 0, none⟩ = some (.int .i64 0) ∧ WA.cell? ⟨hb + 1, 1, none⟩ = some (.int .i64 1) ∧ WA.cell? ⟨hb + 1, 2, none⟩ = some (.int .i64 0) ∧ WA.cell? ⟨hb + 1, 3, none⟩ = some (.int .i64 0) ∧ WA.cell? ⟨hb + 1, 4, none⟩ = some (.int .i64 0) from by
    rw [hWA, hhb]
    exact ⟨((Kept.refl _).alloc _).cellp (new_cell _ _ _ _ 0 _ rfl rfl), new_cell _ _ _ _ 0 _ (by simp) rfl, new_cell _ _ _ _ 1 _ (by simp) rfl, new_cell _ _ _ _ 2 _ (by simp) rfl, new_cell _ _ _ _ 3 _ (by simp) rfl, new_cell _ _ _ _ 4 _ (by simp) rfl⟩)
  have HAD := hidMk (show ∀ X, Kept WA X → Calls Tryz.prog 11 #[.agg #[.slice none 0 0], .pointer (some ⟨s, 0, none⟩), .agg #[.int .i64 0, .int .i64 0, .int .i64 0, .int .i64 0, .int .i64 0]] X fun e w' => (∃ a' c', e = .returned (.tuple #[.agg #[.slice a' 1 c'], .int .i64 0]) ∧ Hd w' ms7 ds7 a' c' [z13]) ∧ Kept X w' from fun X kX => by
    refine (hd_Add (HSW.out.keep (kA.trans kX)) (hd_nil X ms7 ds7) z13).mono ?_
    rintro e w' ⟨a', c', l', rfl, hd, hm, hl, k, -⟩
    have e0 : addE ms7 ds7 [] z13 = 0 := by unfold addE; rw [z13_ix]; rfl
    have hl1 : l' = [z13] := by
      have h1 := hl e0
      have h2 := (hm z13).2 ⟨e0, .inl rfl⟩
      match l', h1, h2 with
      | [y], _, h2 => simp at h2; rw [h2]
    subst hl1
    rw [e0]
    exact ⟨⟨a', c', rfl, hd⟩, k⟩)
  have HDR := hidMk (show ∀ X, Kept WA X → Calls Tryz.prog 9 #[.agg #[.slice none 0 0], .pointer (some ⟨s, 0, none⟩), .agg #[.int .i64 0, .int .i64 1, .int .i64 0, .int .i64 0, .int .i64 0]] X fun e w' => (∃ a' n' c', e = .returned (.tuple #[.agg #[.slice a' n' c'], .int .i64 10])) ∧ Kept X w' from fun X kX => by
    refine (hd_Drop (HSW.out.keep (kA.trans kX)) (hd_nil X ms7 ds7) a13).mono ?_
    rintro e w' ⟨a', c', l', rfl, hd, hm, k, -⟩
    have e0 : dropE ms7 ds7 [] a13 = 10 := by unfold dropE; rw [a13_ix]; rfl
    rw [e0]
    exact ⟨⟨a', _, c', rfl⟩, k⟩)
  have HHS := hidMk (show ∀ X a c, Hd X ms7 ds7 a c [z13] → ∀ x, Calls Tryz.prog 15 #[.agg #[.slice a 1 c], clV x] X fun e w' => e = .returned (.bool (decide (x ∈ [z13]))) ∧ Kept X w' from fun X a c h x => hold_Has a c [z13] x X h.cq (by simp))
  have HWI := hidMk (show ∀ X a c, Kept WA X → Hd X ms7 ds7 a c [z13] → Calls Tryz.prog 17 #[.agg #[.slice a 1 c], .pointer (some ⟨s, 0, none⟩), .agg #[.int .i64 0, .int .i64 1, .int .i64 0, .int .i64 0, .int .i64 0]] X fun e w' => e = .returned (.bool true) ∧ Kept X w' from fun X a c kX h => by
    refine (hold_Within (HSW.out.keep (kA.trans kX)) a c [z13] a13 h.cq (by simp)).mono ?_
    rintro e w' ⟨rfl, k⟩
    exact ⟨by simp [a13_in], k⟩)
  have HLS := hidMk (show ∀ X, Calls Tryz.prog 14 #[.agg #[.slice none 0 0]] X fun e w' => (∃ a c, e = .returned (.slice a 0 c)) ∧ Kept X w' from fun X => by
    refine (hold_List none 0 [] X ⟨fun hp => absurd hp (by simp)⟩ (fun _ => ⟨rfl, rfl⟩) (by simp)).mono ?_
    rintro e w' ⟨v, rfl, ho, k⟩
    obtain ⟨a, c, rfl, _⟩ := ho.form
    exact ⟨⟨a, c, rfl⟩, k⟩)
  have HRG := hidMk (show ∀ X a c, Kept WA X → Hd X ms7 ds7 a c [z13] → Calls Tryz.prog 20 #[.agg #[.slice a 1 c], .pointer (some ⟨s, 0, none⟩)] X (SetPost X (regP ms7 ds7 [z13]) 40000) from fun X a c kX h => hold_Region (HSW.out.keep (kA.trans kX)) a c [z13] h.cq (by simp) (und_few HSW.out.ct k13_sm))
  clear kA
  go_wp2_with fail
  rw [← hWA, ← hhb]
  clear hWA hhb
  refine (HAD.out WA (Kept.refl _)).mono ?_
  rintro e w3 ⟨⟨ka, kc, rfl, hd3⟩, k3⟩
  have HD3 := hidMk hd3
  have HK3 := hidMk k3
  obtain ⟨x0, x1, x2, x3, x4, x5⟩ := HX.out
  have y0 := k3.cellp x0
  have y1 := k3.cellp x1
  have y2 := k3.cellp x2
  have y3 := k3.cellp x3
  have y4 := k3.cellp x4
  have y5 := k3.cellp x5
  have z0 : hb < w3.heap.size := cell_lt y0
  have z1 : hb + 1 < w3.heap.size := cell_lt y1
  clear hd3 k3 x0 x1 x2 x3 x4 x5
  obtain ⟨kb, hkb⟩ : ∃ x, x = w3.heap.size := ⟨_, rfl⟩
  have HKB := hidMk (show ∀ X, Kept (w3.alloc (.cells #[.slice ka 1 kc] 37)) X → X.cell? ⟨kb, 0, none⟩ = some (.slice ka 1 kc) ∧ kb < X.heap.size from fun X kX => by
    have h := kX.cellp (new_cell w3 _ 37 _ 0 _ hkb (by rfl))
    exact ⟨h, cell_lt h⟩)
  go_wp2_with fail
  refine (HDR.out _ (HK3.out.alloc _)).mono ?_
  rintro e w4 ⟨⟨da, dn, dc, rfl⟩, k4⟩
  have HK4 := hidMk ((HK3.out.alloc _).trans k4)
  have HD4 := hidMk ((HD3.out.kept ((Kept.refl _).alloc _)).kept k4)
  obtain ⟨u0, u1⟩ := HKB.out _ k4
  have q0 := k4.cellp (((Kept.refl w3).alloc _).cellp y0)
  have q1 := k4.cellp (((Kept.refl w3).alloc _).cellp y1)
  have q2 := k4.cellp (((Kept.refl w3).alloc _).cellp y2)
  have q3 := k4.cellp (((Kept.refl w3).alloc _).cellp y3)
  have q4 := k4.cellp (((Kept.refl w3).alloc _).cellp y4)
  have q5 := k4.cellp (((Kept.refl w3).alloc _).cellp y5)
  have z0' : hb < w4.heap.size := cell_lt q0
  have z1' : hb + 1 < w4.heap.size := cell_lt q1
  clear k4 y0 y1 y2 y3 y4 y5 z0 z1
  rw [← hkb]
  clear hkb
  obtain ⟨WB, hWB⟩ : ∃ V, V = w4.alloc (.cells #[.slice da dn dc] 37) := ⟨_, rfl⟩
  have kB : Kept w4 WB := by rw [hWB]; exact (Kept.refl _).alloc _
  have HKW := hidMk (HK4.out.trans kB)
  have HDB := hidMk (HD4.out.kept kB)
  have HQ := hidMk (show ∀ X, Kept WB X → X.cell? ⟨kb, 0, none⟩ = some (.slice ka 1 kc) ∧ X.cell? ⟨hb, 0, none⟩ = some (.slice none 0 0) ∧ X.cell? ⟨hb + 1, 0, none⟩ = some (.int .i64 0) ∧ X.cell? ⟨hb + 1, 1, none⟩ = some (.int .i64 1) ∧ X.cell? ⟨hb + 1, 2, none⟩ = some (.int .i64 0) ∧ X.cell? ⟨hb + 1, 3, none⟩ = some (.int .i64 0) ∧ X.cell? ⟨hb + 1, 4, none⟩ = some (.int .i64 0) ∧ hb < X.heap.size ∧ hb + 1 < X.heap.size ∧ kb < X.heap.size from fun X kX => by
    have k := kB.trans kX
    have a0 := k.cellp q0
    have a1 := k.cellp q1
    have a2 := k.cellp u0
    exact ⟨a2, a0, a1, k.cellp q2, k.cellp q3, k.cellp q4, k.cellp q5, cell_lt a0, cell_lt a1, cell_lt a2⟩)
  clear kB
  go_wp2_with fail
  rw [← hWB]
  clear hWB q0 q1 q2 q3 q4 q5 u0 u1 z0' z1'
  refine (HHS.out _ ka kc HDB.out z13).mono ?_
  rintro e w5 ⟨rfl, k5⟩
  have HT5 := hidMk (k5)
  obtain ⟨t0, t1, t2, t3, t4, t5, t6, t7, t8, t9⟩ := HQ.out _ HT5.out
  clear k5
  go_wp2_with fail
  clear t0 t1 t2 t3 t4 t5 t6 t7 t8 t9
  refine (HHS.out _ ka kc (HDB.out.kept HT5.out) a13).mono ?_
  rintro e w6 ⟨rfl, k6⟩
  have HT6 := hidMk (HT5.out.trans k6)
  obtain ⟨t0, t1, t2, t3, t4, t5, t6, t7, t8, t9⟩ := HQ.out _ HT6.out
  clear k6
  go_wp2_with fail
  clear t0 t1 t2 t3 t4 t5 t6 t7 t8 t9
  refine (HWI.out _ ka kc (HKW.out.trans HT6.out) (HDB.out.kept HT6.out)).mono ?_
  rintro e w7 ⟨rfl, k7⟩
  have HT7 := hidMk (HT6.out.trans k7)
  obtain ⟨t0, t1, t2, t3, t4, t5, t6, t7, t8, t9⟩ := HQ.out _ HT7.out
  clear k7
  go_wp2_with fail
  clear t0 t1 t2 t3 t4 t5 t6 t7 t8 t9
  refine (HLS.out _).mono ?_
  rintro e w8 ⟨⟨a8, c8, rfl⟩, k8⟩
  have HT8 := hidMk (HT7.out.trans k8)
  obtain ⟨t0, t1, t2, t3, t4, t5, t6, t7, t8, t9⟩ := HQ.out _ HT8.out
  clear k8
  go_wp2_with fail
  clear t0 t1 t2 t3 t4 t5 t6 t7 t8 t9
  refine (HRG.out _ ka kc (HKW.out.trans HT8.out) (HDB.out.kept HT8.out)).mono ?_
  rintro e w9 ⟨v9, m9, rfl, hs9, hN9, hm9, hl9, k9, -⟩
  have hE : expd m9 = [0, 1] := by
    refine riseR_ext (expd_rise hN9) (by unfold RiseR; decide) (fun y => ?_)
    rw [mem_expd, hm9]
    unfold regP
    constructor
    · rintro ⟨k, hk, hy⟩
      have : k = 0 := by simpa using hk
      subst this
      rw [show clA [z13] 0 = z13 from rfl, z13_und] at hy
      exact hy
    · intro hy
      exact ⟨0, by simp, by rw [show clA [z13] 0 = z13 from rfl, z13_und]; exact hy⟩
  have HAL := hidMk (region_All v9 m9 w9 hs9 hN9 (by rw [hE]; decide) (by omega))
  rw [hE] at HAL
  have HT9 := hidMk (HT8.out.trans k9)
  clear hs9 hN9 hm9 hl9 k9 hE
  go_wp2_with fail
  refine HAL.out.mono ?_
  rintro e w10 ⟨a10, c10, rfl, s10, k10⟩
  have HT10 := hidMk (HT9.out.trans k10)
  have HIN := hidMk (fun t c => ref_Ints a10 (some ⟨w10.heap.size, 0, none⟩) 2 2 c10 c [0, 1] [0, 1] _ (s10.kept ((Kept.refl w10).alloc _)) (sl_new .i64 w10 [0, 1] t (by unfold maxLen; decide)))
  clear s10 k10 HAL
  go_wp2_with fail
  refine (HIN.out _ _).mono ?_
  rintro e w11 ⟨rfl, k11⟩
  have HT11 := hidMk ((HT10.out.alloc _).trans k11)
  clear k11
  go_wp2_with fail
  go_ret
  exact ⟨by simp, HK2.out.trans (HKA.out.trans (HKW.out.trans HT11.out))⟩
end Go.Proofs.YtpkepkemjcjplaaGreat
