/- moietylaw14: open, small. -/
import Derived.Test.YtmedgkccicbieaaGreatPLaw13K
import Derived.Test.YtmedgkccicbieaaGreatPLockHB
namespace Go.Proofs.YtmedgkccicbieaaGreat
open Go.RowKit Go.Maps
set_option linter.unusedSimpArgs false
set_option linter.unusedVariables false

set_option maxHeartbeats 8000000 in
set_option maxRecDepth 100000 in
theorem law14_open (a : Option Addr) (n c : Nat) (ds : List Dm) (na : Nat → Option Addr × Nat × Nat) (b : Option Addr) (m d : Nat) (ms : List ByteArray) (lv sc : Int) (w : World) (hs : Dss w a n ds na) (hm : Ss w b m ms) (hmz : ∀ i, i < ms.length → (msA ms i).size ≤ maxLen) :
    Calls Tryz.prog 25 #[.agg #[.slice a n c, .slice b m d, .int .i64 lv, .int .i64 sc]] w (OpenQ w ds ms lv sc) := by
  have hln := hs.len
  have hlm := hm.len
  subst hln
  subst hlm
  have hbm := hm.big
  have hbig := hs.big
  unfold maxLen at hbm hbig
  have HS := hidMk hs
  have HN1 := hidMk (show ∀ y, Kept w y → _ from fun y hy => dims_New a ds.length c ds na b ms.length d ms lv sc y (hs.kept hy) (hm.kept hy) hmz)
  have HN2 := hidMk (show ∀ y, Kept w y → _ from fun y hy => ref6_New a ds.length c ds na b ms.length d ms lv sc y (hs.kept hy) (hm.kept hy) hmz)
  have HCN := hidMk (fun (hc : CatOk ds ms) => catok_nodes hc hs rfl)
  have HNB := hidMk hs.nmb
  clear hs hm hmz
  go_enter Tryz.func25, Tryz.ntmps25
  go_wp2_with fail
  refine gen_world (f := fun W => Code.wp _ _ _ _ W) (fun W => Kept w W ∧ W.cell? ⟨w.heap.size, 0, none⟩ = some (.slice a ds.length c) ∧ W.cell? ⟨w.heap.size, 1, none⟩ = some (.slice b ms.length d) ∧ W.cell? ⟨w.heap.size, 2, none⟩ = some (.int .i64 lv) ∧ W.cell? ⟨w.heap.size, 3, none⟩ = some (.int .i64 sc)) ⟨(Kept.refl w).alloc _, by simp, by simp, by simp, by simp⟩ ?_
  rintro w1 ⟨kW, y0, y1, y2, y3⟩
  have HK1 := hidMk kW
  clear kW
  go_loopg [5, 6] ds.length (fun g pv x wr => ∃ (k : Nat) (P : Int), k + g = ds.length ∧ x = .int .i64 k ∧ pv = .int .i64 P ∧ wr = w1 ∧ Hid ((k ≤ 4 → P = prN ds k) ∧ ∀ j, j < k → (dmL ds j).length ≤ 12))
  case atStart => exact ⟨0, 1, by omega, rfl, rfl, rfl, hidMk ⟨fun _ => rfl, fun j hj => absurd hj (by omega)⟩⟩
  case round =>
    obtain ⟨k, P, hkg, rfl, rfl, rfl, HJ⟩ := hrel
    have HKG := hidMk hkg
    by_cases hkn : k < ds.length
    · obtain ⟨bb, oo, rfl, hb, hcs⟩ := HS.out.cells (by omega)
      have c1 := HK1.out.cellp (hcs k hkn).2
      have hl := (HS.out.nds k hkn).len
      have hl2 := (HS.out.nds k hkn).big
      unfold maxLen at hl2
      have hk1 : (k : Int) < ds.length := by omega
      have HYES := hidMk (show (dmL ds k).length ≤ 12 → (k + 1 ≤ 4 → wrap64 (P * ((dmL ds k).length : Int)) = prN ds (k + 1)) ∧ ∀ j, j < k + 1 → (dmL ds j).length ≤ 12 from fun e => by
        have hall : ∀ j, j < k + 1 → (dmL ds j).length ≤ 12 := fun j hj => by
          by_cases e' : j = k
          · subst e'; exact e
          · exact HJ.out.2 j (by omega)
        refine ⟨fun h4 => ?_, hall⟩
        rw [HJ.out.1 (by omega)]
        have := prN_small h4 hall
        exact wrap_id _ ⟨this.1, by have := this.2; unfold prN at this; omega⟩)
      have HNO := hidMk (show ¬ (dmL ds k).length ≤ 12 → ¬ Sm13 ds ms.length from fun e h => e (h.2.2.1 k (by omega)))
      rw [hl] at HYES HNO
      unfold slv at c1
      clear hcs hkg hl
      generalize na k = q at *
      obtain ⟨q1, q2, q3⟩ := q
      by_cases hq : q2 ≤ 12
      · have HY2 := hidMk (HYES.out hq)
        have hq' : ¬ ((12 : Int) < q2) := by omega
        simp only at c1 hl2
        go_wp2_with fail
        go_roundg (gk - 1)
        case measure => have := HKG.out; omega
        case rel => exact ⟨k + 1, _, by have := HKG.out; omega, by go_num, rfl, rfl, HY2⟩
      · have HN2 := hidMk (HNO.out hq)
        have hq' : (12 : Int) < q2 := by omega
        simp only at c1 hl2
        go_wp2_with fail
        go_ret3
        exact .inr ⟨_, _, rfl, fun e => HN2.out e.1, HK1.out⟩
    · have hk1 : ¬ ((k : Int) < ds.length) := by omega
      obtain rfl : k = ds.length := by omega
      by_cases hd4 : ds.length ≤ 4
      · by_cases hm4 : ms.length ≤ 4
        · by_cases hp : prN ds ds.length ≤ 150
          · have HYS := hidMk (show Sm13 ds ms.length from ⟨hd4, hm4, HJ.out.2, hp⟩)
            have hP := HJ.out.1 hd4
            subst hP
            have g1 : ¬ ((4 : Int) < ds.length) := by omega
            have g2 : ¬ ((4 : Int) < ms.length) := by omega
            have g3 : ¬ ((150 : Int) < prN ds ds.length) := by omega
            generalize prN ds ds.length = P at *
            go_wp2_with fail
            refine (HN1.out _ HK1.out).mono ?_
            rintro e w2 (⟨w0, p, tp, ma, mc, dv, rfl, hc, hD, hk⟩ | ⟨at_, er, rfl, her, hc, hk⟩)
            · have HC := hidMk hc
              have HD := hidMk hD
              have HK2 := hidMk (HK1.out.trans hk)
              have z0 := hk.cellp y0
              have z1 := hk.cellp y1
              have z2 := hk.cellp y2
              have z3 := hk.cellp y3
              clear hc hD hk y0 y1 y2 y3
              go_wp2_with fail
              refine (HN2.out _ HK2.out).mono ?_
              rintro e w3 (⟨q, rt, rfl, hc2, hR, hk3⟩ | ⟨at_, er, rfl, her, hc2, hk3⟩)
              · have HR := hidMk hR
                have HK3 := hidMk (HK2.out.trans hk3)
                have HD3 := hidMk (HD.out.kept hk3)
                have HOK := hidMk (cat_ok HC.out)
                have HNW := hidMk (coord_New HD3.out HOK.out.d4 (HCN.out HOK.out) HNB.out HOK.out.m4)
                clear hR hk3 hc2 z0 z1 z2 z3
                go_wp2_with fail
                refine HNW.out.mono ?_
                rintro e w4 ⟨s, rv, rfl, hsp, hsl, hk4⟩
                have HSW := hidMk (sw_made HOK.out (HD3.out.kept hk4) hsp)
                have HR4 := hidMk (HR.out.kept hk4)
                have HK4 := hidMk (HK3.out.trans hk4)
                clear hsp hsl hk4 HNW
                go_wp2_with fail
                go_ret3
                exact .inl ⟨w4, s, p, tp, rv, q, rt, rfl, HYS.out, HC.out, HSW.out, HR4.out, HK4.out, rfl⟩
              · exact absurd (cat_one HC.out hc2).2.symm her
            · have HC := hidMk hc
              have HE := hidMk her
              have HK2 := hidMk (HK1.out.trans hk)
              have z0 := hk.cellp y0
              have z1 := hk.cellp y1
              have z2 := hk.cellp y2
              have z3 := hk.cellp y3
              clear hc hk y0 y1 y2 y3
              go_wp2_with fail
              refine (HN2.out _ HK2.out).mono ?_
              rintro e w3 (⟨q, rt, rfl, hc2, hR, hk3⟩ | ⟨at2, er2, rfl, her2, hc2, hk3⟩)
              · exact absurd (cat_one HC.out hc2).2 HE.out
              · have HK3 := hidMk (HK2.out.trans hk3)
                clear hk3 hc2 z0 z1 z2 z3
                go_wp2_with fail
                refine (n_New _).mono ?_
                rintro e w4 ⟨rfl, hw4⟩
                rw [hw4]
                clear hw4 w4
                go_wp2_with fail
                go_ret3
                exact .inr ⟨_, _, rfl, fun h => HE.out (cat_one HC.out h.2).2, HK3.out.alloc _⟩
          · have hP := HJ.out.1 hd4
            subst hP
            have g1 : ¬ ((4 : Int) < ds.length) := by omega
            have g2 : ¬ ((4 : Int) < ms.length) := by omega
            have g3 : ((150 : Int) < prN ds ds.length) := by omega
            have HNS := hidMk (show ¬ Sm13 ds ms.length from fun e => hp e.2.2.2)
            clear hp
            generalize prN ds ds.length = P at *
            go_wp2_with fail
            go_ret3
            exact .inr ⟨_, _, rfl, fun e => HNS.out e.1, HK1.out⟩
        · have g1 : ¬ ((4 : Int) < ds.length) := by omega
          have g2 : ((4 : Int) < ms.length) := by omega
          have HNS := hidMk (show ¬ Sm13 ds ms.length from fun e => hm4 e.2.1)
          go_wp2_with fail
          go_ret3
          exact .inr ⟨_, _, rfl, fun e => HNS.out e.1, HK1.out⟩
      · have g1 : ((4 : Int) < ds.length) := by omega
        have HNS := hidMk (show ¬ Sm13 ds ms.length from fun e => hd4 e.1)
        go_wp2_with fail
        go_ret3
        exact .inr ⟨_, _, rfl, fun e => HNS.out e.1, HK1.out⟩
set_option maxHeartbeats 2000000 in
theorem law14_small (w : World) : Calls Tryz.prog 67 #[] w (SmlP w) := by
  go_enter Tryz.func67, Tryz.ntmps67
  go_wp2_with fail
  refine bodyPost_ret (results_cell1 rfl _ _ w.heap.size _ rfl (cat_load4 (v0 := .slice (some ⟨w.heap.size + 1 + 1, 0, none⟩) 1 1) (v1 := .slice (some ⟨w.heap.size + 1 + 1 + 1, 0, none⟩) 1 1) (v2 := .int .i64 9) (v3 := .int .i64 3) ?c0 ?c1 ?c2 ?c3)) rfl ⟨w.heap.size + 1 + 1, w.heap.size + 1, w.heap.size + 1 + 1 + 1, rfl, ?c4, ?c5, ?c6, ?c7, ((((Kept.refl w).alloc _).alloc _).alloc _).alloc _⟩
  case c0 => exact ((((Kept.refl _).alloc _).alloc _).alloc _).cellp (new_cell _ _ _ _ 0 _ rfl rfl)
  case c1 => exact ((((Kept.refl _).alloc _).alloc _).alloc _).cellp (new_cell _ _ _ _ 1 _ rfl rfl)
  case c2 => exact ((((Kept.refl _).alloc _).alloc _).alloc _).cellp (new_cell _ _ _ _ 2 _ rfl rfl)
  case c3 => exact ((((Kept.refl _).alloc _).alloc _).alloc _).cellp (new_cell _ _ _ _ 3 _ rfl rfl)
  case c4 => exact ((Kept.refl _).alloc _).cellp (new_cell _ _ _ _ 0 _ (by simp) rfl)
  case c5 => exact ((Kept.refl _).alloc _).cellp (new_cell _ _ _ _ 1 _ (by simp) rfl)
  case c6 =>
    have := k6_ns (w.alloc (.cells #[.slice (some ⟨w.heap.size + 1 + 1, 0, none⟩) 1 1, .slice (some ⟨w.heap.size + 1 + 1 + 1, 0, none⟩) 1 1, .int .i64 9, .int .i64 3] 25)) 167
    rw [show (w.alloc (.cells #[.slice (some ⟨w.heap.size + 1 + 1, 0, none⟩) 1 1, .slice (some ⟨w.heap.size + 1 + 1 + 1, 0, none⟩) 1 1, .int .i64 9, .int .i64 3] 25)).heap.size = w.heap.size + 1 by simp] at this
    exact this.kept (((Kept.refl _).alloc _).alloc _)
  case c7 => exact new_cell _ _ _ _ 0 _ (by simp) rfl
def ann : ByteArray := ⟨#[97, 110, 110]⟩
def bob : ByteArray := ⟨#[98, 111, 98]⟩
def k14 : List Pk := [(a13, ann, 1)]
def m14 : List Pk := [(z13, ann, 0), (a13, ann, 1)]
theorem k14_1 : laddE ms7 ds7 (([] : List Pk).map lkOf) a13 ann = 0 := by decide +kernel
theorem k14_2 : laddE ms7 ds7 (k14.map lkOf) z13 bob = 12 := by decide +kernel
theorem k14_3 : laddE ms7 ds7 (k14.map lkOf) z13 ann = 0 := by decide +kernel
theorem k14_4 : ownI ms7 ds7 1 (m14.map lkOf) = ann := by decide +kernel
theorem k14_5 : ownI ms7 ds7 1 (k14.map lkOf) = ByteArray.empty := by decide +kernel
theorem a13_self : wiC ms7 ds7 a13 a13 = true := by
  refine wi_iff.2 ⟨by decide +kernel, by decide +kernel, rfl, fun j hj => ?_⟩
  have : j = 0 := by have : ds7.length = 1 := rfl; omega
  subst this
  decide +kernel
theorem ann_bob : ann ≠ bob := by decide +kernel
theorem k14_6 : ((k14.map lkOf).any fun y => wiP ms7 ds7 a13 bob y) = true := by
  simp [k14, lkOf, wiP, a13_self, ann_bob]
theorem k14_7 : ((k14.map lkOf).any fun y => wiP ms7 ds7 a13 ann y) = false := by
  simp [k14, lkOf, wiP]
theorem ann_sz : ann.size ≤ maxLen := by unfold maxLen; decide +kernel
theorem bob_sz : bob.size ≤ maxLen := by unfold maxLen; decide +kernel
set_option maxHeartbeats 8000000 in
set_option maxRecDepth 100000 in
theorem law14_known (w : World) : Calls Tryz.prog 26 #[] w fun e w' => e = .returned (.bool true) ∧ Kept w w' := by
  have HSM := hidMk (law14_small w)
  have HOP := hidMk (fun (W : World) g q b (h1 : W.cell? ⟨g, 0, none⟩ = some (.string ⟨#[120]⟩)) (h2 : W.cell? ⟨g, 1, none⟩ = some (.slice (some ⟨q, 0, none⟩) 3 3)) (hn : Ns W (some ⟨q, 0, none⟩) 3 k6) (h3 : W.cell? ⟨b, 0, none⟩ = some (.string ⟨#[109]⟩)) => law14_open (some ⟨g, 0, none⟩) 1 1 ds7 _ (some ⟨b, 0, none⟩) 1 1 ms7 9 3 W (k7_dss h1 h2 hn) (one_ss h3) k7_sz)
  go_enter Tryz.func26, Tryz.ntmps26
  go_wp2_with fail
  refine HSM.out.mono ?_
  rintro e w1 ⟨g, q, b, rfl, x1, x2, x3, x4, k1⟩
  have H2 := hidMk (HOP.out w1 g q b x1 x2 x3 x4)
  have HK1 := hidMk k1
  clear x1 x2 x3 x4 k1 HOP
  go_wp2_with fail
  refine H2.out.mono ?_
  rintro e w2 (⟨W0, s, p, tp, rv, q, rt, rfl, _, _, hsw, _, hk, hw1⟩ | ⟨v1, v2, rfl, hno, _⟩)
  rotate_left
  · exact absurd ⟨k13_sm, k13_cat⟩ hno
  have k02 : Kept W0 w2 := by rw [hw1]; exact (Kept.refl _).alloc _
  have HK2 := hidMk (HK1.out.trans (hk.trans k02))
  have HSW := hidMk (hsw.keep k02)
  generalize W0.heap.size = rb at *
  clear hw1 hk k02 hsw H2 HSM HK1
  obtain ⟨WA, hWA⟩ : ∃ V, V = w2.alloc (.cells #[.int .i64 0, .int .i64 1, .int .i64 0, .int .i64 0, .int .i64 0] 29) := ⟨_, rfl⟩
  have kA : Kept w2 WA := by rw [hWA]; exact (Kept.refl _).alloc _
  have HKA := hidMk kA
  obtain ⟨ab, hab⟩ : ∃ x, x = w2.heap.size := ⟨_, rfl⟩
  have HX := hidMk (show ∀ X, Kept WA X → X.cell? ⟨ab, 0, none⟩ = some (.int .i64 0) ∧ X.cell? ⟨ab, 1, none⟩ = some (.int .i64 1) ∧ X.cell? ⟨ab, 2, none⟩ = some (.int .i64 0) ∧ X.cell? ⟨ab, 3, none⟩ = some (.int .i64 0) ∧ X.cell? ⟨ab, 4, none⟩ = some (.int .i64 0) from fun X kX => by
    rw [hWA] at kX
    exact ⟨kX.cellp (new_cell _ _ _ _ 0 _ hab rfl), kX.cellp (new_cell _ _ _ _ 1 _ hab rfl), kX.cellp (new_cell _ _ _ _ 2 _ hab rfl), kX.cellp (new_cell _ _ _ _ 3 _ hab rfl), kX.cellp (new_cell _ _ _ _ 4 _ hab rfl)⟩)
  have huf := und_few HSW.out.ct k13_sm
  have HA1 := hidMk (show ∀ X, Kept WA X → Calls Tryz.prog 29 #[.agg #[.slice none 0 0], .pointer (some ⟨s, 0, none⟩), .agg #[.int .i64 0, .int .i64 1, .int .i64 0, .int .i64 0, .int .i64 0], .string ⟨#[97, 110, 110]⟩] X fun e w' => (∃ a' c', e = .returned (.tuple #[.agg #[.slice a' 1 c'], .int .i64 0]) ∧ Lp w' ms7 ds7 a' c' k14) ∧ Kept X w' from fun X kX => by
    refine (lp_Add (HSW.out.keep (kA.trans kX)) huf (lp_nil X ms7 ds7) a13 ann ann_sz).mono ?_
    rintro e w' ⟨a', c', l', rfl, hd, hm, hl, k, -⟩
    have hl1 : l' = k14 := by
      refine riseG_ext (f := fun y => y.2.2) hd.ld.rs (by unfold k14; simp) (fun y => ?_)
      rw [hm, k14_1, a13_ix]
      simp [k14]
    subst hl1
    rw [k14_1]
    exact ⟨⟨a', c', rfl, hd⟩, k⟩)
  have HA2 := hidMk (show ∀ X a c, Kept WA X → Lp X ms7 ds7 a c k14 → Calls Tryz.prog 29 #[.agg #[.slice a 1 c], .pointer (some ⟨s, 0, none⟩), .agg #[.int .i64 0, .int .i64 0, .int .i64 0, .int .i64 0, .int .i64 0], .string ⟨#[98, 111, 98]⟩] X fun e w' => (∃ a' n' c', e = .returned (.tuple #[.agg #[.slice a' n' c'], .int .i64 12])) ∧ Kept X w' from fun X a c kX hd => by
    refine (lp_Add (HSW.out.keep (kA.trans kX)) huf hd z13 bob bob_sz).mono ?_
    rintro e w' ⟨a', c', l', rfl, hd, hm, hl, k, -⟩
    rw [k14_2]
    exact ⟨⟨a', _, c', rfl⟩, k⟩)
  have HA3 := hidMk (show ∀ X a c, Kept WA X → Lp X ms7 ds7 a c k14 → Calls Tryz.prog 29 #[.agg #[.slice a 1 c], .pointer (some ⟨s, 0, none⟩), .agg #[.int .i64 0, .int .i64 0, .int .i64 0, .int .i64 0, .int .i64 0], .string ⟨#[97, 110, 110]⟩] X fun e w' => (∃ a' c', e = .returned (.tuple #[.agg #[.slice a' 2 c'], .int .i64 0]) ∧ Lp w' ms7 ds7 a' c' m14) ∧ Kept X w' from fun X a c kX hd => by
    refine (lp_Add (HSW.out.keep (kA.trans kX)) huf hd z13 ann ann_sz).mono ?_
    rintro e w' ⟨a', c', l', rfl, hd, hm, hl, k, -⟩
    have hl1 : l' = m14 := by
      refine riseG_ext (f := fun y => y.2.2) hd.ld.rs (by unfold m14; simp) (fun y => ?_)
      rw [hm, k14_3, z13_ix]
      simp [k14, m14]
    subst hl1
    rw [k14_3]
    exact ⟨⟨a', c', rfl, hd⟩, k⟩)
  have HLS := hidMk (show ∀ X a c, Lp X ms7 ds7 a c m14 → Calls Tryz.prog 32 #[.agg #[.slice a 2 c]] X fun e w' => (∃ a c, e = .returned (.slice a 2 c)) ∧ Kept X w' from fun X a c h => by
    refine (lock_List a c m14 X h.pq (by unfold m14; simp)).mono ?_
    rintro e w' ⟨v, rfl, ho, k⟩
    obtain ⟨a, c, rfl, _⟩ := ho.form
    exact ⟨⟨a, c, rfl⟩, k⟩)
  have HO1 := hidMk (show ∀ X a c, Kept WA X → Lp X ms7 ds7 a c m14 → Calls Tryz.prog 34 #[.agg #[.slice a 2 c], .pointer (some ⟨s, 0, none⟩), .int .i64 1] X fun e w' => e = .returned (.string ⟨#[97, 110, 110]⟩) ∧ Kept X w' from fun X a c kX h => by
    have := lock_Owner (HSW.out.keep (kA.trans kX)) a c m14 1 h.pq (by unfold m14; simp)
    rw [k14_4] at this
    exact this)
  have HO2 := hidMk (show ∀ X a c, Kept WA X → Lp X ms7 ds7 a c k14 → Calls Tryz.prog 34 #[.agg #[.slice a 1 c], .pointer (some ⟨s, 0, none⟩), .int .i64 1] X fun e w' => e = .returned (.string ⟨#[]⟩) ∧ Kept X w' from fun X a c kX h => by
    have := lock_Owner (HSW.out.keep (kA.trans kX)) a c k14 1 h.pq (by unfold k14; simp)
    rw [k14_5] at this
    exact this)
  have HW1 := hidMk (show ∀ X a c, Kept WA X → Lp X ms7 ds7 a c k14 → Calls Tryz.prog 36 #[.agg #[.slice a 1 c], .pointer (some ⟨s, 0, none⟩), .agg #[.int .i64 0, .int .i64 1, .int .i64 0, .int .i64 0, .int .i64 0], .string ⟨#[98, 111, 98]⟩] X fun e w' => e = .returned (.bool true) ∧ Kept X w' from fun X a c kX h => by
    have := lock_Within (HSW.out.keep (kA.trans kX)) a c k14 a13 bob h.pq (by unfold k14; simp)
    rw [k14_6] at this
    exact this)
  have HW2 := hidMk (show ∀ X a c, Kept WA X → Lp X ms7 ds7 a c k14 → Calls Tryz.prog 36 #[.agg #[.slice a 1 c], .pointer (some ⟨s, 0, none⟩), .agg #[.int .i64 0, .int .i64 1, .int .i64 0, .int .i64 0, .int .i64 0], .string ⟨#[97, 110, 110]⟩] X fun e w' => e = .returned (.bool false) ∧ Kept X w' from fun X a c kX h => by
    have := lock_Within (HSW.out.keep (kA.trans kX)) a c k14 a13 ann h.pq (by unfold k14; simp)
    rw [k14_7] at this
    exact this)
  clear kA huf
  obtain ⟨x0, x1, x2, x3, x4⟩ := HX.out WA (Kept.refl _)
  rw [hWA, hab] at x0 x1 x2 x3 x4
  go_wp2_with fail
  rw [← hWA, ← hab]
  clear hWA hab x0 x1 x2 x3 x4
  refine (HA1.out WA (Kept.refl _)).mono ?_
  rintro e w3 ⟨⟨ka, kc, rfl, lp3⟩, k3⟩
  have HL3 := hidMk lp3
  have HK3 := hidMk k3
  clear lp3 k3
  obtain ⟨lb, hlb⟩ : ∃ x, x = w3.heap.size := ⟨_, rfl⟩
  have HLB := hidMk (show ∀ X, Kept (w3.alloc (.cells #[.slice ka 1 kc] 66)) X → X.cell? ⟨lb, 0, none⟩ = some (.slice ka 1 kc) ∧ lb < X.heap.size from fun X kX => by
    have h := kX.cellp (new_cell w3 _ 66 _ 0 _ hlb (by rfl))
    exact ⟨h, cell_lt h⟩)
  go_wp2_with fail
  refine (HA2.out _ ka kc (HK3.out.alloc _) (HL3.out.kept ((Kept.refl _).alloc _))).mono ?_
  rintro e w4 ⟨⟨da, dn, dc, rfl⟩, k4⟩
  have HK4 := hidMk ((HK3.out.alloc _).trans k4)
  have HL4 := hidMk ((HL3.out.kept ((Kept.refl _).alloc _)).kept k4)
  have HLC := hidMk (show ∀ X, Kept w4 X → _ from fun X kX => HLB.out X (k4.trans kX))
  obtain ⟨u0, u1⟩ := HLC.out _ (Kept.refl _)
  rw [← hlb]
  clear k4 hlb HLB HL3 HK3
  go_wp2_with fail
  clear u0 u1
  refine (HA3.out _ ka kc (HK4.out.alloc _) (HL4.out.kept ((Kept.refl _).alloc _))).mono ?_
  rintro e w5 ⟨⟨ma, mc, rfl, lp5⟩, k5⟩
  have HL5 := hidMk lp5
  have HK5 := hidMk ((HK4.out.alloc _).trans k5)
  have HL6 := hidMk ((HL4.out.kept ((Kept.refl _).alloc _)).kept k5)
  obtain ⟨mb, hmb⟩ : ∃ x, x = w5.heap.size := ⟨_, rfl⟩
  obtain ⟨WB, hWB⟩ : ∃ V, V = w5.alloc (.cells #[.slice ma 2 mc] 66) := ⟨_, rfl⟩
  have kB : Kept w5 WB := by rw [hWB]; exact (Kept.refl _).alloc _
  have HKW := hidMk (HK5.out.trans kB)
  have HLM := hidMk (HL5.out.kept kB)
  have HLL := hidMk (HL6.out.kept kB)
  have HQ := hidMk (show ∀ X, Kept WB X → X.cell? ⟨mb, 0, none⟩ = some (.slice ma 2 mc) ∧ X.cell? ⟨lb, 0, none⟩ = some (.slice ka 1 kc) ∧ X.cell? ⟨ab, 0, none⟩ = some (.int .i64 0) ∧ X.cell? ⟨ab, 1, none⟩ = some (.int .i64 1) ∧ X.cell? ⟨ab, 2, none⟩ = some (.int .i64 0) ∧ X.cell? ⟨ab, 3, none⟩ = some (.int .i64 0) ∧ X.cell? ⟨ab, 4, none⟩ = some (.int .i64 0) ∧ ab < X.heap.size ∧ lb < X.heap.size ∧ mb < X.heap.size from fun X kX => by
    obtain ⟨a0, a1, a2, a3, a4⟩ := HX.out X (HKW.out.trans kX)
    have b0 := (HLC.out X ((((Kept.refl w4).alloc _).trans k5).trans (kB.trans kX))).1
    have c0 : X.cell? ⟨mb, 0, none⟩ = some (.slice ma 2 mc) := by rw [hWB] at kX; exact kX.cellp (new_cell _ _ _ _ 0 _ hmb rfl)
    exact ⟨c0, b0, a0, a1, a2, a3, a4, cell_lt a0, cell_lt b0, cell_lt c0⟩)
  clear kB k5 lp5 HL4 HK4 HL5 HL6 HLC HK5
  go_wp2_with fail
  rw [← hmb, ← hWB]
  clear hWB hmb
  refine (HLS.out _ ma mc (HLM.out.kept (Kept.refl WB))).mono ?_
  rintro e w6 ⟨⟨a8, c8, rfl⟩, k6⟩
  have HT6 := hidMk (k6)
  obtain ⟨t0, t1, t2, t3, t4, t5, t6, t7, t8, t9⟩ := HQ.out _ HT6.out
  clear k6
  go_wp2_with fail
  clear t0 t1 t2 t3 t4 t5 t6 t7 t8 t9
  refine (HO1.out _ ma mc (HKW.out.trans HT6.out) (HLM.out.kept HT6.out)).mono ?_
  rintro e w7 ⟨rfl, k7⟩
  have HT7 := hidMk (HT6.out.trans k7)
  obtain ⟨t0, t1, t2, t3, t4, t5, t6, t7, t8, t9⟩ := HQ.out _ HT7.out
  clear k7
  go_wp2_with fail
  clear t0 t1 t2 t3 t4 t5 t6 t7 t8 t9
  refine (HO2.out _ ka kc (HKW.out.trans HT7.out) (HLL.out.kept HT7.out)).mono ?_
  rintro e w8 ⟨rfl, k8⟩
  have HT8 := hidMk (HT7.out.trans k8)
  obtain ⟨t0, t1, t2, t3, t4, t5, t6, t7, t8, t9⟩ := HQ.out _ HT8.out
  clear k8
  go_wp2_with fail
  clear t0 t1 t2 t3 t4 t5 t6 t7 t8 t9
  refine (HW1.out _ ka kc (HKW.out.trans HT8.out) (HLL.out.kept HT8.out)).mono ?_
  rintro e w9 ⟨rfl, k9⟩
  have HT9 := hidMk (HT8.out.trans k9)
  obtain ⟨t0, t1, t2, t3, t4, t5, t6, t7, t8, t9⟩ := HQ.out _ HT9.out
  clear k9
  go_wp2_with fail
  clear t0 t1 t2 t3 t4 t5 t6 t7 t8 t9
  refine (HW2.out _ ka kc (HKW.out.trans HT9.out) (HLL.out.kept HT9.out)).mono ?_
  rintro e w10 ⟨rfl, k10⟩
  have HT10 := hidMk (HT9.out.trans k10)
  obtain ⟨t0, t1, t2, t3, t4, t5, t6, t7, t8, t9⟩ := HQ.out _ HT10.out
  clear k10
  go_wp2_with fail
  go_ret
  exact ⟨by simp, HK2.out.trans (HKA.out.trans (HKW.out.trans HT10.out))⟩
end Go.Proofs.YtmedgkccicbieaaGreat
