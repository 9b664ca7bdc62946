/- LockBack: locked, and unlocked again. -/
import Derived.Test.YtmedgkccicbieaaGreatQLockJB
import Derived.Deep.RegionHeld3
namespace Go.Proofs.YtmedgkccicbieaaGreat
open Go.RowKit Go.Maps
set_option linter.unusedSimpArgs false
set_option linter.unusedVariables false

set_option maxHeartbeats 8000000 in
set_option maxRecDepth 100000 in
theorem law_LockBack (a : Option Addr) (n c : Nat) (ds : List Dm) (na : Nat → Option Addr × Nat × Nat) (b : Option Addr) (m d : Nat) (ms : List ByteArray) (lv sc : Int) (la : Option Addr) (ln lc : Nat) (l : List Au) (cm : Int) (at_ : Nat → Int) (us0 us1 : ByteArray) (w : World) (hs : Dss w a n ds na) (hm : Ss w b m ms) (hmz : ∀ i, i < ms.length → (msA ms i).size ≤ maxLen) (hl : Uq w la ln l) (hu0 : us0.size ≤ maxLen) (hu1 : us1.size ≤ maxLen) :
    Calls Tryz.prog 6 #[.agg #[.slice a n c, .slice b m d, .int .i64 lv, .int .i64 sc], .slice la ln lc, cellV cm at_, .agg #[.string us0, .string us1]] w fun e w' => e = .returned (.bool true) ∧ Kept w w' := by
  obtain ⟨xc, hxc⟩ : ∃ xc : Cl, xc = (cm, at_ 0, at_ 1, at_ 2, at_ 3) := ⟨_, rfl⟩
  have hcv : cellV cm at_ = .agg #[.int .i64 xc.1, .int .i64 xc.2.1, .int .i64 xc.2.2.1, .int .i64 xc.2.2.2.1, .int .i64 xc.2.2.2.2] := by rw [hxc]; rfl
  rw [hcv]
  obtain ⟨WA, hWA⟩ : ∃ V, V = ((w.alloc (.cells #[.slice a n c, .slice b m d, .int .i64 lv, .int .i64 sc] 25)).alloc (.cells #[.int .i64 xc.1, .int .i64 xc.2.1, .int .i64 xc.2.2.1, .int .i64 xc.2.2.2.1, .int .i64 xc.2.2.2.2] 29)).alloc (.cells #[.string us0, .string us1] 89) := ⟨_, rfl⟩
  have kA : Kept w WA := by rw [hWA]; exact (((Kept.refl w).alloc _).alloc _).alloc _
  have HOP := hidMk (law14_open a n c ds na b m d ms lv sc WA (hs.kept kA) (hm.kept kA) hmz)
  have HKN := hidMk law14_known
  have HCB := hidMk (show ∀ X, Kept WA X → X.cell? ⟨w.heap.size + 1, 0, none⟩ = some (.int .i64 xc.1) ∧ X.cell? ⟨w.heap.size + 1, 1, none⟩ = some (.int .i64 xc.2.1) ∧ X.cell? ⟨w.heap.size + 1, 2, none⟩ = some (.int .i64 xc.2.2.1) ∧ X.cell? ⟨w.heap.size + 1, 3, none⟩ = some (.int .i64 xc.2.2.2.1) ∧ X.cell? ⟨w.heap.size + 1, 4, none⟩ = some (.int .i64 xc.2.2.2.2) ∧ w.heap.size + 1 < X.heap.size from fun X kX => by
    obtain ⟨f0, f1, f2, f3, f4⟩ := boxC_at (w.alloc (.cells #[.slice a n c, .slice b m d, .int .i64 lv, .int .i64 sc] 25)) xc 29 (g := w.heap.size + 1) (by simp) X (by rw [hWA] at kX; exact ((Kept.refl _).alloc _).trans kX)
    exact ⟨f0, f1, f2, f3, f4, cell_lt f0⟩)
  have HKA := hidMk kA
  have HL := hidMk hl
  have hln := hl.len
  have hbig := hl.big
  unfold maxLen at hbig
  clear hs hm hmz hl kA hcv hxc
  subst hln
  go_enter Tryz.func6, Tryz.ntmps6
  go_wp2_with fail
  rw [← hWA]
  clear hWA
  refine HOP.out.mono ?_
  rintro e w1 (⟨W0, s, p, tp, rv, q, rt, rfl, hsm, _, hsw, _, hk, hw1⟩ | ⟨v1, v2, rfl, _, k1⟩)
  rotate_left
  · have HK1 := hidMk (HKA.out.trans k1)
    clear k1
    go_wp2_with fail
    refine (HKN.out _).mono ?_
    rintro e w2 ⟨rfl, k2⟩
    go_wp2_with fail
    go_ret
    exact ⟨rfl, HK1.out.trans k2⟩
  have k01 : Kept W0 w1 := by rw [hw1]; exact (Kept.refl _).alloc _
  have HK1 := hidMk (hk.trans k01)
  have HSW := hidMk (hsw.keep k01)
  have HSM := hidMk hsm
  generalize W0.heap.size = rb at *
  clear hw1 hk k01 hsw hsm HOP
  obtain ⟨M, hM⟩ : ∃ M, M = if l.length ≤ 30 then l.length else 30 := ⟨_, rfl⟩
  have hM1 : M ≤ l.length := by rw [hM]; split <;> omega
  have hM2 : M ≤ 30 := by rw [hM]; split <;> omega
  have hM3 : M = l.length ∨ M = 30 := by rw [hM]; split <;> omega
  clear hM
  obtain ⟨hb, hhb⟩ : ∃ x, x = w1.heap.size := ⟨_, rfl⟩
  have HV0 := hidMk (show Lv w1 (w1.alloc (.cells #[.slice none 0 0] 66)) ms ds hb none 0 [] from ⟨new_cell _ _ _ _ 0 _ hhb rfl, by rw [hhb]; simp, lp_nil _ _ _, fun ad e => (by cases e), (Kept.refl _).alloc _, by omega⟩)
  go_wp2_with fail
  rw [← hhb]
  clear hhb
  go_loopg [15] M (fun gg iv wr => ∃ (k : Nat) (ha : Option Addr) (hc : Nat) (hl : List Pk), k + gg = M ∧ iv = .int .i64 (k : Int) ∧ Hid (Lv w1 wr ms ds hb ha hc hl))
  case atStart => exact ⟨0, none, 0, [], by omega, rfl, HV0⟩
  case round =>
    obtain ⟨k, ha, hc, hl, hkg, rfl, HV⟩ := hrel
    have HKG := hidMk hkg
    by_cases hkM : k < M
    · have hk1 : (k : Int) < (l.length : Int) := by omega
      have hk2 : (k : Int) < 30 := by omega
      have hk3 : k < l.length := by omega
      have hk0 : (0 : Int) ≤ (k : Int) := by omega
      obtain ⟨lb, lo, rfl⟩ := HL.out.form (by omega)
      have kW := HKA.out.trans (HK1.out.trans HV.out.kp)
      obtain ⟨hlb, c0, c1, c2, c3, c4, c5, c6⟩ := (HL.out.kept kW).at hk3
      have hsz := HL.out.sz k hk3
      have y0 := HV.out.cell
      have y1 := HV.out.fz
      have y2 := HV.out.lt
      obtain ⟨X, hX⟩ : ∃ X, auA l k = X := ⟨_, rfl⟩
      rw [hX] at c0 c1 c2 c3 c4 c5 c6 hsz
      have HAD := hidMk (show ∀ y, Kept wr y → Calls Tryz.prog 29 #[.agg #[.slice ha hl.length hc], .pointer (some ⟨s, 0, none⟩), clV X.1, .string X.2.1] y (LAddQ y ms ds hl X.1 X.2.1) from fun y hy => lp_AddQ (HSW.out.keep (HV.out.kp.trans hy)) HSM.out (HV.out.lp.kept hy) X.1 X.2.1 hsz)
      unfold LAddQ at HAD
      obtain ⟨R, hR⟩ : ∃ R, R = laddE ms ds (hl.map lkOf) X.1 X.2.1 := ⟨_, rfl⟩
      rw [← hR] at HAD
      have HRE := hidMk hR
      obtain ⟨⟨x0, x1, x2, x3, x4⟩, us, dr⟩ := X
      unfold clV at HAD
      simp only at c0 c1 c2 c3 c4 c5 c6 HAD
      clear kW hX hkg hR hsz
      by_cases hr : R = 0
      · subst hr
        go_wp2_with fail
        go_region_held3 (fun w' => w'.cell? ⟨hb, 0, none⟩ = some (.slice ha hl.length hc) ∧ w'.cell? ⟨lb, lo + k * 7, none⟩ = some (.int .i64 x0) ∧ w'.cell? ⟨lb, lo + k * 7 + 1, none⟩ = some (.int .i64 x1) ∧ w'.cell? ⟨lb, lo + k * 7 + 2, none⟩ = some (.int .i64 x2) ∧ w'.cell? ⟨lb, lo + k * 7 + 3, none⟩ = some (.int .i64 x3) ∧ w'.cell? ⟨lb, lo + k * 7 + 4, none⟩ = some (.int .i64 x4) ∧ w'.cell? ⟨lb, lo + k * 7 + 5, none⟩ = some (.string us))
          (first | assumption | (refine ⟨Kept.cellp ?_ y0, Kept.cellp ?_ c0, Kept.cellp ?_ c1, Kept.cellp ?_ c2, Kept.cellp ?_ c3, Kept.cellp ?_ c4, Kept.cellp ?_ c5⟩ <;> ((repeat (first | (with_reducible exact Kept.refl _) | (with_reducible refine Kept.alloc ?_ _) | (with_reducible refine Kept.drew ?_) | (with_reducible refine Kept.drewN ?_ _) | (with_reducible refine Kept.trans ?_ (by assumption)))); done)) | (refine ⟨Kept.cellp ?_ y0, Kept.cellp ?_ c0, Kept.cellp ?_ c1, Kept.cellp ?_ c2, Kept.cellp ?_ c3, Kept.cellp ?_ c4, Kept.cellp ?_ c5⟩ <;> (refine Kept.setCell ?_ (Nat.le_refl _) _; (repeat (first | (with_reducible exact Kept.refl _) | (with_reducible refine Kept.alloc ?_ _) | (with_reducible refine Kept.drew ?_) | (with_reducible refine Kept.drewN ?_ _) | (with_reducible refine Kept.trans ?_ (by assumption)))); done)))
          ((go_at_call 29; refine (HAD.out _ (by (repeat (first | (with_reducible exact Kept.refl _) | (with_reducible refine Kept.alloc ?_ _) | (with_reducible refine Kept.drew ?_) | (with_reducible refine Kept.drewN ?_ _) | (with_reducible refine Kept.trans ?_ (by assumption)))))).mono ?_; rintro e w3 ⟨a3, n3, d3, r3, rfl, ⟨rfl, l3, hn3, hd3, hm3, hl3, f3⟩, k3⟩; (first | (have q9 := by with_reducible exact new_kn k3) | skip); (first | (obtain ⟨q0, q1, q2⟩ := q9) | skip); have k3w : Kept wr w3 := (by (repeat (first | (with_reducible exact Kept.refl _) | (with_reducible refine Kept.alloc ?_ _) | (with_reducible refine Kept.drew ?_) | (with_reducible refine Kept.drewN ?_ _) | (with_reducible refine Kept.trans ?_ (by assumption))))); have yc := k3w.cellp y0; have yf := (k3w.frozen (p := ⟨hb, 0, none⟩) y2).trans y1; have yl : hb < w3.heap.size := cell_lt yc; have HN3 := hidMk hn3; have HD3 := hidMk hd3; have HM3 := hidMk hm3; have HL3 := hidMk hl3; have HF3 := hidMk f3; have HK3 := hidMk k3; clear hn3 hd3 hm3 hl3 f3))
        all_goals (try go_wp2_with fail)
        all_goals
          go_roundg (gk - 1)
          case measure => have := HKG.out; omega
          case rel =>
            refine ⟨k + 1, a3, d3, l3, by have := HKG.out; omega, by go_num, hidMk ?_⟩
            first
              | exact ((HV.out.keep k3w).set HN3.out HD3.out (fun ad e (f : ad.block = hb) => by have h1 : wr.heap.size ≤ ad.block := HF3.out ad e; omega)).keep ((Kept.refl _).alloc _)
              | exact lv_nextB HV.out (((Kept.refl _).alloc _).drew) (by simp) HK3.out HD3.out HF3.out HN3.out _
      · skip
        go_wp2_with fail
        go_region_held3 (fun w' => w'.cell? ⟨hb, 0, none⟩ = some (.slice ha hl.length hc) ∧ w'.cell? ⟨lb, lo + k * 7, none⟩ = some (.int .i64 x0) ∧ w'.cell? ⟨lb, lo + k * 7 + 1, none⟩ = some (.int .i64 x1) ∧ w'.cell? ⟨lb, lo + k * 7 + 2, none⟩ = some (.int .i64 x2) ∧ w'.cell? ⟨lb, lo + k * 7 + 3, none⟩ = some (.int .i64 x3) ∧ w'.cell? ⟨lb, lo + k * 7 + 4, none⟩ = some (.int .i64 x4) ∧ w'.cell? ⟨lb, lo + k * 7 + 5, none⟩ = some (.string us))
          (first | assumption | (refine ⟨Kept.cellp ?_ y0, Kept.cellp ?_ c0, Kept.cellp ?_ c1, Kept.cellp ?_ c2, Kept.cellp ?_ c3, Kept.cellp ?_ c4, Kept.cellp ?_ c5⟩ <;> ((repeat (first | (with_reducible exact Kept.refl _) | (with_reducible refine Kept.alloc ?_ _) | (with_reducible refine Kept.drew ?_) | (with_reducible refine Kept.drewN ?_ _) | (with_reducible refine Kept.trans ?_ (by assumption)))); done)) | (refine ⟨Kept.cellp ?_ y0, Kept.cellp ?_ c0, Kept.cellp ?_ c1, Kept.cellp ?_ c2, Kept.cellp ?_ c3, Kept.cellp ?_ c4, Kept.cellp ?_ c5⟩ <;> (refine Kept.setCell ?_ (Nat.le_refl _) _; (repeat (first | (with_reducible exact Kept.refl _) | (with_reducible refine Kept.alloc ?_ _) | (with_reducible refine Kept.drew ?_) | (with_reducible refine Kept.drewN ?_ _) | (with_reducible refine Kept.trans ?_ (by assumption)))); done)))
          ((go_at_call 29; refine (HAD.out _ (by (repeat (first | (with_reducible exact Kept.refl _) | (with_reducible refine Kept.alloc ?_ _) | (with_reducible refine Kept.drew ?_) | (with_reducible refine Kept.drewN ?_ _) | (with_reducible refine Kept.trans ?_ (by assumption)))))).mono ?_; rintro e w3 ⟨a3, n3, d3, r3, rfl, ⟨rfl, l3, hn3, hd3, hm3, hl3, f3⟩, k3⟩; (first | (have q9 := by with_reducible exact new_kn k3) | skip); (first | (obtain ⟨q0, q1, q2⟩ := q9) | skip); have k3w : Kept wr w3 := (by (repeat (first | (with_reducible exact Kept.refl _) | (with_reducible refine Kept.alloc ?_ _) | (with_reducible refine Kept.drew ?_) | (with_reducible refine Kept.drewN ?_ _) | (with_reducible refine Kept.trans ?_ (by assumption))))); have yc := k3w.cellp y0; have yf := (k3w.frozen (p := ⟨hb, 0, none⟩) y2).trans y1; have yl : hb < w3.heap.size := cell_lt yc; have HN3 := hidMk hn3; have HD3 := hidMk hd3; have HM3 := hidMk hm3; have HL3 := hidMk hl3; have HF3 := hidMk f3; have HK3 := hidMk k3; clear hn3 hd3 hm3 hl3 f3))
        all_goals (try go_wp2_with fail)
        all_goals
          go_roundg (gk - 1)
          case measure => have := HKG.out; omega
          case rel =>
            refine ⟨k + 1, ha, hc, hl, by have := HKG.out; omega, by go_num, hidMk ?_⟩
            first
              | exact HV.out.keep (k3w.alloc _)
              | exact HV.out.keep (k3w.setCell (p := ⟨wr.heap.size, 0, none⟩) (Nat.le_refl _) _)
    · have hkM' : ¬ ((k : Int) < (l.length : Int)) ∨ ¬ ((k : Int) < 30) := by omega
      have y0 := HV.out.cell
      have y1 := HV.out.fz
      have y2 := HV.out.lt
      have HAD := hidMk (show ∀ y, Kept wr y → Calls Tryz.prog 29 #[.agg #[.slice ha hl.length hc], .pointer (some ⟨s, 0, none⟩), clV xc, .string us0] y (LAddQ y ms ds hl xc us0) from fun y hy => lp_AddQ (HSW.out.keep (HV.out.kp.trans hy)) HSM.out (HV.out.lp.kept hy) xc us0 hu0)
      obtain ⟨c0, c1, c2, c3, c4, c5⟩ := HCB.out _ (HK1.out.trans HV.out.kp)
      unfold LAddQ at HAD
      obtain ⟨R, hR⟩ : ∃ R, R = laddE ms ds (hl.map lkOf) xc us0 := ⟨_, rfl⟩
      rw [← hR] at HAD
      have HRE := hidMk hR
      clear hR
      have HDQ := hidMk (show ∀ y a c l (uu : ByteArray), uu.size ≤ maxLen → Kept w1 y → Lp y ms ds a c l → Calls Tryz.prog 27 #[.agg #[.slice a l.length c], .pointer (some ⟨s, 0, none⟩), clV xc, .string uu] y (LDropQ y ms ds l xc uu) from fun y a c l uu hz hy hd => lp_DropQ (HSW.out.keep hy) hd xc uu hz)
      have HLS := hidMk (show ∀ y a c, Lp y ms ds a c [] → Calls Tryz.prog 32 #[.agg #[.slice a 0 c]] y fun e w' => (∃ a c, e = .returned (.slice a 0 c)) ∧ Kept y w' from fun X a c hd => by
        refine (lock_List a c [] X hd.pq (by simp)).mono ?_
        rintro e w' ⟨v, rfl, ho, k⟩
        obtain ⟨a, c, rfl, _⟩ := ho.form
        exact ⟨⟨a, c, rfl⟩, k⟩)
      have HSA := hidMk (show ∀ y a c l b d m, Lp y ms ds a c l → Lp y ms ds b d m → Calls Tryz.prog 40 #[.agg #[.slice a l.length c], .agg #[.slice b m.length d]] y fun e w' => e = .returned (.bool (decide (l.map lkOf = m.map lkOf))) ∧ Kept y w' from fun y a c l b d m h1 h2 => lock_Same a b c d l m y h1.pq h2.pq (by have := h1.ld.sm; omega) (by have := h2.ld.sm; omega))
      unfold clV at HAD HDQ
      have HHD := hidMk HV.out.lp
      have HKV := hidMk HV.out.kp
      by_cases hkn : (k : Int) < (l.length : Int)
      · have hk100 : ¬ ((k : Int) < 30) := by omega
        by_cases hr : R = 0
        · subst hr
          go_wp2_with fail
          refine (HAD.out _ (Kept.refl _)).mono ?_
          rintro e w3 ⟨a3, n3, d3, r3, rfl, ⟨rfl, l3, rfl, hd3, hm3, hl3, f3⟩, k3⟩
          have z0 := k3.cellp y0
          have z1 := k3.cellp c0
          have z2 := k3.cellp c1
          have z3 := k3.cellp c2
          have z4 := k3.cellp c3
          have z5 := k3.cellp c4
          have z6 : hb < w3.heap.size := cell_lt z0
          have z7 : w.heap.size + 1 < w3.heap.size := cell_lt z1
          have HD3 := hidMk hd3
          have HK3 := hidMk k3
          have hA0 : askE ms ds xc us0 = 0 := ladd_ask HRE.out.symm
          have hm3' : ∀ y, y ∈ l3 ↔ y = (xc, us0, ixC ms ds xc) ∨ y ∈ hl := fun y => by rw [hm3]; simp
          have HNX := hidMk (ld_back HHD.out.ld hd3.ld hm3' (by first | exact hl3 rfl | exact hl3 trivial | exact hl3))
          have hdr := ld_drop hd3.ld hm3' hA0
          have HG := hidMk (ld_other (o := us1) hd3.ld hm3' (askE_ok.1 hA0).2)
          have HM3 := hidMk hm3'
          have HLN := hidMk (show l3.length = hl.length + 1 from by first | exact hl3 rfl | exact hl3 trivial | exact hl3)
          have HDD := hidMk (show ∀ y, Kept w3 y → _ from fun y hy => HDQ.out y a3 d3 l3 us0 hu0 (HKV.out.trans (k3.trans hy)) (hd3.kept hy))
          have HDE := hidMk (show ∀ y, Kept w3 y → _ from fun y hy => HDQ.out y a3 d3 l3 us1 hu1 (HKV.out.trans (k3.trans hy)) (hd3.kept hy))
          unfold LDropQ at HDD HDE
          rw [hdr] at HDD
          generalize ldropE ms ds (l3.map lkOf) xc us1 = G at *
          clear hd3 hm3 hm3' hl3 f3 k3 hA0 hdr y0 y1 y2 c0 c1 c2 c3 c4 c5 HDQ HAD
          obtain ⟨kb, hkb⟩ : ∃ x, x = w3.heap.size := ⟨_, rfl⟩
          go_wp2_with fail
          refine (HDD.out _ ((Kept.refl _).alloc _)).mono ?_
          rintro e w4 ⟨a4, n4, d4, r4, rfl, ⟨rfl, l4, rfl, hd4, hm4, f4⟩, k4⟩
          have hkc := k4.cellp (new_cell w3 _ 66 _ 0 _ hkb (by rfl))
          have u0 := k4.cellp (((Kept.refl w3).alloc _).cellp z0)
          have u1 := k4.cellp (((Kept.refl w3).alloc _).cellp z1)
          have u2 := k4.cellp (((Kept.refl w3).alloc _).cellp z2)
          have u3 := k4.cellp (((Kept.refl w3).alloc _).cellp z3)
          have u4 := k4.cellp (((Kept.refl w3).alloc _).cellp z4)
          have u5 := k4.cellp (((Kept.refl w3).alloc _).cellp z5)
          have HK4 := hidMk (((Kept.refl w3).alloc _).trans k4)
          have hlh : l4 = hl := riseG_ext (f := fun y => y.2.2) hd4.ld.rs HHD.out.ld.rs (fun y => by
            rw [hm4, HM3.out]
            exact ⟨fun h => h.2.1.elim (fun e => absurd (by rw [e]) h.2.2) id, fun h => ⟨by simp, .inr h, HNX.out y h⟩⟩)
          subst hlh
          have HD4 := hidMk hd4
          have HNE := hidMk (show decide (l4.map lkOf = l3.map lkOf) = false from decide_eq_false fun e => by
            have e := congrArg List.length e
            rw [List.length_map, List.length_map] at e
            have := HLN.out
            omega)
          clear hd4 hm4 f4 k4 z0 z1 z2 z3 z4 z5 z6 z7
          rw [← hkb]
          clear hkb
          obtain ⟨mb, hmb⟩ : ∃ x, x = w4.heap.size := ⟨_, rfl⟩
          have v0 : hb < w4.heap.size := cell_lt u0
          have v1 : w.heap.size + 1 < w4.heap.size := cell_lt u1
          have v2 : kb < w4.heap.size := cell_lt hkc
          go_wp2_with fail
          refine (HDE.out _ (HK4.out.alloc _)).mono ?_
          rintro e w5 ⟨a5, n5, d5, r5, rfl, ⟨rfl, l5, rfl, _, _, _⟩, k5⟩
          have hmc := k5.cellp (new_cell w4 _ 66 _ 0 _ hmb (by rfl))
          have k45 := ((Kept.refl w4).alloc _).trans k5
          have HK5 := hidMk k45
          have t0 := k45.cellp u0
          have t1 := k45.cellp hkc
          rw [← hmb]
          clear hmb k5 v0 v1 v2 u0 u1 u2 u3 u4 u5 hkc
          obtain ⟨WB, hWB⟩ : ∃ V, V = w5.alloc (.cells #[.slice a5 l5.length d5] 66) := ⟨_, rfl⟩
          have kB : Kept w5 WB := by rw [hWB]; exact (Kept.refl _).alloc _
          have HQ := hidMk (show ∀ X, Kept WB X → X.cell? ⟨hb, 0, none⟩ = some (.slice ha l4.length hc) ∧ X.cell? ⟨kb, 0, none⟩ = some (.slice a3 l3.length d3) ∧ X.cell? ⟨mb, 0, none⟩ = some (.slice a4 l4.length d4) from fun X kX => ⟨(kB.trans kX).cellp t0, (kB.trans kX).cellp t1, (kB.trans kX).cellp hmc⟩)
          have HDH := hidMk (show Lp WB ms ds ha hc l4 from HHD.out.kept (HK3.out.trans (HK4.out.trans (HK5.out.trans kB))))
          have HDK := hidMk (show Lp WB ms ds a3 d3 l3 from HD3.out.kept (HK4.out.trans (HK5.out.trans kB)))
          have HDM := hidMk (show Lp WB ms ds a4 d4 l4 from HD4.out.kept (HK5.out.trans kB))
          have HKB := hidMk (show Kept w WB from HKA.out.trans (HK1.out.trans (HKV.out.trans (HK3.out.trans (HK4.out.trans (HK5.out.trans kB))))))
          have v0 : hb < w5.heap.size := cell_lt t0
          have v1 : kb < w5.heap.size := cell_lt t1
          have v2 : mb < w5.heap.size := cell_lt hmc
          clear kB k45
          go_wp2_with fail
          rw [← hWB]
          clear hWB hmc t0 t1 v0 v1 v2
          refine (HSA.out _ a4 d4 l4 ha hc l4 HDM.out HDH.out).mono ?_
          rintro e w6 ⟨rfl, k6⟩
          have HT6 := hidMk (k6)
          rw [show decide (l4.map lkOf = l4.map lkOf) = true from decide_eq_true rfl]
          clear k6
          obtain ⟨t0, t1, t2⟩ := HQ.out _ HT6.out
          go_wp2_with fail
          refine (HSA.out _ a4 d4 l4 a3 d3 l3 (HDM.out.kept HT6.out) (HDK.out.kept HT6.out)).mono ?_
          rintro e w7 ⟨rfl, k7⟩
          have HT7 := hidMk (HT6.out.trans k7)
          clear k7 t0 t1 t2
          rw [HNE.out]
          by_cases hg1 : r5 = 12
          · subst hg1
            go_wp2_with fail
            refine (HKN.out _).mono ?_
            rintro e w9 ⟨rfl, k9⟩
            go_wp2_with fail
            go_ret
            exact ⟨by simp, HKB.out.trans (HT7.out.trans k9)⟩
          have hg1' : (r5 == 12) = false := by simpa using hg1
          by_cases hg2 : r5 = 3
          · subst hg2
            go_wp2_with fail
            refine (HKN.out _).mono ?_
            rintro e w9 ⟨rfl, k9⟩
            go_wp2_with fail
            go_ret
            exact ⟨by simp, HKB.out.trans (HT7.out.trans k9)⟩
          have hg2' : (r5 == 3) = false := by simpa using hg2
          have hou : us1 = us0 := by
            rcases HG.out with e | e | e
            · exact absurd e hg1
            · exact absurd e hg2
            · exact e
          have hou2 : (us1.toList == us0.toList) = true := by rw [hou]; simp
          clear hou
          go_wp2_with fail
          refine (HKN.out _).mono ?_
          rintro e w9 ⟨rfl, k9⟩
          go_wp2_with fail
          go_ret
          exact ⟨by simp, HKB.out.trans (HT7.out.trans k9)⟩
        · go_wp2_with fail
          refine (HAD.out _ (Kept.refl _)).mono ?_
          rintro e w3 ⟨a3, n3, d3, r3, rfl, ⟨rfl, l3, rfl, hd3, hm3, hl3, f3⟩, k3⟩
          have hl0 : l3 = [] := List.eq_nil_iff_forall_not_mem.2 (fun y hy => hr ((hm3 y).1 hy).1)
          subst hl0
          have HD3 := hidMk hd3
          have HK3 := hidMk k3
          clear hd3 hm3 hl3 f3 k3 y0 y1 y2 c0 c1 c2 c3 c4 c5 HDQ HAD
          go_wp2_with fail
          refine (HLS.out _ a3 d3 (HD3.out.kept ((Kept.refl _).alloc _))).mono ?_
          rintro e w4 ⟨⟨a4, c4, rfl⟩, k4⟩
          have HK4 := hidMk (((Kept.refl w3).alloc _).trans k4)
          clear k4
          go_wp2_with fail
          refine (HKN.out _).mono ?_
          rintro e w5 ⟨rfl, k5⟩
          go_wp2_with fail
          go_ret
          exact ⟨by simp, HKA.out.trans (HK1.out.trans (HKV.out.trans (HK3.out.trans (HK4.out.trans k5))))⟩
      · have hk100 : True := trivial
        by_cases hr : R = 0
        · subst hr
          go_wp2_with fail
          refine (HAD.out _ (Kept.refl _)).mono ?_
          rintro e w3 ⟨a3, n3, d3, r3, rfl, ⟨rfl, l3, rfl, hd3, hm3, hl3, f3⟩, k3⟩
          have z0 := k3.cellp y0
          have z1 := k3.cellp c0
          have z2 := k3.cellp c1
          have z3 := k3.cellp c2
          have z4 := k3.cellp c3
          have z5 := k3.cellp c4
          have z6 : hb < w3.heap.size := cell_lt z0
          have z7 : w.heap.size + 1 < w3.heap.size := cell_lt z1
          have HD3 := hidMk hd3
          have HK3 := hidMk k3
          have hA0 : askE ms ds xc us0 = 0 := ladd_ask HRE.out.symm
          have hm3' : ∀ y, y ∈ l3 ↔ y = (xc, us0, ixC ms ds xc) ∨ y ∈ hl := fun y => by rw [hm3]; simp
          have HNX := hidMk (ld_back HHD.out.ld hd3.ld hm3' (by first | exact hl3 rfl | exact hl3 trivial | exact hl3))
          have hdr := ld_drop hd3.ld hm3' hA0
          have HG := hidMk (ld_other (o := us1) hd3.ld hm3' (askE_ok.1 hA0).2)
          have HM3 := hidMk hm3'
          have HLN := hidMk (show l3.length = hl.length + 1 from by first | exact hl3 rfl | exact hl3 trivial | exact hl3)
          have HDD := hidMk (show ∀ y, Kept w3 y → _ from fun y hy => HDQ.out y a3 d3 l3 us0 hu0 (HKV.out.trans (k3.trans hy)) (hd3.kept hy))
          have HDE := hidMk (show ∀ y, Kept w3 y → _ from fun y hy => HDQ.out y a3 d3 l3 us1 hu1 (HKV.out.trans (k3.trans hy)) (hd3.kept hy))
          unfold LDropQ at HDD HDE
          rw [hdr] at HDD
          generalize ldropE ms ds (l3.map lkOf) xc us1 = G at *
          clear hd3 hm3 hm3' hl3 f3 k3 hA0 hdr y0 y1 y2 c0 c1 c2 c3 c4 c5 HDQ HAD
          obtain ⟨kb, hkb⟩ : ∃ x, x = w3.heap.size := ⟨_, rfl⟩
          go_wp2_with fail
          refine (HDD.out _ ((Kept.refl _).alloc _)).mono ?_
          rintro e w4 ⟨a4, n4, d4, r4, rfl, ⟨rfl, l4, rfl, hd4, hm4, f4⟩, k4⟩
          have hkc := k4.cellp (new_cell w3 _ 66 _ 0 _ hkb (by rfl))
          have u0 := k4.cellp (((Kept.refl w3).alloc _).cellp z0)
          have u1 := k4.cellp (((Kept.refl w3).alloc _).cellp z1)
          have u2 := k4.cellp (((Kept.refl w3).alloc _).cellp z2)
          have u3 := k4.cellp (((Kept.refl w3).alloc _).cellp z3)
          have u4 := k4.cellp (((Kept.refl w3).alloc _).cellp z4)
          have u5 := k4.cellp (((Kept.refl w3).alloc _).cellp z5)
          have HK4 := hidMk (((Kept.refl w3).alloc _).trans k4)
          have hlh : l4 = hl := riseG_ext (f := fun y => y.2.2) hd4.ld.rs HHD.out.ld.rs (fun y => by
            rw [hm4, HM3.out]
            exact ⟨fun h => h.2.1.elim (fun e => absurd (by rw [e]) h.2.2) id, fun h => ⟨by simp, .inr h, HNX.out y h⟩⟩)
          subst hlh
          have HD4 := hidMk hd4
          have HNE := hidMk (show decide (l4.map lkOf = l3.map lkOf) = false from decide_eq_false fun e => by
            have e := congrArg List.length e
            rw [List.length_map, List.length_map] at e
            have := HLN.out
            omega)
          clear hd4 hm4 f4 k4 z0 z1 z2 z3 z4 z5 z6 z7
          rw [← hkb]
          clear hkb
          obtain ⟨mb, hmb⟩ : ∃ x, x = w4.heap.size := ⟨_, rfl⟩
          have v0 : hb < w4.heap.size := cell_lt u0
          have v1 : w.heap.size + 1 < w4.heap.size := cell_lt u1
          have v2 : kb < w4.heap.size := cell_lt hkc
          go_wp2_with fail
          refine (HDE.out _ (HK4.out.alloc _)).mono ?_
          rintro e w5 ⟨a5, n5, d5, r5, rfl, ⟨rfl, l5, rfl, _, _, _⟩, k5⟩
          have hmc := k5.cellp (new_cell w4 _ 66 _ 0 _ hmb (by rfl))
          have k45 := ((Kept.refl w4).alloc _).trans k5
          have HK5 := hidMk k45
          have t0 := k45.cellp u0
          have t1 := k45.cellp hkc
          rw [← hmb]
          clear hmb k5 v0 v1 v2 u0 u1 u2 u3 u4 u5 hkc
          obtain ⟨WB, hWB⟩ : ∃ V, V = w5.alloc (.cells #[.slice a5 l5.length d5] 66) := ⟨_, rfl⟩
          have kB : Kept w5 WB := by rw [hWB]; exact (Kept.refl _).alloc _
          have HQ := hidMk (show ∀ X, Kept WB X → X.cell? ⟨hb, 0, none⟩ = some (.slice ha l4.length hc) ∧ X.cell? ⟨kb, 0, none⟩ = some (.slice a3 l3.length d3) ∧ X.cell? ⟨mb, 0, none⟩ = some (.slice a4 l4.length d4) from fun X kX => ⟨(kB.trans kX).cellp t0, (kB.trans kX).cellp t1, (kB.trans kX).cellp hmc⟩)
          have HDH := hidMk (show Lp WB ms ds ha hc l4 from HHD.out.kept (HK3.out.trans (HK4.out.trans (HK5.out.trans kB))))
          have HDK := hidMk (show Lp WB ms ds a3 d3 l3 from HD3.out.kept (HK4.out.trans (HK5.out.trans kB)))
          have HDM := hidMk (show Lp WB ms ds a4 d4 l4 from HD4.out.kept (HK5.out.trans kB))
          have HKB := hidMk (show Kept w WB from HKA.out.trans (HK1.out.trans (HKV.out.trans (HK3.out.trans (HK4.out.trans (HK5.out.trans kB))))))
          have v0 : hb < w5.heap.size := cell_lt t0
          have v1 : kb < w5.heap.size := cell_lt t1
          have v2 : mb < w5.heap.size := cell_lt hmc
          clear kB k45
          go_wp2_with fail
          rw [← hWB]
          clear hWB hmc t0 t1 v0 v1 v2
          refine (HSA.out _ a4 d4 l4 ha hc l4 HDM.out HDH.out).mono ?_
          rintro e w6 ⟨rfl, k6⟩
          have HT6 := hidMk (k6)
          rw [show decide (l4.map lkOf = l4.map lkOf) = true from decide_eq_true rfl]
          clear k6
          obtain ⟨t0, t1, t2⟩ := HQ.out _ HT6.out
          go_wp2_with fail
          refine (HSA.out _ a4 d4 l4 a3 d3 l3 (HDM.out.kept HT6.out) (HDK.out.kept HT6.out)).mono ?_
          rintro e w7 ⟨rfl, k7⟩
          have HT7 := hidMk (HT6.out.trans k7)
          clear k7 t0 t1 t2
          rw [HNE.out]
          by_cases hg1 : r5 = 12
          · subst hg1
            go_wp2_with fail
            refine (HKN.out _).mono ?_
            rintro e w9 ⟨rfl, k9⟩
            go_wp2_with fail
            go_ret
            exact ⟨by simp, HKB.out.trans (HT7.out.trans k9)⟩
          have hg1' : (r5 == 12) = false := by simpa using hg1
          by_cases hg2 : r5 = 3
          · subst hg2
            go_wp2_with fail
            refine (HKN.out _).mono ?_
            rintro e w9 ⟨rfl, k9⟩
            go_wp2_with fail
            go_ret
            exact ⟨by simp, HKB.out.trans (HT7.out.trans k9)⟩
          have hg2' : (r5 == 3) = false := by simpa using hg2
          have hou : us1 = us0 := by
            rcases HG.out with e | e | e
            · exact absurd e hg1
            · exact absurd e hg2
            · exact e
          have hou2 : (us1.toList == us0.toList) = true := by rw [hou]; simp
          clear hou
          go_wp2_with fail
          refine (HKN.out _).mono ?_
          rintro e w9 ⟨rfl, k9⟩
          go_wp2_with fail
          go_ret
          exact ⟨by simp, HKB.out.trans (HT7.out.trans k9)⟩
        · go_wp2_with fail
          refine (HAD.out _ (Kept.refl _)).mono ?_
          rintro e w3 ⟨a3, n3, d3, r3, rfl, ⟨rfl, l3, rfl, hd3, hm3, hl3, f3⟩, k3⟩
          have hl0 : l3 = [] := List.eq_nil_iff_forall_not_mem.2 (fun y hy => hr ((hm3 y).1 hy).1)
          subst hl0
          have HD3 := hidMk hd3
          have HK3 := hidMk k3
          clear hd3 hm3 hl3 f3 k3 y0 y1 y2 c0 c1 c2 c3 c4 c5 HDQ HAD
          go_wp2_with fail
          refine (HLS.out _ a3 d3 (HD3.out.kept ((Kept.refl _).alloc _))).mono ?_
          rintro e w4 ⟨⟨a4, c4, rfl⟩, k4⟩
          have HK4 := hidMk (((Kept.refl w3).alloc _).trans k4)
          clear k4
          go_wp2_with fail
          refine (HKN.out _).mono ?_
          rintro e w5 ⟨rfl, k5⟩
          go_wp2_with fail
          go_ret
          exact ⟨by simp, HKA.out.trans (HK1.out.trans (HKV.out.trans (HK3.out.trans (HK4.out.trans k5))))⟩
end Go.Proofs.YtmedgkccicbieaaGreat
