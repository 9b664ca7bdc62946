/- DimsMakes. -/
import Derived.Test.YtlcjnldkldkffaaLawDims5B
import Derived.Test.YtlcjnldkldkffaaRefDims12B
import Derived.Test.YtlcjnldkldkffaaDims14
import Derived.Test.YtlcjnldkldkffaaRefTree5B
import Derived.Test.YtlcjnldkldkffaaTree12
import Derived.Deep.RegionHeld3
import Derived.Deep.DeepMust
namespace Go.Proofs.Ytlcjnldkldkffaa
open Go.RowKit Go.Maps
set_option linter.unusedSimpArgs false
set_option linter.unusedVariables false

theorem catok_nodes {ds : List Dm} {ms : List ByteArray} {w : World} {a : Option Addr} {n : Nat} {na : Nat → Option Addr × Nat × Nat} (h : CatOk ds ms) (hs : Dss w a n ds na) (hn : n = ds.length) : ∀ k, k < ds.length → 1 ≤ (dmL ds k).length ∧ (dmL ds k).length ≤ 60 ∧ (∀ i, i < (dmL ds k).length → (nmA (dmL ds k) i).size ≤ maxLen) ∧ (∀ i, i < (dmL ds k).length → isI (upA (dmL ds k) i)) := by
  intro k hk
  have hg := add_good (h.add k hk)
  have hns := hs.nds k (by omega)
  have h2 := hg.2
  exact ⟨by omega, by omega, hns.nmb, hns.upb⟩
set_option maxHeartbeats 8000000 in
set_option maxRecDepth 100000 in
theorem law_DimsMakes (a : Option Addr) (n c : Nat) (ds : List Dm) (na : Nat → Option Addr × Nat × Nat) (b : Option Addr) (m d : Nat) (ms : List ByteArray) (lv sc : Int) (s : ByteArray) (w : World) (hs : Dss w a n ds na) (hm : Ss w b m ms) (hmz : ∀ i, i < ms.length → (msA ms i).size ≤ maxLen) :
    Calls Try.prog 3 #[.agg #[.slice a n c, .slice b m d, .int .i64 lv, .int .i64 sc], .string s] w fun e w' => e = .returned (.bool true) ∧ Kept w w' := by
  have hln := hs.len
  have hlm := hm.len
  subst hln
  subst hlm
  have hbm := hm.big
  have HS := hidMk hs
  have HM := hidMk hm
  have HKN := hidMk law6_known
  have HSM := hidMk (show ∀ y, Kept w y → _ from fun y hy => law6_small a ds.length c ds na b ms.length d lv sc y (hs.kept hy) hbm)
  have HN1 := hidMk (show ∀ y, Kept w y → _ from fun y hy => dims_New a ds.length c ds na b ms.length d ms lv sc y (hs.kept hy) (hm.kept hy) hmz)
  have HN2 := hidMk (show ∀ y, Kept w y → _ from fun y hy => ref6_New a ds.length c ds na b ms.length d ms lv sc y (hs.kept hy) (hm.kept hy) hmz)
  clear hs hm hmz hbm
  go_enter Try.func3, Try.ntmps3
  go_wp2_with fail
  refine (HSM.out _ ((Kept.refl w).alloc _)).mono ?_
  rintro e w1 ⟨r1, rfl, hsm, k1⟩
  have HK1 := hidMk (show Kept w w1 from ((Kept.refl w).alloc _).trans k1)
  have y0 : w1.cell? ⟨w.heap.size, 0, none⟩ = some (.slice a ds.length c) := k1.cellp (by simp)
  have y1 : w1.cell? ⟨w.heap.size, 1, none⟩ = some (.slice b ms.length d) := k1.cellp (by simp)
  have y2 : w1.cell? ⟨w.heap.size, 2, none⟩ = some (.int .i64 lv) := k1.cellp (by simp)
  have y3 : w1.cell? ⟨w.heap.size, 3, none⟩ = some (.int .i64 sc) := k1.cellp (by simp)
  clear k1 HSM
  cases r1 with
  | false =>
    go_wp2_with fail
    refine (HKN.out _).mono ?_
    rintro e w2 ⟨rfl, k2⟩
    have K2 := hidMk k2
    clear k2
    go_wp2_with fail
    go_ret
    exact ⟨rfl, HK1.out.trans K2.out⟩
  | true =>
    clear hsm
    go_wp2_with fail
    refine (HN1.out _ HK1.out).mono ?_
    rintro e w2 (⟨w0, p, tp, ma, mc, dv, rfl, hc1, hD, k2⟩ | ⟨at1, er1, rfl, her1, hc1, k2⟩)
    · have HD := hidMk hD
      have HK2 := hidMk (HK1.out.trans k2)
      have HC1 := hidMk hc1
      have u0 := k2.cellp y0
      have u1 := k2.cellp y1
      have u2 := k2.cellp y2
      have u3 := k2.cellp y3
      clear hD k2 hc1 y0 y1 y2 y3
      go_wp2_with fail
      refine (HN2.out _ HK2.out).mono ?_
      rintro e w3 (⟨q, rt, rfl, hc2, hR, k3⟩ | ⟨at2, er2, rfl, her2, hc2, k3⟩)
      · have HR := hidMk hR
        have HOK := hidMk (cat_ok HC1.out)
        have HK3 := hidMk (HK2.out.trans k3)
        have HD3 := hidMk (HD.out.kept k3)
        have hd4 := HOK.out.d4
        have hm4 := HOK.out.m4
        have hd1 := HOK.out.d1
        have g0 := k3.cellp u0
        have g1 := k3.cellp u1
        have g2 := k3.cellp u2
        have g3 := k3.cellp u3
        have hcn := catok_nodes HOK.out HS.out rfl
        have hnm : ∀ k, k < ds.length → (dmN ds k).size ≤ maxLen := HS.out.nmb
        have HMN := hidMk (show ∀ y, Kept w3 y → _ from fun y hy => dims_Many (HD3.out.kept hy) (by omega))
        have HFD := hidMk (show ∀ y, Kept w3 y → ∀ t, _ from fun y hy t => dims_Find (HD3.out.kept hy) (by omega) t)
        have HFS := hidMk (show ∀ y, Kept w3 y → _ from fun y hy => dims_Find (HD3.out.kept hy) (by omega) s)
        have HNS := hidMk (show ∀ y, Kept w3 y → _ from fun y hy => ref6_Names a ds.length c ds na y (HS.out.kept (HK3.out.trans hy)) (by omega))
        have HF1 := hidMk (show ∀ y a' c', Ss y a' (lbl ds).length (lbl ds) → _ from fun y a' c' hss => ref6_Find a' (lbl ds).length c' (lbl ds) s y hss)
        have HF2 := hidMk (show ∀ y, Kept w3 y → _ from fun y hy => ref6_Find b ms.length d ms s y (HM.out.kept (HK3.out.trans hy)))
        have HME := hidMk (show ∀ y, Kept w3 y → _ from fun y hy => dims_Meas (HD3.out.kept hy) s)
        have HCT := hidMk (show ∀ y, Kept w3 y → _ from fun y hy => dims_Cat (HD3.out.kept hy) hd4 hcn hnm hm4)
        have HSA := hidMk (show ∀ y, Kept w3 y → ∀ a' c' na' b' d', Dss y a' ds.length ds na' → Ss y b' ms.length ms → _ from fun y hy a' c' na' b' d' h1 h2 => ref6_Same a' a ds.length c' c ds na' na b' b ms.length d' d ms lv sc y h1 (HS.out.kept (HK3.out.trans hy)) h2 (HM.out.kept (HK3.out.trans hy)))
        have HTR := hidMk (show ∀ y, Kept w3 y → ∀ k, _ from fun y hy k => dims_Tree (HD3.out.kept hy) hd4 k)
        have tn1 : treeP ds tp (-1) = none := if_neg (by omega)
        have tn2 : treeP ds tp ds.length = none := if_neg (by omega)
        have q1 : ((ds.length : Int) != (ds.length : Int)) = false := by simp
        have q2 : (idxI (lbl ds) s != idxI (lbl ds) s) = false := by simp
        have q3 : (idxI ms s != idxI ms s) = false := by simp
        have HLN := hidMk (lbl_len ds)
        have HPL := hidMk (show ∀ k : Nat, k < ds.length → idxI (lbl ds) (dmN ds k) = k from fun k hk => HOK.out.place hk)
        clear hR k3 hc2 u0 u1 u2 u3 hcn hnm
        generalize idxI (lbl ds) s = i1 at *
        generalize idxI ms s = i2 at *
        go_wp2_with fail
        go_region_held3 (fun w' => w'.cell? ⟨w.heap.size, 0, none⟩ = some (.slice a ds.length c) ∧ w'.cell? ⟨w.heap.size, 1, none⟩ = some (.slice b ms.length d) ∧ w'.cell? ⟨w.heap.size, 2, none⟩ = some (.int .i64 lv) ∧ w'.cell? ⟨w.heap.size, 3, none⟩ = some (.int .i64 sc)) (first | assumption | (refine ⟨Kept.cellp ?_ g0, Kept.cellp ?_ g1, Kept.cellp ?_ g2, Kept.cellp ?_ g3⟩ <;> ((repeat (first | (with_reducible exact Kept.refl _) | (with_reducible refine Kept.alloc ?_ _) | (with_reducible refine Kept.drew ?_) | (with_reducible refine Kept.drewN ?_ _) | (with_reducible refine Kept.trans ?_ (by assumption)))); done)))
          (first
            | (go_at_call 9; refine (HMN.out _ (by (repeat (first | (with_reducible exact Kept.refl _) | (with_reducible refine Kept.alloc ?_ _) | (with_reducible refine Kept.drew ?_) | (with_reducible refine Kept.drewN ?_ _) | (with_reducible refine Kept.trans ?_ (by assumption)))))).mono ?_; rintro e y5 ⟨rfl, rfl⟩)
            | (go_at_call 10; refine (HFS.out _ (by (repeat (first | (with_reducible exact Kept.refl _) | (with_reducible refine Kept.alloc ?_ _) | (with_reducible refine Kept.drew ?_) | (with_reducible refine Kept.drewN ?_ _) | (with_reducible refine Kept.trans ?_ (by assumption)))))).mono ?_; rintro e y5 ⟨rfl, k5⟩)
            | (go_at_call 12; refine (HNS.out _ (by (repeat (first | (with_reducible exact Kept.refl _) | (with_reducible refine Kept.alloc ?_ _) | (with_reducible refine Kept.drew ?_) | (with_reducible refine Kept.drewN ?_ _) | (with_reducible refine Kept.trans ?_ (by assumption)))))).mono ?_; rintro e y5 ⟨v5, rfl, o5, k5⟩; obtain ⟨a5, c5, rfl, s5, b5⟩ := own_ss (by rw [HLN.out]; unfold maxLen; omega) o5; clear o5 b5)
            | (go_at_call 11; (with_reducible refine (HF1.out _ _ _ (by assumption)).mono ?_); rintro e y5 ⟨rfl, rfl⟩)
            | (go_at_call 11; refine (HF2.out _ (by (repeat (first | (with_reducible exact Kept.refl _) | (with_reducible refine Kept.alloc ?_ _) | (with_reducible refine Kept.drew ?_) | (with_reducible refine Kept.drewN ?_ _) | (with_reducible refine Kept.trans ?_ (by assumption)))))).mono ?_; rintro e y5 ⟨rfl, rfl⟩)
            | (go_at_call 13; refine (HME.out _ (by (repeat (first | (with_reducible exact Kept.refl _) | (with_reducible refine Kept.alloc ?_ _) | (with_reducible refine Kept.drew ?_) | (with_reducible refine Kept.drewN ?_ _) | (with_reducible refine Kept.trans ?_ (by assumption)))))).mono ?_; rintro e y5 ⟨rfl, rfl⟩)
            | (go_at_call 15; refine (HCT.out _ (by (repeat (first | (with_reducible exact Kept.refl _) | (with_reducible refine Kept.alloc ?_ _) | (with_reducible refine Kept.drew ?_) | (with_reducible refine Kept.drewN ?_ _) | (with_reducible refine Kept.trans ?_ (by assumption)))))).mono ?_; rintro e y5 ⟨a6, c6, na6, b6, d6, rfl, h6, s6, k5⟩)
            | (go_at_call 14; refine (HSA.out _ (by (repeat (first | (with_reducible exact Kept.refl _) | (with_reducible refine Kept.alloc ?_ _) | (with_reducible refine Kept.drew ?_) | (with_reducible refine Kept.drewN ?_ _) | (with_reducible refine Kept.trans ?_ (by assumption))))) _ _ _ _ _ (by assumption) (by assumption)).mono ?_; rintro e y5 ⟨rfl, k5⟩)
            | (go_at_call 16; refine (HTR.out _ (by (repeat (first | (with_reducible exact Kept.refl _) | (with_reducible refine Kept.alloc ?_ _) | (with_reducible refine Kept.drew ?_) | (with_reducible refine Kept.drewN ?_ _) | (with_reducible refine Kept.trans ?_ (by assumption))))) _).mono ?_; rintro e y5 ⟨rfl, rfl⟩))
        refine gen_world (f := fun W => Exit.then _ _ _ _ W) (fun W => Kept w3 W) (by (repeat (first | (with_reducible exact Kept.refl _) | (with_reducible refine Kept.alloc ?_ _) | (with_reducible refine Kept.drew ?_) | (with_reducible refine Kept.drewN ?_ _) | (with_reducible refine Kept.trans ?_ (by assumption))))) ?_
        rintro W4 k4
        have z0 := k4.cellp g0
        have HK4 := hidMk (HK3.out.trans k4)
        have HR4 := hidMk (HR.out.kept k4)
        have HD4 := hidMk (HD3.out.kept k4)
        clear k4 g0 g1 g2 g3 HMN HFD HFS HNS HF1 HF2 HME HCT HSA HTR tn1 tn2 q1 q2 q3 HN1 HN2 HK3 HR HD3 HK2 HD HK1
        go_wp2_with fail
        go_loopg [11] ds.length (fun g x wr => ∃ k : Nat, k + g = ds.length ∧ x = .int .i64 k ∧ Kept W4 wr)
        case atStart => exact ⟨0, by omega, rfl, Kept.refl _⟩
        case round =>
          obtain ⟨k, hkg, rfl, hk⟩ := hrel
          have HKG := hidMk hkg
          have HK := hidMk hk
          have s0 := hk.cellp z0
          by_cases hkd : k < ds.length
          · obtain ⟨⟨rm, rmc, _, _⟩, ⟨ta, tc, t4, htp⟩, htr⟩ := HR4.out.kept hk
            obtain ⟨tb, rfl, htb⟩ := htp (by omega)
            have t5 := htb k hkd
            have HRT := hidMk (htr k hkd)
            obtain ⟨lo, hi, hsol, _, _⟩ := (HD4.out.kept hk).tr k hkd
            have HWW := hidMk hsol.whole
            have HTT := hidMk hsol.whole.tr
            obtain ⟨db, do_, rfl, _, hdc⟩ := (HS.out.kept (HK4.out.trans hk)).cells (by omega)
            obtain ⟨dn, _⟩ := hdc k hkd
            have HTR := hidMk (show ∀ y, Kept wr y → Calls Try.prog 16 #[.pointer (some ⟨p, 0, none⟩), .int .i64 k] y fun e w' => e = .returned (.pointer (some ⟨tp k, 0, none⟩)) ∧ w' = y from fun y hy => by
              refine (dims_Tree (HD4.out.kept (hk.trans hy)) hd4 k).mono ?_
              rintro e w' ⟨rfl, rfl⟩
              refine ⟨?_, rfl⟩
              unfold treeP
              rw [if_pos (by omega), Int.toNat_natCast])
            have HOR := hidMk (show ∀ y, Kept wr y → _ from fun y hy => w_Order (HWW.out.kept hy))
            have HRO := hidMk (show ∀ y, Kept wr y → _ from fun y hy => r_Order (HRT.out.kept hy) HTT.out)
            have HIN := hidMk (show ∀ y a5 a6 c5 c6, Sl .i64 y a5 (ints (ordN (dmL ds k))).length (ints (ordN (dmL ds k))) → Sl .i64 y a6 (ints (ordN (dmL ds k))).length (ints (ordN (dmL ds k))) → Calls Try.prog 17 #[.slice a5 (ints (ordN (dmL ds k))).length c5, .slice a6 (ints (ordN (dmL ds k))).length c6] y fun e w' => e = .returned (.bool true) ∧ Kept y w' from fun y a5 a6 c5 c6 h1 h2 => by
              have := ref_Ints a5 a6 _ _ c5 c6 _ _ y h1 h2
              rw [decide_eq_true rfl] at this
              exact this)
            have HFN := hidMk (show ∀ y, Kept wr y → Calls Try.prog 10 #[.pointer (some ⟨p, 0, none⟩), .string (dmN ds k)] y fun e w' => e = .returned (.int .i64 k) ∧ Kept y w' from fun y hy => by
              have := dims_Find (HD4.out.kept (hk.trans hy)) (by omega) (dmN ds k)
              rw [HPL.out k hkd] at this
              exact this)
            have HLE := hidMk (show (ints (ordN (dmL ds k))).length ≤ 60 by have h1 := ord_len hsol.whole.tr; have h2 := hsol.whole.big; rw [ints_len]; omega)
            have q4 : ((k : Int) != (k : Int)) = false := by simp
            have kd' : (k : Int) < ds.length := by omega
            clear htp htb htr hsol hdc hk hkg z0 HWW HRT
            generalize ints (ordN (dmL ds k)) = OL at *
            generalize dmN ds k = nm at *
            generalize tp k = tq at *
            generalize rt k = rq at *
            go_wp2_with fail
            go_region_held3 (fun w' => w'.cell? ⟨w.heap.size, 0, none⟩ = some (.slice (some ⟨db, do_, none⟩) ds.length c) ∧ w'.cell? ⟨q, 4, none⟩ = some (.slice (some ⟨tb, 0, none⟩) ds.length tc) ∧ w'.cell? ⟨tb, k, none⟩ = some (.pointer (some ⟨rq, 0, none⟩)) ∧ w'.cell? ⟨db, do_ + k * 2, none⟩ = some (.string nm)) (first | assumption | (refine ⟨Kept.cellp ?_ s0, Kept.cellp ?_ t4, Kept.cellp ?_ t5, Kept.cellp ?_ dn⟩ <;> ((repeat (first | (with_reducible exact Kept.refl _) | (with_reducible refine Kept.alloc ?_ _) | (with_reducible refine Kept.drew ?_) | (with_reducible refine Kept.drewN ?_ _) | (with_reducible refine Kept.trans ?_ (by assumption)))); done)))
              (first
                | (go_at_call 16; refine (HTR.out _ (by (repeat (first | (with_reducible exact Kept.refl _) | (with_reducible refine Kept.alloc ?_ _) | (with_reducible refine Kept.drew ?_) | (with_reducible refine Kept.drewN ?_ _) | (with_reducible refine Kept.trans ?_ (by assumption)))))).mono ?_; rintro e y5 ⟨rfl, rfl⟩)
                | (go_at_call 18; refine (HOR.out _ (by (repeat (first | (with_reducible exact Kept.refl _) | (with_reducible refine Kept.alloc ?_ _) | (with_reducible refine Kept.drew ?_) | (with_reducible refine Kept.drewN ?_ _) | (with_reducible refine Kept.trans ?_ (by assumption)))))).mono ?_; rintro e y5 ⟨v5, rfl, o5, k5⟩; obtain ⟨a5, c5, rfl, s5⟩ := o5.sl (by have := HLE.out; unfold maxLen; omega); clear o5)
                | (go_at_call 19; refine (HRO.out _ (by (repeat (first | (with_reducible exact Kept.refl _) | (with_reducible refine Kept.alloc ?_ _) | (with_reducible refine Kept.drew ?_) | (with_reducible refine Kept.drewN ?_ _) | (with_reducible refine Kept.trans ?_ (by assumption)))))).mono ?_; rintro e y6 ⟨v6, rfl, o6, k6⟩; obtain ⟨a6, c6, rfl, s6⟩ := o6.sl (by have := HLE.out; unfold maxLen; omega); have s7 := s5.kept k6; clear o6)
                | (go_at_call 17; refine (HIN.out _ _ _ _ _ (by assumption) (by assumption)).mono ?_; rintro e y7 ⟨rfl, k7⟩)
                | (go_at_call 10; refine (HFN.out _ (by (repeat (first | (with_reducible exact Kept.refl _) | (with_reducible refine Kept.alloc ?_ _) | (with_reducible refine Kept.drew ?_) | (with_reducible refine Kept.drewN ?_ _) | (with_reducible refine Kept.trans ?_ (by assumption)))))).mono ?_; rintro e y8 ⟨rfl, k8⟩))
            refine gen_world (f := fun W => Exit.then _ _ _ _ W) (fun W => Kept wr W) (by (repeat (first | (with_reducible exact Kept.refl _) | (with_reducible refine Kept.alloc ?_ _) | (with_reducible refine Kept.drew ?_) | (with_reducible refine Kept.drewN ?_ _) | (with_reducible refine Kept.trans ?_ (by assumption))))) ?_
            rintro W5 k5
            have K5 := hidMk (HK.out.trans k5)
            clear k5 s0 t4 t5 dn
            go_wp2_with fail
            go_roundg (gk - 1)
            case measure => have := HKG.out; omega
            case rel => exact ⟨k + 1, by have := HKG.out; omega, by go_num, K5.out⟩
          · have e : k = ds.length := by omega
            subst e
            have kd' : ¬ ((ds.length : Int) < ds.length) := by omega
            clear hk hkg
            go_wp2_with fail
            refine (HKN.out _).mono ?_
            rintro e w9 ⟨rfl, k9⟩
            have K9 := hidMk (HK4.out.trans (HK.out.trans k9))
            clear k9
            go_wp2_with fail
            go_ret
            exact ⟨rfl, K9.out⟩
      · exact absurd (cat_one HC1.out hc2).2 (fun e => her2 e.symm)
    · have HK2 := hidMk (HK1.out.trans k2)
      have HC1 := hidMk hc1
      have u0 := k2.cellp y0
      have u1 := k2.cellp y1
      have u2 := k2.cellp y2
      have u3 := k2.cellp y3
      clear k2 hc1 y0 y1 y2 y3
      go_wp2_with fail
      refine (HN2.out _ HK2.out).mono ?_
      rintro e w3 (⟨q, rt, rfl, hc2, hR, k3⟩ | ⟨at2, er2, rfl, her2, hc2, k3⟩)
      · exact absurd (cat_one HC1.out hc2).2 her1
      · obtain ⟨rfl, rfl⟩ := cat_one HC1.out hc2
        have HK3 := hidMk (HK2.out.trans k3)
        have q1 : (at1 != at1) = false := by simp
        have q2 : (er1 != er1) = false := by simp
        clear k3 hc2 her1 her2 u0 u1 u2 u3
        go_wp2_with fail
        refine (HKN.out _).mono ?_
        rintro e w4 ⟨rfl, k4⟩
        have K4 := hidMk (HK3.out.trans k4)
        clear k4
        go_wp2_with fail
        go_ret
        exact ⟨rfl, K4.out⟩
end Go.Proofs.Ytlcjnldkldkffaa
