/- The reference's New of a catalogue: a catalogue of fitting counts. -/
import Derived.Test.YtbhojgodkblflaaRefDims9B
import Derived.Test.YtbhojgodkblflaaRefTree3
namespace Go.Proofs.Ytbhojgodkblflaa
open Go.RowKit Go.Maps
set_option linter.unusedSimpArgs false
set_option linter.unusedVariables false

set_option maxHeartbeats 8000000 in
set_option maxRecDepth 100000 in
theorem ref6_New_yes (a : Option Addr) (n c : Nat) (ds : List Dm) (na : Nat → Option Addr × Nat × Nat) (b : Option Addr) (m d : Nat) (ms : List ByteArray) (lv sc : Int) (w : World) (hs : Dss w a n ds na) (hm : Ss w b m ms) (hmz : ∀ i, i < ms.length → (msA ms i).size ≤ maxLen) (h1 : 1 ≤ n ∧ n ≤ 4) (h2 : 1 ≤ m ∧ m ≤ 4) :
    Calls Try.prog 19 #[.agg #[.slice a n c, .slice b m d, .int .i64 lv, .int .i64 sc]] w (RNewPost w ds ms lv sc) := by
  have hln := hs.len
  have hlm := hm.len
  have HS := hidMk hs
  have HM := hidMk hm
  have HMZ := hidMk hmz
  have n1' : ((n : Int) == 0) = false := by simp; omega
  have n2' : (n : Int) ≤ 4 := by omega
  have m1' : ((m : Int) == 0) = false := by simp; omega
  have m2' : (m : Int) ≤ 4 := by omega
  clear hs hm hmz
  go_enter Try.func19, Try.ntmps19
  go_wp2_with fail
  refine gen_world (f := fun W => Code.wp _ _ _ _ W) (fun W => RG (w.alloc (.cells #[.slice a n c, .slice b m d, .int .i64 lv, .int .i64 sc] 25)) W (w.heap.size + 1) (w.heap.size + 1 + 1) ds 0 (fun _ => 0) (.slice none 0 0) (.slice a n c) (.slice b m d)) ⟨by simp, by simp, by simp, by simp, World.ownsRow_nil _ _ _ _, fun _ => rfl, fun j hj => absurd hj (by omega), ⟨_, _, _, rfl⟩, by omega, by simp, (Kept.refl _).alloc _, by simp⟩ ?_
  intro W0 hW0
  have hc0 : W0.cell? ⟨w.heap.size, 0, none⟩ = some (.slice a n c) := hW0.kept.cellp (by simp)
  have hc1 : W0.cell? ⟨w.heap.size, 1, none⟩ = some (.slice b m d) := hW0.kept.cellp (by simp)
  have hc2 : W0.cell? ⟨w.heap.size, 2, none⟩ = some (.int .i64 lv) := hW0.kept.cellp (by simp)
  have hc3 : W0.cell? ⟨w.heap.size, 3, none⟩ = some (.int .i64 sc) := hW0.kept.cellp (by simp)
  have HW0 := hidMk hW0
  have hwa : Kept w (w.alloc (.cells #[.slice a n c, .slice b m d, .int .i64 lv, .int .i64 sc] 25)) := (Kept.refl w).alloc _
  have HWA := hidMk hwa
  have HC := hidMk (show ∀ y, Kept (w.alloc (.cells #[.slice a n c, .slice b m d, .int .i64 lv, .int .i64 sc] 25)) y → y.cell? ⟨w.heap.size, 0, none⟩ = some (.slice a n c) ∧ y.cell? ⟨w.heap.size, 1, none⟩ = some (.slice b m d) ∧ y.cell? ⟨w.heap.size, 2, none⟩ = some (.int .i64 lv) ∧ y.cell? ⟨w.heap.size, 3, none⟩ = some (.int .i64 sc) from fun y hy => ⟨hy.cellp (by simp), hy.cellp (by simp), hy.cellp (by simp), hy.cellp (by simp)⟩)
  have hpz : w.heap.size < w.heap.size + 1 := by omega
  generalize hz : w.alloc (.cells #[.slice a n c, .slice b m d, .int .i64 lv, .int .i64 sc] 25) = z at *
  generalize hp : w.heap.size + 1 = p at *
  clear hW0 hwa hz hc0 hc1 hc2 hc3
  go_loopg [6, 7, 8] n (fun g x y i wr => ∃ (k : Nat) (rt : Nat → Nat) (tv : Value), k + g = n ∧ i = .int .i64 k ∧ x = .int .i64 (cellsN m (ds.take k)) ∧ y = .int .i64 (leavesN m (ds.take k)) ∧ RG z wr p (p + 1) ds k rt tv (.slice a n c) (.slice b m d) ∧ Hid (∀ j, j < k → AddOk ds j 0))
  case atStart => exact ⟨0, _, _, by omega, rfl, rfl, rfl, HW0.out, hidMk fun j hj => absurd hj (by omega)⟩
  case round =>
    obtain ⟨k, rt, tv, hkg, rfl, rfl, rfl, hD, HJ⟩ := hrel
    have HKG := hidMk hkg
    have HD := hidMk hD
    have HKR := hidMk (show Kept w wr from HWA.out.trans hD.kept)
    obtain ⟨r0, r1, r2, r3⟩ := HC.out wr hD.kept
    by_cases hkn : k < n
    · have hnam := ref6_Names a n c ds na wr (HS.out.kept HKR.out) (by omega)
      have HNAM := hidMk hnam
      have HADN := hidMk (add_of_named (ds := ds) (k := k) (by omega))
      have hzz : (msA (lbl ds) k).size ≤ maxLen := by
        rw [show msA (lbl ds) k = dmN ds k from lbl_get ds k (by omega)]
        exact HS.out.nmb k hkn
      have HZZ := hidMk hzz
      have hll : (lbl ds).length = n := by rw [lbl_len]; exact hln
      clear hnam hzz hkg hD
      obtain ⟨bb, oo, rfl, _, hcs⟩ := HS.out.cells (by omega)
      have HCS := hidMk (hcs k hkn)
      clear hcs
      have kn' : (k : Int) < n := by omega
      go_wp2_with fail
      refine HNAM.out.mono ?_
      rintro e w1 ⟨v, rfl, hown, k1⟩
      obtain ⟨sa, sc', rfl, hss, _⟩ := own_ss (by rw [hll]; unfold maxLen; omega) hown
      rw [hll] at hss
      rw [hll]
      have HNM := hidMk (ref6_named sa n sc' (lbl ds) k w1 hss hkn HZZ.out)
      have HK1 := hidMk k1
      clear hss hown k1 hll
      go_wp2_with fail
      refine HNM.out.mono ?_
      rintro e w2 ⟨rfl, k2⟩
      have HK2 := hidMk (HK1.out.trans k2)
      have HR2 := hidMk (HD.out.keep HK2.out)
      obtain ⟨q0, q1, q2, q3⟩ := HC.out w2 HR2.out.kept
      have HKW2 := hidMk (HKR.out.trans HK2.out)
      have d2 := HKW2.out.cellp HCS.out.2
      have hnd := (HS.out.kept HKW2.out).nds k hkn
      clear k2 HNM HNAM
      generalize measE (lbl ds) k = me at *
      by_cases hme : me = 0
      · subst hme
        generalize hna : na k = nk at *
        obtain ⟨n1, n2, n3⟩ := nk
        simp only [slv] at d2 hnd
        have HRN := hidMk (r_New n1 n2 n3 (dmL ds k) w2 hnd)
        have HAD := hidMk (HADN.out.2 rfl)
        clear hnd hna HADN
        go_wp2_with fail
        refine HRN.out.mono ?_
        rintro e w3 (⟨q, hq, rfl, hNI, hrt, k3⟩ | ⟨at_, er, rfl, her, hNI, k3⟩)
        · have HK3 := hidMk k3
          have HR3 := hidMk (HR2.out.keep k3)
          have HRT := hidMk hrt
          have hOK : AddOk ds k 0 := HAD.out 0 0 hNI
          have HJ2 := hidMk (show ∀ j, j < k + 1 → AddOk ds j 0 from fun j hj => by
              by_cases e : j = k
              · subst e; exact hOK
              · exact HJ.out j (by omega))
          obtain ⟨hgd, hl1, hl2⟩ := new_good hNI
          have HTR := hidMk (tr_of hgd)
          obtain ⟨s1, s2⟩ := cells_small (m := m) (ds := ds) (k := k) (by omega) (by omega) (by omega) HJ2.out
          obtain ⟨e1, e2⟩ := cells_take (m := m) (ds := ds) (k := k) (by omega)
          have HE1 := hidMk e1
          have HE2 := hidMk e2
          have hpq : p < q := by have := HR2.out.hB; omega
          have t4 := HR3.out.c4
          have o4 := HR3.out.own
          have HO4 := hidMk (show (w3.alloc (.cells #[.pointer (some ⟨q, 0, none⟩)] 90)).ownsRow (p + 1) 90 1 tv k (ptrs rt k) from ownsRow_kept o4 ((Kept.refl w3).alloc _))
          have hB3 := HR3.out.hB
          have HB3 := hidMk hB3
          have hlk := lvs_len (tr_of hgd)
          clear k3 hrt hOK hNI hgd HAD HJ e1 e2 o4 hB3 HRN d2 q0 q1 q2 q3 r0 r1 r2 r3 hq
          go_wp2_with (at_builtin; refine wpList_pushP _ rfl _ _ rfl (p + 1) tv rt k rfl HO4.out ?c1 w3.heap.size q rfl ?c2 (by omega) _ rfl ?_)
          case c1 => have := HB3.out; simp; omega
          case c2 => simp
          intro g' cap y ho hc
          obtain ⟨f1, f2, f3⟩ := HR3.out.push ((Kept.refl w3).alloc _) HRT.out hpq (by omega) ho hc
          have hrt := (f3.tr k (by omega)).1
          simp only [if_true] at hrt
          obtain ⟨tb, tc, t1, _⟩ := hrt.ex
          have HLV := hidMk (r_Leaves hrt HTR.out)
          have HR4 := hidMk f3
          clear ho hc f3 hrt t4 HO4 HB3
          generalize cellsN m (ds.take k) = X at *
          generalize leavesN m (ds.take k) = Y at *
          generalize (dmL ds k).length = Ln at *
          generalize lvsN (dmL ds k) = LV at *
          have g1 : ((X : Int) * (Ln : Int)) = ((X * Ln : Nat) : Int) := by simp
          have g2 : ((Y : Int) * (LV.length : Int)) = ((Y * LV.length : Nat) : Int) := by simp
          generalize hXL : X * Ln = XL at *
          generalize hYL : Y * LV.length = YL at *
          have m1 : wrap64 ((X : Int) * (Ln : Int)) = XL := by rw [g1]; exact (wrap_small XL s1).1
          have m2 : wrap64 ((Y : Int) * (LV.length : Int)) = YL := by rw [g2]; exact (wrap_small YL s2).1
          have m3 : IntKind.i64.wrap ((X : Int) * (Ln : Int)) = XL := by rw [g1]; exact (wrap_small XL s1).2
          have m4 : IntKind.i64.wrap ((Y : Int) * (LV.length : Int)) = YL := by rw [g2]; exact (wrap_small YL s2).2
          clear hXL hYL g1 g2
          go_wp2_with fail
          refine HLV.out.mono ?_
          rintro e w6 ⟨v6, rfl, o6, k6⟩
          obtain ⟨a6, c6, rfl, _⟩ := o6.sl (by rw [ints_len]; unfold maxLen; omega)
          rw [ints_len]
          have HR6 := hidMk (HR4.out.keep k6)
          clear o6 k6
          go_wp2_with fail
          go_roundg (gk - 1)
          case measure => have := HKG.out; omega
          case rel =>
            refine ⟨k + 1, _, _, by have := HKG.out; omega, by go_num, ?_, ?_, HR6.out, HJ2⟩
            · rw [HE1.out]
            · rw [HE2.out]
        · have HFIN := hidMk (show CatIs ds ms lv sc (k : Nat) er from .inr ⟨by omega, .inl ⟨k, by omega, HAD.out at_ er hNI, her, HJ.out, rfl⟩⟩)
          have HER := hidMk her
          have her' : (er != 0) = true := by simpa using her
          have K3 := hidMk k3
          clear k3 hNI her HAD
          go_wp2_with fail
          go_ret3
          exact .inr ⟨k, er, rfl, HER.out, HFIN.out, HKW2.out.trans K3.out⟩
      · have HFIN := hidMk (show CatIs ds ms lv sc (k : Nat) me from .inr ⟨by omega, .inl ⟨k, by omega, HADN.out.1 hme, hme, HJ.out, rfl⟩⟩)
        have HME := hidMk hme
        have hme' : (me != 0) = true := by simpa using hme
        clear hme HADN hnd d2
        go_wp2_with fail
        go_ret3
        exact .inr ⟨k, me, rfl, HME.out, HFIN.out, HKW2.out⟩
    · have hk : k = n := by omega
      have htk : ds.take k = ds := List.take_of_length_le (by omega)
      rw [htk]
      have HAL := hidMk (show ∀ j, j < ds.length → AddOk ds j 0 from fun j hj => HJ.out j (by omega))
      have HRK := hidMk (show RG z wr p (p + 1) ds ds.length rt tv (.slice a n c) (.slice b m d) from by rw [show ds.length = k by omega]; exact hD)
      have hkk : ¬ ((k : Int) < (n : Int)) := by omega
      have HCC := hidMk (show ∀ y, Kept wr y → _ from fun y hy => HC.out y (hD.kept.trans hy))
      obtain ⟨wA, hwA⟩ : ∃ wA, wA = wr := ⟨_, rfl⟩
      subst hwA
      clear hkg HKG HJ htk HD hD
      go_wp2_with fail
      go_loopg [13] m (fun g x wq => ∃ j : Nat, j + g = m ∧ x = .int .i64 j ∧ Kept wA wq ∧ Hid (∀ i, i < j → measE ms i = 0))
      case atStart => exact ⟨0, by omega, rfl, Kept.refl _, hidMk fun j hj => absurd hj (by omega)⟩
      case round =>
        obtain ⟨j, hjg, rfl, hk, HI⟩ := hrel
        have HJG := hidMk hjg
        have HK := hidMk hk
        obtain ⟨q0, q1, q2, q3⟩ := HCC.out _ hk
        have HKW := hidMk (HKR.out.trans hk)
        by_cases hjm : j < m
        · have HNM := hidMk (show ∀ y, Kept w y → _ from fun y hy => ref6_named b m d ms j y (HM.out.kept hy) hjm (HMZ.out j (by omega)))
          generalize hme' : measE ms j = me at *
          have HME' := hidMk hme'
          have jm' : (j : Int) < m := by omega
          clear hjg hk hme'
          go_wp2_with fail
          refine (HNM.out _ HKW.out).mono ?_
          rintro e w2 ⟨rfl, k2⟩
          have K2 := hidMk k2
          clear k2
          by_cases hme : me = 0
          · subst hme
            have HI2 := hidMk (show ∀ i, i < j + 1 → measE ms i = 0 from fun i hi => by
              by_cases e : i = j
              · subst e; exact HME'.out
              · exact HI.out i (by omega))
            go_wp2_with fail
            go_roundg (gk - 1)
            case measure => have := HJG.out; omega
            case rel => exact ⟨j + 1, by have := HJG.out; omega, by go_num, HK.out.trans K2.out, HI2⟩
          · have HFIN := hidMk (show CatIs ds ms lv sc (-1) me from .inr ⟨by omega, .inr ⟨HAL.out, .inl ⟨j, by omega, by rw [HME'.out]; exact hme, HI.out, HME'.out.symm⟩, by rw [if_neg hme]⟩⟩)
            have HME := hidMk hme
            have hme' : (me != 0) = true := by simpa using hme
            clear hme
            go_wp2_with fail
            go_ret3
            exact .inr ⟨-1, me, rfl, HME.out, HFIN.out, HKW.out.trans K2.out⟩
        · have jm' : ¬ ((j : Int) < (m : Int)) := by omega
          have HT := hidMk (show tailE m ds lv sc = if 4096 < cellsN m ds ∨ 1024 < leavesN m ds then 5 else if fromB lv 1024 && fromB sc 8 then 0 else 17 from rfl)
          have HFT := hidMk (show ∀ er, er = tailE m ds lv sc → CatIs ds ms lv sc (if er = 0 then 0 else -1) er from fun er e => .inr ⟨by omega, .inr ⟨HAL.out, .inr ⟨fun i hi => HI.out i (by omega), by rw [hlm]; exact e⟩, rfl⟩⟩)
          have HRD := hidMk ((HRK.out.keep hk).rdm rfl (HM.out.kept HKW.out))
          generalize tailE m ds lv sc = te at *
          generalize cellsN m ds = X at *
          generalize leavesN m ds = Y at *
          clear hk hjg HJG HI
          by_cases hX : 4096 < X
          · have HTT := hidMk (show (5 : Int) = te by rw [HT.out, if_pos (.inl hX)])
            have hX' : (4096 : Int) < X := by omega
            go_wp2_with fail
            go_ret3
            exact .inr ⟨-1, 5, rfl, by omega, HFT.out 5 HTT.out, HKW.out⟩
          have hX' : (X : Int) ≤ 4096 := by omega
          by_cases hY : 1024 < Y
          · have HTT := hidMk (show (5 : Int) = te by rw [HT.out, if_pos (.inr hY)])
            have hY' : (1024 : Int) < Y := by omega
            go_wp2_with fail
            go_ret3
            exact .inr ⟨-1, 5, rfl, by omega, HFT.out 5 HTT.out, HKW.out⟩
          have hY' : (Y : Int) ≤ 1024 := by omega
          have HT3 := hidMk (show te = if fromB lv 1024 && fromB sc 8 then 0 else 17 by rw [HT.out, if_neg (by omega)])
          have HN1 := hidMk (show ¬ (1 ≤ lv ∧ lv ≤ 1024) ∨ ¬ (1 ≤ sc ∧ sc ≤ 8) → (17 : Int) = te from fun h => by
            rw [HT3.out]
            rcases h with h | h
            · rw [show fromB lv 1024 = false from decide_eq_false h]; rfl
            · rw [show fromB sc 8 = false from decide_eq_false h, Bool.and_false]; rfl)
          by_cases l1 : lv < 1
          · have HTT := hidMk (HN1.out (.inl (by omega)))
            go_wp2_with fail
            go_ret3
            exact .inr ⟨-1, 17, rfl, by omega, HFT.out 17 HTT.out, HKW.out⟩
          have l1' : 1 ≤ lv := by omega
          by_cases l2 : 1024 < lv
          · have HTT := hidMk (HN1.out (.inl (by omega)))
            go_wp2_with fail
            go_ret3
            exact .inr ⟨-1, 17, rfl, by omega, HFT.out 17 HTT.out, HKW.out⟩
          have l2' : lv ≤ 1024 := by omega
          by_cases l3 : sc < 1
          · have HTT := hidMk (HN1.out (.inr (by omega)))
            go_wp2_with fail
            go_ret3
            exact .inr ⟨-1, 17, rfl, by omega, HFT.out 17 HTT.out, HKW.out⟩
          have l3' : 1 ≤ sc := by omega
          by_cases l4 : 8 < sc
          · have HTT := hidMk (HN1.out (.inr (by omega)))
            go_wp2_with fail
            go_ret3
            exact .inr ⟨-1, 17, rfl, by omega, HFT.out 17 HTT.out, HKW.out⟩
          have l4' : sc ≤ 8 := by omega
          have HTT := hidMk (show (0 : Int) = te by rw [HT3.out, show fromB lv 1024 = true from decide_eq_true ⟨l1', l2'⟩, show fromB sc 8 = true from decide_eq_true ⟨l3', l4'⟩]; rfl)
          go_wp2_with fail
          go_ret3
          exact .inl ⟨p, rt, rfl, HFT.out 0 HTT.out, HRD.out, HKW.out⟩
theorem ref6_New (a : Option Addr) (n c : Nat) (ds : List Dm) (na : Nat → Option Addr × Nat × Nat) (b : Option Addr) (m d : Nat) (ms : List ByteArray) (lv sc : Int) (w : World) (hs : Dss w a n ds na) (hm : Ss w b m ms) (hmz : ∀ i, i < ms.length → (msA ms i).size ≤ maxLen) :
    Calls Try.prog 19 #[.agg #[.slice a n c, .slice b m d, .int .i64 lv, .int .i64 sc]] w (RNewPost w ds ms lv sc) := by
  by_cases h : 1 ≤ n ∧ n ≤ 4 ∧ 1 ≤ m ∧ m ≤ 4
  · exact ref6_New_yes a n c ds na b m d ms lv sc w hs hm hmz ⟨h.1, h.2.1⟩ h.2.2
  · exact ref6_New_no a n c ds b m d ms lv sc w hs.len hm.len h
end Go.Proofs.Ytbhojgodkblflaa
