/- TreeMakes: of any members the first one that can not be, and why; else all of them, by their places and names. -/
import Derived.Test.YtijabcagmjkfaaaRefTree3
namespace Go.Proofs.Ytijabcagmjkfaaa
open Go.RowKit Go.Maps
set_option linter.unusedSimpArgs false
set_option linter.unusedVariables false

set_option maxHeartbeats 8000000 in
set_option maxRecDepth 100000 in
theorem law_TreeMakes (a : Option Addr) (n c : Nat) (l : List Nd) (nm : ByteArray) (w : World) (hs : Ns w a n l) (hnm : nm.size ≤ maxLen) : Calls Try.prog 3 #[.slice a n c, .string nm] w fun e w' => e = .returned (.bool true) ∧ Kept w w' := by
  have hlen := hs.len
  have hbig := hs.big
  unfold maxLen at hbig
  have HNS := hidMk hs
  have HNM := hidMk hnm
  have HN := hidMk (tree_New a n c l w hs)
  have HKN := hidMk (fun w => law5_known w)
  clear hs hnm
  by_cases h60 : 60 < n
  · have h60' : (60 : Int) < n := by omega
    go_enter Try.func3, Try.ntmps3
    go_wp2_with (go_at_call 9; refine (HKN.out _).mono ?_; rintro e w9 ⟨rfl, k9⟩; have K9 := hidMk k9; clear k9)
    go_ret
    exact ⟨rfl, K9.out⟩
  have h60' : (n : Int) ≤ 60 := by omega
  go_enter Try.func3, Try.ntmps3
  go_wp2_with fail
  have z0 : decide ((60 : Int) < (n : Int)) = false := decide_eq_false (by omega)
  simp only [z0]
  refine HN.out.mono ?_
  rintro e w1 (⟨p, hp, rfl, hni, hw, hk⟩ | ⟨at_, er, rfl, her, hni, hk⟩)
  · have HW := hidMk hw
    have HK := hidMk hk
    have HNI := hidMk hni
    have HR := hidMk (r_New a n c l w1 (HNS.out.kept hk))
    clear hw hk hni HN
    go_wp2_with fail
    refine HR.out.mono ?_
    rintro e w2 (⟨rp, hrp, rfl, _, hrt, hk2⟩ | ⟨at2, er2, rfl, her2, hni2, _⟩)
    · have HRT := hidMk hrt
      have HK2 := hidMk hk2
      have HW2 := hidMk (HW.out.kept hk2)
      have hfp := w_Find HW2.out nm HNM.out
      have hfr := r_Find hrt nm
      have hgood := (newIs_ok HNI.out).2.2.1
      clear hrt hk2 HR
      generalize findI l nm = fx at *
      have HFP := hidMk hfp
      have HFR := hidMk hfr
      have HLN := hidMk (w_Len HW2.out)
      have HG := hidMk hgood
      clear hfp hfr hgood
      have zn : ((n : Int) != (n : Int)) = false := by simp
      have zf : (fx != fx) = false := by simp
      rw [hlen] at HLN
      go_wp2_with (first | (go_at_call 12; refine HLN.out.mono ?_; rintro e w4 ⟨rfl, rfl⟩) | (go_at_call 13; refine HFP.out.mono ?_; rintro e w4 ⟨rfl, rfl⟩) | (go_at_call 14; refine HFR.out.mono ?_; rintro e w4 ⟨rfl, rfl⟩))
      go_loopg [11] n (fun g x wr => ∃ k : Nat, k + g = n ∧ x = .int .i64 k ∧ Kept w4 wr)
      case atStart => exact ⟨0, by omega, rfl, Kept.refl _⟩
      case round =>
        obtain ⟨k, hkg, rfl, hkr⟩ := hrel
        have HKG := hidMk hkg
        have HKR := hidMk hkr
        by_cases hkn : k < n
        · clear hkg
          have hkl : k < l.length := by omega
          have HWR := hidMk (HW2.out.kept hkr)
          have HRR := hidMk (HRT.out.kept hkr)
          have hns := HNS.out.kept ((HK.out.trans HK2.out).trans hkr)
          obtain ⟨b, o, rfl, hb, hcs⟩ := hns.cells (by omega)
          obtain ⟨c1, c2⟩ := hcs k hkn
          have e1 : nmI l k = nmA l k := by unfold nmI; rw [if_pos (isP_nat hkl)]; rfl
          have e2 : upI l k = upA l k := by unfold upI; rw [if_pos (isP_nat hkl)]; rfl
          have e3 : findI l (nmA l k) = k := by
            have := HG.out 1 (by omega) k hkl
            rw [chk_1] at this
            by_cases e : fstN l (nmA l k) = k
            · unfold findI; rw [e, if_pos hkl]
            · rw [if_neg e] at this; cases this
          have HCN := hidMk (show ∀ y, Kept wr y → _ from fun y hy => w_Name (HWR.out.kept hy) k)
          have HCU := hidMk (show ∀ y, Kept wr y → _ from fun y hy => w_Up (HWR.out.kept hy) k)
          have HCF := hidMk (show ∀ y, Kept wr y → _ from fun y hy => w_Find (HWR.out.kept hy) (nmA l k) (hns.nmb k hkl))
          have HCD := hidMk (show ∀ y, Kept wr y → _ from fun y hy => w_Depth (HWR.out.kept hy) k)
          have HRD := hidMk (show ∀ y, Kept wr y → _ from fun y hy => r_Depth (HRR.out.kept hy) k)
          rw [e1] at HCN
          rw [e2] at HCU
          rw [e3] at HCF
          clear hcs hns e1 e2 e3 hkr
          generalize nmA l k = s at *
          generalize upA l k = u at *
          generalize dep l k = dd at *
          have zk : ((k : Int) != (k : Int)) = false := by simp
          have zu : (u != u) = false := by simp
          have zd : ((dd : Int) != (dd : Int)) = false := by simp
          have zs : (s.toList != s.toList) = false := by simp
          have zs2 : (s.toList == s.toList) = true := by simp
          go_wp2_with fail
          go_region_held3 (fun w' => w'.cell? ⟨b, o + k * 2, none⟩ = some (.string s) ∧ w'.cell? ⟨b, o + k * 2 + 1, none⟩ = some (.int .i64 u)) (first | go_keep | (refine ⟨?_, ?_⟩ <;> assumption))
            (first
              | (go_at_call 15; refine (HCN.out _ ((Kept.refl _).drew)).mono ?_; rintro e w5 ⟨rfl, rfl⟩)
              | (go_at_call 16; refine (HCU.out _ ((Kept.refl _).drew)).mono ?_; rintro e w5 ⟨rfl, rfl⟩)
              | (go_at_call 13; refine (HCF.out _ ((Kept.refl _).drew)).mono ?_; rintro e w5 ⟨rfl, rfl⟩)
              | (go_at_call 17; refine (HCD.out _ ((Kept.refl _).drew)).mono ?_; rintro e w5 ⟨rfl, rfl⟩)
              | (go_at_call 18; refine (HRD.out _ ((Kept.refl _).drew)).mono ?_; rintro e w5 ⟨rfl, k5⟩; have K5 := hidMk k5; have m1 := k5.cellp c1; have m2 := k5.cellp c2; clear k5))
          go_wp2_with fail
          go_roundg (gk - 1)
          case measure => have := HKG.out; omega
          case rel => exact ⟨k + 1, by have := HKG.out; omega, by go_num, HKR.out.trans (((Kept.refl _).drew).trans K5.out)⟩
        · have e : k = n := by omega
          have hkk : ¬ ((k : Int) < (n : Int)) := by omega
          go_wp2_with (go_at_call 9; refine (HKN.out _).mono ?_; rintro e w9 ⟨rfl, k9⟩; have K9 := hidMk k9; clear k9)
          go_ret
          exact ⟨rfl, ((HK.out.trans HK2.out).trans HKR.out).trans K9.out⟩
    · exact absurd (newIs_one HNI.out hni2).2.symm her2
  · have HK := hidMk hk
    have HNI := hidMk hni
    have HR := hidMk (r_New a n c l w1 (HNS.out.kept hk))
    clear hk hni HN
    go_wp2_with fail
    refine HR.out.mono ?_
    rintro e w2 (⟨rp, hrp, rfl, hni2, hrt, hk2⟩ | ⟨at2, er2, rfl, her2, hni2, hk2⟩)
    · exact absurd (newIs_one HNI.out hni2).2 her
    · obtain ⟨rfl, rfl⟩ := newIs_one HNI.out hni2
      have HK2 := hidMk hk2
      clear hk2 hni2 HR
      have za : (at_ != at_) = false := by simp
      have ze : (er != er) = false := by simp
      go_wp2_with (go_at_call 9; refine (HKN.out _).mono ?_; rintro e w9 ⟨rfl, k9⟩; have K9 := hidMk k9; clear k9)
      go_ret
      exact ⟨rfl, (HK.out.trans HK2.out).trans K9.out⟩
end Go.Proofs.Ytijabcagmjkfaaa
