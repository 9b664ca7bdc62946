/- The walk of the law ShareEvens. -/
import Derived.Test.YtldfnlkineehbaaEvens2
namespace Go.Proofs.Ytldfnlkineehbaa
open Go.RowKit
set_option linter.unusedSimpArgs false
set_option linter.unusedVariables false

set_option maxHeartbeats 1000000 in
theorem law_ShareEvens (whole n : Int) (a b : Option Addr) (len cap lenb capb : Nat) (l m : List Int) (w : World) (hw : isU whole) (hs : Sl .u64 w a len l) (hn : ∀ x ∈ l, isU x) (hm : Sl .u64 w b lenb m) :
    Calls Try.prog 8 #[.int .u64 whole, .int .i64 n, .slice a len cap, .slice b lenb capb] w fun e w' => e = .returned (.bool true) ∧ Below w.heap.size w w' := by
  have hbig := hs.big
  have hbig2 := hm.big
  unfold maxLen at hbig hbig2
  by_cases hb1 : 300 < len
  · clear hs hn hm hw
    go_enter Try.func8, Try.ntmps8
    go_wp2_with fail
    refine (law2_known _).mono ?_
    rintro e w7 ⟨rfl, k7⟩
    go_wp2_with fail
    go_ret
    exact ⟨rfl, k7⟩
  by_cases hb2 : 300 < lenb
  · clear hs hn hm hw
    go_enter Try.func8, Try.ntmps8
    go_wp2_with fail
    refine (law2_known _).mono ?_
    rintro e w7 ⟨rfl, k7⟩
    go_wp2_with fail
    go_ret
    exact ⟨rfl, k7⟩
  have HS := hidMk hs
  have HN := hidMk hn
  have HM := hidMk hm
  have HW := hidMk hw
  clear hs hn hm hw
  go_enter Try.func8, Try.ntmps8
  go_wp2_with fail
  refine (share_Even _ _ _ HW.out).mono ?_
  rintro e w1 ⟨a1, c1, rfl, s1, k1⟩
  have S1 := hidMk s1
  have K1 := hidMk k1
  clear s1 k1
  go_wp2_with fail
  refine (ref_Even _ _ _ HW.out).mono ?_
  rintro e w2 ⟨a2, c2, rfl, s2, k2⟩
  have S2 := hidMk s2
  have S12 := hidMk (S1.out.kept k2)
  have K2 := hidMk (K1.out.trans k2)
  clear s2 k2 S1 K1
  have C3 := hidMk (ref_Split_any whole a len cap l w2 HW.out (HS.out.kept K2.out) HN.out)
  go_wp2_with fail
  refine C3.out.mono ?_
  rintro e w3 ⟨a3, c3, rfl, s3, k3⟩
  have S3 := hidMk s3
  have S13 := hidMk (S12.out.kept k3)
  have S23 := hidMk (S2.out.kept k3)
  have K3 := hidMk (K2.out.trans k3)
  clear s3 k3 S12 S2 K2 C3
  have C4 := hidMk (ref_Same_yes a1 a2 (evL whole n).length c1 c2 (evL whole n) w3 S13.out S23.out)
  generalize evL whole n = ev at *
  generalize evE n = ee at *
  go_wp2_with fail
  refine C4.out.mono ?_
  rintro e w4 ⟨rfl, k4⟩
  have S34 := hidMk (S3.out.kept k4)
  have K4 := hidMk (K3.out.trans k4)
  clear k4 S13 S23 S3 K3 C4
  have C5 := hidMk (share_Check whole a b len cap lenb capb l m w4 HW.out (HS.out.kept K4.out) HN.out (HM.out.kept K4.out))
  by_cases he : splE len l = 0
  · have hz : (splE len l == 0) = true := by rw [beq_iff_eq]; exact he
    have hz2 : (splE len l != 0) = false := by rw [he]; rfl
    have H5 := hidMk (show chk whole len l m = decide (spL whole len l = m) by unfold chk; rw [if_pos he])
    have H6 := hidMk (show chk whole len l (spL whole len l) = true by unfold chk; rw [if_pos he]; simp)
    clear he
    go_wp2_with fail
    refine C5.out.mono ?_
    rintro e w5 ⟨rfl, k5⟩
    have K5 := hidMk (K4.out.trans k5)
    have S35 := hidMk (S34.out.kept k5)
    have C6 := hidMk (ref_Same a3 b (spL whole len l).length lenb c3 capb (spL whole len l) m w5 S35.out (HM.out.kept K5.out))
    clear k5 K4 S34 C5
    go_wp2_with fail
    refine C6.out.mono ?_
    rw [← H5.out]
    rintro e w6 ⟨rfl, k6⟩
    have K6 := hidMk (K5.out.trans k6)
    have S36 := hidMk (S35.out.kept k6)
    have C7 := share_Check whole a a3 len cap (spL whole len l).length c3 l (spL whole len l) w6 HW.out (HS.out.kept K6.out) HN.out S36.out
    rw [H6.out] at C7
    have H7 := hidMk C7
    clear k6 K5 S35 C6 C7
    have hcc : ((chk whole len l m == chk whole len l m) = true) := by simp
    generalize chk whole len l m = q at *
    generalize splE len l = E at *
    generalize spL whole len l = sp at *
    go_wp2_with fail
    refine H7.out.mono ?_
    rintro e w7 ⟨rfl, k7⟩
    go_wp2_with fail
    refine (law2_known _).mono ?_
    rintro e w8 ⟨rfl, k8⟩
    go_wp2_with fail
    go_ret
    exact ⟨rfl, (K6.out.trans k7).trans k8⟩
  · have hz : (splE len l == 0) = false := by rw [beq_eq_false_iff_ne]; exact he
    have hz2 : (splE len l != 0) = true := by rw [bne_iff_ne]; exact he
    have H5 := hidMk (show chk whole len l m = false by unfold chk; rw [if_neg he])
    clear he
    go_wp2_with fail
    refine C5.out.mono ?_
    rw [H5.out]
    rintro e w5 ⟨rfl, k5⟩
    go_wp2_with fail
    refine (law2_known _).mono ?_
    rintro e w8 ⟨rfl, k8⟩
    go_wp2_with fail
    go_ret
    exact ⟨rfl, (K4.out.trans k5).trans k8⟩
end Go.Proofs.Ytldfnlkineehbaa
