/- The walk of the law ShareWhole. -/
import Derived.Test.YtldfnlkineehbabSame
import Derived.Test.YtldfnlkineehbabPartMath
namespace Go.Proofs.Ytldfnlkineehbab
open Go.RowKit
set_option linter.unusedSimpArgs false
set_option linter.unusedVariables false

theorem law_big_ShareWhole (whole : Int) (a : Option Addr) (len cap : Nat) (w : World) (hlen : len ≤ maxLen) (hb : 1100 < len) :
    Calls Try.prog 3 #[.int .u64 whole, .slice a len cap] w fun e w' => e = .returned (.bool true) ∧ Below w.heap.size w w' := by
  unfold maxLen at hlen
  go_enter Try.func3, Try.ntmps3
  go_wp2_with fail
  refine (law2_known _).mono ?_
  rintro e w7 ⟨rfl, k7⟩
  go_wp2_with fail
  go_ret
  exact ⟨rfl, k7⟩

set_option maxHeartbeats 1000000 in
theorem law_ShareWhole (whole : Int) (a : Option Addr) (len cap : Nat) (l : List Int) (w : World) (hw : isU whole) (hs : Sl .u64 w a len l) (hn : ∀ x ∈ l, isU x) :
    Calls Try.prog 3 #[.int .u64 whole, .slice a len cap] w fun e w' => e = .returned (.bool true) ∧ Below w.heap.size w w' := by
  by_cases hb : 1100 < len
  · exact law_big_ShareWhole whole a len cap w hs.big hb
  by_cases he : splE len l = 0
  · obtain ⟨h0, h1, h2, h3⟩ := spl_ok hn he
    have hll := hs.len
    have C := share_Split_ok whole (sumL l) a len cap l w hs hn h0 h1 hw rfl h2 h3
    have HC := hidMk C
    have HS := hidMk hs
    have HN := hidMk hn
    have HW := hidMk hw
    have HP := hidMk h2
    clear C hs hn hw he h2 h3
    have hne : (((len : Int) != (len : Int)) = false) := by simp
    go_enter Try.func3, Try.ntmps3
    go_wp2_with fail
    refine HC.out.mono ?_
    rintro e w1 ⟨P, hPw, rfl, harr, k1, f, himg, hsrt⟩
    have hsum := part_sum HW.out rfl HP.out (by omega) (hll ▸ himg) (hll ▸ hsrt)
    rw [hll] at hsum
    have hnn := part_nonneg (l := l) HW.out HP.out HN.out
    have hz : ∀ i, i < len → l.getD i 0 = 0 → partF whole (sumL l) l (keyR whole (sumL l) l) i = 0 := fun i hi h => by
      refine part_zero HW.out rfl HP.out i (by omega) h ?_
      exact left_nonneg whole (sumL l) l HW.out.1 HP.out l.length (by rw [← sumL_all]; exact Int.le_refl _)
    generalize partF whole (sumL l) l (keyR whole (sumL l) l) = g at *
    have HA := hidMk harr
    have HK := hidMk k1
    have HSUM := hidMk hsum
    have HNN := hidMk hnn
    have HZ := hidMk hz
    have HS1 := hidMk (HS.out.kept k1)
    clear harr k1 himg hsrt hsum hnn hz HC
    go_wp2_with fail
    go_loop [7, 8] (fun x y => ∃ k : Nat, k ≤ len ∧ y = .int .i64 k ∧ x = .int .u64 (sumN g k)) (fun _ y => len - (intOf y).toNat)
    case atStart => exact ⟨0, Nat.zero_le _, rfl, rfl⟩
    case round =>
      obtain ⟨k, hk, rfl, rfl⟩ := hrel
      by_cases hlt : k < len
      · obtain ⟨b2, o2, rfl, hb2, hc2⟩ := HS1.out.cells (by omega)
        have c2 := hc2 k hlt
        have c1 := HA.out.cell k hlt
        have s0 : 0 ≤ sumN g k := sumN_nonneg k fun i _ => HNN.out i
        have s1 : sumN g (k + 1) ≤ whole := by rw [← HSUM.out]; exact sumN_mono HNN.out (k + 1) len (by omega)
        have s2 : sumN g (k + 1) = sumN g k + g k := rfl
        have g0 := HNN.out k
        have hw2 := HW.out.2
        have HS2 := hidMk s2
        rw [s2] at s1
        have hzk := HZ.out k hlt
        clear hc2 s2
        generalize sumN g k = y at *
        generalize l.getD k 0 = v at *
        by_cases hv : v = 0
        · have hg := hzk hv
          have hvb : (v == 0) = true := by simp [hv]
          have hgb : (g k != 0) = false := by rw [hg]; rfl
          clear hzk hv hg
          generalize hgk : g k = x at *
          have HG := hidMk hgk
          clear hgk
          go_wp2
          exact ⟨⟨k + 1, by omega, by go_num, by rw [HS2.out]⟩, by simp [intOf]; omega⟩
        · have hvb : (v == 0) = false := by simp [hv]
          clear hzk hv
          generalize hgk : g k = x at *
          have HG := hidMk hgk
          clear hgk
          go_wp2
          exact ⟨⟨k + 1, by omega, by go_num, by rw [HS2.out]⟩, by simp [intOf]; omega⟩
      · have e : k = len := by omega
        subst e
        rw [HSUM.out]
        go_wp2_with fail
        refine (law2_known _).mono ?_
        rintro e w7 ⟨rfl, k7⟩
        go_wp2_with fail
        go_ret
        exact ⟨rfl, HK.out.trans k7⟩
  · have C := share_Split_err whole a len cap l w hs hn he
    have hbn : (splE len l != 0) = true := by rw [bne_iff_ne]; exact he
    have hbig := hs.big
    unfold maxLen at hbig
    have HC := hidMk C
    clear C hs hn he
    generalize splE len l = E at *
    go_enter Try.func3, Try.ntmps3
    go_wp2_with fail
    refine HC.out.mono ?_
    rintro e w1 ⟨rfl, rfl⟩
    go_wp2_with fail
    refine (law2_known _).mono ?_
    rintro e w7 ⟨rfl, k7⟩
    go_wp2_with fail
    go_ret
    exact ⟨rfl, k7⟩
end Go.Proofs.Ytldfnlkineehbab
