/- The walk of the law ShareWhole. -/
import Derived.Test.YtldfnlkineehbabSame
namespace Go.Proofs.Ytldfnlkineehbab
open Go.RowKit
set_option linter.unusedSimpArgs false
set_option linter.unusedVariables false

theorem spl_ok {len : Nat} {l : List Int} (hn : ∀ x ∈ l, isU x) (h : splE len l = 0) : 0 < len ∧ len ≤ 1024 ∧ 0 < sumL l ∧ sumL l < 18446744073709551616 := by
  have h0 := sumL_nonneg l hn
  unfold splE cntE totE at h
  repeat' split at h
  all_goals first
    | (exfalso; omega)
    | exact ⟨by omega, by omega, by omega, by omega⟩
theorem part_zero {whole all : Int} {l : List Int} (hw : isU whole) (hall : sumL l = all) (ha : 0 < all) (i : Nat) (hi : i < l.length) (h0 : l.getD i 0 = 0) (hl : 0 ≤ leftAt whole all l l.length) : partF whole all l (keyR whole all l) i = 0 := by
  have hsn : sumN (fun i => l.getD i 0) l.length = all := by rw [← sumL_all]; exact hall
  have hq : qF whole all l i = 0 := by unfold qF; rw [h0]; simp
  have hr : rF whole all l i = 0 := by unfold rF; rw [h0]; simp
  unfold partF
  rw [hq, if_neg]
  · rfl
  · intro hlt
    obtain ⟨t, ht⟩ := Int.eq_ofNat_of_zero_le hl
    have := top_pos (K := keyR whole all l) (r := rF whole all l) (n := l.length) (t := t) (all := all) (fun k hk => by unfold keyR keyOf; rw [Int.toNat_natCast, lst_get _ _ _ hk]) (fun k hk => rF_rng whole all l ha k) (by rw [← ht]; exact left_all whole all l hsn) i hi (by omega)
    omega
theorem part_sum {whole all : Int} {l : List Int} (hw : isU whole) (hall : sumL l = all) (ha : 0 < all) (hpos : 0 < l.length) {f : Nat → Int} (himg : Img 0 l.length (fun i => (i : Int)) f) (hs : Srt (keyR whole all l) f 0 l.length) :
    sumN (partF whole all l (keyR whole all l)) l.length = whole := by
  have hsn : sumN (fun i => l.getD i 0) l.length = all := by rw [← sumL_all]; exact hall
  have hl0 := left_nonneg whole all l hw.1 ha l.length (Int.le_of_eq hsn)
  have hl1 := left_lt whole all l ha hsn hpos
  obtain ⟨t, ht⟩ := Int.eq_ofNat_of_zero_le hl0
  have h1 := top_sum himg hs (t := t) (by omega)
  have e : sumN (partF whole all l (keyR whole all l)) l.length = sumN (fun i => qF whole all l i + (if rank (keyR whole all l) l.length i < t then 1 else 0)) l.length := by
    refine sumN_congr _ fun i hi => ?_
    unfold partF
    rw [ht]
    by_cases h : rank (keyR whole all l) l.length i < t
    · rw [if_pos h, if_pos (by omega)]
    · rw [if_neg h, if_neg (by omega)]
  rw [e, sumN_add, h1]
  unfold leftAt at ht
  omega
theorem part_nonneg {whole all : Int} {l : List Int} (hw : isU whole) (ha : 0 < all) (hn : ∀ x ∈ l, isU x) (i : Nat) : 0 ≤ partF whole all l (keyR whole all l) i := by
  have := qF_nonneg whole all l hw.1 ha (fun x hx => (hn x hx).1) i
  unfold partF
  split <;> omega
theorem sumN_mono {f : Nat → Int} (h : ∀ i, 0 ≤ f i) (k n : Nat) (hk : k ≤ n) : sumN f k ≤ sumN f n := by
  induction n with
  | zero => have : k = 0 := by omega
            subst this; exact Int.le_refl _
  | succ n ih =>
    by_cases e : k = n + 1
    · rw [e]; exact Int.le_refl _
    · have := ih (by omega); have := h n; simp only [sumN]; omega

theorem law_big_ShareWhole (whole : Int) (a : Option Addr) (len cap : Nat) (w : World) (hlen : len ≤ maxLen) (hb : 1100 < len) :
    Calls Try.prog 3 #[.int .u64 whole, .slice a len cap] w fun e w' => e = .returned (.bool true) ∧ Below w.heap.size w w' := by
  unfold maxLen at hlen
  go_enter Try.func3, Try.ntmps3
  go_wp2_with fail
  refine (law2_known _).mono ?_
  rintro e w7 ⟨rfl, k7⟩
  go_wp2_with fail
  go_ret
  exact ⟨rfl, k7⟩

set_option maxHeartbeats 1000000 in
theorem law_ShareWhole (whole : Int) (a : Option Addr) (len cap : Nat) (l : List Int) (w : World) (hw : isU whole) (hs : Sl .u64 w a len l) (hn : ∀ x ∈ l, isU x) :
    Calls Try.prog 3 #[.int .u64 whole, .slice a len cap] w fun e w' => e = .returned (.bool true) ∧ Below w.heap.size w w' := by
  by_cases hb : 1100 < len
  · exact law_big_ShareWhole whole a len cap w hs.big hb
  by_cases he : splE len l = 0
  · obtain ⟨h0, h1, h2, h3⟩ := spl_ok hn he
    have hll := hs.len
    have C := share_Split_ok whole (sumL l) a len cap l w hs hn h0 h1 hw rfl h2 h3
    have HC := hidMk C
    have HS := hidMk hs
    have HN := hidMk hn
    have HW := hidMk hw
    have HP := hidMk h2
    clear C hs hn hw he h2 h3
    have hne : (((len : Int) != (len : Int)) = false) := by simp
    go_enter Try.func3, Try.ntmps3
    go_wp2_with fail
    refine HC.out.mono ?_
    rintro e w1 ⟨P, hPw, rfl, harr, k1, f, himg, hsrt⟩
    have hsum := part_sum HW.out rfl HP.out (by omega) (hll ▸ himg) (hll ▸ hsrt)
    rw [hll] at hsum
    have hnn := part_nonneg (l := l) HW.out HP.out HN.out
    have hz : ∀ i, i < len → l.getD i 0 = 0 → partF whole (sumL l) l (keyR whole (sumL l) l) i = 0 := fun i hi h => by
      refine part_zero HW.out rfl HP.out i (by omega) h ?_
      exact left_nonneg whole (sumL l) l HW.out.1 HP.out l.length (by rw [← sumL_all]; exact Int.le_refl _)
    generalize partF whole (sumL l) l (keyR whole (sumL l) l) = g at *
    have HA := hidMk harr
    have HK := hidMk k1
    have HSUM := hidMk hsum
    have HNN := hidMk hnn
    have HZ := hidMk hz
    have HS1 := hidMk (HS.out.kept k1)
    clear harr k1 himg hsrt hsum hnn hz HC
    go_wp2_with fail
    go_loop [7, 8] (fun x y => ∃ k : Nat, k ≤ len ∧ y = .int .i64 k ∧ x = .int .u64 (sumN g k)) (fun _ y => len - (intOf y).toNat)
    case atStart => exact ⟨0, Nat.zero_le _, rfl, rfl⟩
    case round =>
      obtain ⟨k, hk, rfl, rfl⟩ := hrel
      by_cases hlt : k < len
      · obtain ⟨b2, o2, rfl, hb2, hc2⟩ := HS1.out.cells (by omega)
        have c2 := hc2 k hlt
        have c1 := HA.out.cell k hlt
        have s0 : 0 ≤ sumN g k := sumN_nonneg k fun i _ => HNN.out i
        have s1 : sumN g (k + 1) ≤ whole := by rw [← HSUM.out]; exact sumN_mono HNN.out (k + 1) len (by omega)
        have s2 : sumN g (k + 1) = sumN g k + g k := rfl
        have g0 := HNN.out k
        have hw2 := HW.out.2
        have HS2 := hidMk s2
        rw [s2] at s1
        have hzk := HZ.out k hlt
        clear hc2 s2
        generalize sumN g k = y at *
        generalize l.getD k 0 = v at *
        by_cases hv : v = 0
        · have hg := hzk hv
          have hvb : (v == 0) = true := by simp [hv]
          have hgb : (g k != 0) = false := by rw [hg]; rfl
          clear hzk hv hg
          generalize hgk : g k = x at *
          have HG := hidMk hgk
          clear hgk
          go_wp2
          exact ⟨⟨k + 1, by omega, by go_num, by rw [HS2.out]⟩, by simp [intOf]; omega⟩
        · have hvb : (v == 0) = false := by simp [hv]
          clear hzk hv
          generalize hgk : g k = x at *
          have HG := hidMk hgk
          clear hgk
          go_wp2
          exact ⟨⟨k + 1, by omega, by go_num, by rw [HS2.out]⟩, by simp [intOf]; omega⟩
      · have e : k = len := by omega
        subst e
        rw [HSUM.out]
        go_wp2_with fail
        refine (law2_known _).mono ?_
        rintro e w7 ⟨rfl, k7⟩
        go_wp2_with fail
        go_ret
        exact ⟨rfl, HK.out.trans k7⟩
  · have C := share_Split_err whole a len cap l w hs hn he
    have hbn : (splE len l != 0) = true := by rw [bne_iff_ne]; exact he
    have hbig := hs.big
    unfold maxLen at hbig
    have HC := hidMk C
    clear C hs hn he
    generalize splE len l = E at *
    go_enter Try.func3, Try.ntmps3
    go_wp2_with fail
    refine HC.out.mono ?_
    rintro e w1 ⟨rfl, rfl⟩
    go_wp2_with fail
    refine (law2_known _).mono ?_
    rintro e w7 ⟨rfl, k7⟩
    go_wp2_with fail
    go_ret
    exact ⟨rfl, k7⟩
end Go.Proofs.Ytldfnlkineehbab
