/- The walk of the law ShareNear. -/
import Derived.Test.YtldfnlkineehbabLawShareWhole
import Derived.Test.YtldfnlkineehbabTimes
namespace Go.Proofs.Ytldfnlkineehbab
open Go.RowKit
set_option linter.unusedSimpArgs false
set_option linter.unusedVariables false

/-- A part times the sum, and the whole times the weight, are less than the sum apart. -/
theorem part_near {whole all : Int} {l : List Int} (hw : isU whole) (hall : sumL l = all) (ha : 0 < all) (i : Nat) (hi : i < l.length) :
    partF whole all l (keyR whole all l) i * all - whole * l.getD i 0 < all ∧ whole * l.getD i 0 - partF whole all l (keyR whole all l) i * all < all := by
  have hsn : sumN (fun i => l.getD i 0) l.length = all := by rw [← sumL_all]; exact hall
  have hl0 := left_nonneg whole all l hw.1 ha l.length (Int.le_of_eq hsn)
  obtain ⟨t, ht⟩ := Int.eq_ofNat_of_zero_le hl0
  have hqr := q_r whole all l i
  have hr := rF_rng whole all l ha i
  unfold partF
  rw [ht]
  by_cases h : rank (keyR whole all l) l.length i < t
  · rw [if_pos (by omega)]
    have hp := top_pos (K := keyR whole all l) (r := rF whole all l) (n := l.length) (t := t) (all := all) (fun k hk => by unfold keyR keyOf; rw [Int.toNat_natCast, lst_get _ _ _ hk]) (fun k hk => rF_rng whole all l ha k) (by rw [← ht]; exact left_all whole all l hsn) i hi h
    rw [Int.add_mul]
    omega
  · rw [if_neg (by omega)]
    rw [Int.add_zero]
    omega
theorem part_le {whole all : Int} {l : List Int} (hw : isU whole) (hall : sumL l = all) (ha : 0 < all) (hpos : 0 < l.length) (hn : ∀ x ∈ l, isU x) {f : Nat → Int} (himg : Img 0 l.length (fun i => (i : Int)) f) (hs : Srt (keyR whole all l) f 0 l.length) (i : Nat) (hi : i < l.length) :
    isU (partF whole all l (keyR whole all l) i) := by
  have h1 := part_sum hw hall ha hpos himg hs
  have h2 := part_nonneg (whole := whole) (all := all) (l := l) hw ha hn
  have h3 := sumN_mono h2 (i + 1) l.length (by omega)
  have h4 := sumN_nonneg (f := partF whole all l (keyR whole all l)) i fun j _ => h2 j
  simp only [sumN] at h3
  have := hw.2
  exact ⟨h2 i, by omega⟩

/-- The difference of two wide numbers that are near each other. -/
theorem near_up (A B all : Int) (hA : 0 ≤ A) (hB : 0 ≤ B) (hAm : A < 340282366920938463463374607431768211456) (hBm : B < 340282366920938463463374607431768211456) (ha : all < 18446744073709551616) (hle : B ≤ A) (hn : A - B < all) :
    IntKind.u64.wrap (A % 18446744073709551616 - B % 18446744073709551616) = A - B ∧
    (A % 18446744073709551616 < IntKind.u64.wrap (A % 18446744073709551616 - B % 18446744073709551616) → IntKind.u64.wrap (IntKind.u64.wrap (A / 18446744073709551616 - B / 18446744073709551616) - 1) = 0) ∧
    (IntKind.u64.wrap (A % 18446744073709551616 - B % 18446744073709551616) ≤ A % 18446744073709551616 → IntKind.u64.wrap (A / 18446744073709551616 - B / 18446744073709551616) = 0) := by
  simp only [IntKind.wrap_u64]
  omega

theorem near_of (A B all : Int) (hA : 0 ≤ A) (hB : 0 ≤ B) (hAm : A < 340282366920938463463374607431768211456) (hBm : B < 340282366920938463463374607431768211456) (ha : all < 18446744073709551616) (hle : B ≤ A) (hn : A - B < all) :
    ∃ D, IntKind.u64.wrap (A % 18446744073709551616 - B % 18446744073709551616) = D ∧ 0 ≤ D ∧ D < all ∧
    (A % 18446744073709551616 < D → IntKind.u64.wrap (IntKind.u64.wrap (A / 18446744073709551616 - B / 18446744073709551616) - 1) = 0) ∧
    (D ≤ A % 18446744073709551616 → IntKind.u64.wrap (A / 18446744073709551616 - B / 18446744073709551616) = 0) := by
  obtain ⟨h1, h2, h3⟩ := near_up A B all hA hB hAm hBm ha hle hn
  exact ⟨A - B, h1, by omega, hn, fun h => h2 (by rw [h1]; exact h), fun h => h3 (by rw [h1]; exact h)⟩
theorem mul_lt {a b : Int} (ha : isU a) (hb : isU b) : 0 ≤ a * b ∧ a * b < 340282366920938463463374607431768211456 := by
  have h1 : 0 ≤ a * b := Int.mul_nonneg ha.1 hb.1
  have h2 : a * b ≤ 18446744073709551615 * 18446744073709551615 := Int.mul_le_mul ha.2 hb.2 hb.1 (by omega)
  exact ⟨h1, by omega⟩

theorem law_big_ShareNear (whole : Int) (a : Option Addr) (len cap : Nat) (w : World) (hlen : len ≤ maxLen) (hb : 1100 < len) :
    Calls Try.prog 4 #[.int .u64 whole, .slice a len cap] w fun e w' => e = .returned (.bool true) ∧ Below w.heap.size w w' := by
  unfold maxLen at hlen
  go_enter Try.func4, Try.ntmps4
  go_wp2_with fail
  refine (law2_known _).mono ?_
  rintro e w7 ⟨rfl, k7⟩
  go_wp2_with fail
  go_ret
  exact ⟨rfl, k7⟩

set_option maxHeartbeats 4000000 in
set_option maxRecDepth 100000 in
theorem law_ShareNear (whole : Int) (a : Option Addr) (len cap : Nat) (l : List Int) (w : World) (hw : isU whole) (hs : Sl .u64 w a len l) (hn : ∀ x ∈ l, isU x) :
    Calls Try.prog 4 #[.int .u64 whole, .slice a len cap] w fun e w' => e = .returned (.bool true) ∧ Below w.heap.size w w' := by
  by_cases hb : 1100 < len
  · exact law_big_ShareNear whole a len cap w hs.big hb
  by_cases he : splE len l = 0
  · obtain ⟨h0, h1, h2, h3⟩ := spl_ok hn he
    have hll := hs.len
    have C := share_Split_ok whole (sumL l) a len cap l w hs hn h0 h1 hw rfl h2 h3
    have HC := hidMk C
    have HS := hidMk hs
    have HN := hidMk hn
    have HW := hidMk hw
    have HP := hidMk (show 0 < sumL l ∧ sumL l < 18446744073709551616 from ⟨h2, h3⟩)
    clear C hs hn hw he h2 h3
    have hne : (((len : Int) != (len : Int)) = false) := by simp
    go_enter Try.func4, Try.ntmps4
    go_wp2_with fail
    refine HC.out.mono ?_
    rintro e w1 ⟨P, hPw, rfl, harr, k1, f, himg, hsrt⟩
    have hpu : ∀ i, i < len → isU (partF whole (sumL l) l (keyR whole (sumL l) l) i) := fun i hi => part_le HW.out rfl HP.out.1 (by omega) HN.out (hll ▸ himg) (hll ▸ hsrt) i (by omega)
    have hnear : ∀ i, i < len → partF whole (sumL l) l (keyR whole (sumL l) l) i * sumL l - whole * l.getD i 0 < sumL l ∧ whole * l.getD i 0 - partF whole (sumL l) l (keyR whole (sumL l) l) i * sumL l < sumL l := fun i hi => part_near HW.out rfl HP.out.1 i (by omega)
    generalize partF whole (sumL l) l (keyR whole (sumL l) l) = g at *
    have HA := hidMk harr
    have HK := hidMk k1
    have HPU := hidMk hpu
    have HNE := hidMk hnear
    have HS1 := hidMk (HS.out.kept k1)
    clear harr k1 himg hsrt hpu hnear HC
    go_wp2_with fail
    go_loop [7, 8] (fun x y => ∃ k : Nat, k ≤ len ∧ y = .int .i64 k ∧ x = .int .u64 (sumL (l.take k))) (fun _ y => len - (intOf y).toNat)
    case atStart => exact ⟨0, Nat.zero_le _, rfl, rfl⟩
    case round =>
      obtain ⟨k, hk, rfl, rfl⟩ := hrel
      by_cases hlt : k < len
      · obtain ⟨b2, o2, rfl, hb2, hc2⟩ := HS1.out.cells (by omega)
        have c2 := hc2 k hlt
        have s2 := sumL_take l k (by omega)
        have s1 := sumL_take_le l (k + 1) HN.out
        have s0 : 0 ≤ sumL (l.take k) := sumL_nonneg _ fun x hx => HN.out x (List.mem_of_mem_take hx)
        have v0 := (HN.out _ (getD_mem l k (by omega))).1
        have hp2 := HP.out.2
        generalize l.getD k 0 = v at *
        rw [s2] at s1
        have s3 : sumL (l.take k) + v ≤ 18446744073709551615 := by omega
        have HS2 := hidMk s2
        clear hc2 s2 s1 hp2
        generalize sumL (l.take k) = y at *
        go_wp2_with fail
        exact ⟨⟨k + 1, by omega, by go_num, by rw [HS2.out]⟩, by simp [intOf]; omega⟩
      · have e : l.take k = l := List.take_of_length_le (by omega)
        rw [e]
        clear e
        obtain ⟨all, hall⟩ : ∃ all, sumL l = all := ⟨_, rfl⟩
        rw [hall] at HP HNE ⊢
        clear hall
        have hp1 := HP.out.1
        have hp2 := HP.out.2
        go_wp2_with fail
        go_loop [9] (fun y => ∃ k : Nat, k ≤ len ∧ y = .int .i64 k) (fun y => len - (intOf y).toNat)
        case atStart => exact ⟨0, Nat.zero_le _, rfl⟩
        case round =>
          obtain ⟨k, hk, rfl⟩ := hrel
          by_cases hlt : k < len
          · obtain ⟨b2, o2, rfl, hb2, hc2⟩ := HS1.out.cells (by omega)
            have c2 := hc2 k hlt
            have c1 := HA.out.cell k hlt
            have hx := HPU.out k hlt
            have hv := HN.out _ (getD_mem l k (by omega))
            have hnr := HNE.out k hlt
            clear hc2
            generalize l.getD k 0 = v at *
            generalize g k = x at *
            have T1 := hidMk (ref_Times x all w1 hx ⟨by omega, by omega⟩)
            have T2 := hidMk (ref_Times whole v w1 HW.out hv)
            have mA := mul_lt hx (show isU all from ⟨by omega, by omega⟩)
            have mB := mul_lt HW.out hv
            have NA := fun h => near_of (x * all) (whole * v) all mA.1 mB.1 mA.2 mB.2 hp2 h hnr.1
            have NB := fun h => near_of (whole * v) (x * all) all mB.1 mA.1 mB.2 mA.2 hp2 h hnr.2
            have hcmp : (mulHi x all < mulHi whole v ∨ (mulHi x all = mulHi whole v ∧ mulLo x all < mulLo whole v)) ↔ x * all < whole * v := by unfold mulHi mulLo; omega
            unfold mulHi mulLo at T1 T2 hcmp
            generalize x * all = A at *
            generalize whole * v = B at *
            generalize A / 18446744073709551616 = ah at *
            generalize A % 18446744073709551616 = al at *
            generalize B / 18446744073709551616 = bh at *
            generalize B % 18446744073709551616 = bl at *
            by_cases hAB : A < B
            · have N := NB (by omega)
              have hc3 := hcmp.2 hAB
              clear NA NB hnr mA mB hcmp hAB hx hv
              go_wp2_with fail
              refine T1.out.mono ?_
              rintro e w2 ⟨rfl, rfl⟩
              go_wp2_with fail
              refine T2.out.mono ?_
              rintro e w2 ⟨rfl, rfl⟩
              clear T1 T2
              by_cases hc4 : ah < bh
              · clear hc3
                obtain ⟨D, r1, r2, r3, r4, r5⟩ := N
                obtain ⟨H, hH⟩ : ∃ H, IntKind.u64.wrap (bh - ah) = H := ⟨_, rfl⟩
                rw [hH] at r4 r5
                by_cases hbor : bl < D
                · have r6 := r4 hbor
                  skip
                  clear r4 r5
                  go_wp2_with fail
                  exact ⟨⟨k + 1, by omega, by go_num⟩, by simp [intOf]; omega⟩
                · have r6 := r5 (by omega)
                  clear r4 r5
                  skip
                  rw [r6] at hH
                  clear r6
                  go_wp2_with fail
                  exact ⟨⟨k + 1, by omega, by go_num⟩, by simp [intOf]; omega⟩
              · obtain ⟨hc5, hc6⟩ : ah = bh ∧ al < bl := by rcases hc3 with h | h
                                                            · exact absurd h hc4
                                                            · exact h
                have hc7 : (ah == bh) = true := by simp [hc5]
                have hc8 : decide (ah < bh) = false := by simp [hc5]
                clear hc3 hc4 hc5
                obtain ⟨D, r1, r2, r3, r4, r5⟩ := N
                obtain ⟨H, hH⟩ : ∃ H, IntKind.u64.wrap (bh - ah) = H := ⟨_, rfl⟩
                rw [hH] at r4 r5
                by_cases hbor : bl < D
                · have r6 := r4 hbor
                  skip
                  clear r4 r5
                  go_wp2_with fail
                  exact ⟨⟨k + 1, by omega, by go_num⟩, by simp [intOf]; omega⟩
                · have r6 := r5 (by omega)
                  clear r4 r5
                  skip
                  rw [r6] at hH
                  clear r6
                  go_wp2_with fail
                  exact ⟨⟨k + 1, by omega, by go_num⟩, by simp [intOf]; omega⟩
            · have N := NA (by omega)
              have hc3 := fun h => hAB (hcmp.1 h)
              clear NA NB hnr mA mB hcmp hAB hx hv
              go_wp2_with fail
              refine T1.out.mono ?_
              rintro e w2 ⟨rfl, rfl⟩
              go_wp2_with fail
              refine T2.out.mono ?_
              rintro e w2 ⟨rfl, rfl⟩
              clear T1 T2
              have hc8 : decide (ah < bh) = false := by simp; exact Int.not_lt.1 fun h => hc3 (.inl h)
              by_cases hc5 : ah = bh
              · have hc7 : (ah == bh) = true := by simp [hc5]
                have hc6 : decide (al < bl) = false := by simp; exact Int.not_lt.1 fun h => hc3 (.inr ⟨hc5, h⟩)
                clear hc3 hc5
                obtain ⟨D, r1, r2, r3, r4, r5⟩ := N
                obtain ⟨H, hH⟩ : ∃ H, IntKind.u64.wrap (ah - bh) = H := ⟨_, rfl⟩
                rw [hH] at r4 r5
                by_cases hbor : al < D
                · have r6 := r4 hbor
                  skip
                  clear r4 r5
                  go_wp2_with fail
                  exact ⟨⟨k + 1, by omega, by go_num⟩, by simp [intOf]; omega⟩
                · have r6 := r5 (by omega)
                  clear r4 r5
                  skip
                  rw [r6] at hH
                  clear r6
                  go_wp2_with fail
                  exact ⟨⟨k + 1, by omega, by go_num⟩, by simp [intOf]; omega⟩
              · have hc7 : (ah == bh) = false := by simp [hc5]
                clear hc3 hc5
                obtain ⟨D, r1, r2, r3, r4, r5⟩ := N
                obtain ⟨H, hH⟩ : ∃ H, IntKind.u64.wrap (ah - bh) = H := ⟨_, rfl⟩
                rw [hH] at r4 r5
                by_cases hbor : al < D
                · have r6 := r4 hbor
                  skip
                  clear r4 r5
                  go_wp2_with fail
                  exact ⟨⟨k + 1, by omega, by go_num⟩, by simp [intOf]; omega⟩
                · have r6 := r5 (by omega)
                  clear r4 r5
                  skip
                  rw [r6] at hH
                  clear r6
                  go_wp2_with fail
                  exact ⟨⟨k + 1, by omega, by go_num⟩, by simp [intOf]; omega⟩
          · go_wp2_with fail
            refine (law2_known _).mono ?_
            rintro e w7 ⟨rfl, k7⟩
            go_wp2_with fail
            go_ret
            exact ⟨rfl, HK.out.trans k7⟩
  · have C := share_Split_err whole a len cap l w hs hn he
    have hbn : (splE len l != 0) = true := by rw [bne_iff_ne]; exact he
    have hbig := hs.big
    unfold maxLen at hbig
    have HC := hidMk C
    clear C hs hn he
    generalize splE len l = E at *
    go_enter Try.func4, Try.ntmps4
    go_wp2_with fail
    refine HC.out.mono ?_
    rintro e w1 ⟨rfl, rfl⟩
    go_wp2_with fail
    refine (law2_known _).mono ?_
    rintro e w7 ⟨rfl, k7⟩
    go_wp2_with fail
    go_ret
    exact ⟨rfl, k7⟩
end Go.Proofs.Ytldfnlkineehbab
