/- The library's symMergeCmpFunc, whole. -/
import Derived.Test.YtldfnlkineehbaaSort5Math
namespace Go.Proofs.Ytldfnlkineehbaa
open Go.RowKit
set_option linter.unusedSimpArgs false
set_option linter.unusedVariables false

/-- What is said of symMerge up to a length. -/
def Merges (w0 : World) (B n R : Nat) (K : Int → Int) (k : Nat) : Prop :=
  ∀ (a m b : Nat) (d : Nat → Int) (w : World), b - a ≤ k → AW w0 B n d w → (∀ i, i < n → 0 ≤ d i ∧ d i < n) → a < m → m < b → b ≤ n → Srt K d a m → Srt K d m b → (∀ i j, a ≤ i → i < m → m ≤ j → j < b → d i < d j) →
    Calls Try.prog 53 #[.slice (some ⟨B, 0, none⟩) n n, .int .i64 a, .int .i64 m, .int .i64 b, .func (.func 47) #[] #[.pointer (some ⟨R, 0, none⟩)]] w fun e w' =>
      e = .returned (.tuple #[]) ∧ Merged w0 B n a b K d w'
theorem Merges.at {w0 : World} {B n R : Nat} {K : Int → Int} {k : Nat} (h : Merges w0 B n R K k) (a m b : Nat) (A M C : Int) (d : Nat → Int) (w : World) (h1 : b - a ≤ k) (h2 : AW w0 B n d w) (h3 : ∀ i, i < n → 0 ≤ d i ∧ d i < n) (h4 : a < m) (h5 : m < b) (h6 : b ≤ n) (h7 : Srt K d a m) (h8 : Srt K d m b) (h9 : ∀ i j, a ≤ i → i < m → m ≤ j → j < b → d i < d j)
    (e1 : A = a) (e2 : M = m) (e3 : C = b) :
    Calls Try.prog 53 #[.slice (some ⟨B, 0, none⟩) n n, .int .i64 A, .int .i64 M, .int .i64 C, .func (.func 47) #[] #[.pointer (some ⟨R, 0, none⟩)]] w fun e w' =>
      e = .returned (.tuple #[]) ∧ Merged w0 B n a b K d w' := by
  subst e1 e2 e3
  exact h a m b d w h1 h2 h3 h4 h5 h6 h7 h8 h9
theorem rotateI (w0 : World) (B n a m b : Nat) (A M C : Int) (d : Nat → Int) (g : Value) (w : World) (h : AW w0 B n d w) (ham : a < m) (hmb : m < b) (hb : b ≤ n) (hn : n ≤ 1000000) (e1 : A = a) (e2 : M = m) (e3 : C = b) :
    Calls Try.prog 54 #[.slice (some ⟨B, 0, none⟩) n n, .int .i64 A, .int .i64 M, .int .i64 C, g] w fun e w' => e = .returned (.tuple #[]) ∧ AW w0 B n (rot d a m b) w' := by
  subst e1 e2 e3
  exact rotate w0 B n a m b d g w h ham hmb hb hn

set_option maxHeartbeats 8000000 in
set_option maxRecDepth 100000 in
theorem symMerge_gt (w0 : World) (B n k a m b mid R : Nat) (K : Int → Int) (d : Nat → Int) (w : World) (IH : Merges w0 B n R K k) (hk : b - a ≤ k + 1) (h : AW w0 B n d w) (hc : Cmp w0 B n R K) (hrng : ∀ i, i < n → 0 ≤ d i ∧ d i < n) (ham : a + 1 < m) (hmb : m + 1 < b) (hb : b ≤ n) (hn : n ≤ 1000000)
    (hs1 : Srt K d a m) (hs2 : Srt K d m b) (hid : ∀ i j, a ≤ i → i < m → m ≤ j → j < b → d i < d j) (hmid : mid = (a + b) / 2) (hgt : mid < m) :
    Calls Try.prog 53 #[.slice (some ⟨B, 0, none⟩) n n, .int .i64 a, .int .i64 m, .int .i64 b, .func (.func 47) #[] #[.pointer (some ⟨R, 0, none⟩)]] w fun e w' =>
      e = .returned (.tuple #[]) ∧ Merged w0 B n a b K d w' := by
  have HC := hidMk hc
  have HI := hidMk hid
  have HS1 := hidMk hs1
  have HS2 := hidMk hs2
  have HF := hidMk hrng
  have HIH := hidMk IH
  have HMID := hidMk hmid
  have ht : (((m : Int) - (a : Int) == 1) = false) := by rw [beq_eq_false_iff_ne]; omega
  have ht2 : (((b : Int) - (m : Int) == 1) = false) := by rw [beq_eq_false_iff_ne]; omega
  have hmd : ((a : Int) + (b : Int)) / 2 = (mid : Int) := by omega
  have hm1 : a < mid := by omega
  have hm2 : mid < b := by omega
  have hm3 : a + b ≤ 2 * mid + 1 := by omega
  have hm4 : 2 * mid ≤ a + b := by omega
  obtain ⟨s0, hs0⟩ : ∃ s0, lo0 a m b mid = s0 := ⟨_, rfl⟩
  obtain ⟨r0, hr0⟩ : ∃ r0, hi0 m mid = r0 := ⟨_, rfl⟩
  have hb0 : a ≤ s0 ∧ s0 ≤ r0 ∧ r0 ≤ m ∧ r0 ≤ mid ∧ mid + m ≤ b + s0 := by
    rw [← hs0, ← hr0]; unfold lo0 hi0; split <;> omega
  obtain ⟨q1, q2, q3, q4, q5⟩ := hb0
  have HS0 := hidMk hs0
  have HR0 := hidMk hr0
  clear hc hid hs1 hs2 hrng IH hmid hs0 hr0
  go_enter Try.func53, Try.ntmps53
  go_wp2
  go_loopw [20, 21] (fun x y wr => ∃ s r : Nat, s0 ≤ s ∧ s ≤ r ∧ r ≤ r0 ∧ x = .int .i64 s ∧ y = .int .i64 r ∧ (∀ c, s0 ≤ c → c < s → K (d (mid + m - 1 - c)) ≤ K (d c)) ∧ (∀ c, r ≤ c → c < r0 → K (d c) < K (d (mid + m - 1 - c))) ∧ AW w0 B n d wr) (fun x y _ => (intOf y).toNat - (intOf x).toNat)
  case atStart =>
    refine ⟨s0, r0, Nat.le_refl _, q2, Nat.le_refl _, ?_, ?_, fun k k1 k2 => absurd k2 (by omega), fun k k1 k2 => absurd k2 (by omega), h⟩
    · have := HS0.out; unfold lo0 at this; rw [if_pos hgt] at this; congr 1; omega
    · have := HR0.out; unfold hi0 at this; rw [if_pos hgt] at this; congr 1; omega
  case round =>
    obtain ⟨s, r, hs, hsr, hr, rfl, rfl, hlo, hhi, hw⟩ := hrel
    have HLO := hidMk hlo
    have HHI := hidMk hhi
    clear hlo hhi h
    by_cases hlt : s < r
    · have c1 := hw.cell ((s + r) / 2) (by omega)
      have D := search_down HS1.out HS2.out HMID.out (c := (s + r) / 2) (by omega) (by omega) (by rw [HS0.out]; omega) (by rw [HR0.out]; omega)
      rw [HS0.out, HR0.out] at D
      obtain ⟨d1, d2, d3, d4, d5, d6⟩ := D
      have c2 := hw.cell (mid + m - 1 - (s + r) / 2) (by omega)
      have rx := HF.out ((s + r) / 2) (by omega)
      have ry := HF.out (mid + m - 1 - (s + r) / 2) (by omega)
      have C := fun q => HC.out (wr.drewN q) (below_drewN hw.below q) (d (mid + m - 1 - (s + r) / 2)) (d ((s + r) / 2)) ry.1 ry.2 rx.1 rx.2
      have D5 := hidMk d5
      have D6 := hidMk d6
      clear rx ry d5 d6
      by_cases hk : K (d ((s + r) / 2)) < K (d (mid + m - 1 - (s + r) / 2))
      · have hz := cf_neg hk
        generalize cfOf (K (d ((s + r) / 2))) (K (d (mid + m - 1 - (s + r) / 2))) = z at *
        have HC1 := hidMk C
        have HK := hidMk hk
        clear C hk
        go_wp2
        go_quiet ((go_at_call 47; exact Calls.quiet_of (HC1.out _)))
        go_wp2
        refine ⟨⟨s, (s + r) / 2, hs, by omega, by omega, rfl, by first | (congr 1; omega) | congr 1, HLO.out, fun c x1 x2 => ?_, hw.drewN _⟩, by simp [intOf]; omega⟩
        exact D6.out HK.out c x1 x2
      · have hz := cf_pos hk
        generalize cfOf (K (d ((s + r) / 2))) (K (d (mid + m - 1 - (s + r) / 2))) = z at *
        have HC1 := hidMk C
        have HK := hidMk (Int.not_lt.1 hk)
        have hzb : (!decide (z < 0)) = true := by simp; omega
        clear C hk
        go_wp2
        go_quiet ((go_at_call 47; exact Calls.quiet_of (HC1.out _)))
        go_wp2
        refine ⟨⟨(s + r) / 2 + 1, r, by omega, by omega, hr, by first | (congr 1; omega) | congr 1, rfl, fun c x1 x2 => ?_, HHI.out, hw.drewN _⟩, by simp [intOf]; omega⟩
        exact D5.out HK.out c x1 (by omega)
    · have e : r = s := by omega
      subst e
      have F := found_of (s := r) HI.out HMID.out (by omega) (by omega) (by rw [HS0.out]; exact hs) (by rw [HR0.out]; exact hr) (by rw [HS0.out]; exact HLO.out) (by rw [HR0.out]; exact HHI.out)
      obtain ⟨t, ht3⟩ : ∃ t, mid + m - r = t := ⟨_, rfl⟩
      rw [ht3] at F
      obtain ⟨p1, p2, p3, p4, p5, p6, p7, p8⟩ := found_parts F HS1.out HS2.out HI.out
      have ht4 : r + t ≤ mid + m := Nat.le_of_eq F.sum
      have ht7 : mid + m ≤ r + t := Nat.le_of_eq F.sum.symm
      have ht5 : t ≤ b := F.tb
      have ht6 : m ≤ t := F.mt
      have P1 := hidMk p1; have P2 := hidMk p2; have P3 := hidMk p3; have P4 := hidMk p4; have P5 := hidMk p5; have P6 := hidMk p6; have P7 := hidMk p7; have P8 := hidMk p8
      have RNG : Hid (∀ e1 : Nat → Int, Img a mid (rot d r m t) e1 → ∀ i, i < n → 0 ≤ e1 i ∧ e1 i < n) := fun e1 h1 i hi => by
        have h2 := p8.trans (h1.wider (Nat.le_refl _) (by omega))
        by_cases hin : a ≤ i ∧ i < b
        · exact h2.all (p := fun x => 0 ≤ x ∧ x < (n : Int)) (fun j j1 j2 => HF.out j (by omega)) i hin.1 hin.2
        · rw [h2.out i (by omega)]; exact HF.out i hi
      clear p1 p2 p3 p4 p5 p6 p7 p8 F ht3 HLO HHI
      by_cases hc1 : r < mid
      · go_wp2_with fail
        refine (rotateI w0 B n r m t _ _ _ d _ wr hw (by omega) (by omega) (by omega) hn (by omega) (by omega) (by omega)).mono ?_
        rintro e1 w1 ⟨rfl, hw1⟩
        by_cases har : a < r
        · go_wp2_with fail
          refine (HIH.out.at a r mid _ _ _ _ _ (by omega) hw1 (RNG.out _ (Img.refl _ _ _)) (by omega) (by omega) (by omega) P1.out P2.out P6.out (by omega) (by omega) (by omega)).mono ?_
          rintro e2 w2 ⟨rfl, f1, hw2, im1, sr1⟩
          by_cases htb : t < b
          · go_wp2_with fail
            refine (HIH.out.at mid t b _ _ _ _ _ (by omega) hw2 (fun i hi => RNG.out _ im1 i hi) (by omega) (by omega) hb (P3.out.out im1 (.inr (Nat.le_refl _))) (P4.out.out im1 (.inr (by omega))) (fun i j g1 g2 g3 g4 => by rw [im1.out i (.inr g1), im1.out j (.inr (by omega))]; exact P7.out i j g1 g2 g3 g4) (by omega) (by omega) (by omega)).mono ?_
            rintro e3 w3 ⟨rfl, f2, hw3, im2, sr2⟩
            go_wp2_with fail
            go_end0
            exact ⟨rfl, _, hw3, both_halves (by omega) (by omega) P8.out P5.out im1 sr1 im2 sr2⟩
          · go_wp2_with fail
            go_end0
            have etb : t = b := by omega
            exact ⟨rfl, _, hw2, both_halves (by omega) (by omega) P8.out P5.out im1 sr1 (Img.refl _ _ _) (etb ▸ (P3.out.out im1 (.inr (Nat.le_refl _))))⟩
        · go_wp2_with fail
          go_end0
          have ear : r = a := by omega
          have etb : t = b := by omega
          exact ⟨rfl, _, hw1, both_halves (by omega) (by omega) P8.out P5.out (Img.refl a mid (rot d r m t)) (ear ▸ P2.out) (Img.refl _ _ _) (etb ▸ (P3.out.out (Img.refl a mid (rot d r m t)) (.inr (Nat.le_refl _))))⟩
      · have hw1 : AW w0 B n (rot d r m t) wr := by rw [rot_none (by omega) ht6 (.inr (by omega))]; exact hw
        go_wp2_with fail
        refine (HIH.out.at mid t b _ _ _ _ _ (by omega) hw1 (fun i hi => RNG.out _ (Img.refl a mid (rot d r m t)) i hi) (by omega) (by omega) hb (P3.out.out (Img.refl a mid (rot d r m t)) (.inr (Nat.le_refl _))) (P4.out.out (Img.refl a mid (rot d r m t)) (.inr (by omega))) (fun i j g1 g2 g3 g4 => by rw [(Img.refl a mid (rot d r m t)).out i (.inr g1), (Img.refl a mid (rot d r m t)).out j (.inr (by omega))]; exact P7.out i j g1 g2 g3 g4) (by omega) (by omega) (by omega)).mono ?_
        rintro e3 w3 ⟨rfl, f2, hw3, im2, sr2⟩
        go_wp2_with fail
        go_end0
        have er : r = mid := by omega
        exact ⟨rfl, _, hw3, both_halves (by omega) (by omega) P8.out P5.out (Img.refl a mid (rot d r m t)) (er ▸ P1.out) im2 sr2⟩

set_option maxHeartbeats 8000000 in
set_option maxRecDepth 100000 in
theorem symMerge_le (w0 : World) (B n k a m b mid R : Nat) (K : Int → Int) (d : Nat → Int) (w : World) (IH : Merges w0 B n R K k) (hk : b - a ≤ k + 1) (h : AW w0 B n d w) (hc : Cmp w0 B n R K) (hrng : ∀ i, i < n → 0 ≤ d i ∧ d i < n) (ham : a + 1 < m) (hmb : m + 1 < b) (hb : b ≤ n) (hn : n ≤ 1000000)
    (hs1 : Srt K d a m) (hs2 : Srt K d m b) (hid : ∀ i j, a ≤ i → i < m → m ≤ j → j < b → d i < d j) (hmid : mid = (a + b) / 2) (hgt : m ≤ mid) :
    Calls Try.prog 53 #[.slice (some ⟨B, 0, none⟩) n n, .int .i64 a, .int .i64 m, .int .i64 b, .func (.func 47) #[] #[.pointer (some ⟨R, 0, none⟩)]] w fun e w' =>
      e = .returned (.tuple #[]) ∧ Merged w0 B n a b K d w' := by
  have HC := hidMk hc
  have HI := hidMk hid
  have HS1 := hidMk hs1
  have HS2 := hidMk hs2
  have HF := hidMk hrng
  have HIH := hidMk IH
  have HMID := hidMk hmid
  have ht : (((m : Int) - (a : Int) == 1) = false) := by rw [beq_eq_false_iff_ne]; omega
  have ht2 : (((b : Int) - (m : Int) == 1) = false) := by rw [beq_eq_false_iff_ne]; omega
  have hmd : ((a : Int) + (b : Int)) / 2 = (mid : Int) := by omega
  have hm1 : a < mid := by omega
  have hm2 : mid < b := by omega
  have hm3 : a + b ≤ 2 * mid + 1 := by omega
  have hm4 : 2 * mid ≤ a + b := by omega
  obtain ⟨s0, hs0⟩ : ∃ s0, lo0 a m b mid = s0 := ⟨_, rfl⟩
  obtain ⟨r0, hr0⟩ : ∃ r0, hi0 m mid = r0 := ⟨_, rfl⟩
  have hb0 : a ≤ s0 ∧ s0 ≤ r0 ∧ r0 ≤ m ∧ r0 ≤ mid ∧ mid + m ≤ b + s0 := by
    rw [← hs0, ← hr0]; unfold lo0 hi0; split <;> omega
  obtain ⟨q1, q2, q3, q4, q5⟩ := hb0
  have HS0 := hidMk hs0
  have HR0 := hidMk hr0
  clear hc hid hs1 hs2 hrng IH hmid hs0 hr0
  go_enter Try.func53, Try.ntmps53
  go_wp2
  go_loopw [20, 21] (fun x y wr => ∃ s r : Nat, s0 ≤ s ∧ s ≤ r ∧ r ≤ r0 ∧ x = .int .i64 s ∧ y = .int .i64 r ∧ (∀ c, s0 ≤ c → c < s → K (d (mid + m - 1 - c)) ≤ K (d c)) ∧ (∀ c, r ≤ c → c < r0 → K (d c) < K (d (mid + m - 1 - c))) ∧ AW w0 B n d wr) (fun x y _ => (intOf y).toNat - (intOf x).toNat)
  case atStart =>
    refine ⟨s0, r0, Nat.le_refl _, q2, Nat.le_refl _, ?_, ?_, fun k k1 k2 => absurd k2 (by omega), fun k k1 k2 => absurd k2 (by omega), h⟩
    · have := HS0.out; unfold lo0 at this; rw [if_neg (by omega)] at this; congr 1; omega
    · have := HR0.out; unfold hi0 at this; rw [if_neg (by omega)] at this; congr 1; omega
  case round =>
    obtain ⟨s, r, hs, hsr, hr, rfl, rfl, hlo, hhi, hw⟩ := hrel
    have HLO := hidMk hlo
    have HHI := hidMk hhi
    clear hlo hhi h
    by_cases hlt : s < r
    · have c1 := hw.cell ((s + r) / 2) (by omega)
      have D := search_down HS1.out HS2.out HMID.out (c := (s + r) / 2) (by omega) (by omega) (by rw [HS0.out]; omega) (by rw [HR0.out]; omega)
      rw [HS0.out, HR0.out] at D
      obtain ⟨d1, d2, d3, d4, d5, d6⟩ := D
      have c2 := hw.cell (mid + m - 1 - (s + r) / 2) (by omega)
      have rx := HF.out ((s + r) / 2) (by omega)
      have ry := HF.out (mid + m - 1 - (s + r) / 2) (by omega)
      have C := fun q => HC.out (wr.drewN q) (below_drewN hw.below q) (d (mid + m - 1 - (s + r) / 2)) (d ((s + r) / 2)) ry.1 ry.2 rx.1 rx.2
      have D5 := hidMk d5
      have D6 := hidMk d6
      clear rx ry d5 d6
      by_cases hk : K (d ((s + r) / 2)) < K (d (mid + m - 1 - (s + r) / 2))
      · have hz := cf_neg hk
        generalize cfOf (K (d ((s + r) / 2))) (K (d (mid + m - 1 - (s + r) / 2))) = z at *
        have HC1 := hidMk C
        have HK := hidMk hk
        clear C hk
        go_wp2
        go_quiet ((go_at_call 47; exact Calls.quiet_of (HC1.out _)))
        go_wp2
        refine ⟨⟨s, (s + r) / 2, hs, by omega, by omega, rfl, by first | (congr 1; omega) | congr 1, HLO.out, fun c x1 x2 => ?_, hw.drewN _⟩, by simp [intOf]; omega⟩
        exact D6.out HK.out c x1 x2
      · have hz := cf_pos hk
        generalize cfOf (K (d ((s + r) / 2))) (K (d (mid + m - 1 - (s + r) / 2))) = z at *
        have HC1 := hidMk C
        have HK := hidMk (Int.not_lt.1 hk)
        have hzb : (!decide (z < 0)) = true := by simp; omega
        clear C hk
        go_wp2
        go_quiet ((go_at_call 47; exact Calls.quiet_of (HC1.out _)))
        go_wp2
        refine ⟨⟨(s + r) / 2 + 1, r, by omega, by omega, hr, by first | (congr 1; omega) | congr 1, rfl, fun c x1 x2 => ?_, HHI.out, hw.drewN _⟩, by simp [intOf]; omega⟩
        exact D5.out HK.out c x1 (by omega)
    · have e : r = s := by omega
      subst e
      have F := found_of (s := r) HI.out HMID.out (by omega) (by omega) (by rw [HS0.out]; exact hs) (by rw [HR0.out]; exact hr) (by rw [HS0.out]; exact HLO.out) (by rw [HR0.out]; exact HHI.out)
      obtain ⟨t, ht3⟩ : ∃ t, mid + m - r = t := ⟨_, rfl⟩
      rw [ht3] at F
      obtain ⟨p1, p2, p3, p4, p5, p6, p7, p8⟩ := found_parts F HS1.out HS2.out HI.out
      have ht4 : r + t ≤ mid + m := Nat.le_of_eq F.sum
      have ht7 : mid + m ≤ r + t := Nat.le_of_eq F.sum.symm
      have ht5 : t ≤ b := F.tb
      have ht6 : m ≤ t := F.mt
      have P1 := hidMk p1; have P2 := hidMk p2; have P3 := hidMk p3; have P4 := hidMk p4; have P5 := hidMk p5; have P6 := hidMk p6; have P7 := hidMk p7; have P8 := hidMk p8
      have RNG : Hid (∀ e1 : Nat → Int, Img a mid (rot d r m t) e1 → ∀ i, i < n → 0 ≤ e1 i ∧ e1 i < n) := fun e1 h1 i hi => by
        have h2 := p8.trans (h1.wider (Nat.le_refl _) (by omega))
        by_cases hin : a ≤ i ∧ i < b
        · exact h2.all (p := fun x => 0 ≤ x ∧ x < (n : Int)) (fun j j1 j2 => HF.out j (by omega)) i hin.1 hin.2
        · rw [h2.out i (by omega)]; exact HF.out i hi
      clear p1 p2 p3 p4 p5 p6 p7 p8 F ht3 HLO HHI
      by_cases hc1 : r < m
      · go_wp2_with fail
        refine (rotateI w0 B n r m t _ _ _ d _ wr hw (by omega) (by omega) (by omega) hn (by omega) (by omega) (by omega)).mono ?_
        rintro e1 w1 ⟨rfl, hw1⟩
        by_cases har : a < r
        · go_wp2_with fail
          refine (HIH.out.at a r mid _ _ _ _ _ (by omega) hw1 (RNG.out _ (Img.refl _ _ _)) (by omega) (by omega) (by omega) P1.out P2.out P6.out (by omega) (by omega) (by omega)).mono ?_
          rintro e2 w2 ⟨rfl, f1, hw2, im1, sr1⟩
          go_wp2_with fail
          refine (HIH.out.at mid t b _ _ _ _ _ (by omega) hw2 (fun i hi => RNG.out _ im1 i hi) (by omega) (by omega) hb (P3.out.out im1 (.inr (Nat.le_refl _))) (P4.out.out im1 (.inr (by omega))) (fun i j g1 g2 g3 g4 => by rw [im1.out i (.inr g1), im1.out j (.inr (by omega))]; exact P7.out i j g1 g2 g3 g4) (by omega) (by omega) (by omega)).mono ?_
          rintro e3 w3 ⟨rfl, f2, hw3, im2, sr2⟩
          go_wp2_with fail
          go_end0
          exact ⟨rfl, _, hw3, both_halves (by omega) (by omega) P8.out P5.out im1 sr1 im2 sr2⟩
        · by_cases htb : t < b
          · go_wp2_with fail
            refine (HIH.out.at mid t b _ _ _ _ _ (by omega) hw1 (fun i hi => RNG.out _ (Img.refl a mid (rot d r m t)) i hi) (by omega) (by omega) hb (P3.out.out (Img.refl a mid (rot d r m t)) (.inr (Nat.le_refl _))) (P4.out.out (Img.refl a mid (rot d r m t)) (.inr (by omega))) (fun i j g1 g2 g3 g4 => by rw [(Img.refl a mid (rot d r m t)).out i (.inr g1), (Img.refl a mid (rot d r m t)).out j (.inr (by omega))]; exact P7.out i j g1 g2 g3 g4) (by omega) (by omega) (by omega)).mono ?_
            rintro e3 w3 ⟨rfl, f2, hw3, im2, sr2⟩
            go_wp2_with fail
            go_end0
            have ear : r = a := by omega
            exact ⟨rfl, _, hw3, both_halves (by omega) (by omega) P8.out P5.out (Img.refl a mid (rot d r m t)) (ear ▸ P2.out) im2 sr2⟩
          · go_wp2_with fail
            go_end0
            have ear : r = a := by omega
            have etb : t = b := by omega
            exact ⟨rfl, _, hw1, both_halves (by omega) (by omega) P8.out P5.out (Img.refl a mid (rot d r m t)) (ear ▸ P2.out) (Img.refl _ _ _) (etb ▸ (P3.out.out (Img.refl a mid (rot d r m t)) (.inr (Nat.le_refl _))))⟩
      · have hw1 : AW w0 B n (rot d r m t) wr := by rw [rot_none (by omega) ht6 (.inl (by omega))]; exact hw
        by_cases hmm : m < mid
        · go_wp2_with fail
          refine (HIH.out.at a r mid _ _ _ _ _ (by omega) hw1 (RNG.out _ (Img.refl _ _ _)) (by omega) (by omega) (by omega) P1.out P2.out P6.out (by omega) (by omega) (by omega)).mono ?_
          rintro e2 w2 ⟨rfl, f1, hw2, im1, sr1⟩
          go_wp2_with fail
          go_end0
          have et : t = mid := by omega
          exact ⟨rfl, _, hw2, both_halves (by omega) (by omega) P8.out P5.out im1 sr1 (Img.refl _ _ _) (et ▸ (P4.out.out im1 (.inr (by omega))))⟩
        · go_wp2_with fail
          go_end0
          have et : t = mid := by omega
          have er : r = mid := by omega
          exact ⟨rfl, _, hw1, both_halves (by omega) (by omega) P8.out P5.out (Img.refl a mid (rot d r m t)) (er ▸ P1.out) (Img.refl _ _ _) (et ▸ P4.out)⟩

theorem symMerge (w0 : World) (B n R : Nat) (K : Int → Int) (hc : Cmp w0 B n R K) (hn : n ≤ 1000000) : ∀ k, Merges w0 B n R K k := by
  intro k
  induction k with
  | zero =>
    intro a m b d w h1 h2 h3 h4 h5 h6 h7 h8 h9
    omega
  | succ k IH =>
    intro a m b d w h1 h2 h3 h4 h5 h6 h7 h8 h9
    by_cases e1 : m = a + 1
    · exact symMerge_left w0 B n a m b R K d w h2 hc h3 e1 h5 h6 hn h8 h9
    · by_cases e2 : b = m + 1
      · exact symMerge_right w0 B n a m b R K d w h2 hc h3 (by omega) e2 h6 hn h7 h9
      · by_cases hgt : (a + b) / 2 < m
        · exact symMerge_gt w0 B n k a m b _ R K d w IH h1 h2 hc h3 (by omega) (by omega) h6 hn h7 h8 h9 rfl hgt
        · exact symMerge_le w0 B n k a m b _ R K d w IH h1 h2 hc h3 (by omega) (by omega) h6 hn h7 h8 h9 rfl (by omega)
end Go.Proofs.Ytldfnlkineehbaa
