/- The library's stableCmpFunc and SortStableFunc at the row 0, 1, 2, .. -/
import Derived.Test.YtldfnlkineehbaaSort5
namespace Go.Proofs.Ytldfnlkineehbaa
open Go.RowKit
set_option linter.unusedSimpArgs false
set_option linter.unusedVariables false

/-- [p, q) is sorted, and has numbers of [p, q) alone. -/
def GoodB (K : Int → Int) (f : Nat → Int) (p q : Nat) : Prop := Srt K f p q ∧ ∀ i, p ≤ i → i < q → (p : Int) ≤ f i ∧ f i < q
/-- All blocks of z from p on. -/
def RB (K : Int → Int) (f : Nat → Int) (z p n : Nat) : Prop := ∀ k, p + k * z < n → GoodB K f (p + k * z) (min (p + k * z + z) n)
/-- The first c blocks of z. -/
def LB (K : Int → Int) (f : Nat → Int) (z c : Nat) : Prop := ∀ k, k < c → GoodB K f (k * z) (k * z + z)

theorem GoodB.out {K : Int → Int} {f g : Nat → Int} {p q a b : Nat} (h : GoodB K f p q) (i : Img a b f g) (ho : q ≤ a ∨ b ≤ p) : GoodB K g p q :=
  ⟨h.1.out i ho, fun x x1 x2 => by rw [i.out x (by omega)]; exact h.2 x x1 x2⟩
theorem RB.next {K : Int → Int} {f : Nat → Int} {z p n : Nat} (h : RB K f z p n) : RB K f z (p + z) n := by
  intro k hk
  have e : p + z + k * z = p + (k + 1) * z := by rw [Nat.succ_mul]; omega
  rw [e] at hk ⊢
  exact h (k + 1) hk
theorem RB.out {K : Int → Int} {f g : Nat → Int} {z p n a b : Nat} (h : RB K f z p n) (i : Img a b f g) (ho : b ≤ p) : RB K g z p n :=
  fun k hk => (h k hk).out i (.inr (by omega))
theorem LB.out {K : Int → Int} {f g : Nat → Int} {z c a b : Nat} (h : LB K f z c) (i : Img a b f g) (ho : c * z ≤ a) : LB K g z c := by
  intro k hk
  refine (h k hk).out i (.inl ?_)
  have : (k + 1) * z ≤ c * z := Nat.mul_le_mul_right z hk
  rw [Nat.succ_mul] at this
  omega
theorem LB.snoc {K : Int → Int} {f : Nat → Int} {z c : Nat} (h : LB K f z c) (g : GoodB K f (c * z) (c * z + z)) : LB K f z (c + 1) := by
  intro k hk
  by_cases e : k = c
  · subst e; exact g
  · exact h k (by omega)
theorem RB.first {K : Int → Int} {f : Nat → Int} {z p n : Nat} (h : RB K f z p n) (hp : p < n) : GoodB K f p (min (p + z) n) := by
  have := h 0 (by omega)
  simpa using this
theorem good_merge {K : Int → Int} {f g : Nat → Int} {a m b : Nat} (h1 : GoodB K f a m) (h2 : GoodB K f m b) (ham : a ≤ m) (hmb : m ≤ b) (i : Img a b f g) (s : Srt K g a b) : GoodB K g a b := by
  refine ⟨s, i.all (p := fun x => (a : Int) ≤ x ∧ x < b) fun j j1 j2 => ?_⟩
  by_cases hj : j < m
  · have := h1.2 j j1 hj; omega
  · have := h2.2 j (by omega) j2; omega
theorem good_hid {K : Int → Int} {f : Nat → Int} {a m b : Nat} (h1 : GoodB K f a m) (h2 : GoodB K f m b) : ∀ i j, a ≤ i → i < m → m ≤ j → j < b → f i < f j := fun i j i1 i2 j1 j2 => by
  have := h1.2 i i1 i2
  have := h2.2 j j1 j2
  omega
/-- All is in blocks of z. -/
theorem level_up {K : Int → Int} {g : Nat → Int} {z c n : Nat} (h : LB K g z c) (hcn : c * z ≤ n) (hz : n < c * z + z) (hg : GoodB K g (c * z) n) : RB K g z 0 n := by
  intro k hk
  rw [Nat.zero_add] at hk ⊢
  rcases Nat.lt_trichotomy k c with e | e | e
  · have h1 : (k + 1) * z ≤ c * z := Nat.mul_le_mul_right z e
    rw [Nat.succ_mul] at h1
    rw [Nat.min_eq_left (by omega)]; exact h k e
  · subst e
    rw [Nat.min_eq_right (by omega)]; exact hg
  · have h1 : (c + 1) * z ≤ k * z := Nat.mul_le_mul_right z e
    rw [Nat.succ_mul] at h1
    omega
def idN : Nat → Int := fun i => (i : Int)
theorem idN_rng (n : Nat) {f : Nat → Int} (h : Img 0 n idN f) : ∀ i, i < n → 0 ≤ f i ∧ f i < n :=
  fun i hi => h.all (p := fun x => 0 ≤ x ∧ x < (n : Int)) (fun j j1 j2 => by unfold idN; omega) i (Nat.zero_le _) hi

theorem insertionSortI (w0 : World) (B n a b R : Nat) (A C : Int) (K : Int → Int) (d : Nat → Int) (w : World) (h : AW w0 B n d w) (hc : Cmp w0 B n R K) (hrng : ∀ i, i < n → 0 ≤ d i ∧ d i < n) (hab : a ≤ b) (hb : b ≤ n) (hn : n ≤ 1000000)
    (hinc : ∀ i j, a ≤ i → i < j → j < b → d i < d j) (e1 : A = a) (e2 : C = b) :
    Calls Try.prog 52 #[.slice (some ⟨B, 0, none⟩) n n, .int .i64 A, .int .i64 C, .func (.func 47) #[] #[.pointer (some ⟨R, 0, none⟩)]] w fun e w' =>
      e = .returned (.tuple #[]) ∧ ∃ f, AW w0 B n f w' ∧ Img a b d f ∧ Srt K f a b := by
  subst e1 e2
  exact insertionSort w0 B n a b R K d w h hc hrng hab hb hn hinc

set_option maxHeartbeats 2000000 in
theorem stableCmp (w0 : World) (B n R : Nat) (K : Int → Int) (w : World) (h : AW w0 B n idN w) (hc : Cmp w0 B n R K) (hn : n ≤ 100000) :
    Calls Try.prog 50 #[.slice (some ⟨B, 0, none⟩) n n, .int .i64 n, .func (.func 47) #[] #[.pointer (some ⟨R, 0, none⟩)]] w fun e w' =>
      e = .returned (.tuple #[]) ∧ ∃ f, AW w0 B n f w' ∧ Img 0 n idN f ∧ Srt K f 0 n := by
  have HM := hidMk (symMerge w0 B n R K hc (by omega))
  have HC := hidMk hc
  clear hc
  go_enter Try.func50, Try.ntmps50
  go_wp2
  go_loopw [7, 8] (fun x y wr => ∃ a : Nat, ∃ f : Nat → Int, a ≤ n ∧ x = .int .i64 a ∧ y = .int .i64 ((a : Int) + 20) ∧ (∃ c, a = c * 20 ∧ LB K f 20 c) ∧ (∀ i, a ≤ i → f i = i) ∧ Img 0 n idN f ∧ AW w0 B n f wr) (fun x _ _ => n + 1 - (intOf x).toNat)
  case atStart => exact ⟨0, idN, Nat.zero_le _, rfl, rfl, ⟨0, rfl, fun k hk => absurd hk (by omega)⟩, fun i _ => rfl, Img.refl _ _ _, h⟩
  case round =>
    obtain ⟨a, f, han, rfl, rfl, hlb, hid, himg, hw⟩ := hrel
    have HL := hidMk hlb
    have HI := hidMk hid
    have HG := hidMk himg
    clear hlb hid himg h
    by_cases hlt : a + 20 ≤ n
    · go_wp2_with fail
      refine (insertionSortI w0 B n a (a + 20) R _ _ K f wr hw HC.out (idN_rng n HG.out) (by omega) hlt (by omega) (fun i j i1 i2 i3 => by rw [HI.out i i1, HI.out j (by omega)]; omega) rfl (by omega)).mono ?_
      rintro e w1 ⟨rfl, g, hw1, im1, sr1⟩
      go_wp2_with fail
      refine ⟨⟨a + 20, g, by omega, by first | (congr 1; omega) | congr 1, by first | (congr 1; omega) | congr 1, ?_, fun i hi => ?_, HG.out.trans (im1.wider (Nat.zero_le _) hlt), hw1⟩, by simp [intOf]; omega⟩
      · obtain ⟨c, hc, hl⟩ := HL.out
        refine ⟨c + 1, by omega, (hl.out im1 (by omega)).snoc ?_⟩
        rw [← hc]
        exact ⟨sr1, im1.all (p := fun x => (a : Int) ≤ x ∧ x < ((a + 20 : Nat) : Int)) fun j j1 j2 => by rw [HI.out j j1]; omega⟩
      · rw [im1.out i (.inr hi)]; exact HI.out i (by omega)
    · go_wp2_with fail
      refine (insertionSortI w0 B n a n R _ _ K f wr hw HC.out (idN_rng n HG.out) han (Nat.le_refl _) (by omega) (fun i j i1 i2 i3 => by rw [HI.out i i1, HI.out j (by omega)]; omega) rfl rfl).mono ?_
      rintro e w1 ⟨rfl, g, hw1, im1, sr1⟩
      have hrb : RB K g 20 0 n := by
        obtain ⟨c, hc, hl⟩ := HL.out
        refine level_up (c := c) (hl.out im1 (by omega)) (by omega) (by omega) ?_
        rw [← hc]
        exact ⟨sr1, im1.all (p := fun x => (a : Int) ≤ x ∧ x < (n : Int)) fun j j1 j2 => by rw [HI.out j j1]; omega⟩
      have himg : Img 0 n idN g := HG.out.trans (im1.wider (Nat.zero_le _) (Nat.le_refl _))
      clear HL HI HG hw im1 sr1
      have HRB := hidMk hrb
      have HIM := hidMk himg
      clear hrb himg han hlt
      go_wp2_with fail
      go_loopw [6, 7, 8] (fun x y y' wr => ∃ z : Nat, ∃ f : Nat → Int, 1 ≤ z ∧ z ≤ 300000 ∧ x = .int .i64 z ∧ RB K f z 0 n ∧ Img 0 n idN f ∧ AW w0 B n f wr) (fun x _ _ _ => 300000 - (intOf x).toNat)
      case atStart => exact ⟨20, g, by omega, by omega, rfl, HRB.out, HIM.out, hw1⟩
      case round =>
        obtain ⟨z, f, hz1, hz2, rfl, hrb, himg, hw⟩ := hrel
        have HR2 := hidMk hrb
        have HI2 := hidMk himg
        clear hrb himg hw1 HRB HIM
        by_cases hzn : z < n
        · go_wp2_with fail
          go_loopw [7, 8] (fun x y wr => ∃ a : Nat, ∃ f : Nat → Int, a ≤ n ∧ x = .int .i64 a ∧ y = .int .i64 ((a : Int) + 2 * z) ∧ (∃ c, a = c * (2 * z) ∧ LB K f (2 * z) c) ∧ RB K f z a n ∧ Img 0 n idN f ∧ AW w0 B n f wr) (fun x _ _ => n + 1 - (intOf x).toNat)
          case atStart => exact ⟨0, f, Nat.zero_le _, rfl, by first | (congr 1; omega) | congr 1, ⟨0, by omega, fun k hk => absurd hk (by omega)⟩, HR2.out, HI2.out, hw⟩
          case round =>
            obtain ⟨a, e, han, rfl, rfl, hlb, hrb, himg, hwe⟩ := hrel
            have HL := hidMk hlb
            have HR := hidMk hrb
            have HG := hidMk himg
            clear hlb hrb himg hw HR2 HI2
            by_cases hlt : a + 2 * z ≤ n
            · have g1 : GoodB K e a (a + z) := by have := HR.out.first (by omega); rwa [Nat.min_eq_left (by omega)] at this
              have g2 : GoodB K e (a + z) (a + 2 * z) := by have := HR.out.next.first (by omega); rwa [Nat.min_eq_left (by omega), show a + z + z = a + 2 * z by omega] at this
              have G1 := hidMk g1
              have G2 := hidMk g2
              clear g1 g2
              go_wp2_with fail
              refine ((HM.out (2 * z)).at a (a + z) (a + 2 * z) _ _ _ e _ (by omega) hwe (idN_rng n HG.out) (by omega) (by omega) hlt G1.out.1 G2.out.1 (good_hid G1.out G2.out) (by omega) (by omega) (by omega)).mono ?_
              rintro e3 w3 ⟨rfl, g3, hw3, im3, sr3⟩
              go_wp2_with fail
              refine ⟨⟨a + 2 * z, g3, hlt, by first | (congr 1; omega) | congr 1, by first | (congr 1; omega) | congr 1, ?_, ?_, HG.out.trans (im3.wider (Nat.zero_le _) hlt), hw3⟩, by simp [intOf]; omega⟩
              · obtain ⟨c, hc, hl⟩ := HL.out
                refine ⟨c + 1, by rw [Nat.succ_mul c (2 * z), ← hc], (hl.out im3 (Nat.le_of_eq hc.symm)).snoc ?_⟩
                rw [← hc]
                exact good_merge G1.out G2.out (by omega) (by omega) im3 sr3
              · have := HR.out.next.next
                rw [show a + z + z = a + 2 * z by omega] at this
                exact this.out im3 (Nat.le_refl _)
            · by_cases hmn : a + z < n
              · have g1 : GoodB K e a (a + z) := by have := HR.out.first (by omega); rwa [Nat.min_eq_left (by omega)] at this
                have g2 : GoodB K e (a + z) n := by have := HR.out.next.first (by omega); rwa [Nat.min_eq_right (by omega)] at this
                have G1 := hidMk g1
                have G2 := hidMk g2
                clear g1 g2
                go_wp2_with fail
                refine ((HM.out n).at a (a + z) n _ _ _ e _ (by omega) hwe (idN_rng n HG.out) (by omega) hmn (Nat.le_refl _) G1.out.1 G2.out.1 (good_hid G1.out G2.out) (by omega) (by omega) (by omega)).mono ?_
                rintro e3 w3 ⟨rfl, g3, hw3, im3, sr3⟩
                go_wp2_with fail
                refine ⟨⟨2 * z, g3, by omega, by omega, by first | (congr 1; omega) | congr 1, ?_, HG.out.trans (im3.wider (Nat.zero_le _) (Nat.le_refl _)), hw3⟩, by simp [intOf]; omega⟩
                obtain ⟨c, hc, hl⟩ := HL.out
                refine level_up (c := c) (hl.out im3 (Nat.le_of_eq hc.symm)) (by rw [← hc]; exact han) (by rw [← hc]; omega) ?_
                rw [← hc]
                exact good_merge G1.out G2.out (by omega) (by omega) im3 sr3
              · go_wp2_with fail
                refine ⟨⟨2 * z, e, by omega, by omega, by first | (congr 1; omega) | congr 1, ?_, HG.out, hwe⟩, by simp [intOf]; omega⟩
                obtain ⟨c, hc, hl⟩ := HL.out
                refine level_up (c := c) hl (by rw [← hc]; exact han) (by rw [← hc]; omega) ?_
                rw [← hc]
                by_cases hna : a < n
                · have := HR.out.first hna
                  rwa [Nat.min_eq_right (by omega)] at this
                · exact ⟨fun i j i1 i2 i3 => absurd i3 (by omega), fun i i1 i2 => absurd i2 (by omega)⟩
        · go_wp2_with fail
          go_end0
          refine ⟨rfl, f, hw, HI2.out, ?_⟩
          by_cases hn0 : 0 < n
          · have := HR2.out.first hn0
            rw [Nat.min_eq_right (by omega)] at this
            exact this.1
          · exact fun i j i1 i2 i3 => absurd i3 (by omega)

theorem sortStable (w0 : World) (B n R : Nat) (K : Int → Int) (w : World) (h : AW w0 B n idN w) (hc : Cmp w0 B n R K) (hn : n ≤ 100000) :
    Calls Try.prog 46 #[.slice (some ⟨B, 0, none⟩) n n, .func (.func 47) #[] #[.pointer (some ⟨R, 0, none⟩)]] w fun e w' =>
      e = .returned (.tuple #[]) ∧ ∃ f, AW w0 B n f w' ∧ Img 0 n idN f ∧ Srt K f 0 n := by
  have HS := hidMk (stableCmp w0 B n R K w h hc hn)
  clear h hc
  go_enter Try.func46, Try.ntmps46
  go_wp2_with fail
  refine HS.out.mono ?_
  rintro e w1 ⟨rfl, h1⟩
  go_wp2_with fail
  go_end0
  exact ⟨rfl, h1⟩
end Go.Proofs.Ytldfnlkineehbaa
