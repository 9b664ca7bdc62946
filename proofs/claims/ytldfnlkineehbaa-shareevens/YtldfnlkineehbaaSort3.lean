/- The library's insertionSortCmpFunc at a row of ints whose numbers ascend. -/
import Derived.Test.YtldfnlkineehbaaSort2
namespace Go.Proofs.Ytldfnlkineehbaa
open Go.RowKit
set_option linter.unusedSimpArgs false
set_option linter.unusedVariables false

/-- What stands at place i has gone down to place j. -/
def ins (f : Nat → Int) (j i : Nat) : Nat → Int := fun k => if k = j then f i else if j < k ∧ k ≤ i then f (k - 1) else f k
theorem ins_self (f : Nat → Int) (i : Nat) : ins f i i = f := by
  funext k
  unfold ins
  repeat' split
  all_goals first | rfl | (exfalso; omega) | (congr 1; omega)
theorem ins_swap (f : Nat → Int) (j i : Nat) (h0 : 0 < j) (h : j ≤ i) : swp (ins f j i) j (j - 1) = ins f (j - 1) i := by
  funext k
  unfold swp ins
  repeat' split
  all_goals first | rfl | (exfalso; omega) | (congr 1; omega)
theorem ins_at (f : Nat → Int) (j i : Nat) : ins f j i j = f i := by unfold ins; rw [if_pos rfl]
theorem ins_ahead (f : Nat → Int) (j i k : Nat) (h : k < j) : ins f j i k = f k := by unfold ins; rw [if_neg (by omega), if_neg (by omega)]
theorem ins_img (f : Nat → Int) (a j i : Nat) (h1 : a ≤ j) (h2 : j ≤ i) : Img a (i + 1) f (ins f j i) := by
  refine ⟨fun k hk => ?_, fun k g1 g2 => ?_, fun k g1 g2 => ?_⟩
  · unfold ins; rw [if_neg (by omega), if_neg (by omega)]
  · by_cases e : k = j
    · exact ⟨i, by omega, by omega, by subst e; exact ins_at f k i⟩
    · by_cases e2 : j < k
      · exact ⟨k - 1, by omega, by omega, by unfold ins; rw [if_neg e, if_pos (by omega)]⟩
      · exact ⟨k, by omega, by omega, ins_ahead f j i k (by omega)⟩
  · by_cases e : k = i
    · exact ⟨j, by omega, by omega, by subst e; exact ins_at f j k⟩
    · by_cases e2 : j ≤ k
      · exact ⟨k + 1, by omega, by omega, by unfold ins; rw [if_neg (by omega), if_pos (by omega)]; rfl⟩
      · exact ⟨k, by omega, by omega, ins_ahead f j i k (by omega)⟩
theorem ins_srt {K : Int → Int} {f : Nat → Int} {a j i : Nat} (hs : Srt K f a i) (h1 : a ≤ j) (h2 : j ≤ i) (hr : ∀ k, j ≤ k → k < i → LT K (f i) (f k)) (hl : ∀ k, a ≤ k → k < j → LT K (f k) (f i)) : Srt K (ins f j i) a (i + 1) := by
  intro p q g1 g2 g3
  unfold ins
  repeat' split
  all_goals first
    | (exfalso; omega)
    | exact hr _ (by omega) (by omega)
    | exact hl _ (by omega) (by omega)
    | exact hs _ _ (by omega) (by omega) (by omega)

theorem cf_neg {a b : Int} (h : a < b) : cfOf a b < 0 := by unfold cfOf; rw [if_pos h]; omega
theorem cf_pos {a b : Int} (h : ¬ a < b) : 0 ≤ cfOf a b := by unfold cfOf; rw [if_neg h]; split <;> omega

theorem insertionSort (w0 : World) (B n a b R : Nat) (K : Int → Int) (d : Nat → Int) (w : World) (h : AW w0 B n d w) (hc : Cmp w0 B n R K) (hrng : ∀ i, i < n → 0 ≤ d i ∧ d i < n) (hab : a ≤ b) (hb : b ≤ n) (hn : n ≤ 1000000)
    (hinc : ∀ i j, a ≤ i → i < j → j < b → d i < d j) :
    Calls Try.prog 52 #[.slice (some ⟨B, 0, none⟩) n n, .int .i64 a, .int .i64 b, .func (.func 47) #[] #[.pointer (some ⟨R, 0, none⟩)]] w fun e w' =>
      e = .returned (.tuple #[]) ∧ ∃ f, AW w0 B n f w' ∧ Img a b d f ∧ Srt K f a b := by
  have HC := hidMk hc
  have HI := hidMk hinc
  clear hc hinc
  go_enter Try.func52, Try.ntmps52
  go_wp2
  go_loopw [8] (fun x wr => ∃ i : Nat, ∃ f : Nat → Int, a < i ∧ (i ≤ b ∨ (i = a + 1 ∧ f = d)) ∧ x = .int .i64 i ∧ Img a i d f ∧ Srt K f a i ∧ AW w0 B n f wr) (fun x _ => b + 1 - (intOf x).toNat)
  case atStart => exact ⟨a + 1, d, by omega, .inr ⟨rfl, rfl⟩, by go_num, Img.refl _ _ _, fun i j h1 h2 h3 => absurd h2 (by omega), h⟩
  case round =>
    obtain ⟨i, f, hai, hib, rfl, himg, hsrt, hw⟩ := hrel
    have HM := hidMk himg
    have HS := hidMk hsrt
    clear himg hsrt
    by_cases hlt : i < b
    · have hib2 : i ≤ b := by omega
      clear hib
      have hx : ∀ k, a ≤ k → k < i → f k < f i := by
        intro k k1 k2
        obtain ⟨q, q1, q2, q3⟩ := HM.out.into k k1 k2
        rw [q3, HM.out.out i (by omega)]
        exact HI.out q i q1 q2 hlt
      have hfr : ∀ k, k < n → 0 ≤ f k ∧ f k < n := by
        intro k k1
        by_cases hk : a ≤ k ∧ k < i
        · obtain ⟨q, q1, q2, q3⟩ := HM.out.into k hk.1 hk.2
          rw [q3]; exact hrng q (by omega)
        · rw [HM.out.out k (by omega)]; exact hrng k k1
      have HX := hidMk hx
      have HF := hidMk hfr
      clear hx hfr
      go_wp2
      go_loopw [9] (fun y wr => ∃ j : Nat, a ≤ j ∧ j ≤ i ∧ y = .int .i64 j ∧ (∀ k, j ≤ k → k < i → LT K (f i) (f k)) ∧ AW w0 B n (ins f j i) wr) (fun y _ => (intOf y).toNat)
      case atStart => exact ⟨i, by omega, Nat.le_refl _, rfl, fun k k1 k2 => absurd k2 (by omega), by rw [ins_self]; exact hw⟩
      case round =>
        rename_i wq
        obtain ⟨j, haj, hji, rfl, hLT, hwj⟩ := hrel
        have HL := hidMk hLT
        clear hLT hw
        by_cases hja : a < j
        · have c1 := hwj.cell j (by omega)
          have c2 := hwj.cell (j - 1) (by omega)
          have f1 := hwj.fr j (by omega)
          have f2 := hwj.fr (j - 1) (by omega)
          have S0 := fun q => (hwj.drewN q).swap j (j - 1) (by omega) (by omega)
          rw [ins_swap f j i (by omega) hji] at S0
          rw [ins_at] at c1 S0
          rw [ins_ahead f j i (j - 1) (by omega)] at c2 S0
          have S := hidMk S0
          clear S0
          have rx := HF.out i (by omega)
          have ry := HF.out (j - 1) (by omega)
          have C := fun q => HC.out (wr.drewN q) (below_drewN hwj.below q) (f i) (f (j - 1)) rx.1 rx.2 ry.1 ry.2
          clear rx ry
          by_cases hk : K (f (j - 1)) < K (f i)
          · have hz := cf_neg hk
            have hL1 := LT.right hk
            generalize cfOf (K (f (j - 1))) (K (f i)) = z at *
            have HC1 := hidMk C
            have HL1 := hidMk hL1
            clear C hk hL1 hwj
            go_wp2
            go_quiet ((go_at_call 47; exact Calls.quiet_of (HC1.out _)))
            go_wp2
            go_region
            go_wp2
            refine ⟨⟨j - 1, by omega, by omega, by congr 1; omega, fun k k1 k2 => ?_, S.out _⟩, by simp [intOf]; omega⟩
            by_cases e : k = j - 1
            · subst e; exact HL1.out
            · exact HL.out k (by omega) k2
          · have hz := cf_pos hk
            generalize cfOf (K (f (j - 1))) (K (f i)) = z at *
            have hl : ∀ k, a ≤ k → k < j → LT K (f k) (f i) := by
              intro k k1 k2
              have h1 : LT K (f (j - 1)) (f i) := LT.left (HX.out (j - 1) (by omega) (by omega)) hk
              by_cases e : k = j - 1
              · subst e; exact h1
              · exact (HS.out k (j - 1) k1 (by omega) (by omega)).trans h1
            have HR := hidMk (ins_srt HS.out haj hji HL.out hl)
            have HC1 := hidMk C
            clear C hk hl S
            go_wp2
            go_quiet ((go_at_call 47; exact Calls.quiet_of (HC1.out _)))
            go_wp2
            exact ⟨⟨i + 1, _, by omega, .inl (by omega), by go_num, (HM.out.wider (Nat.le_refl _) (by omega)).trans (ins_img f a j i haj hji), HR.out, hwj.drewN _⟩, by simp [intOf]; omega⟩
        · have e : j = a := by omega
          subst e
          have hd : decide ((j : Int) < (j : Int)) = false := by simp
          have HR := hidMk (ins_srt HS.out haj hji HL.out (fun k k1 k2 => absurd k2 (by omega)))
          go_wp2
          go_quiet (fail)
          go_wp2
          exact ⟨⟨i + 1, _, by omega, .inl (by omega), by go_num, (HM.out.wider (Nat.le_refl _) (by omega)).trans (ins_img f j j i haj hji), HR.out, hwj.drewN _⟩, by simp [intOf]; omega⟩
    · go_wp2
      go_end0
      refine ⟨rfl, f, hw, ?_, ?_⟩
      · rcases hib with hib | ⟨rfl, rfl⟩
        · have e : i = b := by omega
          subst e; exact HM.out
        · exact Img.refl _ _ _
      · exact HS.out.sub (Nat.le_refl _) (by omega)
end Go.Proofs.Ytldfnlkineehbaa
