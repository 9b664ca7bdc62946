/- The parts of a whole: their sum; no part for a weight of 0. -/
import Derived.Test.YtldfnlkineehbabShare4
namespace Go.Proofs.Ytldfnlkineehbab
open Go.RowKit
set_option linter.unusedSimpArgs false
set_option linter.unusedVariables false

theorem spl_ok {len : Nat} {l : List Int} (hn : ∀ x ∈ l, isU x) (h : splE len l = 0) : 0 < len ∧ len ≤ 1024 ∧ 0 < sumL l ∧ sumL l < 18446744073709551616 := by
  have h0 := sumL_nonneg l hn
  unfold splE cntE totE at h
  repeat' split at h
  all_goals first
    | (exfalso; omega)
    | exact ⟨by omega, by omega, by omega, by omega⟩
theorem part_zero {whole all : Int} {l : List Int} (hw : isU whole) (hall : sumL l = all) (ha : 0 < all) (i : Nat) (hi : i < l.length) (h0 : l.getD i 0 = 0) (hl : 0 ≤ leftAt whole all l l.length) : partF whole all l (keyR whole all l) i = 0 := by
  have hsn : sumN (fun i => l.getD i 0) l.length = all := by rw [← sumL_all]; exact hall
  have hq : qF whole all l i = 0 := by unfold qF; rw [h0]; simp
  have hr : rF whole all l i = 0 := by unfold rF; rw [h0]; simp
  unfold partF
  rw [hq, if_neg]
  · rfl
  · intro hlt
    obtain ⟨t, ht⟩ := Int.eq_ofNat_of_zero_le hl
    have := top_pos (K := keyR whole all l) (r := rF whole all l) (n := l.length) (t := t) (all := all) (fun k hk => by unfold keyR keyOf; rw [Int.toNat_natCast, lst_get _ _ _ hk]) (fun k hk => rF_rng whole all l ha k) (by rw [← ht]; exact left_all whole all l hsn) i hi (by omega)
    omega
theorem part_sum {whole all : Int} {l : List Int} (hw : isU whole) (hall : sumL l = all) (ha : 0 < all) (hpos : 0 < l.length) {f : Nat → Int} (himg : Img 0 l.length (fun i => (i : Int)) f) (hs : Srt (keyR whole all l) f 0 l.length) :
    sumN (partF whole all l (keyR whole all l)) l.length = whole := by
  have hsn : sumN (fun i => l.getD i 0) l.length = all := by rw [← sumL_all]; exact hall
  have hl0 := left_nonneg whole all l hw.1 ha l.length (Int.le_of_eq hsn)
  have hl1 := left_lt whole all l ha hsn hpos
  obtain ⟨t, ht⟩ := Int.eq_ofNat_of_zero_le hl0
  have h1 := top_sum himg hs (t := t) (by omega)
  have e : sumN (partF whole all l (keyR whole all l)) l.length = sumN (fun i => qF whole all l i + (if rank (keyR whole all l) l.length i < t then 1 else 0)) l.length := by
    refine sumN_congr _ fun i hi => ?_
    unfold partF
    rw [ht]
    by_cases h : rank (keyR whole all l) l.length i < t
    · rw [if_pos h, if_pos (by omega)]
    · rw [if_neg h, if_neg (by omega)]
  rw [e, sumN_add, h1]
  unfold leftAt at ht
  omega
theorem part_nonneg {whole all : Int} {l : List Int} (hw : isU whole) (ha : 0 < all) (hn : ∀ x ∈ l, isU x) (i : Nat) : 0 ≤ partF whole all l (keyR whole all l) i := by
  have := qF_nonneg whole all l hw.1 ha (fun x hx => (hn x hx).1) i
  unfold partF
  split <;> omega
theorem sumN_mono {f : Nat → Int} (h : ∀ i, 0 ≤ f i) (k n : Nat) (hk : k ≤ n) : sumN f k ≤ sumN f n := by
  induction n with
  | zero => have : k = 0 := by omega
            subst this; exact Int.le_refl _
  | succ n ih =>
    by_cases e : k = n + 1
    · rw [e]; exact Int.le_refl _
    · have := ih (by omega); have := h n; simp only [sumN]; omega
end Go.Proofs.Ytldfnlkineehbab
