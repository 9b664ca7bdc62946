/- Quotas, rests, ranks: the largest remainders, as numbers. No program is named here. -/
import Derived.Test.YtldfnlkineehbaaSortMath
namespace Go.Proofs.Ytldfnlkineehbaa
open Go.RowKit
set_option linter.unusedSimpArgs false
set_option linter.unusedVariables false

def sumN (f : Nat → Int) : Nat → Int
  | 0 => 0
  | k + 1 => sumN f k + f k
theorem sumN_congr {f g : Nat → Int} (k : Nat) (h : ∀ i, i < k → f i = g i) : sumN f k = sumN g k := by
  induction k with
  | zero => rfl
  | succ k ih => simp only [sumN]; rw [ih fun i hi => h i (by omega), h k (by omega)]
theorem sumN_nonneg {f : Nat → Int} (k : Nat) (h : ∀ i, i < k → 0 ≤ f i) : 0 ≤ sumN f k := by
  induction k with
  | zero => simp [sumN]
  | succ k ih => have := ih fun i hi => h i (by omega); have := h k (by omega); simp only [sumN]; omega
theorem sumN_add (f g : Nat → Int) (k : Nat) : sumN (fun i => f i + g i) k = sumN f k + sumN g k := by
  induction k with
  | zero => rfl
  | succ k ih => simp only [sumN]; rw [ih]; omega
theorem sumN_mul (f : Nat → Int) (c : Int) (k : Nat) : sumN (fun i => f i * c) k = sumN f k * c := by
  induction k with
  | zero => simp [sumN]
  | succ k ih => simp only [sumN]; rw [ih, Int.add_mul]
theorem sumL_sumN (l : List Int) (k : Nat) (h : k ≤ l.length) : sumL (l.take k) = sumN (fun i => l.getD i 0) k := by
  induction k with
  | zero => simp [sumL, sumN]
  | succ k ih => rw [sumL_take l k (by omega), ih (by omega)]; rfl
theorem sumL_all (l : List Int) : sumL l = sumN (fun i => l.getD i 0) l.length := by
  rw [← sumL_sumN l l.length (Nat.le_refl _), List.take_length]

/-- The quota of weight i, rounded down, and what it is rounded by. -/
def qF (whole all : Int) (l : List Int) : Nat → Int := fun i => whole * l.getD i 0 / all
def rF (whole all : Int) (l : List Int) : Nat → Int := fun i => whole * l.getD i 0 % all
theorem q_r (whole all : Int) (l : List Int) (i : Nat) : qF whole all l i * all + rF whole all l i = whole * l.getD i 0 := by
  unfold qF rF
  have := Int.mul_ediv_add_emod (whole * l.getD i 0) all
  rw [Int.mul_comm] at this
  exact this
theorem sum_q_r (whole all : Int) (l : List Int) (k : Nat) : sumN (qF whole all l) k * all + sumN (rF whole all l) k = whole * sumN (fun i => l.getD i 0) k := by
  induction k with
  | zero => simp [sumN]
  | succ k ih =>
    simp only [sumN]
    rw [Int.add_mul, Int.mul_add, ← ih, ← q_r whole all l k]
    omega
theorem rF_rng (whole all : Int) (l : List Int) (h : 0 < all) (i : Nat) : 0 ≤ rF whole all l i ∧ rF whole all l i < all :=
  ⟨Int.emod_nonneg _ (by omega), Int.emod_lt_of_pos _ h⟩
theorem qF_nonneg (whole all : Int) (l : List Int) (hw : 0 ≤ whole) (h : 0 < all) (hl : ∀ x ∈ l, 0 ≤ x) (i : Nat) : 0 ≤ qF whole all l i := by
  refine Int.ediv_nonneg (Int.mul_nonneg hw ?_) (by omega)
  by_cases hi : i < l.length
  · rw [List.getD_eq_getElem?_getD, List.getElem?_eq_getElem hi]; exact hl _ (List.getElem_mem hi)
  · rw [List.getD_eq_getElem?_getD, List.getElem?_eq_none (by omega)]; exact Int.le_refl _
/-- What is left of the whole ahead of weight k. -/
def leftAt (whole all : Int) (l : List Int) (k : Nat) : Int := whole - sumN (qF whole all l) k
theorem left_nonneg (whole all : Int) (l : List Int) (hw : 0 ≤ whole) (h : 0 < all) (k : Nat) (hk : sumN (fun i => l.getD i 0) k ≤ all) : 0 ≤ leftAt whole all l k := by
  have h1 := sum_q_r whole all l k
  have h2 : 0 ≤ sumN (rF whole all l) k := sumN_nonneg k fun i _ => (rF_rng whole all l h i).1
  have h3 : whole * sumN (fun i => l.getD i 0) k ≤ whole * all := Int.mul_le_mul_of_nonneg_left hk hw
  have h4 : sumN (qF whole all l) k * all ≤ whole * all := by omega
  have h5 : sumN (qF whole all l) k ≤ whole := Int.le_of_mul_le_mul_right h4 h
  unfold leftAt
  omega
/-- All units that are left, times the sum, are all rests. -/
theorem left_all (whole all : Int) (l : List Int) (hs : sumN (fun i => l.getD i 0) l.length = all) : leftAt whole all l l.length * all = sumN (rF whole all l) l.length := by
  have h1 := sum_q_r whole all l l.length
  rw [hs] at h1
  unfold leftAt
  rw [Int.sub_mul]
  omega
theorem sumN_lt {f : Nat → Int} {c : Int} (k : Nat) (h : ∀ i, i < k → f i < c) (hk : 0 < k) : sumN f k < k * c := by
  induction k with
  | zero => omega
  | succ k ih =>
    simp only [sumN]
    have h1 := h k (by omega)
    rw [show ((k + 1 : Nat) : Int) * c = k * c + c by rw [Int.natCast_add, Int.add_mul]; omega]
    by_cases hk0 : 0 < k
    · have := ih (fun i hi => h i (by omega)) hk0; omega
    · have e : k = 0 := by omega
      subst e; simp [sumN]; omega
theorem left_lt (whole all : Int) (l : List Int) (h : 0 < all) (hs : sumN (fun i => l.getD i 0) l.length = all) (hl : 0 < l.length) : leftAt whole all l l.length < l.length := by
  have h1 := left_all whole all l hs
  have h2 := sumN_lt l.length (fun i _ => (rF_rng whole all l h i).2) hl
  rw [← h1] at h2
  exact Int.lt_of_mul_lt_mul_right h2 (by omega)

/-- How many of the first n are ahead of x. -/
def ltb (K : Int → Int) (x y : Int) : Bool := decide (K y < K x) || (decide (K x = K y) && decide (x < y))
theorem ltb_iff {K : Int → Int} {x y : Int} : ltb K x y = true ↔ LT K x y := by unfold ltb LT; simp
def rank (K : Int → Int) (n : Nat) (x : Int) : Nat := (List.range n).countP fun k : Nat => ltb K (k : Int) x
theorem countP_lt (n j : Nat) (h : j ≤ n) (p : Nat → Bool) (hp : ∀ k, k < n → (p k = true ↔ k < j)) : (List.range n).countP p = j := by
  induction n generalizing j with
  | zero => simp; omega
  | succ n ih =>
    rw [List.range_succ, List.countP_append]
    by_cases e : j = n + 1
    · subst e
      rw [ih n (Nat.le_refl _) fun k hk => by rw [hp k (by omega)]; omega]
      have : p n = true := (hp n (by omega)).2 (by omega)
      simp [this]
    · rw [ih j (by omega) fun k hk => hp k (by omega)]
      have : p n = false := by
        cases hq : p n with
        | false => rfl
        | true => have := (hp n (by omega)).1 hq; omega
      simp [this]
theorem row_perm {K : Int → Int} {f : Nat → Int} {n : Nat} (himg : Img 0 n (fun i => (i : Int)) f) (hs : Srt K f 0 n) : ((List.range n).map f).Perm ((List.range n).map fun i : Nat => (i : Int)) := by
  have hinj : ∀ g : Nat → Int, (∀ i j, i < j → j < n → g i ≠ g j) → ((List.range n).map g).Nodup := by
    intro g hg
    unfold List.Nodup
    rw [List.pairwise_iff_getElem]
    intro i j hi hj hij
    simp only [List.length_map, List.length_range] at hi hj
    simp only [List.getElem_map, List.getElem_range]
    exact hg i j hij hj
  rw [List.perm_ext_iff_of_nodup (hinj f fun i j h1 h2 e => by
    have := hs i j (Nat.zero_le _) h1 h2
    rw [e] at this
    exact this.irrefl) (hinj _ fun i j h1 h2 e => by omega)]
  intro a
  simp only [List.mem_map, List.mem_range]
  constructor
  · rintro ⟨i, hi, rfl⟩
    obtain ⟨j, _, hj, e⟩ := himg.into i (Nat.zero_le _) hi
    exact ⟨j, hj, e.symm⟩
  · rintro ⟨j, hj, rfl⟩
    obtain ⟨i, _, hi, e⟩ := himg.onto j (Nat.zero_le _) hj
    exact ⟨i, hi, e⟩
/-- To count over all numbers below n is to count over a row of them. -/
theorem count_row {K : Int → Int} {f : Nat → Int} {n : Nat} (himg : Img 0 n (fun i => (i : Int)) f) (hs : Srt K f 0 n) (p : Int → Bool) : (List.range n).countP (fun k : Nat => p (k : Int)) = (List.range n).countP fun k => p (f k) := by
  have := (row_perm himg hs).countP_eq p
  rw [List.countP_map, List.countP_map] at this
  exact this.symm
/-- In a sorted row each stands at its rank. -/
theorem rank_at {K : Int → Int} {f : Nat → Int} {n : Nat} (himg : Img 0 n (fun i => (i : Int)) f) (hs : Srt K f 0 n) (j : Nat) (hj : j < n) : rank K n (f j) = j := by
  unfold rank
  rw [count_row himg hs fun x => ltb K x (f j)]
  refine countP_lt n j (by omega) _ fun k hk => ?_
  rw [ltb_iff]
  constructor
  · intro h
    by_cases e : k < j
    · exact e
    · exfalso
      by_cases e2 : k = j
      · subst e2; exact h.irrefl
      · exact (h.trans (hs j k (Nat.zero_le _) (by omega) hk)).irrefl
  · intro h
    exact hs k j (Nat.zero_le _) h hj
theorem top_iff {K : Int → Int} {f : Nat → Int} {n t : Nat} (himg : Img 0 n (fun i => (i : Int)) f) (hs : Srt K f 0 n) (ht : t ≤ n) (i : Nat) (hi : i < n) : (∃ j, j < t ∧ f j = i) ↔ rank K n i < t := by
  constructor
  · rintro ⟨j, hj, e⟩
    rw [← e, rank_at himg hs j (by omega)]
    exact hj
  · intro h
    obtain ⟨j, _, hj, e⟩ := himg.onto i (Nat.zero_le _) hi
    have e' : f j = (i : Int) := e
    rw [← e', rank_at himg hs j hj] at h
    exact ⟨j, h, e'⟩
theorem sumN_count (p : Nat → Bool) (n : Nat) : sumN (fun i => if p i = true then 1 else 0) n = ((List.range n).countP p : Nat) := by
  induction n with
  | zero => rfl
  | succ n ih =>
    simp only [sumN]
    rw [ih, List.range_succ, List.countP_append]
    cases h : p n <;> simp [h]
theorem top_sum {K : Int → Int} {f : Nat → Int} {n t : Nat} (himg : Img 0 n (fun i => (i : Int)) f) (hs : Srt K f 0 n) (ht : t ≤ n) : sumN (fun i => if rank K n i < t then 1 else 0) n = t := by
  have e : sumN (fun i => if rank K n (i : Int) < t then (1 : Int) else 0) n = sumN (fun i => if (decide (rank K n (i : Int) < t)) = true then (1 : Int) else 0) n := sumN_congr n fun i _ => by simp
  rw [e, sumN_count (fun i : Nat => decide (rank K n (i : Int) < t)) n, count_row himg hs fun x => decide (rank K n x < t)]
  rw [countP_lt n t ht _ fun k hk => ?_]
  rw [rank_at himg hs k hk]
  simp
theorem rank_lt_of {K : Int → Int} {n : Nat} {x y : Nat} (h : LT K x y) (hx : x < n) : rank K n x < rank K n y := by
  unfold rank
  have key : ∀ m, (List.range m).countP (fun k : Nat => ltb K (k : Int) x) ≤ (List.range m).countP (fun k : Nat => ltb K (k : Int) y) ∧ (x < m → (List.range m).countP (fun k : Nat => ltb K (k : Int) x) < (List.range m).countP (fun k : Nat => ltb K (k : Int) y)) := by
    intro m
    induction m with
    | zero => simp
    | succ m ih =>
      rw [List.range_succ, List.countP_append, List.countP_append]
      have h1 : [m].countP (fun k : Nat => ltb K (k : Int) x) ≤ [m].countP (fun k : Nat => ltb K (k : Int) y) := by
        simp only [List.countP_singleton]
        by_cases e : ltb K (m : Int) x = true
        · rw [if_pos e, if_pos (ltb_iff.2 ((ltb_iff.1 e).trans h))]; omega
        · rw [if_neg e]; omega
      refine ⟨by omega, fun hxm => ?_⟩
      by_cases e : x < m
      · have := ih.2 e; omega
      · have e2 : x = m := by omega
        subst e2
        have h2 : [x].countP (fun k : Nat => ltb K (k : Int) x) = 0 := by
          simp only [List.countP_singleton]
          rw [if_neg (fun g => (ltb_iff.1 g).irrefl)]
        have h3 : [x].countP (fun k : Nat => ltb K (k : Int) y) = 1 := by
          simp only [List.countP_singleton]
          rw [if_pos (ltb_iff.2 h)]
        omega
  exact (key n).2 hx
/-- No unit goes to a rest of 0. -/
theorem top_pos {K : Int → Int} {r : Nat → Int} {n t : Nat} {all : Int} (hK : ∀ k : Nat, k < n → K k = r k) (hr : ∀ k, k < n → 0 ≤ r k ∧ r k < all) (hsum : (t : Int) * all = sumN r n) (i : Nat) (hi : i < n) (h : rank K n i < t) : 0 < r i := by
  by_cases h0 : 0 < r i
  · exact h0
  exfalso
  have hri : r i = 0 := by have := hr i hi; omega
  have hall : 0 < all := by have := hr i hi; omega
  have h1 : ∀ m, m ≤ n → sumN r m ≤ ((List.range m).countP (fun k : Nat => ltb K (k : Int) i) : Nat) * (all - 1) := by
    intro m
    induction m with
    | zero => intro _; simp [sumN]
    | succ m ih =>
      intro hm
      have := ih (by omega)
      simp only [sumN]
      rw [List.range_succ, List.countP_append, List.countP_singleton]
      by_cases e : 0 < r m
      · have e2 : ltb K (m : Int) i = true := by rw [ltb_iff]; left; rw [hK m (by omega), hK i hi]; omega
        rw [if_pos e2, Int.natCast_add, Int.add_mul]
        have := hr m (by omega)
        omega
      · have : r m = 0 := by have := hr m (by omega); omega
        have hge : (0 : Int) ≤ (((if ltb K (m : Int) (i : Int) = true then 1 else 0 : Nat)) : Int) * (all - 1) := Int.mul_nonneg (by omega) (by omega)
        rw [Int.natCast_add, Int.add_mul]
        omega
  have h2 := h1 n (Nat.le_refl _)
  rw [← hsum] at h2
  have h3 : ((List.range n).countP (fun k : Nat => ltb K (k : Int) i) : Nat) + 1 ≤ t := h
  have h4 : (((List.range n).countP (fun k : Nat => ltb K (k : Int) i) : Nat) : Int) * (all - 1) ≤ (t : Int) * (all - 1) - (all - 1) := by
    have h5 : ((((List.range n).countP (fun k : Nat => ltb K (k : Int) i) : Nat) : Int) + 1) * (all - 1) ≤ (t : Int) * (all - 1) := Int.mul_le_mul_of_nonneg_right (by omega) (by omega)
    rw [Int.add_mul] at h5
    omega
  have e6 : (t : Int) * (all - 1) = t * all - t := by rw [Int.mul_sub, Int.mul_one]
  rw [e6] at h4
  have ht : 1 ≤ (t : Int) := by omega
  omega

/-- The parts. -/
def partF (whole all : Int) (l : List Int) (K : Int → Int) : Nat → Int := fun i => qF whole all l i + if ((rank K l.length i : Nat) : Int) < leftAt whole all l l.length then 1 else 0
end Go.Proofs.Ytldfnlkineehbaa
