/- Ways up: where they end, where they run round. -/
import Derived.Test.YtofppldiipjllaaTreeMath
namespace Go.Proofs.Ytofppldiipjllaa
open Go.RowKit
set_option linter.unusedSimpArgs false
set_option linter.unusedVariables false

theorem upN_shift (l : List Nd) (k : Nat) (i : Int) : upN l k (upI l i) = upN l (k + 1) i := by
  induction k with
  | zero => rfl
  | succ k ih => show upI l (upN l k (upI l i)) = upI l (upN l (k + 1) i); rw [ih]
theorem upN_add (l : List Nd) (a b : Nat) (i : Int) : upN l a (upN l b i) = upN l (b + a) i := by
  induction a with
  | zero => rfl
  | succ k ih => show upI l (upN l k (upN l b i)) = upI l (upN l (b + k) i); rw [ih]
/-- The way up from i is of m places, and ends. -/
def Ends (l : List Nd) (m : Nat) (i : Int) : Prop := ¬ isP l (upN l m i) ∧ ∀ j, j < m → isP l (upN l j i)
theorem abv_ends {l : List Nd} {m f : Nat} {i : Int} (h : Ends l m i) (hf : m ≤ f) : abv l f i = (List.range m).map fun j => upN l j i := by
  induction f generalizing i m with
  | zero =>
    have : m = 0 := by omega
    subst this
    rfl
  | succ f ih =>
    cases m with
    | zero =>
      have h0 : ¬ isP l i := h.1
      simp [abv, h0]
    | succ m =>
      have h0 : isP l i := h.2 0 (by omega)
      have h1 : Ends l m (upI l i) := ⟨by rw [upN_shift]; exact h.1, fun j hj => by rw [upN_shift]; exact h.2 (j + 1) (by omega)⟩
      rw [abv, if_pos h0, ih h1 (by omega), List.range_succ_eq_map]
      simp only [List.map_cons, List.map_map]
      congr 1
      apply List.map_congr_left
      intro j _
      exact upN_shift l j i
theorem pig : ∀ (n : Nat) (f : Nat → Nat), (∀ j, j ≤ n → f j < n) → ∃ a b, a < b ∧ b ≤ n ∧ f a = f b
  | 0, f, h => absurd (h 0 (Nat.le_refl _)) (by omega)
  | n + 1, f, h => by
    by_cases hx : ∃ a, a ≤ n ∧ f a = f (n + 1)
    · obtain ⟨a, h1, h2⟩ := hx
      exact ⟨a, n + 1, by omega, Nat.le_refl _, h2⟩
    · have hno : ∀ a, a ≤ n → f a ≠ f (n + 1) := fun a ha e => hx ⟨a, ha, e⟩
      obtain ⟨a, b, h1, h2, h3⟩ := pig n (fun j => if f j = n then f (n + 1) else f j) (fun j hj => by
        have a1 := h j (by omega)
        have a2 := h (n + 1) (Nat.le_refl _)
        have a3 := hno j hj
        show (if f j = n then f (n + 1) else f j) < n
        split <;> omega)
      refine ⟨a, b, h1, by omega, ?_⟩
      have n1 := hno a (by omega)
      have n2 := hno b (by omega)
      split at h3 <;> split at h3 <;> omega
def noLoop (l : List Nd) : Prop := ∀ i : Nat, i < l.length → ∀ k, k < l.length → upN l (k + 1) i ≠ i
theorem ends_of {l : List Nd} (h : noLoop l) (i : Int) : ∃ m, m ≤ l.length ∧ Ends l m i := by
  by_cases hx : ∃ m, m ≤ l.length ∧ ¬ isP l (upN l m i)
  · obtain ⟨m, h1, h2⟩ := hx
    induction m using Nat.strongRecOn with
    | _ m ih =>
      by_cases hj : ∃ j, j < m ∧ ¬ isP l (upN l j i)
      · obtain ⟨j, h3, h4⟩ := hj
        exact ih j h3 (by omega) h4
      · exact ⟨m, h1, h2, fun j hj' => by
          by_cases hp : isP l (upN l j i)
          · exact hp
          · exact absurd ⟨j, hj', hp⟩ hj⟩
  · exfalso
    have hall : ∀ m, m ≤ l.length → isP l (upN l m i) := fun m hm => by
      by_cases hp : isP l (upN l m i)
      · exact hp
      · exact absurd ⟨m, hm, hp⟩ hx
    obtain ⟨a, b, h1, h2, h3⟩ := pig l.length (fun j => (upN l j i).toNat) (fun j hj => by
      have := hall j hj
      unfold isP at this
      show (upN l j i).toNat < l.length
      omega)
    have pa := hall a (by omega)
    have pb := hall b h2
    unfold isP at pa pb
    have he : upN l a i = upN l b i := by omega
    refine h (upN l a i).toNat (by omega) (b - a - 1) (by omega) ?_
    have : ((upN l a i).toNat : Int) = upN l a i := by omega
    rw [this, upN_add, show a + (b - a - 1 + 1) = b by omega, he]
theorem ends_unique {l : List Nd} {m m' : Nat} {i : Int} (h : Ends l m i) (h' : Ends l m' i) : m = m' := by
  rcases Nat.lt_trichotomy m m' with g | g | g
  · exact absurd (h'.2 m g) h.1
  · exact g
  · exact absurd (h.2 m' g) h'.1
theorem abvA_ends {l : List Nd} {m : Nat} {i : Int} (h : Ends l m i) (hm : m ≤ l.length) : abvA l i = (List.range m).map fun j => upN l j i := abv_ends h (by omega)
theorem abvA_len {l : List Nd} {m : Nat} {i : Int} (h : Ends l m i) (hm : m ≤ l.length) : (abvA l i).length = m := by rw [abvA_ends h hm]; simp
theorem dep_ends {l : List Nd} {m : Nat} {i : Int} (h : Ends l m i) (hm : m ≤ l.length) : dep l i = m - 1 := by unfold dep; rw [abvA_len h hm]
theorem loop_chk {l : List Nd} {i : Nat} (h : chk l 3 i = 0) : ∀ k, k < l.length → upN l (k + 1) i ≠ i := by
  intro k hk e
  have : loopB l i = true := decide_eq_true ⟨k, hk, e⟩
  simp [chk, this] at h
theorem good_noLoop {l : List Nd} (h : ∀ i, i < l.length → chk l 3 i = 0) : noLoop l := fun i hi => loop_chk (h i hi)
end Go.Proofs.Ytofppldiipjllaa
