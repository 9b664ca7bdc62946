/- The order of a stable sort by keys, and what its steps make of a row. No program is named here. -/
import Derived.Test.YtldfnlkineehbaaMathNum
namespace Go.Proofs.Ytldfnlkineehbaa
open Go.RowKit
set_option linter.unusedSimpArgs false
set_option linter.unusedVariables false

/-- Ahead: by the greater key; of alike ones the lower number. -/
def LT (K : Int → Int) (x y : Int) : Prop := K y < K x ∨ (K x = K y ∧ x < y)
theorem LT.trans {K : Int → Int} {x y z : Int} (h : LT K x y) (g : LT K y z) : LT K x z := by unfold LT at *; omega
theorem LT.irrefl {K : Int → Int} {x : Int} (h : LT K x x) : False := by unfold LT at *; omega
theorem LT.left {K : Int → Int} {x y : Int} (h : x < y) (g : ¬ K x < K y) : LT K x y := by unfold LT; omega
theorem LT.right {K : Int → Int} {x y : Int} (g : K x < K y) : LT K y x := by unfold LT; omega
theorem LT.total {K : Int → Int} {x y : Int} (h : x ≠ y) : LT K x y ∨ LT K y x := by unfold LT; omega
theorem LT.asymm {K : Int → Int} {x y : Int} (h : LT K x y) : ¬ LT K y x := by unfold LT at *; omega

def Srt (K : Int → Int) (d : Nat → Int) (a b : Nat) : Prop := ∀ i j, a ≤ i → i < j → j < b → LT K (d i) (d j)
/-- e has on [a, b) what d has there, and all else as d. -/
structure Img (a b : Nat) (d e : Nat → Int) : Prop where
  out : ∀ i, i < a ∨ b ≤ i → e i = d i
  into : ∀ i, a ≤ i → i < b → ∃ j, a ≤ j ∧ j < b ∧ e i = d j
  onto : ∀ j, a ≤ j → j < b → ∃ i, a ≤ i ∧ i < b ∧ e i = d j
theorem Img.refl (a b : Nat) (d : Nat → Int) : Img a b d d := ⟨fun _ _ => rfl, fun i h g => ⟨i, h, g, rfl⟩, fun i h g => ⟨i, h, g, rfl⟩⟩
theorem Img.trans {a b : Nat} {d e f : Nat → Int} (h : Img a b d e) (g : Img a b e f) : Img a b d f := by
  refine ⟨fun i hi => (g.out i hi).trans (h.out i hi), fun i h1 h2 => ?_, fun i h1 h2 => ?_⟩
  · obtain ⟨j, j1, j2, j3⟩ := g.into i h1 h2
    obtain ⟨k, k1, k2, k3⟩ := h.into j j1 j2
    exact ⟨k, k1, k2, j3.trans k3⟩
  · obtain ⟨j, j1, j2, j3⟩ := h.onto i h1 h2
    obtain ⟨k, k1, k2, k3⟩ := g.onto j j1 j2
    exact ⟨k, k1, k2, k3.trans j3⟩
theorem Img.wider {a b a' b' : Nat} {d e : Nat → Int} (h : Img a b d e) (ha : a' ≤ a) (hb : b ≤ b') : Img a' b' d e := by
  refine ⟨fun i hi => h.out i (by omega), fun i h1 h2 => ?_, fun i h1 h2 => ?_⟩
  · by_cases hi : a ≤ i ∧ i < b
    · obtain ⟨j, j1, j2, j3⟩ := h.into i hi.1 hi.2
      exact ⟨j, by omega, by omega, j3⟩
    · exact ⟨i, h1, h2, h.out i (by omega)⟩
  · by_cases hi : a ≤ i ∧ i < b
    · obtain ⟨j, j1, j2, j3⟩ := h.onto i hi.1 hi.2
      exact ⟨j, by omega, by omega, j3⟩
    · exact ⟨i, h1, h2, h.out i (by omega)⟩
/-- What holds of all of d on [a, b) holds of all of e there. -/
theorem Img.all {a b : Nat} {d e : Nat → Int} (h : Img a b d e) {p : Int → Prop} (hp : ∀ j, a ≤ j → j < b → p (d j)) : ∀ i, a ≤ i → i < b → p (e i) := fun i h1 h2 => by
  obtain ⟨j, j1, j2, j3⟩ := h.into i h1 h2
  rw [j3]; exact hp j j1 j2
theorem Srt.out {K : Int → Int} {a b c e : Nat} {d f : Nat → Int} (h : Srt K d a b) (g : Img c e d f) (ho : b ≤ c ∨ e ≤ a) : Srt K f a b := by
  intro i j h1 h2 h3
  rw [g.out i (by omega), g.out j (by omega)]
  exact h i j h1 h2 h3
theorem Srt.sub {K : Int → Int} {a b a' b' : Nat} {d : Nat → Int} (h : Srt K d a b) (ha : a ≤ a') (hb : b' ≤ b) : Srt K d a' b' :=
  fun i j h1 h2 h3 => h i j (by omega) h2 (by omega)
theorem Srt.join {K : Int → Int} {a m b : Nat} {d : Nat → Int} (h : Srt K d a m) (g : Srt K d m b) (hx : ∀ i j, a ≤ i → i < m → m ≤ j → j < b → LT K (d i) (d j)) : Srt K d a b := by
  intro i j h1 h2 h3
  by_cases hj : j < m
  · exact h i j h1 h2 hj
  · by_cases hi : i < m
    · exact hx i j h1 hi (by omega) h3
    · exact g i j (by omega) h2 h3

/-- Two ranges exchanged. -/
def swapR (d : Nat → Int) (a b k : Nat) : Nat → Int := fun i => if a ≤ i ∧ i < a + k then d (i - a + b) else if b ≤ i ∧ i < b + k then d (i - b + a) else d i
/-- [a, m) and [m, b) in the other order. -/
def rot (d : Nat → Int) (a m b : Nat) : Nat → Int := fun i => if a ≤ i ∧ i < a + (b - m) then d (i - a + m) else if a + (b - m) ≤ i ∧ i < b then d (i - (b - m)) else d i
theorem rot_left (d : Nat → Int) (m i j : Nat) (hj : 0 < j) (hij : j < i) (him : i ≤ m) : rot (swapR d (m - i) m j) (m - (i - j)) m (m + j) = rot d (m - i) m (m + j) := by
  funext x
  unfold rot swapR
  repeat' split
  all_goals first | rfl | (exfalso; omega) | (congr 1; omega)
theorem rot_right (d : Nat → Int) (m i j : Nat) (hi : 0 < i) (hij : i < j) (him : i ≤ m) : rot (swapR d (m - i) (m + j - i) i) (m - i) m (m + (j - i)) = rot d (m - i) m (m + j) := by
  funext x
  unfold rot swapR
  repeat' split
  all_goals first | rfl | (exfalso; omega) | (congr 1; omega)
theorem rot_end (d : Nat → Int) (m i : Nat) (hi : 0 < i) (him : i ≤ m) : swapR d (m - i) m i = rot d (m - i) m (m + i) := by
  funext x
  unfold rot swapR
  repeat' split
  all_goals first | rfl | (exfalso; omega) | (congr 1; omega)
theorem rot_img (d : Nat → Int) (a m b : Nat) (h1 : a ≤ m) (h2 : m ≤ b) : Img a b d (rot d a m b) := by
  refine ⟨fun i hi => ?_, fun i g1 g2 => ?_, fun i g1 g2 => ?_⟩
  · unfold rot; rw [if_neg (by omega), if_neg (by omega)]
  · by_cases h : i < a + (b - m)
    · exact ⟨i - a + m, by omega, by omega, by unfold rot; rw [if_pos (by omega)]⟩
    · exact ⟨i - (b - m), by omega, by omega, by unfold rot; rw [if_neg (by omega), if_pos (by omega)]⟩
  · by_cases h : i < m
    · refine ⟨i + (b - m), by omega, by omega, ?_⟩
      unfold rot; rw [if_neg (by omega), if_pos (by omega)]; congr 1; omega
    · refine ⟨i - m + a, by omega, by omega, ?_⟩
      unfold rot; rw [if_pos (by omega)]; congr 1; omega
end Go.Proofs.Ytldfnlkineehbaa
