/- What a rotation makes of two sorted rows, at the place that the search has found. -/
import Derived.Test.YtldfnlkineehbaaSort4
namespace Go.Proofs.Ytldfnlkineehbaa
open Go.RowKit
set_option linter.unusedSimpArgs false
set_option linter.unusedVariables false

/-- The place is found. -/
structure Found (K : Int → Int) (d : Nat → Int) (a m b mid s t : Nat) : Prop where
  sa : a ≤ s
  sm : s ≤ m
  mt : m ≤ t
  tb : t ≤ b
  sum : s + t = mid + m
  smid : s ≤ mid
  f1 : a < s → t < b → LT K (d (s - 1)) (d t)
  f2 : s < m → m < t → LT K (d (t - 1)) (d s)

theorem rot_a {d : Nat → Int} {s m t i : Nat} (h : i < s) : rot d s m t i = d i := by unfold rot; rw [if_neg (by omega), if_neg (by omega)]
theorem rot_b {d : Nat → Int} {s m t i : Nat} (h : s ≤ i) (g : i < s + (t - m)) : rot d s m t i = d (i - s + m) := by unfold rot; rw [if_pos ⟨h, g⟩]
theorem rot_c {d : Nat → Int} {s m t i : Nat} (h : s + (t - m) ≤ i) (g : i < t) : rot d s m t i = d (i - (t - m)) := by unfold rot; rw [if_neg (by omega), if_pos ⟨h, g⟩]
theorem rot_d {d : Nat → Int} {s m t i : Nat} (h : t ≤ i) (hs : s ≤ m) (hm : m ≤ t) : rot d s m t i = d i := by unfold rot; rw [if_neg (by omega), if_neg (by omega)]
theorem rot_none {d : Nat → Int} {s m t : Nat} (hs : s ≤ m) (hm : m ≤ t) (h : m ≤ s ∨ t ≤ m) : rot d s m t = d := by
  funext x
  unfold rot
  repeat' split
  all_goals first | rfl | (exfalso; omega) | (congr 1; omega)
theorem Srt.le {K : Int → Int} {d : Nat → Int} {a b i j : Nat} (h : Srt K d a b) (hi : a ≤ i) (hij : i ≤ j) (hj : j < b) {x : Int} (g : LT K (d j) x) : LT K (d i) x := by
  by_cases e : i = j
  · subst e; exact g
  · exact (h i j hi (by omega) hj).trans g
theorem Srt.ge {K : Int → Int} {d : Nat → Int} {a b i j : Nat} (h : Srt K d a b) (hi : a ≤ i) (hij : i ≤ j) (hj : j < b) {x : Int} (g : LT K x (d i)) : LT K x (d j) := by
  by_cases e : i = j
  · subst e; exact g
  · exact g.trans (h i j hi (by omega) hj)

theorem found_parts {K : Int → Int} {d : Nat → Int} {a m b mid s t : Nat} (F : Found K d a m b mid s t) (h1 : Srt K d a m) (h2 : Srt K d m b) (hid : ∀ i j, a ≤ i → i < m → m ≤ j → j < b → d i < d j) :
    Srt K (rot d s m t) a s ∧ Srt K (rot d s m t) s mid ∧ Srt K (rot d s m t) mid t ∧ Srt K (rot d s m t) t b ∧
    (∀ i j, a ≤ i → i < mid → mid ≤ j → j < b → LT K (rot d s m t i) (rot d s m t j)) ∧
    (∀ i j, a ≤ i → i < s → s ≤ j → j < mid → rot d s m t i < rot d s m t j) ∧ (∀ i j, mid ≤ i → i < t → t ≤ j → j < b → rot d s m t i < rot d s m t j) ∧ Img a b d (rot d s m t) := by
  obtain ⟨sa, sm, mt, tb, sum, smid, f1, f2⟩ := F
  have e : s + (t - m) = mid := by omega
  refine ⟨fun i j g1 g2 g3 => ?_, fun i j g1 g2 g3 => ?_, fun i j g1 g2 g3 => ?_, fun i j g1 g2 g3 => ?_, fun i j g1 g2 g3 g4 => ?_, fun i j g1 g2 g3 g4 => ?_, fun i j g1 g2 g3 g4 => ?_, (rot_img d s m t sm mt).wider sa tb⟩
  · rw [rot_a (by omega), rot_a (by omega)]; exact h1 i j g1 g2 (by omega)
  · rw [rot_b (by omega) (by omega), rot_b (by omega) (by omega)]; exact h2 _ _ (by omega) (by omega) (by omega)
  · rw [rot_c (by omega) (by omega), rot_c (by omega) (by omega)]; exact h1 _ _ (by omega) (by omega) (by omega)
  · rw [rot_d (by omega) sm mt, rot_d (by omega) sm mt]; exact h2 i j (by omega) g2 g3
  · by_cases hi : i < s
    · rw [rot_a hi]
      by_cases hj : j < t
      · rw [rot_c (by omega) hj]; exact h1 _ _ g1 (by omega) (by omega)
      · rw [rot_d (by omega) sm mt]
        exact h1.le g1 (by omega) (by omega) (h2.ge (i := t) (by omega) (by omega) g4 (f1 (by omega) (by omega)))
    · rw [rot_b (by omega) (by omega)]
      by_cases hj : j < t
      · rw [rot_c (by omega) hj]
        exact h2.le (by omega) (j := t - 1) (by omega) (by omega) (h1.ge (i := s) (by omega) (by omega) (by omega) (f2 (by omega) (by omega)))
      · rw [rot_d (by omega) sm mt]; exact h2 _ _ (by omega) (by omega) g4
  · rw [rot_a g2, rot_b g3 (by omega)]; exact hid _ _ g1 (by omega) (by omega) (by omega)
  · rw [rot_c (by omega) g2, rot_d g3 sm mt]; exact hid _ _ (by omega) (by omega) (by omega) g4

theorem both_halves {K : Int → Int} {d r e1 e2 : Nat → Int} {a mid b : Nat} (ham : a ≤ mid) (hmb : mid ≤ b) (h0 : Img a b d r) (hx : ∀ i j, a ≤ i → i < mid → mid ≤ j → j < b → LT K (r i) (r j))
    (h1 : Img a mid r e1) (s1 : Srt K e1 a mid) (h2 : Img mid b e1 e2) (s2 : Srt K e2 mid b) : Img a b d e2 ∧ Srt K e2 a b := by
  refine ⟨(h0.trans (h1.wider (Nat.le_refl _) hmb)).trans (h2.wider ham (Nat.le_refl _)), (s1.out h2 (.inl (Nat.le_refl _))).join s2 ?_⟩
  intro i j g1 g2 g3 g4
  rw [h2.out i (.inl g2)]
  obtain ⟨p, p1, p2, p3⟩ := h1.into i g1 g2
  obtain ⟨q, q1, q2, q3⟩ := h2.into j g3 g4
  rw [p3, q3, h1.out q (.inr q1)]
  exact hx p q p1 p2 q1 q2

/-- The search's two bounds. -/
def lo0 (a m b mid : Nat) : Nat := if mid < m then mid + m - b else a
def hi0 (m mid : Nat) : Nat := if mid < m then mid else m
theorem search_down {K : Int → Int} {d : Nat → Int} {a m b mid c : Nat} (h1 : Srt K d a m) (h2 : Srt K d m b) (hm : mid = (a + b) / 2) (ham : a < m) (hmb : m < b) (c1 : lo0 a m b mid ≤ c) (c2 : c < hi0 m mid) :
    a ≤ c ∧ c < m ∧ m ≤ mid + m - 1 - c ∧ mid + m - 1 - c < b ∧
    (K (d (mid + m - 1 - c)) ≤ K (d c) → ∀ k, lo0 a m b mid ≤ k → k ≤ c → K (d (mid + m - 1 - k)) ≤ K (d k)) ∧
    (K (d c) < K (d (mid + m - 1 - c)) → ∀ k, c ≤ k → k < hi0 m mid → K (d k) < K (d (mid + m - 1 - k))) := by
  have hb : a ≤ c ∧ c < m ∧ m ≤ mid + m - 1 - c ∧ mid + m - 1 - c < b := by
    unfold lo0 hi0 at *
    split at c1 <;> split at c2 <;> omega
  refine ⟨hb.1, hb.2.1, hb.2.2.1, hb.2.2.2, fun h k k1 k2 => ?_, fun h k k1 k2 => ?_⟩
  · by_cases e : k = c
    · rw [e]; exact h
    · have hk : a ≤ k ∧ mid + m - 1 - k < b := by unfold lo0 at k1; split at k1 <;> omega
      have g1 := key_le (h1 k c hk.1 (by omega) hb.2.1)
      have g2 := key_le (h2 (mid + m - 1 - c) (mid + m - 1 - k) hb.2.2.1 (by omega) hk.2)
      omega
  · by_cases e : k = c
    · rw [e]; exact h
    · have hk : k < m ∧ m ≤ mid + m - 1 - k := by unfold hi0 at k2; split at k2 <;> omega
      have g1 := key_le (h1 c k hb.1 (by omega) hk.1)
      have g2 := key_le (h2 (mid + m - 1 - k) (mid + m - 1 - c) hk.2 (by omega) hb.2.2.2)
      omega
theorem found_of {K : Int → Int} {d : Nat → Int} {a m b mid s : Nat} (hid : ∀ i j, a ≤ i → i < m → m ≤ j → j < b → d i < d j) (hm : mid = (a + b) / 2) (ham : a < m) (hmb : m < b) (s1 : lo0 a m b mid ≤ s) (s2 : s ≤ hi0 m mid)
    (hlo : ∀ k, lo0 a m b mid ≤ k → k < s → K (d (mid + m - 1 - k)) ≤ K (d k)) (hhi : ∀ k, s ≤ k → k < hi0 m mid → K (d k) < K (d (mid + m - 1 - k))) :
    Found K d a m b mid s (mid + m - s) := by
  have hb : a ≤ s ∧ s ≤ m ∧ m ≤ mid + m - s ∧ mid + m - s ≤ b ∧ s ≤ mid := by
    unfold lo0 hi0 at *
    split at s1 <;> split at s2 <;> omega
  refine ⟨hb.1, hb.2.1, hb.2.2.1, hb.2.2.2.1, by omega, hb.2.2.2.2, fun g1 g2 => ?_, fun g1 g2 => ?_⟩
  · have e : mid + m - 1 - (s - 1) = mid + m - s := by omega
    have hl : lo0 a m b mid ≤ s - 1 := by unfold lo0 at *; split at s1 <;> split <;> omega
    have h := hlo (s - 1) hl (by omega)
    rw [e] at h
    exact LT.left (hid _ _ (by omega) (by omega) (by omega) g2) (Int.not_lt.2 h)
  · have e : mid + m - 1 - s = mid + m - s - 1 := by omega
    have hl : s < hi0 m mid := by unfold hi0 at *; split at s2 <;> split <;> omega
    have h := hhi s (Nat.le_refl _) hl
    rw [e] at h
    exact LT.right h
end Go.Proofs.Ytldfnlkineehbaa
