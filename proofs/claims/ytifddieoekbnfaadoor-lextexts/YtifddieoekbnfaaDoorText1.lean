/- text.Name, text.Less and the definition's. -/
import Derived.Test.YtifddieoekbnfaaDoorChecked
import Derived.Test.YtifddieoekbnfaaDoorTreeMath2B
import Derived.WalkSpells
import Derived.WalkLawsBesides
import Derived.Deep.QuietTactic
import Derived.BigQuiet
namespace Go.Proofs.YtifddieoekbnfaaDoor
open Go.RowKit
set_option linter.unusedSimpArgs false
set_option linter.unusedVariables false

theorem text_letter (c : Int) (w : World) : Calls Tryd.prog 44 #[.int .u8 c] w fun e w' => e = .returned (.bool (letB c)) ∧ w' = w := by
  have key : c < 65 ∨ (65 ≤ c ∧ c ≤ 90) ∨ (90 < c ∧ c < 97) ∨ (97 ≤ c ∧ c ≤ 122) ∨ 122 < c := by omega
  rcases key with h | ⟨h1, h2⟩ | ⟨h1, h2⟩ | ⟨h1, h2⟩ | h
  · have e : letB c = false := by unfold letB; simp; omega
    have h3 : c < 97 := by omega
    rw [e]
    go_enter Tryd.func44, Tryd.ntmps44
    go_wp2
    go_ret
    first | exact ⟨rfl, rfl⟩ | exact ⟨by simp; omega, rfl⟩
  · have e : letB c = true := by unfold letB; simp; omega
    have h3 : c < 97 := by omega
    rw [e]
    go_enter Tryd.func44, Tryd.ntmps44
    go_wp2
    go_ret
    first | exact ⟨rfl, rfl⟩ | exact ⟨by simp; omega, rfl⟩
  · have e : letB c = false := by unfold letB; simp; omega
    have h3 : 65 ≤ c := by omega
    rw [e]
    go_enter Tryd.func44, Tryd.ntmps44
    go_wp2
    go_ret
    first | exact ⟨rfl, rfl⟩ | exact ⟨by simp; omega, rfl⟩
  · have e : letB c = true := by unfold letB; simp; omega
    rw [e]
    go_enter Tryd.func44, Tryd.ntmps44
    go_wp2
    go_ret
    first | exact ⟨rfl, rfl⟩ | exact ⟨by simp; omega, rfl⟩
  · have e : letB c = false := by unfold letB; simp; omega
    have h3 : 65 ≤ c := by omega
    have h4 : 97 ≤ c := by omega
    have h5 : 90 < c := by omega
    rw [e]
    go_enter Tryd.func44, Tryd.ntmps44
    go_wp2
    go_ret
    first | exact ⟨rfl, rfl⟩ | exact ⟨by simp; omega, rfl⟩
theorem text_digit (c : Int) (w : World) : Calls Tryd.prog 45 #[.int .u8 c] w fun e w' => e = .returned (.bool (digB c)) ∧ w' = w := by
  have key : c < 48 ∨ (48 ≤ c ∧ c ≤ 57) ∨ 57 < c := by omega
  rcases key with h | ⟨h1, h2⟩ | h
  · have e : digB c = false := by unfold digB; simp; omega
    rw [e]
    go_enter Tryd.func45, Tryd.ntmps45
    go_wp2
    go_ret
    first | exact ⟨rfl, rfl⟩ | exact ⟨by simp; omega, rfl⟩
  · have e : digB c = true := by unfold digB; simp; omega
    rw [e]
    go_enter Tryd.func45, Tryd.ntmps45
    go_wp2
    go_ret
    first | exact ⟨rfl, rfl⟩ | exact ⟨by simp; omega, rfl⟩
  · have e : digB c = false := by unfold digB; simp; omega
    have h3 : 48 ≤ c := by omega
    rw [e]
    go_enter Tryd.func45, Tryd.ntmps45
    go_wp2
    go_ret
    first | exact ⟨rfl, rfl⟩ | exact ⟨by simp; omega, rfl⟩
theorem ref_letter (c : Int) (w : World) : Calls Tryd.prog 50 #[.int .u8 c] w fun e w' => e = .returned (.bool (letB c)) ∧ w' = w := by
  have key : c < 65 ∨ (65 ≤ c ∧ c ≤ 90) ∨ (90 < c ∧ c < 97) ∨ (97 ≤ c ∧ c ≤ 122) ∨ 122 < c := by omega
  rcases key with h | ⟨h1, h2⟩ | ⟨h1, h2⟩ | ⟨h1, h2⟩ | h
  · have e : letB c = false := by unfold letB; simp; omega
    have h3 : c < 97 := by omega
    rw [e]
    go_enter Tryd.func50, Tryd.ntmps50
    go_wp2
    go_ret
    first | exact ⟨rfl, rfl⟩ | exact ⟨by simp; omega, rfl⟩
  · have e : letB c = true := by unfold letB; simp; omega
    have h3 : c < 97 := by omega
    rw [e]
    go_enter Tryd.func50, Tryd.ntmps50
    go_wp2
    go_ret
    first | exact ⟨rfl, rfl⟩ | exact ⟨by simp; omega, rfl⟩
  · have e : letB c = false := by unfold letB; simp; omega
    have h3 : 65 ≤ c := by omega
    rw [e]
    go_enter Tryd.func50, Tryd.ntmps50
    go_wp2
    go_ret
    first | exact ⟨rfl, rfl⟩ | exact ⟨by simp; omega, rfl⟩
  · have e : letB c = true := by unfold letB; simp; omega
    rw [e]
    go_enter Tryd.func50, Tryd.ntmps50
    go_wp2
    go_ret
    first | exact ⟨rfl, rfl⟩ | exact ⟨by simp; omega, rfl⟩
  · have e : letB c = false := by unfold letB; simp; omega
    have h3 : 65 ≤ c := by omega
    have h4 : 97 ≤ c := by omega
    have h5 : 90 < c := by omega
    rw [e]
    go_enter Tryd.func50, Tryd.ntmps50
    go_wp2
    go_ret
    first | exact ⟨rfl, rfl⟩ | exact ⟨by simp; omega, rfl⟩
theorem ref_digit (c : Int) (w : World) : Calls Tryd.prog 48 #[.int .u8 c] w fun e w' => e = .returned (.bool (digB c)) ∧ w' = w := by
  have key : c < 48 ∨ (48 ≤ c ∧ c ≤ 57) ∨ 57 < c := by omega
  rcases key with h | ⟨h1, h2⟩ | h
  · have e : digB c = false := by unfold digB; simp; omega
    rw [e]
    go_enter Tryd.func48, Tryd.ntmps48
    go_wp2
    go_ret
    first | exact ⟨rfl, rfl⟩ | exact ⟨by simp; omega, rfl⟩
  · have e : digB c = true := by unfold digB; simp; omega
    rw [e]
    go_enter Tryd.func48, Tryd.ntmps48
    go_wp2
    go_ret
    first | exact ⟨rfl, rfl⟩ | exact ⟨by simp; omega, rfl⟩
  · have e : digB c = false := by unfold digB; simp; omega
    have h3 : 48 ≤ c := by omega
    rw [e]
    go_enter Tryd.func48, Tryd.ntmps48
    go_wp2
    go_ret
    first | exact ⟨rfl, rfl⟩ | exact ⟨by simp; omega, rfl⟩
/-- Which one is ahead, by the first byte that differs. -/
theorem less_at (x y : List UInt8) (k : Nat) (h1 : k < x.length) (h2 : k < y.length) (h : ∀ j, j < k → x[j]? = y[j]?) (hne : x[k] ≠ y[k]) : Op.bytesLess x y = decide (x[k] < y[k]) := by
  induction k generalizing x y with
  | zero =>
    cases x with
    | nil => simp at h1
    | cons a t =>
      cases y with
      | nil => simp at h2
      | cons b u =>
        simp at hne
        simp only [List.getElem_cons_zero]
        unfold Op.bytesLess
        simp [hne]
  | succ k ih =>
    cases x with
    | nil => simp at h1
    | cons a t =>
      cases y with
      | nil => simp at h2
      | cons b u =>
        have h0 := h 0 (by omega)
        simp at h0
        subst h0
        have := ih t u (by simpa using h1) (by simpa using h2) (fun j hj => by simpa using h (j + 1) (by omega)) (by simpa using hne)
        unfold Op.bytesLess
        simp [this]
theorem less_end (x y : List UInt8) (h : ∀ j, j < x.length → j < y.length → x[j]? = y[j]?) : Op.bytesLess x y = decide (x.length < y.length) := by
  induction x generalizing y with
  | nil => cases y <;> simp [Op.bytesLess]
  | cons a t ih =>
    cases y with
    | nil => simp [Op.bytesLess]
    | cons b u =>
      have h0 := h 0 (by simp) (by simp)
      simp at h0
      subst h0
      have := ih u (fun j h1 h2 => by simpa using h (j + 1) (by simpa using h1) (by simpa using h2))
      unfold Op.bytesLess
      simp [this]
theorem bat_some (s : ByteArray) (i : Nat) (h : i < s.size) : ∃ b : UInt8, s.toList[i]? = some b ∧ bat s i = (b.toNat : Int) := by
  rw [ByteArray.toList_eq]
  have h' : i < s.data.toList.length := by rw [Array.length_toList]; exact h
  exact ⟨s.data.toList[i], List.getElem?_eq_getElem h', bat_get s i h⟩
theorem toList_len (s : ByteArray) : s.toList.length = s.size := by rw [ByteArray.toList_eq, Array.length_toList]; rfl
theorem bat_same {a b : ByteArray} {i : Nat} (ha : i < a.size) (hb : i < b.size) (h : bat a i = bat b i) : a.toList[i]? = b.toList[i]? := by
  obtain ⟨x, h1, h2⟩ := bat_some a i ha
  obtain ⟨y, h3, h4⟩ := bat_some b i hb
  have : x = y := UInt8.toNat_inj.1 (by omega)
  rw [h1, h3, this]
theorem less_bat {a b : ByteArray} {k : Nat} (ha : k < a.size) (hb : k < b.size) (h : ∀ j, j < k → bat a j = bat b j) (hne : bat a k ≠ bat b k) : Op.bytesLess a.toList b.toList = decide (bat a k < bat b k) := by
  obtain ⟨x, h1, h2⟩ := bat_some a k ha
  obtain ⟨y, h3, h4⟩ := bat_some b k hb
  have ka : k < a.toList.length := by rw [toList_len]; exact ha
  have kb : k < b.toList.length := by rw [toList_len]; exact hb
  have e1 : a.toList[k] = x := by rw [List.getElem?_eq_getElem ka] at h1; exact Option.some.inj h1
  have e2 : b.toList[k] = y := by rw [List.getElem?_eq_getElem kb] at h3; exact Option.some.inj h3
  rw [less_at a.toList b.toList k ka kb (fun j hj => bat_same (by omega) (by omega) (h j hj)) (by rw [e1, e2]; intro e; subst e; exact hne (by rw [h2, h4])), e1, e2, h2, h4]
  congr 1
  rw [UInt8.lt_iff_toNat_lt]
  simp
theorem less_bats {a b : ByteArray} (h : ∀ j, j < a.size → j < b.size → bat a j = bat b j) : Op.bytesLess a.toList b.toList = decide (a.size < b.size) := by
  rw [less_end a.toList b.toList (fun j h1 h2 => by rw [toList_len] at h1 h2; exact bat_same h1 h2 (h j h1 h2)), toList_len, toList_len]

theorem below_drewN {B : Nat} {a w : World} (h : Below B a w) (q : Nat) : Below B a (w.drewN q) := ⟨h.os, h.tape, h.output, h.size, h.block⟩
end Go.Proofs.YtifddieoekbnfaaDoor
