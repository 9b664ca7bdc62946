/- TextNames: names, and texts in order. -/
import Derived.Test.YtolihnipoggokaaDoorText8
namespace Go.Proofs.YtolihnipoggokaaDoor
open Go.RowKit
set_option linter.unusedSimpArgs false
set_option linter.unusedVariables false

theorem less_not (x y : List UInt8) : (Op.bytesLess x y && Op.bytesLess y x) = false := by
  induction x generalizing y with
  | nil => cases y <;> simp [Op.bytesLess]
  | cons a t ih =>
    cases y with
    | nil => simp [Op.bytesLess]
    | cons b u =>
      have := ih u
      unfold Op.bytesLess
      by_cases h1 : a < b
      · have h2 : ¬ b < a := fun h => by simp [UInt8.lt_iff_toNat_lt] at *; omega
        have h3 : b ≠ a := fun h => by subst h; simp [UInt8.lt_iff_toNat_lt] at h1
        simp [h1, h2, h3]
      · by_cases h2 : b < a
        · have h3 : a ≠ b := fun h => by subst h; simp [UInt8.lt_iff_toNat_lt] at h2
          simp [h1, h2, h3]
        · by_cases h3 : a = b
          · subst h3
            simpa [h1] using this
          · have h4 : b ≠ a := fun h => h3 h.symm
            simp [h1, h2, h3, h4]
theorem less_one (x y : List UInt8) : (Op.bytesLess x y || Op.bytesLess y x || x == y) = true := by
  induction x generalizing y with
  | nil => cases y <;> simp [Op.bytesLess]
  | cons a t ih =>
    cases y with
    | nil => simp [Op.bytesLess]
    | cons b u =>
      have := ih u
      unfold Op.bytesLess
      by_cases h1 : a < b
      · simp [h1]
      · by_cases h2 : b < a
        · simp [h2]
        · have h3 : a = b := UInt8.toNat_inj.1 (by simp [UInt8.lt_iff_toNat_lt] at *; omega)
          subst h3
          simpa [h1] using this
theorem less_self (x : List UInt8) : Op.bytesLess x x = false := by
  have := less_not x x
  simpa using this

set_option maxHeartbeats 2000000 in
set_option maxRecDepth 100000 in
theorem law_TextNames (a b : ByteArray) (w : World) (ha : a.size ≤ 140737488355328) (hb : b.size ≤ 140737488355328) (hV : Vars w) : Calls Tryd.prog 3 #[.string a, .string b] w fun e w' => e = .returned (.bool true) ∧ Kept w w' := by
  have HV := hidMk hV
  have HL := fun w => text_Less a b w
  have HM := fun w => text_Less b a w
  have HN := fun w => text_Name a (by omega) w
  have HN2 := fun w => ref_Name a (by omega) w
  have HL2 := fun w => ref_Less a b (by omega) (by omega) w
  have HM2 := fun w => ref_Less b a (by omega) (by omega) w
  have hab : a.toList = b.toList → a = b := fun e => by
    apply ByteArray.ext
    rw [ByteArray.toList_eq, ByteArray.toList_eq] at e
    exact Array.ext' e
  have h1 := less_not a.toList b.toList
  have h2 := less_one a.toList b.toList
  have h3 := less_self a.toList
  have hE : ∃ q, (a.toList == b.toList) = q := ⟨_, rfl⟩
  obtain ⟨q, hq⟩ := hE
  rw [hq] at h2
  have h4 : q = true → Op.bytesLess a.toList b.toList = false := fun e => by
    rw [e] at hq
    rw [beq_iff_eq.1 hq]
    exact less_self _
  have h5 : q = true → Op.bytesLess b.toList a.toList = false := fun e => by
    rw [e] at hq
    rw [beq_iff_eq.1 hq]
    exact less_self _
  have hq2 : (b.toList == a.toList) = q := by rw [← hq]; exact Bool.beq_comm ..
  generalize Op.bytesLess a.toList b.toList = x at *
  generalize Op.bytesLess b.toList a.toList = y at *
  generalize nameB a = z at *
  have A1 := hidMk HL
  have A2 := hidMk HM
  have A3 := hidMk HN
  have A4 := hidMk HN2
  have A5 := hidMk HL2
  have A6 := hidMk HM2
  clear HL HM HN HN2 HL2 HM2 hab hV h3
  have key : (x = true ∧ y = false ∧ q = false) ∨ (x = false ∧ y = true ∧ q = false) ∨ (x = false ∧ y = false ∧ q = true) := by
    cases x <;> cases y <;> cases q <;> simp_all
  clear h1 h2 h4 h5
  have hz : (z == z) = true := by simp
  rcases key with ⟨rfl, rfl, rfl⟩ | ⟨rfl, rfl, rfl⟩ | ⟨rfl, rfl, rfl⟩
  all_goals
    go_enter Tryd.func3, Tryd.ntmps3
    go_wp2_with fail
    refine (A1.out _).mono ?_
    rintro e w1 ⟨rfl, rfl⟩
    go_wp2_with fail
    refine (A2.out _).mono ?_
    rintro e w2 ⟨rfl, rfl⟩
    go_wp2_with fail
    refine (A3.out _).mono ?_
    rintro e w3 ⟨rfl, rfl⟩
    go_wp2_with fail
    refine (A4.out _).mono ?_
    rintro e w4 ⟨rfl, rfl⟩
    go_wp2_with fail
    refine (A5.out _).mono ?_
    rintro e w5 ⟨rfl, k5⟩
    have K5 := hidMk k5
    clear k5
    go_wp2_with fail
    refine (A6.out _).mono ?_
    rintro e w6 ⟨rfl, k6⟩
    have K6 := hidMk (K5.out.trans k6)
    clear k6
    go_wp2_with fail
    refine (law_known _ (HV.out.kept K6.out)).mono ?_
    rintro e w7 ⟨rfl, k7⟩
    go_wp2_with fail
    go_ret
    exact ⟨rfl, K6.out.trans k7⟩
end Go.Proofs.YtolihnipoggokaaDoor
