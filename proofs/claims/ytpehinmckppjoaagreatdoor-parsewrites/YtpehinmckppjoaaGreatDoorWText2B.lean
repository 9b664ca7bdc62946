/- text.Name and the definition's, where nothing else of text is in the cut. · text.Name, text.Less and the definition's. · text.Name is in TextName: here with the bound that the texts of lex know. -/
import Derived.Test.YtpehinmckppjoaaGreatDoorChecked
import Derived.Test.YtpehinmckppjoaaGreatDoorWStrsB
import Derived.WalkSpells
import Derived.WalkLawsBesides
import Derived.Deep.QuietTactic
import Derived.BigQuiet
namespace Go.Proofs.YtpehinmckppjoaaGreatDoor
open Go.RowKit
set_option linter.unusedSimpArgs false
set_option linter.unusedVariables false

theorem text_letter (c : Int) (w : World) : Calls Tryz.prog 88 #[.int .u8 c] w fun e w' => e = .returned (.bool (letB c)) ∧ w' = w := by
  have key : c < 65 ∨ (65 ≤ c ∧ c ≤ 90) ∨ (90 < c ∧ c < 97) ∨ (97 ≤ c ∧ c ≤ 122) ∨ 122 < c := by omega
  rcases key with h | ⟨h1, h2⟩ | ⟨h1, h2⟩ | ⟨h1, h2⟩ | h
  · have e : letB c = false := by unfold letB; simp; omega
    have h3 : c < 97 := by omega
    rw [e]
    go_enter Tryz.func88, Tryz.ntmps88
    go_wp2
    go_ret
    first | exact ⟨rfl, rfl⟩ | exact ⟨by simp; omega, rfl⟩
  · have e : letB c = true := by unfold letB; simp; omega
    have h3 : c < 97 := by omega
    rw [e]
    go_enter Tryz.func88, Tryz.ntmps88
    go_wp2
    go_ret
    first | exact ⟨rfl, rfl⟩ | exact ⟨by simp; omega, rfl⟩
  · have e : letB c = false := by unfold letB; simp; omega
    have h3 : 65 ≤ c := by omega
    rw [e]
    go_enter Tryz.func88, Tryz.ntmps88
    go_wp2
    go_ret
    first | exact ⟨rfl, rfl⟩ | exact ⟨by simp; omega, rfl⟩
  · have e : letB c = true := by unfold letB; simp; omega
    rw [e]
    go_enter Tryz.func88, Tryz.ntmps88
    go_wp2
    go_ret
    first | exact ⟨rfl, rfl⟩ | exact ⟨by simp; omega, rfl⟩
  · have e : letB c = false := by unfold letB; simp; omega
    have h3 : 65 ≤ c := by omega
    have h4 : 97 ≤ c := by omega
    have h5 : 90 < c := by omega
    rw [e]
    go_enter Tryz.func88, Tryz.ntmps88
    go_wp2
    go_ret
    first | exact ⟨rfl, rfl⟩ | exact ⟨by simp; omega, rfl⟩
theorem text_digit (c : Int) (w : World) : Calls Tryz.prog 89 #[.int .u8 c] w fun e w' => e = .returned (.bool (digB c)) ∧ w' = w := by
  have key : c < 48 ∨ (48 ≤ c ∧ c ≤ 57) ∨ 57 < c := by omega
  rcases key with h | ⟨h1, h2⟩ | h
  · have e : digB c = false := by unfold digB; simp; omega
    rw [e]
    go_enter Tryz.func89, Tryz.ntmps89
    go_wp2
    go_ret
    first | exact ⟨rfl, rfl⟩ | exact ⟨by simp; omega, rfl⟩
  · have e : digB c = true := by unfold digB; simp; omega
    rw [e]
    go_enter Tryz.func89, Tryz.ntmps89
    go_wp2
    go_ret
    first | exact ⟨rfl, rfl⟩ | exact ⟨by simp; omega, rfl⟩
  · have e : digB c = false := by unfold digB; simp; omega
    have h3 : 48 ≤ c := by omega
    rw [e]
    go_enter Tryz.func89, Tryz.ntmps89
    go_wp2
    go_ret
    first | exact ⟨rfl, rfl⟩ | exact ⟨by simp; omega, rfl⟩
theorem ref_letter (c : Int) (w : World) : Calls Tryz.prog 87 #[.int .u8 c] w fun e w' => e = .returned (.bool (letB c)) ∧ w' = w := by
  have key : c < 65 ∨ (65 ≤ c ∧ c ≤ 90) ∨ (90 < c ∧ c < 97) ∨ (97 ≤ c ∧ c ≤ 122) ∨ 122 < c := by omega
  rcases key with h | ⟨h1, h2⟩ | ⟨h1, h2⟩ | ⟨h1, h2⟩ | h
  · have e : letB c = false := by unfold letB; simp; omega
    have h3 : c < 97 := by omega
    rw [e]
    go_enter Tryz.func87, Tryz.ntmps87
    go_wp2
    go_ret
    first | exact ⟨rfl, rfl⟩ | exact ⟨by simp; omega, rfl⟩
  · have e : letB c = true := by unfold letB; simp; omega
    have h3 : c < 97 := by omega
    rw [e]
    go_enter Tryz.func87, Tryz.ntmps87
    go_wp2
    go_ret
    first | exact ⟨rfl, rfl⟩ | exact ⟨by simp; omega, rfl⟩
  · have e : letB c = false := by unfold letB; simp; omega
    have h3 : 65 ≤ c := by omega
    rw [e]
    go_enter Tryz.func87, Tryz.ntmps87
    go_wp2
    go_ret
    first | exact ⟨rfl, rfl⟩ | exact ⟨by simp; omega, rfl⟩
  · have e : letB c = true := by unfold letB; simp; omega
    rw [e]
    go_enter Tryz.func87, Tryz.ntmps87
    go_wp2
    go_ret
    first | exact ⟨rfl, rfl⟩ | exact ⟨by simp; omega, rfl⟩
  · have e : letB c = false := by unfold letB; simp; omega
    have h3 : 65 ≤ c := by omega
    have h4 : 97 ≤ c := by omega
    have h5 : 90 < c := by omega
    rw [e]
    go_enter Tryz.func87, Tryz.ntmps87
    go_wp2
    go_ret
    first | exact ⟨rfl, rfl⟩ | exact ⟨by simp; omega, rfl⟩
theorem ref_digit (c : Int) (w : World) : Calls Tryz.prog 86 #[.int .u8 c] w fun e w' => e = .returned (.bool (digB c)) ∧ w' = w := by
  have key : c < 48 ∨ (48 ≤ c ∧ c ≤ 57) ∨ 57 < c := by omega
  rcases key with h | ⟨h1, h2⟩ | h
  · have e : digB c = false := by unfold digB; simp; omega
    rw [e]
    go_enter Tryz.func86, Tryz.ntmps86
    go_wp2
    go_ret
    first | exact ⟨rfl, rfl⟩ | exact ⟨by simp; omega, rfl⟩
  · have e : digB c = true := by unfold digB; simp; omega
    rw [e]
    go_enter Tryz.func86, Tryz.ntmps86
    go_wp2
    go_ret
    first | exact ⟨rfl, rfl⟩ | exact ⟨by simp; omega, rfl⟩
  · have e : digB c = false := by unfold digB; simp; omega
    have h3 : 48 ≤ c := by omega
    rw [e]
    go_enter Tryz.func86, Tryz.ntmps86
    go_wp2
    go_ret
    first | exact ⟨rfl, rfl⟩ | exact ⟨by simp; omega, rfl⟩
set_option maxHeartbeats 1000000 in
set_option maxRecDepth 100000 in
theorem text_Name (s : ByteArray) (hs : s.size ≤ maxLen) (w : World) : Calls Tryz.prog 63 #[.string s] w fun e w' => e = .returned (.bool (nameB s)) ∧ w' = w := by
  by_cases g1 : s.size < 1
  · have e : nameB s = false := by unfold nameB; simp; omega
    rw [e]
    have g1' : (s.size : Int) < 1 := by omega
    go_enter Tryz.func63, Tryz.ntmps63
    go_wp2
    go_ret
    exact ⟨rfl, rfl⟩
  have g1' : ¬ ((s.size : Int) < 1) := by omega
  by_cases g2 : 12 < s.size
  · have e : nameB s = false := by unfold nameB; simp; omega
    rw [e]
    have g2' : (12 : Int) < (s.size : Int) := by omega
    go_enter Tryz.func63, Tryz.ntmps63
    go_wp2
    go_ret
    exact ⟨rfl, rfl⟩
  have g2' : (s.size : Int) ≤ 12 := by omega
  have i0 : ∀ w, (Instr.index 9 (.string s) (.int .i64 0)).run Tryz.prog w = .ok (.int .u8 (bat s 0)) w := run_at (P := Tryz.prog) Tryz.underlying9 s .i64 0 (by omega)
  cases g3 : letB (bat s 0) with
  | false =>
    have e : nameB s = false := by unfold nameB; rw [g3]; simp
    rw [e]
    have HL := hidMk (text_letter (bat s 0))
    rw [g3] at HL
    clear g3
    generalize bat s 0 = x0 at *
    go_enter Tryz.func63, Tryz.ntmps63
    go_wp2_with (go_at_call 88; refine (HL.out _).mono ?_; rintro e w1 ⟨rfl, rfl⟩)
    go_ret
    exact ⟨rfl, rfl⟩
  | true =>
    have HL := hidMk (text_letter (bat s 0))
    rw [g3] at HL
    have G3 := hidMk g3
    clear g3
    have HX0 := hidMk (show bat s 0 = bat s 0 from rfl)
    obtain ⟨x0, hx0⟩ : ∃ x0, bat s 0 = x0 := ⟨_, rfl⟩
    rw [hx0] at HL i0
    have HXX := hidMk hx0
    clear hx0
    obtain ⟨r, hr⟩ : ∃ r, nameB s = r := ⟨_, rfl⟩
    rw [hr]
    have HR := hidMk hr
    clear hr
    have HST := hidMk (show ∀ j, j < 1 → okB (bat s j) = true from fun j hj => by
      have e : j = 0 := by omega
      subst e
      unfold okB; rw [G3.out]; rfl)
    go_enter Tryz.func63, Tryz.ntmps63
    go_wp2_with (go_at_call 88; refine (HL.out _).mono ?_; rintro e w1 ⟨rfl, rfl⟩)
    go_loopw [3, 20] (fun _ i wr => ∃ k : Nat, k ≤ s.size ∧ i = .int .i64 k ∧ wr = w1 ∧ Hid (∀ j, j < k → okB (bat s j) = true)) (fun _ i _ => s.size - (intOf i).toNat)
    case atStart => exact ⟨0, Nat.zero_le _, rfl, rfl, hidMk fun j hj => absurd hj (by omega)⟩
    case round =>
      obtain ⟨k, hk, rfl, rfl, HK⟩ := hrel
      by_cases hks : k < s.size
      · have i1 := run_at (P := Tryz.prog) Tryz.underlying9 s .i64 k hks
        have HO := hidMk (show ∀ b, okB (bat s k) = b → b = false → r = false from fun b h1 h2 => by rw [← HR.out]; exact nameB_no hks (by rw [h1, h2]))
        have HS := hidMk (show okB (bat s k) = true → ∀ j, j < k + 1 → okB (bat s j) = true from fun h j hj => by
          by_cases e : j = k
          · subst e; exact h
          · exact HK.out j (by omega))
        have HL2 := hidMk (text_letter (bat s k))
        have HD2 := hidMk (text_digit (bat s k))
        have hx := bat_is s k
        clear HL i0 HXX HX0
        generalize bat s k = x at *
        cases c1 : letB x with
        | true =>
          rw [c1] at HL2
          have HOK := hidMk (show okB x = true by unfold okB; rw [c1]; rfl)
          clear c1
          go_wp2_with (go_at_call 88; refine (HL2.out _).mono ?_; rintro e w1 ⟨rfl, rfl⟩)
          exact ⟨⟨k + 1, by omega, by go_num, trivial, hidMk (HS.out HOK.out)⟩, by simp [intOf]; omega⟩
        | false =>
          rw [c1] at HL2
          cases c2 : digB x with
          | true =>
            rw [c2] at HD2
            have HOK := hidMk (show okB x = true by unfold okB; rw [c1, c2]; rfl)
            clear c1 c2
            go_wp2_with (first | (go_at_call 88; refine (HL2.out _).mono ?_; rintro e w1 ⟨rfl, rfl⟩) | (go_at_call 89; refine (HD2.out _).mono ?_; rintro e w1 ⟨rfl, rfl⟩))
            exact ⟨⟨k + 1, by omega, by go_num, trivial, hidMk (HS.out HOK.out)⟩, by simp [intOf]; omega⟩
          | false =>
            rw [c2] at HD2
            by_cases c3 : x = 95
            · have HOK := hidMk (show okB x = true by unfold okB; rw [c1, c2, c3]; rfl)
              subst c3
              clear c1 c2
              go_wp2_with (first | (go_at_call 88; refine (HL2.out _).mono ?_; rintro e w1 ⟨rfl, rfl⟩) | (go_at_call 89; refine (HD2.out _).mono ?_; rintro e w1 ⟨rfl, rfl⟩))
              exact ⟨⟨k + 1, by omega, by go_num, trivial, hidMk (HS.out HOK.out)⟩, by simp [intOf]; omega⟩
            · have HNO := hidMk (HO.out false (by unfold okB; rw [c1, c2]; simp [c3]) rfl)
              have c3' : (x == 95) = false := by simpa using c3
              clear c1 c2 c3
              go_wp2_with (first | (go_at_call 88; refine (HL2.out _).mono ?_; rintro e w1 ⟨rfl, rfl⟩) | (go_at_call 89; refine (HD2.out _).mono ?_; rintro e w1 ⟨rfl, rfl⟩))
              go_ret
              exact ⟨by rw [HNO.out]; rfl, rfl⟩
      · have HYES := hidMk (show r = true by rw [← HR.out]; exact nameB_yes (by omega) G3.out (fun i hi => HK.out i (by omega)))
        have hks' : ¬ ((k : Int) < (s.size : Int)) := by omega
        go_wp2
        go_ret
        exact ⟨by rw [HYES.out]; rfl, rfl⟩

set_option maxHeartbeats 1000000 in
set_option maxRecDepth 100000 in
theorem ref_Name (s : ByteArray) (hs : s.size ≤ maxLen) (w : World) : Calls Tryz.prog 61 #[.string s] w fun e w' => e = .returned (.bool (nameB s)) ∧ w' = w := by
  by_cases g1 : s.size < 1
  · have e : nameB s = false := by unfold nameB; simp; omega
    rw [e]
    have g1' : (s.size : Int) < 1 := by omega
    go_enter Tryz.func61, Tryz.ntmps61
    go_wp2
    go_ret
    exact ⟨rfl, rfl⟩
  have g1' : ¬ ((s.size : Int) < 1) := by omega
  by_cases g2 : 12 < s.size
  · have e : nameB s = false := by unfold nameB; simp; omega
    rw [e]
    have g2' : (12 : Int) < (s.size : Int) := by omega
    go_enter Tryz.func61, Tryz.ntmps61
    go_wp2
    go_ret
    exact ⟨rfl, rfl⟩
  have g2' : (s.size : Int) ≤ 12 := by omega
  have i0 : ∀ w, (Instr.index 9 (.string s) (.int .i64 0)).run Tryz.prog w = .ok (.int .u8 (bat s 0)) w := run_at (P := Tryz.prog) Tryz.underlying9 s .i64 0 (by omega)
  cases g3 : letB (bat s 0) with
  | false =>
    have e : nameB s = false := by unfold nameB; rw [g3]; simp
    rw [e]
    have HL := hidMk (ref_letter (bat s 0))
    rw [g3] at HL
    clear g3
    generalize bat s 0 = x0 at *
    go_enter Tryz.func61, Tryz.ntmps61
    go_wp2_with (go_at_call 87; refine (HL.out _).mono ?_; rintro e w1 ⟨rfl, rfl⟩)
    go_ret
    exact ⟨rfl, rfl⟩
  | true =>
    have HL := hidMk (ref_letter (bat s 0))
    rw [g3] at HL
    have G3 := hidMk g3
    clear g3
    have HX0 := hidMk (show bat s 0 = bat s 0 from rfl)
    obtain ⟨x0, hx0⟩ : ∃ x0, bat s 0 = x0 := ⟨_, rfl⟩
    rw [hx0] at HL i0
    have HXX := hidMk hx0
    clear hx0
    obtain ⟨r, hr⟩ : ∃ r, nameB s = r := ⟨_, rfl⟩
    rw [hr]
    have HR := hidMk hr
    clear hr
    have HST := hidMk (show ∀ j, j < 1 → okB (bat s j) = true from fun j hj => by
      have e : j = 0 := by omega
      subst e
      unfold okB; rw [G3.out]; rfl)
    go_enter Tryz.func61, Tryz.ntmps61
    go_wp2_with (go_at_call 87; refine (HL.out _).mono ?_; rintro e w1 ⟨rfl, rfl⟩)
    go_loopw [3] (fun i wr => ∃ k : Nat, 1 ≤ k ∧ k ≤ s.size ∧ i = .int .i64 k ∧ wr = w1 ∧ Hid (∀ j, j < k → okB (bat s j) = true)) (fun i _ => s.size - (intOf i).toNat)
    case atStart => exact ⟨1, Nat.le_refl _, by omega, rfl, rfl, HST⟩
    case round =>
      obtain ⟨k, hk0, hk, rfl, rfl, HK⟩ := hrel
      by_cases hks : k < s.size
      · have i1 := run_at (P := Tryz.prog) Tryz.underlying9 s .i64 k hks
        have HO := hidMk (show ∀ b, okB (bat s k) = b → b = false → r = false from fun b h1 h2 => by rw [← HR.out]; exact nameB_no hks (by rw [h1, h2]))
        have HS := hidMk (show okB (bat s k) = true → ∀ j, j < k + 1 → okB (bat s j) = true from fun h j hj => by
          by_cases e : j = k
          · subst e; exact h
          · exact HK.out j (by omega))
        have HL2 := hidMk (ref_letter (bat s k))
        have HD2 := hidMk (ref_digit (bat s k))
        have hx := bat_is s k
        clear HL i0 HXX HX0
        generalize bat s k = x at *
        cases c1 : letB x with
        | true =>
          rw [c1] at HL2
          have HOK := hidMk (show okB x = true by unfold okB; rw [c1]; rfl)
          clear c1
          go_wp2_with (go_at_call 87; refine (HL2.out _).mono ?_; rintro e w1 ⟨rfl, rfl⟩)
          exact ⟨⟨k + 1, by omega, by omega, by go_num, trivial, hidMk (HS.out HOK.out)⟩, by simp [intOf]; omega⟩
        | false =>
          rw [c1] at HL2
          cases c2 : digB x with
          | true =>
            rw [c2] at HD2
            have HOK := hidMk (show okB x = true by unfold okB; rw [c1, c2]; rfl)
            clear c1 c2
            go_wp2_with (first | (go_at_call 87; refine (HL2.out _).mono ?_; rintro e w1 ⟨rfl, rfl⟩) | (go_at_call 86; refine (HD2.out _).mono ?_; rintro e w1 ⟨rfl, rfl⟩))
            exact ⟨⟨k + 1, by omega, by omega, by go_num, trivial, hidMk (HS.out HOK.out)⟩, by simp [intOf]; omega⟩
          | false =>
            rw [c2] at HD2
            by_cases c3 : x = 95
            · have HOK := hidMk (show okB x = true by unfold okB; rw [c1, c2, c3]; rfl)
              subst c3
              clear c1 c2
              go_wp2_with (first | (go_at_call 87; refine (HL2.out _).mono ?_; rintro e w1 ⟨rfl, rfl⟩) | (go_at_call 86; refine (HD2.out _).mono ?_; rintro e w1 ⟨rfl, rfl⟩))
              exact ⟨⟨k + 1, by omega, by omega, by go_num, trivial, hidMk (HS.out HOK.out)⟩, by simp [intOf]; omega⟩
            · have HNO := hidMk (HO.out false (by unfold okB; rw [c1, c2]; simp [c3]) rfl)
              have c3' : (x == 95) = false := by simpa using c3
              clear c1 c2 c3
              go_wp2_with (first | (go_at_call 87; refine (HL2.out _).mono ?_; rintro e w1 ⟨rfl, rfl⟩) | (go_at_call 86; refine (HD2.out _).mono ?_; rintro e w1 ⟨rfl, rfl⟩))
              go_ret
              exact ⟨by rw [HNO.out]; rfl, rfl⟩
      · have HYES := hidMk (show r = true by rw [← HR.out]; exact nameB_yes (by omega) G3.out (fun i hi => HK.out i (by omega)))
        have hks' : ¬ ((k : Int) < (s.size : Int)) := by omega
        go_wp2
        go_ret
        exact ⟨by rw [HYES.out]; rfl, rfl⟩
end Go.Proofs.YtpehinmckppjoaaGreatDoor
namespace Go.Proofs.YtpehinmckppjoaaGreatDoor
open Go.RowKit
set_option linter.unusedSimpArgs false
set_option linter.unusedVariables false

end Go.Proofs.YtpehinmckppjoaaGreatDoor
namespace Go.Proofs.YtpehinmckppjoaaGreatDoor
open Go.RowKit
theorem text_NameW (s : ByteArray) (hs : s.size ≤ 9223372036854775806) (w : World) : Calls Tryz.prog 63 #[.string s] w fun e w' => e = .returned (.bool (nameB s)) ∧ w' = w := text_Name s (Nat.le_trans hs (by decide)) w
theorem ref_NameW (s : ByteArray) (hs : s.size ≤ 9223372036854775806) (w : World) : Calls Tryz.prog 61 #[.string s] w fun e w' => e = .returned (.bool (nameB s)) ∧ w' = w := ref_Name s (Nat.le_trans hs (by decide)) w
end Go.Proofs.YtpehinmckppjoaaGreatDoor
