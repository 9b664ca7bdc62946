/- The definition's Runs; the program's Has. -/
import Derived.Test.YthbogpnkdlbilaaRefReg3
namespace Go.Proofs.Ythbogpnkdlbilaa
open Go.RowKit Go.Maps
set_option linter.unusedSimpArgs false
set_option linter.unusedVariables false

theorem runsF_snoc : ∀ (l : List Int) (p x : Int), runsF p (l ++ [x]) = runsF p l + if x - 1 = (p :: l).getD l.length 0 then 0 else 1 := by
  intro l
  induction l with
  | nil => intro p x; simp [runsF]
  | cons y t ih =>
    intro p x
    rw [List.cons_append, runsF, ih, runsF]
    have e : (p :: y :: t).getD (y :: t).length 0 = (y :: t).getD t.length 0 := by simp [List.getD]
    rw [e]
    omega
theorem runsN_snoc (l : List Int) (x : Int) : runsN (l ++ [x]) = runsN l + if l.length = 0 ∨ x - 1 ≠ l.getD (l.length - 1) 0 then 1 else 0 := by
  cases l with
  | nil => simp [runsN, runsF]
  | cons y t =>
    rw [List.cons_append, runsN, runsF_snoc, runsN]
    have e : (y :: t).getD ((y :: t).length - 1) 0 = (y :: t).getD t.length 0 := by simp
    rw [e]
    by_cases h : x - 1 = (y :: t).getD t.length 0
    · rw [if_pos h, if_neg (by simp only [List.length_cons, Nat.succ_ne_zero, false_or]; exact fun k => k h)]
      omega
    · rw [if_neg h, if_pos (.inr h)]
      omega
theorem runsN_take {l : List Int} {k : Nat} (h : k < l.length) : runsN (l.take (k + 1)) = runsN (l.take k) + if k = 0 ∨ l.getD k 0 - 1 ≠ l.getD (k - 1) 0 then 1 else 0 := by
  have e : l.take (k + 1) = l.take k ++ [l.getD k 0] := by
    rw [List.take_succ_eq_append_getElem h]
    simp [List.getD, List.getElem?_eq_getElem h]
  have hl : (l.take k).length = k := by rw [List.length_take]; omega
  rw [e, runsN_snoc, hl]
  by_cases hk : k = 0
  · simp [hk]
  · have e2 : (l.take k).getD (k - 1) 0 = l.getD (k - 1) 0 := by
      rw [List.getD_eq_getElem?_getD, List.getD_eq_getElem?_getD, List.getElem?_take_of_lt (by omega)]
    rw [e2]
theorem runsN_le (l : List Int) : runsN l ≤ l.length := by
  have : ∀ (l : List Int) (p : Int), runsF p l ≤ l.length := by
    intro l
    induction l with
    | nil => intro p; simp [runsF]
    | cons y t ih => intro p; have := ih y; rw [runsF, List.length_cons]; split <;> omega
  cases l with
  | nil => simp [runsN]
  | cons y t => have := this t y; rw [runsN, List.length_cons]; omega
set_option maxHeartbeats 2000000 in
theorem ref8_Runs (v : Value) (l : List Int) (w : World) (h : LsIs w v l) (hI : ∀ x, x ∈ l → 0 ≤ x ∧ x ≤ 9223372036854775807) (hl : l.length ≤ 100000) : Calls Try.prog 27 #[v] w fun e w' => e = .returned (.int .i64 (runsN l : Nat)) ∧ Kept w w' := by
  obtain ⟨a, c, rfl, hs⟩ := h
  have HS := hidMk hs
  have HI := hidMk hI
  have HW := hidMk ((Kept.refl w).alloc (.cells #[.slice a l.length c] 31))
  obtain ⟨R, hR⟩ : ∃ R, runsN l = R := ⟨_, rfl⟩
  rw [hR]
  have HR := hidMk hR
  clear hs hI hR
  go_enter Try.func27, Try.ntmps27
  go_wp2_with fail
  go_loopg [3, 4] l.length (fun g r i wr => ∃ (k q : Nat), k + g = l.length ∧ i = .int .i64 k ∧ r = .int .i64 (runsN (l.take k) : Nat) ∧ wr = (w.alloc (.cells #[.slice a l.length c] 31)).drewN q)
  case atStart => exact ⟨0, 0, by omega, rfl, rfl, rfl⟩
  case round =>
    obtain ⟨k, q, hkg, rfl, rfl, hwr⟩ := hrel
    have HKG := hidMk hkg
    subst hwr
    have hrl := runsN_le (l.take k)
    rw [List.length_take] at hrl
    by_cases hkn : k < l.length
    · obtain ⟨bb, o, rfl, hbb, hcs⟩ := HS.out.cells (by omega)
      have hc := HW.out.cellp (hcs k hkn)
      have hx := HI.out _ (getD_mem hkn)
      have kn' : (k : Int) < (l.length : Int) := by omega
      have HT := hidMk (runsN_take hkn)
      by_cases hk0 : k = 0
      · subst hk0
        rw [if_pos (.inl rfl)] at HT
        have HT2 := hidMk (show runsN (l.take (0 + 1)) = 1 by rw [HT.out]; rfl)
        clear hcs hkg HT hrl
        go_wp2_with fail
        go_quiet (fail)
        go_wp2_with fail
        go_roundg (gk - 1)
        case measure => have := HKG.out; omega
        case rel => exact ⟨0 + 1, q + nq, by have := HKG.out; omega, by go_num, by rw [HT2.out]; simp [runsN, wrap64], rfl⟩
      · have hk1 := HW.out.cellp (hcs (k - 1) (by omega))
        have hy := HI.out _ (getD_mem (l := l) (k := k - 1) (by omega))
        have hkb : ((k : Int) == 0) = false := by simp; omega
        have hkw : IntKind.i64.wrap ((k : Int) - 1) = ((k - 1 : Nat) : Int) := by rw [IntKind.wrap_i64]; omega
        have hz : (0 : Int) ≤ ((k - 1 : Nat) : Int) := by omega
        have hz2 : ((k - 1 : Nat) : Int) < (l.length : Int) := by omega
        clear hcs hkg
        by_cases he : l.getD k 0 - 1 = l.getD (k - 1) 0
        · rw [if_neg (by rintro (e | e); exact hk0 e; exact e he)] at HT
          have hxw : IntKind.i64.wrap (l.getD k 0 - 1) = l.getD k 0 - 1 := by rw [IntKind.wrap_i64]; omega
          have hne : ((l.getD k 0 - 1) != l.getD (k - 1) 0) = false := by simpa using he
          clear he
          generalize l.getD k 0 = x at *
          generalize l.getD (k - 1) 0 = y at *
          generalize runsN (l.take k) = z at *
          go_wp2_with fail
          go_quiet (fail)
          go_wp2_with fail
          go_roundg (gk - 1)
          case measure => have := HKG.out; omega
          case rel => exact ⟨k + 1, q + nq, by have := HKG.out; omega, by go_num, by rw [HT.out]; rfl, rfl⟩
        · rw [if_pos (.inr he)] at HT
          have hxw : IntKind.i64.wrap (l.getD k 0 - 1) = l.getD k 0 - 1 := by rw [IntKind.wrap_i64]; omega
          have hne : ((l.getD k 0 - 1) != l.getD (k - 1) 0) = true := by simpa using he
          clear he
          generalize l.getD k 0 = x at *
          generalize l.getD (k - 1) 0 = y at *
          generalize runsN (l.take k) = z at *
          go_wp2_with fail
          go_quiet (fail)
          go_wp2_with fail
          go_roundg (gk - 1)
          case measure => have := HKG.out; omega
          case rel => exact ⟨k + 1, q + nq, by have := HKG.out; omega, by go_num, by rw [HT.out]; rfl, rfl⟩
    · have htk : l.take k = l := List.take_of_length_le (by omega)
      rw [htk, HR.out]
      have hkk : ¬ ((k : Int) < (l.length : Int)) := by omega
      clear hkg hrl htk
      go_wp2_with fail
      go_ret
      exact ⟨rfl, HW.out.drewN _⟩
end Go.Proofs.Ythbogpnkdlbilaa
