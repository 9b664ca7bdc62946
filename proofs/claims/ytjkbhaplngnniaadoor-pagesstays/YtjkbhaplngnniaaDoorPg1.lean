/- pages: width, digit, how many levels; New, Arena, Codes, Levels; the definition's Levels, digit. -/
import Derived.Test.YtjkbhaplngnniaaDoorAr11
namespace Go.Proofs.YtjkbhaplngnniaaDoor
open Go.RowKit
set_option linter.unusedSimpArgs false
set_option linter.unusedVariables false

theorem pow8 (k : Nat) (h : k ≤ 6) : (8 : Int) ^ k ≤ 262144 ∧ 1 ≤ (8 : Int) ^ k := by
  have : k = 0 ∨ k = 1 ∨ k = 2 ∨ k = 3 ∨ k = 4 ∨ k = 5 ∨ k = 6 := by omega
  rcases this with rfl | rfl | rfl | rfl | rfl | rfl | rfl <;> decide
theorem wrap_fit {z : Int} (h1 : -4611686018427387904 ≤ z) (h2 : z ≤ 4611686018427387904) : wrap64 z = z := by unfold wrap64; omega
theorem pages_width (l : Nat) (hl : l ≤ 5) (w : World) : Calls Tryd.prog 30 #[.int .i64 l] w fun e w' => e = .returned (.int .i64 ((8 : Int) ^ l)) ∧ w' = w := by
  go_enter Tryd.func30, Tryd.ntmps30
  go_wp2_with fail
  go_loopg [3, 5] (l + 2) (fun g s x wr => ∃ k : Nat, k + g = l + 2 ∧ k ≤ l ∧ x = .int .i64 k ∧ Hid (s = .int .i64 ((8 : Int) ^ k)) ∧ wr = w)
  case atStart => exact ⟨0, by omega, by omega, rfl, hidMk rfl, rfl⟩
  case round =>
    obtain ⟨k, hkg, hkl, rfl, HS, rfl⟩ := hrel
    have HKG := hidMk hkg
    have hs := HS.out
    subst hs
    by_cases hk : k < l
    · have hk' : (k : Int) < l := by omega
      have hb := pow8 k (by omega)
      have HE := hidMk (show (8 : Int) ^ k * 8 = (8 : Int) ^ (k + 1) from (Int.pow_succ _ _).symm)
      generalize (8 : Int) ^ k = z at *
      have hw : wrap64 (z * 8) = z * 8 := wrap_fit (by omega) (by omega)
      clear hkg HS
      go_wp2_with fail
      go_roundg (gk - 1)
      case measure => have := HKG.out; omega
      case rel => exact ⟨k + 1, by have := HKG.out; omega, by omega, by go_num, hidMk (by rw [← HE.out]), rfl⟩
    · have hk' : ¬ ((k : Int) < l) := by omega
      have HE := hidMk (show k = l by omega)
      clear hkg HS
      generalize hz : (8 : Int) ^ k = z at *
      go_wp2_with fail
      go_ret
      rw [HE.out] at hz
      exact ⟨by rw [hz]; rfl, rfl⟩
/-- Which part is on the way. -/
def dig (c : Int) (l : Nat) : Int := c / (8 : Int) ^ (l - 1) % 8
theorem dig_lt (c : Int) (l : Nat) : 0 ≤ dig c l ∧ dig c l < 8 := by unfold dig; omega
theorem quo_pos {a b : Int} (ha : 0 ≤ a) : a.tdiv b = a / b := Int.tdiv_eq_ediv_of_nonneg ha
theorem rem_pos {a b : Int} (ha : 0 ≤ a) : a.tmod b = a % b := Int.tmod_eq_emod_of_nonneg ha
theorem pages_digit (c : Int) (l : Nat) (h0 : 0 ≤ c) (hc : c ≤ 1000000) (h1 : 1 ≤ l) (hl : l ≤ 5) (w : World) : Calls Tryd.prog 41 #[.int .i64 c, .int .i64 l] w fun e w' => e = .returned (.int .i64 (dig c l)) ∧ w' = w := by
  have HW := hidMk (pages_width (l - 1) (by omega) w)
  have hl1 : ((l - 1 : Nat) : Int) = (l : Int) - 1 := by omega
  rw [hl1] at HW
  have hb := pow8 (l - 1) (by omega)
  have hq : c.tdiv ((8 : Int) ^ (l - 1)) = c / (8 : Int) ^ (l - 1) := quo_pos h0
  have hr : 0 ≤ c / (8 : Int) ^ (l - 1) := Int.ediv_nonneg h0 (by omega)
  have hr2 : c / (8 : Int) ^ (l - 1) ≤ c := Int.ediv_le_self _ h0
  have hm : (c / (8 : Int) ^ (l - 1)).tmod 8 = c / (8 : Int) ^ (l - 1) % 8 := rem_pos hr
  unfold dig
  generalize (8 : Int) ^ (l - 1) = z at *
  generalize hy : c / z = y at *
  have hz : (z == 0) = false := by simp; omega
  have hz2 : z ≠ 0 := by omega
  have hz3 : z ≠ -1 := by omega
  have hwq : wrap64 y = y := wrap_fit (by omega) (by omega)
  have hwm : wrap64 (y % 8) = y % 8 := wrap_fit (by omega) (by omega)
  clear hl1
  go_enter Tryd.func41, Tryd.ntmps41
  go_wp2_with fail
  refine HW.out.mono ?_
  rintro e w1 ⟨rfl, hw1⟩
  rw [hw1]
  clear HW hw1
  go_wp2_with fail
  go_ret
  exact ⟨rfl, rfl⟩
/-- How many levels there are. -/
def lvls (c : Int) : Nat := if c ≤ 8 then 1 else if c ≤ 64 then 2 else if c ≤ 512 then 3 else 4
theorem lvls_le (c : Int) : 1 ≤ lvls c ∧ lvls c ≤ 4 := by unfold lvls; split <;> (try split) <;> (try split) <;> omega
theorem lvls_is {c : Int} (hc : c ≤ 4096) {k : Nat} (h1 : 1 ≤ k) (h4 : k ≤ 4) (ha : k = 1 ∨ (8 : Int) ^ (k - 1) < c) (hb : c ≤ (8 : Int) ^ k) : k = lvls c := by
  have : k = 1 ∨ k = 2 ∨ k = 3 ∨ k = 4 := by omega
  unfold lvls
  rcases this with rfl | rfl | rfl | rfl <;> simp at ha hb <;> (try split) <;> (try split) <;> (try split) <;> omega
theorem lvls_le3 {c : Int} (h : c ≤ 512) : lvls c ≤ 3 := by unfold lvls; split <;> (try split) <;> (try split) <;> omega
/-- Trees in memory: block g. -/
structure PG (w : World) (g p : Nat) (codes : Int) : Prop where
  c0 : w.cell? ⟨g, 0, none⟩ = some (.pointer (some ⟨p, 0, none⟩))
  c1 : w.cell? ⟨g, 1, none⟩ = some (.int .i64 codes)
  c2 : w.cell? ⟨g, 2, none⟩ = some (.int .i64 (lvls codes))
  k1 : 1 ≤ codes
  k2 : codes ≤ 1024
theorem PG.kept {w y : World} {g p : Nat} {codes : Int} (h : PG w g p codes) (k : Kept w y) : PG y g p codes := ⟨k.cellp h.c0, k.cellp h.c1, k.cellp h.c2, h.k1, h.k2⟩
theorem PG.lt {w : World} {g p : Nat} {codes : Int} (h : PG w g p codes) : g < w.heap.size := cell_lt h.c0
theorem pages_NewNil (c : Int) (w : World) : Calls Tryd.prog 10 #[.pointer none, .int .i64 c] w fun e w' => e = .returned (.tuple #[.pointer none, .int .i64 1]) ∧ w' = w := by
  go_enter Tryd.func10, Tryd.ntmps10
  go_wp2_with fail
  go_ret2
  exact ⟨rfl, rfl⟩
theorem pages_NewBad (p : Nat) (c : Int) (w : World) (h : ¬ (1 ≤ c ∧ c ≤ 1024)) : Calls Tryd.prog 10 #[.pointer (some ⟨p, 0, none⟩), .int .i64 c] w fun e w' => e = .returned (.tuple #[.pointer none, .int .i64 2]) ∧ w' = w := by
  by_cases h1 : c < 1
  · go_enter Tryd.func10, Tryd.ntmps10
    go_wp2_with fail
    go_ret2
    exact ⟨rfl, rfl⟩
  · have h2 : 1024 < c := by omega
    have h1 : 1 ≤ c := by omega
    go_enter Tryd.func10, Tryd.ntmps10
    go_wp2_with fail
    go_ret2
    exact ⟨rfl, rfl⟩
theorem pages_New (p : Nat) (c : Int) (w : World) (h1 : 1 ≤ c) (h2 : c ≤ 1024) : Calls Tryd.prog 10 #[.pointer (some ⟨p, 0, none⟩), .int .i64 c] w fun e w' => e = .returned (.tuple #[.pointer (some ⟨w.heap.size, 0, none⟩), .int .i64 0]) ∧ PG w' w.heap.size p c ∧ w'.heap.size = w.heap.size + 1 ∧ Kept w w' := by
  have HWD := hidMk (fun (l : Nat) (hl : l ≤ 5) => pages_width l hl w)
  go_enter Tryd.func10, Tryd.ntmps10
  go_wp2_with fail
  go_loopg [6] 5 (fun g s wr => ∃ k : Nat, k + g = 6 ∧ 1 ≤ k ∧ k ≤ 4 ∧ s = .int .i64 k ∧ Hid (k = 1 ∨ (8 : Int) ^ (k - 1) < c) ∧ wr = w)
  case atStart => exact ⟨1, by omega, by omega, by omega, rfl, hidMk (.inl rfl), rfl⟩
  case round =>
    obtain ⟨k, hkg, hk1, hk4, rfl, HA, rfl⟩ := hrel
    have HKG := hidMk hkg
    have HW := hidMk (HWD.out k (by omega))
    have hb := pow8 k (by omega)
    by_cases hlt : (8 : Int) ^ k < c
    · have hk5 : k < 4 := by
        by_cases e : k = 4
        · subst e; simp at hlt; omega
        · omega
      have HN := hidMk (show k + 1 = 1 ∨ (8 : Int) ^ (k + 1 - 1) < c from .inr (by simpa using hlt))
      generalize (8 : Int) ^ k = z at *
      clear hkg HA
      go_wp2_with fail
      refine HW.out.mono ?_
      rintro e w1 ⟨rfl, hw1⟩
      rw [hw1]
      go_wp2_with fail
      go_roundg (gk - 1)
      case measure => have := HKG.out; omega
      case rel => exact ⟨k + 1, by have := HKG.out; omega, by omega, by omega, by go_num, HN, rfl⟩
    · have HE := hidMk (show k = lvls c from lvls_is (by omega) hk1 hk4 HA.out (by omega))
      generalize (8 : Int) ^ k = z at *
      clear hkg HA
      go_wp2_with fail
      refine HW.out.mono ?_
      rintro e w1 ⟨rfl, hw1⟩
      rw [hw1]
      go_wp2_with fail
      go_ret2
      refine ⟨rfl, ?_, by simp, (Kept.refl _).alloc _⟩
      have r := new_range wr [.pointer (some ⟨p, 0, none⟩), .int .i64 c, .int .i64 k] 72
      rw [HE.out] at r ⊢
      exact ⟨r 0 _ rfl, r 1 _ rfl, r 2 _ rfl, h1, h2⟩
theorem pg_Arena {w : World} {g p : Nat} {codes : Int} (h : PG w g p codes) : Calls Tryd.prog 12 #[.pointer (some ⟨g, 0, none⟩)] w fun e w' => e = .returned (.pointer (some ⟨p, 0, none⟩)) ∧ w' = w := by
  have c0 := h.c0
  go_enter Tryd.func12, Tryd.ntmps12
  go_wp2_with fail
  go_ret
  exact ⟨rfl, rfl⟩
theorem pg_Codes {w : World} {g p : Nat} {codes : Int} (h : PG w g p codes) : Calls Tryd.prog 13 #[.pointer (some ⟨g, 0, none⟩)] w fun e w' => e = .returned (.int .i64 codes) ∧ w' = w := by
  have c0 := h.c1
  go_enter Tryd.func13, Tryd.ntmps13
  go_wp2_with fail
  go_ret
  exact ⟨rfl, rfl⟩
theorem pg_Levels {w : World} {g p : Nat} {codes : Int} (h : PG w g p codes) : Calls Tryd.prog 14 #[.pointer (some ⟨g, 0, none⟩)] w fun e w' => e = .returned (.int .i64 (lvls codes)) ∧ w' = w := by
  have c0 := h.c2
  go_enter Tryd.func14, Tryd.ntmps14
  go_wp2_with fail
  go_ret
  exact ⟨rfl, rfl⟩
theorem r10_Levels (c : Int) (w : World) (h1 : 1 ≤ c) (h2 : c ≤ 1024) : Calls Tryd.prog 15 #[.int .i64 c] w fun e w' => e = .returned (.int .i64 (lvls c)) ∧ w' = w := by
  go_enter Tryd.func15, Tryd.ntmps15
  go_wp2_with fail
  go_loopg [3, 4] 5 (fun g s x wr => ∃ k : Nat, k + g = 6 ∧ 1 ≤ k ∧ k ≤ 4 ∧ s = .int .i64 k ∧ Hid (x = .int .i64 ((8 : Int) ^ k)) ∧ Hid (k = 1 ∨ (8 : Int) ^ (k - 1) < c) ∧ wr = w)
  case atStart => exact ⟨1, by omega, by omega, by omega, rfl, hidMk (by rfl), hidMk (.inl rfl), rfl⟩
  case round =>
    obtain ⟨k, hkg, hk1, hk4, rfl, HX, HA, rfl⟩ := hrel
    have HKG := hidMk hkg
    have hx := HX.out
    subst hx
    have hb := pow8 k (by omega)
    by_cases hlt : (8 : Int) ^ k < c
    · have hk5 : k < 4 := by
        by_cases e : k = 4
        · subst e; simp at hlt; omega
        · omega
      have HN := hidMk (show k + 1 = 1 ∨ (8 : Int) ^ (k + 1 - 1) < c from .inr (by simpa using hlt))
      have HE := hidMk (show (8 : Int) ^ k * 8 = (8 : Int) ^ (k + 1) from (Int.pow_succ _ _).symm)
      generalize (8 : Int) ^ k = z at *
      have hw : wrap64 (z * 8) = z * 8 := wrap_fit (by omega) (by omega)
      have hk20 : (k : Int) < 20 := by omega
      clear hkg HA HX
      go_wp2_with fail
      go_roundg (gk - 1)
      case measure => have := HKG.out; omega
      case rel => exact ⟨k + 1, by have := HKG.out; omega, by omega, by omega, by go_num, hidMk (by rw [← HE.out]), HN, rfl⟩
    · have HE := hidMk (show k = lvls c from lvls_is (by omega) hk1 hk4 HA.out (by omega))
      generalize (8 : Int) ^ k = z at *
      clear hkg HA HX
      go_wp2_with fail
      go_ret
      exact ⟨by rw [← HE.out]; rfl, rfl⟩
theorem r10_digit (c : Int) (l : Nat) (h0 : 0 ≤ c) (hc : c ≤ 1000000) (h1 : 1 ≤ l) (hl : l ≤ 5) (w : World) : Calls Tryd.prog 37 #[.int .i64 c, .int .i64 l] w fun e w' => e = .returned (.int .i64 (dig c l)) ∧ w' = w := by
  have HC := hidMk (And.intro h0 hc)
  clear h0 hc
  go_enter Tryd.func37, Tryd.ntmps37
  go_wp2_with fail
  go_loopg [0, 5] (l + 1) (fun g s x wr => ∃ (k : Nat) (y : Int), k + g = l + 2 ∧ 1 ≤ k ∧ k ≤ l ∧ x = .int .i64 k ∧ s = .int .i64 y ∧ Hid (y = c / (8 : Int) ^ (k - 1)) ∧ wr = w)
  case atStart => exact ⟨1, c, by omega, by omega, by omega, rfl, rfl, hidMk (by simp), rfl⟩
  case round =>
    obtain ⟨k, y, hkg, hk1, hkl, rfl, rfl, HY, rfl⟩ := hrel
    have HKG := hidMk hkg
    have hy0 : 0 ≤ y := by rw [HY.out]; exact Int.ediv_nonneg HC.out.1 (by have := pow8 (k - 1) (by omega); omega)
    have hy1 : y ≤ 1000000 := by rw [HY.out]; exact Int.le_trans (Int.ediv_le_self _ HC.out.1) HC.out.2
    by_cases hk : k < l
    · have hk' : (k : Int) < l := by omega
      have hq : y.tdiv 8 = y / 8 := quo_pos hy0
      have hw : wrap64 (y / 8) = y / 8 := wrap_fit (by omega) (by omega)
      have HN := hidMk (show y / 8 = c / (8 : Int) ^ (k + 1 - 1) from by
        rw [HY.out, Int.ediv_ediv_of_nonneg (by have := pow8 (k - 1) (by omega); omega), show k + 1 - 1 = k - 1 + 1 by omega, Int.pow_succ])
      clear hkg HY
      go_wp2_with fail
      go_roundg (gk - 1)
      case measure => have := HKG.out; omega
      case rel => exact ⟨k + 1, y / 8, by have := HKG.out; omega, by omega, by omega, by go_num, by first | rfl | rw [hw], HN, rfl⟩
    · have hk' : ¬ ((k : Int) < l) := by omega
      have HE := hidMk (show k = l by omega)
      have hm : y.tmod 8 = y % 8 := rem_pos hy0
      have hw : wrap64 (y % 8) = y % 8 := wrap_fit (by omega) (by omega)
      clear hkg
      go_wp2_with fail
      go_ret
      refine ⟨?_, rfl⟩
      unfold dig
      rw [← HE.out, ← HY.out]
      rfl
end Go.Proofs.YtjkbhaplngnniaaDoor
