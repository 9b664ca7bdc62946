/- The library's swapRangeCmpFunc and rotateCmpFunc at a row of ints. -/
import Derived.Test.YtldfnlkineehbaaChecked
import Derived.Test.YtldfnlkineehbaaSortMath
import Derived.BigRegion
import Derived.BigQuiet
import Derived.Deep.QuietTactic
import Derived.WalkSmall
namespace Go.Proofs.Ytldfnlkineehbaa
open Go.RowKit
set_option linter.unusedSimpArgs false
set_option linter.unusedVariables false

/-- The row of a call's own: block B holds d; all that lies below B is as in w0. -/
structure AW (w0 : World) (B n : Nat) (d : Nat → Int) (w : World) : Prop where
  below : Below B w0 w
  lt : B < w.heap.size
  cell : ∀ i, i < n → w.cell? ⟨B, i, none⟩ = some (.int .i64 (d i))
  fr : ∀ i, i < n → w.frozen? ⟨B, i, none⟩ = false
theorem AW.drewN {w0 : World} {B n : Nat} {d : Nat → Int} {w : World} (h : AW w0 B n d w) (q : Nat) : AW w0 B n d (w.drewN q) := ⟨below_drewN h.below q, h.lt, h.cell, h.fr⟩
theorem AW.drew {w0 : World} {B n : Nat} {d : Nat → Int} {w : World} (h : AW w0 B n d w) : AW w0 B n d w.drew := ⟨h.below.drew, h.lt, h.cell, h.fr⟩
theorem AW.eqv {w0 : World} {B n : Nat} {d e : Nat → Int} {w : World} (h : AW w0 B n d w) (he : ∀ i, i < n → e i = d i) : AW w0 B n e w := ⟨h.below, h.lt, fun i hi => by rw [he i hi]; exact h.cell i hi, h.fr⟩
theorem AW.set {w0 : World} {B n : Nat} {d : Nat → Int} {w : World} (h : AW w0 B n d w) (k : Nat) (hk : k < n) (x : Int) : AW w0 B n (fun i => if i = k then x else d i) (w.setCell ⟨B, k, none⟩ (.int .i64 x)) := by
  refine ⟨h.below.setCell (Nat.le_refl _) _, by simpa [World.setCell] using h.lt, fun i hi => ?_, fun i hi => by simpa using h.fr i hi⟩
  by_cases e : i = k
  · subst e
    rw [if_pos rfl]
    exact World.cell?_setCell_same _ _ _ (h.cell i hi)
  · rw [if_neg e]
    exact (World.cell?_setCell_other _ _ _ _ (by intro e'; simp only [Addr.mk.injEq] at e'; omega)).trans (h.cell i hi)

def swp (d : Nat → Int) (i j : Nat) : Nat → Int := fun k => if k = j then d i else if k = i then d j else d k
theorem AW.swap {w0 : World} {B n : Nat} {d : Nat → Int} {w : World} (h : AW w0 B n d w) (i j : Nat) (hi : i < n) (hj : j < n) : AW w0 B n (swp d i j) ((w.setCell ⟨B, i, none⟩ (.int .i64 (d j))).setCell ⟨B, j, none⟩ (.int .i64 (d i))) :=
  ((h.set i hi (d j)).set j hj (d i)).eqv fun k hk => rfl

theorem swapR_step (d : Nat → Int) (a b k : Nat) (h : a + k < b) : swp (swapR d a b k) (a + k) (b + k) = swapR d a b (k + 1) := by
  funext x
  unfold swp swapR
  repeat' split
  all_goals first | rfl | (exfalso; omega) | (congr 1; omega)

theorem swapRange (w0 : World) (B n a b k : Nat) (d : Nat → Int) (g : Value) (w : World) (h : AW w0 B n d w) (hab : a + k ≤ b) (hb : b + k ≤ n) (hn : n ≤ 1000000) :
    Calls Try.prog 55 #[.slice (some ⟨B, 0, none⟩) n n, .int .i64 a, .int .i64 b, .int .i64 k, g] w fun e w' => e = .returned (.tuple #[]) ∧ AW w0 B n (swapR d a b k) w' := by
  go_enter Try.func55, Try.ntmps55
  go_wp2
  go_loopw [10] (fun i wr => ∃ j : Nat, j ≤ k ∧ i = .int .i64 j ∧ AW w0 B n (swapR d a b j) wr) (fun i _ => k - (intOf i).toNat)
  case atStart => exact ⟨0, Nat.zero_le _, rfl, h.eqv fun i hi => by unfold swapR; rw [if_neg (by omega), if_neg (by omega)]⟩
  case round =>
    obtain ⟨j, hj, rfl, hw⟩ := hrel
    by_cases hlt : j < k
    · have c1 := hw.cell (a + j) (by omega)
      have c2 := hw.cell (b + j) (by omega)
      have f1 := hw.fr (a + j) (by omega)
      have f2 := hw.fr (b + j) (by omega)
      have S := hidMk ((hw.swap (a + j) (b + j) (by omega) (by omega)).drew)
      rw [swapR_step d a b j (by omega)] at S
      generalize swapR d a b j (a + j) = x at *
      generalize swapR d a b j (b + j) = y at *
      clear hw h
      go_wp2
      go_region
      go_wp2
      exact ⟨⟨j + 1, by omega, by go_num, S.out⟩, by simp [intOf]; omega⟩
    · go_wp2
      go_end0
      have e : j = k := by omega
      subst e
      exact ⟨rfl, hw⟩

theorem swapRangeI (w0 : World) (B n a b k : Nat) (A C E : Int) (d : Nat → Int) (g : Value) (w : World) (h : AW w0 B n d w) (hab : a + k ≤ b) (hb : b + k ≤ n) (hn : n ≤ 1000000) (e1 : A = a) (e2 : C = b) (e3 : E = k) :
    Calls Try.prog 55 #[.slice (some ⟨B, 0, none⟩) n n, .int .i64 A, .int .i64 C, .int .i64 E, g] w fun e w' => e = .returned (.tuple #[]) ∧ AW w0 B n (swapR d a b k) w' := by
  subst e1 e2 e3
  exact swapRange w0 B n a b k d g w h hab hb hn

theorem rotate (w0 : World) (B n a m b : Nat) (d : Nat → Int) (g : Value) (w : World) (h : AW w0 B n d w) (ham : a < m) (hmb : m < b) (hb : b ≤ n) (hn : n ≤ 1000000) :
    Calls Try.prog 54 #[.slice (some ⟨B, 0, none⟩) n n, .int .i64 a, .int .i64 m, .int .i64 b, g] w fun e w' => e = .returned (.tuple #[]) ∧ AW w0 B n (rot d a m b) w' := by
  go_enter Try.func54, Try.ntmps54
  go_wp2_with fail
  go_loopw [10, 11] (fun x y wr => ∃ i j : Nat, ∃ e : Nat → Int, 0 < i ∧ 0 < j ∧ i ≤ m ∧ m + j ≤ n ∧ x = .int .i64 i ∧ y = .int .i64 j ∧ rot e (m - i) m (m + j) = rot d a m b ∧ AW w0 B n e wr) (fun x y _ => (intOf x).toNat + (intOf y).toNat)
  case atStart =>
    refine ⟨m - a, b - m, d, by omega, by omega, by omega, by omega, by congr 1; omega, by congr 1; omega, ?_, h⟩
    rw [show m - (m - a) = a by omega, show m + (b - m) = b by omega]
  case round =>
    obtain ⟨i, j, e, hi, hj, him, hjn, rfl, rfl, hrot, hw⟩ := hrel
    have HR := hidMk hrot
    clear hrot
    rcases Nat.lt_trichotomy i j with hij | hij | hij
    · have hne : (((i : Int) != (j : Int)) = true) := by rw [bne_iff_ne]; omega
      go_wp2_with fail
      refine (swapRangeI w0 B n (m - i) (m + j - i) i _ _ _ e g wr hw (by omega) (by omega) hn (by omega) (by omega) rfl).mono ?_
      rintro e1 w1 ⟨rfl, hw1⟩
      go_wp2_with fail
      exact ⟨⟨i, j - i, _, hi, by omega, him, by omega, rfl, by congr 1; omega, (rot_right e m i j hi hij him).trans HR.out, hw1⟩, by simp [intOf]; omega⟩
    · subst hij
      have hne : (((i : Int) != (i : Int)) = false) := by simp
      go_wp2_with fail
      refine (swapRangeI w0 B n (m - i) m i _ _ _ e g wr hw (by omega) (by omega) hn (by omega) rfl rfl).mono ?_
      rintro e1 w1 ⟨rfl, hw1⟩
      rw [rot_end e m i hi him, HR.out] at hw1
      go_wp2_with fail
      go_end0
      exact ⟨rfl, hw1⟩
    · have hne : (((i : Int) != (j : Int)) = true) := by rw [bne_iff_ne]; omega
      go_wp2_with fail
      refine (swapRangeI w0 B n (m - i) m j _ _ _ e g wr hw (by omega) (by omega) hn (by omega) rfl rfl).mono ?_
      rintro e1 w1 ⟨rfl, hw1⟩
      go_wp2_with fail
      exact ⟨⟨i - j, j, _, by omega, hj, by omega, hjn, by congr 1; omega, rfl, (rot_left e m i j hj hij him).trans HR.out, hw1⟩, by simp [intOf]; omega⟩
end Go.Proofs.Ytldfnlkineehbaa
