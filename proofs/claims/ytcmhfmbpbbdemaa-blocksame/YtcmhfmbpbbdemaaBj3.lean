/- Both files: blocks one by one, texts that are not the same. -/
import Derived.Test.YtcmhfmbpbbdemaaBj2
namespace Go.Proofs.Ytcmhfmbpbbdemaa
open Go.RowKit Go.Maps
set_option linter.unusedSimpArgs false
set_option linter.unusedVariables false

theorem wrS_wr2 {s : Bf} {N : Nat} {n : Int} {l : List Int} {k : Int} (h : Ok s) (hk : s.wr ≤ k) : (wrS s N n l).wr ≤ k + 1 := by have := (wrS_ok (N := N) (n := n) (l := l) h).2; omega
theorem all_next (A C : Nat → List Int) (k : Nat) : ((∀ j, j < k → A j = C j) → decide (∀ j, j < k + 1 → A j = C j) = decide (A k = C k)) ∧ (¬ (∀ j, j < k → A j = C j) → decide (∀ j, j < k + 1 → A j = C j) = false) := by
  constructor
  · intro h
    rw [decide_eq_decide]
    exact ⟨fun q => q k (by omega), fun q j hj => by
      by_cases e : j = k
      · subst e; exact q
      · exact h j (by omega)⟩
  · intro h
    exact decide_eq_false fun q => h fun j hj => q j (by omega)
theorem all_blk {F G : List Int} {n : Nat} (hn : n = 4) (h1 : F.length = 4 * 32) (h2 : G.length = 4 * 32) : decide (∀ j, j < n → blk F j = blk G j) = decide (F = G) := by
  subst hn
  rw [decide_eq_decide]
  refine ⟨fun h => ext_getD (by omega) fun i hi => ?_, fun e j _ => by rw [e]⟩
  have h3 := h (i / 32) (by omega)
  have e1 := blk_getD (F := F) (i := i / 32) (j := i % 32) (by omega)
  have e2 := blk_getD (F := G) (i := i / 32) (j := i % 32) (by omega)
  rw [show i / 32 * 32 + i % 32 = i by omega] at e1 e2
  rw [← e1, ← e2, h3]
theorem ba_ne {x y : ByteArray} (h : x ≠ y) : (x == y) = false := by
  cases x with
  | mk a =>
    cases y with
    | mk b =>
      show (a == b) = false
      have h2 : a ≠ b := fun e => h (by rw [e])
      simpa using h2
end Go.Proofs.Ytcmhfmbpbbdemaa
