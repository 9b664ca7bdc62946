/- The definition's Same, and the fixed calls of the laws of layer 2. -/
import Derived.Test.YtldfnlkineehbaaShare4
namespace Go.Proofs.Ytldfnlkineehbaa
open Go.RowKit
set_option linter.unusedSimpArgs false
set_option linter.unusedVariables false

theorem ref_Same_yes (a b : Option Addr) (len ca cb : Nat) (l : List Int) (w : World) (h1 : Sl .u64 w a len l) (h2 : Sl .u64 w b len l) :
    Calls Try.prog 32 #[.slice a len ca, .slice b len cb] w fun e w' => e = .returned (.bool true) ∧ Kept w w' := by
  have hbig := h1.big
  unfold maxLen at hbig
  have hne : (((len : Int) != (len : Int)) = false) := by simp
  go_enter Try.func32, Try.ntmps32
  go_wp2
  go_loopw [5] (fun x wr => ∃ k q : Nat, k ≤ len ∧ x = .int .i64 k ∧ wr = w.drewN q) (fun x _ => len - (intOf x).toNat)
  case atStart => exact ⟨0, 0, Nat.zero_le _, rfl, rfl⟩
  case round =>
    obtain ⟨k, q, hk, rfl, rfl⟩ := hrel
    by_cases hlt : k < len
    · obtain ⟨b1, o1, rfl, hb1, hc1⟩ := h1.cells (by omega)
      obtain ⟨b2, o2, rfl, hb2, hc2⟩ := h2.cells (by omega)
      have c1 := hc1 k hlt
      have c2 := hc2 k hlt
      have h3 : (k : Int) < (len : Int) := by omega
      generalize l.getD k 0 = x at *
      have hx : ((x != x) = false) := by simp
      clear hc1 hc2 h1 h2
      go_wp2
      go_quiet (fail)
      go_wp2
      exact ⟨⟨k + 1, q + nq, by omega, by go_num, by simp⟩, by simp [intOf]; omega⟩
    · go_wp2
      go_ret
      exact ⟨rfl, below_drewN (Below.refl _ _) _⟩

theorem sl_lit {w : World} {x y z : Int} : Sl .u64 (w.alloc (.cells #[.int .u64 x, .int .u64 y, .int .u64 z] 28)) (some ⟨w.heap.size, 0, none⟩) 3 [x, y, z] := sl_new .u64 w [x, y, z] 28 (by simp [maxLen])
theorem known_one : lst 3 (partF 10 3 [1, 1, 1] (keyR 10 3 [1, 1, 1])) = [4, 3, 3] := by decide +kernel
theorem known_two : lst 3 (partF 5 7 [2, 3, 2] (keyR 5 7 [2, 3, 2])) = [2, 2, 1] := by decide +kernel

theorem law2_known (w : World) :
    Calls Try.prog 29 #[] w fun e w' => e = .returned (.bool true) ∧ Kept w w' := by
  have u3 : ∀ x y z : Int, isU x → isU y → isU z → ∀ v ∈ [x, y, z], isU v := by
    intro x y z hx hy hz v hv
    simp at hv
    rcases hv with rfl | rfl | rfl <;> assumption
  have A := hidMk (fun w : World => share_Split_ok 10 3 _ 3 3 [1, 1, 1] _ (sl_lit (w := w)) (u3 1 1 1 (by unfold isU; omega) (by unfold isU; omega) (by unfold isU; omega)) (by omega) (by omega) (by unfold isU; omega) (by decide) (by omega) (by omega))
  have B := hidMk (fun w : World => share_Split_ok 5 7 _ 3 3 [2, 3, 2] _ (sl_lit (w := w)) (u3 2 3 2 (by unfold isU; omega) (by unfold isU; omega) (by unfold isU; omega)) (by omega) (by omega) (by unfold isU; omega) (by decide) (by omega) (by omega))
  clear u3
  go_enter Try.func29, Try.ntmps29
  go_wp2_with fail
  refine (A.out _).mono ?_
  rintro e w1 ⟨P, hP, rfl, hp, k1, _⟩
  have hp1 := hidMk hp
  have K1 := hidMk (((Kept.refl w).alloc _).trans k1)
  clear hp k1
  go_wp2_with fail
  refine (B.out _).mono ?_
  rintro e w2 ⟨Q, hQ, rfl, hq, k2, _⟩
  have k12 := ((Kept.refl w1).alloc _).trans k2
  have hq1 := hidMk hq
  have hp2 := hidMk (hp1.out.kept k12)
  have K2 := hidMk (K1.out.trans k12)
  clear hq k2 k12 hp1 K1
  go_wp2_with fail
  refine (ref_Same_yes _ _ 3 _ _ [4, 3, 3] _ (known_one ▸ ((hp2.out.kept ((Kept.refl _).alloc _)).sl (by simp [maxLen]))) sl_lit).mono ?_
  rintro e w3 ⟨rfl, k3⟩
  have k23 := ((Kept.refl w2).alloc _).trans k3
  have hq3 := hidMk (hq1.out.kept k23)
  have K3 := hidMk (K2.out.trans k23)
  clear k3 k23 hq1 K2 hp2
  go_wp2_with fail
  refine (ref_Same_yes _ _ 3 _ _ [2, 2, 1] _ (known_two ▸ ((hq3.out.kept ((Kept.refl _).alloc _)).sl (by simp [maxLen]))) sl_lit).mono ?_
  rintro e w4 ⟨rfl, k4⟩
  go_wp2_with fail
  go_ret
  exact ⟨rfl, K3.out.trans (((Kept.refl w3).alloc _).trans k4)⟩
end Go.Proofs.Ytldfnlkineehbaa
