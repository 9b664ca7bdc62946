/- The definition's arena in memory: New, Is, Used. -/
import Derived.Test.YtjkbhaplngnniaaDoorAr14
namespace Go.Proofs.YtjkbhaplngnniaaDoor
open Go.RowKit Go.Maps
set_option linter.unusedSimpArgs false
set_option linter.unusedVariables false

/-- How often each is asked for, from the place 0 on. -/
def nL (rf : Int → Nat) (n : Nat) : List Int := (List.range (n + 1)).map fun i => ((rf (i : Nat) : Nat) : Int)
theorem nL_len (rf : Int → Nat) (n : Nat) : (nL rf n).length = n + 1 := by simp [nL]
theorem nL_get (rf : Int → Nat) (n : Nat) {i : Nat} (h : i ≤ n) : (nL rf n).getD i 0 = (rf i : Int) := by
  unfold nL
  rw [List.getD_eq_getElem?_getD, List.getElem?_map, List.getElem?_range (by omega)]
  rfl
/-- The definition's arena in block q: its nodes in block bL, how often each is asked for in block bN. -/
structure RQ (w : World) (B q : Nat) (most : Int) (n : Nat) (rf : Int → Nat) (nd : Int → ANd) (M bL bN cL cN : Nat) (xs : List Value) : Prop where
  c0 : w.cell? ⟨q, 0, none⟩ = some (.int .i64 most)
  c1 : w.cell? ⟨q, 1, none⟩ = some (.slice (some ⟨bL, 0, none⟩) (n + 1) cL)
  c2 : w.cell? ⟨q, 2, none⟩ = some (.slice (some ⟨bN, 0, none⟩) (n + 1) cN)
  fz : ∀ j, w.frozen? ⟨q, j, none⟩ = false
  ownL : w.ownsRow B 86 25 (.slice (some ⟨bL, 0, none⟩) (n + 1) cL) (n + 1) xs
  ownN : OwnI w B (.slice (some ⟨bN, 0, none⟩) (n + 1) cN) (nL rf n)
  nodes : ∀ i : Nat, 1 ≤ i → i ≤ n → rf i ≠ 0 → ∀ j, j < 25 → xs[25 * i + j]? = (ndL (nd i))[j]?
  ok : RfOk n rf
  kok : ∀ i, (nd i).kids.length = 8 ∧ (nd i).vals.length = 8
  low : B ≤ q
  nm : n ≤ 20000
  rb : ∀ i, rf i ≤ M
  Mb : M ≤ 4611686018427387904
  d1 : bL ≠ q
  d2 : bN ≠ q
  d3 : bL ≠ bN
section
variable {w : World} {B q : Nat} {most : Int} {n : Nat} {rf : Int → Nat} {nd : Int → ANd} {M bL bN cL cN : Nat} {xs : List Value}
theorem RQ.count (h : RQ w B q most n rf nd M bL bN cL cN xs) {i : Nat} (hi : i ≤ n) : w.cell? ⟨bN, i, none⟩ = some (.int .i64 (rf i)) := by
  have hl := nL_len rf n
  obtain ⟨a, c, e, hs⟩ := h.ownN.sl (by have := h.nm; unfold maxLen; omega)
  rw [hl] at e hs
  cases e
  obtain ⟨b, o, e1, _, h3⟩ := hs.cells (by omega)
  cases e1
  have := h3 i (by omega)
  rw [Nat.zero_add, nL_get rf n hi] at this
  exact this
theorem RQ.chg {S : Nat → Prop} {y : World} (h : RQ w B q most n rf nd M bL bN cL cN xs) (g : Chg S w y) (hq : ¬ S q) (hL : ¬ S bL) (hN : ¬ S bN) : RQ y B q most n rf nd M bL bN cL cN xs := by
  refine ⟨g.cellp h.c0 hq, g.cellp h.c1 hq, g.cellp h.c2 hq, fun j => (g.frozen (p := ⟨q, j, none⟩) (show q < w.heap.size from cell_lt h.c0) hq).trans (h.fz j), ?_, h.ownN.chg g (fun k e => by cases e; exact hN), h.nodes, h.ok, h.kok, h.low, h.nm, h.rb, h.Mb, h.d1, h.d2, h.d3⟩
  have hlt := World.ownsRow.lt h.ownL
  obtain ⟨h0, ⟨h1, _⟩ | ⟨k, cap, cur, hv, hb', hh, r⟩⟩ := h.ownL
  · cases h1
  · cases hv
    refine ⟨h0, .inr ⟨bL, _, cur, rfl, hb', ?_, r⟩⟩
    rw [g.block bL (hlt bL rfl).2 hL]
    exact hh
theorem RQ.kept {y : World} (h : RQ w B q most n rf nd M bL bN cL cN xs) (g : Kept w y) : RQ y B q most n rf nd M bL bN cL cN xs := h.chg (S := fun _ => False) (Chg.of_kept g) (fun e => e) (fun e => e) (fun e => e)
theorem r9_Is (h : RQ w B q most n rf nd M bL bN cL cN xs) (i : Int) : Calls Tryd.prog 48 #[.pointer (some ⟨q, 0, none⟩), .int .i64 i] w fun e w' => e = .returned (.bool (decide (rf i ≠ 0))) ∧ w' = w := by
  have h1 := h.c1
  have h2 := h.c2
  have hn := h.nm
  by_cases ha : 0 < i
  · by_cases hb : i < ((n + 1 : Nat) : Int)
    · obtain ⟨k, rfl⟩ : ∃ k : Nat, i = (k : Int) := ⟨i.toNat, by omega⟩
      have hc := h.count (i := k) (by omega)
      have hb' : (k : Int) < (n : Int) + 1 := by omega
      by_cases hz : rf k = 0
      · rw [hz] at hc
        have hd : decide (rf k ≠ 0) = false := by simp [hz]
        rw [hd]
        clear h hz hd hb
        go_enter Tryd.func48, Tryd.ntmps48
        go_wp2_with fail
        go_ret
        exact ⟨rfl, rfl⟩
      · have hd : decide (rf k ≠ 0) = true := by simp [hz]
        rw [hd]
        have hp : (0 : Int) < (rf k : Int) := by omega
        generalize rf k = x at hc hp
        have hp2 : 0 < x := by omega
        clear h hz hd hb
        go_enter Tryd.func48, Tryd.ntmps48
        go_wp2_with fail
        go_ret
        exact ⟨rfl, rfl⟩
    · have hd : decide (rf i ≠ 0) = false := by simp [h.ok i (by omega)]
      rw [hd]
      have hb' : ¬ (i < (n : Int) + 1) := by omega
      clear h hd hb
      go_enter Tryd.func48, Tryd.ntmps48
      go_wp2_with fail
      go_ret
      exact ⟨rfl, rfl⟩
  · have hd : decide (rf i ≠ 0) = false := by simp [h.ok i (by omega)]
    rw [hd]
    clear h hd
    go_enter Tryd.func48, Tryd.ntmps48
    go_wp2_with fail
    go_ret
    exact ⟨rfl, rfl⟩
theorem r9_Used (h : RQ w B q most n rf nd M bL bN cL cN xs) : Calls Tryd.prog 19 #[.pointer (some ⟨q, 0, none⟩)] w fun e w' => e = .returned (.int .i64 (usd rf n)) ∧ w' = w := by
  have h2 := h.c2
  have hn := h.nm
  have hz : rf 0 = 0 := h.ok 0 (by omega)
  have HC := hidMk (fun i (hi : i ≤ n) => h.count (i := i) hi)
  have HZ := hidMk hz
  clear h hz
  go_enter Tryd.func19, Tryd.ntmps19
  go_wp2_with fail
  go_loopg [3, 4] (n + 2) (fun g s x wr => ∃ k : Nat, k + g = n + 2 ∧ k ≤ n + 1 ∧ x = .int .i64 k ∧ s = .int .i64 (usd rf (k - 1)) ∧ wr = w)
  case atStart => exact ⟨0, by omega, by omega, rfl, rfl, rfl⟩
  case round =>
    obtain ⟨k, hkg, hkn, rfl, rfl, rfl⟩ := hrel
    have HKG := hidMk hkg
    by_cases hk : k ≤ n
    · have hc := HC.out k hk
      have hk' : (k : Int) < (n : Int) + 1 := by omega
      have hu : usd rf (k - 1) ≤ k := Nat.le_trans (usd_le _ _) (by omega)
      by_cases hr : rf k = 0
      · have HU := hidMk (show usd rf (k + 1 - 1) = usd rf (k - 1) from by
          cases k with
          | zero => rfl
          | succ k =>
            show usd rf (k + 1) = usd rf k
            have : usd rf (k + 1) = usd rf k + if rf (k + 1 : Nat) = 0 then 0 else 1 := rfl
            rw [this, if_pos hr]
            omega)
        rw [hr] at hc
        clear hkg hr hu
        go_wp2_with fail
        go_roundg (gk - 1)
        case measure => have := HKG.out; omega
        case rel => exact ⟨k + 1, by have := HKG.out; omega, by omega, by go_num, by rw [HU.out], rfl⟩
      · have hk0 : 1 ≤ k := by
          cases k with
          | zero => exact absurd HZ.out hr
          | succ k => omega
        have HU := hidMk (show usd rf (k + 1 - 1) = usd rf (k - 1) + 1 from by
          obtain ⟨m, rfl⟩ : ∃ m, k = m + 1 := ⟨k - 1, by omega⟩
          show usd rf (m + 1) = usd rf m + 1
          have : usd rf (m + 1) = usd rf m + if rf (m + 1 : Nat) = 0 then 0 else 1 := rfl
          rw [this, if_neg hr])
        have hp : (0 : Int) < (rf k : Int) := by omega
        generalize rf k = y at hc hp
        generalize usd rf (k - 1) = U at *
        have hw : wrap64 ((U : Int) + 1) = (U : Int) + 1 := by unfold wrap64; omega
        clear hkg hr
        go_wp2_with fail
        go_roundg (gk - 1)
        case measure => have := HKG.out; omega
        case rel => exact ⟨k + 1, by have := HKG.out; omega, by omega, by go_num, by rw [HU.out]; go_num, rfl⟩
    · have hk' : ¬ ((k : Int) < (n : Int) + 1) := by omega
      have HU := hidMk (show k - 1 = n by omega)
      clear hkg hk
      go_wp2_with fail
      go_ret
      exact ⟨by rw [HU.out]; rfl, rfl⟩
end
end Go.Proofs.YtjkbhaplngnniaaDoor
