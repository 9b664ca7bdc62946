/- The definition's arena: what Make writes, step by step. -/
import Derived.Test.YtimnbbpiapjfhaaDoorRefAr3
namespace Go.Proofs.YtimnbbpiapjfhaaDoor
open Go.RowKit Go.Maps
set_option linter.unusedSimpArgs false
set_option linter.unusedVariables false

theorem nL_succ (rf : Int → Nat) (n : Nat) : nL rf (n + 1) = nL rf n ++ [(rf ((n + 1 : Nat) : Int) : Int)] := by
  unfold nL
  rw [List.range_succ, List.map_append]
  rfl
section
variable {w : World} {B q : Nat} {most : Int} {n : Nat} {rf : Int → Nat} {nd : Int → ANd} {M bL bN cL cN : Nat} {xs : List Value}
/-- A node is put into a free place. -/
theorem RQ.putL (h : RQ w B q most n rf nd M bL bN cL cN xs) {i : Nat} (h1 : 1 ≤ i) (hi : i ≤ n) (hz : rf i = 0) (x : ANd) (hk : x.kids.length = 8 ∧ x.vals.length = 8) :
    RQ (w.setCells bL (i * 25) (ndL x)) B q most n rf (updN nd (i : Nat) x) M bL bN cL cN (setL xs (i * 25) (ndL x)) ∧ (∀ j, j < 25 → (setL xs (i * 25) (ndL x))[25 * i + j]? = (ndL x)[j]?) ∧ Chg (fun j => j = bL) w (w.setCells bL (i * 25) (ndL x)) := by
  have c : Chg (fun j => j = bL) w (w.setCells bL (i * 25) (ndL x)) := chg_setCells (S := fun j => j = bL) rfl _ _ (Chg.refl _ w)
  have hlen : (ndL x).length = 25 := ndL_len x hk.1 hk.2
  have hxs : xs.length = (n + 1) * 25 := h.ownL.1
  refine ⟨⟨c.cellp h.c0 (fun e => h.d1 e.symm), c.cellp h.c1 (fun e => h.d1 e.symm), c.cellp h.c2 (fun e => h.d1 e.symm), fun j => (c.frozen (p := ⟨q, j, none⟩) (show q < w.heap.size from cell_lt h.c0) (fun e => h.d1 e.symm)).trans (h.fz j), own_setL _ _ h.ownL, h.ownN.chg c (fun k e => by cases e; exact fun e' => h.d3 e'.symm), fun k g1 g2 g3 j hj => ?_, h.ok, fun k => ?_, h.low, h.nm, h.rb, h.Mb, h.d1, h.d2, h.d3⟩, fun j hj => ?_, c⟩
  · have hne : k ≠ i := fun e => g3 (by rw [e]; exact hz)
    rw [setL_out _ _ _ _ (by rw [hlen]; omega), h.nodes k g1 g2 g3 j hj]
    unfold updN
    rw [if_neg (by omega)]
  · unfold updN; split
    · exact hk
    · exact h.kok k
  · rw [show 25 * i + j = i * 25 + j by omega, setL_in _ _ _ _ (by omega) (by omega)]
/-- It is asked for once. -/
theorem RQ.setOne (h : RQ w B q most n rf nd M bL bN cL cN xs) {i : Nat} (h1 : 1 ≤ i) (hi : i ≤ n) (v : Nat) (hx : ∀ j, j < 25 → xs[25 * i + j]? = (ndL (nd i))[j]?) {M' : Nat} (hM : M ≤ M') (hv' : v ≤ M') (hM' : M' ≤ 4611686018427387904) :
    RQ (w.setCell ⟨bN, i, none⟩ (.int .i64 v)) B q most n (setR rf (i : Nat) v) nd M' bL bN cL cN xs ∧ Chg (fun j => j = bN) w (w.setCell ⟨bN, i, none⟩ (.int .i64 v)) := by
  obtain ⟨s1, s2⟩ := h.setN h1 hi 0 (fun e => absurd rfl e) (M' := M') hM (Nat.zero_le _) hM'
  have c : Chg (fun j => j = bN) w (w.setCell ⟨bN, i, none⟩ (.int .i64 v)) := chg_setCells (S := fun j => j = bN) rfl [.int .i64 v] i (Chg.refl _ w)
  have nq : ¬ (q = bN) := fun e => h.d2 e.symm
  refine ⟨⟨c.cellp h.c0 nq, c.cellp h.c1 nq, c.cellp h.c2 nq, fun j => (c.frozen (p := ⟨q, j, none⟩) (show q < w.heap.size from cell_lt h.c0) nq).trans (h.fz j), ?_, ?_, fun k g1 g2 g3 => ?_, fun k hk => ?_, h.kok, h.low, h.nm, fun k => ?_, hM', h.d1, h.d2, h.d3⟩, c⟩
  · have hlt := World.ownsRow.lt h.ownL
    obtain ⟨h0, ⟨h1, _⟩ | ⟨k, cap, cur, hv, hb', hh, r⟩⟩ := h.ownL
    · cases h1
    · cases hv
      refine ⟨h0, .inr ⟨bL, _, cur, rfl, hb', ?_, r⟩⟩
      rw [c.block bL (hlt bL rfl).2 h.d3]
      exact hh
  · have ho := h.ownN
    unfold OwnI at ho ⊢
    rw [nL_len] at ho ⊢
    have := own_setL [.int .i64 (v : Int)] i ho
    rw [nL_set rf n hi v, List.map_set]
    exact this
  · by_cases e : k = i
    · subst e; exact hx
    · rw [setR_other _ _ (by omega)] at g3; exact h.nodes k g1 g2 g3
  · rw [setR_other _ _ (by omega)]; exact h.ok k hk
  · unfold setR; split
    · exact hv'
    · exact Nat.le_trans (h.rb k) hM
/-- A place more: what both rows say then. -/
theorem RQ.grow {w' : World} {bL' bN' cL' cN' : Nat} (h : RQ w B q most n rf nd M bL bN cL cN xs) (hn : n < 20000)
    (c0 : w'.cell? ⟨q, 0, none⟩ = some (.int .i64 most)) (c1 : w'.cell? ⟨q, 1, none⟩ = some (.slice (some ⟨bL', 0, none⟩) (n + 1 + 1) cL')) (c2 : w'.cell? ⟨q, 2, none⟩ = some (.slice (some ⟨bN', 0, none⟩) (n + 1 + 1) cN')) (fz : ∀ j, w'.frozen? ⟨q, j, none⟩ = false)
    (ownL : w'.ownsRow B 86 25 (.slice (some ⟨bL', 0, none⟩) (n + 1 + 1) cL') (n + 1 + 1) (xs ++ ndL zNd)) (ownN : OwnI w' B (.slice (some ⟨bN', 0, none⟩) (n + 1 + 1) cN') (nL rf n ++ [0])) (d1 : bL' ≠ q) (d2 : bN' ≠ q) (d3 : bL' ≠ bN') :
    RQ w' B q most (n + 1) rf nd M bL' bN' cL' cN' (xs ++ ndL zNd) := by
  have hz : rf ((n + 1 : Nat) : Int) = 0 := h.ok _ (by omega)
  have hxs : xs.length = (n + 1) * 25 := h.ownL.1
  refine ⟨c0, c1, c2, fz, ownL, ?_, fun k g1 g2 g3 j hj => ?_, fun k hk => h.ok k (by omega), h.kok, h.low, by omega, h.rb, h.Mb, d1, d2, d3⟩
  · rw [nL_succ, hz]; exact ownN
  · have hkn : k ≤ n := by
      by_cases e : k = n + 1
      · subst e; exact absurd hz g3
      · omega
    rw [List.getElem?_append_left (by omega)]
    exact h.nodes k g1 hkn g3 j hj
end
end Go.Proofs.YtimnbbpiapjfhaaDoor
