/- law09.same: an arena of the program's and one of the definition's that have the same nodes are told to be alike. -/
import Derived.Test.YtjkbhaplngnniaaDoorRefAr5
import Derived.Deep.CutRange
import Derived.Deep.RegionHeld3
namespace Go.Proofs.YtjkbhaplngnniaaDoor
open Go.RowKit Go.Maps
set_option linter.unusedSimpArgs false
set_option linter.unusedVariables false

theorem nd_parts9 {W : World} {b o : Nat} {y : ANd} (hk : y.kids.length = 8) (h : W.rangeAt b o (ndL y)) : W.cell? ⟨b, o, none⟩ = some (.bool y.leaf) ∧ W.rangeAt b (o + 1) (kdV y.kids) ∧ W.rangeAt b (o + 9) (enV y.vals) := by
  refine ⟨?_, range_drop h 1 _ (ndL_kids y), range_drop h 9 _ (ndL_vals y hk)⟩
  have := h 0 (.bool y.leaf) rfl
  simpa using this
section
variable {w0 w : World} {B p q : Nat} {ow : Option Nat} {most : Int} {n : Nat} {rf : Int → Nat} {nd : Int → ANd} {M M2 bL bN cL cN : Nat} {xs : List Value}
theorem RQ.node (h : RQ w B q most n rf nd M bL bN cL cN xs) {i : Nat} (h1 : 1 ≤ i) (hi : i ≤ n) (hz : rf i ≠ 0) : w.rangeAt bL (i * 25) (ndL (nd i)) := by
  intro j v hv
  have hlen := ndL_len (nd i) (h.kok i).1 (h.kok i).2
  have hj : j < 25 := by have := (List.getElem?_eq_some_iff.1 hv).1; omega
  rw [h.ownL.cellAt (i * 25 + j) (by omega), show i * 25 + j = 25 * i + j by omega, h.nodes i h1 hi hz j hj]
  exact hv
end
end Go.Proofs.YtjkbhaplngnniaaDoor
