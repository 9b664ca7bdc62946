/- A slice of cells that came in, as the frame reads it. · coord: what the frames of the rows want. -/
import Derived.Test.YtmedgkccicbieaaGreatPHoldCB
import Derived.Test.YtmedgkccicbieaaGreatPCatOpen
import Derived.Test.YtmedgkccicbieaaGreatPLawCo2
namespace Go.Proofs.YtmedgkccicbieaaGreat
open Go.RowKit Go.Maps
set_option linter.unusedSimpArgs false
set_option linter.unusedVariables false

section
variable {H : Type} {enc : TypeId × Value → H} {w : World} {base : Nat} {spare : Nat → Bool} {held : Bool} {fuel : Nat} {x : DataW H × List MemPlace}
set_option maxRecDepth 100000 in
theorem cl_cells {cs : List Value} (hl : cs.length = 5) (h : DataW.trod enc Tryz.prog w base spare held fuel 29 cs = some x) : ∃ y : Cl, cs = clF y := by
  obtain ⟨c0, c1, c2, c3, c4, rfl⟩ : ∃ c0 c1 c2 c3 c4, cs = [c0, c1, c2, c3, c4] := by
    match cs, hl with
    | [a, b, c, d, e], _ => exact ⟨a, b, c, d, e, rfl⟩
  obtain ⟨y0, y1, n, _, _, g0, g1⟩ := Go.ChangeShapes.trod_struct2 Tryz.underlying29 h
  replace g0 : DataW.trod enc Tryz.prog w base spare held n 3 [c0] = some y0 := g0
  replace g1 : DataW.trod enc Tryz.prog w base spare held n 27 [c1, c2, c3, c4] = some y1 := g1
  obtain ⟨z0, z1, z2, z3, n', _, f0, f1, f2, f3⟩ := Go.ChangeShapes.trod_array4 Tryz.underlying27 (by kernel_rfl) g1
  obtain ⟨i0, e0, _⟩ := DataW.trod_int Tryz.underlying3 g0
  obtain ⟨i1, e1, _⟩ := DataW.trod_int Tryz.underlying3 f0
  obtain ⟨i2, e2, _⟩ := DataW.trod_int Tryz.underlying3 f1
  obtain ⟨i3, e3, _⟩ := DataW.trod_int Tryz.underlying3 f2
  obtain ⟨i4, e4, _⟩ := DataW.trod_int Tryz.underlying3 f3
  simp only [List.cons.injEq, and_true] at e0 e1 e2 e3 e4
  subst e0 e1 e2 e3 e4
  exact ⟨(i0, i1, i2, i3, i4), rfl⟩
end
end Go.Proofs.YtmedgkccicbieaaGreat
namespace Go.Proofs.YtmedgkccicbieaaGreat
open Go.RowKit Go.Maps
theorem msA_le {l : List ByteArray} (h : ∀ y ∈ l, y.size ≤ maxLen) : ∀ i, i < l.length → (msA l i).size ≤ maxLen := fun i hi => by
  unfold msA
  rw [List.getD_eq_getElem?_getD, List.getElem?_eq_getElem hi]
  exact h _ (List.getElem_mem hi)
end Go.Proofs.YtmedgkccicbieaaGreat
