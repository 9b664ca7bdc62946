/- A clash and a reply that came in, as the frame reads them. -/
import Derived.Test.YtbhojgodkblflaaCatOpen
import Derived.Test.YtbhojgodkblflaaSh7
import Derived.Deep.Strs
import Derived.Deep.Slices
import Derived.SizedLaws
import Derived.OpenShut
import Derived.WideShapes
namespace Go.Proofs.Ytbhojgodkblflaa
open Go.RowKit Go.WideShapes
set_option linter.unusedSimpArgs false
set_option linter.unusedVariables false

theorem msA_le {l : List ByteArray} (h : ∀ y ∈ l, y.size ≤ maxLen) : ∀ i, i < l.length → (msA l i).size ≤ maxLen := fun i hi => by
  unfold msA
  rw [List.getD_eq_getElem?_getD, List.getElem?_eq_getElem hi]
  exact h _ (List.getElem_mem hi)
section
variable {H : Type} {enc : TypeId × Value → H} {w : World} {base : Nat} {spare : Nat → Bool} {held : Bool} {fuel : Nat} {x : DataW H × List MemPlace}
set_option maxRecDepth 100000 in
theorem c5_cells {c0 c1 c2 c3 c4 : Value} (h : DataW.trod enc Try.prog w base spare held fuel 28 [c0, c1, c2, c3, c4] = some x) : ∃ i0 i1 i2 i3 i4, c0 = .int .i64 i0 ∧ c1 = .int .i64 i1 ∧ c2 = .int .i64 i2 ∧ c3 = .int .i64 i3 ∧ c4 = .int .i64 i4 ∧ isI i0 := by
  obtain ⟨y0, y1, n, _, _, g0, g1⟩ := Go.ChangeShapes.trod_struct2 Try.underlying28 h
  replace g0 : DataW.trod enc Try.prog w base spare held n 3 [c0] = some y0 := g0
  replace g1 : DataW.trod enc Try.prog w base spare held n 26 [c1, c2, c3, c4] = some y1 := g1
  obtain ⟨z0, z1, z2, z3, n', _, f0, f1, f2, f3⟩ := Go.ChangeShapes.trod_array4 Try.underlying26 (by kernel_rfl) g1
  obtain ⟨i0, e0, _, q0⟩ := DataW.trod_int Try.underlying3 g0
  obtain ⟨i1, e1, _⟩ := DataW.trod_int Try.underlying3 f0
  obtain ⟨i2, e2, _⟩ := DataW.trod_int Try.underlying3 f1
  obtain ⟨i3, e3, _⟩ := DataW.trod_int Try.underlying3 f2
  obtain ⟨i4, e4, _⟩ := DataW.trod_int Try.underlying3 f3
  simp only [List.cons.injEq, and_true] at e0 e1 e2 e3 e4
  exact ⟨i0, i1, i2, i3, i4, e0, e1, e2, e3, e4, isI_of q0⟩
def csOk (x : Cs) : Prop := isI x.c0 ∧ isI x.a ∧ isI x.b ∧ isI x.c
set_option maxRecDepth 100000 in
theorem cs_cells {cs : List Value} (hl9 : cs.length = 9) (h : DataW.trod enc Try.prog w base spare held fuel 30 cs = some x) : ∃ y : Cs, cs = csF y ∧ csOk y := by
  obtain ⟨c0, c1, c2, c3, c4, c5, c6, c7, c8, rfl⟩ : ∃ c0 c1 c2 c3 c4 c5 c6 c7 c8, cs = [c0, c1, c2, c3, c4, c5, c6, c7, c8] := by
    match cs, hl9 with
    | [a, b, c, d, e, f, g, h, i], _ => exact ⟨a, b, c, d, e, f, g, h, i, rfl⟩
  obtain ⟨xs, n, _, _, hl, hlen, hf⟩ := DataW.trod_struct Try.underlying30 h
  have hx5 : xs.length = 5 := hlen
  have g0 := hf 0 _ rfl
  have g1 := hf 1 _ rfl
  have g2 := hf 2 _ rfl
  have g3 := hf 3 _ rfl
  have g4 := hf 4 _ rfl
  rw [List.getElem?_eq_getElem (by omega)] at g0 g1 g2 g3 g4
  replace g0 : DataW.trod enc Try.prog w base spare held n 28 [c0, c1, c2, c3, c4] = some xs[0] := g0
  replace g1 : DataW.trod enc Try.prog w base spare held n 2 [c5] = some xs[1] := g1
  replace g2 : DataW.trod enc Try.prog w base spare held n 2 [c6] = some xs[2] := g2
  replace g3 : DataW.trod enc Try.prog w base spare held n 2 [c7] = some xs[3] := g3
  replace g4 : DataW.trod enc Try.prog w base spare held n 4 [c8] = some xs[4] := g4
  obtain ⟨i0, i1, i2, i3, i4, rfl, rfl, rfl, rfl, rfl, q0⟩ := c5_cells g0
  obtain ⟨a, e1, _, q1⟩ := DataW.trod_int Try.underlying2 g1
  obtain ⟨b, e2, _, q2⟩ := DataW.trod_int Try.underlying2 g2
  obtain ⟨c, e3, _, q3⟩ := DataW.trod_int Try.underlying2 g3
  obtain ⟨hb, e4, _⟩ := DataW.trod_bool Try.underlying4 g4
  simp only [List.cons.injEq, and_true] at e1 e2 e3 e4
  subst e1 e2 e3 e4
  exact ⟨⟨i0, i1, i2, i3, i4, a, b, c, hb⟩, rfl, q0, isI_of q1, isI_of q2, isI_of q3⟩
set_option maxRecDepth 100000 in
theorem clash_open {v : Value} {r : Reach} {b0 : Nat} (hv : Value.okWide Try.prog w r b0 30 v) (h : DataW.trod enc Try.prog w base spare held fuel 30 v.cells.toList = some x) :
    ∃ y : Cs, v = .agg (csF y).toArray ∧ csOk y := by
  obtain ⟨cs, rfl, hcs⟩ := okWide_struct Try.underlying30 hv
  have h4' : Try.prog.cellsOf 30 = 9 := by kernel_rfl
  have h4 : cs.size = 9 := hcs.trans h4'
  obtain ⟨l⟩ := cs
  obtain ⟨y, hy, hk⟩ := cs_cells (cs := l) (by simpa using h4) (by simpa [Value.cells] using h)
  exact ⟨y, by rw [hy], hk⟩
end
end Go.Proofs.Ytbhojgodkblflaa
