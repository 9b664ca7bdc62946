/- Acts that came in, as the frame reads them. -/
import Derived.Test.YtjakjdejbggdbaaDoorAr14
import Derived.Deep.Strs
import Derived.Deep.Slices
import Derived.OpenShut
import Derived.WideShapes
namespace Go.Proofs.YtjakjdejbggdbaaDoor
open Go.RowKit Go.WideShapes
set_option linter.unusedSimpArgs false
set_option linter.unusedVariables false

section
variable {H : Type} {enc : TypeId × Value → H} {w : World} {base : Nat} {spare : Nat → Bool} {held : Bool} {fuel : Nat} {x : DataW H × List MemPlace}
theorem ac_cells : Tryd.prog.cellsOf 33 = 12 := by kernel_rfl
theorem int_cells : Tryd.prog.cellsOf 3 = 1 := by kernel_rfl
set_option maxRecDepth 100000 in
theorem act_cells {cs : List Value} (h : DataW.trod enc Tryd.prog w base spare held fuel 33 cs = some x) : ∃ a : AcT, a.ks.length = 8 ∧ cs = a.L := by
  obtain ⟨xs, n, _, _, hl, hlen, hf⟩ := DataW.trod_struct Tryd.underlying33 h
  rw [ac_cells] at hl
  match cs, hl with
  | [c0, c1, c2, k0, k1, k2, k3, k4, k5, k6, k7, c4], _ =>
    have hx5 : xs.length = 5 := hlen
    have g0 := hf 0 _ rfl
    have g1 := hf 1 _ rfl
    have g2 := hf 2 _ rfl
    have g3 := hf 3 _ rfl
    have g4 := hf 4 _ rfl
    rw [List.getElem?_eq_getElem (by omega)] at g0 g1 g2 g3 g4
    replace g0 : DataW.trod enc Tryd.prog w base spare held n 3 [c0] = some xs[0] := g0
    replace g1 : DataW.trod enc Tryd.prog w base spare held n 3 [c1] = some xs[1] := g1
    replace g2 : DataW.trod enc Tryd.prog w base spare held n 4 [c2] = some xs[2] := g2
    replace g3 : DataW.trod enc Tryd.prog w base spare held n 31 [k0, k1, k2, k3, k4, k5, k6, k7] = some xs[3] := g3
    replace g4 : DataW.trod enc Tryd.prog w base spare held n 2 [c4] = some xs[4] := g4
    obtain ⟨i0, e0, _⟩ := DataW.trod_int Tryd.underlying3 g0
    obtain ⟨i1, e1, _⟩ := DataW.trod_int Tryd.underlying3 g1
    obtain ⟨i2, e2, _⟩ := DataW.trod_bool Tryd.underlying4 g2
    obtain ⟨i4, e4, _⟩ := DataW.trod_int Tryd.underlying2 g4
    obtain ⟨ys, m, _, _, _, hy8, hq⟩ := DataW.trod_array Tryd.underlying31 g3
    have el : ∀ i, i < 8 → ∃ z, (([k0, k1, k2, k3, k4, k5, k6, k7] : List Value).drop i).take 1 = [.int .i64 z] := by
      intro i hi
      have := hq i hi
      rw [int_cells, Nat.mul_one, List.getElem?_eq_getElem (by omega)] at this
      obtain ⟨z, e, _⟩ := DataW.trod_int Tryd.underlying3 this
      exact ⟨z, e⟩
    obtain ⟨z0, f0⟩ := el 0 (by omega)
    obtain ⟨z1, f1⟩ := el 1 (by omega)
    obtain ⟨z2, f2⟩ := el 2 (by omega)
    obtain ⟨z3, f3⟩ := el 3 (by omega)
    obtain ⟨z4, f4⟩ := el 4 (by omega)
    obtain ⟨z5, f5⟩ := el 5 (by omega)
    obtain ⟨z6, f6⟩ := el 6 (by omega)
    obtain ⟨z7, f7⟩ := el 7 (by omega)
    simp only [List.drop_zero, List.drop_succ_cons, List.take_succ_cons, List.take_zero, List.cons.injEq, and_true] at e0 e1 e2 e4 f0 f1 f2 f3 f4 f5 f6 f7
    subst e0 e1 e2 e4 f0 f1 f2 f3 f4 f5 f6 f7
    exact ⟨⟨i0, i1, i2, [z0, z1, z2, z3, z4, z5, z6, z7], i4⟩, rfl, rfl⟩
theorem act_open {v : Value} {r : Reach} {b0 : Nat} (hv : Value.okWide Tryd.prog w r b0 33 v) (h : DataW.trod enc Tryd.prog w base spare held fuel 33 v.cells.toList = some x) :
    ∃ a : AcT, a.ks.length = 8 ∧ v = .agg a.L.toArray := by
  obtain ⟨cs, rfl, _⟩ := okWide_struct Tryd.underlying33 hv
  obtain ⟨a, h1, h2⟩ := act_cells h
  refine ⟨a, h1, ?_⟩
  rw [← h2]
  simp [Value.cells]
theorem acts_open {a : Option Addr} {n c : Nat} (h : DataW.trod enc Tryd.prog w base spare held fuel 22 [.slice a n c] = some x) : ∃ f, Acs w a n f := by
  rcases Go.Deep.open_slice Tryd.underlying22 h with ⟨hcs, _⟩ | ⟨ad, len, cap, m, k, D, Pl, hcs, _, hl, hm, hmm, _, hall⟩
  · simp at hcs
    obtain ⟨rfl, rfl, rfl⟩ := hcs
    exact ⟨fun _ => ⟨0, 0, false, [], 0⟩, fun i hi => absurd hi (by omega), Nat.zero_le _, fun hp => absurd hp (by omega)⟩
  · simp at hcs
    obtain ⟨rfl, rfl, rfl⟩ := hcs
    have hlm : n ≤ m := by rw [hmm]; split <;> omega
    have each : ∀ i, i < n → ∃ q : AcT, q.ks.length = 8 ∧ w.cells? base (ad.add (i * 12)) 12 = some q.L := fun i hi => by
      obtain ⟨cs', h1, h2⟩ := hall i (by omega)
      rw [ac_cells] at h1
      obtain ⟨q, h3, h4⟩ := act_cells h2
      exact ⟨q, h3, by rw [← h4]; exact h1⟩
    haveI : Inhabited AcT := ⟨⟨0, 0, false, [], 0⟩⟩
    obtain ⟨q, hq⟩ := Go.Deep.choose_lt each
    refine ⟨q, fun i hi => (hq i hi).1, by omega, fun hp => ?_⟩
    obtain ⟨b, off, spot⟩ := ad
    have h0 := (World.cells?_some (hq 0 hp).2).2.2 0 (by omega)
    have hspot : spot = none := by
      have : w.cell? (((⟨b, off, spot⟩ : Addr).add (0 * 12)).add 0) = some (.int .i64 (q 0).kd) := h0
      simpa [Addr.add] using World.cell?_spot this
    subst hspot
    refine ⟨b, off, rfl, ?_, fun i hi j v hv => ?_⟩
    · have : w.cell? (((⟨b, off, none⟩ : Addr).add (0 * 12)).add 0) = some (.int .i64 (q 0).kd) := h0
      exact cell_lt (p := ⟨b, off, none⟩) (by simpa [Addr.add] using this)
    · have hlen : (q i).L.length = 12 := acL_len (hq i hi).1
      have hj : j < 12 := by have := (List.getElem?_eq_some_iff.1 hv).1; omega
      have := (World.cells?_some (hq i hi).2).2.2 j hj
      rw [hv, Go.WideShapes.add_plain, Go.WideShapes.add_plain] at this
      exact this
end
end Go.Proofs.YtjakjdejbggdbaaDoor
