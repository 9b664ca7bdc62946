/- moietylaw10: acts that came in, as the frame reads them. -/
import Derived.Test.YtjkbhaplngnniaaDoorPg19
import Derived.Deep.Strs
import Derived.Deep.Slices
import Derived.OpenShut
import Derived.WideShapes
namespace Go.Proofs.YtjkbhaplngnniaaDoor
open Go.RowKit Go.WideShapes
set_option linter.unusedSimpArgs false
set_option linter.unusedVariables false

/-- An act. -/
structure AcP where
  kd : Int
  of : Int
  cd : Int
  v : Int
  hd : Bool
def AcP.L (x : AcP) : List Value := [.int .i64 x.kd, .int .i64 x.of, .int .i64 x.cd, .int .i64 x.v, .bool x.hd]
def AcsP (w : World) (a : Option Addr) (n : Nat) (f : Nat → AcP) : Prop :=
  n ≤ maxLen ∧ (0 < n → ∃ b off, a = some ⟨b, off, none⟩ ∧ b < w.heap.size ∧ ∀ i, i < n → w.rangeAt b (off + i * 5) (f i).L)
theorem acsP_at {w : World} {a : Option Addr} {n : Nat} {f : Nat → AcP} (h : AcsP w a n f) {k : Nat} (hk : k < n) : ∃ b off, a = some ⟨b, off, none⟩ ∧ w.rangeAt b (off + k * 5) (f k).L := by
  obtain ⟨h1, h3⟩ := h
  obtain ⟨b, off, e, _, h4⟩ := h3 (by omega)
  exact ⟨b, off, e, h4 k hk⟩
section
variable {H : Type} {enc : TypeId × Value → H} {w : World} {base : Nat} {spare : Nat → Bool} {held : Bool} {fuel : Nat} {x : DataW H × List MemPlace}
theorem acP_cells : Tryd.prog.cellsOf 41 = 5 := by kernel_rfl
theorem acE_cells : Tryd.prog.cellsOf 39 = 2 := by kernel_rfl
set_option maxRecDepth 100000 in
theorem actP_cells {cs : List Value} (h : DataW.trod enc Tryd.prog w base spare held fuel 41 cs = some x) : ∃ a : AcP, cs = a.L := by
  obtain ⟨xs, n, _, _, hl, hlen, hf⟩ := DataW.trod_struct Tryd.underlying41 h
  rw [acP_cells] at hl
  match cs, hl with
  | [c0, c1, c2, c3, c4], _ =>
    have hx5 : xs.length = 4 := hlen
    have g0 := hf 0 _ rfl
    have g1 := hf 1 _ rfl
    have g2 := hf 2 _ rfl
    have g3 := hf 3 _ rfl
    rw [List.getElem?_eq_getElem (by omega)] at g0 g1 g2 g3
    replace g0 : DataW.trod enc Tryd.prog w base spare held n 3 [c0] = some xs[0] := g0
    replace g1 : DataW.trod enc Tryd.prog w base spare held n 3 [c1] = some xs[1] := g1
    replace g2 : DataW.trod enc Tryd.prog w base spare held n 3 [c2] = some xs[2] := g2
    replace g3 : DataW.trod enc Tryd.prog w base spare held n 39 [c3, c4] = some xs[3] := g3
    obtain ⟨i0, e0, _⟩ := DataW.trod_int Tryd.underlying3 g0
    obtain ⟨i1, e1, _⟩ := DataW.trod_int Tryd.underlying3 g1
    obtain ⟨i2, e2, _⟩ := DataW.trod_int Tryd.underlying3 g2
    obtain ⟨ys, m, _, _, hl2, hlen2, hq⟩ := DataW.trod_struct Tryd.underlying39 g3
    have hy2 : ys.length = 2 := hlen2
    have q0 := hq 0 _ rfl
    have q1 := hq 1 _ rfl
    rw [List.getElem?_eq_getElem (by omega)] at q0 q1
    replace q0 : DataW.trod enc Tryd.prog w base spare held m 2 [c3] = some ys[0] := q0
    replace q1 : DataW.trod enc Tryd.prog w base spare held m 4 [c4] = some ys[1] := q1
    obtain ⟨i3, e3, _⟩ := DataW.trod_int Tryd.underlying2 q0
    obtain ⟨i4, e4, _⟩ := DataW.trod_bool Tryd.underlying4 q1
    simp only [List.cons.injEq, and_true] at e0 e1 e2 e3 e4
    subst e0 e1 e2 e3 e4
    exact ⟨⟨i0, i1, i2, i3, i4⟩, rfl⟩
theorem acts_openP {a : Option Addr} {n c : Nat} (h : DataW.trod enc Tryd.prog w base spare held fuel 34 [.slice a n c] = some x) : ∃ f, AcsP w a n f := by
  rcases Go.Deep.open_slice Tryd.underlying34 h with ⟨hcs, _⟩ | ⟨ad, len, cap, m, k, D, Pl, hcs, _, hl, hm, hmm, _, hall⟩
  · simp at hcs
    obtain ⟨rfl, rfl, rfl⟩ := hcs
    exact ⟨fun _ => ⟨0, 0, 0, 0, false⟩, Nat.zero_le _, fun hp => absurd hp (by omega)⟩
  · simp at hcs
    obtain ⟨rfl, rfl, rfl⟩ := hcs
    have hlm : n ≤ m := by rw [hmm]; split <;> omega
    have each : ∀ i, i < n → ∃ q : AcP, w.cells? base (ad.add (i * 5)) 5 = some q.L := fun i hi => by
      obtain ⟨cs', h1, h2⟩ := hall i (by omega)
      rw [acP_cells] at h1
      obtain ⟨q, h4⟩ := actP_cells h2
      exact ⟨q, by rw [← h4]; exact h1⟩
    haveI : Inhabited AcP := ⟨⟨0, 0, 0, 0, false⟩⟩
    obtain ⟨q, hq⟩ := Go.Deep.choose_lt each
    refine ⟨q, by omega, fun hp => ?_⟩
    obtain ⟨b, off, spot⟩ := ad
    have h0 := (World.cells?_some (hq 0 hp)).2.2 0 (by omega)
    have hspot : spot = none := by
      have : w.cell? (((⟨b, off, spot⟩ : Addr).add (0 * 5)).add 0) = some (.int .i64 (q 0).kd) := h0
      simpa [Addr.add] using World.cell?_spot this
    subst hspot
    refine ⟨b, off, rfl, ?_, fun i hi j v hv => ?_⟩
    · have : w.cell? (((⟨b, off, none⟩ : Addr).add (0 * 5)).add 0) = some (.int .i64 (q 0).kd) := h0
      exact cell_lt (p := ⟨b, off, none⟩) (by simpa [Addr.add] using this)
    · have hlen : (q i).L.length = 5 := rfl
      have hj : j < 5 := by have := (List.getElem?_eq_some_iff.1 hv).1; omega
      have := (World.cells?_some (hq i hi)).2.2 j hj
      rw [hv, Go.WideShapes.add_plain, Go.WideShapes.add_plain] at this
      exact this
end
end Go.Proofs.YtjkbhaplngnniaaDoor
