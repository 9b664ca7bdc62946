/- A slice of cells that came in, as the frame reads it. · coord: what the frames of the rows want. -/
import Derived.Test.YtpkepkemjcjplaaGreatHoldA
import Derived.Test.YtpkepkemjcjplaaGreatCatOpen
import Derived.Test.YtpkepkemjcjplaaGreatLawCo2
namespace Go.Proofs.YtpkepkemjcjplaaGreat
open Go.RowKit Go.Maps
set_option linter.unusedSimpArgs false
set_option linter.unusedVariables false

section
variable {H : Type} {enc : TypeId × Value → H} {w : World} {base : Nat} {spare : Nat → Bool} {held : Bool} {fuel : Nat} {x : DataW H × List MemPlace}
set_option maxRecDepth 100000 in
theorem cl_cells {cs : List Value} (hl : cs.length = 5) (h : DataW.trod enc Tryz.prog w base spare held fuel 29 cs = some x) : ∃ y : Cl, cs = clF y := by
  obtain ⟨c0, c1, c2, c3, c4, rfl⟩ : ∃ c0 c1 c2 c3 c4, cs = [c0, c1, c2, c3, c4] := by
    match cs, hl with
    | [a, b, c, d, e], _ => exact ⟨a, b, c, d, e, rfl⟩
  obtain ⟨y0, y1, n, _, _, g0, g1⟩ := Go.ChangeShapes.trod_struct2 Tryz.underlying29 h
  replace g0 : DataW.trod enc Tryz.prog w base spare held n 3 [c0] = some y0 := g0
  replace g1 : DataW.trod enc Tryz.prog w base spare held n 27 [c1, c2, c3, c4] = some y1 := g1
  obtain ⟨z0, z1, z2, z3, n', _, f0, f1, f2, f3⟩ := Go.ChangeShapes.trod_array4 Tryz.underlying27 (by kernel_rfl) g1
  obtain ⟨i0, e0, _⟩ := DataW.trod_int Tryz.underlying3 g0
  obtain ⟨i1, e1, _⟩ := DataW.trod_int Tryz.underlying3 f0
  obtain ⟨i2, e2, _⟩ := DataW.trod_int Tryz.underlying3 f1
  obtain ⟨i3, e3, _⟩ := DataW.trod_int Tryz.underlying3 f2
  obtain ⟨i4, e4, _⟩ := DataW.trod_int Tryz.underlying3 f3
  simp only [List.cons.injEq, and_true] at e0 e1 e2 e3 e4
  subst e0 e1 e2 e3 e4
  exact ⟨(i0, i1, i2, i3, i4), rfl⟩
theorem cell_sz : Tryz.prog.cellsOf 29 = 5 := by kernel_rfl
/-- Cells that came in. -/
structure Cqs (w : World) (a : Option Addr) (n : Nat) (l : List Cl) : Prop where
  len : l.length = n
  big : n ≤ maxLen
  cq : Cq w a l
theorem cells_openL {a : Option Addr} {n c : Nat} (h : DataW.trod enc Tryz.prog w base spare held fuel 35 [.slice a n c] = some x) : ∃ l : List Cl, Cqs w a n l := by
  rcases Go.Deep.open_slice Tryz.underlying35 h with ⟨hcs, _⟩ | ⟨ad, len, cap, m, k, D, Pl, hcs, _, hl, hm, hmm, _, hall⟩
  · simp at hcs
    obtain ⟨rfl, rfl, rfl⟩ := hcs
    exact ⟨[], rfl, Nat.zero_le _, ⟨fun hp => absurd hp (by simp)⟩⟩
  · simp at hcs
    obtain ⟨rfl, rfl, rfl⟩ := hcs
    have hlm : n ≤ m := by rw [hmm]; split <;> omega
    have each : ∀ i, i < n → ∃ q : Cl, w.cells? base (ad.add (i * 5)) 5 = some (clF q) := fun i hi => by
      obtain ⟨cs', h1, h2⟩ := hall i (by omega)
      rw [cell_sz] at h1
      obtain ⟨q, h4⟩ := cl_cells (World.cells?_some h1).2.1 h2
      exact ⟨q, by rw [← h4]; exact h1⟩
    haveI : Inhabited Cl := ⟨(0, 0, 0, 0, 0)⟩
    obtain ⟨q, hq⟩ := Go.Deep.choose_lt each
    have hget : ∀ i, i < n → clA ((List.range n).map q) i = q i := fun i hi => by simp [clA, List.getD, hi]
    refine ⟨(List.range n).map q, by simp, by omega, ⟨fun hp => ?_⟩⟩
    rw [List.length_map, List.length_range] at hp
    obtain ⟨b, off, spot⟩ := ad
    have h0 := (World.cells?_some (hq 0 hp)).2.2 0 (by omega)
    have hspot : spot = none := by
      have : w.cell? (((⟨b, off, spot⟩ : Addr).add (0 * 5)).add 0) = some (.int .i64 (q 0).1) := h0
      simpa [Addr.add] using World.cell?_spot this
    subst hspot
    refine ⟨b, off, rfl, ?_, fun i hi t ht u hu => ?_⟩
    · have : w.cell? (((⟨b, off, none⟩ : Addr).add (0 * 5)).add 0) = some (.int .i64 (q 0).1) := h0
      exact cell_lt (p := ⟨b, off, none⟩) (by simpa [Addr.add] using this)
    · rw [List.length_map, List.length_range] at hi
      rw [hget i hi] at hu
      have := (World.cells?_some (hq i hi)).2.2 t ht
      rw [hu, Go.WideShapes.add_plain, Go.WideShapes.add_plain] at this
      exact this
end
end Go.Proofs.YtpkepkemjcjplaaGreat
namespace Go.Proofs.YtpkepkemjcjplaaGreat
open Go.RowKit Go.Maps
theorem msA_le {l : List ByteArray} (h : ∀ y ∈ l, y.size ≤ maxLen) : ∀ i, i < l.length → (msA l i).size ≤ maxLen := fun i hi => by
  unfold msA
  rw [List.getD_eq_getElem?_getD, List.getElem?_eq_getElem hi]
  exact h _ (List.getElem_mem hi)
end Go.Proofs.YtpkepkemjcjplaaGreat
