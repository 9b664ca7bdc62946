/- A catalogue and a cell that came in, as the frame reads them. · A command that came in, as the frame reads it. -/
import Derived.Test.YtpehinmckppjoaaGreatDoorWNodes
import Derived.Test.YtpehinmckppjoaaGreatDoorWDims11B
import Derived.Deep.Strs
import Derived.Lib.SmallJoins
import Derived.Laws.IdiomArrays
import Derived.WideShapes
import Derived.Test.YtpehinmckppjoaaGreatDoorWPsD
import Derived.SizedLaws
import Derived.OpenShut
namespace Go.Proofs.YtpehinmckppjoaaGreatDoor
open Go.RowKit Go.WideShapes
set_option linter.unusedSimpArgs false
set_option linter.unusedVariables false

section
variable {H : Type} {enc : TypeId × Value → H} {w : World} {base : Nat} {spare : Nat → Bool} {held : Bool} {fuel : Nat} {x : DataW H × List MemPlace}
theorem nodes_open' {v : Value} (h : DataW.trod enc Tryz.prog w base spare held fuel 53 [v] = some x) : ∃ a n c l, v = .slice a n c ∧ Ns w a n l := by
  rcases Go.Deep.open_slice_pairs Tryz.underlying53 Tryz.underlying61 (by kernel_rfl) rfl rfl (by kernel_rfl) (by kernel_rfl) h with ⟨hcs, _⟩ | ⟨ad, len, cap, m, k, V0, V1, D0, D1, P0, P1, hcs, _⟩
  · simp only [List.cons.injEq, and_true] at hcs
    subst hcs
    obtain ⟨l, hl⟩ := nodes_open h
    exact ⟨_, _, _, l, rfl, hl⟩
  · simp only [List.cons.injEq, and_true] at hcs
    subst hcs
    obtain ⟨l, hl⟩ := nodes_open h
    exact ⟨_, _, _, l, rfl, hl⟩
theorem strs_open {v : Value} (h : DataW.trod enc Tryz.prog w base spare held fuel 23 [v] = some x) : ∃ a n c l, v = .slice a n c ∧ Ss w a n l ∧ ∀ y ∈ l, y.size ≤ maxLen := by
  rcases Go.Deep.open_strs Tryz.underlying23 Tryz.underlying9 (by kernel_rfl) h with ⟨hcs, _⟩ | ⟨ad, len, cap, m, Sx, hcs, _, hl, hm, hmm, _, hcell⟩
  · simp only [List.cons.injEq, and_true] at hcs
    subst hcs
    exact ⟨_, _, _, [], rfl, ⟨rfl, Nat.zero_le _, fun h => absurd h (by omega)⟩, by simp⟩
  · simp only [List.cons.injEq, and_true] at hcs
    subst hcs
    have hlm : len ≤ m := by rw [hmm]; split <;> omega
    obtain ⟨l, h1, h2⟩ := isStrs_ss (w := w) (x := ad) (len := len) (cap := len) (Sx := Sx) (Nat.le_refl _) (by omega) (fun i hi => hcell i (by omega))
    exact ⟨_, _, _, l, rfl, h1, h2⟩
theorem dims_open {v : Value} (h : DataW.trod enc Tryz.prog w base spare held fuel 22 [v] = some x) : ∃ a n c ds na, v = .slice a n c ∧ Dss w a n ds na := by
  rcases Go.Deep.open_slice_pairs Tryz.underlying22 Tryz.underlying55 (by kernel_rfl) rfl rfl (by kernel_rfl) (by kernel_rfl) h with ⟨hcs, _⟩ | ⟨ad, len, cap, m, k, V0, V1, D0, D1, P0, P1, hcs, _, hl, hm, hmm, _, hall⟩
  · simp only [List.cons.injEq, and_true] at hcs
    subst hcs
    exact ⟨_, _, _, [], fun _ => (none, 0, 0), rfl, rfl, Nat.zero_le _, fun i hi => absurd hi (by omega), fun i hi => absurd hi (by omega), fun hp => absurd hp (by omega)⟩
  · simp only [List.cons.injEq, and_true] at hcs
    subst hcs
    have hlm : len ≤ m := by rw [hmm]; split <;> omega
    have each : ∀ i, i < len → ∃ q : Dm × (Option Addr × Nat × Nat), w.cell? (ad.add (i * 2)) = some (.string q.1.1) ∧ w.cell? (ad.add (i * 2 + 1)) = some (slv q.2) ∧ q.1.1.size ≤ maxLen ∧ Ns w q.2.1 q.2.2.1 q.1.2 := fun i hi => by
      obtain ⟨h1, h2, h3, h4⟩ := hall i (by omega)
      obtain ⟨s, e1, _, e2⟩ := DataW.trod_string Tryz.underlying9 h3
      obtain ⟨a, n, c, l, e3, e4⟩ := nodes_open' h4
      simp only [List.cons.injEq, and_true] at e1
      exact ⟨((s, l), (a, n, c)), by rw [h1, e1], by rw [h2, e3]; rfl, e2, e4⟩
    obtain ⟨q, hq⟩ := Go.Deep.choose_lt each
    have hn : ∀ i, i < len → dmN ((List.range len).map fun i => (q i).1) i = (q i).1.1 := fun i hi => by simp [dmN, List.getD, hi]
    have hu : ∀ i, i < len → dmL ((List.range len).map fun i => (q i).1) i = (q i).1.2 := fun i hi => by simp [dmL, List.getD, hi]
    refine ⟨_, _, _, (List.range len).map fun i => (q i).1, fun i => (q i).2, rfl, by simp, by omega, fun i hi => ?_, fun i hi => ?_, fun hp => ?_⟩
    · rw [hn i hi]; exact (hq i hi).2.2.1
    · rw [hu i hi]; exact (hq i hi).2.2.2
    · obtain ⟨b, off, spot⟩ := ad
      have hspot : spot = none := by simpa [Addr.add] using World.cell?_spot (hq 0 (by omega)).1
      subst hspot
      refine ⟨b, off, rfl, cell_lt (p := ⟨b, off, none⟩) (by simpa [Addr.add] using (hq 0 (by omega)).1), fun i hi => ?_⟩
      obtain ⟨h1, h2, _⟩ := hq i hi
      rw [Go.WideShapes.add_plain] at h1 h2
      rw [hn i hi]
      exact ⟨h1, by rw [Nat.add_assoc]; exact h2⟩
set_option maxRecDepth 100000 in
theorem cat_open {v : Value} {r : Reach} {b0 : Nat} (hv : Value.okWide Tryz.prog w r b0 25 v) (h : DataW.trod enc Tryz.prog w base spare held fuel 25 v.cells.toList = some x) :
    ∃ a n c ds na b m d ms lv sc, v = .agg #[.slice a n c, .slice b m d, .int .i64 lv, .int .i64 sc] ∧ Dss w a n ds na ∧ Ss w b m ms ∧ ∀ y ∈ ms, y.size ≤ maxLen := by
  obtain ⟨cs, rfl, hcs⟩ := okWide_struct Tryz.underlying25 hv
  have h4' : Tryz.prog.cellsOf 25 = 4 := by kernel_rfl
  have h4 : cs.size = 4 := hcs.trans h4'
  obtain ⟨c0, c1, c2, c3, rfl⟩ : ∃ c0 c1 c2 c3, cs = #[c0, c1, c2, c3] := by
    obtain ⟨l⟩ := cs
    match l, h4 with
    | [a, b, c, d], _ => exact ⟨a, b, c, d, rfl⟩
  obtain ⟨y0, y1, y2, y3, n, _, _, g0, g1, g2, g3⟩ := Go.Joins.trod_struct4 Tryz.underlying25 h
  replace g0 : DataW.trod enc Tryz.prog w base spare held n 22 [c0] = some y0 := g0
  replace g1 : DataW.trod enc Tryz.prog w base spare held n 23 [c1] = some y1 := g1
  replace g2 : DataW.trod enc Tryz.prog w base spare held n 3 [c2] = some y2 := g2
  replace g3 : DataW.trod enc Tryz.prog w base spare held n 3 [c3] = some y3 := g3
  obtain ⟨a, n', c, ds, na, rfl, hD⟩ := dims_open g0
  obtain ⟨b, m, d, ms, rfl, hS, hz⟩ := strs_open g1
  obtain ⟨lv, e2, _⟩ := DataW.trod_int Tryz.underlying3 g2
  obtain ⟨sc, e3, _⟩ := DataW.trod_int Tryz.underlying3 g3
  simp only [List.cons.injEq, and_true] at e2 e3
  subst e2 e3
  exact ⟨a, n', c, ds, na, b, m, d, ms, lv, sc, rfl, hD, hS, hz⟩
end
end Go.Proofs.YtpehinmckppjoaaGreatDoor
namespace Go.Proofs.YtpehinmckppjoaaGreatDoor
open Go.RowKit Go.WideShapes
set_option linter.unusedSimpArgs false
set_option linter.unusedVariables false

theorem msA_le {l : List ByteArray} (h : ∀ y ∈ l, y.size ≤ maxLen) : ∀ i, i < l.length → (msA l i).size ≤ maxLen := fun i hi => by
  unfold msA
  rw [List.getD_eq_getElem?_getD, List.getElem?_eq_getElem hi]
  exact h _ (List.getElem_mem hi)
/-- What is known of a command that came in. -/
structure CmIn (x : Cm) : Prop where
  u : x.u.size ≤ maxLen
  s : x.s.size ≤ maxLen
  o : x.o.size ≤ maxLen
  n : isI x.n
section
variable {H : Type} {enc : TypeId × Value → H} {w : World} {base : Nat} {spare : Nat → Bool} {held : Bool} {fuel : Nat} {x : DataW H × List MemPlace}
set_option maxRecDepth 100000 in
theorem cl5_cells {c0 c1 c2 c3 c4 : Value} (h : DataW.trod enc Tryz.prog w base spare held fuel 33 [c0, c1, c2, c3, c4] = some x) : ∃ i0 i1 i2 i3 i4, c0 = .int .i64 i0 ∧ c1 = .int .i64 i1 ∧ c2 = .int .i64 i2 ∧ c3 = .int .i64 i3 ∧ c4 = .int .i64 i4 := by
  obtain ⟨y0, y1, n, _, _, g0, g1⟩ := Go.ChangeShapes.trod_struct2 Tryz.underlying33 h
  replace g0 : DataW.trod enc Tryz.prog w base spare held n 3 [c0] = some y0 := g0
  replace g1 : DataW.trod enc Tryz.prog w base spare held n 31 [c1, c2, c3, c4] = some y1 := g1
  obtain ⟨z0, z1, z2, z3, n', _, f0, f1, f2, f3⟩ := Go.ChangeShapes.trod_array4 Tryz.underlying31 (by kernel_rfl) g1
  obtain ⟨i0, e0, _⟩ := DataW.trod_int Tryz.underlying3 g0
  obtain ⟨i1, e1, _⟩ := DataW.trod_int Tryz.underlying3 f0
  obtain ⟨i2, e2, _⟩ := DataW.trod_int Tryz.underlying3 f1
  obtain ⟨i3, e3, _⟩ := DataW.trod_int Tryz.underlying3 f2
  obtain ⟨i4, e4, _⟩ := DataW.trod_int Tryz.underlying3 f3
  simp only [List.cons.injEq, and_true] at e0 e1 e2 e3 e4
  exact ⟨i0, i1, i2, i3, i4, e0, e1, e2, e3, e4⟩
set_option maxRecDepth 100000 in
theorem cm_cells {cs : List Value} (hl12 : cs.length = 12) (h : DataW.trod enc Tryz.prog w base spare held fuel 35 cs = some x) : ∃ y : Cm, cs = cmL y ∧ CmIn y := by
  obtain ⟨c0, c1, c2, c3, c4, c5, c6, c7, c8, c9, c10, c11, rfl⟩ : ∃ c0 c1 c2 c3 c4 c5 c6 c7 c8 c9 c10 c11, cs = [c0, c1, c2, c3, c4, c5, c6, c7, c8, c9, c10, c11] := by
    match cs, hl12 with
    | [a, b, c, d, e, f, g, h, i, j, k, l], _ => exact ⟨a, b, c, d, e, f, g, h, i, j, k, l, rfl⟩
  obtain ⟨xs, n, _, _, hl, hlen, hf⟩ := DataW.trod_struct Tryz.underlying35 h
  have hx8 : xs.length = 8 := hlen
  have g0 := hf 0 _ rfl
  have g1 := hf 1 _ rfl
  have g2 := hf 2 _ rfl
  have g3 := hf 3 _ rfl
  have g4 := hf 4 _ rfl
  have g5 := hf 5 _ rfl
  have g6 := hf 6 _ rfl
  have g7 := hf 7 _ rfl
  rw [List.getElem?_eq_getElem (by omega)] at g0 g1 g2 g3 g4 g5 g6 g7
  replace g0 : DataW.trod enc Tryz.prog w base spare held n 3 [c0] = some xs[0] := g0
  replace g1 : DataW.trod enc Tryz.prog w base spare held n 9 [c1] = some xs[1] := g1
  replace g2 : DataW.trod enc Tryz.prog w base spare held n 9 [c2] = some xs[2] := g2
  replace g3 : DataW.trod enc Tryz.prog w base spare held n 9 [c3] = some xs[3] := g3
  replace g4 : DataW.trod enc Tryz.prog w base spare held n 33 [c4, c5, c6, c7, c8] = some xs[4] := g4
  replace g5 : DataW.trod enc Tryz.prog w base spare held n 2 [c9] = some xs[5] := g5
  replace g6 : DataW.trod enc Tryz.prog w base spare held n 3 [c10] = some xs[6] := g6
  replace g7 : DataW.trod enc Tryz.prog w base spare held n 3 [c11] = some xs[7] := g7
  obtain ⟨k, e0, _⟩ := DataW.trod_int Tryz.underlying3 g0
  obtain ⟨u, e1, _, q1⟩ := DataW.trod_string Tryz.underlying9 g1
  obtain ⟨s, e2, _, q2⟩ := DataW.trod_string Tryz.underlying9 g2
  obtain ⟨o, e3, _, q3⟩ := DataW.trod_string Tryz.underlying9 g3
  obtain ⟨i0, i1, i2, i3, i4, rfl, rfl, rfl, rfl, rfl⟩ := cl5_cells g4
  obtain ⟨a, e5, _, q5⟩ := DataW.trod_int Tryz.underlying2 g5
  obtain ⟨b, e6, _⟩ := DataW.trod_int Tryz.underlying3 g6
  obtain ⟨c, e7, _⟩ := DataW.trod_int Tryz.underlying3 g7
  simp only [List.cons.injEq, and_true] at e0 e1 e2 e3 e5 e6 e7
  subst e0 e1 e2 e3 e5 e6 e7
  exact ⟨⟨k, u, s, o, i0, i1, i2, i3, i4, a, b, c⟩, rfl, q1, q2, q3, isI_of q5⟩
set_option maxRecDepth 100000 in
theorem cmd_open {v : Value} {r : Reach} {b0 : Nat} (hv : Value.okWide Tryz.prog w r b0 35 v) (h : DataW.trod enc Tryz.prog w base spare held fuel 35 v.cells.toList = some x) :
    ∃ y : Cm, CmIn y ∧ v = cmV y := by
  obtain ⟨cs, rfl, hcs⟩ := okWide_struct Tryz.underlying35 hv
  have h4' : Tryz.prog.cellsOf 35 = 12 := by kernel_rfl
  have h4 : cs.size = 12 := hcs.trans h4'
  obtain ⟨l⟩ := cs
  obtain ⟨y, hy, hk⟩ := cm_cells (cs := l) (by simpa using h4) (by simpa [Value.cells] using h)
  exact ⟨y, hk, by rw [hy]; rfl⟩
end
end Go.Proofs.YtpehinmckppjoaaGreatDoor
