/- Words that came in, as the frame reads them. -/
import Derived.Test.YtifddieoekbnfaaDoorLex1
import Derived.Deep.Strs
import Derived.Deep.Slices
import Derived.OpenShut
import Derived.WideShapes
namespace Go.Proofs.YtifddieoekbnfaaDoor
open Go.RowKit Go.WideShapes
set_option linter.unusedSimpArgs false
set_option linter.unusedVariables false

/-- Words that came in. -/
structure Wz (w : World) (a : Option Addr) (n : Nat) (l : List Wd) : Prop where
  len : l.length = n
  big : n ≤ maxLen
  q : Wq w a l
  sz : ∀ x ∈ l, x.t.size ≤ maxLen
section
variable {H : Type} {enc : TypeId × Value → H} {w : World} {base : Nat} {spare : Nat → Bool} {held : Bool} {fuel : Nat} {x : DataW H × List MemPlace}
theorem strs_open {v : Value} (h : DataW.trod enc Tryd.prog w base spare held fuel 30 [v] = some x) : ∃ a n c l, v = .slice a n c ∧ Ss w a n l := by
  rcases Go.Deep.open_strs Tryd.underlying30 Tryd.underlying9 (by kernel_rfl) h with ⟨hcs, _⟩ | ⟨ad, len, cap, m, Sx, hcs, _, hl, hm, hmm, _, hcell⟩
  · simp only [List.cons.injEq, and_true] at hcs
    subst hcs
    exact ⟨_, _, _, [], rfl, ⟨rfl, Nat.zero_le _, fun h => absurd h (by omega)⟩⟩
  · simp only [List.cons.injEq, and_true] at hcs
    subst hcs
    have hlm : len ≤ m := by rw [hmm]; split <;> omega
    obtain ⟨l, h1, h2⟩ := isStrs_ss (w := w) (x := ad) (len := len) (cap := len) (Sx := Sx) (Nat.le_refl _) (by omega) (fun i hi => hcell i (by omega))
    exact ⟨_, _, _, l, rfl, h1⟩
theorem wz_sz : Tryd.prog.cellsOf 32 = 5 := by kernel_rfl
set_option maxRecDepth 100000 in
theorem wz_cells {cs : List Value} (hl5 : cs.length = 5) (h : DataW.trod enc Tryd.prog w base spare held fuel 32 cs = some x) : ∃ y : Wd, cs = wdF y ∧ Ss w y.a y.m y.ps ∧ y.t.size ≤ maxLen := by
  obtain ⟨c0, c1, c2, c3, c4, rfl⟩ : ∃ c0 c1 c2 c3 c4, cs = [c0, c1, c2, c3, c4] := by
    match cs, hl5 with
    | [a, b, c, d, e], _ => exact ⟨a, b, c, d, e, rfl⟩
  obtain ⟨xs, n, _, _, hl, hlen, hf⟩ := DataW.trod_struct Tryd.underlying32 h
  have hx5 : xs.length = 5 := hlen
  have g0 := hf 0 _ rfl
  have g1 := hf 1 _ rfl
  have g2 := hf 2 _ rfl
  have g3 := hf 3 _ rfl
  have g4 := hf 4 _ rfl
  rw [List.getElem?_eq_getElem (by omega)] at g0 g1 g2 g3 g4
  replace g0 : DataW.trod enc Tryd.prog w base spare held n 3 [c0] = some xs[0] := g0
  replace g1 : DataW.trod enc Tryd.prog w base spare held n 9 [c1] = some xs[1] := g1
  replace g2 : DataW.trod enc Tryd.prog w base spare held n 3 [c2] = some xs[2] := g2
  replace g3 : DataW.trod enc Tryd.prog w base spare held n 2 [c3] = some xs[3] := g3
  replace g4 : DataW.trod enc Tryd.prog w base spare held n 30 [c4] = some xs[4] := g4
  obtain ⟨i0, e0, _⟩ := DataW.trod_int Tryd.underlying3 g0
  obtain ⟨i1, e1, _, z1⟩ := DataW.trod_string Tryd.underlying9 g1
  obtain ⟨i2, e2, _⟩ := DataW.trod_int Tryd.underlying3 g2
  obtain ⟨i3, e3, _⟩ := DataW.trod_int Tryd.underlying2 g3
  obtain ⟨a, m, c, l, rfl, hs⟩ := strs_open g4
  simp only [List.cons.injEq, and_true] at e0 e1 e2 e3
  subst e0 e1 e2 e3
  exact ⟨⟨i0, i1, i2, i3, a, m, c, l⟩, rfl, hs, z1⟩
theorem words_open {a : Option Addr} {n c : Nat} (h : DataW.trod enc Tryd.prog w base spare held fuel 23 [.slice a n c] = some x) : ∃ l : List Wd, Wz w a n l := by
  rcases Go.Deep.open_slice Tryd.underlying23 h with ⟨hcs, _⟩ | ⟨ad, len, cap, m, k, D, Pl, hcs, _, hl, hm, hmm, _, hall⟩
  · simp at hcs
    obtain ⟨rfl, rfl, rfl⟩ := hcs
    exact ⟨[], rfl, Nat.zero_le _, wq_nil _ _, by simp⟩
  · simp at hcs
    obtain ⟨rfl, rfl, rfl⟩ := hcs
    have hlm : n ≤ m := by rw [hmm]; split <;> omega
    have each : ∀ i, i < n → ∃ y : Wd, w.cells? base (ad.add (i * 5)) 5 = some (wdF y) ∧ Ss w y.a y.m y.ps ∧ y.t.size ≤ maxLen := fun i hi => by
      obtain ⟨cs', h1, h2⟩ := hall i (by omega)
      rw [wz_sz] at h1
      obtain ⟨q, h4, h5⟩ := wz_cells (World.cells?_some h1).2.1 h2
      exact ⟨q, by rw [← h4]; exact h1, h5⟩
    haveI : Inhabited Wd := ⟨wd0⟩
    obtain ⟨q, hq⟩ := Go.Deep.choose_lt each
    have hget : ∀ i, i < n → wdA ((List.range n).map q) i = q i := fun i hi => by simp [wdA, List.getD, hi]
    have hlen : ((List.range n).map q).length = n := by simp
    refine ⟨(List.range n).map q, hlen, by omega, ⟨fun hp => ?_, fun y hy => ?_⟩, fun y hy => ?_⟩
    · rw [hlen] at hp
      obtain ⟨b, off, spot⟩ := ad
      have h0 := (World.cells?_some (hq 0 hp).1).2.2 0 (by omega)
      have hspot : spot = none := by
        have : w.cell? (((⟨b, off, spot⟩ : Addr).add (0 * 5)).add 0) = some (.int .i64 (q 0).k) := h0
        simpa [Addr.add] using World.cell?_spot this
      subst hspot
      refine ⟨b, off, rfl, ?_, fun i hi t ht u hu => ?_⟩
      · have : w.cell? (((⟨b, off, none⟩ : Addr).add (0 * 5)).add 0) = some (.int .i64 (q 0).k) := h0
        exact cell_lt (p := ⟨b, off, none⟩) (by simpa [Addr.add] using this)
      · rw [hlen] at hi
        rw [hget i hi] at hu
        have := (World.cells?_some (hq i hi).1).2.2 t ht
        rw [hu, Go.WideShapes.add_plain, Go.WideShapes.add_plain] at this
        exact this
    · obtain ⟨i, hi, rfl⟩ := List.mem_map.1 hy
      exact (hq i (by simpa using hi)).2.1
    · obtain ⟨i, hi, rfl⟩ := List.mem_map.1 hy
      exact (hq i (by simpa using hi)).2.2
end
end Go.Proofs.YtifddieoekbnfaaDoor
