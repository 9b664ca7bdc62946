/- Acts of users that came in, as the frame reads them. -/
import Derived.Test.YtmedgkccicbieaaGreatQLaw14K
import Derived.Test.YtmedgkccicbieaaGreatQCellsFr
namespace Go.Proofs.YtmedgkccicbieaaGreat
open Go.RowKit Go.Maps
set_option linter.unusedSimpArgs false
set_option linter.unusedVariables false

/-- An act: a cell, a user, and whether it is dropped. -/
abbrev Au := Cl × ByteArray × Bool
def auF (x : Au) : List Value := clF x.1 ++ [.string x.2.1, .bool x.2.2]
def auA (l : List Au) (i : Nat) : Au := l.getD i ((0, 0, 0, 0, 0), ByteArray.empty, false)
/-- Acts that came in. -/
structure Uq (w : World) (a : Option Addr) (n : Nat) (l : List Au) : Prop where
  len : l.length = n
  big : n ≤ maxLen
  sz : ∀ i, i < l.length → (auA l i).2.1.size ≤ maxLen
  cells : 0 < l.length → ∃ b o, a = some ⟨b, o, none⟩ ∧ b < w.heap.size ∧ ∀ i, i < l.length → ∀ t, t < 7 → ∀ u, (auF (auA l i))[t]? = some u → w.cell? ⟨b, o + i * 7 + t, none⟩ = some u
theorem Uq.kept {w w' : World} {a : Option Addr} {n : Nat} {l : List Au} (h : Uq w a n l) (g : Kept w w') : Uq w' a n l :=
  ⟨h.len, h.big, h.sz, fun hp => by
    obtain ⟨c, o, h1, h2, h3⟩ := h.cells hp
    exact ⟨c, o, h1, Nat.lt_of_lt_of_le h2 g.size, fun i hi t ht u hu => g.cellp (h3 i hi t ht u hu)⟩⟩
theorem Uq.at {w : World} {b o n : Nat} {l : List Au} (h : Uq w (some ⟨b, o, none⟩) n l) {i : Nat} (hi : i < l.length) : b < w.heap.size ∧ w.cell? ⟨b, o + i * 7, none⟩ = some (.int .i64 (auA l i).1.1) ∧ w.cell? ⟨b, o + i * 7 + 1, none⟩ = some (.int .i64 (auA l i).1.2.1) ∧ w.cell? ⟨b, o + i * 7 + 2, none⟩ = some (.int .i64 (auA l i).1.2.2.1) ∧ w.cell? ⟨b, o + i * 7 + 3, none⟩ = some (.int .i64 (auA l i).1.2.2.2.1) ∧ w.cell? ⟨b, o + i * 7 + 4, none⟩ = some (.int .i64 (auA l i).1.2.2.2.2) ∧ w.cell? ⟨b, o + i * 7 + 5, none⟩ = some (.string (auA l i).2.1) ∧ w.cell? ⟨b, o + i * 7 + 6, none⟩ = some (.bool (auA l i).2.2) := by
  obtain ⟨b', o', e, hl, h3⟩ := h.cells (by omega)
  cases e
  exact ⟨hl, h3 i hi 0 (by omega) _ rfl, h3 i hi 1 (by omega) _ rfl, h3 i hi 2 (by omega) _ rfl, h3 i hi 3 (by omega) _ rfl, h3 i hi 4 (by omega) _ rfl, h3 i hi 5 (by omega) _ rfl, h3 i hi 6 (by omega) _ rfl⟩
theorem Uq.form {w : World} {a : Option Addr} {n : Nat} {l : List Au} (h : Uq w a n l) (hp : 0 < l.length) : ∃ b o, a = some ⟨b, o, none⟩ := by
  obtain ⟨b, o, e, _⟩ := h.cells hp
  exact ⟨b, o, e⟩
theorem okWide_arr {P : Program} {w : World} {r : Reach} {base : Nat} {t : TypeId} {v : Value} {n : Nat} {e : TypeId} (ht : P.underlying t = some (.array n e)) (h : Value.okWide P w r base t v) : ∃ cs, v = .agg cs ∧ cs.size = P.cellsOf t := by
  simp only [Value.okWide, ht] at h
  obtain ⟨cs, h1, h2, _⟩ := h
  exact ⟨cs, h1, h2⟩
section
variable {H : Type} {enc : TypeId × Value → H} {w : World} {base : Nat} {spare : Nat → Bool} {held : Bool} {fuel : Nat} {x : DataW H × List MemPlace}
theorem au_sz : Tryz.prog.cellsOf 69 = 7 := by kernel_rfl
set_option maxRecDepth 100000 in
theorem au_cells {cs : List Value} (hl : cs.length = 7) (h : DataW.trod enc Tryz.prog w base spare held fuel 69 cs = some x) : ∃ y : Au, cs = auF y ∧ y.2.1.size ≤ maxLen := by
  obtain ⟨c0, c1, c2, c3, c4, c5, c6, rfl⟩ : ∃ c0 c1 c2 c3 c4 c5 c6, cs = [c0, c1, c2, c3, c4, c5, c6] := by
    match cs, hl with
    | [a, b, c, d, e, f, g], _ => exact ⟨a, b, c, d, e, f, g, rfl⟩
  obtain ⟨y0, y1, y2, n, _, _, g0, g1, g2⟩ := Go.Deep.trod_struct3 Tryz.underlying69 h
  replace g0 : DataW.trod enc Tryz.prog w base spare held n 29 [c0, c1, c2, c3, c4] = some y0 := g0
  replace g1 : DataW.trod enc Tryz.prog w base spare held n 9 [c5] = some y1 := g1
  replace g2 : DataW.trod enc Tryz.prog w base spare held n 4 [c6] = some y2 := g2
  obtain ⟨y, e0⟩ := cl_cells rfl g0
  obtain ⟨s1, e1, _, hz⟩ := DataW.trod_string Tryz.underlying9 g1
  obtain ⟨i1, e2, _⟩ := DataW.trod_bool Tryz.underlying4 g2
  simp only [List.cons.injEq, and_true] at e1 e2
  subst e1 e2
  exact ⟨(y, s1, i1), by rw [show [c0, c1, c2, c3, c4, Value.string s1, Value.bool i1] = [c0, c1, c2, c3, c4] ++ [.string s1, .bool i1] from rfl, e0]; rfl, hz⟩
theorem acts_openU {a : Option Addr} {n c : Nat} (h : DataW.trod enc Tryz.prog w base spare held fuel 63 [.slice a n c] = some x) : ∃ l : List Au, Uq w a n l := by
  rcases Go.Deep.open_slice Tryz.underlying63 h with ⟨hcs, _⟩ | ⟨ad, len, cap, m, k, D, Pl, hcs, _, hl, hm, hmm, _, hall⟩
  · simp at hcs
    obtain ⟨rfl, rfl, rfl⟩ := hcs
    exact ⟨[], rfl, Nat.zero_le _, fun i hi => absurd hi (by simp), fun hp => absurd hp (by simp)⟩
  · simp at hcs
    obtain ⟨rfl, rfl, rfl⟩ := hcs
    have hlm : n ≤ m := by rw [hmm]; split <;> omega
    have each : ∀ i, i < n → ∃ q : Au, w.cells? base (ad.add (i * 7)) 7 = some (auF q) ∧ q.2.1.size ≤ maxLen := fun i hi => by
      obtain ⟨cs', h1, h2⟩ := hall i (by omega)
      rw [au_sz] at h1
      obtain ⟨q, h4, h5⟩ := au_cells (World.cells?_some h1).2.1 h2
      exact ⟨q, by rw [← h4]; exact h1, h5⟩
    haveI : Inhabited Au := ⟨((0, 0, 0, 0, 0), ByteArray.empty, false)⟩
    obtain ⟨q, hq⟩ := Go.Deep.choose_lt each
    have hget : ∀ i, i < n → auA ((List.range n).map q) i = q i := fun i hi => by simp [auA, List.getD, hi]
    refine ⟨(List.range n).map q, by simp, by omega, fun i hi => (by rw [List.length_map, List.length_range] at hi; rw [hget i hi]; exact (hq i hi).2), fun hp => ?_⟩
    rw [List.length_map, List.length_range] at hp
    obtain ⟨b, off, spot⟩ := ad
    have h0 := (World.cells?_some (hq 0 hp).1).2.2 0 (by omega)
    have hspot : spot = none := by
      have : w.cell? (((⟨b, off, spot⟩ : Addr).add (0 * 7)).add 0) = some (.int .i64 (q 0).1.1) := h0
      simpa [Addr.add] using World.cell?_spot this
    subst hspot
    refine ⟨b, off, rfl, ?_, fun i hi t ht u hu => ?_⟩
    · have : w.cell? (((⟨b, off, none⟩ : Addr).add (0 * 7)).add 0) = some (.int .i64 (q 0).1.1) := h0
      exact cell_lt (p := ⟨b, off, none⟩) (by simpa [Addr.add] using this)
    · rw [List.length_map, List.length_range] at hi
      rw [hget i hi] at hu
      have := (World.cells?_some (hq i hi).1).2.2 t ht
      rw [hu, Go.WideShapes.add_plain, Go.WideShapes.add_plain] at this
      exact this
set_option maxRecDepth 100000 in
theorem users_open {v : Value} {r : Reach} {b0 : Nat} (hv : Value.okWide Tryz.prog w r b0 89 v) (h : DataW.trod enc Tryz.prog w base spare held fuel 89 v.cells.toList = some x) :
    ∃ u0 u1, v = .agg #[.string u0, .string u1] ∧ u0.size ≤ maxLen ∧ u1.size ≤ maxLen := by
  obtain ⟨cs, rfl, hcs⟩ := okWide_arr Tryz.underlying89 hv
  have h2' : Tryz.prog.cellsOf 89 = 2 := by kernel_rfl
  have h2 : cs.size = 2 := hcs.trans h2'
  obtain ⟨c0, c1, rfl⟩ : ∃ c0 c1, cs = #[c0, c1] := by
    obtain ⟨l⟩ := cs
    match l, h2 with
    | [a, b], _ => exact ⟨a, b, rfl⟩
  obtain ⟨xs, m, _, _, _, hl, hall⟩ := DataW.trod_array Tryz.underlying89 h
  have hc : Tryz.prog.cellsOf 9 = 1 := by kernel_rfl
  match xs, hl with
  | [x0, x1], _ =>
    have g0 := hall 0 (by omega)
    have g1 := hall 1 (by omega)
    rw [hc] at g0 g1
    replace g0 : DataW.trod enc Tryz.prog w base spare held m 9 [c0] = some x0 := g0
    replace g1 : DataW.trod enc Tryz.prog w base spare held m 9 [c1] = some x1 := g1
    obtain ⟨s0, e0, _, z0⟩ := DataW.trod_string Tryz.underlying9 g0
    obtain ⟨s1, e1, _, z1⟩ := DataW.trod_string Tryz.underlying9 g1
    simp only [List.cons.injEq, and_true] at e0 e1
    subst e0 e1
    exact ⟨s0, s1, rfl, z0, z1⟩
end
end Go.Proofs.YtmedgkccicbieaaGreat
