/- A reply that came in, as the frame reads it. -/
import Derived.Test.YtbhojgodkblflaaFrSh
namespace Go.Proofs.Ytbhojgodkblflaa
open Go.RowKit Go.WideShapes
set_option linter.unusedSimpArgs false
set_option linter.unusedVariables false

/-- A reply. -/
structure Rp where
  why : Int
  n : Int
  na : Option Addr
  nn : Nat
  nc : Nat
  names : List ByteArray
  ra : Option Addr
  rn : Nat
  rc : Nat
  rows : Nat → Ch
  la : Option Addr
  ln : Nat
  lc : Nat
  locks : Nat → Lo
  ca : Option Addr
  cn : Nat
  cc : Nat
  cls : Nat → Cs
def Rp.F (x : Rp) : List Value := [.int .i64 x.why, .int .i64 x.n, .slice x.na x.nn x.nc, .slice x.ra x.rn x.rc, .slice x.la x.ln x.lc, .slice x.ca x.cn x.cc]
structure RpK (w : World) (x : Rp) : Prop where
  inn : RpIn w x.na x.nn x.names x.ra x.rn x.rows x.la x.ln x.locks x.ca x.cn x.cls
  ok : RpOk x.why x.n x.rn x.rows x.ln x.locks x.cn x.cls
section
variable {H : Type} {enc : TypeId × Value → H} {w : World} {base : Nat} {spare : Nat → Bool} {held : Bool} {fuel : Nat} {x : DataW H × List MemPlace}
theorem all_mem {P : Program} {e : TypeId} {m : Nat} {d : DataW H} (hm : m ∈ d.weights P e) : ∀ {elems : List (DataW H)}, d ∈ elems → m ∈ DataW.weightsAll P e elems
  | [], h => by cases h
  | y :: r, h => by
    simp only [DataW.weightsAll, List.mem_append]
    rcases List.mem_cons.1 h with rfl | h
    · exact .inl hm
    · exact .inr (all_mem hm h)
theorem rows_open {α : Type} [Inhabited α] (F : α → List Value) (k : Nat) {T e : TypeId} (hT : Try.prog.underlying T = some (.slice e)) (hk : Try.prog.cellsOf e = k) (P : α → DataW H → Prop) (hF : ∀ y, ∃ u0 r, F y = u0 :: r)
    (hc : ∀ (m : Nat) (cs : List Value) (y : DataW H × List MemPlace), cs.length = k → DataW.trod enc Try.prog w base spare held m e cs = some y → ∃ z, cs = F z ∧ P z y.1)
    {a : Option Addr} {n c : Nat} (h : DataW.trod enc Try.prog w base spare held fuel T [.slice a n c] = some x) :
    ∃ g : Nat → α, Rq F k w a n g ∧ ∀ i, i < n → ∃ d, P (g i) d ∧ ∀ m ∈ d.weights Try.prog e, m ∈ x.1.weights Try.prog T := by
  rcases Go.Deep.open_slice hT h with ⟨hcs, _⟩ | ⟨ad, len, cap, m, q, D, Pl, hcs, _, hl, hm, hmm, hx, hall⟩
  · simp at hcs
    obtain ⟨rfl, rfl, rfl⟩ := hcs
    exact ⟨fun _ => default, ⟨Nat.zero_le _, fun hp => absurd hp (by omega)⟩, fun i hi => absurd hi (by omega)⟩
  · simp at hcs
    obtain ⟨rfl, rfl, rfl⟩ := hcs
    have hlm : n ≤ m := by rw [hmm]; split <;> omega
    have each : ∀ i, i < n → ∃ z : α, w.cells? base (ad.add (i * k)) k = some (F z) ∧ P z (D i) := fun i hi => by
      obtain ⟨cs', h1, h2⟩ := hall i (by omega)
      rw [hk] at h1
      obtain ⟨z, h4, h5⟩ := hc _ _ _ (World.cells?_some h1).2.1 h2
      exact ⟨z, by rw [← h4]; exact h1, h5⟩
    obtain ⟨g, hg⟩ := Go.Deep.choose_lt each
    refine ⟨g, ⟨by omega, fun hp => ?_⟩, fun i hi => ⟨D i, (hg i hi).2, fun v hv => ?_⟩⟩
    · obtain ⟨b, off, spot⟩ := ad
      obtain ⟨u0, r, hu0⟩ := hF (g 0)
      have hkl : (F (g 0)).length = k := (World.cells?_some (hg 0 hp).1).2.1
      have h0 := (World.cells?_some (hg 0 hp).1).2.2 0 (by rw [← hkl, hu0]; simp)
      rw [hu0] at h0
      have hspot : spot = none := by
        have : w.cell? (((⟨b, off, spot⟩ : Addr).add (0 * k)).add 0) = some u0 := h0
        simpa [Addr.add] using World.cell?_spot this
      subst hspot
      refine ⟨b, off, rfl, ?_, fun i hi t u hu => ?_⟩
      · have : w.cell? (((⟨b, off, none⟩ : Addr).add (0 * k)).add 0) = some u0 := h0
        exact cell_lt (p := ⟨b, off, none⟩) (by simpa [Addr.add] using this)
      · have hki : (F (g i)).length = k := (World.cells?_some (hg i hi).1).2.1
        have ht : t < k := by rw [← hki]; exact (List.getElem?_eq_some_iff.1 hu).1
        have := (World.cells?_some (hg i hi).1).2.2 t ht
        rw [hu, Go.WideShapes.add_plain, Go.WideShapes.add_plain] at this
        exact this
    · rw [hx]
      simp only [DataW.weights, hT]
      refine List.mem_cons_of_mem _ (List.mem_append_left _ (all_mem hv ?_))
      exact List.mem_map.2 ⟨i, List.mem_range.2 hi, rfl⟩
set_option maxRecDepth 100000 in
theorem ch_cells {cs : List Value} (hl7 : cs.length = 7) (h : DataW.trod enc Try.prog w base spare held fuel 37 cs = some x) : ∃ y : Ch, cs = chF y ∧ (isI y.a ∧ isI y.b) := by
  obtain ⟨c0, c1, c2, c3, c4, c5, c6, rfl⟩ : ∃ c0 c1 c2 c3 c4 c5 c6, cs = [c0, c1, c2, c3, c4, c5, c6] := by
    match cs, hl7 with
    | [a, b, c, d, e, f, g], _ => exact ⟨a, b, c, d, e, f, g, rfl⟩
  obtain ⟨y0, y1, y2, n, _, _, g0, g1, g2⟩ := Go.Deep.trod_struct3 Try.underlying37 h
  replace g0 : DataW.trod enc Try.prog w base spare held n 28 [c0, c1, c2, c3, c4] = some y0 := g0
  replace g1 : DataW.trod enc Try.prog w base spare held n 2 [c5] = some y1 := g1
  replace g2 : DataW.trod enc Try.prog w base spare held n 2 [c6] = some y2 := g2
  obtain ⟨i0, i1, i2, i3, i4, rfl, rfl, rfl, rfl, rfl, q0⟩ := c5_cells g0
  obtain ⟨a, e1, _, q1⟩ := DataW.trod_int Try.underlying2 g1
  obtain ⟨b, e2, _, q2⟩ := DataW.trod_int Try.underlying2 g2
  simp only [List.cons.injEq, and_true] at e1 e2
  subst e1 e2
  exact ⟨⟨i0, i1, i2, i3, i4, a, b⟩, rfl, isI_of q1, isI_of q2⟩
set_option maxRecDepth 100000 in
theorem lo_cells {cs : List Value} (hl6 : cs.length = 6) (h : DataW.trod enc Try.prog w base spare held fuel 39 cs = some x) : ∃ y : Lo, cs = loF y ∧ y.u.size ∈ x.1.weights Try.prog 39 := by
  obtain ⟨c0, c1, c2, c3, c4, c5, rfl⟩ : ∃ c0 c1 c2 c3 c4 c5, cs = [c0, c1, c2, c3, c4, c5] := by
    match cs, hl6 with
    | [a, b, c, d, e, f], _ => exact ⟨a, b, c, d, e, f, rfl⟩
  obtain ⟨y0, y1, n, hx, _, g0, g1⟩ := Go.ChangeShapes.trod_struct2 Try.underlying39 h
  replace g0 : DataW.trod enc Try.prog w base spare held n 28 [c0, c1, c2, c3, c4] = some y0 := g0
  replace g1 : DataW.trod enc Try.prog w base spare held n 9 [c5] = some y1 := g1
  obtain ⟨i0, i1, i2, i3, i4, rfl, rfl, rfl, rfl, rfl, q0⟩ := c5_cells g0
  obtain ⟨u, e1, hy1, q1⟩ := DataW.trod_string Try.underlying9 g1
  simp only [List.cons.injEq, and_true] at e1
  subst e1
  refine ⟨⟨i0, i1, i2, i3, i4, u⟩, rfl, ?_⟩
  rw [hx]
  simp only [DataW.weights, Try.underlying39]
  refine DataW.weights_mem_each (j := 1) (t := 9) (d := y1.1) rfl rfl _ ?_
  rw [hy1]
  simp [DataW.weights]
set_option maxRecDepth 100000 in
theorem reply_open {v : Value} {r : Reach} {b0 : Nat} (hv : Value.okWide Try.prog w r b0 53 v) (h : DataW.trod enc Try.prog w base spare held fuel 53 v.cells.toList = some x) (hw : ∀ n ∈ x.1.weights Try.prog 53, n ≤ reachBytes) :
    ∃ y : Rp, v = .agg y.F.toArray ∧ RpK w y := by
  obtain ⟨cs, rfl, hcs⟩ := okWide_struct Try.underlying53 hv
  have h4' : Try.prog.cellsOf 53 = 6 := by kernel_rfl
  have h4 : cs.size = 6 := hcs.trans h4'
  obtain ⟨c0, c1, c2, c3, c4, c5, rfl⟩ : ∃ c0 c1 c2 c3 c4 c5, cs = #[c0, c1, c2, c3, c4, c5] := by
    obtain ⟨l⟩ := cs
    match l, h4 with
    | [a, b, c, d, e, f], _ => exact ⟨a, b, c, d, e, f, rfl⟩
  obtain ⟨xs, n, _, hx, hl, hlen, hf⟩ := DataW.trod_struct Try.underlying53 h
  have hx5 : xs.length = 6 := hlen
  have g0 := hf 0 _ rfl
  have g1 := hf 1 _ rfl
  have g2 := hf 2 _ rfl
  have g3 := hf 3 _ rfl
  have g4 := hf 4 _ rfl
  have g5 := hf 5 _ rfl
  rw [List.getElem?_eq_getElem (by omega)] at g0 g1 g2 g3 g4 g5
  replace g0 : DataW.trod enc Try.prog w base spare held n 40 [c0] = some xs[0] := g0
  replace g1 : DataW.trod enc Try.prog w base spare held n 2 [c1] = some xs[1] := g1
  replace g2 : DataW.trod enc Try.prog w base spare held n 23 [c2] = some xs[2] := g2
  replace g3 : DataW.trod enc Try.prog w base spare held n 49 [c3] = some xs[3] := g3
  replace g4 : DataW.trod enc Try.prog w base spare held n 50 [c4] = some xs[4] := g4
  replace g5 : DataW.trod enc Try.prog w base spare held n 51 [c5] = some xs[5] := g5
  obtain ⟨why, e0, _, q0⟩ := DataW.trod_int Try.underlying40 g0
  obtain ⟨nn, e1, _, q1⟩ := DataW.trod_int Try.underlying2 g1
  simp only [List.cons.injEq, and_true] at e0 e1
  subst e0 e1
  obtain ⟨na, n2, nc, names, rfl, hS, _⟩ := strs_open g2
  obtain ⟨ra, rn, rc, rfl⟩ : ∃ a n c, c3 = .slice a n c := by
    rcases Go.Deep.open_slice Try.underlying49 g3 with ⟨hcs, _⟩ | ⟨ad, len, cap, m, q, D, Pl, hcs, _⟩ <;> (simp at hcs; exact ⟨_, _, _, hcs⟩)
  obtain ⟨la, ln, lc, rfl⟩ : ∃ a n c, c4 = .slice a n c := by
    rcases Go.Deep.open_slice Try.underlying50 g4 with ⟨hcs, _⟩ | ⟨ad, len, cap, m, q, D, Pl, hcs, _⟩ <;> (simp at hcs; exact ⟨_, _, _, hcs⟩)
  obtain ⟨ca, cn, cc, rfl⟩ : ∃ a n c, c5 = .slice a n c := by
    rcases Go.Deep.open_slice Try.underlying51 g5 with ⟨hcs, _⟩ | ⟨ad, len, cap, m, q, D, Pl, hcs, _⟩ <;> (simp at hcs; exact ⟨_, _, _, hcs⟩)
  haveI : Inhabited Ch := ⟨⟨0, 0, 0, 0, 0, 0, 0⟩⟩
  haveI : Inhabited Lo := ⟨⟨0, 0, 0, 0, 0, ByteArray.empty⟩⟩
  haveI : Inhabited Cs := ⟨⟨0, 0, 0, 0, 0, 0, 0, 0, false⟩⟩
  obtain ⟨rows, hR, hr⟩ := rows_open chF 7 Try.underlying49 (by kernel_rfl) (fun z _ => isI z.a ∧ isI z.b) (fun y => ⟨_, _, rfl⟩) (fun m cs y hl h => ch_cells hl h) g3
  obtain ⟨locks, hL, hl'⟩ := rows_open loF 6 Try.underlying50 (by kernel_rfl) (fun z d => z.u.size ∈ d.weights Try.prog 39) (fun y => ⟨_, _, rfl⟩) (fun m cs y hl h => lo_cells hl h) g4
  obtain ⟨cls, hC, hc⟩ := rows_open csF 9 Try.underlying51 (by kernel_rfl) (fun z _ => csOk z) (fun y => ⟨_, _, rfl⟩) (fun m cs y hl h => cs_cells hl h) g5
  refine ⟨⟨why, nn, na, n2, nc, names, ra, rn, rc, rows, la, ln, lc, locks, ca, cn, cc, cls⟩, rfl, ⟨hS, hR, hL, hC⟩, ⟨isI_of q0, isI_of q1, fun i hi => ?_, fun i hi => ?_, fun i hi => ?_⟩⟩
  · obtain ⟨d, hd, _⟩ := hr i hi
    exact hd
  · obtain ⟨d, hd, hm⟩ := hl' i hi
    have h1 : (locks i).u.size ≤ reachBytes := hw _ (by
      rw [hx]
      simp only [DataW.weights, Try.underlying53]
      exact DataW.weights_mem_each (j := 4) (t := 50) (d := (xs[4]).1) rfl (by simp [List.getElem?_eq_getElem (show 4 < xs.length by omega)]) _ (hm _ hd))
    have hrb : reachBytes = 140737488351232 := rfl
    show (locks i).u.size ≤ 140737488351232
    rw [← hrb]; exact h1
  · obtain ⟨d, hd, _⟩ := hc i hi
    exact hd.2
end
end Go.Proofs.Ytbhojgodkblflaa
