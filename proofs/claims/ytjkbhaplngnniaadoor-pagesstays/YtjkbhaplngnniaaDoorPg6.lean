/- pages: Set. -/
import Derived.Test.YtjkbhaplngnniaaDoorPg5
import Derived.Deep.CutRange
import Derived.Deep.RegionHeld3
namespace Go.Proofs.YtjkbhaplngnniaaDoor
open Go.RowKit Go.Maps
set_option linter.unusedSimpArgs false
set_option linter.unusedVariables false

/-- An arena, and what was last told. -/
structure PSt where
  n : Nat
  rf : Int → Nat
  nd : Int → ANd
  id : Int
  er : Int
/-- One node more above. -/
def AbvS (most : Int) (s : PSt) (y : ANd) (t : PSt) : Prop :=
  ∃ x, LowN s.rf x ∧ t.n = abN s.rf most s.n y x ∧ t.nd = abD s.rf most s.n s.nd y x ∧ t.id = abI s.rf most s.n y x ∧ t.er = abE s.rf most s.n y ∧ DropZ (abD s.rf most s.n s.nd y x) (abF s.rf most s.n y x) s.id t.rf
/-- From the level l on, k levels, till one fails. -/
def SetEnd (most : Int) (yl : Nat → Int → ANd) : Nat → Nat → PSt → PSt → Prop
  | 0, _, s, t => t = s
  | k + 1, l, s, t => (s.er ≠ 0 ∧ t = s) ∨ (s.er = 0 ∧ ∃ u, AbvS most s (yl l s.id) u ∧ SetEnd most yl k (l + 1) u t)
/-- The nodes of the new way. -/
def newN (nd : Int → ANd) (c root : Int) (L : Nat) (e : Int × Bool) (l : Nat) (id : Int) : ANd :=
  if l = 1 then ⟨true, (wN nd c root L 1).kids, (wN nd c root L 1).vals.set (dig c 1).toNat e⟩ else ⟨(wN nd c root L l).leaf, (wN nd c root L l).kids.set (dig c l).toNat id, (wN nd c root L l).vals⟩
theorem newN_ok {nd : Int → ANd} (h : ∀ i, (nd i).kids.length = 8 ∧ (nd i).vals.length = 8) (c root : Int) (L : Nat) (e : Int × Bool) (l : Nat) (id : Int) : (newN nd c root L e l id).kids.length = 8 ∧ (newN nd c root L e l id).vals.length = 8 := by
  unfold newN
  split
  · have := wN_ok h c root L 1
    exact ⟨this.1, by simpa using this.2⟩
  · have := wN_ok h c root L l
    exact ⟨by simpa using this.1, this.2⟩
theorem ndL_setV {y : ANd} (hk : y.kids.length = 8) (hv : y.vals.length = 8) {d : Nat} (hd : d < 8) (a : Int) (b : Bool) : setL (ndL y) (9 + d * 2) [.int .i64 a, .bool b] = ndL ⟨y.leaf, y.kids, y.vals.set d (a, b)⟩ := by
  obtain ⟨lf, ks, vs⟩ := y
  obtain ⟨a0, a1, a2, a3, a4, a5, a6, a7, rfl⟩ := eight hk
  obtain ⟨b0, b1, b2, b3, b4, b5, b6, b7, rfl⟩ := eight hv
  have : d = 0 ∨ d = 1 ∨ d = 2 ∨ d = 3 ∨ d = 4 ∨ d = 5 ∨ d = 6 ∨ d = 7 := by omega
  rcases this with rfl | rfl | rfl | rfl | rfl | rfl | rfl | rfl <;> rfl
theorem ndL_setK {y : ANd} (hk : y.kids.length = 8) {d : Nat} (hd : d < 8) (i : Int) : setL (ndL y) (1 + d) [.int .i64 i] = ndL ⟨y.leaf, y.kids.set d i, y.vals⟩ := by
  obtain ⟨lf, ks, vs⟩ := y
  obtain ⟨a0, a1, a2, a3, a4, a5, a6, a7, rfl⟩ := eight hk
  have : d = 0 ∨ d = 1 ∨ d = 2 ∨ d = 3 ∨ d = 4 ∨ d = 5 ∨ d = 6 ∨ d = 7 := by omega
  rcases this with rfl | rfl | rfl | rfl | rfl | rfl | rfl | rfl <;> rfl
theorem ndL_setF (y : ANd) (b : Bool) : setL (ndL y) 0 [.bool b] = ndL ⟨b, y.kids, y.vals⟩ := rfl
/-- Cells of a row are written, wherever the row begins. -/
theorem range_setAt {w : World} {b f o : Nat} {L : List Value} (h : w.rangeAt b f L) (M : List Value) (hM : o + M.length ≤ L.length) : (w.setCells b (f + o) M).rangeAt b f (setL L o M) := by
  intro j v hv
  have hj : j < L.length := by have := (List.getElem?_eq_some_iff.1 hv).1; rw [setL_len] at this; exact this
  by_cases c : o ≤ j ∧ j < o + M.length
  · obtain ⟨i, rfl⟩ : ∃ i, j = o + i := ⟨j - o, by omega⟩
    rw [setL_in _ _ _ _ (by omega) hj] at hv
    rw [show f + (o + i) = f + o + i by omega, World.cell?_setCells_in b M (f + o) w (fun i hi => by
      have := h (o + i) _ (List.getElem?_eq_getElem (show o + i < L.length by omega))
      rw [show f + (o + i) = f + o + i by omega] at this
      rw [this]; rfl) i (by omega), ← hv, List.getElem?_eq_getElem (by omega)]
  · rw [setL_out _ _ _ _ (by omega)] at hv
    rw [World.cell?_setCells_out b M (f + o) w _ (fun _ _ => by simp only; omega)]
    exact h j v hv
section
variable {w0 W : World} {g p q : Nat} {F : Nat → Prop} {codes most : Int} {n : Nat} {rf : Int → Nat} {nd : Int → ANd} {M : Nat} {n2 : Nat} {rf2 : Int → Nat} {nd2 : Int → ANd} {M2 : Nat}
/-- A block that is neither's is written. -/
theorem BA.poke {W' : World} {b : Nat} (h : BA w0 W p q F most n rf nd M n2 rf2 nd2 M2) (hb : F b) (c : Chg (fun j => j = b) W W') : BA w0 W' p q F most n rf nd M n2 rf2 nd2 M2 := by
  obtain ⟨ow, bL, bN, cL, cN, xs, h1, h2, h3, h4⟩ := h
  obtain ⟨f1, f2, f3, f4⟩ := h4 b hb
  refine ⟨ow, bL, bN, cL, cN, xs, h1.chg c (fun j e => by omega) (fun e => f3 (.inl e.symm)) (fun g hg e => f3 (.inr (by rw [← e]; exact hg))), h2.chg c (fun e => f4 (.inl e.symm)) (fun e => f4 (.inr (.inl e.symm))) (fun e => f4 (.inr (.inr e.symm))), h3, fun j hj => ?_⟩
  obtain ⟨g1, g2, g3⟩ := h4 j hj
  exact ⟨g1, Nat.lt_of_lt_of_le g2 c.size, g3⟩
theorem Fx.poke {W' : World} {b : Nat} (hb : ¬ F b) (hl : ∀ j, F j → j < W.heap.size) (c : Chg (fun j => j = b) W W') : Fx F W W' := fun j hj => c.block j (hl j hj) (fun e => hb (by rw [← e]; exact hj))
theorem BA.as (h : BA w0 W p q F most n rf nd M n2 rf2 nd2 M2) : ∃ ow, AS w0 W p ow most n rf nd M := by
  obtain ⟨ow, bL, bN, cL, cN, xs, h1, _⟩ := h
  exact ⟨ow, h1⟩
theorem abv_ex (most : Int) (s : PSt) (y : ANd) (hy : y.kids.length = 8 ∧ y.vals.length = 8) (hn : ∀ i, (s.nd i).kids.length = 8 ∧ (s.nd i).vals.length = 8) (ho : RfOk s.n s.rf) : ∃ t, AbvS most s y t := by
  obtain ⟨x, hx⟩ := low_ex ho
  have hk : ∀ i, (kdA (abD s.rf most s.n s.nd y x) i).length = 8 := fun i => by
    unfold kdA abD mkD
    split
    · exact (hn i).1
    · split
      · unfold updN; split
        · exact (bareN_ok hy.1 hy.2).1
        · exact (hn i).1
      · exact (hn i).1
  have hok : RfOk (abN s.rf most s.n y x) (abF s.rf most s.n y x) := by
    unfold abN abF mkN mkF
    split
    · exact ho
    · split
      · intro i hi
        have h1 := hx.one
        rw [setR_other _ _ (by omega)]
        exact incR_ok ho _ i (by omega)
      · exact ho
  by_cases h0 : s.id = 0
  · exact ⟨⟨abN s.rf most s.n y x, abF s.rf most s.n y x, abD s.rf most s.n s.nd y x, abI s.rf most s.n y x, abE s.rf most s.n y⟩, x, hx, rfl, rfl, rfl, rfl, .inl ⟨h0, rfl⟩⟩
  · obtain ⟨K, r, hr⟩ := drops_ex (kdA (abD s.rf most s.n s.nd y x)) hk (abN s.rf most s.n y x) (9 * totR (abF s.rf most s.n y x) (abN s.rf most s.n y x) + 1) (abF s.rf most s.n y x) [s.id] hok (by simp)
    exact ⟨⟨abN s.rf most s.n y x, r, abD s.rf most s.n s.nd y x, abI s.rf most s.n y x, abE s.rf most s.n y⟩, x, hx, rfl, rfl, rfl, rfl, .inr ⟨h0, K, hr⟩⟩
theorem pg_aboveS {s : PSt} (h : BA w0 W p q F most s.n s.rf s.nd M n2 rf2 nd2 M2) (hV : Vars w0) (hG : PG W g p codes) (hF : F g) (hM : M + 9 ≤ 4611686018427387904) (y : ANd) (hy : y.kids.length = 8 ∧ y.vals.length = 8) (t : PSt) (ht : AbvS most s y t) :
    Calls Tryd.prog 42 #[.pointer (some ⟨g, 0, none⟩), .int .i64 s.id, ndV y] W fun e w' => e = .returned (.tuple #[.int .i64 t.id, .int .i64 t.er]) ∧ BA w0 w' p q F most t.n t.rf t.nd (M + 9) n2 rf2 nd2 M2 ∧ Fx F W w' := by
  obtain ⟨x, hx, e1, e2, e3, e4, e5⟩ := ht
  rw [e1, e2, e3, e4]
  exact pg_above h hV hG hF hM s.id y hy x hx t.rf e5
end
end Go.Proofs.YtjkbhaplngnniaaDoor
