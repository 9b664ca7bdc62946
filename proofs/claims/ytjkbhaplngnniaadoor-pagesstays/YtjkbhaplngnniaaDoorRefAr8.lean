/- An arena of the program's and one of the definition's in one memory, apart; what each act does to them. -/
import Derived.Test.YtjkbhaplngnniaaDoorRefAr6
import Derived.Test.YtjkbhaplngnniaaDoorRefAr7
namespace Go.Proofs.YtjkbhaplngnniaaDoor
open Go.RowKit Go.Maps
set_option linter.unusedSimpArgs false
set_option linter.unusedVariables false

/-- Both arenas: the program's in block p, the definition's in block q, and blocks F that are neither's. -/
def BA (w0 W : World) (p q : Nat) (F : Nat → Prop) (most : Int) (n : Nat) (rf : Int → Nat) (nd : Int → ANd) (M : Nat) (n2 : Nat) (rf2 : Int → Nat) (nd2 : Int → ANd) (M2 : Nat) : Prop :=
  ∃ ow bL bN cL cN xs, AS w0 W p ow most n rf nd M ∧ RQ W w0.heap.size q most n2 rf2 nd2 M2 bL bN cL cN xs ∧ (∀ j, (j = p ∨ ow = some j) → ¬ (j = q ∨ j = bL ∨ j = bN)) ∧ (∀ j, F j → w0.heap.size ≤ j ∧ j < W.heap.size ∧ ¬ (j = p ∨ ow = some j) ∧ ¬ (j = q ∨ j = bL ∨ j = bN))
section
variable {w0 W : World} {p q : Nat} {F : Nat → Prop} {most : Int} {n : Nat} {rf : Int → Nat} {nd : Int → ANd} {M : Nat} {n2 : Nat} {rf2 : Int → Nat} {nd2 : Int → ANd} {M2 : Nat}
theorem RQ.lts {w : World} {B bL bN cL cN : Nat} {xs : List Value} (h : RQ w B q most n rf nd M bL bN cL cN xs) : q < w.heap.size ∧ bL < w.heap.size ∧ bN < w.heap.size ∧ B ≤ q ∧ B ≤ bL ∧ B ≤ bN :=
  ⟨cell_lt h.c0, (World.ownsRow.lt h.ownL bL rfl).2, (h.ownN.lt bN rfl).2, h.low, (World.ownsRow.lt h.ownL bL rfl).1, (h.ownN.lt bN rfl).1⟩
theorem RQ.lower {w : World} {B B' bL bN cL cN : Nat} {xs : List Value} (h : RQ w B q most n rf nd M bL bN cL cN xs) (hB : B' ≤ B) : RQ w B' q most n rf nd M bL bN cL cN xs := by
  refine ⟨h.c0, h.c1, h.c2, h.fz, ?_, ?_, h.nodes, h.ok, h.kok, Nat.le_trans hB h.low, h.nm, h.rb, h.Mb, h.d1, h.d2, h.d3⟩
  · obtain ⟨h0, ⟨h1, _⟩ | ⟨k, cap, cur, hv, hb', hh, r⟩⟩ := h.ownL
    · cases h1
    · exact ⟨h0, .inr ⟨k, cap, cur, hv, Nat.le_trans hB hb', hh, r⟩⟩
  · obtain ⟨h0, ⟨h1, _⟩ | ⟨k, cap, cur, hv, hb', hh, r⟩⟩ := h.ownN
    · cases h1
    · exact ⟨h0, .inr ⟨k, cap, cur, hv, Nat.le_trans hB hb', hh, r⟩⟩
theorem RQ.raise {w : World} {B bL bN cL cN : Nat} {xs : List Value} (h : RQ w B q most n rf nd M bL bN cL cN xs) {M' : Nat} (h1 : M ≤ M') (h2 : M' ≤ 4611686018427387904) : RQ w B q most n rf nd M' bL bN cL cN xs :=
  ⟨h.c0, h.c1, h.c2, h.fz, h.ownL, h.ownN, h.nodes, h.ok, h.kok, h.low, h.nm, fun i => Nat.le_trans (h.rb i) h1, h2, h.d1, h.d2, h.d3⟩
theorem BA.keep {Y : World} (h : BA w0 W p q F most n rf nd M n2 rf2 nd2 M2) (k : Kept W Y) : BA w0 Y p q F most n rf nd M n2 rf2 nd2 M2 := by
  obtain ⟨ow, bL, bN, cL, cN, xs, h1, h2, h3, h4⟩ := h
  exact ⟨ow, bL, bN, cL, cN, xs, h1.keep k, h2.kept k, h3, fun j hj => ⟨(h4 j hj).1, Nat.lt_of_lt_of_le (h4 j hj).2.1 k.size, (h4 j hj).2.2⟩⟩
theorem BA.with {Y : World} {F' : Nat → Prop} (h : BA w0 W p q F most n rf nd M n2 rf2 nd2 M2) (k : Kept W Y) (hF : ∀ j, F' j → F j ∨ (W.heap.size ≤ j ∧ j < Y.heap.size)) : BA w0 Y p q F' most n rf nd M n2 rf2 nd2 M2 := by
  obtain ⟨ow, bL, bN, cL, cN, xs, h1, h2, h3, h4⟩ := h
  refine ⟨ow, bL, bN, cL, cN, xs, h1.keep k, h2.kept k, h3, fun j hj => ?_⟩
  rcases hF j hj with e | ⟨e1, e2⟩
  · exact ⟨(h4 j e).1, Nat.lt_of_lt_of_le (h4 j e).2.1 k.size, (h4 j e).2.2⟩
  · have g1 := h1.ok.2.2.2.2.2.2.1
    have g2 := h1.ok.2.2.2.2.2.2.2
    have g3 := h2.lts
    have g4 := h1.1.size
    refine ⟨by omega, e2, ?_, by omega⟩
    rintro (e | e)
    · omega
    · have := (g2 j e).1; omega
theorem BA.kept (h : BA w0 W p q F most n rf nd M n2 rf2 nd2 M2) : Kept w0 W := by
  obtain ⟨ow, bL, bN, cL, cN, xs, h1, h2, h3, h4⟩ := h
  exact h1.1
/-- Cells of blocks that are neither's stay. -/
def Fx (F : Nat → Prop) (W W' : World) : Prop := ∀ b, F b → W'.heap[b]? = W.heap[b]?
theorem Fx.cell {W' : World} (h : Fx F W W') {b : Nat} (hb : F b) {o : Nat} {v : Value} (hc : W.cell? ⟨b, o, none⟩ = some v) : W'.cell? ⟨b, o, none⟩ = some v := by
  have e : W'.cell? ⟨b, o, none⟩ = W.cell? ⟨b, o, none⟩ := by simp only [World.cell?, h b hb]
  rw [e]; exact hc
theorem Fx.there {W' : World} (h : Fx F W W') {b : Nat} (hb : F b) {o n : Nat} (hc : W.there b o n) : W'.there b o n := fun j hj => by
  have e : W'.cell? ⟨b, o + j, none⟩ = W.cell? ⟨b, o + j, none⟩ := by simp only [World.cell?, h b hb]
  have e2 : W'.frozen? ⟨b, o + j, none⟩ = W.frozen? ⟨b, o + j, none⟩ := by simp only [World.frozen?, h b hb]
  rw [e, e2]; exact hc j hj
theorem Fx.range {W' : World} (h : Fx F W W') {b : Nat} (hb : F b) {o : Nat} {L : List Value} (hc : W.rangeAt b o L) : W'.rangeAt b o L := fun j v hv => h.cell hb (hc j v hv)
theorem Fx.trans {W1 W2 : World} (h : Fx F W W1) (k : Fx F W1 W2) : Fx F W W2 := fun b hb => (k b hb).trans (h b hb)
theorem Fx.fewer {F' : Nat → Prop} {W1 : World} (h : Fx F W W1) (hF : ∀ j, F' j → F j) : Fx F' W W1 := fun b hb => h b (hF b hb)
theorem Fx.of_kept {W1 : World} (h : Kept W W1) (hF : ∀ b, F b → b < W.heap.size) : Fx F W W1 := fun b hb => h.block b (hF b hb)
theorem BA.flt (h : BA w0 W p q F most n rf nd M n2 rf2 nd2 M2) : ∀ b, F b → b < W.heap.size := fun b hb => by
  obtain ⟨ow, bL, bN, cL, cN, xs, h1, h2, h3, h4⟩ := h
  exact (h4 b hb).2.1
/-- The program's arena has changed. -/
theorem BA.stepA {W' : World} {n' : Nat} {rf' : Int → Nat} {nd' : Int → ANd} {M' : Nat} (h : ∃ ow bL bN cL cN xs, ASN w0 W W' p ow most n' rf' nd' M' ∧ AS w0 W p ow most n rf nd M ∧ RQ W w0.heap.size q most n2 rf2 nd2 M2 bL bN cL cN xs ∧ (∀ j, (j = p ∨ ow = some j) → ¬ (j = q ∨ j = bL ∨ j = bN)) ∧ (∀ j, F j → w0.heap.size ≤ j ∧ j < W.heap.size ∧ ¬ (j = p ∨ ow = some j) ∧ ¬ (j = q ∨ j = bL ∨ j = bN))) : BA w0 W' p q F most n' rf' nd' M' n2 rf2 nd2 M2 ∧ Fx F W W' := by
  obtain ⟨ow, bL, bN, cL, cN, xs, ⟨⟨ow', a1, a2⟩, a3⟩, h1, h2, h3, h4⟩ := h
  have g3 := h2.lts
  have hn : ∀ j, (j = q ∨ j = bL ∨ j = bN) → ¬ (j = p ∨ ow = some j) := fun j e e' => h3 j e' e
  refine ⟨⟨ow', bL, bN, cL, cN, xs, a1, h2.chg a3 (hn q (.inl rfl)) (hn bL (.inr (.inl rfl))) (hn bN (.inr (.inr rfl))), fun j hj => ?_, fun j hj => ?_⟩, fun b hb => a3.block b (h4 b hb).2.1 (h4 b hb).2.2.1⟩
  · rcases hj with e | e
    · exact h3 j (.inl e)
    · rcases a2 j e with e' | e'
      · exact h3 j (.inr e')
      · omega
  · obtain ⟨f1, f2, f3, f4⟩ := h4 j hj
    refine ⟨f1, Nat.lt_of_lt_of_le f2 a3.size, ?_, f4⟩
    rintro (e | e)
    · exact f3 (.inl e)
    · rcases a2 j e with e' | e'
      · exact f3 (.inr e')
      · omega
theorem BA.stepR {W' : World} {n' : Nat} {rf' : Int → Nat} {nd' : Int → ANd} {M' : Nat} (h : ∃ ow bL bN cL cN xs bL' bN' cL' cN' xs', RQ W' w0.heap.size q most n' rf' nd' M' bL' bN' cL' cN' xs' ∧ (bL' = bL ∨ W.heap.size ≤ bL') ∧ (bN' = bN ∨ W.heap.size ≤ bN') ∧ Chg (fun j => j = q ∨ j = bL ∨ j = bN) W W' ∧ AS w0 W p ow most n rf nd M ∧ RQ W w0.heap.size q most n2 rf2 nd2 M2 bL bN cL cN xs ∧ (∀ j, (j = p ∨ ow = some j) → ¬ (j = q ∨ j = bL ∨ j = bN)) ∧ (∀ j, F j → w0.heap.size ≤ j ∧ j < W.heap.size ∧ ¬ (j = p ∨ ow = some j) ∧ ¬ (j = q ∨ j = bL ∨ j = bN))) : BA w0 W' p q F most n rf nd M n' rf' nd' M' ∧ Fx F W W' := by
  obtain ⟨ow, bL, bN, cL, cN, xs, bL', bN', cL', cN', xs', a1, a2, a3, a4, h1, h2, h3, h4⟩ := h
  have g1 := h1.ok.2.2.2.2.2.2.1
  have g2 := h1.ok.2.2.2.2.2.2.2
  have g3 := h2.lts
  refine ⟨⟨ow, bL', bN', cL', cN', xs', h1.chg a4 (fun j e => by omega) (h3 p (.inl rfl)) (fun g e => h3 g (.inr e)), a1, fun j hj => ?_, fun j hj => ?_⟩, fun b hb => a4.block b (h4 b hb).2.1 (h4 b hb).2.2.2⟩
  · have f := h3 j hj
    have f2 : j < W.heap.size := by
      rcases hj with e | e
      · omega
      · exact (g2 j e).1
    omega
  · obtain ⟨f1, f2, f3, f4⟩ := h4 j hj
    exact ⟨f1, Nat.lt_of_lt_of_le f2 a4.size, f3, by omega⟩
theorem ba_Keep (h : BA w0 W p q F most n rf nd M n2 rf2 nd2 M2) (hM : M + 1 ≤ 4611686018427387904) (i : Int) : Calls Tryd.prog 43 #[.pointer (some ⟨p, 0, none⟩), .int .i64 i] W fun e w' => e = .returned (.int .i64 (atE rf i)) ∧ BA w0 w' p q F most n (KeepR rf i) nd (M + 1) n2 rf2 nd2 M2 ∧ Fx F W w' := by
  obtain ⟨ow, bL, bN, cL, cN, xs, h1, h2, h3, h4⟩ := h
  refine (as_Keep h1 hM i).mono ?_
  rintro e w' ⟨rfl, hn⟩
  exact ⟨rfl, BA.stepA ⟨ow, bL, bN, cL, cN, xs, hn, h1, h2, h3, h4⟩⟩
theorem ba_Drop (h : BA w0 W p q F most n rf nd M n2 rf2 nd2 M2) (i : Int) (K : Nat) (r : Int → Nat) (hK : DropsN (kdA nd) K rf [i] r) : Calls Tryd.prog 39 #[.pointer (some ⟨p, 0, none⟩), .int .i64 i] W fun e w' => e = .returned (.int .i64 (atE rf i)) ∧ BA w0 w' p q F most n r nd M n2 rf2 nd2 M2 ∧ Fx F W w' := by
  obtain ⟨ow, bL, bN, cL, cN, xs, h1, h2, h3, h4⟩ := h
  refine (as_Drop h1 i K r hK).mono ?_
  rintro e w' ⟨rfl, hn⟩
  exact ⟨rfl, BA.stepA ⟨ow, bL, bN, cL, cN, xs, hn, h1, h2, h3, h4⟩⟩
theorem br_Keep (h : BA w0 W p q F most n rf nd M n2 rf2 nd2 M2) (hM : M2 + 1 ≤ 4611686018427387904) (i : Int) : Calls Tryd.prog 33 #[.pointer (some ⟨q, 0, none⟩), .int .i64 i] W fun e w' => e = .returned (.int .i64 (atE rf2 i)) ∧ BA w0 w' p q F most n rf nd M n2 (KeepR rf2 i) nd2 (M2 + 1) ∧ Fx F W w' := by
  obtain ⟨ow, bL, bN, cL, cN, xs, h1, h2, h3, h4⟩ := h
  refine (r9_Keep h2 hM i).mono ?_
  rintro e w' ⟨rfl, hn, hc⟩
  exact ⟨rfl, BA.stepR ⟨ow, bL, bN, cL, cN, xs, bL, bN, cL, cN, xs, hn, .inl rfl, .inl rfl, hc.mono (fun j _ e => .inr (.inr e)), h1, h2, h3, h4⟩⟩
theorem br_Drop (h : BA w0 W p q F most n rf nd M n2 rf2 nd2 M2) (i : Int) (K : Nat) (r : Int → Nat) (hK : DropsN (kdA nd2) K rf2 [i] r) : Calls Tryd.prog 34 #[.pointer (some ⟨q, 0, none⟩), .int .i64 i] W fun e w' => e = .returned (.int .i64 (atE rf2 i)) ∧ BA w0 w' p q F most n rf nd M n2 r nd2 M2 ∧ Fx F W w' := by
  obtain ⟨ow, bL, bN, cL, cN, xs, h1, h2, h3, h4⟩ := h
  refine (r9_Drop K i h2 hK).mono ?_
  rintro e w' ⟨rfl, hn, hc⟩
  exact ⟨rfl, BA.stepR ⟨ow, bL, bN, cL, cN, xs, bL, bN, cL, cN, xs, hn, .inl rfl, .inl rfl, hc.mono (fun j _ e => .inr (.inr e)), h1, h2, h3, h4⟩⟩
/-- What Make answers and leaves, as functions of what there is and the lowest free number. -/
def mkOk (rf : Int → Nat) (most : Int) (n : Nat) (y : ANd) : Bool := haveB rf y.kids && decide ((usd rf n : Int) < most)
def mkI (rf : Int → Nat) (most : Int) (n : Nat) (y : ANd) (x : Nat) : Int := if mkOk rf most n y then x else 0
def mkE (rf : Int → Nat) (most : Int) (n : Nat) (y : ANd) : Int := if haveB rf y.kids then (if (usd rf n : Int) < most then 0 else 14) else 10
def mkN (rf : Int → Nat) (most : Int) (n : Nat) (y : ANd) (x : Nat) : Nat := if mkOk rf most n y then max n x else n
def mkF (rf : Int → Nat) (most : Int) (n : Nat) (y : ANd) (x : Nat) : Int → Nat := if mkOk rf most n y then setR (incR rf y.kids) x 1 else rf
def mkD (rf : Int → Nat) (most : Int) (n : Nat) (nd : Int → ANd) (y : ANd) (x : Nat) : Int → ANd := if mkOk rf most n y then updN nd x y else nd
theorem ba_Make (h : BA w0 W p q F most n rf nd M n2 rf2 nd2 M2) (hV : Vars w0) (hM : M + 9 ≤ 4611686018427387904) (y : ANd) (hy : y.kids.length = 8 ∧ y.vals.length = 8) (x : Nat) (hx : LowN rf x) : Calls Tryd.prog 53 #[.pointer (some ⟨p, 0, none⟩), ndV y] W fun e w' => e = .returned (.tuple #[.int .i64 (mkI rf most n (bareN y) x), .int .i64 (mkE rf most n (bareN y))]) ∧ BA w0 w' p q F most (mkN rf most n (bareN y) x) (mkF rf most n (bareN y) x) (mkD rf most n nd (bareN y) x) (M + 9) n2 rf2 nd2 M2 ∧ Fx F W w' := by
  obtain ⟨ow, bL, bN, cL, cN, xs, h1, h2, h3, h4⟩ := h
  refine (as_Make h1 hV hM y hy).mono ?_
  rintro e w' (⟨a1, rfl, a3⟩ | ⟨a1, a2, rfl, a4⟩ | ⟨a1, a2, x', a3, rfl, a5⟩)
  · have e1 : mkOk rf most n (bareN y) = false := by unfold mkOk; rw [a1]; rfl
    unfold mkI mkE mkN mkF mkD
    rw [e1, a1]
    exact ⟨rfl, BA.stepA ⟨ow, bL, bN, cL, cN, xs, ⟨⟨ow, (h1.raise (by omega) hM).keep a3, fun g hg => .inl hg⟩, Chg.of_kept a3⟩, h1, h2, h3, h4⟩⟩
  · have e1 : mkOk rf most n (bareN y) = false := by unfold mkOk; rw [a1, decide_eq_false (by omega)]; rfl
    unfold mkI mkE mkN mkF mkD
    have hf : ¬ ((usd rf n : Int) < most) := by omega
    simp only [e1, a1, Bool.false_eq_true, if_false, if_true, hf]
    exact ⟨trivial, BA.stepA ⟨ow, bL, bN, cL, cN, xs, ⟨⟨ow, (h1.raise (by omega) hM).keep a4, fun g hg => .inl hg⟩, Chg.of_kept a4⟩, h1, h2, h3, h4⟩⟩
  · obtain rfl := a3.one' hx
    have e1 : mkOk rf most n (bareN y) = true := by unfold mkOk; rw [a1, decide_eq_true a2]; rfl
    unfold mkI mkE mkN mkF mkD
    simp only [e1, a1, if_true, a2]
    exact ⟨trivial, BA.stepA ⟨ow, bL, bN, cL, cN, xs, a5, h1, h2, h3, h4⟩⟩
theorem br_Make (h : BA w0 W p q F most n rf nd M n2 rf2 nd2 M2) (hM : M2 + 9 ≤ 4611686018427387904) (y : ANd) (hy : y.kids.length = 8 ∧ y.vals.length = 8) (x : Nat) (hx : LowN rf2 x) : Calls Tryd.prog 47 #[.pointer (some ⟨q, 0, none⟩), ndV y] W fun e w' => e = .returned (.tuple #[.int .i64 (mkI rf2 most n2 (bareN y) x), .int .i64 (mkE rf2 most n2 (bareN y))]) ∧ BA w0 w' p q F most n rf nd M (mkN rf2 most n2 (bareN y) x) (mkF rf2 most n2 (bareN y) x) (mkD rf2 most n2 nd2 (bareN y) x) (M2 + 9) ∧ Fx F W w' := by
  obtain ⟨ow, bL, bN, cL, cN, xs, h1, h2, h3, h4⟩ := h
  refine (r9_Make h2 hM h1.ok.2.2.2.1 h1.1.size y hy.1 hy.2).mono ?_
  rintro e w' (⟨a1, rfl, a3⟩ | ⟨a1, a2, rfl, a4⟩ | ⟨a1, a2, x', a3, rfl, ⟨bL', bN', cL', cN', xs', a5, a6, a7⟩, a8⟩)
  · have e1 : mkOk rf2 most n2 (bareN y) = false := by unfold mkOk; rw [a1]; rfl
    unfold mkI mkE mkN mkF mkD
    rw [e1, a1]
    exact ⟨rfl, BA.stepR ⟨ow, bL, bN, cL, cN, xs, bL, bN, cL, cN, xs, (h2.raise (by omega) hM).kept a3, .inl rfl, .inl rfl, Chg.of_kept a3, h1, h2, h3, h4⟩⟩
  · have e1 : mkOk rf2 most n2 (bareN y) = false := by unfold mkOk; rw [a1, decide_eq_false (by omega)]; rfl
    unfold mkI mkE mkN mkF mkD
    have hf : ¬ ((usd rf2 n2 : Int) < most) := by omega
    simp only [e1, a1, Bool.false_eq_true, if_false, if_true, hf]
    exact ⟨trivial, BA.stepR ⟨ow, bL, bN, cL, cN, xs, bL, bN, cL, cN, xs, (h2.raise (by omega) hM).kept a4, .inl rfl, .inl rfl, Chg.of_kept a4, h1, h2, h3, h4⟩⟩
  · obtain rfl := a3.one' hx
    have e1 : mkOk rf2 most n2 (bareN y) = true := by unfold mkOk; rw [a1, decide_eq_true a2]; rfl
    unfold mkI mkE mkN mkF mkD
    simp only [e1, a1, if_true, a2]
    exact ⟨trivial, BA.stepR ⟨ow, bL, bN, cL, cN, xs, bL', bN', cL', cN', xs', a5, a6, a7, a8, h1, h2, h3, h4⟩⟩
theorem BA.ok (h : BA w0 W p q F most n rf nd M n2 rf2 nd2 M2) : RfOk n rf ∧ (∀ i, (nd i).kids.length = 8 ∧ (nd i).vals.length = 8) := by
  obtain ⟨ow, bL, bN, cL, cN, xs, h1, h2, h3, h4⟩ := h
  exact ⟨h1.ok.1, h1.ok.2.1⟩
/-- Both are new. -/
theorem ba_new {w1 w2 : World} (hk : Kept w0 W) (h1 : NewA W w1 most) (m1 : 1 ≤ most) (m2 : most ≤ 20000) (h2 : RQ w2 w1.heap.size (w1.heap.size + 2) most 0 (fun _ => 0) (fun _ => zNd) 0 w1.heap.size (w1.heap.size + 1) 1 1 (ndL zNd)) (k2 : Kept w1 w2) : BA w0 w2 W.heap.size (w1.heap.size + 2) (fun _ => False) most 0 (fun _ => 0) (fun _ => zNd) 0 0 (fun _ => 0) (fun _ => zNd) 0 := by
  have hA := as_new h1 hk m1 m2
  have hs := hA.1.size
  have hp := hA.ok.2.2.2.2.2.2.1
  refine ⟨none, _, _, _, _, _, hA.keep k2, h2.lower hs, fun j hj => ?_, fun j hj => hj.elim⟩
  rcases hj with e | e
  · omega
  · cases e
/-- Both, as they are behind k acts. -/
def BK (w0 W : World) (p q : Nat) (F : Nat → Prop) (most : Int) (k : Nat) : Prop := ∃ n rf nd M, BA w0 W p q F most n rf nd M n rf nd M ∧ M ≤ 9 * k
end
end Go.Proofs.YtjkbhaplngnniaaDoor
