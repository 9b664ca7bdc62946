/- Worlds that part in some blocks alone; a map of places by names. -/
import Derived.Test.YtbhojgodkblflaaChecked
import Derived.Test.YtbhojgodkblflaaOwn
import Derived.Maps.Own
import Derived.Maps.OwnOps
import Derived.Maps.OwnSet
import Derived.Deep.Draws
namespace Go.Proofs.Ytbhojgodkblflaa
open Go.RowKit Go.Maps Go.ChangeMaps
set_option linter.unusedSimpArgs false
set_option linter.unusedVariables false

/-- All blocks but those of S are as they were. -/
structure Chg (S : Nat → Prop) (w w' : World) : Prop where
  os : w'.os = w.os
  tape : w'.tape = w.tape
  output : w'.output = w.output
  size : w.heap.size ≤ w'.heap.size
  block : ∀ j, j < w.heap.size → ¬ S j → w'.heap[j]? = w.heap[j]?
theorem Chg.refl (S : Nat → Prop) (w : World) : Chg S w w := ⟨rfl, rfl, rfl, Nat.le_refl _, fun _ _ _ => rfl⟩
theorem Chg.trans {S : Nat → Prop} {x y z : World} (h : Chg S x y) (k : Chg S y z) : Chg S x z :=
  ⟨k.os.trans h.os, k.tape.trans h.tape, k.output.trans h.output, Nat.le_trans h.size k.size, fun j hj hb => (k.block j (Nat.lt_of_lt_of_le hj h.size) hb).trans (h.block j hj hb)⟩
theorem Chg.mono {S S' : Nat → Prop} {x y : World} (h : Chg S x y) (hs : ∀ j, j < x.heap.size → S j → S' j) : Chg S' x y :=
  ⟨h.os, h.tape, h.output, h.size, fun j hj hb => h.block j hj (fun e => hb (hs j hj e))⟩
theorem Chg.of_kept {S : Nat → Prop} {x y : World} (h : Kept x y) : Chg S x y := ⟨h.os, h.tape, h.output, Below.size h, fun j hj _ => h.block j hj⟩
theorem Chg.drew {S : Nat → Prop} {x y : World} (h : Chg S x y) : Chg S x y.drew := ⟨h.os, h.tape, h.output, h.size, h.block⟩
theorem Chg.drewN {S : Nat → Prop} {x y : World} (h : Chg S x y) (q : Nat) : Chg S x (y.drewN q) := ⟨h.os, h.tape, h.output, h.size, h.block⟩
theorem Kept.drewN {a w : World} (h : Kept a w) (q : Nat) : Kept a (w.drewN q) := ⟨h.os, h.tape, h.output, h.size, h.block⟩
theorem Chg.alloc {S : Nat → Prop} {x y : World} (h : Chg S x y) (o : Obj) : Chg S x (y.alloc o) := h.trans (Chg.of_kept ((Kept.refl y).alloc o))
theorem Chg.setCell {S : Nat → Prop} {x y : World} (h : Chg S x y) {p : Addr} (hp : S p.block ∨ x.heap.size ≤ p.block) (u : Value) : Chg S x (y.setCell p u) :=
  ⟨h.os, h.tape, h.output, by simpa [World.setCell] using h.size, fun j hj hb => by
    rw [← h.block j hj hb]
    refine Below.heap_setCell _ _ _ _ (fun e => ?_)
    subst e
    rcases hp with hp | hp
    · exact hb hp
    · omega⟩
theorem Chg.grown {S : Nat → Prop} {x y z : World} {row : Option Nat} (h : Chg S x y) (hg : y.grownBy z row) (hr : ∀ k, row = some k → S k ∨ x.heap.size ≤ k) : Chg S x z :=
  ⟨hg.os.trans h.os, hg.tape.trans h.tape, hg.output.trans h.output, Nat.le_trans h.size hg.size, fun j hj hb => by
    rw [← h.block j hj hb]
    refine hg.block j (Nat.lt_of_lt_of_le hj h.size) (fun e => ?_)
    rcases hr j e.symm with g | g
    · exact hb g
    · omega⟩
theorem Chg.cell {S : Nat → Prop} {w w' : World} (h : Chg S w w') {p : Addr} (hp : p.block < w.heap.size) (hb : ¬ S p.block) : w'.cell? p = w.cell? p := by
  simp only [World.cell?, h.block p.block hp hb]
theorem Chg.frozen {S : Nat → Prop} {w w' : World} (h : Chg S w w') {p : Addr} (hp : p.block < w.heap.size) (hb : ¬ S p.block) : w'.frozen? p = w.frozen? p := by
  simp only [World.frozen?, h.block p.block hp hb]
/-- What was written lies above: nothing that was there has turned. -/
theorem Chg.kept {S : Nat → Prop} {w0 x y : World} (h : Kept w0 x) (k : Chg S x y) (hs : ∀ j, S j → w0.heap.size ≤ j) : Kept w0 y :=
  Below.trans h ⟨k.os, k.tape, k.output, k.size, fun j hj => k.block j (Nat.lt_of_lt_of_le hj h.size) (fun e => by have := hs j e; omega)⟩
theorem Chg.keptAll {x y : World} (k : Chg (fun _ => False) x y) : Kept x y := ⟨k.os, k.tape, k.output, k.size, fun j hj => k.block j hj (fun e => e)⟩
theorem Sl.chg {k : IntKind} {S : Nat → Prop} {w w' : World} {a : Option Addr} {n : Nat} {l : List Int} (h : Sl k w a n l) (g : Chg S w w') (hb : 0 < n → ∀ ad, a = some ad → ¬ S ad.block) : Sl k w' a n l :=
  ⟨h.len, h.big, fun hp => by
    obtain ⟨c, o, h1, h2, h3⟩ := h.cells hp
    refine ⟨c, o, h1, Nat.lt_of_lt_of_le h2 g.size, fun i hi => ?_⟩
    have hne : ¬ S c := hb hp ⟨c, o, none⟩ h1
    rw [g.cell (p := ⟨c, o + i, none⟩) h2 hne]
    exact h3 i hi⟩

theorem skeyed : Keyed Try.prog 9 := string_keyed Try.underlying9
theorem zeroI (w : World) : (zeroValue 3).run Try.prog w = .ok (.int .i64 0) w := by kernel_rfl
def keyS (s : ByteArray) : Lit := .string s.data.toList
theorem keyS_inj {s t : ByteArray} (h : keyS s = keyS t) : s = t := by
  unfold keyS at h
  simp only [Lit.string.injEq] at h
  have : s.data = t.data := Array.toList_inj.1 h
  cases s; cases t; simp_all
theorem keyS_ok (s : ByteArray) : WideAt.IsKeyLit (keyS s) := trivial
theorem keyS_key {s : ByteArray} (h : s.size ≤ maxLen) : keyOf Try.prog 9 (.string s) = some (keyS s) := Go.WideMaps.keyOf_string_mk Try.underlying9 h
/-- Block b is a map of places by names. -/
def MapIs (w : World) (b n : Nat) (f : ByteArray → Option Int) : Prop :=
  ∃ D : DataW Unit, w.ownsMap Try.prog 9 (plainElem Try.prog 3) b n D ∧ ∀ s, Maps.has D (keyS s) = (f s).isSome ∧ D.atKey (keyS s) (.lit (.int .i64 0)) = .lit (.int .i64 ((f s).getD 0))
theorem MapIs.lt {w : World} {b n : Nat} {f : ByteArray → Option Int} (h : MapIs w b n f) : b < w.heap.size := by
  obtain ⟨D, h1, _⟩ := h
  exact h1.lt
theorem MapIs.chg {S : Nat → Prop} {w w' : World} {b n : Nat} {f : ByteArray → Option Int} (h : MapIs w b n f) (g : Chg S w w') (hb : ¬ S b) : MapIs w' b n f := by
  obtain ⟨D, ⟨es, clock, h1, h2, h3, h4⟩, h5⟩ := h
  refine ⟨D, ⟨es, clock, ?_, h2, h3, h4⟩, h5⟩
  rw [g.block b (by
    by_cases hlt : b < w.heap.size
    · exact hlt
    · rw [Array.getElem?_eq_none (by omega)] at h1; cases h1) hb]
  exact h1
theorem MapIs.kept {w w' : World} {b n : Nat} {f : ByteArray → Option Int} (h : MapIs w b n f) (g : Kept w w') : MapIs w' b n f := h.chg (S := fun _ => False) (Chg.of_kept g) (fun e => e)
theorem mapIs_made (w : World) : MapIs (w.alloc (.map #[] 0)) w.heap.size 0 (fun _ => none) :=
  ⟨.map [], World.ownsMap_made _ _ _ _, fun s => ⟨rfl, rfl⟩⟩
theorem MapIs.look {w : World} {b n : Nat} {f : ByteArray → Option Int} (h : MapIs w b n f) {s : ByteArray} (hs : s.size ≤ maxLen) :
    (Instr.lookup 119 (.map (some b)) (.string s) true).run Try.prog w = .ok (.tuple #[.int .i64 ((f s).getD 0), .bool (f s).isSome]) w := by
  obtain ⟨D, h1, h2⟩ := h
  obtain ⟨v, ps, hrun, hv⟩ := h1.look_ok skeyed Try.underlying119 (zeroI w) (plainElem_int Try.underlying3 (by decide)) (keyS_key hs)
  rw [hrun, (h2 s).1]
  rw [(h2 s).2] at hv
  obtain ⟨a, rfl, ha, _⟩ := plainElem_int_inv Try.underlying3 hv
  simp only [Prod.mk.injEq, DataW.lit.injEq, Lit.int.injEq] at ha
  rw [ha.1.2]
theorem MapIs.look1 {w : World} {b n : Nat} {f : ByteArray → Option Int} (h : MapIs w b n f) {s : ByteArray} (hs : s.size ≤ maxLen) :
    (Instr.lookup 119 (.map (some b)) (.string s) false).run Try.prog w = .ok (.int .i64 ((f s).getD 0)) w := by
  obtain ⟨D, h1, h2⟩ := h
  obtain ⟨c, hrun, hat, _⟩ := h1.lookup_int skeyed Try.underlying119 Try.underlying3 (zeroI w) (keyS_key hs)
  rw [(h2 s).2] at hat
  simp only [DataW.lit.injEq, Lit.int.injEq] at hat
  rw [hrun, hat.2]
theorem MapIs.store {w : World} {b n : Nat} {f : ByteArray → Option Int} (h : MapIs w b n f) (hn : n < maxLen) {s : ByteArray} (hs : s.size ≤ maxLen) {x : Int} (hx : (Lit.int .i64 x).wf = true) :
    ∃ w', (Instr.mapUpdate 119 (.map (some b)) (.string s) (.int .i64 x)).run Try.prog w = .ok () w' ∧ MapIs w' b (n + 1) (fun t => if t = s then some x else f t) ∧ Chg (· = b) w w' := by
  obtain ⟨D, h1, h2⟩ := h
  obtain ⟨w', hrun, h3, h4⟩ := h1.store skeyed Try.underlying119 hn (keyS_key hs) (plainElem_int Try.underlying3 hx)
  refine ⟨w', hrun, ⟨_, h3, fun t => ?_⟩, ?_⟩
  · by_cases e : t = s
    · subst e
      rw [has_put_same h1.isMap (keyS_ok t), atKey_put_same h1.isMap (keyS_ok t)]
      simp
    · have hne : keyS t ≠ keyS s := fun e' => e (keyS_inj e')
      rw [has_put_other hne, atKey_put_other hne]
      simpa [e] using h2 t
  · have hg := h4.grown
    exact (Chg.refl _ w).grown hg (fun k hk => .inl (by cases hk; rfl))
end Go.Proofs.Ytbhojgodkblflaa
