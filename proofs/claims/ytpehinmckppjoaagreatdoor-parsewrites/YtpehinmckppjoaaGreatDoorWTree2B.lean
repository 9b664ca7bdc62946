/- Worlds that part in some blocks alone; a map of places by names. · A tree in memory, and what only reads its members' names and ways up. · A tree's ways up: Depth, Within, Above; slices of places that a call makes. -/
import Derived.Test.YtpehinmckppjoaaGreatDoorChecked
import Derived.Test.YtpehinmckppjoaaGreatDoorWStrsB
import Derived.Maps.Own
import Derived.Maps.OwnOps
import Derived.Maps.OwnSet
import Derived.Deep.Draws
import Derived.WalkSpells
import Derived.WalkLawsBesides
import Derived.Deep.QuietTactic
import Derived.BigQuiet
import Derived.BigRegion
import Derived.Deep.LoopGhost
import Derived.Deep.DeepAppendWide
import Derived.Deep.AppendLies
import Derived.Maps.AppendAt
namespace Go.Proofs.YtpehinmckppjoaaGreatDoor
open Go.RowKit Go.Maps Go.ChangeMaps
set_option linter.unusedSimpArgs false
set_option linter.unusedVariables false

/-- All blocks but those of S are as they were. -/
structure Chg (S : Nat → Prop) (w w' : World) : Prop where
  os : w'.os = w.os
  tape : w'.tape = w.tape
  output : w'.output = w.output
  size : w.heap.size ≤ w'.heap.size
  block : ∀ j, j < w.heap.size → ¬ S j → w'.heap[j]? = w.heap[j]?
theorem Chg.refl (S : Nat → Prop) (w : World) : Chg S w w := ⟨rfl, rfl, rfl, Nat.le_refl _, fun _ _ _ => rfl⟩
theorem Chg.trans {S : Nat → Prop} {x y z : World} (h : Chg S x y) (k : Chg S y z) : Chg S x z :=
  ⟨k.os.trans h.os, k.tape.trans h.tape, k.output.trans h.output, Nat.le_trans h.size k.size, fun j hj hb => (k.block j (Nat.lt_of_lt_of_le hj h.size) hb).trans (h.block j hj hb)⟩
theorem Chg.mono {S S' : Nat → Prop} {x y : World} (h : Chg S x y) (hs : ∀ j, j < x.heap.size → S j → S' j) : Chg S' x y :=
  ⟨h.os, h.tape, h.output, h.size, fun j hj hb => h.block j hj (fun e => hb (hs j hj e))⟩
theorem Chg.of_kept {S : Nat → Prop} {x y : World} (h : Kept x y) : Chg S x y := ⟨h.os, h.tape, h.output, Below.size h, fun j hj _ => h.block j hj⟩
theorem Chg.drew {S : Nat → Prop} {x y : World} (h : Chg S x y) : Chg S x y.drew := ⟨h.os, h.tape, h.output, h.size, h.block⟩
theorem Chg.drewN {S : Nat → Prop} {x y : World} (h : Chg S x y) (q : Nat) : Chg S x (y.drewN q) := ⟨h.os, h.tape, h.output, h.size, h.block⟩
theorem Kept.drewN {a w : World} (h : Kept a w) (q : Nat) : Kept a (w.drewN q) := ⟨h.os, h.tape, h.output, h.size, h.block⟩
theorem Chg.alloc {S : Nat → Prop} {x y : World} (h : Chg S x y) (o : Obj) : Chg S x (y.alloc o) := h.trans (Chg.of_kept ((Kept.refl y).alloc o))
theorem Chg.setCell {S : Nat → Prop} {x y : World} (h : Chg S x y) {p : Addr} (hp : S p.block ∨ x.heap.size ≤ p.block) (u : Value) : Chg S x (y.setCell p u) :=
  ⟨h.os, h.tape, h.output, by simpa [World.setCell] using h.size, fun j hj hb => by
    rw [← h.block j hj hb]
    refine Below.heap_setCell _ _ _ _ (fun e => ?_)
    subst e
    rcases hp with hp | hp
    · exact hb hp
    · omega⟩
theorem Chg.grown {S : Nat → Prop} {x y z : World} {row : Option Nat} (h : Chg S x y) (hg : y.grownBy z row) (hr : ∀ k, row = some k → S k ∨ x.heap.size ≤ k) : Chg S x z :=
  ⟨hg.os.trans h.os, hg.tape.trans h.tape, hg.output.trans h.output, Nat.le_trans h.size hg.size, fun j hj hb => by
    rw [← h.block j hj hb]
    refine hg.block j (Nat.lt_of_lt_of_le hj h.size) (fun e => ?_)
    rcases hr j e.symm with g | g
    · exact hb g
    · omega⟩
theorem Chg.cell {S : Nat → Prop} {w w' : World} (h : Chg S w w') {p : Addr} (hp : p.block < w.heap.size) (hb : ¬ S p.block) : w'.cell? p = w.cell? p := by
  simp only [World.cell?, h.block p.block hp hb]
theorem Chg.frozen {S : Nat → Prop} {w w' : World} (h : Chg S w w') {p : Addr} (hp : p.block < w.heap.size) (hb : ¬ S p.block) : w'.frozen? p = w.frozen? p := by
  simp only [World.frozen?, h.block p.block hp hb]
/-- What was written lies above: nothing that was there has turned. -/
theorem Chg.kept {S : Nat → Prop} {w0 x y : World} (h : Kept w0 x) (k : Chg S x y) (hs : ∀ j, S j → w0.heap.size ≤ j) : Kept w0 y :=
  Below.trans h ⟨k.os, k.tape, k.output, k.size, fun j hj => k.block j (Nat.lt_of_lt_of_le hj h.size) (fun e => by have := hs j e; omega)⟩
theorem Chg.keptAll {x y : World} (k : Chg (fun _ => False) x y) : Kept x y := ⟨k.os, k.tape, k.output, k.size, fun j hj => k.block j hj (fun e => e)⟩
theorem Sl.chg {k : IntKind} {S : Nat → Prop} {w w' : World} {a : Option Addr} {n : Nat} {l : List Int} (h : Sl k w a n l) (g : Chg S w w') (hb : 0 < n → ∀ ad, a = some ad → ¬ S ad.block) : Sl k w' a n l :=
  ⟨h.len, h.big, fun hp => by
    obtain ⟨c, o, h1, h2, h3⟩ := h.cells hp
    refine ⟨c, o, h1, Nat.lt_of_lt_of_le h2 g.size, fun i hi => ?_⟩
    have hne : ¬ S c := hb hp ⟨c, o, none⟩ h1
    rw [g.cell (p := ⟨c, o + i, none⟩) h2 hne]
    exact h3 i hi⟩

theorem skeyed : Keyed Tryz.prog 9 := string_keyed Tryz.underlying9
theorem zeroI (w : World) : (zeroValue 3).run Tryz.prog w = .ok (.int .i64 0) w := by kernel_rfl
def keyS (s : ByteArray) : Lit := .string s.data.toList
theorem keyS_inj {s t : ByteArray} (h : keyS s = keyS t) : s = t := by
  unfold keyS at h
  simp only [Lit.string.injEq] at h
  have : s.data = t.data := Array.toList_inj.1 h
  cases s; cases t; simp_all
theorem keyS_ok (s : ByteArray) : WideAt.IsKeyLit (keyS s) := trivial
theorem keyS_key {s : ByteArray} (h : s.size ≤ maxLen) : keyOf Tryz.prog 9 (.string s) = some (keyS s) := Go.WideMaps.keyOf_string_mk Tryz.underlying9 h
/-- Block b is a map of places by names. -/
def MapIs (w : World) (b n : Nat) (f : ByteArray → Option Int) : Prop :=
  ∃ D : DataW Unit, w.ownsMap Tryz.prog 9 (plainElem Tryz.prog 3) b n D ∧ ∀ s, Maps.has D (keyS s) = (f s).isSome ∧ D.atKey (keyS s) (.lit (.int .i64 0)) = .lit (.int .i64 ((f s).getD 0))
theorem MapIs.lt {w : World} {b n : Nat} {f : ByteArray → Option Int} (h : MapIs w b n f) : b < w.heap.size := by
  obtain ⟨D, h1, _⟩ := h
  exact h1.lt
theorem MapIs.chg {S : Nat → Prop} {w w' : World} {b n : Nat} {f : ByteArray → Option Int} (h : MapIs w b n f) (g : Chg S w w') (hb : ¬ S b) : MapIs w' b n f := by
  obtain ⟨D, ⟨es, clock, h1, h2, h3, h4⟩, h5⟩ := h
  refine ⟨D, ⟨es, clock, ?_, h2, h3, h4⟩, h5⟩
  rw [g.block b (by
    by_cases hlt : b < w.heap.size
    · exact hlt
    · rw [Array.getElem?_eq_none (by omega)] at h1; cases h1) hb]
  exact h1
theorem MapIs.kept {w w' : World} {b n : Nat} {f : ByteArray → Option Int} (h : MapIs w b n f) (g : Kept w w') : MapIs w' b n f := h.chg (S := fun _ => False) (Chg.of_kept g) (fun e => e)
theorem mapIs_made (w : World) : MapIs (w.alloc (.map #[] 0)) w.heap.size 0 (fun _ => none) :=
  ⟨.map [], World.ownsMap_made _ _ _ _, fun s => ⟨rfl, rfl⟩⟩
theorem MapIs.look {w : World} {b n : Nat} {f : ByteArray → Option Int} (h : MapIs w b n f) {s : ByteArray} (hs : s.size ≤ maxLen) :
    (Instr.lookup 172 (.map (some b)) (.string s) true).run Tryz.prog w = .ok (.tuple #[.int .i64 ((f s).getD 0), .bool (f s).isSome]) w := by
  obtain ⟨D, h1, h2⟩ := h
  obtain ⟨v, ps, hrun, hv⟩ := h1.look_ok skeyed Tryz.underlying172 (zeroI w) (plainElem_int Tryz.underlying3 (by decide)) (keyS_key hs)
  rw [hrun, (h2 s).1]
  rw [(h2 s).2] at hv
  obtain ⟨a, rfl, ha, _⟩ := plainElem_int_inv Tryz.underlying3 hv
  simp only [Prod.mk.injEq, DataW.lit.injEq, Lit.int.injEq] at ha
  rw [ha.1.2]
theorem MapIs.look1 {w : World} {b n : Nat} {f : ByteArray → Option Int} (h : MapIs w b n f) {s : ByteArray} (hs : s.size ≤ maxLen) :
    (Instr.lookup 172 (.map (some b)) (.string s) false).run Tryz.prog w = .ok (.int .i64 ((f s).getD 0)) w := by
  obtain ⟨D, h1, h2⟩ := h
  obtain ⟨c, hrun, hat, _⟩ := h1.lookup_int skeyed Tryz.underlying172 Tryz.underlying3 (zeroI w) (keyS_key hs)
  rw [(h2 s).2] at hat
  simp only [DataW.lit.injEq, Lit.int.injEq] at hat
  rw [hrun, hat.2]
theorem MapIs.store {w : World} {b n : Nat} {f : ByteArray → Option Int} (h : MapIs w b n f) (hn : n < maxLen) {s : ByteArray} (hs : s.size ≤ maxLen) {x : Int} (hx : (Lit.int .i64 x).wf = true) :
    ∃ w', (Instr.mapUpdate 172 (.map (some b)) (.string s) (.int .i64 x)).run Tryz.prog w = .ok () w' ∧ MapIs w' b (n + 1) (fun t => if t = s then some x else f t) ∧ Chg (· = b) w w' := by
  obtain ⟨D, h1, h2⟩ := h
  obtain ⟨w', hrun, h3, h4⟩ := h1.store skeyed Tryz.underlying172 hn (keyS_key hs) (plainElem_int Tryz.underlying3 hx)
  refine ⟨w', hrun, ⟨_, h3, fun t => ?_⟩, ?_⟩
  · by_cases e : t = s
    · subst e
      rw [has_put_same h1.isMap (keyS_ok t), atKey_put_same h1.isMap (keyS_ok t)]
      simp
    · have hne : keyS t ≠ keyS s := fun e' => e (keyS_inj e')
      rw [has_put_other hne, atKey_put_other hne]
      simpa [e] using h2 t
  · have hg := h4.grown
    exact (Chg.refl _ w).grown hg (fun k hk => .inl (by cases hk; rfl))
end Go.Proofs.YtpehinmckppjoaaGreatDoor
namespace Go.Proofs.YtpehinmckppjoaaGreatDoor
open Go.RowKit Go.Maps
set_option linter.unusedSimpArgs false
set_option linter.unusedVariables false

def fstO (l : List Nd) (s : ByteArray) : Option Int := if fstN l s < l.length then some (fstN l s : Nat) else none
/-- A tree's members by themselves: block p, its members in block mb. -/
structure TB (w : World) (p mb : Nat) (l : List Nd) : Prop where
  c0 : w.cell? ⟨p, 0, none⟩ = some (.slice (some ⟨mb, 0, none⟩) l.length l.length)
  nm : ∀ i, i < l.length → w.cell? ⟨mb, i * 6, none⟩ = some (.string (nmA l i))
  up : ∀ i, i < l.length → w.cell? ⟨mb, i * 6 + 1, none⟩ = some (.int .i64 (upA l i))
  big : l.length ≤ 60
  nmb : ∀ i, i < l.length → (nmA l i).size ≤ maxLen
  upb : ∀ i, i < l.length → isI (upA l i)
/-- A slice as it lies in a cell. -/
def slv (x : Option Addr × Nat × Nat) : Value := .slice x.1 x.2.1 x.2.2
/-- A tree: the first places of names in block pb; of each member kids, rank, from, to; order and leaves. -/
structure TM (w : World) (p mb pb : Nat) (l : List Nd) (kv : Nat → Option Addr × Nat × Nat) (rk fr to : Nat → Int) (ov lv : Value) : Prop extends TB w p mb l where
  c1 : w.cell? ⟨p, 1, none⟩ = some (.map (some pb))
  c2 : w.cell? ⟨p, 2, none⟩ = some ov
  c3 : w.cell? ⟨p, 3, none⟩ = some lv
  kd : ∀ i, i < l.length → w.cell? ⟨mb, i * 6 + 2, none⟩ = some (slv (kv i))
  rk : ∀ i, i < l.length → w.cell? ⟨mb, i * 6 + 3, none⟩ = some (.int .i64 (rk i))
  fr : ∀ i, i < l.length → w.cell? ⟨mb, i * 6 + 4, none⟩ = some (.int .i64 (fr i))
  to : ∀ i, i < l.length → w.cell? ⟨mb, i * 6 + 5, none⟩ = some (.int .i64 (to i))
  fz : ∀ j, w.frozen? ⟨p, j, none⟩ = false
  fm : ∀ j, w.frozen? ⟨mb, j, none⟩ = false
  pm : ∃ n, n ≤ 60 ∧ MapIs w pb n (fstO l)
  ne : p ≠ mb ∧ p ≠ pb ∧ mb ≠ pb

theorem TB.chg {S : Nat → Prop} {w w' : World} {p mb : Nat} {l : List Nd} (h : TB w p mb l) (g : Chg S w w') (hp : ¬ S p) (hm : ¬ S mb) : TB w' p mb l :=
  ⟨(g.cell (p := ⟨p, 0, none⟩) (cell_lt h.c0) hp).trans h.c0, fun i hi => (g.cell (p := ⟨mb, i * 6, none⟩) (cell_lt (h.nm i hi)) hm).trans (h.nm i hi), fun i hi => (g.cell (p := ⟨mb, i * 6 + 1, none⟩) (show mb < w.heap.size from cell_lt (h.nm i hi)) hm).trans (h.up i hi), h.big, h.nmb, h.upb⟩
theorem TB.kept {w w' : World} {p mb : Nat} {l : List Nd} (h : TB w p mb l) (g : Kept w w') : TB w' p mb l := h.chg (S := fun _ => False) (Chg.of_kept g) (fun e => e) (fun e => e)
theorem TM.chg {S : Nat → Prop} {w w' : World} {p mb pb : Nat} {l : List Nd} {kv : Nat → Option Addr × Nat × Nat} {rk fr to : Nat → Int} {ov lv : Value} (h : TM w p mb pb l kv rk fr to ov lv) (g : Chg S w w') (hp : ¬ S p) (hm : ¬ S mb) (hb : ¬ S pb) (h1 : 1 ≤ l.length) : TM w' p mb pb l kv rk fr to ov lv := by
  have lm : mb < w.heap.size := cell_lt (h.nm 0 (by omega))
  have lp : p < w.heap.size := cell_lt h.c0
  refine ⟨h.toTB.chg g hp hm, (g.cell (p := ⟨p, 1, none⟩) lp hp).trans h.c1, (g.cell (p := ⟨p, 2, none⟩) lp hp).trans h.c2, (g.cell (p := ⟨p, 3, none⟩) lp hp).trans h.c3, fun i hi => (g.cell (p := ⟨mb, i * 6 + 2, none⟩) lm hm).trans (h.kd i hi), fun i hi => (g.cell (p := ⟨mb, i * 6 + 3, none⟩) lm hm).trans (h.rk i hi), fun i hi => (g.cell (p := ⟨mb, i * 6 + 4, none⟩) lm hm).trans (h.fr i hi), fun i hi => (g.cell (p := ⟨mb, i * 6 + 5, none⟩) lm hm).trans (h.to i hi), fun j => (g.frozen (p := ⟨p, j, none⟩) lp hp).trans (h.fz j), fun j => (g.frozen (p := ⟨mb, j, none⟩) lm hm).trans (h.fm j), ?_, h.ne⟩
  obtain ⟨n, hn, h2⟩ := h.pm
  exact ⟨n, hn, h2.chg g hb⟩
theorem TM.kept {w w' : World} {p mb pb : Nat} {l : List Nd} {kv : Nat → Option Addr × Nat × Nat} {rk fr to : Nat → Int} {ov lv : Value} (h : TM w p mb pb l kv rk fr to ov lv) (g : Kept w w') (h1 : 1 ≤ l.length) : TM w' p mb pb l kv rk fr to ov lv := h.chg (S := fun _ => False) (Chg.of_kept g) (fun e => e) (fun e => e) (fun e => e) h1
theorem tree_Len {w : World} {p mb : Nat} {l : List Nd} (h : TB w p mb l) : Calls Tryz.prog 67 #[.pointer (some ⟨p, 0, none⟩)] w fun e w' => e = .returned (.int .i64 l.length) ∧ w' = w := by
  have h0 := h.c0
  go_enter Tryz.func67, Tryz.ntmps67
  go_wp2
  go_ret
  exact ⟨rfl, rfl⟩
theorem tree_has {w : World} {p mb : Nat} {l : List Nd} (h : TB w p mb l) (i : Int) : Calls Tryz.prog 110 #[.pointer (some ⟨p, 0, none⟩), .int .i64 i] w fun e w' => e = .returned (.bool (decide (isP l i))) ∧ w' = w := by
  have H := hidMk (tree_Len h)
  clear h
  by_cases h0 : 0 ≤ i
  · by_cases h1 : i < l.length
    · have e : decide (isP l i) = true := decide_eq_true ⟨h0, h1⟩
      rw [e]
      clear e
      go_enter Tryz.func110, Tryz.ntmps110
      go_wp2_with (go_at_call 67; refine H.out.mono ?_; rintro e w1 ⟨rfl, rfl⟩)
      go_ret
      exact ⟨rfl, rfl⟩
    · have e : decide (isP l i) = false := decide_eq_false (fun h => h1 h.2)
      rw [e]
      clear e
      have h1' : (l.length : Int) ≤ i := by omega
      go_enter Tryz.func110, Tryz.ntmps110
      go_wp2_with (go_at_call 67; refine H.out.mono ?_; rintro e w1 ⟨rfl, rfl⟩)
      go_ret
      exact ⟨by simp; omega, rfl⟩
  · have e : decide (isP l i) = false := decide_eq_false (fun h => h0 h.1)
    rw [e]
    clear e
    have h0' : i < 0 := by omega
    go_enter Tryz.func110, Tryz.ntmps110
    go_wp2_with fail
    go_ret
    exact ⟨rfl, rfl⟩
theorem tree_Up {w : World} {p mb : Nat} {l : List Nd} (h : TB w p mb l) (i : Int) : Calls Tryz.prog 124 #[.pointer (some ⟨p, 0, none⟩), .int .i64 i] w fun e w' => e = .returned (.int .i64 (upI l i)) ∧ w' = w := by
  have H := hidMk (tree_has h i)
  by_cases hp : isP l i
  · rw [decide_eq_true hp] at H
    obtain ⟨k, rfl⟩ : ∃ k : Nat, i = k := ⟨i.toNat, by have := hp.1; omega⟩
    have hk : k < l.length := by have := hp.2; omega
    have e : upI l k = upA l k := by unfold upI; rw [if_pos hp]; rfl
    rw [e]
    have h0 := h.c0
    have h1 := h.up k hk
    have hb := h.big
    clear h e hp
    generalize upA l k = u at *
    go_enter Tryz.func124, Tryz.ntmps124
    go_wp2_with (go_at_call 110; refine H.out.mono ?_; rintro e w1 ⟨rfl, rfl⟩)
    go_ret
    exact ⟨rfl, rfl⟩
  · rw [decide_eq_false hp] at H
    have e : upI l i = -1 := by unfold upI; rw [if_neg hp]
    rw [e]
    clear h e hp
    go_enter Tryz.func124, Tryz.ntmps124
    go_wp2_with (go_at_call 110; refine H.out.mono ?_; rintro e w1 ⟨rfl, rfl⟩)
    go_ret
    exact ⟨rfl, rfl⟩
def nmI (l : List Nd) (i : Int) : ByteArray := if isP l i then nmA l i.toNat else ByteArray.empty
theorem tree_Name {w : World} {p mb : Nat} {l : List Nd} (h : TB w p mb l) (i : Int) : Calls Tryz.prog 189 #[.pointer (some ⟨p, 0, none⟩), .int .i64 i] w fun e w' => e = .returned (.string (nmI l i)) ∧ w' = w := by
  have H := hidMk (tree_has h i)
  by_cases hp : isP l i
  · rw [decide_eq_true hp] at H
    obtain ⟨k, rfl⟩ : ∃ k : Nat, i = k := ⟨i.toNat, by have := hp.1; omega⟩
    have hk : k < l.length := by have := hp.2; omega
    have e : nmI l k = nmA l k := by unfold nmI; rw [if_pos hp]; rfl
    rw [e]
    have h0 := h.c0
    have h1 := h.nm k hk
    have hb := h.big
    clear h e hp
    generalize nmA l k = u at *
    go_enter Tryz.func189, Tryz.ntmps189
    go_wp2_with (go_at_call 110; refine H.out.mono ?_; rintro e w1 ⟨rfl, rfl⟩)
    go_ret
    exact ⟨rfl, rfl⟩
  · rw [decide_eq_false hp] at H
    have e : nmI l i = ByteArray.empty := by unfold nmI; rw [if_neg hp]
    rw [e]
    clear h e hp
    go_enter Tryz.func189, Tryz.ntmps189
    go_wp2_with (go_at_call 110; refine H.out.mono ?_; rintro e w1 ⟨rfl, rfl⟩)
    go_ret
    exact ⟨rfl, rfl⟩
theorem tree_Find {w : World} {p mb pb : Nat} {l : List Nd} {kv : Nat → Option Addr × Nat × Nat} {rk fr to : Nat → Int} {ov lv : Value} (h : TM w p mb pb l kv rk fr to ov lv) (s : ByteArray) (hs : s.size ≤ maxLen) : Calls Tryz.prog 178 #[.pointer (some ⟨p, 0, none⟩), .string s] w fun e w' => e = .returned (.int .i64 (findI l s)) ∧ w' = w := by
  obtain ⟨n, _, hm⟩ := h.pm
  have hl := hm.look hs
  have h1 := h.c1
  clear hm h
  by_cases g : fstN l s < l.length
  · have e1 : fstO l s = some (fstN l s : Nat) := if_pos g
    have e2 : findI l s = (fstN l s : Nat) := if_pos g
    have hl2 : (Instr.lookup 172 (.map (some pb)) (.string s) true).run Tryz.prog w = .ok (.tuple #[.int .i64 (fstN l s : Nat), .bool true]) w := by rw [e1] at hl; exact hl
    rw [e2]
    clear e1 e2 g hl
    generalize fstN l s = x at *
    go_enter Tryz.func178, Tryz.ntmps178
    go_wp2_with fail
    go_ret
    exact ⟨rfl, rfl⟩
  · have e1 : fstO l s = none := if_neg g
    have e2 : findI l s = -1 := if_neg g
    have hl2 : (Instr.lookup 172 (.map (some pb)) (.string s) true).run Tryz.prog w = .ok (.tuple #[.int .i64 0, .bool false]) w := by rw [e1] at hl; exact hl
    rw [e2]
    clear e1 e2 g hl
    go_enter Tryz.func178, Tryz.ntmps178
    go_wp2_with fail
    go_ret
    exact ⟨rfl, rfl⟩
theorem tree_loops {w : World} {p mb : Nat} {l : List Nd} (h : TB w p mb l) (i : Nat) : Calls Tryz.prog 111 #[.pointer (some ⟨p, 0, none⟩), .int .i64 i] w fun e w' => e = .returned (.bool (loopB l i)) ∧ w' = w := by
  obtain ⟨r, hr⟩ : ∃ r, loopB l i = r := ⟨_, rfl⟩
  rw [hr]
  have HR := hidMk hr
  have HU := hidMk (tree_Up h)
  have h0 := h.c0
  have hb := h.big
  clear hr h
  go_enter Tryz.func111, Tryz.ntmps111
  go_wp2_with (go_at_call 124; refine (HU.out _).mono ?_; rintro e w1 ⟨rfl, rfl⟩)
  go_loopw [5, 14] (fun a c wr => ∃ k : Nat, k ≤ l.length ∧ c = .int .i64 k ∧ a = .int .i64 (upN l (k + 1) i) ∧ wr = w1 ∧ Hid (∀ j, j < k → upN l (j + 1) i ≠ i)) (fun _ c _ => l.length - (intOf c).toNat)
  case atStart => exact ⟨0, Nat.zero_le _, rfl, rfl, rfl, hidMk fun j hj => absurd hj (by omega)⟩
  case round =>
    obtain ⟨k, hk, rfl, rfl, rfl, HK⟩ := hrel
    by_cases hkl : k < l.length
    · by_cases he : upN l (k + 1) i = i
      · have HT := hidMk (show r = true from HR.out ▸ decide_eq_true ⟨k, hkl, he⟩)
        generalize upN l (k + 1) i = x at *
        subst he
        go_wp2_with fail
        go_ret
        exact ⟨by rw [HT.out]; rfl, rfl⟩
      · have HX := hidMk (show upI l (upN l (k + 1) i) = upN l (k + 1 + 1) i from rfl)
        have HS := hidMk (show ∀ j, j < k + 1 → upN l (j + 1) i ≠ i from fun j hj => by
          by_cases e : j = k
          · subst e; exact he
          · exact HK.out j (by omega))
        generalize upN l (k + 1) i = x at *
        have he' : (x == (i : Int)) = false := by simpa using he
        clear he
        go_wp2_with (go_at_call 124; refine (HU.out _).mono ?_; rintro e w2 ⟨rfl, rfl⟩)
        refine ⟨⟨k + 1, by omega, by go_num, by rw [HX.out], trivial, HS⟩, by simp [intOf]; omega⟩
    · have HT := hidMk (show r = false from HR.out ▸ decide_eq_false (fun ⟨j, hj, e⟩ => HK.out j (by omega) e))
      have hkl' : (l.length : Int) ≤ k := by omega
      go_wp2_with fail
      go_ret
      exact ⟨by rw [HT.out]; rfl, rfl⟩
end Go.Proofs.YtpehinmckppjoaaGreatDoor
namespace Go.Proofs.YtpehinmckppjoaaGreatDoor
open Go.RowKit Go.Maps
set_option linter.unusedSimpArgs false
set_option linter.unusedVariables false

/-- Places in a row from block B on. -/
def OwnI (w : World) (B : Nat) (v : Value) (l : List Int) : Prop := w.ownsRow B 3 1 v l.length (l.map (Value.int .i64))
theorem ownI_nil (w : World) (B : Nat) : OwnI w B (.slice none 0 0) [] := World.ownsRow_nil _ _ _ _
theorem OwnI.sl {w : World} {B : Nat} {v : Value} {l : List Int} (h : OwnI w B v l) (hm : l.length ≤ maxLen) : ∃ a c, v = .slice a l.length c ∧ Sl .i64 w a l.length l := own_sl rfl hm h
theorem OwnI.base {w : World} {B B' : Nat} {v : Value} {l : List Int} (h : OwnI w B v l) (hB : B' ≤ B) : OwnI w B' v l := by
  obtain ⟨h0, h1 | ⟨g, cap, cur, hv, hb, r⟩⟩ := h
  · exact ⟨h0, .inl h1⟩
  · exact ⟨h0, .inr ⟨g, cap, cur, hv, Nat.le_trans hB hb, r⟩⟩
theorem OwnI.lt {w : World} {B : Nat} {v : Value} {l : List Int} (h : OwnI w B v l) : ∀ g, v.ownBlock = some g → B ≤ g ∧ g < w.heap.size := World.ownsRow.lt h
theorem OwnI.chg {S : Nat → Prop} {w w' : World} {B : Nat} {v : Value} {l : List Int} (h : OwnI w B v l) (g : Chg S w w') (hb : ∀ k, v.ownBlock = some k → ¬ S k) : OwnI w' B v l := by
  have hlt := h.lt
  obtain ⟨h0, h1 | ⟨k, cap, cur, hv, hb', hh, r⟩⟩ := h
  · exact ⟨h0, .inl h1⟩
  · subst hv
    refine ⟨h0, .inr ⟨k, cap, cur, rfl, hb', ?_, r⟩⟩
    rw [g.block k (hlt k rfl).2 (hb k rfl)]
    exact hh
theorem iinfo : ∃ i0, Tryz.prog.info? 3 = some i0 ∧ i0.zero = some (.int .i64 0) ∧ i0.size = 1 ∧ i0.bytes = 8 := by
  have h : (Tryz.prog.info? 3).map (fun i => (i.zero, i.size, i.bytes)) = some (some (.int .i64 0), 1, 8) := by kernel_rfl
  exact info_parts h
theorem ints_one (l : List Int) : ∀ u ∈ l.map (Value.int .i64), u.oneCell' = true := by
  intro u hu
  obtain ⟨x, _, rfl⟩ := List.mem_map.1 hu
  rfl
theorem cell_news {w : World} {g : Nat} {y : Int} (h : w.cell? ⟨g, 0, none⟩ = some (.int .i64 y)) : ∀ (j : Nat) u, [Value.int .i64 y][j]? = some u → w.cell? ((⟨g, 0, none⟩ : Addr).add j) = some u := by
  intro j u hj
  cases j with
  | zero => simp at hj; subst hj; simpa [Addr.add] using h
  | succ j => simp at hj
/-- One more place behind an own row. -/
theorem wpList_pushI {ops : Array Oper} {rest : List Oper} {o : Oper} {a : Act} {Q : Exit → Act → World → Prop} (w : World) (hgd : o.guard = none) (s x : Operand)
    (ho : o.op = .call { callee := .builtin .append, args := #[s, x], argTypes := #[107, 107] })
    (B : Nat) (v : Value) (l : List Int) (hs : a.eval s = v) (hv : OwnI w B v l) (hB : B ≤ w.heap.size) (g : Nat) (y : Int) (hx : a.eval x = .slice (some ⟨g, 0, none⟩) 1 1) (hcell : w.cell? ⟨g, 0, none⟩ = some (.int .i64 y))
    (h47 : (l.length + 1) * 8 ≤ 140737488355328) (H : Nat) (hH : w.heap.size = H)
    (h : ∀ g' cap w', OwnI w' B (.slice (some ⟨g', 0, none⟩) (l.length + 1) cap) (l ++ [y]) → Chg (fun k => v.ownBlock = some k) w w' → (v.ownBlock = some g' ∨ g' = H) → g' < w'.heap.size → wpList Tryz.prog ops Q rest (a.put o.dst (.slice (some ⟨g', 0, none⟩) (l.length + 1) cap)) w') : wpList Tryz.prog ops Q (o :: rest) a w := by
  obtain ⟨i0, hi0, hz0, hz1, hz2⟩ := iinfo
  refine wpList_append_lies w hgd s x 107 ho B 3 i0 (.int .i64 0) 1 8 Tryz.underlying107 hi0 hz0 hz1 hz2 rfl (by decide) v _ _ hs hv ⟨g, 0, none⟩ 1 1 [.int .i64 y] hx rfl (cell_news hcell) (by intro u hu; simp at hu; subst hu; rfl) (by omega) (by unfold maxLen; omega) (by omega) hB H hH ?_
  intro g' cap w' h2 h3 h4 h5
  refine h g' cap w' ?_ ((Chg.refl _ w).grown h3 (fun k hk => .inl hk)) h4 h5
  unfold OwnI
  simpa using h2
theorem sl_newsI {w : World} {a : Option Addr} {n : Nat} {l : List Int} (h : Sl .i64 w a n l) {ad : Addr} (ha : a = some ad) : ∀ (j : Nat) u, (l.map (Value.int .i64))[j]? = some u → w.cell? (ad.add j) = some u := by
  intro j u hj
  have hjn : j < n := by
    have := (List.getElem?_eq_some_iff.1 hj).1
    have := h.len
    simp at *; omega
  obtain ⟨bb, oo, e, _, hcs⟩ := h.cells (by omega)
  rw [ha] at e
  cases e
  have hl := h.len
  rw [Addr.add_lit, hcs j hjn, ← hj, List.getElem?_map, List.getElem?_eq_getElem (by omega)]
  simp [List.getD, List.getElem?_eq_getElem (show j < l.length by omega)]
set_option maxHeartbeats 400000 in
theorem slices_CloneI (a : Option Addr) (n c : Nat) (l : List Int) (w : World) (hs : Sl .i64 w a n l) (hl : n ≤ 1000) :
    Calls Tryz.prog 96 #[.slice a n c] w fun e w' => ∃ v, e = .returned v ∧ OwnI w' w.heap.size v l ∧ Kept w w' := by
  obtain ⟨i0, hi0, hz0, hz1, hz2⟩ := iinfo
  have q : ∀ (w : World) (a : Option Addr) (n c n' c' : Nat), (binOp .eql 107 (.slice a n c) (.slice none n' c')).run Tryz.prog w = .ok (.bool a.isNone) w := fun w a n c n' c' => Lib.run_eql_slice_nil w _ _ a n c n' c' Tryz.underlying107
  have H := hidMk hs
  have HA := hidMk hi0
  have HZ := hidMk hz0
  have hlen := hs.len
  have hbig := hs.big
  clear hs hi0 hz0
  cases a with
  | none =>
    have hn : n = 0 := by
      by_cases hn : 0 < n
      · obtain ⟨b, o, e, _⟩ := H.out.cells hn
        cases e
      · omega
    subst hn
    have HN := hidMk (show l = [] from List.eq_nil_of_length_eq_zero hlen)
    go_enter Tryz.func96, Tryz.ntmps96
    go_wp2
    go_ret
    refine ⟨_, rfl, ?_, Kept.refl _⟩
    rw [HN.out]
    exact World.ownsRow_nil _ _ _ _
  | some ad =>
    go_enter Tryz.func96, Tryz.ntmps96
    go_wp2_with (at_builtin; refine wpList_append_own_wide _ rfl _ _ 107 rfl w.heap.size 3 i0 (.int .i64 0) 1 8 Tryz.underlying107 HA.out HZ.out hz1 hz2 rfl (by decide) _ _ _ rfl (World.ownsRow_made w #[] 0 (Nat.le_refl _) (Nat.zero_le _) (by simp)) ad n c (l.map (Value.int .i64)) rfl ?c1 ?c2 ?c3 ?c4 ?c5 ?c6 ?_)
    case c1 => simpa using hlen
    case c2 => exact sl_newsI (H.out.kept ((Kept.refl w).alloc _)) rfl
    case c3 => exact ints_one l
    case c4 => rw [Nat.zero_add]; exact hbig
    case c5 => rw [Nat.zero_add]; omega
    case c6 => simp
    intro v' w1 hown hgrow hnil
    have H4 := hidMk hown
    have H5 := hidMk (show Kept w w1 from ((Below.refl _ w).alloc (Nat.le_refl _) _).grown hgrow (by simp) (by intro k hk; simp [Value.ownBlock] at hk; omega))
    clear hown hgrow hnil
    go_wp2
    go_ret
    refine ⟨_, rfl, ?_, H5.out⟩
    show OwnI w1 w.heap.size v' l
    unfold OwnI
    rw [hlen]
    simpa using H4.out

theorem tree_Depth {w : World} {p mb : Nat} {l : List Nd} (h : TB w p mb l) {m : Nat} {i : Int} (hm : m ≤ l.length) (he : Ends l m i) : Calls Tryz.prog 112 #[.pointer (some ⟨p, 0, none⟩), .int .i64 i] w fun e w' => e = .returned (.int .i64 (m - 1 : Nat)) ∧ w' = w := by
  have HU := hidMk (tree_Up h)
  have HH := hidMk (tree_has h)
  have HE := hidMk he
  have HX := hidMk (show ∀ j, upI l (upN l j i) = upN l (j + 1) i from fun j => rfl)
  have HX0 := hidMk (show upI l i = upN l (0 + 1) i from rfl)
  have hb := h.big
  clear h he
  go_enter Tryz.func112, Tryz.ntmps112
  go_wp2_with (go_at_call 124; refine (HU.out _).mono ?_; rintro e w1 ⟨rfl, rfl⟩)
  go_loopg [1, 5] (m - 1) (fun g a d wr => ∃ j : Nat, (j + 1 + g = m ∨ (m = 0 ∧ j = 0)) ∧ d = .int .i64 j ∧ a = .int .i64 (upN l (j + 1) i) ∧ wr = w1)
  case atStart => exact ⟨0, by omega, rfl, rfl, rfl⟩
  case round =>
    obtain ⟨j, hj, rfl, rfl, rfl⟩ := hrel
    have HJ := hidMk hj
    by_cases hlast : j + 1 < m
    · have H1 := HH.out (upN l (j + 1) i)
      rw [decide_eq_true (HE.out.2 (j + 1) hlast)] at H1
      have H2 := hidMk H1
      have H3 := hidMk (HU.out (upN l (j + 1) i))
      have HXJ := hidMk (HX.out (j + 1))
      clear H1 hj
      generalize upN l (j + 1) i = x at *
      go_wp2_with (first | (go_at_call 110; refine H2.out.mono ?_; rintro e w2 ⟨rfl, rfl⟩) | (go_at_call 124; refine H3.out.mono ?_; rintro e w2 ⟨rfl, rfl⟩))
      go_roundg (gk - 1)
      case measure => have := HJ.out; omega
      case rel =>
        refine ⟨j + 1, ?_, by go_num, by rw [HXJ.out], rfl⟩
        have := HJ.out
        omega
    · have hnp : ¬ isP l (upN l (j + 1) i) := by
        rcases hj with hj | ⟨hm0, hj0⟩
        · have : j + 1 = m := by omega
          rw [this]
          exact HE.out.1
        · subst hm0 hj0
          have h0 : ¬ isP l i := HE.out.1
          rw [← HX0.out]
          unfold upI
          rw [if_neg h0]
          unfold isP
          omega
      have H1 := HH.out (upN l (j + 1) i)
      rw [decide_eq_false hnp] at H1
      have H2 := hidMk H1
      clear H1 hj hnp
      generalize upN l (j + 1) i = x at *
      go_wp2_with (go_at_call 110; refine H2.out.mono ?_; rintro e w2 ⟨rfl, rfl⟩)
      go_ret
      refine ⟨ret_int ?_, rfl⟩
      have := HJ.out
      omega
theorem abv_take {l : List Nd} {j : Nat} {i : Int} : ((List.range (j + 1)).map fun t => upN l t i) = ((List.range j).map fun t => upN l t i) ++ [upN l j i] := by
  rw [List.range_succ, List.map_append]
  rfl
end Go.Proofs.YtpehinmckppjoaaGreatDoor
