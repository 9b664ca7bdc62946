/- Regions beside coord: a set in memory. -/
import Derived.Test.YtpkepkemjcjplaaGreatCoM1
import Derived.Test.YtpkepkemjcjplaaGreatRegJ0
import Derived.Maps.Own
import Derived.Deep.Draws
import Derived.WalkSpells
import Derived.WalkLawsBesides
import Derived.Deep.QuietTactic
import Derived.BigQuiet
import Derived.BigRegion
import Derived.Deep.LoopGhost
import Derived.Deep.DeepAppendWide
import Derived.Deep.AppendLies
import Derived.Maps.AppendAt
import Derived.Laws.ResultCell
namespace Go.Proofs.YtpkepkemjcjplaaGreat
open Go.RowKit Go.Maps
set_option linter.unusedSimpArgs false
set_option linter.unusedVariables false

/-- A slice of runs. -/
def rnA (l : List Rn) (i : Nat) : Rn := l.getD i (0, 0)
structure Rs (w : World) (a : Option Addr) (l : List Rn) : Prop where
  cells : 0 < l.length → ∃ b o, a = some ⟨b, o, none⟩ ∧ b < w.heap.size ∧ ∀ i, i < l.length → w.cell? ⟨b, o + i * 2, none⟩ = some (.int .i64 (rnA l i).1) ∧ w.cell? ⟨b, o + i * 2 + 1, none⟩ = some (.int .i64 (rnA l i).2)
theorem Rs.chg {S : Nat → Prop} {w w' : World} {a : Option Addr} {l : List Rn} (h : Rs w a l) (g : Chg S w w') (hb : 0 < l.length → ∀ ad, a = some ad → ¬ S ad.block) : Rs w' a l :=
  ⟨fun hp => by
    obtain ⟨c, o, h1, h2, h3⟩ := h.cells hp
    have hne : ¬ S c := hb hp ⟨c, o, none⟩ h1
    exact ⟨c, o, h1, Nat.lt_of_lt_of_le h2 g.size, fun i hi => ⟨g.cellp (h3 i hi).1 hne, g.cellp (h3 i hi).2 hne⟩⟩⟩
theorem Rs.kept {w w' : World} {a : Option Addr} {l : List Rn} (h : Rs w a l) (g : Kept w w') : Rs w' a l := h.chg (S := fun _ => False) (Chg.of_kept g) (fun _ _ _ e => e)
def flatR (l : List Rn) : List Value := l.flatMap fun r => [.int .i64 r.1, .int .i64 r.2]
theorem flatR_len (l : List Rn) : (flatR l).length = l.length * 2 := by
  induction l with
  | nil => rfl
  | cons r t ih => simp only [flatR, List.flatMap_cons, List.length_append, List.length_cons, List.length_nil] at *; omega
theorem flatR_snoc (l : List Rn) (r : Rn) : flatR (l ++ [r]) = flatR l ++ [.int .i64 r.1, .int .i64 r.2] := by simp [flatR]
theorem flatR_app (l m : List Rn) : flatR (l ++ m) = flatR l ++ flatR m := by simp [flatR]
theorem flatR_get : ∀ (l : List Rn) (i : Nat), i < l.length → (flatR l)[i * 2]? = some (.int .i64 (rnA l i).1) ∧ (flatR l)[i * 2 + 1]? = some (.int .i64 (rnA l i).2) := by
  intro l
  induction l with
  | nil => intro i h; simp at h
  | cons r t ih =>
    intro i h
    have e : flatR (r :: t) = .int .i64 r.1 :: .int .i64 r.2 :: flatR t := by simp [flatR]
    rw [e]
    cases i with
    | zero => exact ⟨rfl, rfl⟩
    | succ i =>
      have := ih i (by simpa using h)
      rw [show (i + 1) * 2 = i * 2 + 1 + 1 by omega]
      simp only [List.getElem?_cons_succ]
      exact this
theorem flatR_set1 : ∀ (l : List Rn) (i : Nat) (x : Int), i < l.length → (flatR l).set (i * 2 + 1) (.int .i64 x) = flatR (l.set i ((rnA l i).1, x)) := by
  intro l
  induction l with
  | nil => intro i x h; simp at h
  | cons r t ih =>
    intro i x h
    have e : ∀ (r : Rn) t, flatR (r :: t) = .int .i64 r.1 :: .int .i64 r.2 :: flatR t := fun r t => by simp [flatR]
    cases i with
    | zero => rw [e]; simp [rnA, e]
    | succ i =>
      have := ih i x (by simpa using h)
      rw [e, show (i + 1) * 2 + 1 = i * 2 + 1 + 1 + 1 by omega, List.set_cons_succ, List.set_cons_succ, this, List.set_cons_succ, e]
      rfl
theorem flatR_one (l : List Rn) : ∀ u ∈ flatR l, u.oneCell' = true := by
  intro u hu
  obtain ⟨r, _, h⟩ := List.mem_flatMap.1 hu
  simp at h
  rcases h with rfl | rfl <;> rfl
/-- Runs in a row from block B on. -/
def OwnR (w : World) (B : Nat) (v : Value) (l : List Rn) : Prop := w.ownsRow B 102 2 v l.length (flatR l)
theorem ownR_nil (w : World) (B : Nat) : OwnR w B (.slice none 0 0) [] := World.ownsRow_nil _ _ _ _
theorem OwnR.lt {w : World} {B : Nat} {v : Value} {l : List Rn} (h : OwnR w B v l) : ∀ g, v.ownBlock = some g → B ≤ g ∧ g < w.heap.size := World.ownsRow.lt h
theorem OwnR.chg {S : Nat → Prop} {w w' : World} {B : Nat} {v : Value} {l : List Rn} (h : OwnR w B v l) (g : Chg S w w') (hb : ∀ k, v.ownBlock = some k → ¬ S k) : OwnR w' B v l := by
  have hlt := h.lt
  obtain ⟨h0, h1 | ⟨k, cap, cur, hv, hb', hh, r⟩⟩ := h
  · exact ⟨h0, .inl h1⟩
  · subst hv
    refine ⟨h0, .inr ⟨k, cap, cur, rfl, hb', ?_, r⟩⟩
    rw [g.block k (hlt k rfl).2 (hb k rfl)]
    exact hh
theorem OwnR.kept {w w' : World} {B : Nat} {v : Value} {l : List Rn} (h : OwnR w B v l) (g : Kept w w') : OwnR w' B v l := h.chg (S := fun _ => False) (Chg.of_kept g) (fun _ _ e => e)
/-- An own row as a slice. -/
theorem OwnR.rs {w : World} {B : Nat} {v : Value} {l : List Rn} (h : OwnR w B v l) : ∃ a c, v = .slice a l.length c ∧ Rs w a l ∧ l.length ≤ c ∧ (a = none → l = [] ∧ c = 0) := by
  have h' := h
  have hlt := h.lt
  obtain ⟨_, ⟨rfl, hz⟩ | ⟨g, cap, cur, rfl, hb, hheap, hc, hcm, hsz, htk⟩⟩ := h
  · exact ⟨none, 0, by rw [hz], ⟨fun hp => absurd hp (by omega)⟩, by omega, fun _ => ⟨List.eq_nil_of_length_eq_zero hz, rfl⟩⟩
  · refine ⟨_, _, rfl, ⟨fun hp => ⟨g, 0, rfl, (hlt g rfl).2, fun i hi => ?_⟩⟩, hc, fun e => by cases e⟩
    have h1 := World.ownsRow.cellAt h' (i * 2) (by omega)
    have h2 := World.ownsRow.cellAt h' (i * 2 + 1) (by omega)
    have h3 := flatR_get l i hi
    rw [Nat.zero_add, h1, h2]
    exact h3
theorem rinfo : ∃ i0, Tryz.prog.info? 102 = some i0 ∧ i0.zero = some (.agg #[.int .i64 0, .int .i64 0]) ∧ i0.size = 2 ∧ i0.bytes = 16 := by
  have h : (Tryz.prog.info? 102).map (fun i => (i.zero, i.size, i.bytes)) = some (some (.agg #[.int .i64 0, .int .i64 0]), 2, 16) := by kernel_rfl
  exact info_parts h
theorem two_news {w : World} {g : Nat} {x y : Int} (h0 : w.cell? ⟨g, 0, none⟩ = some (.int .i64 x)) (h1 : w.cell? ⟨g, 1, none⟩ = some (.int .i64 y)) : ∀ (j : Nat) u, [Value.int .i64 x, Value.int .i64 y][j]? = some u → w.cell? ((⟨g, 0, none⟩ : Addr).add j) = some u := by
  intro j u hj
  have : j = 0 ∨ j = 1 ∨ 2 ≤ j := by omega
  rcases this with rfl | rfl | hj2
  · simp at hj; subst hj; simpa [Addr.add] using h0
  · simp at hj; subst hj; simpa [Addr.add] using h1
  · rw [List.getElem?_eq_none (by simpa using hj2)] at hj; cases hj
/-- One more run behind an own row. -/
theorem wpList_pushRn {ops : Array Oper} {rest : List Oper} {o : Oper} {a : Act} {Q : Exit → Act → World → Prop} (w : World) (hgd : o.guard = none) (s x : Operand)
    (ho : o.op = .call { callee := .builtin .append, args := #[s, x], argTypes := #[53, 53] })
    (B : Nat) (v : Value) (l : List Rn) (hs : a.eval s = v) (hv : OwnR w B v l) (hB : B ≤ w.heap.size) (g : Nat) (r : Rn) (hx : a.eval x = .slice (some ⟨g, 0, none⟩) 1 1) (hc0 : w.cell? ⟨g, 0, none⟩ = some (.int .i64 r.1)) (hc1 : w.cell? ⟨g, 1, none⟩ = some (.int .i64 r.2))
    (h47 : l.length ≤ 100000) (H : Nat) (hH : w.heap.size = H)
    (h : ∀ g' cap w', OwnR w' B (.slice (some ⟨g', 0, none⟩) (l.length + 1) cap) (l ++ [r]) → Chg (fun k => v.ownBlock = some k) w w' → (v.ownBlock = some g' ∨ g' = H) → g' < w'.heap.size → wpList Tryz.prog ops Q rest (a.put o.dst (.slice (some ⟨g', 0, none⟩) (l.length + 1) cap)) w') : wpList Tryz.prog ops Q (o :: rest) a w := by
  obtain ⟨i0, hi0, hz0, hz1, hz2⟩ := rinfo
  refine wpList_append_lies w hgd s x 53 ho B 102 i0 _ 2 16 Tryz.underlying53 hi0 hz0 hz1 hz2 rfl (by decide) v _ _ hs hv ⟨g, 0, none⟩ 1 1 [.int .i64 r.1, .int .i64 r.2] hx rfl (two_news hc0 hc1) (by intro u hu; simp at hu; rcases hu with rfl | rfl <;> rfl) (by omega) (by unfold maxLen; omega) (by omega) hB H hH ?_
  intro g' cap w' h2 h3 h4 h5
  refine h g' cap w' ?_ ((Chg.refl _ w).grown h3 (fun k hk => .inl hk)) h4 h5
  unfold OwnR
  rw [flatR_snoc, List.length_append, List.length_singleton]
  exact h2
/-- A set's value: its runs. -/
def SetIs (w : World) (v : Value) (l : List Rn) : Prop := ∃ a c, v = .agg #[.slice a l.length c] ∧ Rs w a l ∧ l.length ≤ c ∧ (a = none → l = [] ∧ c = 0)
theorem SetIs.kept {w w' : World} {v : Value} {l : List Rn} (h : SetIs w v l) (g : Kept w w') : SetIs w' v l := by
  obtain ⟨a, c, h1, h2, h3⟩ := h
  exact ⟨a, c, h1, h2.kept g, h3⟩
end Go.Proofs.YtpkepkemjcjplaaGreat
namespace Go.Proofs.YtpkepkemjcjplaaGreat
open Go.RowKit Go.Maps
set_option linter.unusedSimpArgs false
set_option linter.unusedVariables false

theorem set_load {w : World} {g : Nat} {v : Value} (c0 : w.cell? ⟨g, 0, none⟩ = some v) : (loadVar 55 ⟨g, 0, none⟩).run Tryz.prog w = .ok (.agg #[v]) w := by
  have hl := run_loadCells_list (P := Tryz.prog) w ⟨g, 0, none⟩ [v] (fun j u hu => by
    have hadd : (⟨g, 0, none⟩ : Addr).add j = ⟨g, j, none⟩ := by unfold Addr.add; split <;> simp_all
    rw [hadd]
    have : j = 0 := by
      have := (List.getElem?_eq_some_iff.1 hu).1
      simp at this
      omega
    subst this
    simp_all)
  have hi : (Tryz.prog.info? 55).map (·.size) = some 1 := by kernel_rfl
  obtain ⟨i, h1, h2⟩ := Option.map_eq_some_iff.1 hi
  simp only [List.length_cons, List.length_nil, Nat.reduceAdd] at hl
  simp [loadVar, Sem.run_bind, Tryz.isAgg55, sizeOf, typeInfo, h1, h2, hl]
theorem results_cell1 {P : Program} {fn : Func} {p : Tmp} {ty : TypeId} (h : fn.results = #[.cell p ty]) (tmps : Array Value) (w : World) (g : Nat) (v : Value)
    (hp : tmps.getD p undef = .pointer (some ⟨g, 0, none⟩)) (hg : (loadVar ty ⟨g, 0, none⟩).run P w = .ok v w) : (results fn tmps).run P w = .ok v w := by
  have hp' : tmps[p]?.getD undef = .pointer (some ⟨g, 0, none⟩) := by simpa using hp
  simp [results, h, hp', asAddr, hg]
/-- A set as a result that lies in its block. -/
theorem set_ret {R : Ending → World → Prop} {fn : Func} {p : Tmp} (hfn : fn.results = #[.cell p 55]) {a : Act} {w : World} (g : Nat) (v : Value) (hp : a.tmps.getD p undef = .pointer (some ⟨g, 0, none⟩)) (hd : a.defers = [])
    (c0 : w.cell? ⟨g, 0, none⟩ = some v) (h : R (.returned (.agg #[v])) w) : bodyPost Tryz.prog fn R .ret a w :=
  bodyPost_ret (results_cell1 hfn _ _ g _ hp (set_load c0)) hd h
/-- A set's own block s, that its runs are appended to, and the result's block rs. -/
structure SB (w0 w : World) (rs s B : Nat) (v : Value) (l : List Rn) : Prop where
  c : w.cell? ⟨s, 0, none⟩ = some v
  f : w.frozen? ⟨s, 0, none⟩ = false
  rc : ∃ u, w.cell? ⟨rs, 0, none⟩ = some u
  rf : w.frozen? ⟨rs, 0, none⟩ = false
  own : OwnR w B v l
  lt : rs < s ∧ s < B
  hB : B ≤ w.heap.size
  kept : Kept w0 w
  h0 : w0.heap.size ≤ s
theorem SB.keep {w0 w w' : World} {rs s B : Nat} {v : Value} {l : List Rn} (h : SB w0 w rs s B v l) (g : Kept w w') : SB w0 w' rs s B v l := by
  have l1 : s < w.heap.size := cell_lt h.c
  have l2 : rs < w.heap.size := by have := h.lt; omega
  obtain ⟨u, hu⟩ := h.rc
  exact ⟨g.cellp h.c, (g.frozen (p := ⟨s, 0, none⟩) l1).trans h.f, ⟨u, g.cellp hu⟩, (g.frozen (p := ⟨rs, 0, none⟩) l2).trans h.rf, h.own.kept g, h.lt, Nat.le_trans h.hB g.size, h.kept.trans g, h.h0⟩
theorem SB.push {w0 w y : World} {rs s B : Nat} {v v' : Value} {l m : List Rn} (h : SB w0 w rs s B v l) (ho : OwnR y B v' m) (hc : Chg (fun k => v.ownBlock = some k) w y) :
    y.cell? ⟨s, 0, none⟩ = some v ∧ y.frozen? ⟨s, 0, none⟩ = false ∧ SB w0 (y.setCell ⟨s, 0, none⟩ v') rs s B v' m := by
  have hlt := h.lt
  have hb : ∀ k, v.ownBlock = some k → B ≤ k := fun k hk => (h.own.lt k hk).1
  have n1 : ¬ v.ownBlock = some s := fun e => by have := hb s e; omega
  have n2 : ¬ v.ownBlock = some rs := fun e => by have := hb rs e; omega
  have l1 : s < w.heap.size := cell_lt h.c
  have l2 : rs < w.heap.size := by omega
  have q := hc.cellp h.c n1
  have c2 : Chg (· = s) y (y.setCell ⟨s, 0, none⟩ v') := (Chg.refl (· = s) y).setCell (p := ⟨s, 0, none⟩) (.inl rfl) _
  obtain ⟨u, hu⟩ := h.rc
  refine ⟨q, (hc.frozen (p := ⟨s, 0, none⟩) l1 n1).trans h.f, World.cell?_setCell_same _ _ _ q, by simpa using (hc.frozen (p := ⟨s, 0, none⟩) l1 n1).trans h.f, ⟨u, c2.cellp (hc.cellp hu n2) (by omega)⟩, by simpa using (hc.frozen (p := ⟨rs, 0, none⟩) l2 n2).trans h.rf, ho.chg c2 (fun k hk e => ?_), hlt, ?_, ?_, h.h0⟩
  · have := (ho.lt k hk).1; omega
  · have := h.hB; have := hc.size; simp; omega
  · exact (Chg.kept h.kept hc (fun j hj => by have := hb j hj; have := h.h0; omega)).setCell (p := ⟨s, 0, none⟩) (show w0.heap.size ≤ s by have := h.h0; omega) _
theorem SB.push1 {w0 w y : World} {rs s B : Nat} {v v' : Value} {l m : List Rn} (h : SB w0 w rs s B v l) (ho : OwnR y B v' m) (hc : Chg (fun k => v.ownBlock = some k) w y) :
    y.cell? ⟨s, 0, none⟩ = some v ∧ y.frozen? ⟨s, 0, none⟩ = false ∧ (∃ u, y.cell? ⟨rs, 0, none⟩ = some u) ∧ y.frozen? ⟨rs, 0, none⟩ = false ∧ SB w0 (y.setCell ⟨s, 0, none⟩ v') rs s B v' m := by
  obtain ⟨q1, q2, q3⟩ := h.push ho hc
  have hlt := h.lt
  have n2 : ¬ v.ownBlock = some rs := fun e => by have := (h.own.lt rs e).1; omega
  have l2 : rs < w.heap.size := by have := h.hB; omega
  obtain ⟨u, hu⟩ := h.rc
  exact ⟨q1, q2, ⟨u, hc.cellp hu n2⟩, (hc.frozen (p := ⟨rs, 0, none⟩) l2 n2).trans h.rf, q3⟩
theorem SB.push2 {w0 w y : World} {rs s B : Nat} {v v' : Value} {l m : List Rn} (h : SB w0 w rs s B v l) {o1 o2 : Obj} (ho : OwnR y B v' m) (hc : Chg (fun k => v.ownBlock = some k) ((w.alloc o1).alloc o2) y) :
    y.cell? ⟨s, 0, none⟩ = some v ∧ y.frozen? ⟨s, 0, none⟩ = false ∧ (∃ u, y.cell? ⟨rs, 0, none⟩ = some u) ∧ y.frozen? ⟨rs, 0, none⟩ = false ∧ (∀ j u, (w.alloc o1).cell? ⟨w.heap.size, j, none⟩ = some u → y.cell? ⟨w.heap.size, j, none⟩ = some u) ∧ SB w0 (y.setCell ⟨s, 0, none⟩ v') rs s B v' m := by
  have h' := h.keep (((Kept.refl w).alloc o1).alloc o2)
  obtain ⟨q1, q2, q3⟩ := h'.push ho hc
  have hlt := h.lt
  have hb : ∀ k, v.ownBlock = some k → B ≤ k ∧ k < w.heap.size := fun k hk => h.own.lt k hk
  have n2 : ¬ v.ownBlock = some rs := fun e => by have := hb rs e; omega
  have l2 : rs < ((w.alloc o1).alloc o2).heap.size := by have := h'.hB; omega
  obtain ⟨u, hu⟩ := h'.rc
  exact ⟨q1, q2, ⟨u, hc.cellp hu n2⟩, (hc.frozen (p := ⟨rs, 0, none⟩) l2 n2).trans h'.rf, fun j u hj => hc.cellp (((Kept.refl _).alloc o2).cellp hj) (fun e => by have := hb _ e; omega), q3⟩
theorem SB.pushK {w0 w W y : World} {rs s B : Nat} {v v' : Value} {l m : List Rn} (h : SB w0 w rs s B v l) (hk : Kept w W) (ho : OwnR y B v' m) (hc : Chg (fun k => v.ownBlock = some k) W y) :
    y.cell? ⟨s, 0, none⟩ = some v ∧ y.frozen? ⟨s, 0, none⟩ = false ∧ (∃ u, y.cell? ⟨rs, 0, none⟩ = some u) ∧ y.frozen? ⟨rs, 0, none⟩ = false ∧ (∀ b j u, w.heap.size ≤ b → W.cell? ⟨b, j, none⟩ = some u → y.cell? ⟨b, j, none⟩ = some u) ∧ Kept w0 y ∧ SB w0 (y.setCell ⟨s, 0, none⟩ v') rs s B v' m := by
  have h' := h.keep hk
  obtain ⟨q1, q2, q3, q4, q5⟩ := h'.push1 ho hc
  have hb : ∀ k, v.ownBlock = some k → B ≤ k ∧ k < w.heap.size := fun k hk => h.own.lt k hk
  exact ⟨q1, q2, q3, q4, fun b j u hbj hj => hc.cellp hj (fun e => by have := hb _ e; omega), Chg.kept h'.kept hc (fun j hj => by have := hb j hj; have := h.h0; have := h.lt; omega), q5⟩
/-- The set as it lies, stored into the result's block. -/
theorem SB.ret {w0 w : World} {rs s B : Nat} {v : Value} {l : List Rn} (h : SB w0 w rs s B v l) (hr : w0.heap.size ≤ rs) : (w.setCell ⟨rs, 0, none⟩ v).cell? ⟨rs, 0, none⟩ = some v ∧ SetIs (w.setCell ⟨rs, 0, none⟩ v) (.agg #[v]) l ∧ Kept w0 (w.setCell ⟨rs, 0, none⟩ v) ∧ ∀ ad n c, v = .slice (some ad) n c → B ≤ ad.block := by
  obtain ⟨u, hu⟩ := h.rc
  have c2 : Chg (· = rs) w (w.setCell ⟨rs, 0, none⟩ v) := (Chg.refl (· = rs) w).setCell (p := ⟨rs, 0, none⟩) (.inl rfl) _
  have hlt := h.lt
  have ho : OwnR (w.setCell ⟨rs, 0, none⟩ v) B v l := h.own.chg c2 (fun k hk e => by have := (h.own.lt k hk).1; omega)
  obtain ⟨a, c, rfl, h1, h2, h3⟩ := ho.rs
  exact ⟨World.cell?_setCell_same _ _ _ hu, ⟨a, c, rfl, h1, h2, h3⟩, h.kept.setCell (p := ⟨rs, 0, none⟩) hr _, fun ad n c' e => (ho.lt ad.block (by rw [e]; rfl)).1⟩
theorem sb_new {w : World} {rs s B : Nat} {W : World} (hr : W.cell? ⟨rs, 0, none⟩ = some (.slice none 0 0)) (hs : W.cell? ⟨s, 0, none⟩ = some (.slice none 0 0)) (hrf : W.frozen? ⟨rs, 0, none⟩ = false) (hsf : W.frozen? ⟨s, 0, none⟩ = false) (h1 : rs < s) (h2 : s < B) (hB : B ≤ W.heap.size) (hk : Kept w W) (h0 : w.heap.size ≤ s) :
    SB w W rs s B (.slice none 0 0) [] := ⟨hs, hsf, ⟨_, hr⟩, hrf, ownR_nil _ _, ⟨h1, h2⟩, hB, hk, h0⟩

theorem new_cellR {W : World} {N : Nat} (h : W.heap.size = N) (v : Value) (t : TypeId) : (W.alloc (.cells #[v] t)).cell? ⟨N, 0, none⟩ = some v := by subst h; simp
theorem new_frozenR {W : World} {N : Nat} (h : W.heap.size = N) (v : Value) (t : TypeId) (j : Nat) : (W.alloc (.cells #[v] t)).frozen? ⟨N, j, none⟩ = false := by subst h; simp
theorem sb_start {w W1 : World} {N : Nat} (hN : W1.heap.size = N) (hk : Kept w W1) (t t' : TypeId) : SB w ((W1.alloc (.cells #[.slice none 0 0] t)).alloc (.cells #[.slice none 0 0] t')) N (N + 1) (N + 1 + 1) (.slice none 0 0) [] :=
  sb_new (((Kept.refl _).alloc _).cellp (new_cellR hN _ _)) (new_cellR (by simp [hN]) _ _) ((((Kept.refl _).alloc _).frozen (p := ⟨N, 0, none⟩) (by simp [hN])).trans (new_frozenR hN _ _ 0)) (new_frozenR (by simp [hN]) _ _ 0) (by omega) (by omega) (by simp [hN]) ((hk.alloc _).alloc _) (by have := hk.size; omega)
theorem rnA_drop {l : List Rn} {k : Nat} (h : k < l.length) : l.drop k = rnA l k :: l.drop (k + 1) := by
  rw [List.drop_eq_getElem_cons h]
  simp [rnA, List.getD, List.getElem?_eq_getElem h]
theorem rnA_mem {l : List Rn} {k : Nat} (h : k < l.length) : rnA l k ∈ l := by
  simp [rnA, List.getD, List.getElem?_eq_getElem h]
theorem norm_at {l : List Rn} (h : Norm l) {k : Nat} (hk : k < l.length) : 0 ≤ (rnA l k).1 ∧ (rnA l k).1 ≤ (rnA l k).2 ∧ (rnA l k).2 ≤ 9223372036854775807 := by
  have := h.ok _ (rnA_mem hk)
  unfold okR top at this
  exact this
theorem manyZ_take {l : List Rn} {k : Nat} (h : k < l.length) : manyZ (l.take (k + 1)) = manyZ (l.take k) + ((rnA l k).2 - (rnA l k).1 + 1) := by
  rw [List.take_succ_eq_append_getElem h, manyZ_append]
  simp [manyZ, rnA, List.getD, List.getElem?_eq_getElem h]
theorem manyZ_nonneg {l : List Rn} (h : Norm l) (k : Nat) : 0 ≤ manyZ (l.take k) ∧ manyZ (l.take k) ≤ manyZ l := by
  have hp : ∀ m : List Rn, (∀ r, r ∈ m → r ∈ l) → 0 ≤ manyZ m := by
    intro m
    induction m with
    | nil => intro _; exact Int.le_refl _
    | cons r t ih =>
      intro hm
      have h1 := h.ok r (hm r (List.mem_cons_self ..))
      have h2 := ih fun s hs => hm s (List.mem_cons_of_mem _ hs)
      unfold okR at h1
      rw [manyZ]
      omega
  have h1 := hp (l.take k) fun r hr => List.mem_of_mem_take hr
  have h2 := hp (l.drop k) fun r hr => List.mem_of_mem_drop hr
  have h3 := manyZ_append (l.take k) (l.drop k)
  rw [List.take_append_drop] at h3
  omega
theorem oth_step {l : List Rn} {k : Nat} (z : Int) (h : k < l.length) : oth z (l.drop k) = (if z < (rnA l k).1 then [(z, (rnA l k).1 - 1)] else []) ++ (if (rnA l k).2 = top then [] else oth ((rnA l k).2 + 1) (l.drop (k + 1))) := by
  rw [rnA_drop h, oth]
theorem oth_end {l : List Rn} {k : Nat} (z : Int) (h : ¬ k < l.length) : oth z (l.drop k) = [(z, top)] := by
  rw [List.drop_of_length_le (by omega), oth]
end Go.Proofs.YtpkepkemjcjplaaGreat
