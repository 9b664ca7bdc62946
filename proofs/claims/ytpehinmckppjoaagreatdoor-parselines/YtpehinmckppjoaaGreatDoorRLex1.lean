/- Words in memory: slices, own rows. -/
import Derived.Test.YtpehinmckppjoaaGreatDoorRStrsB
import Derived.Test.YtpehinmckppjoaaGreatDoorRChgIB
import Derived.Deep.AppendLies
import Derived.OwnWalkIn
namespace Go.Proofs.YtpehinmckppjoaaGreatDoor
open Go Go.RowKit Go.Maps
set_option linter.unusedSimpArgs false
set_option linter.unusedVariables false

theorem Ss.chg {S : Nat → Prop} {w w' : World} {a : Option Addr} {n : Nat} {l : List ByteArray} (h : Ss w a n l) (g : Chg S w w') (hb : 0 < n → ∀ ad, a = some ad → ¬ S ad.block) : Ss w' a n l :=
  ⟨h.len, h.big, fun hp => by
    obtain ⟨b, o, h1, h2, h3⟩ := h.cells hp
    have hne : ¬ S b := hb hp ⟨b, o, none⟩ h1
    exact ⟨b, o, h1, Nat.lt_of_lt_of_le h2 g.size, fun i hi => g.cellp (h3 i hi) hne⟩⟩
theorem Ss.lt {w : World} {a : Option Addr} {n : Nat} {l : List ByteArray} (h : Ss w a n l) (hp : 0 < n) (ad : Addr) (e : a = some ad) : ad.block < w.heap.size := by
  obtain ⟨b, o, h1, h2, _⟩ := h.cells hp
  rw [h1] at e; cases e; exact h2
theorem ss_nil (w : World) (a : Option Addr) : Ss w a 0 [] := ⟨rfl, Nat.zero_le _, fun h => absurd h (by omega)⟩
/-- A word: its kind, its text, its place, its number, the slice of its parts, and these. -/
structure Wd where
  k : Int
  t : ByteArray
  p : Int
  n : Int
  a : Option Addr
  m : Nat
  c : Nat
  ps : List ByteArray
  mc : m ≤ c := by omega
def wd0 : Wd := ⟨0, ByteArray.empty, 0, 0, none, 0, 0, [], by omega⟩
def wdF (x : Wd) : List Value := [.int .i64 x.k, .string x.t, .int .i64 x.p, .int .i64 x.n, .slice x.a x.m x.c]
def wdV (x : Wd) : Value := .agg #[.int .i64 x.k, .string x.t, .int .i64 x.p, .int .i64 x.n, .slice x.a x.m x.c]
def wdA (l : List Wd) (i : Nat) : Wd := l.getD i wd0
theorem wdA_get {l : List Wd} {i : Nat} (h : i < l.length) : wdA l i = l[i] := by simp [wdA, List.getD, h]
theorem wdA_mem {l : List Wd} {i : Nat} (h : i < l.length) : wdA l i ∈ l := by rw [wdA_get h]; exact List.getElem_mem h
def flatW (l : List Wd) : List Value := l.flatMap wdF
theorem flatW_app (l m : List Wd) : flatW (l ++ m) = flatW l ++ flatW m := by simp [flatW]
theorem flatW_get : ∀ (l : List Wd) (i t : Nat), i < l.length → t < 5 → (flatW l)[i * 5 + t]? = (wdF (wdA l i))[t]? := by
  intro l
  induction l with
  | nil => intro i t hi; simp at hi
  | cons x r ih =>
    intro i t hi ht
    have e : flatW (x :: r) = wdF x ++ flatW r := by simp [flatW]
    have hl : (wdF x).length = 5 := rfl
    rw [e]
    cases i with
    | zero => rw [List.getElem?_append_left (by omega), Nat.zero_mul, Nat.zero_add]; rfl
    | succ i =>
      rw [List.getElem?_append_right (by omega), hl, show (i + 1) * 5 + t - 5 = i * 5 + t by omega, ih i t (by simpa using hi) ht]
      rfl
theorem wdF_one (x : Wd) : ∀ u ∈ wdF x, u.oneCell' = true := by
  intro u hu
  simp [wdF] at hu
  rcases hu with rfl | rfl | rfl | rfl | rfl <;> rfl
/-- A slice of words in memory. -/
structure Wq (w : World) (a : Option Addr) (l : List Wd) : Prop where
  cells : 0 < l.length → ∃ b o, a = some ⟨b, o, none⟩ ∧ b < w.heap.size ∧ ∀ i, i < l.length → ∀ t, t < 5 → ∀ u, (wdF (wdA l i))[t]? = some u → w.cell? ⟨b, o + i * 5 + t, none⟩ = some u
  ps : ∀ x ∈ l, Ss w x.a x.m x.ps
section
variable {S : Nat → Prop} {w w' : World} {a : Option Addr} {l : List Wd}
theorem Wq.chg (h : Wq w a l) (g : Chg S w w') (hb : 0 < l.length → ∀ ad, a = some ad → ¬ S ad.block) (hp : ∀ x ∈ l, 0 < x.m → ∀ ad, x.a = some ad → ¬ S ad.block) : Wq w' a l :=
  ⟨fun hp => by
    obtain ⟨c, o, h1, h2, h3⟩ := h.cells hp
    have hne : ¬ S c := hb hp ⟨c, o, none⟩ h1
    exact ⟨c, o, h1, Nat.lt_of_lt_of_le h2 g.size, fun i hi t ht u hu => g.cellp (h3 i hi t ht u hu) hne⟩, fun x hx => (h.ps x hx).chg g (hp x hx)⟩
theorem Wq.kept (h : Wq w a l) (g : Kept w w') : Wq w' a l := h.chg (S := fun _ => False) (Chg.of_kept g) (fun _ _ _ e => e) (fun _ _ _ _ _ e => e)
theorem Wq.form (h : Wq w a l) (hp : 0 < l.length) : ∃ b o, a = some ⟨b, o, none⟩ := by
  obtain ⟨b, o, e, _⟩ := h.cells hp
  exact ⟨b, o, e⟩
theorem Wq.at {b o : Nat} (h : Wq w (some ⟨b, o, none⟩) l) {i : Nat} (hi : i < l.length) : w.cell? ⟨b, o + i * 5, none⟩ = some (.int .i64 (wdA l i).k) ∧ w.cell? ⟨b, o + i * 5 + 1, none⟩ = some (.string (wdA l i).t) ∧ w.cell? ⟨b, o + i * 5 + 2, none⟩ = some (.int .i64 (wdA l i).p) ∧ w.cell? ⟨b, o + i * 5 + 3, none⟩ = some (.int .i64 (wdA l i).n) ∧ w.cell? ⟨b, o + i * 5 + 4, none⟩ = some (.slice (wdA l i).a (wdA l i).m (wdA l i).c) := by
  obtain ⟨b', o', e, _, h3⟩ := h.cells (by omega)
  cases e
  exact ⟨h3 i hi 0 (by omega) _ rfl, h3 i hi 1 (by omega) _ rfl, h3 i hi 2 (by omega) _ rfl, h3 i hi 3 (by omega) _ rfl, h3 i hi 4 (by omega) _ rfl⟩
theorem Wq.part (h : Wq w a l) {i : Nat} (hi : i < l.length) : Ss w (wdA l i).a (wdA l i).m (wdA l i).ps := h.ps _ (wdA_mem hi)
theorem wq_nil (w : World) (a : Option Addr) : Wq w a [] := ⟨fun h => absurd h (by simp), by simp⟩
end
theorem ownsRow_chg {S : Nat → Prop} {w w' : World} {B : Nat} {e : TypeId} {size : Nat} {v : Value} {n : Nat} {xs : List Value} (h : w.ownsRow B e size v n xs) (g : Chg S w w') (hb : ∀ k, v.ownBlock = some k → ¬ S k) : w'.ownsRow B e size v n xs := by
  obtain ⟨h0, h1 | ⟨k, cap, cur, hv, hb', hh, r⟩⟩ := h
  · exact ⟨h0, .inl h1⟩
  · subst hv
    refine ⟨h0, .inr ⟨k, cap, cur, rfl, hb', ?_, r⟩⟩
    have hlt : k < w.heap.size := by
      by_cases hlt : k < w.heap.size
      · exact hlt
      · rw [Array.getElem?_eq_none (by omega)] at hh; cases hh
    rw [g.block k hlt (hb k rfl)]
    exact hh
theorem ownsRow_base {w : World} {B B' : Nat} {e : TypeId} {size n : Nat} {v : Value} {xs : List Value} (h : w.ownsRow B e size v n xs) (hB : B' ≤ B) : w.ownsRow B' e size v n xs := by
  obtain ⟨h0, h1 | ⟨k, cap, cur, hv, hb', r⟩⟩ := h
  · exact ⟨h0, .inl h1⟩
  · exact ⟨h0, .inr ⟨k, cap, cur, hv, Nat.le_trans hB hb', r⟩⟩
/-- Words in a row of a call's own, from block B on. -/
structure OwnW (e : TypeId) (w : World) (B : Nat) (v : Value) (l : List Wd) : Prop where
  own : w.ownsRow B e 5 v l.length (flatW l)
  ps : ∀ x ∈ l, Ss w x.a x.m x.ps
  ap : ∀ x ∈ l, 0 < x.m → ∀ ad, x.a = some ad → v.ownBlock ≠ some ad.block
section
variable {e : TypeId} {S : Nat → Prop} {w w' y : World} {B : Nat} {v : Value} {l : List Wd}
theorem ownW_nil (e : TypeId) (w : World) (B : Nat) : OwnW e w B (.slice none 0 0) [] := ⟨World.ownsRow_nil _ _ _ _, by simp, by simp⟩
theorem OwnW.lt (h : OwnW e w B v l) : ∀ g, v.ownBlock = some g → B ≤ g ∧ g < w.heap.size := World.ownsRow.lt h.own
theorem OwnW.chg (h : OwnW e w B v l) (g : Chg S w w') (hb : ∀ k, v.ownBlock = some k → ¬ S k) (hp : ∀ x ∈ l, 0 < x.m → ∀ ad, x.a = some ad → ¬ S ad.block) : OwnW e w' B v l :=
  ⟨ownsRow_chg h.own g hb, fun x hx => (h.ps x hx).chg g (hp x hx), h.ap⟩
theorem OwnW.kept (h : OwnW e w B v l) (g : Kept w w') : OwnW e w' B v l := h.chg (S := fun _ => False) (Chg.of_kept g) (fun _ _ e => e) (fun _ _ _ _ _ e => e)
theorem OwnW.base {B' : Nat} (h : OwnW e w B v l) (hB : B' ≤ B) : OwnW e w B' v l := ⟨ownsRow_base h.own hB, h.ps, h.ap⟩
theorem OwnW.form (h : OwnW e w B v l) : ∃ a c, v = .slice a l.length c ∧ Wq w a l ∧ l.length ≤ c := by
  obtain ⟨h0, ⟨h1, hz⟩ | ⟨g, cap, cur, h1, h2⟩⟩ := h.own
  · have hl : l = [] := List.length_eq_zero_iff.1 hz
    subst hl
    exact ⟨none, 0, h1, wq_nil _ _, Nat.le_refl _⟩
  · have ho : w.ownsRow B e 5 v l.length (flatW l) := ⟨h0, .inr ⟨g, cap, cur, h1, h2⟩⟩
    refine ⟨_, _, h1, ⟨fun hp => ?_, h.ps⟩, by have := h2.2.2.1; omega⟩
    subst h1
    obtain ⟨g', cap', e, _, hl⟩ := World.ownsRow.form ho hp
    cases e
    exact ⟨g, 0, rfl, hl, fun i hi t ht u hu => by rw [Nat.zero_add, World.ownsRow.cellAt ho (i * 5 + t) (by omega), flatW_get l i t hi ht]; exact hu⟩
/-- One more word. -/
theorem OwnW.next (h : OwnW e w B v l) {q : Wd} (hr : Ss w q.a q.m q.ps) (hq : 0 < q.m → ∀ ad, q.a = some ad → v.ownBlock ≠ some ad.block) {g' cap : Nat}
    (h2 : y.ownsRow B e 5 (.slice (some ⟨g', 0, none⟩) (l.length + 1) cap) (l.length + 1) (flatW l ++ wdF q)) (h3 : Chg (fun k => v.ownBlock = some k) w y) (h4 : v.ownBlock = some g' ∨ g' = w.heap.size) :
    OwnW e y B (.slice (some ⟨g', 0, none⟩) (l.length + 1) cap) (l ++ [q]) := by
  have hall : ∀ x ∈ l ++ [q], Ss w x.a x.m x.ps ∧ (0 < x.m → ∀ ad, x.a = some ad → v.ownBlock ≠ some ad.block) := by
    intro x hx
    rcases List.mem_append.1 hx with hx | hx
    · exact ⟨h.ps x hx, h.ap x hx⟩
    · simp at hx; subst hx; exact ⟨hr, hq⟩
  refine ⟨by rw [flatW_app, List.length_append, List.length_singleton, show flatW [q] = wdF q by simp [flatW]]; exact h2, fun x hx => (hall x hx).1.chg h3 (fun hm ad e => (hall x hx).2 hm ad e), fun x hx hm ad e e2 => ?_⟩
  simp only [Value.ownBlock, Option.some.injEq] at e2
  rcases h4 with h4 | h4
  · exact (hall x hx).2 hm ad e (by rw [h4, e2])
  · have := (hall x hx).1.lt hm ad e; omega
end
/-- What is known of a type of words. -/
def WInfo (T e : TypeId) : Prop := Tryz.prog.underlying T = some (.slice e) ∧ ∃ i0, Tryz.prog.info? e = some i0 ∧ i0.zero = some (.agg #[.int .i64 0, .string ⟨#[]⟩, .int .i64 0, .int .i64 0, .slice none 0 0]) ∧ i0.size = 5 ∧ i0.bytes = 64
theorem winfo_l : WInfo 63 112 := by
  have h : (Tryz.prog.info? 112).map (fun i => (i.zero, i.size, i.bytes)) = some (some (.agg #[.int .i64 0, .string ⟨#[]⟩, .int .i64 0, .int .i64 0, .slice none 0 0]), 5, 64) := by kernel_rfl
  exact ⟨Tryz.underlying63, info_parts h⟩
theorem winfo_r : WInfo 48 77 := by
  have h : (Tryz.prog.info? 77).map (fun i => (i.zero, i.size, i.bytes)) = some (some (.agg #[.int .i64 0, .string ⟨#[]⟩, .int .i64 0, .int .i64 0, .slice none 0 0]), 5, 64) := by kernel_rfl
  exact ⟨Tryz.underlying48, info_parts h⟩
/-- A word's cells in a block of its own. -/
def WCells (w : World) (g : Nat) (q : Wd) : Prop := ∀ (j : Nat) u, (wdF q)[j]? = some u → w.cell? ((⟨g, 0, none⟩ : Addr).add j) = some u
theorem wcells_new (w : World) (q : Wd) (t : TypeId) {g : Nat} (hg : g = w.heap.size) : WCells (w.alloc (.cells #[.int .i64 q.k, .string q.t, .int .i64 q.p, .int .i64 q.n, .slice q.a q.m q.c] t)) g q := by
  intro j u hj
  subst hg
  have : j = 0 ∨ j = 1 ∨ j = 2 ∨ j = 3 ∨ j = 4 ∨ 5 ≤ j := by omega
  rcases this with rfl | rfl | rfl | rfl | rfl | h
  · simpa [Addr.add, wdF] using hj
  · simpa [Addr.add, wdF] using hj
  · simpa [Addr.add, wdF] using hj
  · simpa [Addr.add, wdF] using hj
  · simpa [Addr.add, wdF] using hj
  · rw [List.getElem?_eq_none (by simpa [wdF] using h)] at hj; cases hj
section
variable {T e : TypeId} {B : Nat} {v : Value} {l : List Wd}
theorem wpList_pushW {ops : Array Oper} {rest : List Oper} {o : Oper} {a : Act} {Q : Exit → Act → World → Prop} (w : World) (hgd : o.guard = none) (s x : Operand)
    (ho : o.op = .call { callee := .builtin .append, args := #[s, x], argTypes := #[T, T] }) (hi : WInfo T e)
    (hs : a.eval s = v) (hv : OwnW e w B v l) (hB : B ≤ w.heap.size) (g : Nat) (q : Wd) (hx : a.eval x = .slice (some ⟨g, 0, none⟩) 1 1) (hcell : WCells w g q)
    (hr : Ss w q.a q.m q.ps) (hq : 0 < q.m → ∀ ad, q.a = some ad → v.ownBlock ≠ some ad.block) (hn : l.length ≤ 100000)
    (h : ∀ g' cap w', OwnW e w' B (.slice (some ⟨g', 0, none⟩) (l.length + 1) cap) (l ++ [q]) → Chg (fun k => v.ownBlock = some k) w w' → (v.ownBlock = some g' ∨ g' = w.heap.size) → wpList Tryz.prog ops Q rest (a.put o.dst (.slice (some ⟨g', 0, none⟩) (l.length + 1) cap)) w') : wpList Tryz.prog ops Q (o :: rest) a w := by
  obtain ⟨hu, i0, hi1, hz0, hz1, hz2⟩ := hi
  refine wpList_append_lies w hgd s x T ho B e i0 _ 5 64 hu hi1 hz0 hz1 hz2 rfl (by decide) v _ _ hs hv.own ⟨g, 0, none⟩ 1 1 (wdF q) hx rfl hcell (wdF_one q) (by omega) (by unfold maxLen; omega) (by omega) hB w.heap.size rfl ?_
  intro g' cap w' h2 h3 h4 h5
  have hc : Chg (fun k => v.ownBlock = some k) w w' := (Chg.refl _ w).grown h3 (fun k hk => .inl hk)
  exact h g' cap w' (hv.next hr hq h2 hc h4) hc h4
theorem wpListIn_pushW {F : Fence} {n : Nat} {ops : Array Oper} {rest : List Oper} {o : Oper} {a : Act} {Q : Exit → Act → World → Prop} (w : World) (hgd : o.guard = none) (s x : Operand)
    (ho : o.op = .call { callee := .builtin .append, args := #[s, x], argTypes := #[T, T] }) (hi : WInfo T e)
    (hs : a.eval s = v) (hv : OwnW e w B v l) (hB : B ≤ w.heap.size) (g : Nat) (q : Wd) (hx : a.eval x = .slice (some ⟨g, 0, none⟩) 1 1) (hcell : WCells w g q)
    (hr : Ss w q.a q.m q.ps) (hq : 0 < q.m → ∀ ad, q.a = some ad → v.ownBlock ≠ some ad.block) (hn : l.length ≤ 100000)
    (h : ∀ g' cap w', OwnW e w' B (.slice (some ⟨g', 0, none⟩) (l.length + 1) cap) (l ++ [q]) → Chg (fun k => v.ownBlock = some k) w w' → (v.ownBlock = some g' ∨ g' = w.heap.size) → wpListIn F n Tryz.prog ops Q rest (a.put o.dst (.slice (some ⟨g', 0, none⟩) (l.length + 1) cap)) w') : wpListIn F n Tryz.prog ops Q (o :: rest) a w := by
  obtain ⟨hu, i0, hi1, hz0, hz1, hz2⟩ := hi
  refine wpListIn_plain hgd fun K hK' => ?_
  obtain ⟨g', cap, w', hrun, h2, h3, h4, h5⟩ := run_append_lies (P := Tryz.prog) w T o.type B e i0 _ 5 64 hu hi1 hz0 hz1 hz2 rfl (by decide) v _ _ hv.own ⟨g, 0, none⟩ 1 1 (wdF q) rfl hcell (wdF_one q) (by omega) (by unfold maxLen; omega) (by omega) hB w.heap.size rfl
  have hc : Chg (fun k => v.ownBlock = some k) w w' := (Chg.refl _ w).grown h3 (fun k hk => .inl hk)
  unfold Oper.wpIn
  refine ⟨?_, ?_⟩
  · simp [Oper.about, ho, resolve, Target.leads, Sem.run_pure]
  · rw [Oper.semAt_plain F _ _ (by rw [ho]; intro c hc'; cases hc')]
    simp [execOp, ho, resolve, invoke, builtin, hs, hx, hrun, Result.andThen]
    exact hK' _ _ (h g' cap w' (hv.next hr hq h2 hc h4) hc h4)
end
end Go.Proofs.YtpehinmckppjoaaGreatDoor
