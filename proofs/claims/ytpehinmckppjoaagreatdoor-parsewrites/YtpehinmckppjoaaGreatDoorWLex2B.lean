/- Words in memory: slices, own rows. · A line's words: their places; what each one is. No program is walked here. -/
import Derived.Test.YtpehinmckppjoaaGreatDoorWStrsB
import Derived.Test.YtpehinmckppjoaaGreatDoorWChgIB
import Derived.Deep.AppendLies
import Derived.OwnWalkIn
import Derived.Test.YtpehinmckppjoaaGreatDoorWText8B
import Derived.Test.YtpehinmckppjoaaGreatDoorWText9B
import Derived.Lib.IndexMore
namespace Go.Proofs.YtpehinmckppjoaaGreatDoor
open Go Go.RowKit Go.Maps
set_option linter.unusedSimpArgs false
set_option linter.unusedVariables false

theorem Ss.chg {S : Nat → Prop} {w w' : World} {a : Option Addr} {n : Nat} {l : List ByteArray} (h : Ss w a n l) (g : Chg S w w') (hb : 0 < n → ∀ ad, a = some ad → ¬ S ad.block) : Ss w' a n l :=
  ⟨h.len, h.big, fun hp => by
    obtain ⟨b, o, h1, h2, h3⟩ := h.cells hp
    have hne : ¬ S b := hb hp ⟨b, o, none⟩ h1
    exact ⟨b, o, h1, Nat.lt_of_lt_of_le h2 g.size, fun i hi => g.cellp (h3 i hi) hne⟩⟩
theorem Ss.lt {w : World} {a : Option Addr} {n : Nat} {l : List ByteArray} (h : Ss w a n l) (hp : 0 < n) (ad : Addr) (e : a = some ad) : ad.block < w.heap.size := by
  obtain ⟨b, o, h1, h2, _⟩ := h.cells hp
  rw [h1] at e; cases e; exact h2
theorem ss_nil (w : World) (a : Option Addr) : Ss w a 0 [] := ⟨rfl, Nat.zero_le _, fun h => absurd h (by omega)⟩
/-- A word: its kind, its text, its place, its number, the slice of its parts, and these. -/
structure Wd where
  k : Int
  t : ByteArray
  p : Int
  n : Int
  a : Option Addr
  m : Nat
  c : Nat
  ps : List ByteArray
  mc : m ≤ c := by omega
def wd0 : Wd := ⟨0, ByteArray.empty, 0, 0, none, 0, 0, [], by omega⟩
def wdF (x : Wd) : List Value := [.int .i64 x.k, .string x.t, .int .i64 x.p, .int .i64 x.n, .slice x.a x.m x.c]
def wdV (x : Wd) : Value := .agg #[.int .i64 x.k, .string x.t, .int .i64 x.p, .int .i64 x.n, .slice x.a x.m x.c]
def wdA (l : List Wd) (i : Nat) : Wd := l.getD i wd0
theorem wdA_get {l : List Wd} {i : Nat} (h : i < l.length) : wdA l i = l[i] := by simp [wdA, List.getD, h]
theorem wdA_mem {l : List Wd} {i : Nat} (h : i < l.length) : wdA l i ∈ l := by rw [wdA_get h]; exact List.getElem_mem h
def flatW (l : List Wd) : List Value := l.flatMap wdF
theorem flatW_app (l m : List Wd) : flatW (l ++ m) = flatW l ++ flatW m := by simp [flatW]
theorem flatW_get : ∀ (l : List Wd) (i t : Nat), i < l.length → t < 5 → (flatW l)[i * 5 + t]? = (wdF (wdA l i))[t]? := by
  intro l
  induction l with
  | nil => intro i t hi; simp at hi
  | cons x r ih =>
    intro i t hi ht
    have e : flatW (x :: r) = wdF x ++ flatW r := by simp [flatW]
    have hl : (wdF x).length = 5 := rfl
    rw [e]
    cases i with
    | zero => rw [List.getElem?_append_left (by omega), Nat.zero_mul, Nat.zero_add]; rfl
    | succ i =>
      rw [List.getElem?_append_right (by omega), hl, show (i + 1) * 5 + t - 5 = i * 5 + t by omega, ih i t (by simpa using hi) ht]
      rfl
theorem wdF_one (x : Wd) : ∀ u ∈ wdF x, u.oneCell' = true := by
  intro u hu
  simp [wdF] at hu
  rcases hu with rfl | rfl | rfl | rfl | rfl <;> rfl
/-- A slice of words in memory. -/
structure Wq (w : World) (a : Option Addr) (l : List Wd) : Prop where
  cells : 0 < l.length → ∃ b o, a = some ⟨b, o, none⟩ ∧ b < w.heap.size ∧ ∀ i, i < l.length → ∀ t, t < 5 → ∀ u, (wdF (wdA l i))[t]? = some u → w.cell? ⟨b, o + i * 5 + t, none⟩ = some u
  ps : ∀ x ∈ l, Ss w x.a x.m x.ps
section
variable {S : Nat → Prop} {w w' : World} {a : Option Addr} {l : List Wd}
theorem Wq.chg (h : Wq w a l) (g : Chg S w w') (hb : 0 < l.length → ∀ ad, a = some ad → ¬ S ad.block) (hp : ∀ x ∈ l, 0 < x.m → ∀ ad, x.a = some ad → ¬ S ad.block) : Wq w' a l :=
  ⟨fun hp => by
    obtain ⟨c, o, h1, h2, h3⟩ := h.cells hp
    have hne : ¬ S c := hb hp ⟨c, o, none⟩ h1
    exact ⟨c, o, h1, Nat.lt_of_lt_of_le h2 g.size, fun i hi t ht u hu => g.cellp (h3 i hi t ht u hu) hne⟩, fun x hx => (h.ps x hx).chg g (hp x hx)⟩
theorem Wq.kept (h : Wq w a l) (g : Kept w w') : Wq w' a l := h.chg (S := fun _ => False) (Chg.of_kept g) (fun _ _ _ e => e) (fun _ _ _ _ _ e => e)
theorem Wq.form (h : Wq w a l) (hp : 0 < l.length) : ∃ b o, a = some ⟨b, o, none⟩ := by
  obtain ⟨b, o, e, _⟩ := h.cells hp
  exact ⟨b, o, e⟩
theorem Wq.at {b o : Nat} (h : Wq w (some ⟨b, o, none⟩) l) {i : Nat} (hi : i < l.length) : w.cell? ⟨b, o + i * 5, none⟩ = some (.int .i64 (wdA l i).k) ∧ w.cell? ⟨b, o + i * 5 + 1, none⟩ = some (.string (wdA l i).t) ∧ w.cell? ⟨b, o + i * 5 + 2, none⟩ = some (.int .i64 (wdA l i).p) ∧ w.cell? ⟨b, o + i * 5 + 3, none⟩ = some (.int .i64 (wdA l i).n) ∧ w.cell? ⟨b, o + i * 5 + 4, none⟩ = some (.slice (wdA l i).a (wdA l i).m (wdA l i).c) := by
  obtain ⟨b', o', e, _, h3⟩ := h.cells (by omega)
  cases e
  exact ⟨h3 i hi 0 (by omega) _ rfl, h3 i hi 1 (by omega) _ rfl, h3 i hi 2 (by omega) _ rfl, h3 i hi 3 (by omega) _ rfl, h3 i hi 4 (by omega) _ rfl⟩
theorem Wq.part (h : Wq w a l) {i : Nat} (hi : i < l.length) : Ss w (wdA l i).a (wdA l i).m (wdA l i).ps := h.ps _ (wdA_mem hi)
theorem wq_nil (w : World) (a : Option Addr) : Wq w a [] := ⟨fun h => absurd h (by simp), by simp⟩
end
theorem ownsRow_chg {S : Nat → Prop} {w w' : World} {B : Nat} {e : TypeId} {size : Nat} {v : Value} {n : Nat} {xs : List Value} (h : w.ownsRow B e size v n xs) (g : Chg S w w') (hb : ∀ k, v.ownBlock = some k → ¬ S k) : w'.ownsRow B e size v n xs := by
  obtain ⟨h0, h1 | ⟨k, cap, cur, hv, hb', hh, r⟩⟩ := h
  · exact ⟨h0, .inl h1⟩
  · subst hv
    refine ⟨h0, .inr ⟨k, cap, cur, rfl, hb', ?_, r⟩⟩
    have hlt : k < w.heap.size := by
      by_cases hlt : k < w.heap.size
      · exact hlt
      · rw [Array.getElem?_eq_none (by omega)] at hh; cases hh
    rw [g.block k hlt (hb k rfl)]
    exact hh
theorem ownsRow_base {w : World} {B B' : Nat} {e : TypeId} {size n : Nat} {v : Value} {xs : List Value} (h : w.ownsRow B e size v n xs) (hB : B' ≤ B) : w.ownsRow B' e size v n xs := by
  obtain ⟨h0, h1 | ⟨k, cap, cur, hv, hb', r⟩⟩ := h
  · exact ⟨h0, .inl h1⟩
  · exact ⟨h0, .inr ⟨k, cap, cur, hv, Nat.le_trans hB hb', r⟩⟩
/-- Words in a row of a call's own, from block B on. -/
structure OwnW (e : TypeId) (w : World) (B : Nat) (v : Value) (l : List Wd) : Prop where
  own : w.ownsRow B e 5 v l.length (flatW l)
  ps : ∀ x ∈ l, Ss w x.a x.m x.ps
  ap : ∀ x ∈ l, 0 < x.m → ∀ ad, x.a = some ad → v.ownBlock ≠ some ad.block
section
variable {e : TypeId} {S : Nat → Prop} {w w' y : World} {B : Nat} {v : Value} {l : List Wd}
theorem ownW_nil (e : TypeId) (w : World) (B : Nat) : OwnW e w B (.slice none 0 0) [] := ⟨World.ownsRow_nil _ _ _ _, by simp, by simp⟩
theorem OwnW.lt (h : OwnW e w B v l) : ∀ g, v.ownBlock = some g → B ≤ g ∧ g < w.heap.size := World.ownsRow.lt h.own
theorem OwnW.chg (h : OwnW e w B v l) (g : Chg S w w') (hb : ∀ k, v.ownBlock = some k → ¬ S k) (hp : ∀ x ∈ l, 0 < x.m → ∀ ad, x.a = some ad → ¬ S ad.block) : OwnW e w' B v l :=
  ⟨ownsRow_chg h.own g hb, fun x hx => (h.ps x hx).chg g (hp x hx), h.ap⟩
theorem OwnW.kept (h : OwnW e w B v l) (g : Kept w w') : OwnW e w' B v l := h.chg (S := fun _ => False) (Chg.of_kept g) (fun _ _ e => e) (fun _ _ _ _ _ e => e)
theorem OwnW.base {B' : Nat} (h : OwnW e w B v l) (hB : B' ≤ B) : OwnW e w B' v l := ⟨ownsRow_base h.own hB, h.ps, h.ap⟩
theorem OwnW.form (h : OwnW e w B v l) : ∃ a c, v = .slice a l.length c ∧ Wq w a l ∧ l.length ≤ c := by
  obtain ⟨h0, ⟨h1, hz⟩ | ⟨g, cap, cur, h1, h2⟩⟩ := h.own
  · have hl : l = [] := List.length_eq_zero_iff.1 hz
    subst hl
    exact ⟨none, 0, h1, wq_nil _ _, Nat.le_refl _⟩
  · have ho : w.ownsRow B e 5 v l.length (flatW l) := ⟨h0, .inr ⟨g, cap, cur, h1, h2⟩⟩
    refine ⟨_, _, h1, ⟨fun hp => ?_, h.ps⟩, by have := h2.2.2.1; omega⟩
    subst h1
    obtain ⟨g', cap', e, _, hl⟩ := World.ownsRow.form ho hp
    cases e
    exact ⟨g, 0, rfl, hl, fun i hi t ht u hu => by rw [Nat.zero_add, World.ownsRow.cellAt ho (i * 5 + t) (by omega), flatW_get l i t hi ht]; exact hu⟩
/-- One more word. -/
theorem OwnW.next (h : OwnW e w B v l) {q : Wd} (hr : Ss w q.a q.m q.ps) (hq : 0 < q.m → ∀ ad, q.a = some ad → v.ownBlock ≠ some ad.block) {g' cap : Nat}
    (h2 : y.ownsRow B e 5 (.slice (some ⟨g', 0, none⟩) (l.length + 1) cap) (l.length + 1) (flatW l ++ wdF q)) (h3 : Chg (fun k => v.ownBlock = some k) w y) (h4 : v.ownBlock = some g' ∨ g' = w.heap.size) :
    OwnW e y B (.slice (some ⟨g', 0, none⟩) (l.length + 1) cap) (l ++ [q]) := by
  have hall : ∀ x ∈ l ++ [q], Ss w x.a x.m x.ps ∧ (0 < x.m → ∀ ad, x.a = some ad → v.ownBlock ≠ some ad.block) := by
    intro x hx
    rcases List.mem_append.1 hx with hx | hx
    · exact ⟨h.ps x hx, h.ap x hx⟩
    · simp at hx; subst hx; exact ⟨hr, hq⟩
  refine ⟨by rw [flatW_app, List.length_append, List.length_singleton, show flatW [q] = wdF q by simp [flatW]]; exact h2, fun x hx => (hall x hx).1.chg h3 (fun hm ad e => (hall x hx).2 hm ad e), fun x hx hm ad e e2 => ?_⟩
  simp only [Value.ownBlock, Option.some.injEq] at e2
  rcases h4 with h4 | h4
  · exact (hall x hx).2 hm ad e (by rw [h4, e2])
  · have := (hall x hx).1.lt hm ad e; omega
end
/-- What is known of a type of words. -/
def WInfo (T e : TypeId) : Prop := Tryz.prog.underlying T = some (.slice e) ∧ ∃ i0, Tryz.prog.info? e = some i0 ∧ i0.zero = some (.agg #[.int .i64 0, .string ⟨#[]⟩, .int .i64 0, .int .i64 0, .slice none 0 0]) ∧ i0.size = 5 ∧ i0.bytes = 64
theorem winfo_l : WInfo 63 112 := by
  have h : (Tryz.prog.info? 112).map (fun i => (i.zero, i.size, i.bytes)) = some (some (.agg #[.int .i64 0, .string ⟨#[]⟩, .int .i64 0, .int .i64 0, .slice none 0 0]), 5, 64) := by kernel_rfl
  exact ⟨Tryz.underlying63, info_parts h⟩
theorem winfo_r : WInfo 48 77 := by
  have h : (Tryz.prog.info? 77).map (fun i => (i.zero, i.size, i.bytes)) = some (some (.agg #[.int .i64 0, .string ⟨#[]⟩, .int .i64 0, .int .i64 0, .slice none 0 0]), 5, 64) := by kernel_rfl
  exact ⟨Tryz.underlying48, info_parts h⟩
/-- A word's cells in a block of its own. -/
def WCells (w : World) (g : Nat) (q : Wd) : Prop := ∀ (j : Nat) u, (wdF q)[j]? = some u → w.cell? ((⟨g, 0, none⟩ : Addr).add j) = some u
theorem wcells_new (w : World) (q : Wd) (t : TypeId) {g : Nat} (hg : g = w.heap.size) : WCells (w.alloc (.cells #[.int .i64 q.k, .string q.t, .int .i64 q.p, .int .i64 q.n, .slice q.a q.m q.c] t)) g q := by
  intro j u hj
  subst hg
  have : j = 0 ∨ j = 1 ∨ j = 2 ∨ j = 3 ∨ j = 4 ∨ 5 ≤ j := by omega
  rcases this with rfl | rfl | rfl | rfl | rfl | h
  · simpa [Addr.add, wdF] using hj
  · simpa [Addr.add, wdF] using hj
  · simpa [Addr.add, wdF] using hj
  · simpa [Addr.add, wdF] using hj
  · simpa [Addr.add, wdF] using hj
  · rw [List.getElem?_eq_none (by simpa [wdF] using h)] at hj; cases hj
section
variable {T e : TypeId} {B : Nat} {v : Value} {l : List Wd}
theorem wpList_pushW {ops : Array Oper} {rest : List Oper} {o : Oper} {a : Act} {Q : Exit → Act → World → Prop} (w : World) (hgd : o.guard = none) (s x : Operand)
    (ho : o.op = .call { callee := .builtin .append, args := #[s, x], argTypes := #[T, T] }) (hi : WInfo T e)
    (hs : a.eval s = v) (hv : OwnW e w B v l) (hB : B ≤ w.heap.size) (g : Nat) (q : Wd) (hx : a.eval x = .slice (some ⟨g, 0, none⟩) 1 1) (hcell : WCells w g q)
    (hr : Ss w q.a q.m q.ps) (hq : 0 < q.m → ∀ ad, q.a = some ad → v.ownBlock ≠ some ad.block) (hn : l.length ≤ 100000)
    (h : ∀ g' cap w', OwnW e w' B (.slice (some ⟨g', 0, none⟩) (l.length + 1) cap) (l ++ [q]) → Chg (fun k => v.ownBlock = some k) w w' → (v.ownBlock = some g' ∨ g' = w.heap.size) → wpList Tryz.prog ops Q rest (a.put o.dst (.slice (some ⟨g', 0, none⟩) (l.length + 1) cap)) w') : wpList Tryz.prog ops Q (o :: rest) a w := by
  obtain ⟨hu, i0, hi1, hz0, hz1, hz2⟩ := hi
  refine wpList_append_lies w hgd s x T ho B e i0 _ 5 64 hu hi1 hz0 hz1 hz2 rfl (by decide) v _ _ hs hv.own ⟨g, 0, none⟩ 1 1 (wdF q) hx rfl hcell (wdF_one q) (by omega) (by unfold maxLen; omega) (by omega) hB w.heap.size rfl ?_
  intro g' cap w' h2 h3 h4 h5
  have hc : Chg (fun k => v.ownBlock = some k) w w' := (Chg.refl _ w).grown h3 (fun k hk => .inl hk)
  exact h g' cap w' (hv.next hr hq h2 hc h4) hc h4
theorem wpListIn_pushW {F : Fence} {n : Nat} {ops : Array Oper} {rest : List Oper} {o : Oper} {a : Act} {Q : Exit → Act → World → Prop} (w : World) (hgd : o.guard = none) (s x : Operand)
    (ho : o.op = .call { callee := .builtin .append, args := #[s, x], argTypes := #[T, T] }) (hi : WInfo T e)
    (hs : a.eval s = v) (hv : OwnW e w B v l) (hB : B ≤ w.heap.size) (g : Nat) (q : Wd) (hx : a.eval x = .slice (some ⟨g, 0, none⟩) 1 1) (hcell : WCells w g q)
    (hr : Ss w q.a q.m q.ps) (hq : 0 < q.m → ∀ ad, q.a = some ad → v.ownBlock ≠ some ad.block) (hn : l.length ≤ 100000)
    (h : ∀ g' cap w', OwnW e w' B (.slice (some ⟨g', 0, none⟩) (l.length + 1) cap) (l ++ [q]) → Chg (fun k => v.ownBlock = some k) w w' → (v.ownBlock = some g' ∨ g' = w.heap.size) → wpListIn F n Tryz.prog ops Q rest (a.put o.dst (.slice (some ⟨g', 0, none⟩) (l.length + 1) cap)) w') : wpListIn F n Tryz.prog ops Q (o :: rest) a w := by
  obtain ⟨hu, i0, hi1, hz0, hz1, hz2⟩ := hi
  refine wpListIn_plain hgd fun K hK' => ?_
  obtain ⟨g', cap, w', hrun, h2, h3, h4, h5⟩ := run_append_lies (P := Tryz.prog) w T o.type B e i0 _ 5 64 hu hi1 hz0 hz1 hz2 rfl (by decide) v _ _ hv.own ⟨g, 0, none⟩ 1 1 (wdF q) rfl hcell (wdF_one q) (by omega) (by unfold maxLen; omega) (by omega) hB w.heap.size rfl
  have hc : Chg (fun k => v.ownBlock = some k) w w' := (Chg.refl _ w).grown h3 (fun k hk => .inl hk)
  unfold Oper.wpIn
  refine ⟨?_, ?_⟩
  · simp [Oper.about, ho, resolve, Target.leads, Sem.run_pure]
  · rw [Oper.semAt_plain F _ _ (by rw [ho]; intro c hc'; cases hc')]
    simp [execOp, ho, resolve, invoke, builtin, hs, hx, hrun, Result.andThen]
    exact hK' _ _ (h g' cap w' (hv.next hr hq h2 hc h4) hc h4)
end
end Go.Proofs.YtpehinmckppjoaaGreatDoor
namespace Go.Proofs.YtpehinmckppjoaaGreatDoor
open Go.RowKit
set_option linter.unusedSimpArgs false
set_option linter.unusedVariables false

def bstr (l : List UInt8) : ByteArray := ⟨l.toArray⟩
def bstrs (l : List (List UInt8)) : List ByteArray := l.map bstr
theorem bstr_data (l : List UInt8) : (bstr l).data.toList = l := by simp [bstr]
theorem data_bstr (s : ByteArray) : bstr s.data.toList = s := data_inj (bstr_data _)
theorem bstr_size (l : List UInt8) : (bstr l).size = l.length := by
  have h : (bstr l).data.toList.length = (bstr l).size := by rw [Array.length_toList]; rfl
  rw [← h, bstr_data]
theorem data_len (s : ByteArray) : s.data.toList.length = s.size := by rw [Array.length_toList]; rfl
theorem bstrs_len (l : List (List UInt8)) : (bstrs l).length = l.length := by simp [bstrs]
theorem bstrs_getD (l : List (List UInt8)) (k : Nat) (h : k < l.length) : (bstrs l).getD k ByteArray.empty = bstr (l.getD k []) := by
  unfold bstrs
  rw [List.getD_eq_getElem?_getD, List.getD_eq_getElem?_getD, List.getElem?_map, List.getElem?_eq_getElem h]
  rfl
theorem datas_bstrs (l : List (List UInt8)) : (bstrs l).map (·.data.toList) = l := by
  unfold bstrs
  rw [List.map_map]
  conv => rhs; rw [← List.map_id l]
  exact List.map_congr_left fun x _ => bstr_data x
theorem bstrs_datas (l : List ByteArray) : bstrs (l.map (·.data.toList)) = l := datas_inj (datas_bstrs _)

/-- The words of parts, with their places. -/
def tk : Nat → List (List UInt8) → List (Nat × List UInt8)
  | _, [] => []
  | o, p :: r => if p = [] then tk (o + 1) r else (o, p) :: tk (o + p.length + 1) r
def tks (l : List UInt8) : List (Nat × List UInt8) := tk 0 (spl 32 l)
theorem tk_snd : ∀ (ps : List (List UInt8)) (o : Nat), (tk o ps).map (·.2) = ps.filter fun p => decide (p ≠ [])
  | [], _ => rfl
  | p :: r, o => by
    unfold tk
    by_cases h : p = []
    · rw [if_pos h, tk_snd r]; simp [h]
    · rw [if_neg h, List.map_cons, tk_snd r]; simp [h]
theorem tks_snd (l : List UInt8) : (tks l).map (·.2) = wrd l := tk_snd _ _
theorem tk_cons (o : Nat) (p : List UInt8) (r : List (List UInt8)) : tk o (p :: r) = if p = [] then tk (o + 1) r else (o, p) :: tk (o + p.length + 1) r := rfl
theorem tk_app : ∀ (xs ys : List (List UInt8)) (o : Nat), tk o (xs ++ ys) = tk o xs ++ tk (o + tot xs) ys
  | [], ys, o => by simp [tk, tot]
  | p :: r, ys, o => by
    rw [List.cons_append, tk_cons o p (r ++ ys), tk_cons o p r]
    have ht : tot (p :: r) = p.length + 1 + tot r := by simp [tot]
    by_cases h : p = []
    · rw [if_pos h, if_pos h, tk_app r ys, ht]; subst h; rw [List.length_nil, show o + 1 + tot r = o + (0 + 1 + tot r) by omega]
    · rw [if_neg h, if_neg h, tk_app r ys, ht, List.cons_append, show o + p.length + 1 + tot r = o + (p.length + 1 + tot r) by omega]
theorem tks_len (l : List UInt8) : (tks l).length ≤ l.length + 1 := by
  have h : (tks l).length = (wrd l).length := by rw [← tks_snd, List.length_map]
  have h2 := tot_len (wrd l)
  have h3 : tot (wrd l) ≤ tot (spl 32 l) := tot_filter _ _
  rw [tot_spl] at h3
  omega
theorem unspl (c : UInt8) : ∀ l : List UInt8, [c].intercalate (spl c l) = l
  | [] => by rw [show spl c [] = [[]] from rfl, join_one]
  | x :: r => by
    have ih := unspl c r
    have hp := spl_pos c r
    rw [spl_cons]
    cases hs : spl c r with
    | nil => rw [hs] at hp; simp at hp
    | cons p t =>
      rw [hs] at ih
      by_cases h : x = c
      · rw [if_pos h, join_cons2, ih, h]; rfl
      · rw [if_neg h]
        show [c].intercalate ((x :: p) :: t) = _
        cases t with
        | nil => rw [join_one] at ih ⊢; rw [ih]
        | cons q u => rw [join_cons2] at ih ⊢; rw [← ih]; simp
/-- Each word's place, told from the end of the one ahead of it. -/
def Lay (L : List UInt8) : Nat → List (Nat × List UInt8) → Prop
  | _, [] => True
  | at_, (q, w) :: ts => at_ ≤ q ∧ (∃ rest, L.drop at_ = List.replicate (q - at_) 32 ++ (w ++ rest)) ∧ w ≠ [] ∧ (32 : UInt8) ∉ w ∧ q + w.length ≤ L.length ∧ Lay L (q + w.length) ts
theorem lay_tk (L : List UInt8) : ∀ (ps : List (List UInt8)) (at_ o : Nat), (∀ p ∈ ps, (32 : UInt8) ∉ p) → at_ ≤ o → L.drop at_ = List.replicate (o - at_) 32 ++ [32].intercalate ps → Lay L at_ (tk o ps)
  | [], _, _, _, _, _ => trivial
  | [p], at_, o, h, ho, hL => by
    rw [join_one] at hL
    unfold tk
    by_cases e : p = []
    · rw [if_pos e]; trivial
    · rw [if_neg e]
      have hl := congrArg List.length hL
      rw [List.length_drop, List.length_append, List.length_replicate] at hl
      have hp : 0 < p.length := by cases p with | nil => exact absurd rfl e | cons _ _ => simp
      exact ⟨ho, ⟨[], by rw [List.append_nil]; exact hL⟩, e, h p (by simp), by omega, trivial⟩
  | p :: q :: r, at_, o, h, ho, hL => by
    rw [join_cons2] at hL
    have h2 : ∀ x ∈ q :: r, (32 : UInt8) ∉ x := fun x hx => h x (List.mem_cons_of_mem _ hx)
    have hl := congrArg List.length hL
    rw [List.length_drop, List.length_append, List.length_replicate, List.length_append, List.length_append, List.length_singleton] at hl
    unfold tk
    by_cases e : p = []
    · rw [if_pos e]
      refine lay_tk L (q :: r) at_ (o + 1) h2 (by omega) ?_
      rw [hL, e, show o + 1 - at_ = (o - at_) + 1 by omega, List.replicate_succ']
      simp
    · rw [if_neg e]
      refine ⟨ho, ⟨[32] ++ [32].intercalate (q :: r), by rw [hL]; simp⟩, e, h p (by simp), by omega, ?_⟩
      refine lay_tk L (q :: r) (o + p.length) (o + p.length + 1) h2 (by omega) ?_
      have e1 : L.drop (o + p.length) = (L.drop at_).drop (o - at_ + p.length) := by rw [List.drop_drop]; congr 1; omega
      rw [e1, hL, show o + p.length + 1 - (o + p.length) = 1 by omega]
      rw [← List.append_assoc, ← List.append_assoc, List.append_assoc (List.replicate (o - at_) 32 ++ p), List.drop_append_of_le_length (by rw [List.length_append, List.length_replicate]; omega), List.drop_of_length_le (by rw [List.length_append, List.length_replicate]; omega)]
      rfl
theorem lay_tks (L : List UInt8) : Lay L 0 (tks L) := lay_tk L _ 0 0 (fun p hp => spl_mem hp) (Nat.le_refl _) (by rw [unspl]; simp)
/-- Where the word ahead of word k ended. -/
def endOf (ts : List (Nat × List UInt8)) (k : Nat) : Nat := if k = 0 then 0 else (ts.getD (k - 1) (0, [])).1 + (ts.getD (k - 1) (0, [])).2.length
theorem lay_at {L : List UInt8} : ∀ (ts : List (Nat × List UInt8)) (at_ k : Nat), Lay L at_ ts → (hk : k < ts.length) → ∃ e, e = (if k = 0 then at_ else endOf ts k) ∧ e ≤ ts[k].1 ∧ (∃ rest, L.drop e = List.replicate (ts[k].1 - e) 32 ++ (ts[k].2 ++ rest)) ∧ ts[k].2 ≠ [] ∧ (32 : UInt8) ∉ ts[k].2 ∧ ts[k].1 + ts[k].2.length ≤ L.length
  | (q, w) :: ts, at_, 0, h, _ => ⟨at_, by simp, h.1, h.2.1, h.2.2.1, h.2.2.2.1, h.2.2.2.2.1⟩
  | (q, w) :: ts, at_, k + 1, h, hk => by
    have hk' : k < ts.length := by simpa using hk
    obtain ⟨e, h0, h1, h2, h3, h4, h5⟩ := lay_at ts (q + w.length) k h.2.2.2.2.2 hk'
    refine ⟨e, ?_, h1, h2, h3, h4, h5⟩
    rw [if_neg (by omega), h0]
    unfold endOf
    rw [if_neg (show ¬ k + 1 = 0 by omega), show k + 1 - 1 = k by omega]
    cases k with
    | zero => simp
    | succ j => rw [if_neg (by omega), if_neg (by omega)]; simp
theorem lay_get (L : List UInt8) {k : Nat} (hk : k < (tks L).length) : endOf (tks L) k ≤ (tks L)[k].1 ∧ (∃ rest, L.drop (endOf (tks L) k) = List.replicate ((tks L)[k].1 - endOf (tks L) k) 32 ++ ((tks L)[k].2 ++ rest)) ∧ (tks L)[k].2 ≠ [] ∧ (32 : UInt8) ∉ (tks L)[k].2 ∧ (tks L)[k].1 + (tks L)[k].2.length ≤ L.length := by
  obtain ⟨e, h0, h1⟩ := lay_at (tks L) 0 k (lay_tks L) hk
  have : e = endOf (tks L) k := by
    rw [h0]
    by_cases h : k = 0
    · subst h; simp [endOf]
    · rw [if_neg h]
  rw [this] at h1
  exact h1
theorem index_skip : ∀ (j : Nat) (w rest : List UInt8), w ≠ [] → (32 : UInt8) ∉ w → Lib.index (List.replicate j 32 ++ (w ++ rest)) w = j
  | 0, w, rest, hw, _ => by
    cases w with
    | nil => exact absurd rfl hw
    | cons c t =>
      rw [List.replicate_zero, List.nil_append, List.cons_append]
      unfold Lib.index
      rw [if_pos (by rw [List.isPrefixOf_iff_prefix]; exact ⟨rest, by simp⟩)]
      rfl
  | j + 1, w, rest, hw, hn => by
    have ih := index_skip j w rest hw hn
    rw [List.replicate_succ, List.cons_append]
    unfold Lib.index
    rw [if_neg, ih]
    · rw [if_neg (by first | (simp; done) | (simp; omega))]
      omega
    · cases w with
      | nil => exact absurd rfl hw
      | cons c t =>
        intro h
        rw [List.isPrefixOf_iff_prefix] at h
        obtain ⟨r, hr⟩ := h
        simp only [List.cons_append, List.cons.injEq] at hr
        exact hn (by rw [hr.1]; simp)

/-- The parts of a word between slashes. -/
def slB : ByteArray := ⟨#[47]⟩
def slP (s : ByteArray) : List ByteArray := Lib.splitB slB 0 (Lib.countB s slB) s
theorem slP_len (s : ByteArray) : (slP s).length = Lib.countB s slB + 1 := Lib.splitB_all slB (by decide) 0 _ s rfl
theorem slP_tie (s : ByteArray) : (slP s).map (·.data.toList) = spl 47 s.data.toList := by
  unfold slP
  rw [Lib.splitB_data]
  exact split_tie 47 s.data.toList.length s.data.toList (Nat.le_refl _)
theorem slP_spl (s : ByteArray) : slP s = bstrs (spl 47 s.data.toList) := by rw [← slP_tie, bstrs_datas]
theorem slP_le (s : ByteArray) : (slP s).length ≤ s.size + 1 := by
  have h := tot_len (spl 47 s.data.toList)
  rw [tot_spl, data_len] at h
  rw [slP_spl, bstrs_len]
  exact h
theorem slP_size (s : ByteArray) : ∀ x ∈ slP s, x.size ≤ s.size := by
  intro x hx
  rw [slP_spl] at hx
  obtain ⟨p, hp, rfl⟩ := List.mem_map.1 hx
  have h : ∀ (xs : List (List UInt8)) (p : List UInt8), p ∈ xs → p.length + 1 ≤ tot xs := by
    intro xs
    induction xs with
    | nil => intro p hp; cases hp
    | cons y r ih =>
      intro p hp
      rcases List.mem_cons.1 hp with rfl | hp
      · simp [tot]
      · have := ih p hp; unfold tot at *; simp; omega
  have := h _ _ hp
  rw [tot_spl, data_len] at this
  rw [bstr_size]
  omega
/-- Whether a word is a number; whether all parts are names, and more than one. -/
def isNum (s : ByteArray) : Prop := numS (refV s) = s ∧ s.size ≤ 20
instance (s : ByteArray) : Decidable (isNum s) := by unfold isNum; infer_instance
def cellB (s : ByteArray) : Bool := decide (1 < (slP s).length) && (slP s).all nameB
def rdK (s : ByteArray) : Int := if isNum s then 2 else if nameB s = true then 1 else if cellB s = true then 3 else 0
def rdN (s : ByteArray) : Int := if isNum s then refV s else 0
def rdP (s : ByteArray) : List ByteArray := if isNum s then [] else if nameB s = true then [] else if cellB s = true then slP s else []
/-- What is told of a word; what is held of it against another one. -/
def cor (x : Wd) : Int × ByteArray × Int × Int × List ByteArray := (x.k, x.t, x.p, x.n, x.ps)
def mkc (y : Nat × List UInt8) : Int × ByteArray × Int × Int × List ByteArray := (rdK (bstr y.2), bstr y.2, (y.1 : Int), rdN (bstr y.2), rdP (bstr y.2))
def key (x : Wd) : Int × ByteArray × Int × List ByteArray := (x.k, x.t, x.n, x.ps)
end Go.Proofs.YtpehinmckppjoaaGreatDoor
