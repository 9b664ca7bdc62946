/- Rows of cells: slices.Index, Contains, Clone, Equal of []api.Cell; hold: Has, List, Same, ask. · slices.Index, Contains, Clone, Equal of []api.Cell; hold: Has, List, Same, ask. · slices.Grow of nil, slices.Concat of []api.Cell. · hold: by index, where a cell belongs. · hold: Add. · hold: Add at nothing; what Add refuses. · hold: what Add refuses. · hold: Drop. · hold: Within, Same. · hold: Region. · hold: lists of cells by rising numbers; what Add and Drop give, in one contract each. -/
import Derived.Test.YtmedgkccicbieaaGreatPCoM1
import Derived.Laws.StructEq
import Derived.Laws.AppendOwnNone
import Derived.Deep.DeepAppendWide
import Derived.Lib.AppendZeros
import Derived.Test.YtmedgkccicbieaaGreatPRegJ
namespace Go.Proofs.YtmedgkccicbieaaGreat
open Go.RowKit Go.Maps
set_option linter.unusedSimpArgs false
set_option linter.unusedVariables false

abbrev Cl := Int × Int × Int × Int × Int
def clF (x : Cl) : List Value := [.int .i64 x.1, .int .i64 x.2.1, .int .i64 x.2.2.1, .int .i64 x.2.2.2.1, .int .i64 x.2.2.2.2]
def clV (x : Cl) : Value := .agg #[.int .i64 x.1, .int .i64 x.2.1, .int .i64 x.2.2.1, .int .i64 x.2.2.2.1, .int .i64 x.2.2.2.2]
def clA (l : List Cl) (i : Nat) : Cl := l.getD i (0, 0, 0, 0, 0)
theorem clA_get {l : List Cl} {i : Nat} (h : i < l.length) : clA l i = l[i] := by simp [clA, List.getD, h]
def flatC (l : List Cl) : List Value := l.flatMap clF
theorem flatC_get : ∀ (l : List Cl) (i t : Nat), i < l.length → t < 5 → (flatC l)[i * 5 + t]? = (clF (clA l i))[t]? := by
  intro l
  induction l with
  | nil => intro i t hi; simp at hi
  | cons x r ih =>
    intro i t hi ht
    have e : flatC (x :: r) = clF x ++ flatC r := by simp [flatC]
    have hl : (clF x).length = 5 := rfl
    rw [e]
    cases i with
    | zero => rw [List.getElem?_append_left (by omega), Nat.zero_mul, Nat.zero_add]; rfl
    | succ i =>
      rw [List.getElem?_append_right (by omega), hl, show (i + 1) * 5 + t - 5 = i * 5 + t by omega, ih i t (by simpa using hi) ht]
      rfl
structure Cq (w : World) (a : Option Addr) (l : List Cl) : Prop where
  cells : 0 < l.length → ∃ b o, a = some ⟨b, o, none⟩ ∧ b < w.heap.size ∧ ∀ i, i < l.length → ∀ t, t < 5 → ∀ u, (clF (clA l i))[t]? = some u → w.cell? ⟨b, o + i * 5 + t, none⟩ = some u
theorem Cq.chg {S : Nat → Prop} {w w' : World} {a : Option Addr} {l : List Cl} (h : Cq w a l) (g : Chg S w w') (hb : 0 < l.length → ∀ ad, a = some ad → ¬ S ad.block) : Cq w' a l :=
  ⟨fun hp => by
    obtain ⟨c, o, h1, h2, h3⟩ := h.cells hp
    have hne : ¬ S c := hb hp ⟨c, o, none⟩ h1
    exact ⟨c, o, h1, Nat.lt_of_lt_of_le h2 g.size, fun i hi t ht u hu => g.cellp (h3 i hi t ht u hu) hne⟩⟩
theorem Cq.kept {w w' : World} {a : Option Addr} {l : List Cl} (h : Cq w a l) (g : Kept w w') : Cq w' a l := h.chg (S := fun _ => False) (Chg.of_kept g) (fun _ _ _ e => e)
theorem Cq.at {w : World} {b o : Nat} {l : List Cl} (h : Cq w (some ⟨b, o, none⟩) l) {i : Nat} (hi : i < l.length) : w.cell? ⟨b, o + i * 5, none⟩ = some (.int .i64 (clA l i).1) ∧ w.cell? ⟨b, o + i * 5 + 1, none⟩ = some (.int .i64 (clA l i).2.1) ∧ w.cell? ⟨b, o + i * 5 + 2, none⟩ = some (.int .i64 (clA l i).2.2.1) ∧ w.cell? ⟨b, o + i * 5 + 3, none⟩ = some (.int .i64 (clA l i).2.2.2.1) ∧ w.cell? ⟨b, o + i * 5 + 4, none⟩ = some (.int .i64 (clA l i).2.2.2.2) := by
  obtain ⟨b', o', e, _, h3⟩ := h.cells (by omega)
  cases e
  exact ⟨h3 i hi 0 (by omega) _ rfl, h3 i hi 1 (by omega) _ rfl, h3 i hi 2 (by omega) _ rfl, h3 i hi 3 (by omega) _ rfl, h3 i hi 4 (by omega) _ rfl⟩
theorem Cq.form {w : World} {a : Option Addr} {l : List Cl} (h : Cq w a l) (hp : 0 < l.length) : ∃ b o, a = some ⟨b, o, none⟩ := by
  obtain ⟨b, o, e, _⟩ := h.cells hp
  exact ⟨b, o, e⟩
def OwnQ (w : World) (B : Nat) (v : Value) (l : List Cl) : Prop := w.ownsRow B 29 5 v l.length (flatC l)
theorem OwnQ.form {w : World} {B : Nat} {v : Value} {l : List Cl} (h : OwnQ w B v l) : ∃ a c, v = .slice a l.length c ∧ Cq w a l ∧ (a = none → l = [] ∧ c = 0) := by
  obtain ⟨h0, ⟨h1, hz⟩ | ⟨g, cap, cur, h1, h2⟩⟩ := h
  · have hl : l = [] := List.length_eq_zero_iff.1 hz
    subst hl
    exact ⟨none, 0, h1, ⟨fun hp => absurd hp (by simp)⟩, fun _ => ⟨rfl, rfl⟩⟩
  · have ho : w.ownsRow B 29 5 v l.length (flatC l) := ⟨h0, .inr ⟨g, cap, cur, h1, h2⟩⟩
    refine ⟨_, _, h1, ⟨fun hp => ?_⟩, fun e => by cases e⟩
    subst h1
    obtain ⟨g', cap', e, _, hl⟩ := World.ownsRow.form ho hp
    cases e
    exact ⟨g, 0, rfl, hl, fun i hi t ht u hu => by rw [Nat.zero_add, World.ownsRow.cellAt ho (i * 5 + t) (by omega), flatC_get l i t hi ht]; exact hu⟩
theorem cl_eq (x y : Cl) : (x = y) ↔ x.1 = y.1 ∧ x.2.1 = y.2.1 ∧ x.2.2.1 = y.2.2.1 ∧ x.2.2.2.1 = y.2.2.2.1 ∧ x.2.2.2.2 = y.2.2.2.2 := by
  obtain ⟨a, b, c, d, e⟩ := x
  obtain ⟨a', b', c', d', e'⟩ := y
  simp only [Prod.mk.injEq]
theorem eqlC (x y : Cl) (w : World) : (binOp .eql 29 (clV x) (clV y)).run Tryz.prog w = .ok (.bool (decide (x = y))) w := by
  obtain ⟨x0, x1, x2, x3, x4⟩ := x
  obtain ⟨y0, y1, y2, y3, y4⟩ := y
  have u3 := Tryz.underlying3
  have a3 := Tryz.isAgg3
  have z3 := Tryz.sizeOf3
  have hS : Tryz.prog.underlying 29 = some (.struct (Tryz.prog.fieldsOf 29)) := by kernel_rfl
  have hp : Tryz.prog.stoodInHeld 29 = false := by kernel_rfl
  have qa := eq_arrG x1 x2 x3 x4 y1 y2 y3 y4
  have e9 : decide (((x0, x1, x2, x3, x4) : Cl) = (y0, y1, y2, y3, y4)) = (decide (x0 = y0) && decide (x1 = y1 ∧ x2 = y2 ∧ x3 = y3 ∧ x4 = y4)) := by
    rw [← Bool.decide_and, decide_eq_decide]
    simp only [Prod.mk.injEq]
  rw [e9]
  unfold clV
  rw [run_eql_struct, show (10000 : Nat) = 9999 + 1 from rfl, run_equalIn_agg w 9999 29 _ _ hS hp]
  simp only [Program.fieldsOf, Tryz.underlying29]
  generalize decide (x1 = y1 ∧ x2 = y2 ∧ x3 = y3 ∧ x4 = y4) = dd at *
  by_cases h0 : x0 = y0
  · subst h0
    cases dd <;> (go_simp; try simp)
  · have e0 : (x0 == y0) = false := by simpa using h0
    have e1 : decide (x0 = y0) = false := by simpa using h0
    rw [e1]
    clear e1 e9 h0
    go_simp
    try simp

theorem boxC_at (w : World) (x : Cl) (t : TypeId) {g : Nat} (hg : g = w.heap.size) (Y : World) (k : Kept (w.alloc (.cells #[.int .i64 x.1, .int .i64 x.2.1, .int .i64 x.2.2.1, .int .i64 x.2.2.2.1, .int .i64 x.2.2.2.2] t)) Y) : Y.cell? ⟨g, 0, none⟩ = some (.int .i64 x.1) ∧ Y.cell? ⟨g, 1, none⟩ = some (.int .i64 x.2.1) ∧ Y.cell? ⟨g, 2, none⟩ = some (.int .i64 x.2.2.1) ∧ Y.cell? ⟨g, 3, none⟩ = some (.int .i64 x.2.2.2.1) ∧ Y.cell? ⟨g, 4, none⟩ = some (.int .i64 x.2.2.2.2) :=
  ⟨k.cellp (new_cell _ _ _ _ 0 _ hg rfl), k.cellp (new_cell _ _ _ _ 1 _ hg rfl), k.cellp (new_cell _ _ _ _ 2 _ hg rfl), k.cellp (new_cell _ _ _ _ 3 _ hg rfl), k.cellp (new_cell _ _ _ _ 4 _ hg rfl)⟩
def hdV (a : Option Addr) (n c : Nat) : Value := .agg #[.slice a n c]
section
variable {w : World} {s p : Nat} {ds : List Dm} {ms : List ByteArray} {tp : Nat → Nat} {rv : Nat → Option Addr × Nat}
def clT (x : Cl) (k : Nat) : Int := [x.2.1, x.2.2.1, x.2.2.2.1, x.2.2.2.2].getD k 0
theorem clV_at (x : Cl) : clV x = cellV x.1 (clT x) := rfl
def ixC (ms : List ByteArray) (ds : List Dm) (x : Cl) : Int := if rightB ms ds x.1 (clT x) then numK (fun k => many ds k) (clT x) x.1 4 else -1
theorem sw_IndexC (h : SW w s p ds ms tp rv) (x : Cl) : Calls Tryz.prog 53 #[.pointer (some ⟨s, 0, none⟩), clV x] w fun e w' => e = .returned (.int .i64 (ixC ms ds x)) ∧ Kept w w' := by
  rw [clV_at]
  exact sw_Index h x.1 (clT x)
end


def cmpI (a b : Int) : Int := if a < b then -1 else if b < a then 1 else 0
section
variable {w : World} {s p : Nat} {ds : List Dm} {ms : List ByteArray} {tp : Nat → Nat} {rv : Nat → Option Addr × Nat}
end

theorem Cq.take {w : World} {a : Option Addr} {l : List Cl} (h : Cq w a l) (i : Nat) : Cq w a (l.take i) := by
  refine ⟨fun hp => ?_⟩
  have hl : 0 < l.length := by rw [List.length_take] at hp; omega
  obtain ⟨b, o, h1, h2, h3⟩ := h.cells hl
  refine ⟨b, o, h1, h2, fun j hj t ht u hu => h3 j (by rw [List.length_take] at hj; omega) t ht u ?_⟩
  have e : clA (l.take i) j = clA l j := by rw [clA_get hj, clA_get (by rw [List.length_take] at hj; omega), List.getElem_take]
  rw [← e]; exact hu
theorem Cq.drop {w : World} {b o : Nat} {l : List Cl} (h : Cq w (some ⟨b, o, none⟩) l) (i : Nat) : Cq w (some ⟨b, o + i * 5, none⟩) (l.drop i) := by
  refine ⟨fun hp => ?_⟩
  rw [List.length_drop] at hp
  obtain ⟨b', o', h1, h2, h3⟩ := h.cells (by omega)
  cases h1
  refine ⟨b, o + i * 5, rfl, h2, fun j hj t ht u hu => ?_⟩
  rw [List.length_drop] at hj
  have e : clA (l.drop i) j = clA l (i + j) := by rw [clA_get (by rw [List.length_drop]; omega), clA_get (by omega), List.getElem_drop]
  rw [e] at hu
  have := h3 (i + j) (by omega) t ht u hu
  rw [show o + (i + j) * 5 + t = o + i * 5 + j * 5 + t by omega] at this
  exact this
theorem Cq.none (w : World) (a : Option Addr) : Cq w a [] := ⟨fun hp => absurd hp (by simp)⟩
def p3 {α : Type} (a b c : α) (k : Nat) : α := if k = 0 then a else if k = 1 then b else c
section
variable {w : World} {s p : Nat} {ds : List Dm} {ms : List ByteArray} {tp : Nat → Nat} {rv : Nat → Option Addr × Nat}
end

section
variable {w : World} {s p : Nat} {ds : List Dm} {ms : List ByteArray} {tp : Nat → Nat} {rv : Nat → Option Addr × Nat}
end

def HdNo (w : World) (why : Int) (e : Ending) (w' : World) : Prop := e = .returned (.tuple #[hdV none 0 0, .int .i64 why]) ∧ Kept w w'
section
variable {w : World} {s p : Nat} {ds : List Dm} {ms : List ByteArray} {tp : Nat → Nat} {rv : Nat → Option Addr × Nat}
end

section
variable {w : World} {s p : Nat} {ds : List Dm} {ms : List ByteArray} {tp : Nat → Nat} {rv : Nat → Option Addr × Nat}
end

open Classical in
noncomputable def wiC (ms : List ByteArray) (ds : List Dm) (x y : Cl) : Bool := decide (inC ms ds x.1 (clT x) y.1 (clT y))
theorem bool_is {b : Bool} {P : Prop} [Decidable P] (h : b = true ↔ P) : b = decide P := by
  by_cases c : P
  · rw [decide_eq_true c]; exact h.2 c
  · rw [decide_eq_false c]; cases b with
    | false => rfl
    | true => exact absurd (h.1 rfl) c
section
variable {w : World} {s p : Nat} {ds : List Dm} {ms : List ByteArray} {tp : Nat → Nat} {rv : Nat → Option Addr × Nat}
theorem sw_WithinC (h : SW w s p ds ms tp rv) (x y : Cl) : Calls Tryz.prog 60 #[.pointer (some ⟨s, 0, none⟩), clV x, clV y] w fun e w' => e = .returned (.bool (wiC ms ds x y)) ∧ Kept w w' := by
  rw [clV_at, clV_at]
  refine (sw_Within h x.1 (clT x) y.1 (clT y)).mono ?_
  rintro e w' ⟨r, rfl, hr, k⟩
  refine ⟨?_, k⟩
  unfold wiC
  rw [@bool_is r _ (Classical.propDecidable _) hr]
end
section
variable {w : World} {s p : Nat} {ds : List Dm} {ms : List ByteArray} {tp : Nat → Nat} {rv : Nat → Option Addr × Nat}
end

def seV (f : Nat → List Rn) (nv : Nat → Option Addr × Nat) (j : Nat) : List Value := (List.range j).map fun k => .slice (nv k).1 (f k).length (nv k).2
def OwnE (w : World) (B : Nat) (v : Value) (f : Nat → List Rn) (j : Nat) (nv : Nat → Option Addr × Nat) : Prop :=
  w.ownsRow B 55 1 v j (seV f nv j) ∧ ∀ k, k < j → (Rs w (nv k).1 (f k) ∧ (f k).length ≤ (nv k).2 ∧ ((nv k).1 = none → f k = [] ∧ (nv k).2 = 0)) ∧ ∀ ad, (nv k).1 = some ad → 0 < (f k).length → ad.block < w.heap.size ∧ v.ownBlock ≠ some ad.block
theorem ownE_nil (w : World) (B : Nat) (f : Nat → List Rn) (nv : Nat → Option Addr × Nat) : OwnE w B (.slice none 0 0) f 0 nv := ⟨World.ownsRow_nil _ _ _ _, fun k hk => absurd hk (by omega)⟩
theorem OwnE.kept {w y : World} {B : Nat} {v : Value} {f : Nat → List Rn} {j : Nat} {nv : Nat → Option Addr × Nat} (h : OwnE w B v f j nv) (g : Kept w y) : OwnE y B v f j nv :=
  ⟨ownsRow_kept h.1 g, fun k hk => ⟨⟨(h.2 k hk).1.1.kept g, (h.2 k hk).1.2⟩, fun ad e hp => ⟨Nat.lt_of_lt_of_le ((h.2 k hk).2 ad e hp).1 g.size, ((h.2 k hk).2 ad e hp).2⟩⟩⟩
theorem OwnE.lt {w : World} {B : Nat} {v : Value} {f : Nat → List Rn} {j : Nat} {nv : Nat → Option Addr × Nat} (h : OwnE w B v f j nv) : ∀ g, v.ownBlock = some g → B ≤ g ∧ g < w.heap.size := World.ownsRow.lt h.1
theorem OwnE.form {w : World} {B : Nat} {v : Value} {f : Nat → List Rn} {j : Nat} {nv : Nat → Option Addr × Nat} (h : OwnE w B v f j nv) : ∃ a c, v = .slice a j c := by
  obtain ⟨_, ⟨h1, hz⟩ | ⟨g, cap, cur, h1, _⟩⟩ := h.1
  · exact ⟨none, 0, by rw [h1]; have : j = 0 := by simpa using hz
                       rw [this]⟩
  · exact ⟨_, _, h1⟩
theorem OwnE.sts {w : World} {B : Nat} {a : Option Addr} {c : Nat} {f : Nat → List Rn} {j : Nat} {nv : Nat → Option Addr × Nat} (h : OwnE w B (.slice a j c) f j nv) : Sts w a ((List.range j).map f) := by
  refine ⟨fun hp => ?_⟩
  rw [List.length_map, List.length_range] at hp
  obtain ⟨g, cap, e, _, _⟩ := h.1.form hp
  cases e
  refine ⟨g, 0, rfl, (h.lt g rfl).2, fun k hk => ?_⟩
  rw [List.length_map, List.length_range] at hk
  refine ⟨.slice (nv k).1 (f k).length (nv k).2, ?_, ?_⟩
  · rw [Nat.zero_add, h.1.cellAt k (by omega)]
    simp [seV, hk]
  · rw [show ((List.range j).map f).getD k [] = f k by simp [List.getD, hk]]
    obtain ⟨⟨h1, h2, h3⟩, _⟩ := h.2 k hk
    exact ⟨_, _, rfl, h1, h2, h3⟩
theorem ownE_next {w w' : World} {B : Nat} {v : Value} {f : Nat → List Rn} {j : Nat} {nv : Nat → Option Addr × Nat} (hv : OwnE w B v f j nv) (va : Option Addr) (vc : Nat) (m : List Rn) (hs : Rs w va m ∧ m.length ≤ vc ∧ (va = none → m = [] ∧ vc = 0)) (hfr : ∀ ad, va = some ad → 0 < m.length → ad.block < w.heap.size ∧ v.ownBlock ≠ some ad.block) {g' cap : Nat}
    (h2 : w'.ownsRow B 55 1 (.slice (some ⟨g', 0, none⟩) (j + 1) cap) (j + 1) (seV f nv j ++ [.slice va m.length vc])) (h3 : Chg (fun k => v.ownBlock = some k) w w') (h4 : v.ownBlock = some g' ∨ g' = w.heap.size) : OwnE w' B (.slice (some ⟨g', 0, none⟩) (j + 1) cap) (fun k => if k = j then m else f k) (j + 1) (fun k => if k = j then (va, vc) else nv k) := by
  have hne : ∀ ad : Addr, ad.block < w.heap.size → v.ownBlock ≠ some ad.block → (Value.slice (some ⟨g', 0, none⟩) (j + 1) cap).ownBlock ≠ some ad.block := fun ad hlt hn e => by
    simp only [Value.ownBlock, Option.some.injEq] at e
    rcases h4 with h4 | h4
    · rw [h4] at hn; exact hn (by rw [e])
    · omega
  refine ⟨?_, fun k hk => ?_⟩
  · have e : seV (fun k => if k = j then m else f k) (fun k => if k = j then (va, vc) else nv k) (j + 1) = seV f nv j ++ [.slice va m.length vc] := by
      unfold seV
      rw [List.range_succ, List.map_append]
      congr 1
      · apply List.map_congr_left
        intro k hk
        rw [List.mem_range] at hk
        have e : ¬ k = j := by omega
        simp only [if_neg e]
      · simp
    rw [e]
    exact h2
  · by_cases e : k = j
    · subst e
      simp only [if_true]
      exact ⟨⟨hs.1.chg h3 (fun hp ad had e => (hfr ad had hp).2 e), hs.2⟩, fun ad had hp => ⟨Nat.lt_of_lt_of_le (hfr ad had hp).1 h3.size, hne ad (hfr ad had hp).1 (hfr ad had hp).2⟩⟩
    · simp only [if_neg e]
      have hk' : k < j := by omega
      obtain ⟨s1, s2⟩ := hv.2 k hk'
      exact ⟨⟨s1.1.chg h3 (fun hp ad had e => (s2 ad had hp).2 e), s1.2⟩, fun ad had hp => ⟨Nat.lt_of_lt_of_le (s2 ad had hp).1 h3.size, hne ad (s2 ad had hp).1 (s2 ad had hp).2⟩⟩
theorem einfo : ∃ i0, Tryz.prog.info? 55 = some i0 ∧ i0.zero = some (.agg #[.slice none 0 0]) ∧ i0.size = 1 ∧ i0.bytes = 24 := by
  have h : (Tryz.prog.info? 55).map (fun i => (i.zero, i.size, i.bytes)) = some (some (.agg #[.slice none 0 0]), 1, 24) := by kernel_rfl
  exact info_parts h
theorem wpList_pushE {ops : Array Oper} {rest : List Oper} {o : Oper} {a : Act} {Q : Exit → Act → World → Prop} (w : World) (hgd : o.guard = none) (s x : Operand)
    (ho : o.op = .call { callee := .builtin .append, args := #[s, x], argTypes := #[120, 120] })
    (B : Nat) (v : Value) (f : Nat → List Rn) (j : Nat) (nv : Nat → Option Addr × Nat) (hs : a.eval s = v) (hv : OwnE w B v f j nv) (hB : B ≤ w.heap.size) (g : Nat) (va : Option Addr) (vc : Nat) (m : List Rn) (hx : a.eval x = .slice (some ⟨g, 0, none⟩) 1 1) (hcell : w.cell? ⟨g, 0, none⟩ = some (.slice va m.length vc))
    (hsl : Rs w va m ∧ m.length ≤ vc ∧ (va = none → m = [] ∧ vc = 0)) (hfr : ∀ ad, va = some ad → 0 < m.length → ad.block < w.heap.size ∧ v.ownBlock ≠ some ad.block) (hj : j ≤ 1000)
    (h : ∀ g' cap w', OwnE w' B (.slice (some ⟨g', 0, none⟩) (j + 1) cap) (fun k => if k = j then m else f k) (j + 1) (fun k => if k = j then (va, vc) else nv k) → Chg (fun k => v.ownBlock = some k) w w' → wpList Tryz.prog ops Q rest (a.put o.dst (.slice (some ⟨g', 0, none⟩) (j + 1) cap)) w') :
    wpList Tryz.prog ops Q (o :: rest) a w := by
  obtain ⟨i0, hi0, hz0, hz1, hz2⟩ := einfo
  refine wpList_append_lies w hgd s x 120 ho B 55 i0 (.agg #[.slice none 0 0]) 1 24 Tryz.underlying120 hi0 hz0 hz1 hz2 rfl (by decide) v _ _ hs hv.1 ⟨g, 0, none⟩ 1 1 [.slice va m.length vc] hx rfl (one_news hcell) (by intro u hu; simp at hu; subst hu; rfl) (by omega) (by unfold maxLen; omega) (by omega) hB w.heap.size rfl ?_
  intro g' cap w' h2 h3 h4 h5
  have hc : Chg (fun k => v.ownBlock = some k) w w' := (Chg.refl _ w).grown h3 (fun k hk => .inl hk)
  exact h g' cap w' (ownE_next hv va vc m hsl hfr h2 hc h4) hc
theorem norm_okR {l : List Rn} (h : Norm l) : ∀ r, r ∈ l → okR r := fun r hr => by
  obtain ⟨k, hk, rfl⟩ := mem_rnA hr
  exact norm_at h hk
theorem catL_len_le {f : Nat → List Rn} {j : Nat} (h : ∀ k, k < j → (f k).length ≤ 1000) : (catL [] ((List.range j).map f)).length ≤ j * 1000 := by
  induction j with
  | zero => simp [catL]
  | succ j ih =>
    have := ih (fun k hk => h k (by omega))
    have h2 := h j (by omega)
    rw [List.range_succ, List.map_append, catL, List.foldl_append]
    unfold catL at this
    simp only [List.map_cons, List.map_nil, List.foldl_cons, List.foldl_nil, List.length_append]
    omega
section
variable {w : World} {s p : Nat} {ds : List Dm} {ms : List ByteArray} {tp : Nat → Nat} {rv : Nat → Option Addr × Nat}
end

def RiseC (f : Cl → Int) (l : List Cl) : Prop := ∀ i j, i < j → j < l.length → f (clA l i) < f (clA l j)
theorem ixC_right {ms : List ByteArray} {ds : List Dm} {x : Cl} (h : 0 ≤ ixC ms ds x) : rightB ms ds x.1 (clT x) = true := by
  unfold ixC at h
  split at h
  · assumption
  · omega
theorem clT_at {ds : List Dm} {ms : List ByteArray} (h : Ct ds ms) {x : Cl} (hr : rightB ms ds x.1 (clT x) = true) : ∀ k, 0 ≤ clT x k ∧ clT x k < (many ds k : Int) := fun k => by
  by_cases hk : k < 4
  · exact (right_iff.1 hr).2 k hk
  · have e : clT x k = 0 := by
      unfold clT
      rw [List.getD_eq_getElem?_getD, List.getElem?_eq_none (by simp; omega)]
      rfl
    rw [e, many_out (by have := h.d4; omega)]
    omega
theorem ixC_inj {ds : List Dm} {ms : List ByteArray} (h : Ct ds ms) {x y : Cl} (hx : 0 ≤ ixC ms ds x) (e : ixC ms ds x = ixC ms ds y) : x = y := by
  have r1 := ixC_right hx
  have r2 := ixC_right (x := y) (by rw [← e]; exact hx)
  have p1 := parts_num (f := fun k => (many ds k : Int)) (right_iff.1 r1).1.1 (clT_at h r1)
  have p2 := parts_num (f := fun k => (many ds k : Int)) (right_iff.1 r2).1.1 (clT_at h r2)
  unfold ixC at e
  rw [if_pos r1, if_pos r2] at e
  rw [e] at p1
  have e0 : x.1 = y.1 := p1.1.symm.trans p2.1
  have ek : ∀ k, k < 4 → clT x k = clT y k := fun k hk => (p1.2 k hk).symm.trans (p2.2 k hk)
  rw [cl_eq]
  exact ⟨e0, ek 0 (by omega), ek 1 (by omega), ek 2 (by omega), ek 3 (by omega)⟩
structure Hd (w : World) (ms : List ByteArray) (ds : List Dm) (a : Option Addr) (c : Nat) (l : List Cl) : Prop where
  cq : Cq w a l
  le : l.length ≤ c
  nl : a = none → l = [] ∧ c = 0
  rs : RiseC (ixC ms ds) l
  ok : ∀ x, x ∈ l → 0 ≤ ixC ms ds x
  sm : l.length ≤ 16
  sp : ∀ ad, a = some ad → ad.spot = none
theorem Hd.kept {w w' : World} {ms : List ByteArray} {ds : List Dm} {a : Option Addr} {c : Nat} {l : List Cl} (h : Hd w ms ds a c l) (k : Kept w w') : Hd w' ms ds a c l := ⟨h.cq.kept k, h.le, h.nl, h.rs, h.ok, h.sm, h.sp⟩
theorem OwnQ.le {w : World} {B : Nat} {a : Option Addr} {n c : Nat} {l : List Cl} (h : OwnQ w B (.slice a n c) l) : l.length ≤ c := by
  obtain ⟨_, ⟨h1, hz⟩ | ⟨g, cap, cur, h1, hb, hheap, hc, _⟩⟩ := h
  · rw [hz]; exact Nat.zero_le _
  · cases h1; exact hc
theorem OwnQ.sp {w : World} {B : Nat} {a : Option Addr} {n c : Nat} {l : List Cl} (h : OwnQ w B (.slice a n c) l) : ∀ ad, a = some ad → ad.spot = none := by
  obtain ⟨_, ⟨h1, hz⟩ | ⟨g, cap, cur, h1, _⟩⟩ := h
  · cases h1; intro ad e; cases e
  · cases h1; intro ad e; cases e; rfl
theorem OwnQ.fr {w : World} {B : Nat} {a : Option Addr} {n c : Nat} {l : List Cl} (h : OwnQ w B (.slice a n c) l) : ∀ ad, a = some ad → B ≤ ad.block := by
  obtain ⟨_, ⟨h1, hz⟩ | ⟨g, cap, cur, h1, hb, _⟩⟩ := h
  · cases h1; intro ad e; cases e
  · cases h1; intro ad e; cases e; exact hb
section
variable {w : World} {s p : Nat} {ds : List Dm} {ms : List ByteArray} {tp : Nat → Nat} {rv : Nat → Option Addr × Nat}
end
end Go.Proofs.YtmedgkccicbieaaGreat
