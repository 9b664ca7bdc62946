/- Rows of cells: slices.Index, Contains, Clone, Equal of []api.Cell; hold: Has, List, Same, ask. · slices.Index, Contains, Clone, Equal of []api.Cell; hold: Has, List, Same, ask. · slices.Grow of nil, slices.Concat of []api.Cell. · hold: by index, where a cell belongs. -/
import Derived.Test.YtmedgkccicbieaaGreatQCoM1
import Derived.Laws.StructEq
import Derived.Laws.AppendOwnNone
import Derived.Deep.DeepAppendWide
import Derived.Lib.AppendZeros
import Derived.Test.YtmedgkccicbieaaGreatQRegJ
namespace Go.Proofs.YtmedgkccicbieaaGreat
open Go.RowKit Go.Maps
set_option linter.unusedSimpArgs false
set_option linter.unusedVariables false

/-- A cell: its measure, its four members. -/
abbrev Cl := Int × Int × Int × Int × Int
def clF (x : Cl) : List Value := [.int .i64 x.1, .int .i64 x.2.1, .int .i64 x.2.2.1, .int .i64 x.2.2.2.1, .int .i64 x.2.2.2.2]
def clV (x : Cl) : Value := .agg #[.int .i64 x.1, .int .i64 x.2.1, .int .i64 x.2.2.1, .int .i64 x.2.2.2.1, .int .i64 x.2.2.2.2]
def clA (l : List Cl) (i : Nat) : Cl := l.getD i (0, 0, 0, 0, 0)
theorem clA_get {l : List Cl} {i : Nat} (h : i < l.length) : clA l i = l[i] := by simp [clA, List.getD, h]
def flatC (l : List Cl) : List Value := l.flatMap clF
theorem flatC_get : ∀ (l : List Cl) (i t : Nat), i < l.length → t < 5 → (flatC l)[i * 5 + t]? = (clF (clA l i))[t]? := by
  intro l
  induction l with
  | nil => intro i t hi; simp at hi
  | cons x r ih =>
    intro i t hi ht
    have e : flatC (x :: r) = clF x ++ flatC r := by simp [flatC]
    have hl : (clF x).length = 5 := rfl
    rw [e]
    cases i with
    | zero => rw [List.getElem?_append_left (by omega), Nat.zero_mul, Nat.zero_add]; rfl
    | succ i =>
      rw [List.getElem?_append_right (by omega), hl, show (i + 1) * 5 + t - 5 = i * 5 + t by omega, ih i t (by simpa using hi) ht]
      rfl
/-- A slice of cells in memory. -/
structure Cq (w : World) (a : Option Addr) (l : List Cl) : Prop where
  cells : 0 < l.length → ∃ b o, a = some ⟨b, o, none⟩ ∧ b < w.heap.size ∧ ∀ i, i < l.length → ∀ t, t < 5 → ∀ u, (clF (clA l i))[t]? = some u → w.cell? ⟨b, o + i * 5 + t, none⟩ = some u
theorem Cq.chg {S : Nat → Prop} {w w' : World} {a : Option Addr} {l : List Cl} (h : Cq w a l) (g : Chg S w w') (hb : 0 < l.length → ∀ ad, a = some ad → ¬ S ad.block) : Cq w' a l :=
  ⟨fun hp => by
    obtain ⟨c, o, h1, h2, h3⟩ := h.cells hp
    have hne : ¬ S c := hb hp ⟨c, o, none⟩ h1
    exact ⟨c, o, h1, Nat.lt_of_lt_of_le h2 g.size, fun i hi t ht u hu => g.cellp (h3 i hi t ht u hu) hne⟩⟩
theorem Cq.kept {w w' : World} {a : Option Addr} {l : List Cl} (h : Cq w a l) (g : Kept w w') : Cq w' a l := h.chg (S := fun _ => False) (Chg.of_kept g) (fun _ _ _ e => e)
theorem Cq.at {w : World} {b o : Nat} {l : List Cl} (h : Cq w (some ⟨b, o, none⟩) l) {i : Nat} (hi : i < l.length) : w.cell? ⟨b, o + i * 5, none⟩ = some (.int .i64 (clA l i).1) ∧ w.cell? ⟨b, o + i * 5 + 1, none⟩ = some (.int .i64 (clA l i).2.1) ∧ w.cell? ⟨b, o + i * 5 + 2, none⟩ = some (.int .i64 (clA l i).2.2.1) ∧ w.cell? ⟨b, o + i * 5 + 3, none⟩ = some (.int .i64 (clA l i).2.2.2.1) ∧ w.cell? ⟨b, o + i * 5 + 4, none⟩ = some (.int .i64 (clA l i).2.2.2.2) := by
  obtain ⟨b', o', e, _, h3⟩ := h.cells (by omega)
  cases e
  exact ⟨h3 i hi 0 (by omega) _ rfl, h3 i hi 1 (by omega) _ rfl, h3 i hi 2 (by omega) _ rfl, h3 i hi 3 (by omega) _ rfl, h3 i hi 4 (by omega) _ rfl⟩
theorem Cq.form {w : World} {a : Option Addr} {l : List Cl} (h : Cq w a l) (hp : 0 < l.length) : ∃ b o, a = some ⟨b, o, none⟩ := by
  obtain ⟨b, o, e, _⟩ := h.cells hp
  exact ⟨b, o, e⟩
/-- Cells in a row of a call's own, from block B on. -/
def OwnQ (w : World) (B : Nat) (v : Value) (l : List Cl) : Prop := w.ownsRow B 29 5 v l.length (flatC l)
theorem OwnQ.form {w : World} {B : Nat} {v : Value} {l : List Cl} (h : OwnQ w B v l) : ∃ a c, v = .slice a l.length c ∧ Cq w a l ∧ (a = none → l = [] ∧ c = 0) := by
  obtain ⟨h0, ⟨h1, hz⟩ | ⟨g, cap, cur, h1, h2⟩⟩ := h
  · have hl : l = [] := List.length_eq_zero_iff.1 hz
    subst hl
    exact ⟨none, 0, h1, ⟨fun hp => absurd hp (by simp)⟩, fun _ => ⟨rfl, rfl⟩⟩
  · have ho : w.ownsRow B 29 5 v l.length (flatC l) := ⟨h0, .inr ⟨g, cap, cur, h1, h2⟩⟩
    refine ⟨_, _, h1, ⟨fun hp => ?_⟩, fun e => by cases e⟩
    subst h1
    obtain ⟨g', cap', e, _, hl⟩ := World.ownsRow.form ho hp
    cases e
    exact ⟨g, 0, rfl, hl, fun i hi t ht u hu => by rw [Nat.zero_add, World.ownsRow.cellAt ho (i * 5 + t) (by omega), flatC_get l i t hi ht]; exact hu⟩
theorem cl_eq (x y : Cl) : (x = y) ↔ x.1 = y.1 ∧ x.2.1 = y.2.1 ∧ x.2.2.1 = y.2.2.1 ∧ x.2.2.2.1 = y.2.2.2.1 ∧ x.2.2.2.2 = y.2.2.2.2 := by
  obtain ⟨a, b, c, d, e⟩ := x
  obtain ⟨a', b', c', d', e'⟩ := y
  simp only [Prod.mk.injEq]
theorem eqlC (x y : Cl) (w : World) : (binOp .eql 29 (clV x) (clV y)).run Tryz.prog w = .ok (.bool (decide (x = y))) w := by
  obtain ⟨x0, x1, x2, x3, x4⟩ := x
  obtain ⟨y0, y1, y2, y3, y4⟩ := y
  have u3 := Tryz.underlying3
  have a3 := Tryz.isAgg3
  have z3 := Tryz.sizeOf3
  have hS : Tryz.prog.underlying 29 = some (.struct (Tryz.prog.fieldsOf 29)) := by kernel_rfl
  have hp : Tryz.prog.stoodInHeld 29 = false := by kernel_rfl
  have qa := eq_arrG x1 x2 x3 x4 y1 y2 y3 y4
  have e9 : decide (((x0, x1, x2, x3, x4) : Cl) = (y0, y1, y2, y3, y4)) = (decide (x0 = y0) && decide (x1 = y1 ∧ x2 = y2 ∧ x3 = y3 ∧ x4 = y4)) := by
    rw [← Bool.decide_and, decide_eq_decide]
    simp only [Prod.mk.injEq]
  rw [e9]
  unfold clV
  rw [run_eql_struct, show (10000 : Nat) = 9999 + 1 from rfl, run_equalIn_agg w 9999 29 _ _ hS hp]
  simp only [Program.fieldsOf, Tryz.underlying29]
  generalize decide (x1 = y1 ∧ x2 = y2 ∧ x3 = y3 ∧ x4 = y4) = dd at *
  by_cases h0 : x0 = y0
  · subst h0
    cases dd <;> (go_simp; try simp)
  · have e0 : (x0 == y0) = false := by simpa using h0
    have e1 : decide (x0 = y0) = false := by simpa using h0
    rw [e1]
    clear e1 e9 h0
    go_simp
    try simp
end Go.Proofs.YtmedgkccicbieaaGreat
namespace Go.Proofs.YtmedgkccicbieaaGreat
open Go.RowKit Go.Maps
set_option linter.unusedSimpArgs false
set_option linter.unusedVariables false

theorem boxC_at (w : World) (x : Cl) (t : TypeId) {g : Nat} (hg : g = w.heap.size) (Y : World) (k : Kept (w.alloc (.cells #[.int .i64 x.1, .int .i64 x.2.1, .int .i64 x.2.2.1, .int .i64 x.2.2.2.1, .int .i64 x.2.2.2.2] t)) Y) : Y.cell? ⟨g, 0, none⟩ = some (.int .i64 x.1) ∧ Y.cell? ⟨g, 1, none⟩ = some (.int .i64 x.2.1) ∧ Y.cell? ⟨g, 2, none⟩ = some (.int .i64 x.2.2.1) ∧ Y.cell? ⟨g, 3, none⟩ = some (.int .i64 x.2.2.2.1) ∧ Y.cell? ⟨g, 4, none⟩ = some (.int .i64 x.2.2.2.2) :=
  ⟨k.cellp (new_cell _ _ _ _ 0 _ hg rfl), k.cellp (new_cell _ _ _ _ 1 _ hg rfl), k.cellp (new_cell _ _ _ _ 2 _ hg rfl), k.cellp (new_cell _ _ _ _ 3 _ hg rfl), k.cellp (new_cell _ _ _ _ 4 _ hg rfl)⟩
/-- What is held, in memory. -/
def hdV (a : Option Addr) (n c : Nat) : Value := .agg #[.slice a n c]
section
variable {w : World} {s p : Nat} {ds : List Dm} {ms : List ByteArray} {tp : Nat → Nat} {rv : Nat → Option Addr × Nat}
/-- A cell's members by a function. -/
def clT (x : Cl) (k : Nat) : Int := [x.2.1, x.2.2.1, x.2.2.2.1, x.2.2.2.2].getD k 0
theorem clV_at (x : Cl) : clV x = cellV x.1 (clT x) := rfl
/-- A cell's number; -1: it can not be. -/
def ixC (ms : List ByteArray) (ds : List Dm) (x : Cl) : Int := if rightB ms ds x.1 (clT x) then numK (fun k => many ds k) (clT x) x.1 4 else -1
theorem sw_IndexC (h : SW w s p ds ms tp rv) (x : Cl) : Calls Tryz.prog 53 #[.pointer (some ⟨s, 0, none⟩), clV x] w fun e w' => e = .returned (.int .i64 (ixC ms ds x)) ∧ Kept w w' := by
  rw [clV_at]
  exact sw_Index h x.1 (clT x)
end
end Go.Proofs.YtmedgkccicbieaaGreat
namespace Go.Proofs.YtmedgkccicbieaaGreat
open Go.RowKit Go.Maps
set_option linter.unusedSimpArgs false
set_option linter.unusedVariables false

end Go.Proofs.YtmedgkccicbieaaGreat
namespace Go.Proofs.YtmedgkccicbieaaGreat
open Go.RowKit Go.Maps
set_option linter.unusedSimpArgs false
set_option linter.unusedVariables false

def cmpI (a b : Int) : Int := if a < b then -1 else if b < a then 1 else 0
section
variable {w : World} {s p : Nat} {ds : List Dm} {ms : List ByteArray} {tp : Nat → Nat} {rv : Nat → Option Addr × Nat}
end
end Go.Proofs.YtmedgkccicbieaaGreat
