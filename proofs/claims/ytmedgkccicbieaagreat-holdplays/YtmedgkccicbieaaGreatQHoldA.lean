/- Rows of cells: slices.Index, Contains, Clone, Equal of []api.Cell; hold: Has, List, Same, ask. · slices.Index, Contains, Clone, Equal of []api.Cell; hold: Has, List, Same, ask. · slices.Grow of nil, slices.Concat of []api.Cell. · hold: by index, where a cell belongs. -/
import Derived.Test.YtmedgkccicbieaaGreatQCoM1
import Derived.Laws.StructEq
import Derived.Laws.AppendOwnNone
import Derived.Deep.DeepAppendWide
import Derived.Lib.AppendZeros
import Derived.Test.YtmedgkccicbieaaGreatQRegJ
namespace Go.Proofs.YtmedgkccicbieaaGreat
open Go.RowKit Go.Maps
set_option linter.unusedSimpArgs false
set_option linter.unusedVariables false

/-- A cell: its measure, its four members. -/
abbrev Cl := Int × Int × Int × Int × Int
def clF (x : Cl) : List Value := [.int .i64 x.1, .int .i64 x.2.1, .int .i64 x.2.2.1, .int .i64 x.2.2.2.1, .int .i64 x.2.2.2.2]
def clV (x : Cl) : Value := .agg #[.int .i64 x.1, .int .i64 x.2.1, .int .i64 x.2.2.1, .int .i64 x.2.2.2.1, .int .i64 x.2.2.2.2]
def clA (l : List Cl) (i : Nat) : Cl := l.getD i (0, 0, 0, 0, 0)
theorem clA_get {l : List Cl} {i : Nat} (h : i < l.length) : clA l i = l[i] := by simp [clA, List.getD, h]
theorem cl_ext {l m : List Cl} (h : l.length = m.length) (g : ∀ j, j < l.length → clA l j = clA m j) : l = m := by
  apply List.ext_getElem h
  intro i h1 h2
  have := g i h1
  rwa [clA_get h1, clA_get h2] at this
def flatC (l : List Cl) : List Value := l.flatMap clF
theorem flatC_len (l : List Cl) : (flatC l).length = l.length * 5 := by
  induction l with
  | nil => rfl
  | cons x t ih =>
    have : (flatC (x :: t)).length = (clF x).length + (flatC t).length := by simp [flatC]
    rw [this, ih]
    show 5 + t.length * 5 = (t.length + 1) * 5
    omega
theorem flatC_app (l m : List Cl) : flatC (l ++ m) = flatC l ++ flatC m := by simp [flatC]
theorem flatC_one (l : List Cl) : ∀ u ∈ flatC l, u.oneCell' = true := by
  intro u hu
  obtain ⟨x, _, h⟩ := List.mem_flatMap.1 hu
  simp [clF] at h
  rcases h with rfl | rfl | rfl | rfl | rfl <;> rfl
theorem flatC_get : ∀ (l : List Cl) (i t : Nat), i < l.length → t < 5 → (flatC l)[i * 5 + t]? = (clF (clA l i))[t]? := by
  intro l
  induction l with
  | nil => intro i t hi; simp at hi
  | cons x r ih =>
    intro i t hi ht
    have e : flatC (x :: r) = clF x ++ flatC r := by simp [flatC]
    have hl : (clF x).length = 5 := rfl
    rw [e]
    cases i with
    | zero => rw [List.getElem?_append_left (by omega), Nat.zero_mul, Nat.zero_add]; rfl
    | succ i =>
      rw [List.getElem?_append_right (by omega), hl, show (i + 1) * 5 + t - 5 = i * 5 + t by omega, ih i t (by simpa using hi) ht]
      rfl
/-- A slice of cells in memory. -/
structure Cq (w : World) (a : Option Addr) (l : List Cl) : Prop where
  cells : 0 < l.length → ∃ b o, a = some ⟨b, o, none⟩ ∧ b < w.heap.size ∧ ∀ i, i < l.length → ∀ t, t < 5 → ∀ u, (clF (clA l i))[t]? = some u → w.cell? ⟨b, o + i * 5 + t, none⟩ = some u
theorem Cq.chg {S : Nat → Prop} {w w' : World} {a : Option Addr} {l : List Cl} (h : Cq w a l) (g : Chg S w w') (hb : 0 < l.length → ∀ ad, a = some ad → ¬ S ad.block) : Cq w' a l :=
  ⟨fun hp => by
    obtain ⟨c, o, h1, h2, h3⟩ := h.cells hp
    have hne : ¬ S c := hb hp ⟨c, o, none⟩ h1
    exact ⟨c, o, h1, Nat.lt_of_lt_of_le h2 g.size, fun i hi t ht u hu => g.cellp (h3 i hi t ht u hu) hne⟩⟩
theorem Cq.kept {w w' : World} {a : Option Addr} {l : List Cl} (h : Cq w a l) (g : Kept w w') : Cq w' a l := h.chg (S := fun _ => False) (Chg.of_kept g) (fun _ _ _ e => e)
theorem Cq.at {w : World} {b o : Nat} {l : List Cl} (h : Cq w (some ⟨b, o, none⟩) l) {i : Nat} (hi : i < l.length) : w.cell? ⟨b, o + i * 5, none⟩ = some (.int .i64 (clA l i).1) ∧ w.cell? ⟨b, o + i * 5 + 1, none⟩ = some (.int .i64 (clA l i).2.1) ∧ w.cell? ⟨b, o + i * 5 + 2, none⟩ = some (.int .i64 (clA l i).2.2.1) ∧ w.cell? ⟨b, o + i * 5 + 3, none⟩ = some (.int .i64 (clA l i).2.2.2.1) ∧ w.cell? ⟨b, o + i * 5 + 4, none⟩ = some (.int .i64 (clA l i).2.2.2.2) := by
  obtain ⟨b', o', e, _, h3⟩ := h.cells (by omega)
  cases e
  exact ⟨h3 i hi 0 (by omega) _ rfl, h3 i hi 1 (by omega) _ rfl, h3 i hi 2 (by omega) _ rfl, h3 i hi 3 (by omega) _ rfl, h3 i hi 4 (by omega) _ rfl⟩
theorem Cq.form {w : World} {a : Option Addr} {l : List Cl} (h : Cq w a l) (hp : 0 < l.length) : ∃ b o, a = some ⟨b, o, none⟩ := by
  obtain ⟨b, o, e, _⟩ := h.cells hp
  exact ⟨b, o, e⟩
/-- Cells in a row of a call's own, from block B on. -/
def OwnQ (w : World) (B : Nat) (v : Value) (l : List Cl) : Prop := w.ownsRow B 29 5 v l.length (flatC l)
theorem ownQ_nil (w : World) (B : Nat) : OwnQ w B (.slice none 0 0) [] := World.ownsRow_nil _ _ _ _
theorem OwnQ.form {w : World} {B : Nat} {v : Value} {l : List Cl} (h : OwnQ w B v l) : ∃ a c, v = .slice a l.length c ∧ Cq w a l ∧ (a = none → l = [] ∧ c = 0) := by
  obtain ⟨h0, ⟨h1, hz⟩ | ⟨g, cap, cur, h1, h2⟩⟩ := h
  · have hl : l = [] := List.length_eq_zero_iff.1 hz
    subst hl
    exact ⟨none, 0, h1, ⟨fun hp => absurd hp (by simp)⟩, fun _ => ⟨rfl, rfl⟩⟩
  · have ho : w.ownsRow B 29 5 v l.length (flatC l) := ⟨h0, .inr ⟨g, cap, cur, h1, h2⟩⟩
    refine ⟨_, _, h1, ⟨fun hp => ?_⟩, fun e => by cases e⟩
    subst h1
    obtain ⟨g', cap', e, _, hl⟩ := World.ownsRow.form ho hp
    cases e
    exact ⟨g, 0, rfl, hl, fun i hi t ht u hu => by rw [Nat.zero_add, World.ownsRow.cellAt ho (i * 5 + t) (by omega), flatC_get l i t hi ht]; exact hu⟩
theorem cl_eq (x y : Cl) : (x = y) ↔ x.1 = y.1 ∧ x.2.1 = y.2.1 ∧ x.2.2.1 = y.2.2.1 ∧ x.2.2.2.1 = y.2.2.2.1 ∧ x.2.2.2.2 = y.2.2.2.2 := by
  obtain ⟨a, b, c, d, e⟩ := x
  obtain ⟨a', b', c', d', e'⟩ := y
  simp only [Prod.mk.injEq]
theorem neqC (x y : Cl) (w : World) : (binOp .neq 29 (clV x) (clV y)).run Tryz.prog w = .ok (.bool (!decide (x = y))) w := by
  obtain ⟨x0, x1, x2, x3, x4⟩ := x
  obtain ⟨y0, y1, y2, y3, y4⟩ := y
  have u3 := Tryz.underlying3
  have a3 := Tryz.isAgg3
  have z3 := Tryz.sizeOf3
  have hS : Tryz.prog.underlying 29 = some (.struct (Tryz.prog.fieldsOf 29)) := by kernel_rfl
  have hp : Tryz.prog.stoodInHeld 29 = false := by kernel_rfl
  have qa := eq_arrG x1 x2 x3 x4 y1 y2 y3 y4
  have e9 : decide (((x0, x1, x2, x3, x4) : Cl) = (y0, y1, y2, y3, y4)) = (decide (x0 = y0) && decide (x1 = y1 ∧ x2 = y2 ∧ x3 = y3 ∧ x4 = y4)) := by
    rw [← Bool.decide_and, decide_eq_decide]
    simp only [Prod.mk.injEq]
  rw [e9]
  unfold clV
  rw [run_neq_struct, show (10000 : Nat) = 9999 + 1 from rfl, run_equalIn_agg w 9999 29 _ _ hS hp]
  simp only [Program.fieldsOf, Tryz.underlying29]
  generalize decide (x1 = y1 ∧ x2 = y2 ∧ x3 = y3 ∧ x4 = y4) = dd at *
  by_cases h0 : x0 = y0
  · subst h0
    cases dd <;> (go_simp; try simp)
  · have e0 : (x0 == y0) = false := by simpa using h0
    have e1 : decide (x0 = y0) = false := by simpa using h0
    rw [e1]
    clear e1 e9 h0
    go_simp
    try simp
theorem eqlC (x y : Cl) (w : World) : (binOp .eql 29 (clV x) (clV y)).run Tryz.prog w = .ok (.bool (decide (x = y))) w := by
  obtain ⟨x0, x1, x2, x3, x4⟩ := x
  obtain ⟨y0, y1, y2, y3, y4⟩ := y
  have u3 := Tryz.underlying3
  have a3 := Tryz.isAgg3
  have z3 := Tryz.sizeOf3
  have hS : Tryz.prog.underlying 29 = some (.struct (Tryz.prog.fieldsOf 29)) := by kernel_rfl
  have hp : Tryz.prog.stoodInHeld 29 = false := by kernel_rfl
  have qa := eq_arrG x1 x2 x3 x4 y1 y2 y3 y4
  have e9 : decide (((x0, x1, x2, x3, x4) : Cl) = (y0, y1, y2, y3, y4)) = (decide (x0 = y0) && decide (x1 = y1 ∧ x2 = y2 ∧ x3 = y3 ∧ x4 = y4)) := by
    rw [← Bool.decide_and, decide_eq_decide]
    simp only [Prod.mk.injEq]
  rw [e9]
  unfold clV
  rw [run_eql_struct, show (10000 : Nat) = 9999 + 1 from rfl, run_equalIn_agg w 9999 29 _ _ hS hp]
  simp only [Program.fieldsOf, Tryz.underlying29]
  generalize decide (x1 = y1 ∧ x2 = y2 ∧ x3 = y3 ∧ x4 = y4) = dd at *
  by_cases h0 : x0 = y0
  · subst h0
    cases dd <;> (go_simp; try simp)
  · have e0 : (x0 == y0) = false := by simpa using h0
    have e1 : decide (x0 = y0) = false := by simpa using h0
    rw [e1]
    clear e1 e9 h0
    go_simp
    try simp
end Go.Proofs.YtmedgkccicbieaaGreat
namespace Go.Proofs.YtmedgkccicbieaaGreat
open Go.RowKit Go.Maps
set_option linter.unusedSimpArgs false
set_option linter.unusedVariables false

/-- Where a cell stands; -1: nowhere. -/
def idxC (l : List Cl) (x : Cl) : Int := if x ∈ l then ((l.findIdx fun y => decide (y = x) : Nat) : Int) else -1
theorem idxC_at {l : List Cl} {x : Cl} {k : Nat} (hk : k < l.length) (he : clA l k = x) (hj : ∀ t, t < k → clA l t ≠ x) : idxC l x = k := by
  unfold idxC
  rw [clA_get hk] at he
  rw [if_pos (by rw [← he]; exact List.getElem_mem hk)]
  congr 1
  rw [List.findIdx_eq hk]
  refine ⟨by simpa using he, fun t ht => ?_⟩
  have := hj t ht
  rw [clA_get (by omega)] at this
  simpa using this
theorem idxC_no {l : List Cl} {x : Cl} (hj : ∀ t, t < l.length → clA l t ≠ x) : idxC l x = -1 := by
  unfold idxC
  rw [if_neg]
  intro h
  obtain ⟨t, ht, e⟩ := List.getElem_of_mem h
  exact hj t ht (by rw [clA_get ht]; exact e)
theorem idxC_mem {l : List Cl} {x : Cl} : 0 ≤ idxC l x ↔ x ∈ l := by
  unfold idxC
  by_cases h : x ∈ l
  · rw [if_pos h]; exact ⟨fun _ => h, fun _ => by omega⟩
  · rw [if_neg h]; exact ⟨fun e => absurd e (by omega), fun e => absurd e h⟩
theorem boxC_at (w : World) (x : Cl) (t : TypeId) {g : Nat} (hg : g = w.heap.size) (Y : World) (k : Kept (w.alloc (.cells #[.int .i64 x.1, .int .i64 x.2.1, .int .i64 x.2.2.1, .int .i64 x.2.2.2.1, .int .i64 x.2.2.2.2] t)) Y) : Y.cell? ⟨g, 0, none⟩ = some (.int .i64 x.1) ∧ Y.cell? ⟨g, 1, none⟩ = some (.int .i64 x.2.1) ∧ Y.cell? ⟨g, 2, none⟩ = some (.int .i64 x.2.2.1) ∧ Y.cell? ⟨g, 3, none⟩ = some (.int .i64 x.2.2.2.1) ∧ Y.cell? ⟨g, 4, none⟩ = some (.int .i64 x.2.2.2.2) :=
  ⟨k.cellp (new_cell _ _ _ _ 0 _ hg rfl), k.cellp (new_cell _ _ _ _ 1 _ hg rfl), k.cellp (new_cell _ _ _ _ 2 _ hg rfl), k.cellp (new_cell _ _ _ _ 3 _ hg rfl), k.cellp (new_cell _ _ _ _ 4 _ hg rfl)⟩
set_option maxHeartbeats 2000000 in
set_option maxRecDepth 100000 in
theorem slices_IndexC (a : Option Addr) (c : Nat) (l : List Cl) (x : Cl) (w : World) (hs : Cq w a l) (hl : l.length ≤ 100000) : Calls Tryz.prog 48 #[.slice a l.length c, clV x] w fun e w' => e = .returned (.int .i64 (idxC l x)) ∧ Kept w w' := by
  obtain ⟨cb, hcb⟩ : ∃ x, x = w.heap.size := ⟨_, rfl⟩
  obtain ⟨W1, hW1⟩ : ∃ V, V = w.alloc (.cells #[.int .i64 x.1, .int .i64 x.2.1, .int .i64 x.2.2.1, .int .i64 x.2.2.2.1, .int .i64 x.2.2.2.2] 29) := ⟨_, rfl⟩
  have k1 : Kept w W1 := by rw [hW1]; exact (Kept.refl w).alloc _
  have HK1 := hidMk k1
  have HB := hidMk (show ∀ Y, Kept W1 Y → _ from fun Y k => boxC_at w x 29 hcb Y (by rw [← hW1]; exact k))
  have HL := hidMk (hs.kept k1)
  obtain ⟨z, hz⟩ : ∃ z, idxC l x = z := ⟨_, rfl⟩
  rw [hz]
  have HZ := hidMk hz
  clear hs k1 hz
  unfold clV
  go_enter Tryz.func48, Tryz.ntmps48
  go_wp2_with fail
  rw [← hW1, ← hcb]
  clear hW1 hcb
  go_loopg [8] (l.length + 1) (fun g i wr => ∃ k : Nat, k + g = l.length + 1 ∧ k ≤ l.length ∧ i = .int .i64 k ∧ Hid (Kept W1 wr ∧ ∀ t, t < k → clA l t ≠ x))
  case atStart => exact ⟨0, by omega, by omega, rfl, hidMk ⟨Kept.refl _, fun t ht => absurd ht (by omega)⟩⟩
  case round =>
    obtain ⟨k, hkg, hkl, rfl, HS⟩ := hrel
    have HKG := hidMk hkg
    clear hkg
    by_cases hk : k < l.length
    · have hk' : (k : Int) < (l.length : Int) := by omega
      obtain ⟨b, o, rfl⟩ := HL.out.form (by omega)
      obtain ⟨e0, e1, e2, e3, e4⟩ := (HL.out.kept HS.out.1).at hk
      obtain ⟨x0, x1, x2, x3, x4⟩ := HB.out wr HS.out.1
      have hq := eqlC x (clA l k)
      unfold clV at hq
      by_cases he : clA l k = x
      · have HF := hidMk (show z = (k : Int) from by rw [← HZ.out]; exact idxC_at hk he HS.out.2)
        rw [show decide (x = clA l k) = true from decide_eq_true he.symm] at hq
        clear he
        generalize clA l k = y at *
        go_wp2_with fail
        go_quiet (fail)
        go_wp2_with fail
        go_ret
        exact ⟨by rw [HF.out]; rfl, HK1.out.trans (HS.out.1.drewN _)⟩
      · have HJ := hidMk (show ∀ t, t < k + 1 → clA l t ≠ x from fun t ht => by
          by_cases e : t = k
          · subst e; exact he
          · exact HS.out.2 t (by omega))
        rw [show decide (x = clA l k) = false from decide_eq_false (fun e => he e.symm)] at hq
        clear he
        have HK := hidMk HS.out.1
        clear HS
        generalize clA l k = y at *
        go_wp2_with fail
        go_quiet (fail)
        go_wp2_with fail
        go_roundg (gk - 1)
        case measure => have := HKG.out; omega
        case rel => exact ⟨k + 1, by have := HKG.out; omega, by omega, by go_num, hidMk ⟨HK.out.drewN _, HJ.out⟩⟩
    · have hke : k = l.length := by omega
      have HF := hidMk (show z = -1 from by rw [← HZ.out]; exact idxC_no (fun t ht => HS.out.2 t (by omega)))
      have hk' : ¬ ((k : Int) < (l.length : Int)) := by omega
      go_wp2_with fail
      go_ret
      exact ⟨by rw [HF.out]; rfl, HK1.out.trans HS.out.1⟩
set_option maxHeartbeats 1000000 in
theorem slices_ContainsC (a : Option Addr) (c : Nat) (l : List Cl) (x : Cl) (w : World) (hs : Cq w a l) (hl : l.length ≤ 100000) : Calls Tryz.prog 57 #[.slice a l.length c, clV x] w fun e w' => e = .returned (.bool (decide (x ∈ l))) ∧ Kept w w' := by
  obtain ⟨W1, hW1⟩ : ∃ V, V = w.alloc (.cells #[.int .i64 x.1, .int .i64 x.2.1, .int .i64 x.2.2.1, .int .i64 x.2.2.2.1, .int .i64 x.2.2.2.2] 29) := ⟨_, rfl⟩
  have k1 : Kept w W1 := by rw [hW1]; exact (Kept.refl w).alloc _
  have HK1 := hidMk k1
  obtain ⟨x0, x1, x2, x3, x4⟩ := boxC_at w x 29 rfl _ (Kept.refl _)
  have HI := hidMk (slices_IndexC a c l x W1 (hs.kept k1) hl)
  obtain ⟨z, hz⟩ : ∃ z, idxC l x = z := ⟨_, rfl⟩
  rw [hz] at HI
  have hd : decide (x ∈ l) = decide (0 ≤ z) := by rw [decide_eq_decide, ← hz]; exact idxC_mem.symm
  rw [hd]
  clear hs k1 hz hd
  unfold clV at *
  go_enter Tryz.func57, Tryz.ntmps57
  go_wp2_with fail
  rw [← hW1]
  clear hW1 x0 x1 x2 x3 x4
  refine HI.out.mono ?_
  rintro e w2 ⟨rfl, k2⟩
  have HK2 := hidMk k2
  clear k2
  by_cases h0 : 0 ≤ z
  · have h0' : decide (0 ≤ z) = true := decide_eq_true h0
    go_wp2_with fail
    go_ret
    exact ⟨by simp [h0], HK1.out.trans HK2.out⟩
  · have h0' : z < 0 := by omega
    go_wp2_with fail
    go_ret
    exact ⟨by simp [h0], HK1.out.trans HK2.out⟩
/-- What is held, in memory. -/
def hdV (a : Option Addr) (n c : Nat) : Value := .agg #[.slice a n c]
set_option maxHeartbeats 1000000 in
theorem hold_Has (a : Option Addr) (c : Nat) (l : List Cl) (x : Cl) (w : World) (hs : Cq w a l) (hl : l.length ≤ 100000) : Calls Tryz.prog 16 #[hdV a l.length c, clV x] w fun e w' => e = .returned (.bool (decide (x ∈ l))) ∧ Kept w w' := by
  obtain ⟨W1, hW1⟩ : ∃ V, V = (w.alloc (.cells #[.slice a l.length c] 37)).alloc (.cells #[.int .i64 x.1, .int .i64 x.2.1, .int .i64 x.2.2.1, .int .i64 x.2.2.2.1, .int .i64 x.2.2.2.2] 29) := ⟨_, rfl⟩
  have k1 : Kept w W1 := by rw [hW1]; exact ((Kept.refl w).alloc _).alloc _
  have HK1 := hidMk k1
  have hc := ((Kept.refl (w.alloc (.cells #[.slice a l.length c] 37))).alloc (.cells #[.int .i64 x.1, .int .i64 x.2.1, .int .i64 x.2.2.1, .int .i64 x.2.2.2.1, .int .i64 x.2.2.2.2] 29)).cellp (new_cell w #[.slice a l.length c] 37 _ 0 _ rfl rfl)
  obtain ⟨x0, x1, x2, x3, x4⟩ := boxC_at (w.alloc (.cells #[.slice a l.length c] 37)) x 29 rfl _ (Kept.refl _)
  rw [World.size_alloc] at x0 x1 x2 x3 x4
  have HI := hidMk (slices_ContainsC a c l x W1 (hs.kept k1) hl)
  generalize decide (x ∈ l) = z at *
  clear hs k1
  unfold clV hdV at *
  go_enter Tryz.func16, Tryz.ntmps16
  go_wp2_with fail
  rw [← hW1]
  clear hW1 x0 x1 x2 x3 x4 hc
  refine HI.out.mono ?_
  rintro e w2 ⟨rfl, k2⟩
  have HK2 := hidMk k2
  clear k2
  go_wp2_with fail
  go_ret
  exact ⟨rfl, HK1.out.trans HK2.out⟩
theorem cinfoQ : ∃ i0, Tryz.prog.info? 29 = some i0 ∧ i0.zero = some (.agg #[.int .i64 0, .int .i64 0, .int .i64 0, .int .i64 0, .int .i64 0]) ∧ i0.size = 5 ∧ i0.bytes = 40 := by
  have h : (Tryz.prog.info? 29).map (fun i => (i.zero, i.size, i.bytes)) = some (some (.agg #[.int .i64 0, .int .i64 0, .int .i64 0, .int .i64 0, .int .i64 0]), 5, 40) := by kernel_rfl
  exact info_parts h
theorem cq_news {w : World} {ad : Addr} {l : List Cl} (h : Cq w (some ad) l) : ∀ (j : Nat) u, (flatC l)[j]? = some u → w.cell? (ad.add j) = some u := by
  intro j u hj
  have hjn : j < l.length * 5 := by
    have := (List.getElem?_eq_some_iff.1 hj).1
    rw [flatC_len] at this
    exact this
  obtain ⟨bb, oo, e, _, hcs⟩ := h.cells (by omega)
  cases e
  have hd : j / 5 * 5 + j % 5 = j := by omega
  have h1 := hcs (j / 5) (by omega) (j % 5) (by omega) u (by rw [← flatC_get l (j / 5) (j % 5) (by omega) (by omega), hd]; exact hj)
  rw [Addr.add_lit]
  rw [Nat.add_assoc, hd] at h1
  exact h1
/-- All cells of a slice behind an own row. -/
theorem wpList_catC {ops : Array Oper} {rest : List Oper} {o : Oper} {a : Act} {Q : Exit → Act → World → Prop} (w : World) (hgd : o.guard = none) (s x : Operand)
    (ho : o.op = .call { callee := .builtin .append, args := #[s, x], argTypes := #[35, 35] })
    (B : Nat) (v : Value) (l t : List Cl) (hs : a.eval s = v) (hv : OwnQ w B v l) (hB : B ≤ w.heap.size) (b : Option Addr) (c : Nat) (hx : a.eval x = .slice b t.length c) (hR : Cq w b t) (hbn : b = none → t = [] ∧ c = 0)
    (h47 : l.length + t.length ≤ 200000)
    (h : ∀ v' w', OwnQ w' B v' (l ++ t) → Chg (fun k => v.ownBlock = some k) w w' → wpList Tryz.prog ops Q rest (a.put o.dst v') w') : wpList Tryz.prog ops Q (o :: rest) a w := by
  obtain ⟨i0, hi0, hz0, hz1, hz2⟩ := cinfoQ
  cases b with
  | none =>
    obtain ⟨rfl, rfl⟩ := hbn rfl
    refine wpList_append_own_none hgd s x 35 ho B 29 i0 5 Tryz.underlying35 hi0 v _ _ hs hv hx (h v w (by simpa using hv) (Chg.refl _ _))
  | some ad =>
    refine wpList_append_own_wide w hgd s x 35 ho B 29 i0 _ 5 40 Tryz.underlying35 hi0 hz0 hz1 hz2 rfl (by decide) v _ _ hs hv ad t.length c (flatC t) hx (flatC_len t) (cq_news hR) (flatC_one t) (by unfold maxLen; omega) (by omega) hB ?_
    intro v' w' h2 h3 _
    refine h v' w' ?_ ((Chg.refl _ w).grown h3 (fun k hk => .inl hk))
    unfold OwnQ
    rw [flatC_app, List.length_append]
    exact h2
theorem slices_CloneC (a : Option Addr) (c : Nat) (l : List Cl) (w : World) (hs : Cq w a l) (hn : a = none → l = [] ∧ c = 0) (hl : l.length ≤ 100000) :
    Calls Tryz.prog 56 #[.slice a l.length c] w fun e w' => ∃ v, e = .returned v ∧ OwnQ w' w.heap.size v l ∧ Kept w w' := by
  have q : ∀ (w : World) (a : Option Addr) (n c n' c' : Nat), (binOp .eql 35 (.slice a n c) (.slice none n' c')).run Tryz.prog w = .ok (.bool a.isNone) w := fun w a n c n' c' => Lib.run_eql_slice_nil w _ _ a n c n' c' Tryz.underlying35
  cases a with
  | none =>
    obtain ⟨rfl, rfl⟩ := hn rfl
    clear hs
    go_enter Tryz.func56, Tryz.ntmps56
    go_wp2
    go_ret
    exact ⟨_, rfl, ownQ_nil _ _, Kept.refl _⟩
  | some ad =>
    have H := hidMk hs
    clear hs hn
    go_enter Tryz.func56, Tryz.ntmps56
    go_wp2_with (at_builtin; refine wpList_catC _ (by rfl) _ _ (by rfl) w.heap.size (.slice (some ⟨w.heap.size, 0, none⟩) 0 0) [] l (by rfl) (World.ownsRow_made w #[] 0 (Nat.le_refl _) (Nat.zero_le _) (by simp)) (by simp) (some ad) c (by rfl) (H.out.kept ((Kept.refl w).alloc _)) (fun e => by cases e) (by simp; omega) ?_; intro v' w1 o4 k4; have H4 := hidMk o4; have K4 := hidMk (show Kept w w1 from Chg.kept ((Kept.refl w).alloc _) k4 (fun j hj => by simp [Value.ownBlock] at hj; omega)); clear o4 k4)
    go_wp2
    go_ret
    exact ⟨_, rfl, by simpa using H4.out, K4.out⟩
set_option maxHeartbeats 1000000 in
theorem hold_List (a : Option Addr) (c : Nat) (l : List Cl) (w : World) (hs : Cq w a l) (hn : a = none → l = [] ∧ c = 0) (hl : l.length ≤ 100000) : Calls Tryz.prog 15 #[hdV a l.length c] w fun e w' => ∃ v, e = .returned v ∧ OwnQ w' w.heap.size v l ∧ Kept w w' := by
  obtain ⟨W1, hW1⟩ : ∃ V, V = w.alloc (.cells #[.slice a l.length c] 37) := ⟨_, rfl⟩
  have k1 : Kept w W1 := by rw [hW1]; exact (Kept.refl w).alloc _
  have HK1 := hidMk k1
  have hc := new_cell w #[.slice a l.length c] 37 _ 0 _ rfl rfl
  have HI := hidMk (slices_CloneC a c l W1 (hs.kept k1) hn hl)
  clear hs k1 hn
  unfold hdV at *
  go_enter Tryz.func15, Tryz.ntmps15
  go_wp2_with fail
  rw [← hW1]
  clear hW1 hc
  refine HI.out.mono ?_
  rintro e w2 ⟨v, rfl, ho, k2⟩
  have HO := hidMk ho
  have HK2 := hidMk k2
  clear ho k2
  go_wp2_with fail
  go_ret
  exact ⟨_, rfl, ownsRow_base HO.out HK1.out.size, HK1.out.trans HK2.out⟩
set_option maxHeartbeats 2000000 in
set_option maxRecDepth 100000 in
theorem slices_EqualC (a b : Option Addr) (c d : Nat) (l m : List Cl) (w : World) (hl : Cq w a l) (hm : Cq w b m) (h5 : l.length ≤ 100000) :
    Calls Tryz.prog 66 #[.slice a l.length c, .slice b m.length d] w fun e w' => e = .returned (.bool (decide (l = m))) ∧ Kept w w' := by
  obtain ⟨r, hr⟩ : ∃ r, decide (l = m) = r := ⟨_, rfl⟩
  rw [hr]
  have HR := hidMk hr
  have HL := hidMk hl
  have HM := hidMk hm
  clear hr hl hm
  by_cases hlen : l.length = m.length
  · have hne : (((l.length : Int)) != (m.length : Int)) = false := by simp [hlen]
    go_enter Tryz.func66, Tryz.ntmps66
    have HLEN := hidMk hlen
    clear hlen
    go_wp2_with fail
    go_loopg [13] l.length (fun g x wr => ∃ (k q : Nat), k + g = l.length ∧ x = .int .i64 k ∧ wr = w.drewN q ∧ Hid (∀ j, j < k → clA l j = clA m j))
    case atStart => exact ⟨0, 0, by omega, rfl, rfl, hidMk fun j hj => absurd hj (by omega)⟩
    case round =>
      obtain ⟨k, q, hkg, rfl, hwr, HJ⟩ := hrel
      have HKG := hidMk hkg
      subst hwr
      by_cases hkn : k < l.length
      · obtain ⟨b1, o1, rfl⟩ := HL.out.form (by omega)
        obtain ⟨b2, o2, rfl⟩ := HM.out.form (by have := HLEN.out; omega)
        obtain ⟨e0, e1, e2, e3, e4⟩ := HL.out.at hkn
        obtain ⟨f0, f1, f2, f3, f4⟩ := HM.out.at (i := k) (by have := HLEN.out; omega)
        have hn2 : (k : Int) < (m.length : Int) := by have := HLEN.out; omega
        have hq := neqC (clA l k) (clA m k)
        unfold clV at hq
        clear hkg
        by_cases he : clA l k = clA m k
        · have HJ2 := hidMk (show ∀ j, j < k + 1 → clA l j = clA m j from fun j hj => by
            by_cases e : j = k
            · subst e; exact he
            · exact HJ.out j (by omega))
          rw [show decide (clA l k = clA m k) = true from decide_eq_true he] at hq
          clear he
          generalize clA l k = x at *
          generalize clA m k = y at *
          go_wp2_with fail
          go_quiet (fail)
          go_wp2_with fail
          go_roundg (gk - 1)
          case measure => have := HKG.out; omega
          case rel => exact ⟨k + 1, q + nq, by have := HKG.out; omega, by go_num, by first | rfl | simp, HJ2⟩
        · have HF := hidMk (show r = false by rw [← HR.out]; exact decide_eq_false fun e => he (by rw [e]))
          rw [show decide (clA l k = clA m k) = false from decide_eq_false he] at hq
          clear he
          generalize clA l k = x at *
          generalize clA m k = y at *
          go_wp2_with fail
          go_quiet (fail)
          go_wp2_with fail
          go_ret
          exact ⟨by rw [HF.out]; rfl, (((Kept.refl w).drewN q).drewN nq)⟩
      · have HF := hidMk (show r = true by rw [← HR.out]; exact decide_eq_true (cl_ext HLEN.out fun j hj => HJ.out j (by omega)))
        have hkk : ¬ ((k : Int) < (l.length : Int)) := by omega
        go_wp2_with fail
        go_ret
        exact ⟨by rw [HF.out]; rfl, ((Kept.refl w).drewN _)⟩
  · have HF := hidMk (show r = false by rw [← HR.out]; exact decide_eq_false fun e => hlen (by rw [e]))
    have hne : (((l.length : Int)) != (m.length : Int)) = true := by simp; omega
    clear hlen
    go_enter Tryz.func66, Tryz.ntmps66
    go_wp2_with fail
    go_ret
    exact ⟨by rw [HF.out]; rfl, Kept.refl _⟩
section
variable {w : World} {s p : Nat} {ds : List Dm} {ms : List ByteArray} {tp : Nat → Nat} {rv : Nat → Option Addr × Nat}
/-- A cell's members by a function. -/
def clT (x : Cl) (k : Nat) : Int := [x.2.1, x.2.2.1, x.2.2.2.1, x.2.2.2.2].getD k 0
theorem clV_at (x : Cl) : clV x = cellV x.1 (clT x) := rfl
/-- A cell's number; -1: it can not be. -/
def ixC (ms : List ByteArray) (ds : List Dm) (x : Cl) : Int := if rightB ms ds x.1 (clT x) then numK (fun k => many ds k) (clT x) x.1 4 else -1
theorem sw_IndexC (h : SW w s p ds ms tp rv) (x : Cl) : Calls Tryz.prog 53 #[.pointer (some ⟨s, 0, none⟩), clV x] w fun e w' => e = .returned (.int .i64 (ixC ms ds x)) ∧ Kept w w' := by
  rw [clV_at]
  exact sw_Index h x.1 (clT x)
set_option maxHeartbeats 1000000 in
theorem sw_ask (h : SW w s p ds ms tp rv) (x : Cl) : Calls Tryz.prog 47 #[.pointer (some ⟨s, 0, none⟩), clV x] w fun e w' => e = .returned (.int .i64 (if ixC ms ds x < 0 then 17 else 0)) ∧ Kept w w' := by
  obtain ⟨W1, hW1⟩ : ∃ V, V = w.alloc (.cells #[.int .i64 x.1, .int .i64 x.2.1, .int .i64 x.2.2.1, .int .i64 x.2.2.2.1, .int .i64 x.2.2.2.2] 29) := ⟨_, rfl⟩
  have k1 : Kept w W1 := by rw [hW1]; exact (Kept.refl w).alloc _
  have HK1 := hidMk k1
  obtain ⟨x0, x1, x2, x3, x4⟩ := boxC_at w x 29 rfl _ (Kept.refl _)
  have HI := hidMk (sw_IndexC (h.keep k1) x)
  generalize ixC ms ds x = z at *
  clear h k1
  unfold clV at *
  by_cases hz : z < 0
  · simp only [if_pos hz]
    go_enter Tryz.func47, Tryz.ntmps47
    go_wp2_with fail
    rw [← hW1]
    clear hW1 x0 x1 x2 x3 x4
    refine HI.out.mono ?_
    rintro e w2 ⟨rfl, k2⟩
    have HK2 := hidMk k2
    clear k2
    go_wp2_with fail
    go_ret
    exact ⟨rfl, HK1.out.trans HK2.out⟩
  · simp only [if_neg hz]
    go_enter Tryz.func47, Tryz.ntmps47
    go_wp2_with fail
    rw [← hW1]
    clear hW1 x0 x1 x2 x3 x4
    refine HI.out.mono ?_
    rintro e w2 ⟨rfl, k2⟩
    have HK2 := hidMk k2
    clear k2
    go_wp2_with fail
    go_ret
    exact ⟨rfl, HK1.out.trans HK2.out⟩
end
end Go.Proofs.YtmedgkccicbieaaGreat
namespace Go.Proofs.YtmedgkccicbieaaGreat
open Go.RowKit Go.Maps
set_option linter.unusedSimpArgs false
set_option linter.unusedVariables false

theorem ownQ_room (w : World) (cs : Array Value) (G B : Nat) (hB : B ≤ w.heap.size) (hG : G ≤ maxLen) (hc : cs.size = G * 5) : OwnQ (w.alloc (.cells cs 29)) B (.slice (some ⟨w.heap.size, 0, none⟩) 0 G) [] := World.ownsRow_made w cs G hB hG hc
set_option maxHeartbeats 2000000 in
set_option maxRecDepth 100000 in
theorem slices_GrowC (n : Nat) (hn : n ≤ 200000) (w : World) : Calls Tryz.prog 98 #[.slice none 0 0, .int .i64 n] w fun e w' => ∃ v, e = .returned v ∧ OwnQ w' w.heap.size v [] ∧ Kept w w' := by
  have h1 : ¬ ((n : Int) < 0) := by omega
  have h2 : wrap64 ((0 : Int) - 0) = 0 := by unfold wrap64; omega
  have h3 : wrap64 ((n : Int) - 0) = n := by unfold wrap64; omega
  by_cases h0 : n = 0
  · subst h0
    go_enter Tryz.func98, Tryz.ntmps98
    go_wp2_with fail
    go_ret
    exact ⟨_, rfl, ownQ_nil _ _, Kept.refl _⟩
  · have h4 : (n : Int) > 0 := by omega
    obtain ⟨i0, hi0, hz0, hz1, hz2⟩ := cinfoQ
    obtain ⟨G, hG⟩ : ∃ G, G = grownCap w n 0 29 := ⟨_, rfl⟩
    have hGn : n ≤ G := by rw [hG]; exact grownCap_ge w _ _ _
    have hG63 : G ≤ maxLen := by rw [hG]; exact grownCap_le_maxLen w n 0 _ (by unfold maxLen; omega)
    have hr : ∀ ty, _ := fun ty => Lib.run_append_nil_zeros (P := Tryz.prog) w 35 3 ty 29 i0 _ .i64 .i64 Tryz.underlying35 Tryz.underlying3 hi0 hz0 n (by omega) (by omega) (by omega) (by rw [hz2]; omega)
    rw [← hG] at hr
    obtain ⟨cs, hcs⟩ : ∃ cs, cs = Builtin.zeroCells (Value.agg #[.int .i64 0, .int .i64 0, .int .i64 0, .int .i64 0, .int .i64 0]).cells n ++ Builtin.zeroCells (Value.agg #[.int .i64 0, .int .i64 0, .int .i64 0, .int .i64 0, .int .i64 0]).cells (G - n) := ⟨_, rfl⟩
    have hsz : cs.size = G * 5 := by
      rw [hcs, Array.size_append, size_zeroCells, size_zeroCells]
      show n * 5 + (G - n) * 5 = G * 5
      omega
    rw [← hcs] at hr
    have HO := hidMk (show OwnQ (w.drew.alloc (.cells cs 29)) w.heap.size (.slice (some ⟨w.heap.size, 0, none⟩) 0 G) [] from ownQ_room w.drew cs G w.heap.size (Nat.le_refl _) hG63 hsz)
    have hG' : (G : Int) ≤ 9223372036854775807 := by unfold maxLen at hG63; omega
    clear hcs hG hi0 hz0 hz1 hz2 hG63 hsz
    go_enter Tryz.func98, Tryz.ntmps98
    go_wp2_with (at_builtin; refine Lib.wpList_append_run _ rfl _ _ _ _ rfl _ _ rfl rfl _ _ (hr _) ?_)
    all_goals (go_ret; exact ⟨_, rfl, HO.out, ((Kept.refl w).drew).alloc _⟩)
/-- Some lists of cells, one behind the other. -/
def catN (pl : Nat → List Cl) (k : Nat) : List Cl := (List.range k).flatMap pl
theorem catN_succ (pl : Nat → List Cl) (k : Nat) : catN pl (k + 1) = catN pl k ++ pl k := by simp [catN, List.range_succ]
theorem catN_le {pl : Nat → List Cl} {K : Nat} (h : ∀ i, i < K → (pl i).length ≤ 1000) : ∀ k, k ≤ K → (catN pl k).length ≤ k * 1000 := by
  intro k
  induction k with
  | zero => intro _; simp [catN]
  | succ k ih =>
    intro hk
    have h1 := ih (by omega)
    have h2 := h k (by omega)
    rw [catN_succ, List.length_append]
    omega
set_option maxHeartbeats 4000000 in
set_option maxRecDepth 100000 in
theorem slices_ConcatC (pb K kc : Nat) (pa : Nat → Option Addr) (pc : Nat → Nat) (pl : Nat → List Cl) (w : World) (hK : K ≤ 10) (h : ∀ i, i < K → w.cell? ⟨pb, i, none⟩ = some (.slice (pa i) (pl i).length (pc i)) ∧ Cq w (pa i) (pl i) ∧ (pa i = none → pl i = [] ∧ pc i = 0) ∧ (pl i).length ≤ 1000) : Calls Tryz.prog 49 #[.slice (some ⟨pb, 0, none⟩) K kc] w fun e w' => ∃ v, e = .returned v ∧ OwnQ w' w.heap.size v (catN pl K) ∧ Kept w w' := by
  have HLE := hidMk (catN_le (pl := pl) (K := K) (fun i hi => (h i hi).2.2.2))
  have HH := hidMk h
  obtain ⟨sz, hsz⟩ : ∃ sz : Nat → Nat, ∀ k, sz k = (catN pl k).length := ⟨fun k => (catN pl k).length, fun _ => rfl⟩
  have HZ := hidMk hsz
  clear h hsz
  go_enter Tryz.func49, Tryz.ntmps49
  go_wp2_with fail
  go_loopg [3, 11] (K + 1) (fun g sv x wr => ∃ k : Nat, k + g = K + 1 ∧ k ≤ K ∧ x = .int .i64 k ∧ sv = .int .i64 (sz k) ∧ w = wr)
  case atStart => exact ⟨0, by omega, by omega, rfl, by rw [HZ.out]; rfl, rfl⟩
  case round =>
    obtain ⟨k, hkg, hkK, rfl, rfl, hwr⟩ := hrel
    subst hwr
    have HG := hidMk hkg
    clear hkg
    by_cases hk : k < K
    · have hk' : (k : Int) < (K : Int) := by omega
      obtain ⟨c0, _, _, h5⟩ := HH.out k hk
      have h6 := HLE.out k (by omega)
      have hw : wrap64 ((sz k : Int) + ((pl k).length : Int)) = (sz (k + 1) : Int) := by rw [HZ.out, HZ.out, catN_succ, List.length_append]; unfold wrap64; omega
      have hneg : ¬ ((sz (k + 1) : Int) < 0) := by omega
      go_wp2_with fail
      go_roundg (gk - 1)
      case measure => have := HG.out; omega
      case rel => exact ⟨k + 1, by have := HG.out; omega, by omega, by go_num, rfl, rfl⟩
    · have hke : k = K := by omega
      subst hke
      have hk' : ¬ ((k : Int) < (k : Int)) := by omega
      have h6 := HLE.out k (by omega)
      have HGR := hidMk (slices_GrowC (sz k) (by rw [HZ.out]; omega) w)
      go_wp2_with fail
      refine HGR.out.mono ?_
      rintro e w2 ⟨v2, rfl, ho2, k2⟩
      have HO2 := hidMk ho2
      have HK2 := hidMk k2
      clear ho2 k2 HGR hk'
      go_wp2_with fail
      go_loopg [6, 27] (k + 1) (fun g sv x wr => ∃ j : Nat, j + g = k + 1 ∧ j ≤ k ∧ x = .int .i64 j ∧ Hid (OwnQ wr w.heap.size sv (catN pl j) ∧ Kept w wr))
      case atStart => exact ⟨0, by omega, by omega, rfl, hidMk ⟨HO2.out, HK2.out⟩⟩
      case round =>
        obtain ⟨j, hjg, hjk, rfl, HS⟩ := hrel
        have HJG := hidMk hjg
        clear hjg
        obtain ⟨sa, sc, hsv, _, _⟩ := HS.out.1.form
        subst hsv
        by_cases hj : j < k
        · have hj' : (j : Int) < (k : Int) := by omega
          obtain ⟨c0, c1, c2, h5⟩ := HH.out j hj
          have c0' := HS.out.2.cellp c0
          have HC1 := hidMk c1
          have HC2 := hidMk c2
          have h7 := HLE.out j (by omega)
          have HSZ := hidMk HS.out.2.size
          clear c0 c1 c2
          obtain ⟨P, hP⟩ : ∃ P, P = pl j := ⟨_, rfl⟩
          have HP := hidMk hP
          rw [← hP] at c0' HC1 HC2 h5
          clear hP
          go_wp2_with (at_builtin; refine wpList_catC _ (by rfl) _ _ (by rfl) w.heap.size (.slice sa (catN pl j).length sc) (catN pl j) P (by rfl) HS.out.1 HSZ.out (pa j) (pc j) (by rfl) (HC1.out.kept HS.out.2) HC2.out (by omega) ?_; intro v6 w6 o6 k6; have H6 := hidMk o6; have C6 := hidMk (show Kept w w6 from Chg.kept HS.out.2 k6 (fun z hz => (World.ownsRow.lt HS.out.1 z hz).1)); clear o6 k6)
          go_roundg (gk - 1)
          case measure => have := HJG.out; omega
          case rel => exact ⟨j + 1, by have := HJG.out; omega, by omega, by go_num, hidMk ⟨by rw [catN_succ, ← HP.out]; exact H6.out, C6.out⟩⟩
        · have hje : j = k := by omega
          subst hje
          have hj' : ¬ ((j : Int) < (j : Int)) := by omega
          go_wp2_with fail
          go_ret
          exact ⟨_, rfl, HS.out.1, HS.out.2⟩
end Go.Proofs.YtmedgkccicbieaaGreat
namespace Go.Proofs.YtmedgkccicbieaaGreat
open Go.RowKit Go.Maps
set_option linter.unusedSimpArgs false
set_option linter.unusedVariables false

def cmpI (a b : Int) : Int := if a < b then -1 else if b < a then 1 else 0
section
variable {w : World} {s p : Nat} {ds : List Dm} {ms : List ByteArray} {tp : Nat → Nat} {rv : Nat → Option Addr × Nat}
set_option maxHeartbeats 4000000 in
set_option maxRecDepth 100000 in
theorem hold_cmp (h : SW w s p ds ms tp rv) (x y : Cl) (sb : Nat) (hsb : w.cell? ⟨sb, 0, none⟩ = some (.pointer (some ⟨s, 0, none⟩))) : Calls Tryz.prog 51 #[clV x, clV y, .pointer (some ⟨sb, 0, none⟩)] w fun e w' => e = .returned (.int .i64 (cmpI (ixC ms ds x) (ixC ms ds y))) ∧ Kept w w' := by
  obtain ⟨xb, hxb⟩ : ∃ z, z = w.heap.size := ⟨_, rfl⟩
  obtain ⟨yb, hyb⟩ : ∃ z, z = w.heap.size + 1 := ⟨_, rfl⟩
  obtain ⟨WA, hWA⟩ : ∃ V, V = w.alloc (.cells #[.int .i64 x.1, .int .i64 x.2.1, .int .i64 x.2.2.1, .int .i64 x.2.2.2.1, .int .i64 x.2.2.2.2] 29) := ⟨_, rfl⟩
  obtain ⟨W1, hW1⟩ : ∃ V, V = WA.alloc (.cells #[.int .i64 y.1, .int .i64 y.2.1, .int .i64 y.2.2.1, .int .i64 y.2.2.2.1, .int .i64 y.2.2.2.2] 29) := ⟨_, rfl⟩
  have kA : Kept w WA := by rw [hWA]; exact (Kept.refl w).alloc _
  have kA1 : Kept WA W1 := by rw [hW1]; exact (Kept.refl WA).alloc _
  have k1 := kA.trans kA1
  have HK1 := hidMk k1
  have HX := hidMk (show ∀ Y, Kept W1 Y → _ from fun Y k => boxC_at w x 29 hxb Y (by rw [← hWA]; exact kA1.trans k))
  have hyb' : yb = WA.heap.size := by rw [hWA, World.size_alloc]; exact hyb
  have HY := hidMk (show ∀ Y, Kept W1 Y → _ from fun Y k => boxC_at WA y 29 hyb' Y (by rw [← hW1]; exact k))
  have HSB := hidMk (show ∀ Y, Kept W1 Y → Y.cell? ⟨sb, 0, none⟩ = some (.pointer (some ⟨s, 0, none⟩)) from fun Y k => (k1.trans k).cellp hsb)
  have HIX := hidMk (show ∀ Y, Kept W1 Y → _ from fun Y k => sw_IndexC (h.keep (k1.trans k)) x)
  have HIY := hidMk (show ∀ Y, Kept W1 Y → _ from fun Y k => sw_IndexC (h.keep (k1.trans k)) y)
  generalize ixC ms ds x = ix at *
  generalize ixC ms ds y = iy at *
  have HCM := hidMk (cmp_Compare ix iy)
  rw [hWA] at hW1
  unfold clV at *
  unfold cmpI
  clear h k1 kA kA1 hWA hyb' hsb
  obtain ⟨z, hz⟩ : ∃ z : Int, z = if ix < iy then -1 else if iy < ix then 1 else 0 := ⟨_, rfl⟩
  rw [← hz] at HCM ⊢
  clear hz
  go_enter Tryz.func51, Tryz.ntmps51
  go_upto_region 1 with fail
  rw [← hW1, ← hyb, ← hxb]
  clear hW1 hyb hxb
  refine wp_region_held_drew (S := (fun w' => Kept W1 w')) (by kernel_rfl) ?_ (fun hHeld => ?_)
  · exact (Kept.refl W1).drew
  refine wpAnyH_take (i := 0) (oi := { dst := some 6, op := _, type := _, pos := _, after := _, guard := _ }) (v := ?_) rfl (by kernel_rfl) (by kernel_rfl) (by kernel_rfl) (fun _ _ _ h => h) (Or.inl ⟨by rfl, ?_⟩) (by assumption) ?_
  rotate_left
  · (intro w9 hSw; have c0 := HSB.out w9 hSw; clear hSw; go_simp; (try with_reducible rfl))
  (try simp only [Act.put, List.setIfInBounds_toArray, List.set_cons_zero, List.set_cons_succ])
  refine wpAnyH_take (i := 1) (oi := { dst := some 7, op := _, type := _, pos := _, after := _, guard := _ }) (v := ?_) rfl (by kernel_rfl) (by kernel_rfl) (by kernel_rfl) (fun _ _ _ h => h) (Or.inl ⟨by rfl, ?_⟩) (by assumption) ?_
  rotate_left
  · (intro w9 hSw; obtain ⟨b0, b1, b2, b3, b4⟩ := HX.out w9 hSw; clear hSw; go_simp; (try with_reducible rfl))
  (try simp only [Act.put, List.setIfInBounds_toArray, List.set_cons_zero, List.set_cons_succ])
  refine wpAnyH_take (i := 3) (oi := { dst := some 9, op := _, type := _, pos := _, after := _, guard := _ }) (v := ?_) rfl (by kernel_rfl) (by kernel_rfl) (by kernel_rfl) (fun _ _ _ h => h) (Or.inl ⟨by rfl, ?_⟩) (by assumption) ?_
  rotate_left
  · (intro w9 hSw; have c0 := HSB.out w9 hSw; clear hSw; go_simp; (try with_reducible rfl))
  (try simp only [Act.put, List.setIfInBounds_toArray, List.set_cons_zero, List.set_cons_succ])
  refine wpAnyH_take (i := 4) (oi := { dst := some 10, op := _, type := _, pos := _, after := _, guard := _ }) (v := ?_) rfl (by kernel_rfl) (by kernel_rfl) (by kernel_rfl) (fun _ _ _ h => h) (Or.inl ⟨by rfl, ?_⟩) (by assumption) ?_
  rotate_left
  · (intro w9 hSw; obtain ⟨b0, b1, b2, b3, b4⟩ := HY.out w9 hSw; clear hSw; go_simp; (try with_reducible rfl))
  (try simp only [Act.put, List.setIfInBounds_toArray, List.set_cons_zero, List.set_cons_succ])
  refine wpAnyH_ready (rs := [2]) (by kernel_rfl) (by simp) ?_
  refine AllReadyH.cons (o := { dst := some 8, op := _, type := _, pos := _, after := _, guard := _ }) rfl (fun K hK => ?_) AllReadyH.nil
  go_simp
  refine (HIX.out _ hHeld).mono ?_
  rintro e wA ⟨rfl, kA⟩
  have HAA := hidMk (hHeld.trans kA)
  clear kA
  (try go_wp2_with fail)
  refine hK.out _ _ ?_ (fun hHeld => ?_)
  · exact HAA.out
  clear hK K
  (try simp only [Act.put, List.setIfInBounds_toArray, List.set_cons_zero, List.set_cons_succ])
  refine wpAnyH_ready (rs := [5]) (by kernel_rfl) (by simp) ?_
  refine AllReadyH.cons (o := { dst := some 11, op := _, type := _, pos := _, after := _, guard := _ }) rfl (fun K hK => ?_) AllReadyH.nil
  go_simp
  refine (HIY.out _ hHeld).mono ?_
  rintro e wA ⟨rfl, kA⟩
  have HAA := hidMk (hHeld.trans kA)
  clear kA
  (try go_wp2_with fail)
  refine hK.out _ _ ?_ (fun hHeld => ?_)
  · exact HAA.out
  clear hK K
  (try simp only [Act.put, List.setIfInBounds_toArray, List.set_cons_zero, List.set_cons_succ])
  refine wpAnyH_ready (rs := [6]) (by kernel_rfl) (by simp) ?_
  refine AllReadyH.cons (o := { dst := some 12, op := _, type := _, pos := _, after := _, guard := _ }) rfl (fun K hK => ?_) AllReadyH.nil
  go_simp
  refine (HCM.out _).mono ?_
  rintro e wA ⟨rfl, hA⟩
  have HAA := hidMk (show Kept W1 wA from by rw [hA]; exact hHeld)
  clear hA
  (try go_wp2_with fail)
  refine hK.out _ _ ?_ (fun hHeld => ?_)
  · exact HAA.out
  clear hK K
  (try simp only [Act.put, List.setIfInBounds_toArray, List.set_cons_zero, List.set_cons_succ])
  refine wpAnyH_take (i := 7) (oi := { dst := some 5, op := _, type := _, pos := _, after := _, guard := _ }) (v := ?_) rfl (by kernel_rfl) (by kernel_rfl) (by kernel_rfl) (fun _ _ _ h => h) (Or.inl ⟨by rfl, ?_⟩) (by assumption) ?_
  rotate_left
  · (intro w9 hSw; clear hSw; go_simp; (try with_reducible rfl))
  (try simp only [Act.put, List.setIfInBounds_toArray, List.set_cons_zero, List.set_cons_succ])
  refine wpAnyH_done (by kernel_rfl) ?_ _
  have HKF := hidMk hHeld
  clear hHeld
  go_wp2_with fail
  go_ret
  exact ⟨rfl, HK1.out.trans HKF.out⟩
end
/-- Where a cell belongs among cells in rising order. -/
def BinP (w : World) (f : Cl → Int) (l : List Cl) (x : Cl) (e : Ending) (w' : World) : Prop := ∃ (i : Nat) (b : Bool), e = .returned (.tuple #[.int .i64 i, .bool b]) ∧ i ≤ l.length ∧ (∀ k, k < i → f (clA l k) < f x) ∧ (∀ k, i ≤ k → k < l.length → f x ≤ f (clA l k)) ∧ Kept w w'
set_option maxHeartbeats 4000000 in
set_option maxRecDepth 100000 in
theorem slices_BinC (a : Option Addr) (c : Nat) (l : List Cl) (x : Cl) (f : Cl → Int) (sb : Nat) (w : World) (hs : Cq w a l) (hl : l.length ≤ 1000) (hr : ∀ i j, i < j → j < l.length → f (clA l i) < f (clA l j))
    (hf : ∀ Y, Kept w Y → ∀ x y, Calls Tryz.prog 51 #[clV x, clV y, .pointer (some ⟨sb, 0, none⟩)] Y fun e w' => e = .returned (.int .i64 (cmpI (f x) (f y))) ∧ Kept Y w') :
    Calls Tryz.prog 54 #[.slice a l.length c, clV x, .func (.func 51) #[] #[.pointer (some ⟨sb, 0, none⟩)]] w (BinP w f l x) := by
  obtain ⟨xb, hxb⟩ : ∃ z, z = w.heap.size := ⟨_, rfl⟩
  obtain ⟨W1, hW1⟩ : ∃ V, V = w.alloc (.cells #[.int .i64 x.1, .int .i64 x.2.1, .int .i64 x.2.2.1, .int .i64 x.2.2.2.1, .int .i64 x.2.2.2.2] 29) := ⟨_, rfl⟩
  have k1 : Kept w W1 := by rw [hW1]; exact (Kept.refl w).alloc _
  have HK1 := hidMk k1
  have HX := hidMk (show ∀ Y, Kept W1 Y → _ from fun Y k => boxC_at w x 29 hxb Y (by rw [← hW1]; exact k))
  have HL := hidMk (hs.kept k1)
  have HF := hidMk (show ∀ Y, Kept W1 Y → ∀ y, _ from fun Y k y => hf Y (k1.trans k) y x)
  have HR := hidMk hr
  clear hs k1 hr hf
  unfold clV at *
  go_enter Tryz.func54, Tryz.ntmps54
  go_wp2_with fail
  rw [← hW1, ← hxb]
  clear hW1 hxb
  go_loopg [9, 10] l.length (fun g p q wr => ∃ (i j : Nat), i ≤ j ∧ j - i = g ∧ j ≤ l.length ∧ p = .int .i64 i ∧ q = .int .i64 j ∧ Hid (Kept W1 wr ∧ (∀ k, k < i → f (clA l k) < f x) ∧ ∀ k, j ≤ k → k < l.length → f x ≤ f (clA l k)))
  case atStart => exact ⟨0, l.length, by omega, by omega, by omega, rfl, rfl, hidMk ⟨Kept.refl _, fun k hk => absurd hk (by omega), fun k h1 h2 => absurd h1 (by omega)⟩⟩
  case round =>
    obtain ⟨i, j, hij, hg, hjl, rfl, rfl, HJ⟩ := hrel
    have HG := hidMk hg
    clear hg
    by_cases hlt : i < j
    · have hlt' : (i : Int) < (j : Int) := by omega
      obtain ⟨h, hh⟩ : ∃ h : Nat, (i + j) / 2 = h := ⟨_, rfl⟩
      have hh1 : i ≤ h := by omega
      have hh2 : h < j := by omega
      have hhl : h < l.length := by omega
      have hhl' : (h : Int) < (l.length : Int) := by omega
      obtain ⟨bb, o, rfl⟩ := HL.out.form (by omega)
      have HCE := hidMk (show ∀ Y, Kept wr Y → _ from fun Y k => (HL.out.kept (HJ.out.1.trans k)).at hhl)
      have HXX := hidMk (show ∀ Y, Kept wr Y → _ from fun Y k => HX.out Y (HJ.out.1.trans k))
      have HFF := hidMk (show ∀ Y, Kept wr Y → _ from fun Y k => HF.out Y (HJ.out.1.trans k) (clA l h))
      have hw1 : IntKind.i64.wrap ((i : Int) + (j : Int)) = (i : Int) + (j : Int) := by rw [IntKind.wrap_i64]; omega
      have hH2 : ((i : Int) + (j : Int)) / 2 = (h : Int) := by omega
      have HC := hidMk (show cmpI (f (clA l h)) (f x) < 0 ↔ f (clA l h) < f x from by
        unfold cmpI
        by_cases e : f (clA l h) < f x
        · rw [if_pos e]; exact ⟨fun _ => e, fun _ => by omega⟩
        · rw [if_neg e]; refine ⟨fun h9 => ?_, fun h9 => absurd h9 e⟩; split at h9 <;> omega)
      obtain ⟨y, hy⟩ : ∃ y, y = clA l h := ⟨_, rfl⟩
      have HY := hidMk hy
      rw [← hy] at HCE HFF HC
      clear hy
      obtain ⟨z, hz⟩ : ∃ z, z = cmpI (f y) (f x) := ⟨_, rfl⟩
      rw [← hz] at HFF HC
      clear hz
      have HH := hidMk hh
      clear hh
      go_upto_region 5 with fail
      refine wp_region_held_drew (S := (fun w' => Kept wr w')) (by kernel_rfl) ?_ (fun hHeld => ?_)
      · exact (Kept.refl wr).drew
      refine wpAnyH_take (i := 0) (oi := { dst := some 24, op := _, type := _, pos := _, after := _, guard := _ }) (v := ?_) rfl (by kernel_rfl) (by kernel_rfl) (by kernel_rfl) (fun _ _ _ h => h) (Or.inl ⟨by rfl, ?_⟩) (by assumption) ?_
      rotate_left
      · (intro w9 hSw; clear hSw; go_simp; (try with_reducible rfl))
      (try simp only [Act.put, List.setIfInBounds_toArray, List.set_cons_zero, List.set_cons_succ])
      refine wpAnyH_take (i := 1) (oi := { dst := some 25, op := _, type := _, pos := _, after := _, guard := _ }) (v := ?_) rfl (by kernel_rfl) (by kernel_rfl) (by kernel_rfl) (fun _ _ _ h => h) (Or.inl ⟨by rfl, ?_⟩) (by assumption) ?_
      rotate_left
      · (intro w9 hSw; clear hSw; go_simp; (try with_reducible rfl))
      (try simp only [Act.put, List.setIfInBounds_toArray, List.set_cons_zero, List.set_cons_succ])
      refine wpAnyH_take (i := 2) (oi := { dst := some 26, op := _, type := _, pos := _, after := _, guard := _ }) (v := ?_) rfl (by kernel_rfl) (by kernel_rfl) (by kernel_rfl) (fun _ _ _ h => h) (Or.inl ⟨by rfl, ?_⟩) (by assumption) ?_
      rotate_left
      · (intro w9 hSw; clear hSw; go_simp; (try with_reducible rfl))
      (try simp only [Act.put, List.setIfInBounds_toArray, List.set_cons_zero, List.set_cons_succ])
      refine wpAnyH_take (i := 3) (oi := { dst := some 27, op := _, type := _, pos := _, after := _, guard := _ }) (v := ?_) rfl (by kernel_rfl) (by kernel_rfl) (by kernel_rfl) (fun _ _ _ h => h) (Or.inl ⟨by rfl, ?_⟩) (by assumption) ?_
      rotate_left
      · (intro w9 hSw; clear hSw; go_simp; (try with_reducible rfl))
      (try simp only [Act.put, List.setIfInBounds_toArray, List.set_cons_zero, List.set_cons_succ])
      refine wpAnyH_take (i := 4) (oi := { dst := some 28, op := _, type := _, pos := _, after := _, guard := _ }) (v := ?_) rfl (by kernel_rfl) (by kernel_rfl) (by kernel_rfl) (fun _ _ _ h => h) (Or.inl ⟨by rfl, ?_⟩) (by assumption) ?_
      rotate_left
      · (intro w9 hSw; obtain ⟨b0, b1, b2, b3, b4⟩ := HCE.out w9 hSw; clear hSw; go_simp; (try with_reducible rfl))
      (try simp only [Act.put, List.setIfInBounds_toArray, List.set_cons_zero, List.set_cons_succ])
      refine wpAnyH_take (i := 5) (oi := { dst := some 29, op := _, type := _, pos := _, after := _, guard := _ }) (v := ?_) rfl (by kernel_rfl) (by kernel_rfl) (by kernel_rfl) (fun _ _ _ h => h) (Or.inl ⟨by rfl, ?_⟩) (by assumption) ?_
      rotate_left
      · (intro w9 hSw; obtain ⟨b0, b1, b2, b3, b4⟩ := HXX.out w9 hSw; clear hSw; go_simp; (try with_reducible rfl))
      (try simp only [Act.put, List.setIfInBounds_toArray, List.set_cons_zero, List.set_cons_succ])
      refine wpAnyH_ready (rs := [6]) (by kernel_rfl) (by simp) ?_
      refine AllReadyH.cons (o := { dst := some 30, op := _, type := _, pos := _, after := _, guard := _ }) rfl (fun K hK => ?_) AllReadyH.nil
      go_simp
      refine (HFF.out _ hHeld).mono ?_
      rintro e wA ⟨rfl, kA⟩
      have HAA := hidMk (hHeld.trans kA)
      clear kA
      (try go_wp2_with fail)
      refine hK.out _ _ ?_ (fun hHeld => ?_)
      · exact HAA.out
      clear hK K
      (try simp only [Act.put, List.setIfInBounds_toArray, List.set_cons_zero, List.set_cons_succ])
      refine wpAnyH_take (i := 7) (oi := { dst := some 31, op := _, type := _, pos := _, after := _, guard := _ }) (v := ?_) rfl (by kernel_rfl) (by kernel_rfl) (by kernel_rfl) (fun _ _ _ h => h) (Or.inl ⟨by rfl, ?_⟩) (by assumption) ?_
      rotate_left
      · (intro w9 hSw; clear hSw; go_simp; (try with_reducible rfl))
      (try simp only [Act.put, List.setIfInBounds_toArray, List.set_cons_zero, List.set_cons_succ])
      refine wpAnyH_done (by kernel_rfl) ?_ _
      have HKF := hidMk hHeld
      clear hHeld HFF HXX HCE
      by_cases hzn : z < 0
      · have HJ2 := hidMk (show (∀ k, k < h + 1 → f (clA l k) < f x) ∧ ∀ k, j ≤ k → k < l.length → f x ≤ f (clA l k) from ⟨fun k hk => by
          have hr0 := HC.out.1 hzn
          rw [HY.out] at hr0
          by_cases e : k = h
          · subst e; exact hr0
          · exact Int.lt_trans (HR.out k h (by omega) hhl) hr0, HJ.out.2.2⟩)
        have HKJ := hidMk (HJ.out.1.trans HKF.out)
        clear HJ
        go_wp2_with fail
        go_roundg (j - (h + 1))
        case measure => have := HG.out; omega
        case rel => exact ⟨h + 1, j, by omega, rfl, by omega, by first | rfl | go_num, rfl, hidMk ⟨HKJ.out, HJ2.out⟩⟩
      · have HJ2 := hidMk (show (∀ k, k < i → f (clA l k) < f x) ∧ ∀ k, h ≤ k → k < l.length → f x ≤ f (clA l k) from ⟨HJ.out.2.1, fun k hk1 hk2 => by
          have hr0 : ¬ f (clA l h) < f x := fun e => hzn (HC.out.2 (by rw [HY.out]; exact e))
          by_cases e : k = h
          · subst e; omega
          · have h1 := HR.out h k (by omega) hk2
            omega⟩)
        have HKJ := hidMk (HJ.out.1.trans HKF.out)
        clear HJ
        go_wp2_with fail
        go_roundg (h - i)
        case measure => have := HG.out; omega
        case rel => exact ⟨i, h, by omega, rfl, by omega, rfl, rfl, hidMk ⟨HKJ.out, HJ2.out⟩⟩
    · obtain rfl : i = j := by omega
      have hkk : ¬ ((i : Int) < (i : Int)) := by omega
      by_cases hil : i < l.length
      · have hil' : (i : Int) < (l.length : Int) := by omega
        obtain ⟨bb, o, rfl⟩ := HL.out.form (by omega)
        have HCE := hidMk (show ∀ Y, Kept wr Y → _ from fun Y k => (HL.out.kept (HJ.out.1.trans k)).at hil)
        have HXX := hidMk (show ∀ Y, Kept wr Y → _ from fun Y k => HX.out Y (HJ.out.1.trans k))
        have HFF := hidMk (show ∀ Y, Kept wr Y → _ from fun Y k => HF.out Y (HJ.out.1.trans k) (clA l i))
        generalize cmpI (f (clA l i)) (f x) = z at *
        obtain ⟨y, hy⟩ : ∃ y, y = clA l i := ⟨_, rfl⟩
        rw [← hy] at HCE HFF
        clear hy
        go_upto_region 8 with fail
        refine wp_region_held_drew (S := (fun w' => Kept wr w')) (by kernel_rfl) ?_ (fun hHeld => ?_)
        · exact (Kept.refl wr).drew
        refine wpAnyH_take (i := 0) (oi := { dst := some 35, op := _, type := _, pos := _, after := _, guard := _ }) (v := ?_) rfl (by kernel_rfl) (by kernel_rfl) (by kernel_rfl) (fun _ _ _ h => h) (Or.inl ⟨by rfl, ?_⟩) (by assumption) ?_
        rotate_left
        · (intro w9 hSw; clear hSw; go_simp; (try with_reducible rfl))
        (try simp only [Act.put, List.setIfInBounds_toArray, List.set_cons_zero, List.set_cons_succ])
        refine wpAnyH_take (i := 1) (oi := { dst := some 36, op := _, type := _, pos := _, after := _, guard := _ }) (v := ?_) rfl (by kernel_rfl) (by kernel_rfl) (by kernel_rfl) (fun _ _ _ h => h) (Or.inl ⟨by rfl, ?_⟩) (by assumption) ?_
        rotate_left
        · (intro w9 hSw; clear hSw; go_simp; (try with_reducible rfl))
        (try simp only [Act.put, List.setIfInBounds_toArray, List.set_cons_zero, List.set_cons_succ])
        refine wpAnyH_take (i := 2) (oi := { dst := some 37, op := _, type := _, pos := _, after := _, guard := _ }) (v := ?_) rfl (by kernel_rfl) (by kernel_rfl) (by kernel_rfl) (fun _ _ _ h => h) (Or.inl ⟨by rfl, ?_⟩) (by assumption) ?_
        rotate_left
        · (intro w9 hSw; clear hSw; go_simp; (try with_reducible rfl))
        (try simp only [Act.put, List.setIfInBounds_toArray, List.set_cons_zero, List.set_cons_succ])
        refine wpAnyH_take (i := 3) (oi := { dst := some 38, op := _, type := _, pos := _, after := _, guard := _ }) (v := ?_) rfl (by kernel_rfl) (by kernel_rfl) (by kernel_rfl) (fun _ _ _ h => h) (Or.inl ⟨by rfl, ?_⟩) (by assumption) ?_
        rotate_left
        · (intro w9 hSw; clear hSw; go_simp; (try with_reducible rfl))
        (try simp only [Act.put, List.setIfInBounds_toArray, List.set_cons_zero, List.set_cons_succ])
        refine wpAnyH_take (i := 4) (oi := { dst := some 39, op := _, type := _, pos := _, after := _, guard := _ }) (v := ?_) rfl (by kernel_rfl) (by kernel_rfl) (by kernel_rfl) (fun _ _ _ h => h) (Or.inl ⟨by rfl, ?_⟩) (by assumption) ?_
        rotate_left
        · (intro w9 hSw; clear hSw; go_simp; (try with_reducible rfl))
        (try simp only [Act.put, List.setIfInBounds_toArray, List.set_cons_zero, List.set_cons_succ])
        refine wpAnyH_take (i := 5) (oi := { dst := some 40, op := _, type := _, pos := _, after := _, guard := _ }) (v := ?_) rfl (by kernel_rfl) (by kernel_rfl) (by kernel_rfl) (fun _ _ _ h => h) (Or.inl ⟨by rfl, ?_⟩) (by assumption) ?_
        rotate_left
        · (intro w9 hSw; clear hSw; go_simp; (try with_reducible rfl))
        (try simp only [Act.put, List.setIfInBounds_toArray, List.set_cons_zero, List.set_cons_succ])
        refine wpAnyH_take (i := 6) (oi := { dst := some 41, op := _, type := _, pos := _, after := _, guard := _ }) (v := ?_) rfl (by kernel_rfl) (by kernel_rfl) (by kernel_rfl) (fun _ _ _ h => h) (Or.inl ⟨by rfl, ?_⟩) (by assumption) ?_
        rotate_left
        · (intro w9 hSw; clear hSw; go_simp; (try with_reducible rfl))
        (try simp only [Act.put, List.setIfInBounds_toArray, List.set_cons_zero, List.set_cons_succ])
        refine wpAnyH_take (i := 7) (oi := { dst := some 42, op := _, type := _, pos := _, after := _, guard := _ }) (v := ?_) rfl (by kernel_rfl) (by kernel_rfl) (by kernel_rfl) (fun _ _ _ h => h) (Or.inl ⟨by rfl, ?_⟩) (by assumption) ?_
        rotate_left
        · (intro w9 hSw; clear hSw; go_simp; (try with_reducible rfl))
        (try simp only [Act.put, List.setIfInBounds_toArray, List.set_cons_zero, List.set_cons_succ])
        refine wpAnyH_take (i := 8) (oi := { dst := some 43, op := _, type := _, pos := _, after := _, guard := _ }) (v := ?_) rfl (by kernel_rfl) (by kernel_rfl) (by kernel_rfl) (fun _ _ _ h => h) (Or.inl ⟨by rfl, ?_⟩) (by assumption) ?_
        rotate_left
        · (intro w9 hSw; clear hSw; go_simp; (try with_reducible rfl))
        (try simp only [Act.put, List.setIfInBounds_toArray, List.set_cons_zero, List.set_cons_succ])
        refine wpAnyH_take (i := 9) (oi := { dst := some 44, op := _, type := _, pos := _, after := _, guard := _ }) (v := ?_) rfl (by kernel_rfl) (by kernel_rfl) (by kernel_rfl) (fun _ _ _ h => h) (Or.inl ⟨by rfl, ?_⟩) (by assumption) ?_
        rotate_left
        · (intro w9 hSw; obtain ⟨b0, b1, b2, b3, b4⟩ := HCE.out w9 hSw; clear hSw; go_simp; (try with_reducible rfl))
        (try simp only [Act.put, List.setIfInBounds_toArray, List.set_cons_zero, List.set_cons_succ])
        refine wpAnyH_take (i := 10) (oi := { dst := some 45, op := _, type := _, pos := _, after := _, guard := _ }) (v := ?_) rfl (by kernel_rfl) (by kernel_rfl) (by kernel_rfl) (fun _ _ _ h => h) (Or.inl ⟨by rfl, ?_⟩) (by assumption) ?_
        rotate_left
        · (intro w9 hSw; obtain ⟨b0, b1, b2, b3, b4⟩ := HXX.out w9 hSw; clear hSw; go_simp; (try with_reducible rfl))
        (try simp only [Act.put, List.setIfInBounds_toArray, List.set_cons_zero, List.set_cons_succ])
        refine wpAnyH_ready (rs := [11]) (by kernel_rfl) (by simp) ?_
        refine AllReadyH.cons (o := { dst := some 46, op := _, type := _, pos := _, after := _, guard := _ }) rfl (fun K hK => ?_) AllReadyH.nil
        go_simp
        refine (HFF.out _ hHeld).mono ?_
        rintro e wA ⟨rfl, kA⟩
        have HAA := hidMk (hHeld.trans kA)
        clear kA
        (try go_wp2_with fail)
        refine hK.out _ _ ?_ (fun hHeld => ?_)
        · exact HAA.out
        clear hK K
        (try simp only [Act.put, List.setIfInBounds_toArray, List.set_cons_zero, List.set_cons_succ])
        refine wpAnyH_take (i := 12) (oi := { dst := some 47, op := _, type := _, pos := _, after := _, guard := _ }) (v := ?_) rfl (by kernel_rfl) (by kernel_rfl) (by kernel_rfl) (fun _ _ _ h => h) (Or.inl ⟨by rfl, ?_⟩) (by assumption) ?_
        rotate_left
        · (intro w9 hSw; clear hSw; go_simp; (try with_reducible rfl))
        (try simp only [Act.put, List.setIfInBounds_toArray, List.set_cons_zero, List.set_cons_succ])
        refine wpAnyH_take (i := 13) (oi := { dst := some 48, op := _, type := _, pos := _, after := _, guard := _ }) (v := ?_) rfl (by kernel_rfl) (by kernel_rfl) (by kernel_rfl) (fun _ _ _ h => h) (Or.inl ⟨by rfl, ?_⟩) (by assumption) ?_
        rotate_left
        · (intro w9 hSw; clear hSw; go_simp; (try with_reducible rfl))
        (try simp only [Act.put, List.setIfInBounds_toArray, List.set_cons_zero, List.set_cons_succ])
        refine wpAnyH_take (i := 14) (oi := { dst := some 6, op := _, type := _, pos := _, after := _, guard := _ }) (v := ?_) rfl (by kernel_rfl) (by kernel_rfl) (by kernel_rfl) (fun _ _ _ h => h) (Or.inl ⟨by rfl, ?_⟩) (by assumption) ?_
        rotate_left
        · (intro w9 hSw; clear hSw; go_simp; (try with_reducible rfl))
        (try simp only [Act.put, List.setIfInBounds_toArray, List.set_cons_zero, List.set_cons_succ])
        refine wpAnyH_take (i := 15) (oi := { dst := some 7, op := _, type := _, pos := _, after := _, guard := _ }) (v := ?_) rfl (by kernel_rfl) (by kernel_rfl) (by kernel_rfl) (fun _ _ _ h => h) (Or.inl ⟨by rfl, ?_⟩) (by assumption) ?_
        rotate_left
        · (intro w9 hSw; clear hSw; go_simp; (try with_reducible rfl))
        (try simp only [Act.put, List.setIfInBounds_toArray, List.set_cons_zero, List.set_cons_succ])
        refine wpAnyH_done (by kernel_rfl) ?_ _
        have HKF := hidMk hHeld
        clear hHeld HFF HXX HCE
        go_wp2_with fail
        go_ret2
        exact ⟨i, _, rfl, hjl, HJ.out.2.1, HJ.out.2.2, HK1.out.trans (HJ.out.1.trans HKF.out)⟩
      · have hil' : ¬ (i : Int) < (l.length : Int) := by omega
        go_upto_region 8 with fail
        refine wp_region_held_drew (S := (fun w' => Kept wr w')) (by kernel_rfl) ?_ (fun hHeld => ?_)
        · exact (Kept.refl wr).drew
        refine wpAnyH_take (i := 0) (oi := { dst := some 35, op := _, type := _, pos := _, after := _, guard := _ }) (v := ?_) rfl (by kernel_rfl) (by kernel_rfl) (by kernel_rfl) (fun _ _ _ h => h) (Or.inl ⟨by rfl, ?_⟩) (by assumption) ?_
        rotate_left
        · (intro w9 hSw; clear hSw; go_simp; (try with_reducible rfl))
        (try simp only [Act.put, List.setIfInBounds_toArray, List.set_cons_zero, List.set_cons_succ])
        refine wpAnyH_take (i := 1) (oi := { dst := some 36, op := _, type := _, pos := _, after := _, guard := _ }) (v := ?_) rfl (by kernel_rfl) (by kernel_rfl) (by kernel_rfl) (fun _ _ _ h => h) (Or.inl ⟨by rfl, ?_⟩) (by assumption) ?_
        rotate_left
        · (intro w9 hSw; clear hSw; go_simp; (try with_reducible rfl))
        (try simp only [Act.put, List.setIfInBounds_toArray, List.set_cons_zero, List.set_cons_succ])
        refine wpAnyH_take (i := 2) (oi := { dst := some 37, op := _, type := _, pos := _, after := _, guard := _ }) (v := ?_) rfl (by kernel_rfl) (by kernel_rfl) (by kernel_rfl) (fun _ _ _ h => h) (Or.inl ⟨by rfl, ?_⟩) (by assumption) ?_
        rotate_left
        · (intro w9 hSw; clear hSw; go_simp; (try with_reducible rfl))
        (try simp only [Act.put, List.setIfInBounds_toArray, List.set_cons_zero, List.set_cons_succ])
        refine wpAnyH_take (i := 3) (oi := { dst := some 38, op := _, type := _, pos := _, after := _, guard := _ }) (v := ?_) rfl (by kernel_rfl) (by kernel_rfl) (by kernel_rfl) (fun _ _ _ h => h) (Or.inl ⟨by rfl, ?_⟩) (by assumption) ?_
        rotate_left
        · (intro w9 hSw; clear hSw; go_simp; (try with_reducible rfl))
        (try simp only [Act.put, List.setIfInBounds_toArray, List.set_cons_zero, List.set_cons_succ])
        refine wpAnyH_take (i := 4) (oi := { dst := some 39, op := _, type := _, pos := _, after := _, guard := _ }) (v := ?_) rfl (by kernel_rfl) (by kernel_rfl) (by kernel_rfl) (fun _ _ _ h => h) (Or.inl ⟨by rfl, ?_⟩) (by assumption) ?_
        rotate_left
        · (intro w9 hSw; clear hSw; go_simp; (try with_reducible rfl))
        (try simp only [Act.put, List.setIfInBounds_toArray, List.set_cons_zero, List.set_cons_succ])
        refine wpAnyH_take (i := 5) (oi := { dst := some 40, op := _, type := _, pos := _, after := _, guard := _ }) (v := _) rfl (by kernel_rfl) (by kernel_rfl) (by kernel_rfl) (fun _ _ _ h => h) (Or.inr ⟨by rfl, rfl⟩) (by assumption) ?_
        (try simp only [Act.put, List.setIfInBounds_toArray, List.set_cons_zero, List.set_cons_succ])
        refine wpAnyH_take (i := 6) (oi := { dst := some 41, op := _, type := _, pos := _, after := _, guard := _ }) (v := _) rfl (by kernel_rfl) (by kernel_rfl) (by kernel_rfl) (fun _ _ _ h => h) (Or.inr ⟨by rfl, rfl⟩) (by assumption) ?_
        (try simp only [Act.put, List.setIfInBounds_toArray, List.set_cons_zero, List.set_cons_succ])
        refine wpAnyH_take (i := 7) (oi := { dst := some 42, op := _, type := _, pos := _, after := _, guard := _ }) (v := _) rfl (by kernel_rfl) (by kernel_rfl) (by kernel_rfl) (fun _ _ _ h => h) (Or.inr ⟨by rfl, rfl⟩) (by assumption) ?_
        (try simp only [Act.put, List.setIfInBounds_toArray, List.set_cons_zero, List.set_cons_succ])
        refine wpAnyH_take (i := 8) (oi := { dst := some 43, op := _, type := _, pos := _, after := _, guard := _ }) (v := _) rfl (by kernel_rfl) (by kernel_rfl) (by kernel_rfl) (fun _ _ _ h => h) (Or.inr ⟨by rfl, rfl⟩) (by assumption) ?_
        (try simp only [Act.put, List.setIfInBounds_toArray, List.set_cons_zero, List.set_cons_succ])
        refine wpAnyH_take (i := 9) (oi := { dst := some 44, op := _, type := _, pos := _, after := _, guard := _ }) (v := _) rfl (by kernel_rfl) (by kernel_rfl) (by kernel_rfl) (fun _ _ _ h => h) (Or.inr ⟨by rfl, rfl⟩) (by assumption) ?_
        (try simp only [Act.put, List.setIfInBounds_toArray, List.set_cons_zero, List.set_cons_succ])
        refine wpAnyH_take (i := 10) (oi := { dst := some 45, op := _, type := _, pos := _, after := _, guard := _ }) (v := _) rfl (by kernel_rfl) (by kernel_rfl) (by kernel_rfl) (fun _ _ _ h => h) (Or.inr ⟨by rfl, rfl⟩) (by assumption) ?_
        (try simp only [Act.put, List.setIfInBounds_toArray, List.set_cons_zero, List.set_cons_succ])
        refine wpAnyH_take (i := 11) (oi := { dst := some 46, op := _, type := _, pos := _, after := _, guard := _ }) (v := _) rfl (by kernel_rfl) (by kernel_rfl) (by kernel_rfl) (fun _ _ _ h => h) (Or.inr ⟨by rfl, rfl⟩) (by assumption) ?_
        (try simp only [Act.put, List.setIfInBounds_toArray, List.set_cons_zero, List.set_cons_succ])
        refine wpAnyH_take (i := 12) (oi := { dst := some 47, op := _, type := _, pos := _, after := _, guard := _ }) (v := _) rfl (by kernel_rfl) (by kernel_rfl) (by kernel_rfl) (fun _ _ _ h => h) (Or.inr ⟨by rfl, rfl⟩) (by assumption) ?_
        (try simp only [Act.put, List.setIfInBounds_toArray, List.set_cons_zero, List.set_cons_succ])
        refine wpAnyH_take (i := 13) (oi := { dst := some 48, op := _, type := _, pos := _, after := _, guard := _ }) (v := ?_) rfl (by kernel_rfl) (by kernel_rfl) (by kernel_rfl) (fun _ _ _ h => h) (Or.inl ⟨by rfl, ?_⟩) (by assumption) ?_
        rotate_left
        · (intro w9 hSw; clear hSw; go_simp; (try with_reducible rfl))
        (try simp only [Act.put, List.setIfInBounds_toArray, List.set_cons_zero, List.set_cons_succ])
        refine wpAnyH_take (i := 14) (oi := { dst := some 6, op := _, type := _, pos := _, after := _, guard := _ }) (v := ?_) rfl (by kernel_rfl) (by kernel_rfl) (by kernel_rfl) (fun _ _ _ h => h) (Or.inl ⟨by rfl, ?_⟩) (by assumption) ?_
        rotate_left
        · (intro w9 hSw; clear hSw; go_simp; (try with_reducible rfl))
        (try simp only [Act.put, List.setIfInBounds_toArray, List.set_cons_zero, List.set_cons_succ])
        refine wpAnyH_take (i := 15) (oi := { dst := some 7, op := _, type := _, pos := _, after := _, guard := _ }) (v := ?_) rfl (by kernel_rfl) (by kernel_rfl) (by kernel_rfl) (fun _ _ _ h => h) (Or.inl ⟨by rfl, ?_⟩) (by assumption) ?_
        rotate_left
        · (intro w9 hSw; clear hSw; go_simp; (try with_reducible rfl))
        (try simp only [Act.put, List.setIfInBounds_toArray, List.set_cons_zero, List.set_cons_succ])
        refine wpAnyH_done (by kernel_rfl) ?_ _
        have HKF := hidMk hHeld
        clear hHeld
        go_wp2_with fail
        go_ret2
        exact ⟨i, _, rfl, hjl, HJ.out.2.1, HJ.out.2.2, HK1.out.trans (HJ.out.1.trans HKF.out)⟩
end Go.Proofs.YtmedgkccicbieaaGreat
