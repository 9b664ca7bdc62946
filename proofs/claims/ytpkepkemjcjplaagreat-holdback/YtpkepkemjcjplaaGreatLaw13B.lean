/- moietylaw13: how many leaves there can be; small. -/
import Derived.Test.YtpkepkemjcjplaaGreatLaw13A
import Derived.Test.YtpkepkemjcjplaaGreatHold10
import Derived.Test.YtpkepkemjcjplaaGreatHold11
namespace Go.Proofs.YtpkepkemjcjplaaGreat
open Go.RowKit Go.Maps
set_option linter.unusedSimpArgs false
set_option linter.unusedVariables false

theorem rise_le : ∀ {l : List Int} {a b : Int}, Rise l → (∀ x, x ∈ l → a ≤ x ∧ x < b) → a ≤ b → (l.length : Int) ≤ b - a := by
  intro l
  induction l with
  | nil => intro a b _ _ h; simp; omega
  | cons x l ih =>
    intro a b hr hm hab
    have hx := hm x (List.mem_cons_self ..)
    have hr' := List.pairwise_cons.1 hr
    have := ih (a := x + 1) (b := b) hr'.2 (fun y hy => ⟨by have := hr'.1 y hy; omega, (hm y (List.mem_cons_of_mem _ hy)).2⟩) (by omega)
    simp only [List.length_cons]
    omega
theorem leaves_le {ds : List Dm} {ms : List ByteArray} (h : Ct ds ms) (k : Nat) : 0 ≤ mulK (fun k => leas ds k) ms.length k ∧ mulK (fun k => leas ds k) ms.length k ≤ ms.length * prN ds (min k ds.length) := by
  induction k with
  | zero => simp [mulK, prN]
  | succ k ih =>
    obtain ⟨h1, h2⟩ := ih
    refine ⟨Int.mul_nonneg h1 (by show (0 : Int) ≤ ((leas ds k : Nat) : Int); omega), ?_⟩
    show mulK (fun k => leas ds k) ms.length k * (leas ds k : Int) ≤ _
    by_cases hk : k < ds.length
    · rw [show min (k + 1) ds.length = k + 1 by omega]
      rw [show min k ds.length = k by omega] at h2
      rw [leas_in hk]
      have hl := lvs_len (h.tr k hk)
      show _ ≤ (ms.length : Int) * (prN ds k * ((dmL ds k).length : Int))
      rw [← Int.mul_assoc]
      exact Int.mul_le_mul h2 (by omega) (by omega) (Int.le_trans h1 h2)
    · rw [leas_out hk, show min (k + 1) ds.length = min k ds.length by omega]
      simpa using h2
theorem leaves_few {ds : List Dm} {ms : List ByteArray} (h : Ct ds ms) (sm : Sm13 ds ms.length) : 0 ≤ mulK (fun k => leas ds k) ms.length 4 ∧ mulK (fun k => leas ds k) ms.length 4 ≤ 600 := by
  obtain ⟨h1, h2⟩ := leaves_le h 4
  refine ⟨h1, Int.le_trans h2 ?_⟩
  rw [show min 4 ds.length = ds.length by have := sm.1; omega]
  have h3 := sm.2.2.2
  have h4 : (ms.length : Int) ≤ 4 := by have := sm.2.1; omega
  have h5 := (prN_small sm.1 sm.2.2.1).1
  exact Int.le_trans (Int.mul_le_mul h4 h3 h5 (by omega)) (by decide)
theorem und_few {ds : List Dm} {ms : List ByteArray} (h : Ct ds ms) (sm : Sm13 ds ms.length) (cm : Int) (at_ : Nat → Int) : (undL ms ds cm at_).length ≤ 1000 ∧ ∀ y, y ∈ undL ms ds cm at_ → isI y ∧ 0 ≤ y := by
  have hN := leaves_few h sm
  have hm : ∀ y, y ∈ undL ms ds cm at_ → 0 ≤ y ∧ y < mulK (fun k => leas ds k) ms.length 4 := fun y hy => ((mem_und h).1 hy).1
  constructor
  · have := rise_le (und_rise h cm at_) hm hN.1
    omega
  · intro y hy
    have := hm y hy
    exact ⟨by unfold isI; omega, this.1⟩
theorem cat_load4 {w : World} {g : Nat} {v0 v1 v2 v3 : Value} (c0 : w.cell? ⟨g, 0, none⟩ = some v0) (c1 : w.cell? ⟨g, 1, none⟩ = some v1) (c2 : w.cell? ⟨g, 2, none⟩ = some v2) (c3 : w.cell? ⟨g, 3, none⟩ = some v3) : (loadVar 25 ⟨g, 0, none⟩).run Tryz.prog w = .ok (.agg #[v0, v1, v2, v3]) w := by
  have hl := run_loadCells_list (P := Tryz.prog) w ⟨g, 0, none⟩ [v0, v1, v2, v3] (fun j u hu => by
    have hadd : (⟨g, 0, none⟩ : Addr).add j = ⟨g, j, none⟩ := by unfold Addr.add; split <;> simp_all
    rw [hadd]
    have hj : j < 4 := by
      have := (List.getElem?_eq_some_iff.1 hu).1
      simpa using this
    have : j = 0 ∨ j = 1 ∨ j = 2 ∨ j = 3 := by omega
    rcases this with rfl | rfl | rfl | rfl <;> simp_all)
  have hi : (Tryz.prog.info? 25).map (·.size) = some 4 := by kernel_rfl
  obtain ⟨i, h1, h2⟩ := Option.map_eq_some_iff.1 hi
  simp only [List.length_cons, List.length_nil, Nat.reduceAdd] at hl
  simp [loadVar, Sem.run_bind, Tryz.isAgg25, sizeOf, typeInfo, h1, h2, hl]
/-- What small tells: the fixed catalogue. -/
def SmlP (w : World) (e : Ending) (w' : World) : Prop := ∃ g q b, e = .returned (.agg #[.slice (some ⟨g, 0, none⟩) 1 1, .slice (some ⟨b, 0, none⟩) 1 1, .int .i64 9, .int .i64 3]) ∧ w'.cell? ⟨g, 0, none⟩ = some (.string ⟨#[120]⟩) ∧ w'.cell? ⟨g, 1, none⟩ = some (.slice (some ⟨q, 0, none⟩) 3 3) ∧ Ns w' (some ⟨q, 0, none⟩) 3 k6 ∧ w'.cell? ⟨b, 0, none⟩ = some (.string ⟨#[109]⟩) ∧ Kept w w'
set_option maxHeartbeats 2000000 in
theorem law13_small (w : World) : Calls Tryz.prog 30 #[] w (SmlP w) := by
  go_enter Tryz.func30, Tryz.ntmps30
  go_wp2_with fail
  refine bodyPost_ret (results_cell1 rfl _ _ w.heap.size _ rfl (cat_load4 (v0 := .slice (some ⟨w.heap.size + 1 + 1, 0, none⟩) 1 1) (v1 := .slice (some ⟨w.heap.size + 1 + 1 + 1, 0, none⟩) 1 1) (v2 := .int .i64 9) (v3 := .int .i64 3) ?c0 ?c1 ?c2 ?c3)) rfl ⟨w.heap.size + 1 + 1, w.heap.size + 1, w.heap.size + 1 + 1 + 1, rfl, ?c4, ?c5, ?c6, ?c7, ((((Kept.refl w).alloc _).alloc _).alloc _).alloc _⟩
  case c0 => exact ((((Kept.refl _).alloc _).alloc _).alloc _).cellp (new_cell _ _ _ _ 0 _ rfl rfl)
  case c1 => exact ((((Kept.refl _).alloc _).alloc _).alloc _).cellp (new_cell _ _ _ _ 1 _ rfl rfl)
  case c2 => exact ((((Kept.refl _).alloc _).alloc _).alloc _).cellp (new_cell _ _ _ _ 2 _ rfl rfl)
  case c3 => exact ((((Kept.refl _).alloc _).alloc _).alloc _).cellp (new_cell _ _ _ _ 3 _ rfl rfl)
  case c4 => exact ((Kept.refl _).alloc _).cellp (new_cell _ _ _ _ 0 _ (by simp) rfl)
  case c5 => exact ((Kept.refl _).alloc _).cellp (new_cell _ _ _ _ 1 _ (by simp) rfl)
  case c6 =>
    have := k6_ns (w.alloc (.cells #[.slice (some ⟨w.heap.size + 1 + 1, 0, none⟩) 1 1, .slice (some ⟨w.heap.size + 1 + 1 + 1, 0, none⟩) 1 1, .int .i64 9, .int .i64 3] 25)) 132
    rw [show (w.alloc (.cells #[.slice (some ⟨w.heap.size + 1 + 1, 0, none⟩) 1 1, .slice (some ⟨w.heap.size + 1 + 1 + 1, 0, none⟩) 1 1, .int .i64 9, .int .i64 3] 25)).heap.size = w.heap.size + 1 by simp] at this
    exact this.kept (((Kept.refl _).alloc _).alloc _)
  case c7 => exact new_cell _ _ _ _ 0 _ (by simp) rfl
theorem k13_cat : CatIs ds7 ms7 9 3 0 0 := by
  refine .inr ⟨by decide, .inr ⟨fun j hj => ?_, .inr ⟨fun j hj => ?_, by decide +kernel⟩, rfl⟩⟩
  · have : j = 0 := by have : ds7.length = 1 := rfl; omega
    subst this
    exact .inr (.inr ⟨by decide +kernel, by decide +kernel, 0, .inr ⟨by decide, .inl ⟨k6_good, rfl, rfl⟩⟩⟩)
  · have : j = 0 := by have : ms7.length = 1 := rfl; omega
    subst this
    decide +kernel
theorem k13_sm : Sm13 ds7 ms7.length := ⟨by decide, by decide, fun k hk => by
  have : k = 0 := by have : ds7.length = 1 := rfl; omega
  subst this
  decide, by decide⟩
/-- The cells that known asks for. -/
def z13 : Cl := (0, 0, 0, 0, 0)
def a13 : Cl := (0, 1, 0, 0, 0)
theorem z13_ix : ixC ms7 ds7 z13 = 0 := by decide +kernel
theorem a13_ix : ixC ms7 ds7 a13 = 1 := by decide +kernel
theorem z13_und : undL ms7 ds7 z13.1 (clT z13) = [0, 1] := by decide +kernel
open Classical in
theorem wi_iff {ms : List ByteArray} {ds : List Dm} {x y : Cl} : wiC ms ds x y = true ↔ inC ms ds x.1 (clT x) y.1 (clT y) := by
  unfold wiC
  exact decide_eq_true_iff
theorem a13_in : wiC ms7 ds7 a13 z13 = true := by
  refine wi_iff.2 ⟨by decide +kernel, by decide +kernel, rfl, fun j hj => ?_⟩
  have : j = 0 := by have : ds7.length = 1 := rfl; omega
  subst this
  decide +kernel
end Go.Proofs.YtpkepkemjcjplaaGreat
