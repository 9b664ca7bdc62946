/- moietylaw13.open. · moietylaw13: how many leaves there can be; small. · moietylaw13.known. · moietylaw13: holds in a block of the caller's. -/
import Derived.Test.YtmedgkccicbieaaGreatPLawCo2
import Derived.Test.YtmedgkccicbieaaGreatPHoldCB
namespace Go.Proofs.YtmedgkccicbieaaGreat
open Go.RowKit Go.Maps
set_option linter.unusedSimpArgs false
set_option linter.unusedVariables false

def prN (ds : List Dm) : Nat → Int
  | 0 => 1
  | k + 1 => prN ds k * ((dmL ds k).length : Int)
theorem prN_le {ds : List Dm} {k : Nat} (h : ∀ j, j < k → (dmL ds j).length ≤ 12) : 0 ≤ prN ds k ∧ prN ds k ≤ 12 ^ k := by
  induction k with
  | zero => simp [prN]
  | succ k ih =>
    obtain ⟨h1, h2⟩ := ih (fun j hj => h j (by omega))
    have h3 := h k (by omega)
    constructor
    · exact Int.mul_nonneg h1 (by omega)
    · rw [prN, Int.pow_succ]
      exact Int.mul_le_mul h2 (by omega) (by omega) (Int.pow_nonneg (by omega))
theorem prN_small {ds : List Dm} {k : Nat} (hk : k ≤ 4) (h : ∀ j, j < k → (dmL ds j).length ≤ 12) : 0 ≤ prN ds k ∧ prN ds k ≤ 20736 := by
  obtain ⟨h1, h2⟩ := prN_le h
  refine ⟨h1, Int.le_trans h2 ?_⟩
  have : k = 0 ∨ k = 1 ∨ k = 2 ∨ k = 3 ∨ k = 4 := by omega
  rcases this with rfl | rfl | rfl | rfl | rfl <;> decide
theorem wrap_id (x : Int) (h : 0 ≤ x ∧ x ≤ 1000000) : wrap64 x = x := by unfold wrap64; omega
def Sm13 (ds : List Dm) (m : Nat) : Prop := ds.length ≤ 4 ∧ m ≤ 4 ∧ (∀ k, k < ds.length → (dmL ds k).length ≤ 12) ∧ prN ds ds.length ≤ 150
def OpenQ (w : World) (ds : List Dm) (ms : List ByteArray) (lv sc : Int) (e : Ending) (w' : World) : Prop :=
  (∃ W0 s p tp rv q rt, e = .returned (.tuple #[.pointer (some ⟨s, 0, none⟩), .pointer (some ⟨W0.heap.size, 0, none⟩), .bool true]) ∧ Sm13 ds ms.length ∧ CatIs ds ms lv sc 0 0 ∧ SW W0 s p ds ms tp rv ∧ RDm W0 q ds rt ms ∧ Kept w W0 ∧ w' = W0.alloc (.cells #[.pointer (some ⟨q, 0, none⟩), .slice none 0 0, .slice none 0 0, .slice none 0 0, .slice none 0 0, .slice none 0 0] 107)) ∨
  (∃ v1 v2, e = .returned (.tuple #[v1, v2, .bool false]) ∧ ¬ (Sm13 ds ms.length ∧ CatIs ds ms lv sc 0 0) ∧ Kept w w')

theorem rise_le : ∀ {l : List Int} {a b : Int}, Rise l → (∀ x, x ∈ l → a ≤ x ∧ x < b) → a ≤ b → (l.length : Int) ≤ b - a := by
  intro l
  induction l with
  | nil => intro a b _ _ h; simp; omega
  | cons x l ih =>
    intro a b hr hm hab
    have hx := hm x (List.mem_cons_self ..)
    have hr' := List.pairwise_cons.1 hr
    have := ih (a := x + 1) (b := b) hr'.2 (fun y hy => ⟨by have := hr'.1 y hy; omega, (hm y (List.mem_cons_of_mem _ hy)).2⟩) (by omega)
    simp only [List.length_cons]
    omega
theorem leaves_le {ds : List Dm} {ms : List ByteArray} (h : Ct ds ms) (k : Nat) : 0 ≤ mulK (fun k => leas ds k) ms.length k ∧ mulK (fun k => leas ds k) ms.length k ≤ ms.length * prN ds (min k ds.length) := by
  induction k with
  | zero => simp [mulK, prN]
  | succ k ih =>
    obtain ⟨h1, h2⟩ := ih
    refine ⟨Int.mul_nonneg h1 (by show (0 : Int) ≤ ((leas ds k : Nat) : Int); omega), ?_⟩
    show mulK (fun k => leas ds k) ms.length k * (leas ds k : Int) ≤ _
    by_cases hk : k < ds.length
    · rw [show min (k + 1) ds.length = k + 1 by omega]
      rw [show min k ds.length = k by omega] at h2
      rw [leas_in hk]
      have hl := lvs_len (h.tr k hk)
      show _ ≤ (ms.length : Int) * (prN ds k * ((dmL ds k).length : Int))
      rw [← Int.mul_assoc]
      exact Int.mul_le_mul h2 (by omega) (by omega) (Int.le_trans h1 h2)
    · rw [leas_out hk, show min (k + 1) ds.length = min k ds.length by omega]
      simpa using h2
theorem leaves_few {ds : List Dm} {ms : List ByteArray} (h : Ct ds ms) (sm : Sm13 ds ms.length) : 0 ≤ mulK (fun k => leas ds k) ms.length 4 ∧ mulK (fun k => leas ds k) ms.length 4 ≤ 600 := by
  obtain ⟨h1, h2⟩ := leaves_le h 4
  refine ⟨h1, Int.le_trans h2 ?_⟩
  rw [show min 4 ds.length = ds.length by have := sm.1; omega]
  have h3 := sm.2.2.2
  have h4 : (ms.length : Int) ≤ 4 := by have := sm.2.1; omega
  have h5 := (prN_small sm.1 sm.2.2.1).1
  exact Int.le_trans (Int.mul_le_mul h4 h3 h5 (by omega)) (by decide)
theorem und_few {ds : List Dm} {ms : List ByteArray} (h : Ct ds ms) (sm : Sm13 ds ms.length) (cm : Int) (at_ : Nat → Int) : (undL ms ds cm at_).length ≤ 1000 ∧ ∀ y, y ∈ undL ms ds cm at_ → isI y ∧ 0 ≤ y := by
  have hN := leaves_few h sm
  have hm : ∀ y, y ∈ undL ms ds cm at_ → 0 ≤ y ∧ y < mulK (fun k => leas ds k) ms.length 4 := fun y hy => ((mem_und h).1 hy).1
  constructor
  · have := rise_le (und_rise h cm at_) hm hN.1
    omega
  · intro y hy
    have := hm y hy
    exact ⟨by unfold isI; omega, this.1⟩
theorem cat_load4 {w : World} {g : Nat} {v0 v1 v2 v3 : Value} (c0 : w.cell? ⟨g, 0, none⟩ = some v0) (c1 : w.cell? ⟨g, 1, none⟩ = some v1) (c2 : w.cell? ⟨g, 2, none⟩ = some v2) (c3 : w.cell? ⟨g, 3, none⟩ = some v3) : (loadVar 25 ⟨g, 0, none⟩).run Tryz.prog w = .ok (.agg #[v0, v1, v2, v3]) w := by
  have hl := run_loadCells_list (P := Tryz.prog) w ⟨g, 0, none⟩ [v0, v1, v2, v3] (fun j u hu => by
    have hadd : (⟨g, 0, none⟩ : Addr).add j = ⟨g, j, none⟩ := by unfold Addr.add; split <;> simp_all
    rw [hadd]
    have hj : j < 4 := by
      have := (List.getElem?_eq_some_iff.1 hu).1
      simpa using this
    have : j = 0 ∨ j = 1 ∨ j = 2 ∨ j = 3 := by omega
    rcases this with rfl | rfl | rfl | rfl <;> simp_all)
  have hi : (Tryz.prog.info? 25).map (·.size) = some 4 := by kernel_rfl
  obtain ⟨i, h1, h2⟩ := Option.map_eq_some_iff.1 hi
  simp only [List.length_cons, List.length_nil, Nat.reduceAdd] at hl
  simp [loadVar, Sem.run_bind, Tryz.isAgg25, sizeOf, typeInfo, h1, h2, hl]
def SmlP (w : World) (e : Ending) (w' : World) : Prop := ∃ g q b, e = .returned (.agg #[.slice (some ⟨g, 0, none⟩) 1 1, .slice (some ⟨b, 0, none⟩) 1 1, .int .i64 9, .int .i64 3]) ∧ w'.cell? ⟨g, 0, none⟩ = some (.string ⟨#[120]⟩) ∧ w'.cell? ⟨g, 1, none⟩ = some (.slice (some ⟨q, 0, none⟩) 3 3) ∧ Ns w' (some ⟨q, 0, none⟩) 3 k6 ∧ w'.cell? ⟨b, 0, none⟩ = some (.string ⟨#[109]⟩) ∧ Kept w w'
theorem k13_cat : CatIs ds7 ms7 9 3 0 0 := by
  refine .inr ⟨by decide, .inr ⟨fun j hj => ?_, .inr ⟨fun j hj => ?_, by decide +kernel⟩, rfl⟩⟩
  · have : j = 0 := by have : ds7.length = 1 := rfl; omega
    subst this
    exact .inr (.inr ⟨by decide +kernel, by decide +kernel, 0, .inr ⟨by decide, .inl ⟨k6_good, rfl, rfl⟩⟩⟩)
  · have : j = 0 := by have : ms7.length = 1 := rfl; omega
    subst this
    decide +kernel
theorem k13_sm : Sm13 ds7 ms7.length := ⟨by decide, by decide, fun k hk => by
  have : k = 0 := by have : ds7.length = 1 := rfl; omega
  subst this
  decide, by decide⟩
def z13 : Cl := (0, 0, 0, 0, 0)
def a13 : Cl := (0, 1, 0, 0, 0)
theorem z13_ix : ixC ms7 ds7 z13 = 0 := by decide +kernel
theorem a13_ix : ixC ms7 ds7 a13 = 1 := by decide +kernel
open Classical in
theorem wi_iff {ms : List ByteArray} {ds : List Dm} {x y : Cl} : wiC ms ds x y = true ↔ inC ms ds x.1 (clT x) y.1 (clT y) := by
  unfold wiC
  exact decide_eq_true_iff


structure Hv (w0 w : World) (ms : List ByteArray) (ds : List Dm) (hb : Nat) (a : Option Addr) (c : Nat) (l : List Cl) : Prop where
  cell : w.cell? ⟨hb, 0, none⟩ = some (.slice a l.length c)
  fz : w.frozen? ⟨hb, 0, none⟩ = false
  hd : Hd w ms ds a c l
  ap : ∀ ad, a = some ad → ad.block ≠ hb
  kp : Kept w0 w
  nw : w0.heap.size ≤ hb
section
variable {w0 w : World} {ms : List ByteArray} {ds : List Dm} {hb : Nat} {a : Option Addr} {c : Nat} {l : List Cl}
theorem Hv.lt (h : Hv w0 w ms ds hb a c l) : hb < w.heap.size := cell_lt h.cell
theorem Hv.keep (h : Hv w0 w ms ds hb a c l) {w' : World} (k : Kept w w') : Hv w0 w' ms ds hb a c l :=
  ⟨k.cellp h.cell, (k.frozen (p := ⟨hb, 0, none⟩) h.lt).trans h.fz, h.hd.kept k, h.ap, h.kp.trans k, h.nw⟩
theorem Hd.chg {S : Nat → Prop} {w w' : World} (h : Hd w ms ds a c l) (k : Chg S w w') (hs : ∀ ad, a = some ad → ¬ S ad.block) : Hd w' ms ds a c l := ⟨h.cq.chg k (fun _ ad e => hs ad e), h.le, h.nl, h.rs, h.ok, h.sm, h.sp⟩
theorem Hv.set (h : Hv w0 w ms ds hb a c l) {a' : Option Addr} {c' : Nat} {l' : List Cl} {n : Nat} (hn : n = l'.length) (hd : Hd w ms ds a' c' l') (ap : ∀ ad, a' = some ad → ad.block ≠ hb) : Hv w0 (w.setCell ⟨hb, 0, none⟩ (.slice a' n c')) ms ds hb a' c' l' := by
  subst hn
  have k : Chg (· = hb) w (w.setCell ⟨hb, 0, none⟩ (.slice a' l'.length c')) := chg_set _ _ _ _
  exact ⟨World.cell?_setCell_same _ _ _ h.cell, by simpa using h.fz, hd.chg k (fun ad e f => ap ad e f), ap, k.kept h.kp (fun j e => by have := h.nw; omega), h.nw⟩
end
end Go.Proofs.YtmedgkccicbieaaGreat
