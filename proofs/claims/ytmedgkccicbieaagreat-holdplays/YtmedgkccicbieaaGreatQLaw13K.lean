/- moietylaw13.open. · moietylaw13: how many leaves there can be; small. · moietylaw13.known. · moietylaw13: holds in a block of the caller's. -/
import Derived.Test.YtmedgkccicbieaaGreatQLawCo2
import Derived.Test.YtmedgkccicbieaaGreatQHoldC
namespace Go.Proofs.YtmedgkccicbieaaGreat
open Go.RowKit Go.Maps
set_option linter.unusedSimpArgs false
set_option linter.unusedVariables false

/-- How many nodes the first k dimensions have, multiplied. -/
def prN (ds : List Dm) : Nat → Int
  | 0 => 1
  | k + 1 => prN ds k * ((dmL ds k).length : Int)
theorem prN_le {ds : List Dm} {k : Nat} (h : ∀ j, j < k → (dmL ds j).length ≤ 12) : 0 ≤ prN ds k ∧ prN ds k ≤ 12 ^ k := by
  induction k with
  | zero => simp [prN]
  | succ k ih =>
    obtain ⟨h1, h2⟩ := ih (fun j hj => h j (by omega))
    have h3 := h k (by omega)
    constructor
    · exact Int.mul_nonneg h1 (by omega)
    · rw [prN, Int.pow_succ]
      exact Int.mul_le_mul h2 (by omega) (by omega) (Int.pow_nonneg (by omega))
theorem prN_small {ds : List Dm} {k : Nat} (hk : k ≤ 4) (h : ∀ j, j < k → (dmL ds j).length ≤ 12) : 0 ≤ prN ds k ∧ prN ds k ≤ 20736 := by
  obtain ⟨h1, h2⟩ := prN_le h
  refine ⟨h1, Int.le_trans h2 ?_⟩
  have : k = 0 ∨ k = 1 ∨ k = 2 ∨ k = 3 ∨ k = 4 := by omega
  rcases this with rfl | rfl | rfl | rfl | rfl <;> decide
theorem wrap_id (x : Int) (h : 0 ≤ x ∧ x ≤ 1000000) : wrap64 x = x := by unfold wrap64; omega
/-- A catalogue with few cells. -/
def Sm13 (ds : List Dm) (m : Nat) : Prop := ds.length ≤ 4 ∧ m ≤ 4 ∧ (∀ k, k < ds.length → (dmL ds k).length ≤ 12) ∧ prN ds ds.length ≤ 150
def OpenQ (w : World) (ds : List Dm) (ms : List ByteArray) (lv sc : Int) (e : Ending) (w' : World) : Prop :=
  (∃ W0 s p tp rv q rt, e = .returned (.tuple #[.pointer (some ⟨s, 0, none⟩), .pointer (some ⟨W0.heap.size, 0, none⟩), .bool true]) ∧ Sm13 ds ms.length ∧ CatIs ds ms lv sc 0 0 ∧ SW W0 s p ds ms tp rv ∧ RDm W0 q ds rt ms ∧ Kept w W0 ∧ w' = W0.alloc (.cells #[.pointer (some ⟨q, 0, none⟩), .slice none 0 0, .slice none 0 0, .slice none 0 0, .slice none 0 0, .slice none 0 0] 107)) ∨
  (∃ v1 v2, e = .returned (.tuple #[v1, v2, .bool false]) ∧ ¬ (Sm13 ds ms.length ∧ CatIs ds ms lv sc 0 0) ∧ Kept w w')
set_option maxHeartbeats 8000000 in
set_option maxRecDepth 100000 in
theorem law13_open (a : Option Addr) (n c : Nat) (ds : List Dm) (na : Nat → Option Addr × Nat × Nat) (b : Option Addr) (m d : Nat) (ms : List ByteArray) (lv sc : Int) (w : World) (hs : Dss w a n ds na) (hm : Ss w b m ms) (hmz : ∀ i, i < ms.length → (msA ms i).size ≤ maxLen) :
    Calls Tryz.prog 8 #[.agg #[.slice a n c, .slice b m d, .int .i64 lv, .int .i64 sc]] w (OpenQ w ds ms lv sc) := by
  have hln := hs.len
  have hlm := hm.len
  subst hln
  subst hlm
  have hbm := hm.big
  have hbig := hs.big
  unfold maxLen at hbm hbig
  have HS := hidMk hs
  have HN1 := hidMk (show ∀ y, Kept w y → _ from fun y hy => dims_New a ds.length c ds na b ms.length d ms lv sc y (hs.kept hy) (hm.kept hy) hmz)
  have HN2 := hidMk (show ∀ y, Kept w y → _ from fun y hy => ref6_New a ds.length c ds na b ms.length d ms lv sc y (hs.kept hy) (hm.kept hy) hmz)
  have HCN := hidMk (fun (hc : CatOk ds ms) => catok_nodes hc hs rfl)
  have HNB := hidMk hs.nmb
  clear hs hm hmz
  go_enter Tryz.func8, Tryz.ntmps8
  go_wp2_with fail
  refine gen_world (f := fun W => Code.wp _ _ _ _ W) (fun W => Kept w W ∧ W.cell? ⟨w.heap.size, 0, none⟩ = some (.slice a ds.length c) ∧ W.cell? ⟨w.heap.size, 1, none⟩ = some (.slice b ms.length d) ∧ W.cell? ⟨w.heap.size, 2, none⟩ = some (.int .i64 lv) ∧ W.cell? ⟨w.heap.size, 3, none⟩ = some (.int .i64 sc)) ⟨(Kept.refl w).alloc _, by simp, by simp, by simp, by simp⟩ ?_
  rintro w1 ⟨kW, y0, y1, y2, y3⟩
  have HK1 := hidMk kW
  clear kW
  go_loopg [5, 6] ds.length (fun g pv x wr => ∃ (k : Nat) (P : Int), k + g = ds.length ∧ x = .int .i64 k ∧ pv = .int .i64 P ∧ wr = w1 ∧ Hid ((k ≤ 4 → P = prN ds k) ∧ ∀ j, j < k → (dmL ds j).length ≤ 12))
  case atStart => exact ⟨0, 1, by omega, rfl, rfl, rfl, hidMk ⟨fun _ => rfl, fun j hj => absurd hj (by omega)⟩⟩
  case round =>
    obtain ⟨k, P, hkg, rfl, rfl, rfl, HJ⟩ := hrel
    have HKG := hidMk hkg
    by_cases hkn : k < ds.length
    · obtain ⟨bb, oo, rfl, hb, hcs⟩ := HS.out.cells (by omega)
      have c1 := HK1.out.cellp (hcs k hkn).2
      have hl := (HS.out.nds k hkn).len
      have hl2 := (HS.out.nds k hkn).big
      unfold maxLen at hl2
      have hk1 : (k : Int) < ds.length := by omega
      have HYES := hidMk (show (dmL ds k).length ≤ 12 → (k + 1 ≤ 4 → wrap64 (P * ((dmL ds k).length : Int)) = prN ds (k + 1)) ∧ ∀ j, j < k + 1 → (dmL ds j).length ≤ 12 from fun e => by
        have hall : ∀ j, j < k + 1 → (dmL ds j).length ≤ 12 := fun j hj => by
          by_cases e' : j = k
          · subst e'; exact e
          · exact HJ.out.2 j (by omega)
        refine ⟨fun h4 => ?_, hall⟩
        rw [HJ.out.1 (by omega)]
        have := prN_small h4 hall
        exact wrap_id _ ⟨this.1, by have := this.2; unfold prN at this; omega⟩)
      have HNO := hidMk (show ¬ (dmL ds k).length ≤ 12 → ¬ Sm13 ds ms.length from fun e h => e (h.2.2.1 k (by omega)))
      rw [hl] at HYES HNO
      unfold slv at c1
      clear hcs hkg hl
      generalize na k = q at *
      obtain ⟨q1, q2, q3⟩ := q
      by_cases hq : q2 ≤ 12
      · have HY2 := hidMk (HYES.out hq)
        have hq' : ¬ ((12 : Int) < q2) := by omega
        simp only at c1 hl2
        go_wp2_with fail
        go_roundg (gk - 1)
        case measure => have := HKG.out; omega
        case rel => exact ⟨k + 1, _, by have := HKG.out; omega, by go_num, rfl, rfl, HY2⟩
      · have HN2 := hidMk (HNO.out hq)
        have hq' : (12 : Int) < q2 := by omega
        simp only at c1 hl2
        go_wp2_with fail
        go_ret3
        exact .inr ⟨_, _, rfl, fun e => HN2.out e.1, HK1.out⟩
    · have hk1 : ¬ ((k : Int) < ds.length) := by omega
      obtain rfl : k = ds.length := by omega
      by_cases hd4 : ds.length ≤ 4
      · by_cases hm4 : ms.length ≤ 4
        · by_cases hp : prN ds ds.length ≤ 150
          · have HYS := hidMk (show Sm13 ds ms.length from ⟨hd4, hm4, HJ.out.2, hp⟩)
            have hP := HJ.out.1 hd4
            subst hP
            have g1 : ¬ ((4 : Int) < ds.length) := by omega
            have g2 : ¬ ((4 : Int) < ms.length) := by omega
            have g3 : ¬ ((150 : Int) < prN ds ds.length) := by omega
            generalize prN ds ds.length = P at *
            go_wp2_with fail
            refine (HN1.out _ HK1.out).mono ?_
            rintro e w2 (⟨w0, p, tp, ma, mc, dv, rfl, hc, hD, hk⟩ | ⟨at_, er, rfl, her, hc, hk⟩)
            · have HC := hidMk hc
              have HD := hidMk hD
              have HK2 := hidMk (HK1.out.trans hk)
              have z0 := hk.cellp y0
              have z1 := hk.cellp y1
              have z2 := hk.cellp y2
              have z3 := hk.cellp y3
              clear hc hD hk y0 y1 y2 y3
              go_wp2_with fail
              refine (HN2.out _ HK2.out).mono ?_
              rintro e w3 (⟨q, rt, rfl, hc2, hR, hk3⟩ | ⟨at_, er, rfl, her, hc2, hk3⟩)
              · have HR := hidMk hR
                have HK3 := hidMk (HK2.out.trans hk3)
                have HD3 := hidMk (HD.out.kept hk3)
                have HOK := hidMk (cat_ok HC.out)
                have HNW := hidMk (coord_New HD3.out HOK.out.d4 (HCN.out HOK.out) HNB.out HOK.out.m4)
                clear hR hk3 hc2 z0 z1 z2 z3
                go_wp2_with fail
                refine HNW.out.mono ?_
                rintro e w4 ⟨s, rv, rfl, hsp, hsl, hk4⟩
                have HSW := hidMk (sw_made HOK.out (HD3.out.kept hk4) hsp)
                have HR4 := hidMk (HR.out.kept hk4)
                have HK4 := hidMk (HK3.out.trans hk4)
                clear hsp hsl hk4 HNW
                go_wp2_with fail
                go_ret3
                exact .inl ⟨w4, s, p, tp, rv, q, rt, rfl, HYS.out, HC.out, HSW.out, HR4.out, HK4.out, rfl⟩
              · exact absurd (cat_one HC.out hc2).2.symm her
            · have HC := hidMk hc
              have HE := hidMk her
              have HK2 := hidMk (HK1.out.trans hk)
              have z0 := hk.cellp y0
              have z1 := hk.cellp y1
              have z2 := hk.cellp y2
              have z3 := hk.cellp y3
              clear hc hk y0 y1 y2 y3
              go_wp2_with fail
              refine (HN2.out _ HK2.out).mono ?_
              rintro e w3 (⟨q, rt, rfl, hc2, hR, hk3⟩ | ⟨at2, er2, rfl, her2, hc2, hk3⟩)
              · exact absurd (cat_one HC.out hc2).2 HE.out
              · have HK3 := hidMk (HK2.out.trans hk3)
                clear hk3 hc2 z0 z1 z2 z3
                go_wp2_with fail
                refine (n_New _).mono ?_
                rintro e w4 ⟨rfl, hw4⟩
                rw [hw4]
                clear hw4 w4
                go_wp2_with fail
                go_ret3
                exact .inr ⟨_, _, rfl, fun h => HE.out (cat_one HC.out h.2).2, HK3.out.alloc _⟩
          · have hP := HJ.out.1 hd4
            subst hP
            have g1 : ¬ ((4 : Int) < ds.length) := by omega
            have g2 : ¬ ((4 : Int) < ms.length) := by omega
            have g3 : ((150 : Int) < prN ds ds.length) := by omega
            have HNS := hidMk (show ¬ Sm13 ds ms.length from fun e => hp e.2.2.2)
            clear hp
            generalize prN ds ds.length = P at *
            go_wp2_with fail
            go_ret3
            exact .inr ⟨_, _, rfl, fun e => HNS.out e.1, HK1.out⟩
        · have g1 : ¬ ((4 : Int) < ds.length) := by omega
          have g2 : ((4 : Int) < ms.length) := by omega
          have HNS := hidMk (show ¬ Sm13 ds ms.length from fun e => hm4 e.2.1)
          go_wp2_with fail
          go_ret3
          exact .inr ⟨_, _, rfl, fun e => HNS.out e.1, HK1.out⟩
      · have g1 : ((4 : Int) < ds.length) := by omega
        have HNS := hidMk (show ¬ Sm13 ds ms.length from fun e => hd4 e.1)
        go_wp2_with fail
        go_ret3
        exact .inr ⟨_, _, rfl, fun e => HNS.out e.1, HK1.out⟩
end Go.Proofs.YtmedgkccicbieaaGreat
namespace Go.Proofs.YtmedgkccicbieaaGreat
open Go.RowKit Go.Maps
set_option linter.unusedSimpArgs false
set_option linter.unusedVariables false

theorem rise_le : ∀ {l : List Int} {a b : Int}, Rise l → (∀ x, x ∈ l → a ≤ x ∧ x < b) → a ≤ b → (l.length : Int) ≤ b - a := by
  intro l
  induction l with
  | nil => intro a b _ _ h; simp; omega
  | cons x l ih =>
    intro a b hr hm hab
    have hx := hm x (List.mem_cons_self ..)
    have hr' := List.pairwise_cons.1 hr
    have := ih (a := x + 1) (b := b) hr'.2 (fun y hy => ⟨by have := hr'.1 y hy; omega, (hm y (List.mem_cons_of_mem _ hy)).2⟩) (by omega)
    simp only [List.length_cons]
    omega
theorem leaves_le {ds : List Dm} {ms : List ByteArray} (h : Ct ds ms) (k : Nat) : 0 ≤ mulK (fun k => leas ds k) ms.length k ∧ mulK (fun k => leas ds k) ms.length k ≤ ms.length * prN ds (min k ds.length) := by
  induction k with
  | zero => simp [mulK, prN]
  | succ k ih =>
    obtain ⟨h1, h2⟩ := ih
    refine ⟨Int.mul_nonneg h1 (by show (0 : Int) ≤ ((leas ds k : Nat) : Int); omega), ?_⟩
    show mulK (fun k => leas ds k) ms.length k * (leas ds k : Int) ≤ _
    by_cases hk : k < ds.length
    · rw [show min (k + 1) ds.length = k + 1 by omega]
      rw [show min k ds.length = k by omega] at h2
      rw [leas_in hk]
      have hl := lvs_len (h.tr k hk)
      show _ ≤ (ms.length : Int) * (prN ds k * ((dmL ds k).length : Int))
      rw [← Int.mul_assoc]
      exact Int.mul_le_mul h2 (by omega) (by omega) (Int.le_trans h1 h2)
    · rw [leas_out hk, show min (k + 1) ds.length = min k ds.length by omega]
      simpa using h2
theorem leaves_few {ds : List Dm} {ms : List ByteArray} (h : Ct ds ms) (sm : Sm13 ds ms.length) : 0 ≤ mulK (fun k => leas ds k) ms.length 4 ∧ mulK (fun k => leas ds k) ms.length 4 ≤ 600 := by
  obtain ⟨h1, h2⟩ := leaves_le h 4
  refine ⟨h1, Int.le_trans h2 ?_⟩
  rw [show min 4 ds.length = ds.length by have := sm.1; omega]
  have h3 := sm.2.2.2
  have h4 : (ms.length : Int) ≤ 4 := by have := sm.2.1; omega
  have h5 := (prN_small sm.1 sm.2.2.1).1
  exact Int.le_trans (Int.mul_le_mul h4 h3 h5 (by omega)) (by decide)
theorem und_few {ds : List Dm} {ms : List ByteArray} (h : Ct ds ms) (sm : Sm13 ds ms.length) (cm : Int) (at_ : Nat → Int) : (undL ms ds cm at_).length ≤ 1000 ∧ ∀ y, y ∈ undL ms ds cm at_ → isI y ∧ 0 ≤ y := by
  have hN := leaves_few h sm
  have hm : ∀ y, y ∈ undL ms ds cm at_ → 0 ≤ y ∧ y < mulK (fun k => leas ds k) ms.length 4 := fun y hy => ((mem_und h).1 hy).1
  constructor
  · have := rise_le (und_rise h cm at_) hm hN.1
    omega
  · intro y hy
    have := hm y hy
    exact ⟨by unfold isI; omega, this.1⟩
theorem cat_load4 {w : World} {g : Nat} {v0 v1 v2 v3 : Value} (c0 : w.cell? ⟨g, 0, none⟩ = some v0) (c1 : w.cell? ⟨g, 1, none⟩ = some v1) (c2 : w.cell? ⟨g, 2, none⟩ = some v2) (c3 : w.cell? ⟨g, 3, none⟩ = some v3) : (loadVar 25 ⟨g, 0, none⟩).run Tryz.prog w = .ok (.agg #[v0, v1, v2, v3]) w := by
  have hl := run_loadCells_list (P := Tryz.prog) w ⟨g, 0, none⟩ [v0, v1, v2, v3] (fun j u hu => by
    have hadd : (⟨g, 0, none⟩ : Addr).add j = ⟨g, j, none⟩ := by unfold Addr.add; split <;> simp_all
    rw [hadd]
    have hj : j < 4 := by
      have := (List.getElem?_eq_some_iff.1 hu).1
      simpa using this
    have : j = 0 ∨ j = 1 ∨ j = 2 ∨ j = 3 := by omega
    rcases this with rfl | rfl | rfl | rfl <;> simp_all)
  have hi : (Tryz.prog.info? 25).map (·.size) = some 4 := by kernel_rfl
  obtain ⟨i, h1, h2⟩ := Option.map_eq_some_iff.1 hi
  simp only [List.length_cons, List.length_nil, Nat.reduceAdd] at hl
  simp [loadVar, Sem.run_bind, Tryz.isAgg25, sizeOf, typeInfo, h1, h2, hl]
/-- What small tells: the fixed catalogue. -/
def SmlP (w : World) (e : Ending) (w' : World) : Prop := ∃ g q b, e = .returned (.agg #[.slice (some ⟨g, 0, none⟩) 1 1, .slice (some ⟨b, 0, none⟩) 1 1, .int .i64 9, .int .i64 3]) ∧ w'.cell? ⟨g, 0, none⟩ = some (.string ⟨#[120]⟩) ∧ w'.cell? ⟨g, 1, none⟩ = some (.slice (some ⟨q, 0, none⟩) 3 3) ∧ Ns w' (some ⟨q, 0, none⟩) 3 k6 ∧ w'.cell? ⟨b, 0, none⟩ = some (.string ⟨#[109]⟩) ∧ Kept w w'
set_option maxHeartbeats 2000000 in
theorem law13_small (w : World) : Calls Tryz.prog 46 #[] w (SmlP w) := by
  go_enter Tryz.func46, Tryz.ntmps46
  go_wp2_with fail
  refine bodyPost_ret (results_cell1 rfl _ _ w.heap.size _ rfl (cat_load4 (v0 := .slice (some ⟨w.heap.size + 1 + 1, 0, none⟩) 1 1) (v1 := .slice (some ⟨w.heap.size + 1 + 1 + 1, 0, none⟩) 1 1) (v2 := .int .i64 9) (v3 := .int .i64 3) ?c0 ?c1 ?c2 ?c3)) rfl ⟨w.heap.size + 1 + 1, w.heap.size + 1, w.heap.size + 1 + 1 + 1, rfl, ?c4, ?c5, ?c6, ?c7, ((((Kept.refl w).alloc _).alloc _).alloc _).alloc _⟩
  case c0 => exact ((((Kept.refl _).alloc _).alloc _).alloc _).cellp (new_cell _ _ _ _ 0 _ rfl rfl)
  case c1 => exact ((((Kept.refl _).alloc _).alloc _).alloc _).cellp (new_cell _ _ _ _ 1 _ rfl rfl)
  case c2 => exact ((((Kept.refl _).alloc _).alloc _).alloc _).cellp (new_cell _ _ _ _ 2 _ rfl rfl)
  case c3 => exact ((((Kept.refl _).alloc _).alloc _).alloc _).cellp (new_cell _ _ _ _ 3 _ rfl rfl)
  case c4 => exact ((Kept.refl _).alloc _).cellp (new_cell _ _ _ _ 0 _ (by simp) rfl)
  case c5 => exact ((Kept.refl _).alloc _).cellp (new_cell _ _ _ _ 1 _ (by simp) rfl)
  case c6 =>
    have := k6_ns (w.alloc (.cells #[.slice (some ⟨w.heap.size + 1 + 1, 0, none⟩) 1 1, .slice (some ⟨w.heap.size + 1 + 1 + 1, 0, none⟩) 1 1, .int .i64 9, .int .i64 3] 25)) 167
    rw [show (w.alloc (.cells #[.slice (some ⟨w.heap.size + 1 + 1, 0, none⟩) 1 1, .slice (some ⟨w.heap.size + 1 + 1 + 1, 0, none⟩) 1 1, .int .i64 9, .int .i64 3] 25)).heap.size = w.heap.size + 1 by simp] at this
    exact this.kept (((Kept.refl _).alloc _).alloc _)
  case c7 => exact new_cell _ _ _ _ 0 _ (by simp) rfl
theorem k13_cat : CatIs ds7 ms7 9 3 0 0 := by
  refine .inr ⟨by decide, .inr ⟨fun j hj => ?_, .inr ⟨fun j hj => ?_, by decide +kernel⟩, rfl⟩⟩
  · have : j = 0 := by have : ds7.length = 1 := rfl; omega
    subst this
    exact .inr (.inr ⟨by decide +kernel, by decide +kernel, 0, .inr ⟨by decide, .inl ⟨k6_good, rfl, rfl⟩⟩⟩)
  · have : j = 0 := by have : ms7.length = 1 := rfl; omega
    subst this
    decide +kernel
theorem k13_sm : Sm13 ds7 ms7.length := ⟨by decide, by decide, fun k hk => by
  have : k = 0 := by have : ds7.length = 1 := rfl; omega
  subst this
  decide, by decide⟩
/-- The cells that known asks for. -/
def z13 : Cl := (0, 0, 0, 0, 0)
def a13 : Cl := (0, 1, 0, 0, 0)
theorem z13_ix : ixC ms7 ds7 z13 = 0 := by decide +kernel
theorem a13_ix : ixC ms7 ds7 a13 = 1 := by decide +kernel
theorem z13_und : undL ms7 ds7 z13.1 (clT z13) = [0, 1] := by decide +kernel
open Classical in
theorem wi_iff {ms : List ByteArray} {ds : List Dm} {x y : Cl} : wiC ms ds x y = true ↔ inC ms ds x.1 (clT x) y.1 (clT y) := by
  unfold wiC
  exact decide_eq_true_iff
theorem a13_in : wiC ms7 ds7 a13 z13 = true := by
  refine wi_iff.2 ⟨by decide +kernel, by decide +kernel, rfl, fun j hj => ?_⟩
  have : j = 0 := by have : ds7.length = 1 := rfl; omega
  subst this
  decide +kernel
end Go.Proofs.YtmedgkccicbieaaGreat
namespace Go.Proofs.YtmedgkccicbieaaGreat
open Go.RowKit Go.Maps
set_option linter.unusedSimpArgs false
set_option linter.unusedVariables false

set_option maxHeartbeats 8000000 in
set_option maxRecDepth 100000 in
theorem law13_known (w : World) : Calls Tryz.prog 9 #[] w fun e w' => e = .returned (.bool true) ∧ Kept w w' := by
  have HSM := hidMk (law13_small w)
  have HOP := hidMk (fun (W : World) g q b (h1 : W.cell? ⟨g, 0, none⟩ = some (.string ⟨#[120]⟩)) (h2 : W.cell? ⟨g, 1, none⟩ = some (.slice (some ⟨q, 0, none⟩) 3 3)) (hn : Ns W (some ⟨q, 0, none⟩) 3 k6) (h3 : W.cell? ⟨b, 0, none⟩ = some (.string ⟨#[109]⟩)) => law13_open (some ⟨g, 0, none⟩) 1 1 ds7 _ (some ⟨b, 0, none⟩) 1 1 ms7 9 3 W (k7_dss h1 h2 hn) (one_ss h3) k7_sz)
  go_enter Tryz.func9, Tryz.ntmps9
  go_wp2_with fail
  refine HSM.out.mono ?_
  rintro e w1 ⟨g, q, b, rfl, x1, x2, x3, x4, k1⟩
  have H2 := hidMk (HOP.out w1 g q b x1 x2 x3 x4)
  have HK1 := hidMk k1
  clear x1 x2 x3 x4 k1 HOP
  go_wp2_with fail
  refine H2.out.mono ?_
  rintro e w2 (⟨W0, s, p, tp, rv, q, rt, rfl, _, _, hsw, _, hk, hw1⟩ | ⟨v1, v2, rfl, hno, _⟩)
  rotate_left
  · exact absurd ⟨k13_sm, k13_cat⟩ hno
  have k02 : Kept W0 w2 := by rw [hw1]; exact (Kept.refl _).alloc _
  have HK2 := hidMk (HK1.out.trans (hk.trans k02))
  have HSW := hidMk (hsw.keep k02)
  generalize W0.heap.size = rb at *
  clear hw1 hk k02 hsw H2 HSM HK1
  obtain ⟨WA, hWA⟩ : ∃ V, V = (w2.alloc (.cells #[.slice none 0 0] 37)).alloc (.cells #[.int .i64 0, .int .i64 1, .int .i64 0, .int .i64 0, .int .i64 0] 29) := ⟨_, rfl⟩
  have kA : Kept w2 WA := by rw [hWA]; exact ((Kept.refl _).alloc _).alloc _
  have HKA := hidMk kA
  obtain ⟨hb, hhb⟩ : ∃ x, x = w2.heap.size := ⟨_, rfl⟩
  have HX := hidMk (show WA.cell? ⟨hb, 0, none⟩ = some (.slice none 0 0) ∧ WA.cell? ⟨hb + 1, 0, none⟩ = some (.int .i64 0) ∧ WA.cell? ⟨hb + 1, 1, none⟩ = some (.int .i64 1) ∧ WA.cell? ⟨hb + 1, 2, none⟩ = some (.int .i64 0) ∧ WA.cell? ⟨hb + 1, 3, none⟩ = some (.int .i64 0) ∧ WA.cell? ⟨hb + 1, 4, none⟩ = some (.int .i64 0) from by
    rw [hWA, hhb]
    exact ⟨((Kept.refl _).alloc _).cellp (new_cell _ _ _ _ 0 _ rfl rfl), new_cell _ _ _ _ 0 _ (by simp) rfl, new_cell _ _ _ _ 1 _ (by simp) rfl, new_cell _ _ _ _ 2 _ (by simp) rfl, new_cell _ _ _ _ 3 _ (by simp) rfl, new_cell _ _ _ _ 4 _ (by simp) rfl⟩)
  have HAD := hidMk (show ∀ X, Kept WA X → Calls Tryz.prog 12 #[.agg #[.slice none 0 0], .pointer (some ⟨s, 0, none⟩), .agg #[.int .i64 0, .int .i64 0, .int .i64 0, .int .i64 0, .int .i64 0]] X fun e w' => (∃ a' c', e = .returned (.tuple #[.agg #[.slice a' 1 c'], .int .i64 0]) ∧ Hd w' ms7 ds7 a' c' [z13]) ∧ Kept X w' from fun X kX => by
    refine (hd_Add (HSW.out.keep (kA.trans kX)) (hd_nil X ms7 ds7) z13).mono ?_
    rintro e w' ⟨a', c', l', rfl, hd, hm, hl, k, -⟩
    have e0 : addE ms7 ds7 [] z13 = 0 := by unfold addE; rw [z13_ix]; rfl
    have hl1 : l' = [z13] := by
      have h1 := hl e0
      have h2 := (hm z13).2 ⟨e0, .inl rfl⟩
      match l', h1, h2 with
      | [y], _, h2 => simp at h2; rw [h2]
    subst hl1
    rw [e0]
    exact ⟨⟨a', c', rfl, hd⟩, k⟩)
  have HDR := hidMk (show ∀ X, Kept WA X → Calls Tryz.prog 10 #[.agg #[.slice none 0 0], .pointer (some ⟨s, 0, none⟩), .agg #[.int .i64 0, .int .i64 1, .int .i64 0, .int .i64 0, .int .i64 0]] X fun e w' => (∃ a' n' c', e = .returned (.tuple #[.agg #[.slice a' n' c'], .int .i64 10])) ∧ Kept X w' from fun X kX => by
    refine (hd_Drop (HSW.out.keep (kA.trans kX)) (hd_nil X ms7 ds7) a13).mono ?_
    rintro e w' ⟨a', c', l', rfl, hd, hm, k, -⟩
    have e0 : dropE ms7 ds7 [] a13 = 10 := by unfold dropE; rw [a13_ix]; rfl
    rw [e0]
    exact ⟨⟨a', _, c', rfl⟩, k⟩)
  have HHS := hidMk (show ∀ X a c, Hd X ms7 ds7 a c [z13] → ∀ x, Calls Tryz.prog 16 #[.agg #[.slice a 1 c], clV x] X fun e w' => e = .returned (.bool (decide (x ∈ [z13]))) ∧ Kept X w' from fun X a c h x => hold_Has a c [z13] x X h.cq (by simp))
  have HWI := hidMk (show ∀ X a c, Kept WA X → Hd X ms7 ds7 a c [z13] → Calls Tryz.prog 18 #[.agg #[.slice a 1 c], .pointer (some ⟨s, 0, none⟩), .agg #[.int .i64 0, .int .i64 1, .int .i64 0, .int .i64 0, .int .i64 0]] X fun e w' => e = .returned (.bool true) ∧ Kept X w' from fun X a c kX h => by
    refine (hold_Within (HSW.out.keep (kA.trans kX)) a c [z13] a13 h.cq (by simp)).mono ?_
    rintro e w' ⟨rfl, k⟩
    exact ⟨by simp [a13_in], k⟩)
  have HLS := hidMk (show ∀ X, Calls Tryz.prog 15 #[.agg #[.slice none 0 0]] X fun e w' => (∃ a c, e = .returned (.slice a 0 c)) ∧ Kept X w' from fun X => by
    refine (hold_List none 0 [] X ⟨fun hp => absurd hp (by simp)⟩ (fun _ => ⟨rfl, rfl⟩) (by simp)).mono ?_
    rintro e w' ⟨v, rfl, ho, k⟩
    obtain ⟨a, c, rfl, _⟩ := ho.form
    exact ⟨⟨a, c, rfl⟩, k⟩)
  have HRG := hidMk (show ∀ X a c, Kept WA X → Hd X ms7 ds7 a c [z13] → Calls Tryz.prog 21 #[.agg #[.slice a 1 c], .pointer (some ⟨s, 0, none⟩)] X (SetPost X (regP ms7 ds7 [z13]) 40000) from fun X a c kX h => hold_Region (HSW.out.keep (kA.trans kX)) a c [z13] h.cq (by simp) (und_few HSW.out.ct k13_sm))
  clear kA
  go_wp2_with fail
  rw [← hWA, ← hhb]
  clear hWA hhb
  refine (HAD.out WA (Kept.refl _)).mono ?_
  rintro e w3 ⟨⟨ka, kc, rfl, hd3⟩, k3⟩
  have HD3 := hidMk hd3
  have HK3 := hidMk k3
  obtain ⟨x0, x1, x2, x3, x4, x5⟩ := HX.out
  have y0 := k3.cellp x0
  have y1 := k3.cellp x1
  have y2 := k3.cellp x2
  have y3 := k3.cellp x3
  have y4 := k3.cellp x4
  have y5 := k3.cellp x5
  have z0 : hb < w3.heap.size := cell_lt y0
  have z1 : hb + 1 < w3.heap.size := cell_lt y1
  clear hd3 k3 x0 x1 x2 x3 x4 x5
  obtain ⟨kb, hkb⟩ : ∃ x, x = w3.heap.size := ⟨_, rfl⟩
  have HKB := hidMk (show ∀ X, Kept (w3.alloc (.cells #[.slice ka 1 kc] 37)) X → X.cell? ⟨kb, 0, none⟩ = some (.slice ka 1 kc) ∧ kb < X.heap.size from fun X kX => by
    have h := kX.cellp (new_cell w3 _ 37 _ 0 _ hkb (by rfl))
    exact ⟨h, cell_lt h⟩)
  go_wp2_with fail
  refine (HDR.out _ (HK3.out.alloc _)).mono ?_
  rintro e w4 ⟨⟨da, dn, dc, rfl⟩, k4⟩
  have HK4 := hidMk ((HK3.out.alloc _).trans k4)
  have HD4 := hidMk ((HD3.out.kept ((Kept.refl _).alloc _)).kept k4)
  obtain ⟨u0, u1⟩ := HKB.out _ k4
  have q0 := k4.cellp (((Kept.refl w3).alloc _).cellp y0)
  have q1 := k4.cellp (((Kept.refl w3).alloc _).cellp y1)
  have q2 := k4.cellp (((Kept.refl w3).alloc _).cellp y2)
  have q3 := k4.cellp (((Kept.refl w3).alloc _).cellp y3)
  have q4 := k4.cellp (((Kept.refl w3).alloc _).cellp y4)
  have q5 := k4.cellp (((Kept.refl w3).alloc _).cellp y5)
  have z0' : hb < w4.heap.size := cell_lt q0
  have z1' : hb + 1 < w4.heap.size := cell_lt q1
  clear k4 y0 y1 y2 y3 y4 y5 z0 z1
  rw [← hkb]
  clear hkb
  obtain ⟨WB, hWB⟩ : ∃ V, V = w4.alloc (.cells #[.slice da dn dc] 37) := ⟨_, rfl⟩
  have kB : Kept w4 WB := by rw [hWB]; exact (Kept.refl _).alloc _
  have HKW := hidMk (HK4.out.trans kB)
  have HDB := hidMk (HD4.out.kept kB)
  have HQ := hidMk (show ∀ X, Kept WB X → X.cell? ⟨kb, 0, none⟩ = some (.slice ka 1 kc) ∧ X.cell? ⟨hb, 0, none⟩ = some (.slice none 0 0) ∧ X.cell? ⟨hb + 1, 0, none⟩ = some (.int .i64 0) ∧ X.cell? ⟨hb + 1, 1, none⟩ = some (.int .i64 1) ∧ X.cell? ⟨hb + 1, 2, none⟩ = some (.int .i64 0) ∧ X.cell? ⟨hb + 1, 3, none⟩ = some (.int .i64 0) ∧ X.cell? ⟨hb + 1, 4, none⟩ = some (.int .i64 0) ∧ hb < X.heap.size ∧ hb + 1 < X.heap.size ∧ kb < X.heap.size from fun X kX => by
    have k := kB.trans kX
    have a0 := k.cellp q0
    have a1 := k.cellp q1
    have a2 := k.cellp u0
    exact ⟨a2, a0, a1, k.cellp q2, k.cellp q3, k.cellp q4, k.cellp q5, cell_lt a0, cell_lt a1, cell_lt a2⟩)
  clear kB
  go_wp2_with fail
  rw [← hWB]
  clear hWB q0 q1 q2 q3 q4 q5 u0 u1 z0' z1'
  refine (HHS.out _ ka kc HDB.out z13).mono ?_
  rintro e w5 ⟨rfl, k5⟩
  have HT5 := hidMk (k5)
  obtain ⟨t0, t1, t2, t3, t4, t5, t6, t7, t8, t9⟩ := HQ.out _ HT5.out
  clear k5
  go_wp2_with fail
  clear t0 t1 t2 t3 t4 t5 t6 t7 t8 t9
  refine (HHS.out _ ka kc (HDB.out.kept HT5.out) a13).mono ?_
  rintro e w6 ⟨rfl, k6⟩
  have HT6 := hidMk (HT5.out.trans k6)
  obtain ⟨t0, t1, t2, t3, t4, t5, t6, t7, t8, t9⟩ := HQ.out _ HT6.out
  clear k6
  go_wp2_with fail
  clear t0 t1 t2 t3 t4 t5 t6 t7 t8 t9
  refine (HWI.out _ ka kc (HKW.out.trans HT6.out) (HDB.out.kept HT6.out)).mono ?_
  rintro e w7 ⟨rfl, k7⟩
  have HT7 := hidMk (HT6.out.trans k7)
  obtain ⟨t0, t1, t2, t3, t4, t5, t6, t7, t8, t9⟩ := HQ.out _ HT7.out
  clear k7
  go_wp2_with fail
  clear t0 t1 t2 t3 t4 t5 t6 t7 t8 t9
  refine (HLS.out _).mono ?_
  rintro e w8 ⟨⟨a8, c8, rfl⟩, k8⟩
  have HT8 := hidMk (HT7.out.trans k8)
  obtain ⟨t0, t1, t2, t3, t4, t5, t6, t7, t8, t9⟩ := HQ.out _ HT8.out
  clear k8
  go_wp2_with fail
  clear t0 t1 t2 t3 t4 t5 t6 t7 t8 t9
  refine (HRG.out _ ka kc (HKW.out.trans HT8.out) (HDB.out.kept HT8.out)).mono ?_
  rintro e w9 ⟨v9, m9, rfl, hs9, hN9, hm9, hl9, k9, -⟩
  have hE : expd m9 = [0, 1] := by
    refine riseR_ext (expd_rise hN9) (by unfold RiseR; decide) (fun y => ?_)
    rw [mem_expd, hm9]
    unfold regP
    constructor
    · rintro ⟨k, hk, hy⟩
      have : k = 0 := by simpa using hk
      subst this
      rw [show clA [z13] 0 = z13 from rfl, z13_und] at hy
      exact hy
    · intro hy
      exact ⟨0, by simp, by rw [show clA [z13] 0 = z13 from rfl, z13_und]; exact hy⟩
  have HAL := hidMk (region_All v9 m9 w9 hs9 hN9 (by rw [hE]; decide) (by omega))
  rw [hE] at HAL
  have HT9 := hidMk (HT8.out.trans k9)
  clear hs9 hN9 hm9 hl9 k9 hE
  go_wp2_with fail
  refine HAL.out.mono ?_
  rintro e w10 ⟨a10, c10, rfl, s10, k10⟩
  have HT10 := hidMk (HT9.out.trans k10)
  have HIN := hidMk (fun t c => ref_Ints a10 (some ⟨w10.heap.size, 0, none⟩) 2 2 c10 c [0, 1] [0, 1] _ (s10.kept ((Kept.refl w10).alloc _)) (sl_new .i64 w10 [0, 1] t (by unfold maxLen; decide)))
  clear s10 k10 HAL
  go_wp2_with fail
  refine (HIN.out _ _).mono ?_
  rintro e w11 ⟨rfl, k11⟩
  have HT11 := hidMk ((HT10.out.alloc _).trans k11)
  clear k11
  go_wp2_with fail
  go_ret
  exact ⟨by simp, HK2.out.trans (HKA.out.trans (HKW.out.trans HT11.out))⟩
end Go.Proofs.YtmedgkccicbieaaGreat
namespace Go.Proofs.YtmedgkccicbieaaGreat
open Go.RowKit Go.Maps
set_option linter.unusedSimpArgs false
set_option linter.unusedVariables false

/-- Holds in a block of the caller's. -/
structure Hv (w0 w : World) (ms : List ByteArray) (ds : List Dm) (hb : Nat) (a : Option Addr) (c : Nat) (l : List Cl) : Prop where
  cell : w.cell? ⟨hb, 0, none⟩ = some (.slice a l.length c)
  fz : w.frozen? ⟨hb, 0, none⟩ = false
  hd : Hd w ms ds a c l
  ap : ∀ ad, a = some ad → ad.block ≠ hb
  kp : Kept w0 w
  nw : w0.heap.size ≤ hb
section
variable {w0 w : World} {ms : List ByteArray} {ds : List Dm} {hb : Nat} {a : Option Addr} {c : Nat} {l : List Cl}
theorem Hv.lt (h : Hv w0 w ms ds hb a c l) : hb < w.heap.size := cell_lt h.cell
theorem Hv.keep (h : Hv w0 w ms ds hb a c l) {w' : World} (k : Kept w w') : Hv w0 w' ms ds hb a c l :=
  ⟨k.cellp h.cell, (k.frozen (p := ⟨hb, 0, none⟩) h.lt).trans h.fz, h.hd.kept k, h.ap, h.kp.trans k, h.nw⟩
theorem Hd.chg {S : Nat → Prop} {w w' : World} (h : Hd w ms ds a c l) (k : Chg S w w') (hs : ∀ ad, a = some ad → ¬ S ad.block) : Hd w' ms ds a c l := ⟨h.cq.chg k (fun _ ad e => hs ad e), h.le, h.nl, h.rs, h.ok, h.sm, h.sp⟩
theorem Hv.set (h : Hv w0 w ms ds hb a c l) {a' : Option Addr} {c' : Nat} {l' : List Cl} {n : Nat} (hn : n = l'.length) (hd : Hd w ms ds a' c' l') (ap : ∀ ad, a' = some ad → ad.block ≠ hb) : Hv w0 (w.setCell ⟨hb, 0, none⟩ (.slice a' n c')) ms ds hb a' c' l' := by
  subst hn
  have k : Chg (· = hb) w (w.setCell ⟨hb, 0, none⟩ (.slice a' l'.length c')) := chg_set _ _ _ _
  exact ⟨World.cell?_setCell_same _ _ _ h.cell, by simpa using h.fz, hd.chg k (fun ad e f => ap ad e f), ap, k.kept h.kp (fun j e => by have := h.nw; omega), h.nw⟩
end
/-- What Add gives, its parts by letters. -/
def AddQ (w : World) (ms : List ByteArray) (ds : List Dm) (l : List Cl) (x : Cl) (e : Ending) (w' : World) : Prop :=
  ∃ (a' : Option Addr) (n' c' : Nat) (r : Int), e = .returned (.tuple #[.agg #[.slice a' n' c'], .int .i64 r]) ∧ (r = addE ms ds l x ∧ ∃ l', n' = l'.length ∧ Hd w' ms ds a' c' l' ∧ (∀ y, y ∈ l' ↔ addE ms ds l x = 0 ∧ (y = x ∨ y ∈ l)) ∧ (addE ms ds l x = 0 → l'.length = l.length + 1) ∧ ∀ ad, a' = some ad → w.heap.size ≤ ad.block) ∧ Kept w w'
def DropQ (w : World) (ms : List ByteArray) (ds : List Dm) (l : List Cl) (x : Cl) (e : Ending) (w' : World) : Prop :=
  ∃ (a' : Option Addr) (n' c' : Nat) (r : Int), e = .returned (.tuple #[.agg #[.slice a' n' c'], .int .i64 r]) ∧ (r = dropE ms ds l x ∧ ∃ l', n' = l'.length ∧ Hd w' ms ds a' c' l' ∧ (∀ y, y ∈ l' ↔ dropE ms ds l x = 0 ∧ y ∈ l ∧ y ≠ x) ∧ ∀ ad, a' = some ad → w.heap.size ≤ ad.block) ∧ Kept w w'
theorem hd_AddQ {w : World} {s p : Nat} {ds : List Dm} {ms : List ByteArray} {tp : Nat → Nat} {rv : Nat → Option Addr × Nat} (h : SW w s p ds ms tp rv) {a : Option Addr} {c : Nat} {l : List Cl} (hd : Hd w ms ds a c l) (x : Cl) :
    Calls Tryz.prog 12 #[.agg #[.slice a l.length c], .pointer (some ⟨s, 0, none⟩), clV x] w (AddQ w ms ds l x) := by
  refine (hd_Add h hd x).mono ?_
  rintro e w' ⟨a', c', l', rfl, h1, h2, h3, h4, h5⟩
  exact ⟨a', _, c', _, rfl, ⟨rfl, l', rfl, h1, h2, h3, h5⟩, h4⟩
theorem hd_DropQ {w : World} {s p : Nat} {ds : List Dm} {ms : List ByteArray} {tp : Nat → Nat} {rv : Nat → Option Addr × Nat} (h : SW w s p ds ms tp rv) {a : Option Addr} {c : Nat} {l : List Cl} (hd : Hd w ms ds a c l) (x : Cl) :
    Calls Tryz.prog 10 #[.agg #[.slice a l.length c], .pointer (some ⟨s, 0, none⟩), clV x] w (DropQ w ms ds l x) := by
  refine (hd_Drop h hd x).mono ?_
  rintro e w' ⟨a', c', l', rfl, h1, h2, h4, h5⟩
  exact ⟨a', _, c', _, rfl, ⟨rfl, l', rfl, h1, h2, h5⟩, h4⟩
end Go.Proofs.YtmedgkccicbieaaGreat
