/- moietylaw13.open. -/
import Derived.Test.YtpkepkemjcjplaaGreatLawCo2
namespace Go.Proofs.YtpkepkemjcjplaaGreat
open Go.RowKit Go.Maps
set_option linter.unusedSimpArgs false
set_option linter.unusedVariables false

/-- How many nodes the first k dimensions have, multiplied. -/
def prN (ds : List Dm) : Nat → Int
  | 0 => 1
  | k + 1 => prN ds k * ((dmL ds k).length : Int)
theorem prN_le {ds : List Dm} {k : Nat} (h : ∀ j, j < k → (dmL ds j).length ≤ 12) : 0 ≤ prN ds k ∧ prN ds k ≤ 12 ^ k := by
  induction k with
  | zero => simp [prN]
  | succ k ih =>
    obtain ⟨h1, h2⟩ := ih (fun j hj => h j (by omega))
    have h3 := h k (by omega)
    constructor
    · exact Int.mul_nonneg h1 (by omega)
    · rw [prN, Int.pow_succ]
      exact Int.mul_le_mul h2 (by omega) (by omega) (Int.pow_nonneg (by omega))
theorem prN_small {ds : List Dm} {k : Nat} (hk : k ≤ 4) (h : ∀ j, j < k → (dmL ds j).length ≤ 12) : 0 ≤ prN ds k ∧ prN ds k ≤ 20736 := by
  obtain ⟨h1, h2⟩ := prN_le h
  refine ⟨h1, Int.le_trans h2 ?_⟩
  have : k = 0 ∨ k = 1 ∨ k = 2 ∨ k = 3 ∨ k = 4 := by omega
  rcases this with rfl | rfl | rfl | rfl | rfl <;> decide
theorem wrap_id (x : Int) (h : 0 ≤ x ∧ x ≤ 1000000) : wrap64 x = x := by unfold wrap64; omega
/-- A catalogue with few cells. -/
def Sm13 (ds : List Dm) (m : Nat) : Prop := ds.length ≤ 4 ∧ m ≤ 4 ∧ (∀ k, k < ds.length → (dmL ds k).length ≤ 12) ∧ prN ds ds.length ≤ 150
def OpenQ (w : World) (ds : List Dm) (ms : List ByteArray) (lv sc : Int) (e : Ending) (w' : World) : Prop :=
  (∃ W0 s p tp rv q rt, e = .returned (.tuple #[.pointer (some ⟨s, 0, none⟩), .pointer (some ⟨W0.heap.size, 0, none⟩), .bool true]) ∧ Sm13 ds ms.length ∧ CatIs ds ms lv sc 0 0 ∧ SW W0 s p ds ms tp rv ∧ RDm W0 q ds rt ms ∧ Kept w W0 ∧ w' = W0.alloc (.cells #[.pointer (some ⟨q, 0, none⟩), .slice none 0 0, .slice none 0 0, .slice none 0 0, .slice none 0 0, .slice none 0 0] 84)) ∨
  (∃ v1 v2, e = .returned (.tuple #[v1, v2, .bool false]) ∧ ¬ (Sm13 ds ms.length ∧ CatIs ds ms lv sc 0 0) ∧ Kept w w')
set_option maxHeartbeats 8000000 in
set_option maxRecDepth 100000 in
theorem law13_open (a : Option Addr) (n c : Nat) (ds : List Dm) (na : Nat → Option Addr × Nat × Nat) (b : Option Addr) (m d : Nat) (ms : List ByteArray) (lv sc : Int) (w : World) (hs : Dss w a n ds na) (hm : Ss w b m ms) (hmz : ∀ i, i < ms.length → (msA ms i).size ≤ maxLen) :
    Calls Tryz.prog 7 #[.agg #[.slice a n c, .slice b m d, .int .i64 lv, .int .i64 sc]] w (OpenQ w ds ms lv sc) := by
  have hln := hs.len
  have hlm := hm.len
  subst hln
  subst hlm
  have hbm := hm.big
  have hbig := hs.big
  unfold maxLen at hbm hbig
  have HS := hidMk hs
  have HN1 := hidMk (show ∀ y, Kept w y → _ from fun y hy => dims_New a ds.length c ds na b ms.length d ms lv sc y (hs.kept hy) (hm.kept hy) hmz)
  have HN2 := hidMk (show ∀ y, Kept w y → _ from fun y hy => ref6_New a ds.length c ds na b ms.length d ms lv sc y (hs.kept hy) (hm.kept hy) hmz)
  have HCN := hidMk (fun (hc : CatOk ds ms) => catok_nodes hc hs rfl)
  have HNB := hidMk hs.nmb
  clear hs hm hmz
  go_enter Tryz.func7, Tryz.ntmps7
  go_wp2_with fail
  refine gen_world (f := fun W => Code.wp _ _ _ _ W) (fun W => Kept w W ∧ W.cell? ⟨w.heap.size, 0, none⟩ = some (.slice a ds.length c) ∧ W.cell? ⟨w.heap.size, 1, none⟩ = some (.slice b ms.length d) ∧ W.cell? ⟨w.heap.size, 2, none⟩ = some (.int .i64 lv) ∧ W.cell? ⟨w.heap.size, 3, none⟩ = some (.int .i64 sc)) ⟨(Kept.refl w).alloc _, by simp, by simp, by simp, by simp⟩ ?_
  rintro w1 ⟨kW, y0, y1, y2, y3⟩
  have HK1 := hidMk kW
  clear kW
  go_loopg [5, 6] ds.length (fun g pv x wr => ∃ (k : Nat) (P : Int), k + g = ds.length ∧ x = .int .i64 k ∧ pv = .int .i64 P ∧ wr = w1 ∧ Hid ((k ≤ 4 → P = prN ds k) ∧ ∀ j, j < k → (dmL ds j).length ≤ 12))
  case atStart => exact ⟨0, 1, by omega, rfl, rfl, rfl, hidMk ⟨fun _ => rfl, fun j hj => absurd hj (by omega)⟩⟩
  case round =>
    obtain ⟨k, P, hkg, rfl, rfl, rfl, HJ⟩ := hrel
    have HKG := hidMk hkg
    by_cases hkn : k < ds.length
    · obtain ⟨bb, oo, rfl, hb, hcs⟩ := HS.out.cells (by omega)
      have c1 := HK1.out.cellp (hcs k hkn).2
      have hl := (HS.out.nds k hkn).len
      have hl2 := (HS.out.nds k hkn).big
      unfold maxLen at hl2
      have hk1 : (k : Int) < ds.length := by omega
      have HYES := hidMk (show (dmL ds k).length ≤ 12 → (k + 1 ≤ 4 → wrap64 (P * ((dmL ds k).length : Int)) = prN ds (k + 1)) ∧ ∀ j, j < k + 1 → (dmL ds j).length ≤ 12 from fun e => by
        have hall : ∀ j, j < k + 1 → (dmL ds j).length ≤ 12 := fun j hj => by
          by_cases e' : j = k
          · subst e'; exact e
          · exact HJ.out.2 j (by omega)
        refine ⟨fun h4 => ?_, hall⟩
        rw [HJ.out.1 (by omega)]
        have := prN_small h4 hall
        exact wrap_id _ ⟨this.1, by have := this.2; unfold prN at this; omega⟩)
      have HNO := hidMk (show ¬ (dmL ds k).length ≤ 12 → ¬ Sm13 ds ms.length from fun e h => e (h.2.2.1 k (by omega)))
      rw [hl] at HYES HNO
      unfold slv at c1
      clear hcs hkg hl
      generalize na k = q at *
      obtain ⟨q1, q2, q3⟩ := q
      by_cases hq : q2 ≤ 12
      · have HY2 := hidMk (HYES.out hq)
        have hq' : ¬ ((12 : Int) < q2) := by omega
        simp only at c1 hl2
        go_wp2_with fail
        go_roundg (gk - 1)
        case measure => have := HKG.out; omega
        case rel => exact ⟨k + 1, _, by have := HKG.out; omega, by go_num, rfl, rfl, HY2⟩
      · have HN2 := hidMk (HNO.out hq)
        have hq' : (12 : Int) < q2 := by omega
        simp only at c1 hl2
        go_wp2_with fail
        go_ret3
        exact .inr ⟨_, _, rfl, fun e => HN2.out e.1, HK1.out⟩
    · have hk1 : ¬ ((k : Int) < ds.length) := by omega
      obtain rfl : k = ds.length := by omega
      by_cases hd4 : ds.length ≤ 4
      · by_cases hm4 : ms.length ≤ 4
        · by_cases hp : prN ds ds.length ≤ 150
          · have HYS := hidMk (show Sm13 ds ms.length from ⟨hd4, hm4, HJ.out.2, hp⟩)
            have hP := HJ.out.1 hd4
            subst hP
            have g1 : ¬ ((4 : Int) < ds.length) := by omega
            have g2 : ¬ ((4 : Int) < ms.length) := by omega
            have g3 : ¬ ((150 : Int) < prN ds ds.length) := by omega
            generalize prN ds ds.length = P at *
            go_wp2_with fail
            refine (HN1.out _ HK1.out).mono ?_
            rintro e w2 (⟨w0, p, tp, ma, mc, dv, rfl, hc, hD, hk⟩ | ⟨at_, er, rfl, her, hc, hk⟩)
            · have HC := hidMk hc
              have HD := hidMk hD
              have HK2 := hidMk (HK1.out.trans hk)
              have z0 := hk.cellp y0
              have z1 := hk.cellp y1
              have z2 := hk.cellp y2
              have z3 := hk.cellp y3
              clear hc hD hk y0 y1 y2 y3
              go_wp2_with fail
              refine (HN2.out _ HK2.out).mono ?_
              rintro e w3 (⟨q, rt, rfl, hc2, hR, hk3⟩ | ⟨at_, er, rfl, her, hc2, hk3⟩)
              · have HR := hidMk hR
                have HK3 := hidMk (HK2.out.trans hk3)
                have HD3 := hidMk (HD.out.kept hk3)
                have HOK := hidMk (cat_ok HC.out)
                have HNW := hidMk (coord_New HD3.out HOK.out.d4 (HCN.out HOK.out) HNB.out HOK.out.m4)
                clear hR hk3 hc2 z0 z1 z2 z3
                go_wp2_with fail
                refine HNW.out.mono ?_
                rintro e w4 ⟨s, rv, rfl, hsp, hsl, hk4⟩
                have HSW := hidMk (sw_made HOK.out (HD3.out.kept hk4) hsp)
                have HR4 := hidMk (HR.out.kept hk4)
                have HK4 := hidMk (HK3.out.trans hk4)
                clear hsp hsl hk4 HNW
                go_wp2_with fail
                go_ret3
                exact .inl ⟨w4, s, p, tp, rv, q, rt, rfl, HYS.out, HC.out, HSW.out, HR4.out, HK4.out, rfl⟩
              · exact absurd (cat_one HC.out hc2).2.symm her
            · have HC := hidMk hc
              have HE := hidMk her
              have HK2 := hidMk (HK1.out.trans hk)
              have z0 := hk.cellp y0
              have z1 := hk.cellp y1
              have z2 := hk.cellp y2
              have z3 := hk.cellp y3
              clear hc hk y0 y1 y2 y3
              go_wp2_with fail
              refine (HN2.out _ HK2.out).mono ?_
              rintro e w3 (⟨q, rt, rfl, hc2, hR, hk3⟩ | ⟨at2, er2, rfl, her2, hc2, hk3⟩)
              · exact absurd (cat_one HC.out hc2).2 HE.out
              · have HK3 := hidMk (HK2.out.trans hk3)
                clear hk3 hc2 z0 z1 z2 z3
                go_wp2_with fail
                refine (n_New _).mono ?_
                rintro e w4 ⟨rfl, hw4⟩
                rw [hw4]
                clear hw4 w4
                go_wp2_with fail
                go_ret3
                exact .inr ⟨_, _, rfl, fun h => HE.out (cat_one HC.out h.2).2, HK3.out.alloc _⟩
          · have hP := HJ.out.1 hd4
            subst hP
            have g1 : ¬ ((4 : Int) < ds.length) := by omega
            have g2 : ¬ ((4 : Int) < ms.length) := by omega
            have g3 : ((150 : Int) < prN ds ds.length) := by omega
            have HNS := hidMk (show ¬ Sm13 ds ms.length from fun e => hp e.2.2.2)
            clear hp
            generalize prN ds ds.length = P at *
            go_wp2_with fail
            go_ret3
            exact .inr ⟨_, _, rfl, fun e => HNS.out e.1, HK1.out⟩
        · have g1 : ¬ ((4 : Int) < ds.length) := by omega
          have g2 : ((4 : Int) < ms.length) := by omega
          have HNS := hidMk (show ¬ Sm13 ds ms.length from fun e => hm4 e.2.1)
          go_wp2_with fail
          go_ret3
          exact .inr ⟨_, _, rfl, fun e => HNS.out e.1, HK1.out⟩
      · have g1 : ((4 : Int) < ds.length) := by omega
        have HNS := hidMk (show ¬ Sm13 ds ms.length from fun e => hd4 e.1)
        go_wp2_with fail
        go_ret3
        exact .inr ⟨_, _, rfl, fun e => HNS.out e.1, HK1.out⟩
end Go.Proofs.YtpkepkemjcjplaaGreat
