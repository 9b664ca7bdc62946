/- LockPlays: acts, one after the other, on both sides. -/
import Derived.Test.YtmedgkccicbieaaGreatPJp3B
import Derived.Deep.RegionHeld3
import Derived.Deep.CutRange
namespace Go.Proofs.YtmedgkccicbieaaGreat
open Go.RowKit Go.Maps
set_option linter.unusedSimpArgs false
set_option linter.unusedVariables false

theorem farJ {w : World} {b g o : Nat} {v u : Value} (h : g ≠ b) (hc : w.cell? ⟨b, o, none⟩ = some u) : (w.setCell ⟨g, 0, none⟩ v).cell? ⟨b, o, none⟩ = some u := (World.cell?_setCell_far w ⟨g, 0, none⟩ ⟨b, o, none⟩ v h).trans hc
theorem set8_fieldJ (a : Option Addr) (n c : Nat) (w : World) : (Instr.field 59 (.agg #[.slice a n c]) 0).run Tryz.prog w = .ok (.slice a n c) w := by
  have h := Tryz.underlying59
  have h2 := Tryz.isAgg52
  unfold Instr.field
  simp [run_underlying h, Sem.run_bind, asAgg, part, h2]
set_option maxHeartbeats 8000000 in
set_option maxRecDepth 100000 in
theorem law_LockPlays (a : Option Addr) (n c : Nat) (ds : List Dm) (na : Nat → Option Addr × Nat × Nat) (b : Option Addr) (m d : Nat) (ms : List ByteArray) (lv sc : Int) (la0 : Option Addr) (ln lc0 : Nat) (l : List Au) (xc : Cl) (us1 : ByteArray) (w : World) (hs : Dss w a n ds na) (hm : Ss w b m ms) (hmz : ∀ i, i < ms.length → (msA ms i).size ≤ maxLen) (hl : Uq w la0 ln l) :
    Calls Tryz.prog 4 #[.agg #[.slice a n c, .slice b m d, .int .i64 lv, .int .i64 sc], .slice la0 ln lc0, clV xc, .string us1] w fun e w' => e = .returned (.bool true) ∧ Kept w w' := by
  obtain ⟨WA, hWA⟩ : ∃ V, V = (w.alloc (.cells #[.slice a n c, .slice b m d, .int .i64 lv, .int .i64 sc] 25)).alloc (.cells #[.int .i64 xc.1, .int .i64 xc.2.1, .int .i64 xc.2.2.1, .int .i64 xc.2.2.2.1, .int .i64 xc.2.2.2.2] 29) := ⟨_, rfl⟩
  obtain ⟨cb, hcb⟩ : ∃ x, x = w.heap.size + 1 := ⟨_, rfl⟩
  have kA : Kept w WA := by rw [hWA]; exact ((Kept.refl w).alloc _).alloc _
  have HC := hidMk (show ∀ Y, Kept WA Y → Y.cell? ⟨cb, 0, none⟩ = some (.int .i64 xc.1) ∧ Y.cell? ⟨cb, 1, none⟩ = some (.int .i64 xc.2.1) ∧ Y.cell? ⟨cb, 2, none⟩ = some (.int .i64 xc.2.2.1) ∧ Y.cell? ⟨cb, 3, none⟩ = some (.int .i64 xc.2.2.2.1) ∧ Y.cell? ⟨cb, 4, none⟩ = some (.int .i64 xc.2.2.2.2) from fun Y k => boxC_at (w.alloc (.cells #[.slice a n c, .slice b m d, .int .i64 lv, .int .i64 sc] 25)) xc 29 (by simp [hcb]) Y (by rw [← hWA]; exact k))
  have HOP := hidMk (law14_open a n c ds na b m d ms lv sc WA (hs.kept kA) (hm.kept kA) hmz)
  have HKN := hidMk law14_known
  have HKA := hidMk kA
  have HL := hidMk hl
  have hln := hl.len
  have hbig := hl.big
  unfold maxLen at hbig
  clear hs hm hmz hl kA
  subst hln
  unfold clV
  go_enter Tryz.func4, Tryz.ntmps4
  go_wp2_with fail
  rw [← hWA, ← hcb]
  clear hWA hcb
  refine HOP.out.mono ?_
  rintro e w1 (⟨W0, s, p, tp, rv, q, rt, rfl, hsm, _, hsw, hrd, hk, hw1⟩ | ⟨v1, v2, rfl, _, k1⟩)
  rotate_left
  · have HK1 := hidMk (HKA.out.trans k1)
    clear k1
    go_wp2_with fail
    refine (HKN.out _).mono ?_
    rintro e w2 ⟨rfl, k2⟩
    go_wp2_with fail
    go_ret
    exact ⟨rfl, HK1.out.trans k2⟩
  obtain ⟨r, hr⟩ : ∃ r, r = W0.heap.size := ⟨_, rfl⟩
  have HE := hidMk (show RE W0 r q ds ms rt from ⟨hr, hrd, hsw.ct⟩)
  have HK0 := hidMk hk
  have HSW := hidMk hsw
  have HSM := hidMk hsm
  obtain ⟨hb, hhb⟩ : ∃ x, x = w1.heap.size := ⟨_, rfl⟩
  have hz1 : w1.heap.size = r + 1 := by rw [hw1, hr]; simp
  have HQ1 := hidMk (show RQ W0 r q ds nlL nlL none w1 from by
    have cc : ∀ i v, (#[Value.pointer (some ⟨q, 0, none⟩), .slice none 0 0, .slice none 0 0, .slice none 0 0, .slice none 0 0, .slice none 0 0] : Array Value)[i]? = some v → w1.cell? ⟨r, i, none⟩ = some v := fun i v e => by rw [hw1]; exact new_cell _ _ _ _ i _ hr e
    exact ⟨by rw [hw1]; exact (Kept.refl _).alloc _, cc 0 _ rfl, cc 4 _ rfl, cc 5 _ rfl, fun k => by rw [hw1, hr]; simp, fun _ => ⟨cc 1 _ rfl, cc 2 _ rfl, cc 3 _ rfl⟩, fun B H e => (by cases e)⟩)
  have HV0 := hidMk (show Jr W0 r q ds ms none hb none 0 [] none (w1.alloc (.cells #[.slice none 0 0] 66)) from
    ⟨new_cell _ _ _ _ 0 _ hhb rfl, by rw [hhb]; simp, lp_nil _ _ _, Lq.none _ _, HQ1.out.keep ((Kept.refl _).alloc _), hr, by omega, fun ad e => (by cases e), fun ad e => (by cases e), fun B H e => (by cases e)⟩)
  obtain ⟨N, hN⟩ : ∃ N : Nat, (N : Int) = mulK (fun k => leas ds k) ms.length 4 := ⟨(mulK (fun k => leas ds k) ms.length 4).toNat, by have := (leaves_few hsw.ct hsm).1; omega⟩
  have hN6 : N ≤ 1000 := by have := (leaves_few hsw.ct hsm).2; omega
  have HNN := hidMk hN
  have HRW := hidMk (show w.heap.size ≤ r from by have := (HKA.out.trans hk).size; omega)
  rw [← hr]
  clear hN hw1 hk hsw hsm hrd HOP HQ1 hz1 hr
  obtain ⟨M, hM⟩ : ∃ M, M = if l.length ≤ 40 then l.length else 40 := ⟨_, rfl⟩
  have hM1 : M ≤ l.length := by rw [hM]; split <;> omega
  have hM2 : M ≤ 40 := by rw [hM]; split <;> omega
  have hM3 : M = l.length ∨ M = 40 := by rw [hM]; split <;> omega
  clear hM
  go_wp2_with fail
  rw [← hhb]
  clear hhb
  go_loopg [13, 14] M (fun gg lw iv wr => ∃ (k : Nat) (ha : Option Addr) (hc : Nat) (hl : List Pk) (la : Option Addr) (lc : Nat) (pp : Option (Nat × Nat)), k + gg = M ∧ lw = .slice la hl.length lc ∧ iv = .int .i64 (k : Int) ∧ Hid (Jr W0 r q ds ms pp hb ha hc hl la wr))
  case atStart => exact ⟨0, none, 0, [], none, 0, none, by omega, rfl, rfl, HV0⟩
  case round =>
    obtain ⟨k, ha, hc, hl, la, lc, pp, hkg, rfl, rfl, HH⟩ := hrel
    have HKG := hidMk hkg
    by_cases hkM : k < M
    · have hk1 : (k : Int) < (l.length : Int) := by omega
      have hk2 : (k : Int) < 40 := by omega
      have hk3 : k < l.length := by omega
      have hk0 : (0 : Int) ≤ (k : Int) := by omega
      obtain ⟨lb, lo, rfl⟩ := HL.out.form (by omega)
      obtain ⟨W2, hW2⟩ : ∃ V, V = (wr.alloc (.cells #[.slice ha hl.length hc] 66)).alloc (.cells #[.slice ha hl.length hc] 66) := ⟨_, rfl⟩
      obtain ⟨wb, hwb⟩ : ∃ x, x = wr.heap.size := ⟨_, rfl⟩
      obtain ⟨nb, hnb⟩ : ∃ x, x = wr.heap.size + 1 := ⟨_, rfl⟩
      have k2 : Kept wr W2 := by rw [hW2]; exact ((Kept.refl _).alloc _).alloc _
      have HK2 := hidMk k2
      have HW2 := hidMk hW2
      have HWB := hidMk hwb
      have HNB := hidMk hnb
      have kW := HKA.out.trans (HK0.out.trans (HH.out.rq.kp.trans k2))
      obtain ⟨hlb, c0, c1, c2, c3, c4, c5, c6⟩ := (HL.out.kept kW).at hk3
      have hsz := HL.out.sz k hk3
      have nc : W2.cell? ⟨nb, 0, none⟩ = some (.slice ha hl.length hc) := by rw [hW2]; exact new_cell _ _ _ _ 0 _ (by simp [hnb]) rfl
      have nf : W2.frozen? ⟨nb, 0, none⟩ = false := by rw [hW2, hnb]; simp
      have nl : nb < W2.heap.size := cell_lt nc
      have hnh : nb ≠ hb := by have := HH.out.lt; omega
      have hlb0 : lb < w.heap.size := by
        obtain ⟨lb0, lo0, e0, hlt0, _⟩ := HL.out.cells (by omega)
        cases e0
        exact hlt0
      have hnl : nb ≠ lb := by
        have h2 := (HKA.out.trans (HK0.out.trans HH.out.rq.kp)).size
        omega
      have hlr : ¬ lb = r := by have := HRW.out; omega
      have yw := HH.out.cell
      have ywl := HH.out.lt
      have y0 := k2.cellp HH.out.cell
      obtain ⟨X0, hX⟩ : ∃ X, auA l k = X := ⟨_, rfl⟩
      rw [hX] at c0 c1 c2 c3 c4 c5 c6 hsz
      obtain ⟨X, us, dr⟩ := X0
      simp only at c0 c1 c2 c3 c4 c5 c6 hsz
      have HX := hidMk hX
      clear kW hX hkg k2 hlb0
      go_upto_region 14 with fail
      rw [← hW2, ← hnb, ← hwb]
      clear hW2 hnb hwb
      go_upto_if 47 with fail
      go_cut [17, 18, 19] from 31 to 132 (fun kv e f W => ∃ a3 d3 l3 ka kc D, kv = .slice ka l3.length kc ∧ e = .int .i64 D ∧ f = .int .i64 D ∧ Hid ((∃ p2, Js W0 r q ds ms p2 hb ha hc hl la wb nb a3 d3 l3 W) ∧ Lq W ka (l3.map lkOf) ∧ ∀ ad, ka = some ad → hb < ad.block))
      case first =>
        cases dr
        · skip
          have HAD := hidMk (show ∀ y, Kept W2 y → Calls Tryz.prog 29 #[.agg #[.slice ha hl.length hc], .pointer (some ⟨s, 0, none⟩), clV X, .string us] y (fun e w' => ∃ a3 n3 d3, e = .returned (.tuple #[.agg #[.slice a3 n3 d3], .int .i64 (laddE ms ds (hl.map lkOf) X us)]) ∧ Hid (Tlj W2 ms ds (fun y => laddE ms ds (hl.map lkOf) X us = 0 ∧ (y = (X, us, ixC ms ds X) ∨ y ∈ hl)) a3 n3 d3 w')) from fun y hy => by
            refine (lp_AddQ (HSW.out.keep (HH.out.rq.kp.trans (HK2.out.trans hy))) HSM.out (HH.out.lp.kept (HK2.out.trans hy)) X us hsz).mono ?_
            rintro e w' ⟨a3, n3, d3, r3, rfl, ⟨rfl, l3, h1, h2, h3, _, h4⟩, k⟩
            exact ⟨a3, n3, d3, rfl, hidMk ⟨hy.trans k, l3, h1, h2, h3, fun ad e => Nat.le_trans hy.size (h4 ad e)⟩⟩)
          have HRD := hidMk (show ∀ V a3 d3 l3, Js W0 r q ds ms pp hb ha hc hl la wb nb a3 d3 l3 V → (∀ y, y ∈ l3 ↔ laddE ms ds (hl.map lkOf) X us = 0 ∧ (y = (X, us, ixC ms ds X) ∨ y ∈ hl)) → Calls Tryz.prog 30 #[.pointer (some ⟨r, 0, none⟩), .slice la hl.length lc, clV X, .string us] V (RTj W0 r q ds ms hb ha hc hl la wb nb a3 d3 l3 V (laddE ms ds (hl.map lkOf) X us)) from fun V a3 d3 l3 h1 h2 => js_RAdd HE.out h1 lc X us hsz HNN.out hN6 h2)
          generalize laddE ms ds (hl.map lkOf) X us = D at HAD HRD
          obtain ⟨P, hP⟩ : ∃ P : Pk → Prop, P = (fun y => D = 0 ∧ (y = (X, us, ixC ms ds X) ∨ y ∈ hl)) := ⟨_, rfl⟩
          rw [← hP] at HAD
          have HAD2 := HAD
          have HRD2 := hidMk (show ∀ V a3 d3 l3, Js W0 r q ds ms pp hb ha hc hl la wb nb a3 d3 l3 V → (∀ y, y ∈ l3 ↔ P y) → Calls Tryz.prog 30 #[.pointer (some ⟨r, 0, none⟩), .slice la hl.length lc, clV X, .string us] V (RTj W0 r q ds ms hb ha hc hl la wb nb a3 d3 l3 V D) from fun V a3 d3 l3 h1 h2 => HRD.out V a3 d3 l3 h1 (fun y => by rw [h2, hP]))
          clear HAD HRD hP hsz
          obtain ⟨x0, x1, x2, x3, x4⟩ := X
          unfold clV at HAD2 HRD2
          simp only at c0 c1 c2 c3 c4 c5 HAD2 HRD2
          go_upto_region 17 with fail
          go_cut [18] from 31 to 132 (fun e W => ∃ a3 d3 l3, e = .int .i64 D ∧ Hid (Js W0 r q ds ms pp hb ha hc hl la wb nb a3 d3 l3 W ∧ ∀ y, y ∈ l3 ↔ P y))
          case first =>
            go_region_held3 (fun w' => w'.cell? ⟨hb, 0, none⟩ = some (.slice ha hl.length hc) ∧ w'.cell? ⟨lb, lo + k * 7, none⟩ = some (.int .i64 x0) ∧ w'.cell? ⟨lb, lo + k * 7 + 1, none⟩ = some (.int .i64 x1) ∧ w'.cell? ⟨lb, lo + k * 7 + 2, none⟩ = some (.int .i64 x2) ∧ w'.cell? ⟨lb, lo + k * 7 + 3, none⟩ = some (.int .i64 x3) ∧ w'.cell? ⟨lb, lo + k * 7 + 4, none⟩ = some (.int .i64 x4) ∧ w'.cell? ⟨lb, lo + k * 7 + 5, none⟩ = some (.string us))
              (first | assumption | (refine ⟨farJ hnh (Kept.cellp ?_ y0), farJ hnl (Kept.cellp ?_ c0), farJ hnl (Kept.cellp ?_ c1), farJ hnl (Kept.cellp ?_ c2), farJ hnl (Kept.cellp ?_ c3), farJ hnl (Kept.cellp ?_ c4), farJ hnl (Kept.cellp ?_ c5)⟩ <;> ((repeat (first | (with_reducible exact Kept.refl _) | (with_reducible refine Kept.alloc ?_ _) | (with_reducible refine Kept.drew ?_) | (with_reducible refine Kept.drewN ?_ _) | (with_reducible refine Kept.trans ?_ (by assumption)))); done)) | (refine ⟨Kept.cellp ?_ y0, Kept.cellp ?_ c0, Kept.cellp ?_ c1, Kept.cellp ?_ c2, Kept.cellp ?_ c3, Kept.cellp ?_ c4, Kept.cellp ?_ c5⟩ <;> ((repeat (first | (with_reducible exact Kept.refl _) | (with_reducible refine Kept.alloc ?_ _) | (with_reducible refine Kept.drew ?_) | (with_reducible refine Kept.drewN ?_ _) | (with_reducible refine Kept.trans ?_ (by assumption)))); done)))
              ((go_at_call 29; refine (HAD2.out _ (by (repeat (first | (with_reducible exact Kept.refl _) | (with_reducible refine Kept.alloc ?_ _) | (with_reducible refine Kept.drew ?_) | (with_reducible refine Kept.drewN ?_ _) | (with_reducible refine Kept.trans ?_ (by assumption)))))).mono ?_; rintro e w3 ⟨a3, n3, d3, rfl, HT3⟩; have k3 := HT3.out.1; have nc3 := k3.cellp nc; have nf3 := (k3.frozen (p := ⟨nb, 0, none⟩) nl).trans nf; have nl3 : nb < w3.heap.size := cell_lt nc3))
            all_goals (try go_wp2_with fail)
            all_goals
              go_meet
              obtain ⟨g1, l3, g2, g3, g4, g5⟩ := HT3.out
              exact ⟨a3, d3, l3, rfl, hidMk ⟨js_new HH.out HW2.out g1 g3 g5 g2 HWB.out HNB.out, g4⟩⟩
          case rest =>
            obtain ⟨a3, d3, l3, rfl, HS3⟩ := hcut
            have HR3 := hidMk (show ∀ V, Kept wc V → _ from fun V hV => HRD2.out V a3 d3 l3 (HS3.out.1.keep hV) HS3.out.2)
            unfold RTj at HR3
            clear c0 c1 c2 c3 c4 c5 c6 y0 yw ywl nc nf nl hlb HAD2 HRD2
            obtain ⟨hlb, c0, c1, c2, c3, c4, c5, c6⟩ := (HL.out.kept (HKA.out.trans (HK0.out.trans HS3.out.1.jr.rq.kp))).at hk3
            rw [HX.out] at c0 c1 c2 c3 c4 c5
            simp only at c0 c1 c2 c3 c4 c5
            clear c6
            have HSV := hidMk (show ∀ Y Z : World, Kept wc Y → Chg (fun j => j = r) Y Z → (fun w' => w'.cell? ⟨lb, lo + k * 7, none⟩ = some (.int .i64 x0) ∧ w'.cell? ⟨lb, lo + k * 7 + 1, none⟩ = some (.int .i64 x1) ∧ w'.cell? ⟨lb, lo + k * 7 + 2, none⟩ = some (.int .i64 x2) ∧ w'.cell? ⟨lb, lo + k * 7 + 3, none⟩ = some (.int .i64 x3) ∧ w'.cell? ⟨lb, lo + k * 7 + 4, none⟩ = some (.int .i64 x4) ∧ w'.cell? ⟨lb, lo + k * 7 + 5, none⟩ = some (.string us)) Z from fun Y Z hY hZ => ⟨hZ.cellp (hY.cellp c0) hlr, hZ.cellp (hY.cellp c1) hlr, hZ.cellp (hY.cellp c2) hlr, hZ.cellp (hY.cellp c3) hlr, hZ.cellp (hY.cellp c4) hlr, hZ.cellp (hY.cellp c5) hlr⟩)
            go_wp2_with fail
            go_region_held3 (fun w' => w'.cell? ⟨lb, lo + k * 7, none⟩ = some (.int .i64 x0) ∧ w'.cell? ⟨lb, lo + k * 7 + 1, none⟩ = some (.int .i64 x1) ∧ w'.cell? ⟨lb, lo + k * 7 + 2, none⟩ = some (.int .i64 x2) ∧ w'.cell? ⟨lb, lo + k * 7 + 3, none⟩ = some (.int .i64 x3) ∧ w'.cell? ⟨lb, lo + k * 7 + 4, none⟩ = some (.int .i64 x4) ∧ w'.cell? ⟨lb, lo + k * 7 + 5, none⟩ = some (.string us))
              (first | assumption | (refine ⟨Kept.cellp ?_ c0, Kept.cellp ?_ c1, Kept.cellp ?_ c2, Kept.cellp ?_ c3, Kept.cellp ?_ c4, Kept.cellp ?_ c5⟩ <;> ((repeat (first | (with_reducible exact Kept.refl _) | (with_reducible refine Kept.alloc ?_ _) | (with_reducible refine Kept.drew ?_) | (with_reducible refine Kept.drewN ?_ _) | (with_reducible refine Kept.trans ?_ (by assumption)))); done)))
              ((go_at_call 30; refine (HR3.out _ (by (repeat (first | (with_reducible exact Kept.refl _) | (with_reducible refine Kept.alloc ?_ _) | (with_reducible refine Kept.drew ?_) | (with_reducible refine Kept.drewN ?_ _) | (with_reducible refine Kept.trans ?_ (by assumption)))))).mono ?_; rintro e w5 ⟨ka, kc, rfl, HQ, hch⟩; have sv : (fun w' => w'.cell? ⟨lb, lo + k * 7, none⟩ = some (.int .i64 x0) ∧ w'.cell? ⟨lb, lo + k * 7 + 1, none⟩ = some (.int .i64 x1) ∧ w'.cell? ⟨lb, lo + k * 7 + 2, none⟩ = some (.int .i64 x2) ∧ w'.cell? ⟨lb, lo + k * 7 + 3, none⟩ = some (.int .i64 x3) ∧ w'.cell? ⟨lb, lo + k * 7 + 4, none⟩ = some (.int .i64 x4) ∧ w'.cell? ⟨lb, lo + k * 7 + 5, none⟩ = some (.string us)) w5 := HSV.out _ _ (by (repeat (first | (with_reducible exact Kept.refl _) | (with_reducible refine Kept.alloc ?_ _) | (with_reducible refine Kept.drew ?_) | (with_reducible refine Kept.drewN ?_ _) | (with_reducible refine Kept.trans ?_ (by assumption))))) hch; clear hch))
            all_goals (try go_wp2_with fail)
            all_goals
              go_meet
              exact ⟨a3, d3, l3, ka, kc, D, rfl, rfl, rfl, HQ⟩
        · skip
          have HAD := hidMk (show ∀ y, Kept W2 y → Calls Tryz.prog 27 #[.agg #[.slice ha hl.length hc], .pointer (some ⟨s, 0, none⟩), clV X, .string us] y (fun e w' => ∃ a3 n3 d3, e = .returned (.tuple #[.agg #[.slice a3 n3 d3], .int .i64 (ldropE ms ds (hl.map lkOf) X us)]) ∧ Hid (Tlj W2 ms ds (fun y => ldropE ms ds (hl.map lkOf) X us = 0 ∧ y ∈ hl ∧ y.1 ≠ X) a3 n3 d3 w')) from fun y hy => by
            refine (lp_DropQ (HSW.out.keep (HH.out.rq.kp.trans (HK2.out.trans hy))) (HH.out.lp.kept (HK2.out.trans hy)) X us hsz).mono ?_
            rintro e w' ⟨a3, n3, d3, r3, rfl, ⟨rfl, l3, h1, h2, h3, h4⟩, k⟩
            exact ⟨a3, n3, d3, rfl, hidMk ⟨hy.trans k, l3, h1, h2, h3, fun ad e => Nat.le_trans hy.size (h4 ad e)⟩⟩)
          have HRD := hidMk (show ∀ V a3 d3 l3, Js W0 r q ds ms pp hb ha hc hl la wb nb a3 d3 l3 V → (∀ y, y ∈ l3 ↔ ldropE ms ds (hl.map lkOf) X us = 0 ∧ y ∈ hl ∧ y.1 ≠ X) → Calls Tryz.prog 28 #[.pointer (some ⟨r, 0, none⟩), .slice la hl.length lc, clV X, .string us] V (RTj W0 r q ds ms hb ha hc hl la wb nb a3 d3 l3 V (ldropE ms ds (hl.map lkOf) X us)) from fun V a3 d3 l3 h1 h2 => js_RDrop HE.out h1 lc X us hsz h2)
          generalize ldropE ms ds (hl.map lkOf) X us = D at HAD HRD
          obtain ⟨P, hP⟩ : ∃ P : Pk → Prop, P = (fun y => D = 0 ∧ y ∈ hl ∧ y.1 ≠ X) := ⟨_, rfl⟩
          rw [← hP] at HAD
          have HAD2 := HAD
          have HRD2 := hidMk (show ∀ V a3 d3 l3, Js W0 r q ds ms pp hb ha hc hl la wb nb a3 d3 l3 V → (∀ y, y ∈ l3 ↔ P y) → Calls Tryz.prog 28 #[.pointer (some ⟨r, 0, none⟩), .slice la hl.length lc, clV X, .string us] V (RTj W0 r q ds ms hb ha hc hl la wb nb a3 d3 l3 V D) from fun V a3 d3 l3 h1 h2 => HRD.out V a3 d3 l3 h1 (fun y => by rw [h2, hP]))
          clear HAD HRD hP hsz
          obtain ⟨x0, x1, x2, x3, x4⟩ := X
          unfold clV at HAD2 HRD2
          simp only at c0 c1 c2 c3 c4 c5 HAD2 HRD2
          go_upto_region 15 with fail
          go_cut [18] from 31 to 132 (fun e W => ∃ a3 d3 l3, e = .int .i64 D ∧ Hid (Js W0 r q ds ms pp hb ha hc hl la wb nb a3 d3 l3 W ∧ ∀ y, y ∈ l3 ↔ P y))
          case first =>
            go_region_held3 (fun w' => w'.cell? ⟨hb, 0, none⟩ = some (.slice ha hl.length hc) ∧ w'.cell? ⟨lb, lo + k * 7, none⟩ = some (.int .i64 x0) ∧ w'.cell? ⟨lb, lo + k * 7 + 1, none⟩ = some (.int .i64 x1) ∧ w'.cell? ⟨lb, lo + k * 7 + 2, none⟩ = some (.int .i64 x2) ∧ w'.cell? ⟨lb, lo + k * 7 + 3, none⟩ = some (.int .i64 x3) ∧ w'.cell? ⟨lb, lo + k * 7 + 4, none⟩ = some (.int .i64 x4) ∧ w'.cell? ⟨lb, lo + k * 7 + 5, none⟩ = some (.string us))
              (first | assumption | (refine ⟨farJ hnh (Kept.cellp ?_ y0), farJ hnl (Kept.cellp ?_ c0), farJ hnl (Kept.cellp ?_ c1), farJ hnl (Kept.cellp ?_ c2), farJ hnl (Kept.cellp ?_ c3), farJ hnl (Kept.cellp ?_ c4), farJ hnl (Kept.cellp ?_ c5)⟩ <;> ((repeat (first | (with_reducible exact Kept.refl _) | (with_reducible refine Kept.alloc ?_ _) | (with_reducible refine Kept.drew ?_) | (with_reducible refine Kept.drewN ?_ _) | (with_reducible refine Kept.trans ?_ (by assumption)))); done)) | (refine ⟨Kept.cellp ?_ y0, Kept.cellp ?_ c0, Kept.cellp ?_ c1, Kept.cellp ?_ c2, Kept.cellp ?_ c3, Kept.cellp ?_ c4, Kept.cellp ?_ c5⟩ <;> ((repeat (first | (with_reducible exact Kept.refl _) | (with_reducible refine Kept.alloc ?_ _) | (with_reducible refine Kept.drew ?_) | (with_reducible refine Kept.drewN ?_ _) | (with_reducible refine Kept.trans ?_ (by assumption)))); done)))
              ((go_at_call 27; refine (HAD2.out _ (by (repeat (first | (with_reducible exact Kept.refl _) | (with_reducible refine Kept.alloc ?_ _) | (with_reducible refine Kept.drew ?_) | (with_reducible refine Kept.drewN ?_ _) | (with_reducible refine Kept.trans ?_ (by assumption)))))).mono ?_; rintro e w3 ⟨a3, n3, d3, rfl, HT3⟩; have k3 := HT3.out.1; have nc3 := k3.cellp nc; have nf3 := (k3.frozen (p := ⟨nb, 0, none⟩) nl).trans nf; have nl3 : nb < w3.heap.size := cell_lt nc3))
            all_goals (try go_wp2_with fail)
            all_goals
              go_meet
              obtain ⟨g1, l3, g2, g3, g4, g5⟩ := HT3.out
              exact ⟨a3, d3, l3, rfl, hidMk ⟨js_new HH.out HW2.out g1 g3 g5 g2 HWB.out HNB.out, g4⟩⟩
          case rest =>
            obtain ⟨a3, d3, l3, rfl, HS3⟩ := hcut
            have HR3 := hidMk (show ∀ V, Kept wc V → _ from fun V hV => HRD2.out V a3 d3 l3 (HS3.out.1.keep hV) HS3.out.2)
            unfold RTj at HR3
            clear c0 c1 c2 c3 c4 c5 c6 y0 yw ywl nc nf nl hlb HAD2 HRD2
            obtain ⟨hlb, c0, c1, c2, c3, c4, c5, c6⟩ := (HL.out.kept (HKA.out.trans (HK0.out.trans HS3.out.1.jr.rq.kp))).at hk3
            rw [HX.out] at c0 c1 c2 c3 c4 c5
            simp only at c0 c1 c2 c3 c4 c5
            clear c6
            have HSV := hidMk (show ∀ Y Z : World, Kept wc Y → Chg (fun j => j = r) Y Z → (fun w' => w'.cell? ⟨lb, lo + k * 7, none⟩ = some (.int .i64 x0) ∧ w'.cell? ⟨lb, lo + k * 7 + 1, none⟩ = some (.int .i64 x1) ∧ w'.cell? ⟨lb, lo + k * 7 + 2, none⟩ = some (.int .i64 x2) ∧ w'.cell? ⟨lb, lo + k * 7 + 3, none⟩ = some (.int .i64 x3) ∧ w'.cell? ⟨lb, lo + k * 7 + 4, none⟩ = some (.int .i64 x4) ∧ w'.cell? ⟨lb, lo + k * 7 + 5, none⟩ = some (.string us)) Z from fun Y Z hY hZ => ⟨hZ.cellp (hY.cellp c0) hlr, hZ.cellp (hY.cellp c1) hlr, hZ.cellp (hY.cellp c2) hlr, hZ.cellp (hY.cellp c3) hlr, hZ.cellp (hY.cellp c4) hlr, hZ.cellp (hY.cellp c5) hlr⟩)
            go_wp2_with fail
            go_region_held3 (fun w' => w'.cell? ⟨lb, lo + k * 7, none⟩ = some (.int .i64 x0) ∧ w'.cell? ⟨lb, lo + k * 7 + 1, none⟩ = some (.int .i64 x1) ∧ w'.cell? ⟨lb, lo + k * 7 + 2, none⟩ = some (.int .i64 x2) ∧ w'.cell? ⟨lb, lo + k * 7 + 3, none⟩ = some (.int .i64 x3) ∧ w'.cell? ⟨lb, lo + k * 7 + 4, none⟩ = some (.int .i64 x4) ∧ w'.cell? ⟨lb, lo + k * 7 + 5, none⟩ = some (.string us))
              (first | assumption | (refine ⟨Kept.cellp ?_ c0, Kept.cellp ?_ c1, Kept.cellp ?_ c2, Kept.cellp ?_ c3, Kept.cellp ?_ c4, Kept.cellp ?_ c5⟩ <;> ((repeat (first | (with_reducible exact Kept.refl _) | (with_reducible refine Kept.alloc ?_ _) | (with_reducible refine Kept.drew ?_) | (with_reducible refine Kept.drewN ?_ _) | (with_reducible refine Kept.trans ?_ (by assumption)))); done)))
              ((go_at_call 28; refine (HR3.out _ (by (repeat (first | (with_reducible exact Kept.refl _) | (with_reducible refine Kept.alloc ?_ _) | (with_reducible refine Kept.drew ?_) | (with_reducible refine Kept.drewN ?_ _) | (with_reducible refine Kept.trans ?_ (by assumption)))))).mono ?_; rintro e w5 ⟨ka, kc, rfl, HQ, hch⟩; have sv : (fun w' => w'.cell? ⟨lb, lo + k * 7, none⟩ = some (.int .i64 x0) ∧ w'.cell? ⟨lb, lo + k * 7 + 1, none⟩ = some (.int .i64 x1) ∧ w'.cell? ⟨lb, lo + k * 7 + 2, none⟩ = some (.int .i64 x2) ∧ w'.cell? ⟨lb, lo + k * 7 + 3, none⟩ = some (.int .i64 x3) ∧ w'.cell? ⟨lb, lo + k * 7 + 4, none⟩ = some (.int .i64 x4) ∧ w'.cell? ⟨lb, lo + k * 7 + 5, none⟩ = some (.string us)) w5 := HSV.out _ _ (by (repeat (first | (with_reducible exact Kept.refl _) | (with_reducible refine Kept.alloc ?_ _) | (with_reducible refine Kept.drew ?_) | (with_reducible refine Kept.drewN ?_ _) | (with_reducible refine Kept.trans ?_ (by assumption))))) hch; clear hch))
            all_goals (try go_wp2_with fail)
            all_goals
              go_meet
              exact ⟨a3, d3, l3, ka, kc, D, rfl, rfl, rfl, HQ⟩
      case rest =>
        obtain ⟨a3, d3, l3, ka, kc, D, rfl, rfl, rfl, HQ⟩ := hcut
        obtain ⟨p3, hs3⟩ := HQ.out.1
        have HS := hidMk hs3
        have HCK := hidMk HQ.out.2.1
        have HKF := hidMk HQ.out.2.2
        clear c0 c1 c2 c3 c4 c5 c6 y0 yw ywl nc nf nl hlb HQ HX HW2 HK2 hs3 hsz
        have wc0 := HS.out.wc
        have wcl : wb < wc.heap.size := cell_lt wc0
        have HNC := hidMk HS.out.nc
        have HLW := hidMk (show ∀ y, Kept wc y → Calls Tryz.prog 32 #[.agg #[.slice ha hl.length hc]] y fun e w' => (∃ a c, e = .returned (.slice a hl.length c) ∧ Lq w' a (hl.map lkOf)) ∧ Kept y w' from fun y hy => by
          refine (lock_List ha hc hl y (HS.out.jr.lp.pq.kept hy) (by have := HS.out.jr.lp.ld.sm; omega)).mono ?_
          rintro e w' ⟨v, rfl, ho, k⟩
          obtain ⟨a, c, rfl, hq, _⟩ := ho.form
          exact ⟨⟨a, c, by rw [List.length_map], hq⟩, k⟩)
        have HLN := hidMk (show ∀ y, Kept wc y → Calls Tryz.prog 32 #[.agg #[.slice a3 l3.length d3]] y fun e w' => (∃ a c, e = .returned (.slice a l3.length c) ∧ Lq w' a (l3.map lkOf)) ∧ Kept y w' from fun y hy => by
          refine (lock_List a3 d3 l3 y (HS.out.nd.pq.kept hy) (by have := HS.out.nd.ld.sm; omega)).mono ?_
          rintro e w' ⟨v, rfl, ho, k⟩
          obtain ⟨a, c, rfl, hq, _⟩ := ho.form
          exact ⟨⟨a, c, by rw [List.length_map], hq⟩, k⟩)
        have HSM1 := hidMk (show ∀ y a b c d, Lq y a (hl.map lkOf) → Lq y b (hl.map lkOf) → Calls Tryz.prog 31 #[.slice a hl.length c, .slice b hl.length d] y fun e w' => e = .returned (.bool true) ∧ Kept y w' from fun y a b c d h1 h2 => by
          have h0 := ref14_Same a b c d _ _ y h1 h2 (by have := HS.out.jr.lp.ld.sm; simp; omega)
          rw [List.length_map] at h0
          refine h0.mono ?_
          rintro e w' ⟨rfl, k⟩
          exact ⟨by simp, k⟩)
        have HSM2 := hidMk (show ∀ y a b c d, Lq y a (l3.map lkOf) → Lq y b (l3.map lkOf) → Calls Tryz.prog 31 #[.slice a l3.length c, .slice b l3.length d] y fun e w' => e = .returned (.bool true) ∧ Kept y w' from fun y a b c d h1 h2 => by
          have h0 := ref14_Same a b c d _ _ y h1 h2 (by have := HS.out.nd.ld.sm; simp; omega)
          rw [List.length_map] at h0
          refine h0.mono ?_
          rintro e w' ⟨rfl, k⟩
          exact ⟨by simp, k⟩)
        go_wp2_with fail
        refine (HLW.out _ (Kept.refl _)).mono ?_
        rintro e w5 ⟨⟨a5, c5, rfl, s5⟩, k5⟩
        have HK5 := hidMk k5
        have HS5 := hidMk s5
        clear k5 s5
        go_wp2_with fail
        refine (HSM1.out _ _ _ _ _ HS5.out (HS.out.jr.lq.kept HK5.out)).mono ?_
        rintro e w6 ⟨rfl, k6⟩
        have HK6 := hidMk (HK5.out.trans k6)
        have nc6 := HK6.out.cellp HNC.out
        have nl6 : nb < w6.heap.size := cell_lt nc6
        clear k6 wc0 wcl
        go_wp2_with fail
        refine (HLN.out _ HK6.out).mono ?_
        rintro e w7 ⟨⟨a7, c7, rfl, s7⟩, k7⟩
        have HK7 := hidMk (HK6.out.trans k7)
        have HS7 := hidMk s7
        clear k7 s7
        go_wp2_with fail
        refine (HSM2.out _ _ _ _ _ HS7.out (HCK.out.kept HK7.out)).mono ?_
        rintro e w8 ⟨rfl, k8⟩
        have HK8 := hidMk (HK7.out.trans k8)
        have H8 := hidMk (HS.out.keep HK8.out)
        have HC8 := hidMk (HCK.out.kept HK8.out)
        clear k8 nc6 nl6 HLW HLN HSM1 HSM2 HS HCK HNC
        by_cases hD : D = 0
        · subst hD
          have nc8 := H8.out.nc
          have nl8 : nb < w8.heap.size := cell_lt nc8
          have y8 := H8.out.jr.cell
          have yf8 := H8.out.jr.fz
          have yl8 : hb < w8.heap.size := cell_lt y8
          go_wp2_with fail
          go_roundg (gk - 1)
          case measure => have := HKG.out; omega
          case rel => exact ⟨k + 1, a3, d3, l3, ka, kc, p3, by have := HKG.out; omega, rfl, by go_num, hidMk (H8.out.next HC8.out HKF.out)⟩
        · have hD2 : (D == 0) = false := by simpa using hD
          go_wp2_with fail
          go_roundg (gk - 1)
          case measure => have := HKG.out; omega
          case rel => exact ⟨k + 1, ha, hc, hl, la, lc, p3, by have := HKG.out; omega, rfl, by go_num, hidMk H8.out.jr⟩
    · by_cases hkn : (k : Int) < (l.length : Int)
      · have hk100 : ¬ ((k : Int) < 40) := by omega
        go_wp2_with fail
        go_loopg [20] (N + 2) (fun gg iv wr2 => ∃ (k : Nat) (z : Int), k + gg = N + 2 ∧ iv = .int .i64 z ∧ Hid (z = (k : Int) - 1 ∧ Jz W0 r q ds ms hb ha hc hl la wr2))
        case atStart => exact ⟨0, -1, by omega, rfl, hidMk ⟨by omega, pp, HH.out⟩⟩
        case round =>
          obtain ⟨n2, z, hng, rfl, HJ0⟩ := hrel
          have HNG := hidMk hng
          have HJ := hidMk HJ0.out.2
          have hz := HJ0.out.1
          have hz1 : -1 ≤ z := by omega
          have hz2 : z ≤ 1001 := by omega
          have HZE := hidMk hz
          have HZS := hidMk (show ∀ y, Jz W0 r q ds ms hb ha hc hl la y → y.cell? ⟨hb, 0, none⟩ = some (.slice ha hl.length hc) ∧ y.cell? ⟨cb, 0, none⟩ = some (.int .i64 xc.1) ∧ y.cell? ⟨cb, 1, none⟩ = some (.int .i64 xc.2.1) ∧ y.cell? ⟨cb, 2, none⟩ = some (.int .i64 xc.2.2.1) ∧ y.cell? ⟨cb, 3, none⟩ = some (.int .i64 xc.2.2.2.1) ∧ y.cell? ⟨cb, 4, none⟩ = some (.int .i64 xc.2.2.2.2) from fun y hy => by
            obtain ⟨p2, g⟩ := hy
            exact ⟨g.cell, HC.out y (HK0.out.trans g.rq.kp)⟩)
          have HLV := hidMk (show ∀ y, Jz W0 r q ds ms hb ha hc hl la y → _ from fun y hy => jz_Leaves HE.out HNN.out hy)
          have HO1 := hidMk (show ∀ y, Jz W0 r q ds ms hb ha hc hl la y → _ from fun y hy => jz_Owner (n := z) HSW.out hy)
          have HO2 := hidMk (show ∀ y, Jz W0 r q ds ms hb ha hc hl la y → _ from fun y hy => jz_ROwner (n := z) (lc := lc) HE.out hy)
          generalize ownI ms ds z (hl.map lkOf) = ow at HO1 HO2
          clear hng HJ0
          go_wp2_with fail
          refine (HLV.out _ HJ.out).mono ?_
          rintro e w3 ⟨rfl, z3⟩
          have HJ3 := hidMk z3
          clear z3
          by_cases hzN : z ≤ (N : Int)
          · have y3 := (HZS.out _ HJ3.out).1
            clear hz
            go_wp2_with fail
            refine (HO1.out _ HJ3.out).mono ?_
            rintro e w4 ⟨rfl, z4⟩
            have HJ4 := hidMk z4
            clear z4 y3
            go_wp2_with fail
            refine (HO2.out _ HJ4.out).mono ?_
            rintro e w5 ⟨rfl, z5⟩
            have HJ5 := hidMk z5
            have how : (ow.toList == ow.toList) = true := by simp
            clear z5
            go_wp2_with fail
            go_roundg (gk - 1)
            case measure => have := HNG.out; have := HZE.out; omega
            case rel => exact ⟨n2 + 1, z + 1, by have := HNG.out; have := HZE.out; omega, by first | rfl | go_num, hidMk ⟨by have := HZE.out; omega, HJ5.out⟩⟩
          · have hzN' : (N : Int) < z := by omega
            clear hz
            have HA3 := hidMk (show ∀ y, Jz W0 r q ds ms hb ha hc hl la y → _ from fun y hy => jz_Within (x := xc) (u := us1) HSW.out hy)
            have HA4 := hidMk (show ∀ y, Jz W0 r q ds ms hb ha hc hl la y → _ from fun y hy => jz_RWithin (x := xc) (u := us1) (lc := lc) HE.out hy)
            have HA5 := hidMk (show ∀ y, Jz W0 r q ds ms hb ha hc hl la y → _ from fun y hy => jz_Foreign (u := us1) HSW.out HSM.out hy)
            have HA6 := hidMk (show ∀ y v, FgQ ms ds hl us1 v y → Jz W0 r q ds ms hb ha hc hl la y → _ from fun y v hv hy => jz_All HSW.out.ct HNN.out hN6 hv hy)
            have HA7 := hidMk (show ∀ y a, AlJ r (foK ms ds (hl.map lkOf) us1 N) a y → Jz W0 r q ds ms hb ha hc hl la y → _ from fun y a hv hy => jz_RForeign (lc := lc) HE.out HNN.out hN6 hv hy)
            have HA8 := hidMk (show ∀ y a b c d, AlJ r (foK ms ds (hl.map lkOf) us1 N) a y → Sl .i64 y b (foK ms ds (hl.map lkOf) us1 N).length (foK ms ds (hl.map lkOf) us1 N) → Jz W0 r q ds ms hb ha hc hl la y → _ from fun y a b c d h1 h2 hy => jz_Ints (c := c) (d := d) h1 h2 hy)
            have HA9 := hidMk (show ∀ y, Jz W0 r q ds ms hb ha hc hl la y → _ from fun y hy => jz_Same hy)
            have HA0 := hidMk (show ∀ y, Jz W0 r q ds ms hb ha hc hl la y → _ from fun y hy => jz_known hy)
            unfold clV at HA3 HA4
            generalize foK ms ds (hl.map lkOf) us1 N = L at HA6 HA7 HA8
            generalize ((hl.map lkOf).any fun z => wiP ms ds xc us1 z) = B2 at HA3 HA4
            have hB2 : (B2 == B2) = true := by simp
            have z0 := HJ3.out.keep ((Kept.refl _).drew)
            obtain ⟨t0, t1, t2, t3, t4, t5⟩ := HZS.out _ HJ3.out
            clear HJ
            have HJ := HJ3
            go_upto_region 29 with fail
            have hfl := set8_fieldJ
            go_region_held3 (fun y => y.cell? ⟨hb, 0, none⟩ = some (.slice ha hl.length hc) ∧ y.cell? ⟨cb, 0, none⟩ = some (.int .i64 xc.1) ∧ y.cell? ⟨cb, 1, none⟩ = some (.int .i64 xc.2.1) ∧ y.cell? ⟨cb, 2, none⟩ = some (.int .i64 xc.2.2.1) ∧ y.cell? ⟨cb, 3, none⟩ = some (.int .i64 xc.2.2.2.1) ∧ y.cell? ⟨cb, 4, none⟩ = some (.int .i64 xc.2.2.2.2))
              (first | assumption | exact HZS.out _ (by first | assumption | exact HJ.out))
              (first
                | (go_at_call 36; refine (HA3.out _ (by first | assumption | exact HJ.out)).mono ?_; rintro e w13 ⟨rfl, z13⟩)
                | (go_at_call 37; refine (HA4.out _ (by first | assumption | exact HJ.out)).mono ?_; rintro e w14 ⟨rfl, z14⟩)
                | (go_at_call 38; refine (HA5.out _ (by first | assumption | exact HJ.out)).mono ?_; rintro e w15 ⟨⟨a15, n15, c15, rfl, g15⟩, z15⟩)
                | (go_at_call 22; refine (HA6.out _ _ (by assumption) (by assumption)).mono ?_; rintro e w16 ⟨⟨a16, c16, rfl, g16⟩, z16⟩)
                | (go_at_call 39; refine (HA7.out _ _ (by assumption) (by assumption)).mono ?_; rintro e w17 ⟨⟨a17, c17, rfl, g17, f17⟩, z17⟩)
                | (go_at_call 20; refine (HA8.out _ _ _ _ _ (by assumption) (by assumption) (by assumption)).mono ?_; rintro e w18 ⟨rfl, z18⟩)
                | (go_at_call 40; refine (HA9.out _ (by assumption)).mono ?_; rintro e w19 ⟨rfl, z19⟩)
                | (go_at_call 26; refine (HA0.out _ (by assumption)).mono ?_; rintro e w20 ⟨rfl, z20⟩; have HZ20 := hidMk z20))
            all_goals (try go_wp2_with fail)
            all_goals
              go_ret
              obtain ⟨p2, g⟩ := HZ20.out
              exact ⟨by first | rfl | simp, HKA.out.trans (HK0.out.trans g.rq.kp)⟩
      · have hk100 : True := trivial
        go_wp2_with fail
        go_loopg [20] (N + 2) (fun gg iv wr2 => ∃ (k : Nat) (z : Int), k + gg = N + 2 ∧ iv = .int .i64 z ∧ Hid (z = (k : Int) - 1 ∧ Jz W0 r q ds ms hb ha hc hl la wr2))
        case atStart => exact ⟨0, -1, by omega, rfl, hidMk ⟨by omega, pp, HH.out⟩⟩
        case round =>
          obtain ⟨n2, z, hng, rfl, HJ0⟩ := hrel
          have HNG := hidMk hng
          have HJ := hidMk HJ0.out.2
          have hz := HJ0.out.1
          have hz1 : -1 ≤ z := by omega
          have hz2 : z ≤ 1001 := by omega
          have HZE := hidMk hz
          have HZS := hidMk (show ∀ y, Jz W0 r q ds ms hb ha hc hl la y → y.cell? ⟨hb, 0, none⟩ = some (.slice ha hl.length hc) ∧ y.cell? ⟨cb, 0, none⟩ = some (.int .i64 xc.1) ∧ y.cell? ⟨cb, 1, none⟩ = some (.int .i64 xc.2.1) ∧ y.cell? ⟨cb, 2, none⟩ = some (.int .i64 xc.2.2.1) ∧ y.cell? ⟨cb, 3, none⟩ = some (.int .i64 xc.2.2.2.1) ∧ y.cell? ⟨cb, 4, none⟩ = some (.int .i64 xc.2.2.2.2) from fun y hy => by
            obtain ⟨p2, g⟩ := hy
            exact ⟨g.cell, HC.out y (HK0.out.trans g.rq.kp)⟩)
          have HLV := hidMk (show ∀ y, Jz W0 r q ds ms hb ha hc hl la y → _ from fun y hy => jz_Leaves HE.out HNN.out hy)
          have HO1 := hidMk (show ∀ y, Jz W0 r q ds ms hb ha hc hl la y → _ from fun y hy => jz_Owner (n := z) HSW.out hy)
          have HO2 := hidMk (show ∀ y, Jz W0 r q ds ms hb ha hc hl la y → _ from fun y hy => jz_ROwner (n := z) (lc := lc) HE.out hy)
          generalize ownI ms ds z (hl.map lkOf) = ow at HO1 HO2
          clear hng HJ0
          go_wp2_with fail
          refine (HLV.out _ HJ.out).mono ?_
          rintro e w3 ⟨rfl, z3⟩
          have HJ3 := hidMk z3
          clear z3
          by_cases hzN : z ≤ (N : Int)
          · have y3 := (HZS.out _ HJ3.out).1
            clear hz
            go_wp2_with fail
            refine (HO1.out _ HJ3.out).mono ?_
            rintro e w4 ⟨rfl, z4⟩
            have HJ4 := hidMk z4
            clear z4 y3
            go_wp2_with fail
            refine (HO2.out _ HJ4.out).mono ?_
            rintro e w5 ⟨rfl, z5⟩
            have HJ5 := hidMk z5
            have how : (ow.toList == ow.toList) = true := by simp
            clear z5
            go_wp2_with fail
            go_roundg (gk - 1)
            case measure => have := HNG.out; have := HZE.out; omega
            case rel => exact ⟨n2 + 1, z + 1, by have := HNG.out; have := HZE.out; omega, by first | rfl | go_num, hidMk ⟨by have := HZE.out; omega, HJ5.out⟩⟩
          · have hzN' : (N : Int) < z := by omega
            clear hz
            have HA3 := hidMk (show ∀ y, Jz W0 r q ds ms hb ha hc hl la y → _ from fun y hy => jz_Within (x := xc) (u := us1) HSW.out hy)
            have HA4 := hidMk (show ∀ y, Jz W0 r q ds ms hb ha hc hl la y → _ from fun y hy => jz_RWithin (x := xc) (u := us1) (lc := lc) HE.out hy)
            have HA5 := hidMk (show ∀ y, Jz W0 r q ds ms hb ha hc hl la y → _ from fun y hy => jz_Foreign (u := us1) HSW.out HSM.out hy)
            have HA6 := hidMk (show ∀ y v, FgQ ms ds hl us1 v y → Jz W0 r q ds ms hb ha hc hl la y → _ from fun y v hv hy => jz_All HSW.out.ct HNN.out hN6 hv hy)
            have HA7 := hidMk (show ∀ y a, AlJ r (foK ms ds (hl.map lkOf) us1 N) a y → Jz W0 r q ds ms hb ha hc hl la y → _ from fun y a hv hy => jz_RForeign (lc := lc) HE.out HNN.out hN6 hv hy)
            have HA8 := hidMk (show ∀ y a b c d, AlJ r (foK ms ds (hl.map lkOf) us1 N) a y → Sl .i64 y b (foK ms ds (hl.map lkOf) us1 N).length (foK ms ds (hl.map lkOf) us1 N) → Jz W0 r q ds ms hb ha hc hl la y → _ from fun y a b c d h1 h2 hy => jz_Ints (c := c) (d := d) h1 h2 hy)
            have HA9 := hidMk (show ∀ y, Jz W0 r q ds ms hb ha hc hl la y → _ from fun y hy => jz_Same hy)
            have HA0 := hidMk (show ∀ y, Jz W0 r q ds ms hb ha hc hl la y → _ from fun y hy => jz_known hy)
            unfold clV at HA3 HA4
            generalize foK ms ds (hl.map lkOf) us1 N = L at HA6 HA7 HA8
            generalize ((hl.map lkOf).any fun z => wiP ms ds xc us1 z) = B2 at HA3 HA4
            have hB2 : (B2 == B2) = true := by simp
            have z0 := HJ3.out.keep ((Kept.refl _).drew)
            obtain ⟨t0, t1, t2, t3, t4, t5⟩ := HZS.out _ HJ3.out
            clear HJ
            have HJ := HJ3
            go_upto_region 29 with fail
            have hfl := set8_fieldJ
            go_region_held3 (fun y => y.cell? ⟨hb, 0, none⟩ = some (.slice ha hl.length hc) ∧ y.cell? ⟨cb, 0, none⟩ = some (.int .i64 xc.1) ∧ y.cell? ⟨cb, 1, none⟩ = some (.int .i64 xc.2.1) ∧ y.cell? ⟨cb, 2, none⟩ = some (.int .i64 xc.2.2.1) ∧ y.cell? ⟨cb, 3, none⟩ = some (.int .i64 xc.2.2.2.1) ∧ y.cell? ⟨cb, 4, none⟩ = some (.int .i64 xc.2.2.2.2))
              (first | assumption | exact HZS.out _ (by first | assumption | exact HJ.out))
              (first
                | (go_at_call 36; refine (HA3.out _ (by first | assumption | exact HJ.out)).mono ?_; rintro e w13 ⟨rfl, z13⟩)
                | (go_at_call 37; refine (HA4.out _ (by first | assumption | exact HJ.out)).mono ?_; rintro e w14 ⟨rfl, z14⟩)
                | (go_at_call 38; refine (HA5.out _ (by first | assumption | exact HJ.out)).mono ?_; rintro e w15 ⟨⟨a15, n15, c15, rfl, g15⟩, z15⟩)
                | (go_at_call 22; refine (HA6.out _ _ (by assumption) (by assumption)).mono ?_; rintro e w16 ⟨⟨a16, c16, rfl, g16⟩, z16⟩)
                | (go_at_call 39; refine (HA7.out _ _ (by assumption) (by assumption)).mono ?_; rintro e w17 ⟨⟨a17, c17, rfl, g17, f17⟩, z17⟩)
                | (go_at_call 20; refine (HA8.out _ _ _ _ _ (by assumption) (by assumption) (by assumption)).mono ?_; rintro e w18 ⟨rfl, z18⟩)
                | (go_at_call 40; refine (HA9.out _ (by assumption)).mono ?_; rintro e w19 ⟨rfl, z19⟩)
                | (go_at_call 26; refine (HA0.out _ (by assumption)).mono ?_; rintro e w20 ⟨rfl, z20⟩; have HZ20 := hidMk z20))
            all_goals (try go_wp2_with fail)
            all_goals
              go_ret
              obtain ⟨p2, g⟩ := HZ20.out
              exact ⟨by first | rfl | simp, HKA.out.trans (HK0.out.trans g.rq.kp)⟩
end Go.Proofs.YtmedgkccicbieaaGreat
