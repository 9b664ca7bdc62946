/- HoldPlays: acts, one after the other, on both sides. -/
import Derived.Test.YtmedgkccicbieaaGreatQHp3B
import Derived.Deep.RegionHeld3
import Derived.Deep.CutRange
namespace Go.Proofs.YtmedgkccicbieaaGreat
open Go.RowKit Go.Maps
set_option linter.unusedSimpArgs false
set_option linter.unusedVariables false

theorem farQ {w : World} {b g o : Nat} {v u : Value} (h : g ≠ b) (hc : w.cell? ⟨b, o, none⟩ = some u) : (w.setCell ⟨g, 0, none⟩ v).cell? ⟨b, o, none⟩ = some u := (World.cell?_setCell_far w ⟨g, 0, none⟩ ⟨b, o, none⟩ v h).trans hc
theorem set8_field (a : Option Addr) (n c : Nat) (w : World) : (Instr.field 59 (.agg #[.slice a n c]) 0).run Tryz.prog w = .ok (.slice a n c) w := by
  have h := Tryz.underlying59
  have h2 := Tryz.isAgg52
  unfold Instr.field
  simp [run_underlying h, Sem.run_bind, asAgg, part, h2]
set_option maxHeartbeats 8000000 in
set_option maxRecDepth 100000 in
theorem law_HoldPlays (a : Option Addr) (n c : Nat) (ds : List Dm) (na : Nat → Option Addr × Nat × Nat) (b : Option Addr) (m d : Nat) (ms : List ByteArray) (lv sc : Int) (la0 : Option Addr) (ln lc0 : Nat) (l : List At) (xc : Cl) (w : World) (hs : Dss w a n ds na) (hm : Ss w b m ms) (hmz : ∀ i, i < ms.length → (msA ms i).size ≤ maxLen) (hl : Aq w la0 ln l) :
    Calls Tryz.prog 3 #[.agg #[.slice a n c, .slice b m d, .int .i64 lv, .int .i64 sc], .slice la0 ln lc0, clV xc] w fun e w' => e = .returned (.bool true) ∧ Kept w w' := by
  obtain ⟨WA, hWA⟩ : ∃ V, V = (w.alloc (.cells #[.slice a n c, .slice b m d, .int .i64 lv, .int .i64 sc] 25)).alloc (.cells #[.int .i64 xc.1, .int .i64 xc.2.1, .int .i64 xc.2.2.1, .int .i64 xc.2.2.2.1, .int .i64 xc.2.2.2.2] 29) := ⟨_, rfl⟩
  obtain ⟨cb, hcb⟩ : ∃ x, x = w.heap.size + 1 := ⟨_, rfl⟩
  have kA : Kept w WA := by rw [hWA]; exact ((Kept.refl w).alloc _).alloc _
  have HC := hidMk (show ∀ Y, Kept WA Y → Y.cell? ⟨cb, 0, none⟩ = some (.int .i64 xc.1) ∧ Y.cell? ⟨cb, 1, none⟩ = some (.int .i64 xc.2.1) ∧ Y.cell? ⟨cb, 2, none⟩ = some (.int .i64 xc.2.2.1) ∧ Y.cell? ⟨cb, 3, none⟩ = some (.int .i64 xc.2.2.2.1) ∧ Y.cell? ⟨cb, 4, none⟩ = some (.int .i64 xc.2.2.2.2) from fun Y k => boxC_at (w.alloc (.cells #[.slice a n c, .slice b m d, .int .i64 lv, .int .i64 sc] 25)) xc 29 (by simp [hcb]) Y (by rw [← hWA]; exact k))
  have HOP := hidMk (law13_open a n c ds na b m d ms lv sc WA (hs.kept kA) (hm.kept kA) hmz)
  have HKN := hidMk law13_known
  have HKA := hidMk kA
  have HL := hidMk hl
  have hln := hl.len
  have hbig := hl.big
  unfold maxLen at hbig
  clear hs hm hmz hl kA
  subst hln
  unfold clV
  go_enter Tryz.func3, Tryz.ntmps3
  go_wp2_with fail
  rw [← hWA, ← hcb]
  clear hWA hcb
  refine HOP.out.mono ?_
  rintro e w1 (⟨W0, s, p, tp, rv, q, rt, rfl, hsm, _, hsw, hrd, hk, hw1⟩ | ⟨v1, v2, rfl, _, k1⟩)
  rotate_left
  · have HK1 := hidMk (HKA.out.trans k1)
    clear k1
    go_wp2_with fail
    refine (HKN.out _).mono ?_
    rintro e w2 ⟨rfl, k2⟩
    go_wp2_with fail
    go_ret
    exact ⟨rfl, HK1.out.trans k2⟩
  obtain ⟨r, hr⟩ : ∃ r, r = W0.heap.size := ⟨_, rfl⟩
  have HE := hidMk (show RE W0 r q ds ms rt from ⟨hr, hrd, hsw.ct⟩)
  have HK0 := hidMk hk
  have HSW := hidMk hsw
  have HSM := hidMk hsm
  obtain ⟨hb, hhb⟩ : ∃ x, x = w1.heap.size := ⟨_, rfl⟩
  have hz1 : w1.heap.size = r + 1 := by rw [hw1, hr]; simp
  have HQ1 := hidMk (show RQ W0 r q ds nlV nlV none w1 from by
    have cc : ∀ i v, (#[Value.pointer (some ⟨q, 0, none⟩), .slice none 0 0, .slice none 0 0, .slice none 0 0, .slice none 0 0, .slice none 0 0] : Array Value)[i]? = some v → w1.cell? ⟨r, i, none⟩ = some v := fun i v e => by rw [hw1]; exact new_cell _ _ _ _ i _ hr e
    exact ⟨by rw [hw1]; exact (Kept.refl _).alloc _, cc 0 _ rfl, cc 4 _ rfl, cc 5 _ rfl, fun k => by rw [hw1, hr]; simp, fun _ => ⟨cc 1 _ rfl, cc 2 _ rfl, cc 3 _ rfl⟩, fun B H e => (by cases e)⟩)
  have HV0 := hidMk (show Hr W0 r q ds ms none hb none 0 [] none (w1.alloc (.cells #[.slice none 0 0] 37)) from
    ⟨new_cell _ _ _ _ 0 _ hhb rfl, by rw [hhb]; simp, hd_nil _ _ _, ⟨fun hp => absurd hp (by simp)⟩, HQ1.out.keep ((Kept.refl _).alloc _), hr, by omega, fun ad e => (by cases e), fun ad e => (by cases e), fun B H e => (by cases e)⟩)
  obtain ⟨N, hN⟩ : ∃ N : Nat, (N : Int) = mulK (fun k => leas ds k) ms.length 4 := ⟨(mulK (fun k => leas ds k) ms.length 4).toNat, by have := (leaves_few hsw.ct hsm).1; omega⟩
  have hN6 : N ≤ 1000 := by have := (leaves_few hsw.ct hsm).2; omega
  have HNN := hidMk hN
  rw [← hr]
  clear hN hw1 hk hsw hsm hrd HOP HQ1 hz1 hr
  obtain ⟨M, hM⟩ : ∃ M, M = if l.length ≤ 40 then l.length else 40 := ⟨_, rfl⟩
  have hM1 : M ≤ l.length := by rw [hM]; split <;> omega
  have hM2 : M ≤ 40 := by rw [hM]; split <;> omega
  have hM3 : M = l.length ∨ M = 40 := by rw [hM]; split <;> omega
  clear hM
  go_wp2_with fail
  rw [← hhb]
  clear hhb
  go_loopg [11, 12] M (fun gg lw iv wr => ∃ (k : Nat) (ha : Option Addr) (hc : Nat) (hl : List Cl) (la : Option Addr) (lc : Nat) (pp : Option (Nat × Nat)), k + gg = M ∧ lw = .slice la hl.length lc ∧ iv = .int .i64 (k : Int) ∧ Hid (Hr W0 r q ds ms pp hb ha hc hl la wr))
  case atStart => exact ⟨0, none, 0, [], none, 0, none, by omega, rfl, rfl, HV0⟩
  case round =>
    obtain ⟨k, ha, hc, hl, la, lc, pp, hkg, rfl, rfl, HH⟩ := hrel
    have HKG := hidMk hkg
    by_cases hkM : k < M
    · have hk1 : (k : Int) < (l.length : Int) := by omega
      have hk2 : (k : Int) < 40 := by omega
      have hk3 : k < l.length := by omega
      have hk0 : (0 : Int) ≤ (k : Int) := by omega
      obtain ⟨lb, lo, rfl⟩ := HL.out.form (by omega)
      obtain ⟨W2, hW2⟩ : ∃ V, V = (wr.alloc (.cells #[.slice ha hl.length hc] 37)).alloc (.cells #[.slice ha hl.length hc] 37) := ⟨_, rfl⟩
      obtain ⟨wb, hwb⟩ : ∃ x, x = wr.heap.size := ⟨_, rfl⟩
      obtain ⟨nb, hnb⟩ : ∃ x, x = wr.heap.size + 1 := ⟨_, rfl⟩
      have k2 : Kept wr W2 := by rw [hW2]; exact ((Kept.refl _).alloc _).alloc _
      have HK2 := hidMk k2
      have HW2 := hidMk hW2
      have HWB := hidMk hwb
      have HNB := hidMk hnb
      have kW := HKA.out.trans (HK0.out.trans (HH.out.rq.kp.trans k2))
      obtain ⟨hlb, c0, c1, c2, c3, c4, c5⟩ := (HL.out.kept kW).at hk3
      have nc : W2.cell? ⟨nb, 0, none⟩ = some (.slice ha hl.length hc) := by rw [hW2]; exact new_cell _ _ _ _ 0 _ (by simp [hnb]) rfl
      have nf : W2.frozen? ⟨nb, 0, none⟩ = false := by rw [hW2, hnb]; simp
      have nl : nb < W2.heap.size := cell_lt nc
      have hnh : nb ≠ hb := by have := HH.out.lt; omega
      have hnl : nb ≠ lb := by
        obtain ⟨lb0, lo0, e0, hlt0, _⟩ := HL.out.cells (by omega)
        cases e0
        have h2 := (HKA.out.trans (HK0.out.trans HH.out.rq.kp)).size
        omega
      have yw := HH.out.cell
      have ywl := HH.out.lt
      have y0 := k2.cellp HH.out.cell
      obtain ⟨X0, hX⟩ : ∃ X, atA l k = X := ⟨_, rfl⟩
      rw [hX] at c0 c1 c2 c3 c4 c5
      obtain ⟨X, dr⟩ := X0
      simp only at c0 c1 c2 c3 c4 c5
      have HX := hidMk hX
      clear kW hX hkg k2
      go_upto_region 14 with fail
      rw [← hW2, ← hnb, ← hwb]
      clear hW2 hnb hwb
      go_upto_if 44 with fail
      go_cut [15, 16, 17] from 28 to 139 (fun kv e f W => ∃ a3 d3 l3 ka kc D, kv = .slice ka l3.length kc ∧ e = .int .i64 D ∧ f = .int .i64 D ∧ Hid (Hs W0 r q ds ms pp hb ha hc hl la wb nb a3 d3 l3 W ∧ Cq W ka l3 ∧ ∀ ad, ka = some ad → hb < ad.block))
      case first =>
        cases dr
        · have HAD := hidMk (show ∀ y, Kept W2 y → Calls Tryz.prog 12 #[.agg #[.slice ha hl.length hc], .pointer (some ⟨s, 0, none⟩), clV X] y (fun e w' => ∃ a3 n3 d3, e = .returned (.tuple #[.agg #[.slice a3 n3 d3], .int .i64 (addE ms ds hl X)]) ∧ Hid (Tld W2 ms ds (fun y => addE ms ds hl X = 0 ∧ (y = X ∨ y ∈ hl)) a3 n3 d3 w')) from fun y hy => by
            refine (hd_AddQ (HSW.out.keep (HH.out.rq.kp.trans (HK2.out.trans hy))) (HH.out.hd.kept (HK2.out.trans hy)) X).mono ?_
            rintro e w' ⟨a3, n3, d3, r3, rfl, ⟨rfl, l3, h1, h2, h3, _, h4⟩, k⟩
            exact ⟨a3, n3, d3, rfl, hidMk ⟨hy.trans k, l3, h1, h2, h3, fun ad e => Nat.le_trans hy.size (h4 ad e)⟩⟩)
          have HRD := hidMk (show ∀ V a3 d3 l3, Hs W0 r q ds ms pp hb ha hc hl la wb nb a3 d3 l3 V → (∀ y, y ∈ l3 ↔ addE ms ds hl X = 0 ∧ (y = X ∨ y ∈ hl)) → Calls Tryz.prog 13 #[.pointer (some ⟨r, 0, none⟩), .slice la hl.length lc, clV X] V (RTl W0 r q ds ms pp hb ha hc hl la wb nb a3 d3 l3 (addE ms ds hl X)) from fun V a3 d3 l3 h1 h2 => hs_RAdd HE.out h1 lc X h2)
          generalize addE ms ds hl X = D at HAD HRD
          obtain ⟨P, hP⟩ : ∃ P : Cl → Prop, P = (fun y => D = 0 ∧ (y = X ∨ y ∈ hl)) := ⟨_, rfl⟩
          rw [← hP] at HAD
          have HAD2 := HAD
          have HRD2 := hidMk (show ∀ V a3 d3 l3, Hs W0 r q ds ms pp hb ha hc hl la wb nb a3 d3 l3 V → (∀ y, y ∈ l3 ↔ P y) → Calls Tryz.prog 13 #[.pointer (some ⟨r, 0, none⟩), .slice la hl.length lc, clV X] V (RTl W0 r q ds ms pp hb ha hc hl la wb nb a3 d3 l3 D) from fun V a3 d3 l3 h1 h2 => HRD.out V a3 d3 l3 h1 (fun y => by rw [h2, hP]))
          clear HAD HRD hP
          obtain ⟨x0, x1, x2, x3, x4⟩ := X
          unfold clV at HAD2 HRD2
          simp only at c0 c1 c2 c3 c4 HAD2 HRD2
          go_upto_region 17 with fail
          go_cut [16] from 28 to 139 (fun e W => ∃ a3 d3 l3, e = .int .i64 D ∧ Hid (Hs W0 r q ds ms pp hb ha hc hl la wb nb a3 d3 l3 W ∧ ∀ y, y ∈ l3 ↔ P y))
          case first =>
            go_region_held3 (fun w' => w'.cell? ⟨hb, 0, none⟩ = some (.slice ha hl.length hc) ∧ w'.cell? ⟨lb, lo + k * 6, none⟩ = some (.int .i64 x0) ∧ w'.cell? ⟨lb, lo + k * 6 + 1, none⟩ = some (.int .i64 x1) ∧ w'.cell? ⟨lb, lo + k * 6 + 2, none⟩ = some (.int .i64 x2) ∧ w'.cell? ⟨lb, lo + k * 6 + 3, none⟩ = some (.int .i64 x3) ∧ w'.cell? ⟨lb, lo + k * 6 + 4, none⟩ = some (.int .i64 x4))
              (first | assumption | (refine ⟨farQ hnh (Kept.cellp ?_ y0), farQ hnl (Kept.cellp ?_ c0), farQ hnl (Kept.cellp ?_ c1), farQ hnl (Kept.cellp ?_ c2), farQ hnl (Kept.cellp ?_ c3), farQ hnl (Kept.cellp ?_ c4)⟩ <;> ((repeat (first | (with_reducible exact Kept.refl _) | (with_reducible refine Kept.alloc ?_ _) | (with_reducible refine Kept.drew ?_) | (with_reducible refine Kept.drewN ?_ _) | (with_reducible refine Kept.trans ?_ (by assumption)))); done)) | (refine ⟨Kept.cellp ?_ y0, Kept.cellp ?_ c0, Kept.cellp ?_ c1, Kept.cellp ?_ c2, Kept.cellp ?_ c3, Kept.cellp ?_ c4⟩ <;> ((repeat (first | (with_reducible exact Kept.refl _) | (with_reducible refine Kept.alloc ?_ _) | (with_reducible refine Kept.drew ?_) | (with_reducible refine Kept.drewN ?_ _) | (with_reducible refine Kept.trans ?_ (by assumption)))); done)))
              ((go_at_call 12; refine (HAD2.out _ (by (repeat (first | (with_reducible exact Kept.refl _) | (with_reducible refine Kept.alloc ?_ _) | (with_reducible refine Kept.drew ?_) | (with_reducible refine Kept.drewN ?_ _) | (with_reducible refine Kept.trans ?_ (by assumption)))))).mono ?_; rintro e w3 ⟨a3, n3, d3, rfl, HT3⟩; have k3 := HT3.out.1; have nc3 := k3.cellp nc; have nf3 := (k3.frozen (p := ⟨nb, 0, none⟩) nl).trans nf; have nl3 : nb < w3.heap.size := cell_lt nc3))
            all_goals (try go_wp2_with fail)
            all_goals
              go_meet
              obtain ⟨g1, l3, g2, g3, g4, g5⟩ := HT3.out
              exact ⟨a3, d3, l3, rfl, hidMk ⟨hs_new HH.out HW2.out g1 g3 g5 g2 HWB.out HNB.out, g4⟩⟩
          case rest =>
            obtain ⟨a3, d3, l3, rfl, HS3⟩ := hcut
            have HR3 := hidMk (HRD2.out wc a3 d3 l3 HS3.out.1 HS3.out.2)
            unfold RTl at HR3
            clear c0 c1 c2 c3 c4 c5 y0 yw ywl nc nf nl hlb HAD2 HRD2
            obtain ⟨hlb, c0, c1, c2, c3, c4, c5⟩ := (HL.out.kept (HKA.out.trans (HK0.out.trans HS3.out.1.hr.rq.kp))).at hk3
            rw [HX.out] at c0 c1 c2 c3 c4
            simp only at c0 c1 c2 c3 c4
            clear c5
            go_wp2_with fail
            refine HR3.out.mono ?_
            rintro e w5 ⟨ka, kc, rfl, HQ⟩
            go_wp2_with fail
            go_meet
            exact ⟨a3, d3, l3, ka, kc, D, rfl, rfl, rfl, HQ⟩
        · have HAD := hidMk (show ∀ y, Kept W2 y → Calls Tryz.prog 10 #[.agg #[.slice ha hl.length hc], .pointer (some ⟨s, 0, none⟩), clV X] y (fun e w' => ∃ a3 n3 d3, e = .returned (.tuple #[.agg #[.slice a3 n3 d3], .int .i64 (dropE ms ds hl X)]) ∧ Hid (Tld W2 ms ds (fun y => dropE ms ds hl X = 0 ∧ y ∈ hl ∧ y ≠ X) a3 n3 d3 w')) from fun y hy => by
            refine (hd_DropQ (HSW.out.keep (HH.out.rq.kp.trans (HK2.out.trans hy))) (HH.out.hd.kept (HK2.out.trans hy)) X).mono ?_
            rintro e w' ⟨a3, n3, d3, r3, rfl, ⟨rfl, l3, h1, h2, h3, h4⟩, k⟩
            exact ⟨a3, n3, d3, rfl, hidMk ⟨hy.trans k, l3, h1, h2, h3, fun ad e => Nat.le_trans hy.size (h4 ad e)⟩⟩)
          have HRD := hidMk (show ∀ V a3 d3 l3, Hs W0 r q ds ms pp hb ha hc hl la wb nb a3 d3 l3 V → (∀ y, y ∈ l3 ↔ dropE ms ds hl X = 0 ∧ y ∈ hl ∧ y ≠ X) → Calls Tryz.prog 11 #[.pointer (some ⟨r, 0, none⟩), .slice la hl.length lc, clV X] V (RTl W0 r q ds ms pp hb ha hc hl la wb nb a3 d3 l3 (dropE ms ds hl X)) from fun V a3 d3 l3 h1 h2 => hs_RDrop HE.out h1 lc X h2)
          generalize dropE ms ds hl X = D at HAD HRD
          obtain ⟨P, hP⟩ : ∃ P : Cl → Prop, P = (fun y => D = 0 ∧ y ∈ hl ∧ y ≠ X) := ⟨_, rfl⟩
          rw [← hP] at HAD
          have HAD2 := HAD
          have HRD2 := hidMk (show ∀ V a3 d3 l3, Hs W0 r q ds ms pp hb ha hc hl la wb nb a3 d3 l3 V → (∀ y, y ∈ l3 ↔ P y) → Calls Tryz.prog 11 #[.pointer (some ⟨r, 0, none⟩), .slice la hl.length lc, clV X] V (RTl W0 r q ds ms pp hb ha hc hl la wb nb a3 d3 l3 D) from fun V a3 d3 l3 h1 h2 => HRD.out V a3 d3 l3 h1 (fun y => by rw [h2, hP]))
          clear HAD HRD hP
          obtain ⟨x0, x1, x2, x3, x4⟩ := X
          unfold clV at HAD2 HRD2
          simp only at c0 c1 c2 c3 c4 HAD2 HRD2
          go_upto_region 15 with fail
          go_cut [16] from 28 to 139 (fun e W => ∃ a3 d3 l3, e = .int .i64 D ∧ Hid (Hs W0 r q ds ms pp hb ha hc hl la wb nb a3 d3 l3 W ∧ ∀ y, y ∈ l3 ↔ P y))
          case first =>
            go_region_held3 (fun w' => w'.cell? ⟨hb, 0, none⟩ = some (.slice ha hl.length hc) ∧ w'.cell? ⟨lb, lo + k * 6, none⟩ = some (.int .i64 x0) ∧ w'.cell? ⟨lb, lo + k * 6 + 1, none⟩ = some (.int .i64 x1) ∧ w'.cell? ⟨lb, lo + k * 6 + 2, none⟩ = some (.int .i64 x2) ∧ w'.cell? ⟨lb, lo + k * 6 + 3, none⟩ = some (.int .i64 x3) ∧ w'.cell? ⟨lb, lo + k * 6 + 4, none⟩ = some (.int .i64 x4))
              (first | assumption | (refine ⟨farQ hnh (Kept.cellp ?_ y0), farQ hnl (Kept.cellp ?_ c0), farQ hnl (Kept.cellp ?_ c1), farQ hnl (Kept.cellp ?_ c2), farQ hnl (Kept.cellp ?_ c3), farQ hnl (Kept.cellp ?_ c4)⟩ <;> ((repeat (first | (with_reducible exact Kept.refl _) | (with_reducible refine Kept.alloc ?_ _) | (with_reducible refine Kept.drew ?_) | (with_reducible refine Kept.drewN ?_ _) | (with_reducible refine Kept.trans ?_ (by assumption)))); done)) | (refine ⟨Kept.cellp ?_ y0, Kept.cellp ?_ c0, Kept.cellp ?_ c1, Kept.cellp ?_ c2, Kept.cellp ?_ c3, Kept.cellp ?_ c4⟩ <;> ((repeat (first | (with_reducible exact Kept.refl _) | (with_reducible refine Kept.alloc ?_ _) | (with_reducible refine Kept.drew ?_) | (with_reducible refine Kept.drewN ?_ _) | (with_reducible refine Kept.trans ?_ (by assumption)))); done)))
              ((go_at_call 10; refine (HAD2.out _ (by (repeat (first | (with_reducible exact Kept.refl _) | (with_reducible refine Kept.alloc ?_ _) | (with_reducible refine Kept.drew ?_) | (with_reducible refine Kept.drewN ?_ _) | (with_reducible refine Kept.trans ?_ (by assumption)))))).mono ?_; rintro e w3 ⟨a3, n3, d3, rfl, HT3⟩; have k3 := HT3.out.1; have nc3 := k3.cellp nc; have nf3 := (k3.frozen (p := ⟨nb, 0, none⟩) nl).trans nf; have nl3 : nb < w3.heap.size := cell_lt nc3))
            all_goals (try go_wp2_with fail)
            all_goals
              go_meet
              obtain ⟨g1, l3, g2, g3, g4, g5⟩ := HT3.out
              exact ⟨a3, d3, l3, rfl, hidMk ⟨hs_new HH.out HW2.out g1 g3 g5 g2 HWB.out HNB.out, g4⟩⟩
          case rest =>
            obtain ⟨a3, d3, l3, rfl, HS3⟩ := hcut
            have HR3 := hidMk (HRD2.out wc a3 d3 l3 HS3.out.1 HS3.out.2)
            unfold RTl at HR3
            clear c0 c1 c2 c3 c4 c5 y0 yw ywl nc nf nl hlb HAD2 HRD2
            obtain ⟨hlb, c0, c1, c2, c3, c4, c5⟩ := (HL.out.kept (HKA.out.trans (HK0.out.trans HS3.out.1.hr.rq.kp))).at hk3
            rw [HX.out] at c0 c1 c2 c3 c4
            simp only at c0 c1 c2 c3 c4
            clear c5
            go_wp2_with fail
            refine HR3.out.mono ?_
            rintro e w5 ⟨ka, kc, rfl, HQ⟩
            go_wp2_with fail
            go_meet
            exact ⟨a3, d3, l3, ka, kc, D, rfl, rfl, rfl, HQ⟩
      case rest =>
        obtain ⟨a3, d3, l3, ka, kc, D, rfl, rfl, rfl, HQ⟩ := hcut
        have HS := hidMk HQ.out.1
        have HCK := hidMk HQ.out.2.1
        have HKF := hidMk HQ.out.2.2
        clear c0 c1 c2 c3 c4 c5 y0 yw ywl nc nf nl hlb HQ HX HW2 HK2
        have wc0 := HS.out.wc
        have wcl : wb < wc.heap.size := cell_lt wc0
        have HNC := hidMk HS.out.nc
        have HLW := hidMk (show ∀ y, Kept wc y → Calls Tryz.prog 15 #[.agg #[.slice ha hl.length hc]] y fun e w' => (∃ a c, e = .returned (.slice a hl.length c) ∧ Cs w' a hl.length (fCq hl)) ∧ Kept y w' from fun y hy => by
          refine (hold_List ha hc hl y (HS.out.hr.hd.cq.kept hy) HS.out.hr.hd.nl (by have := HS.out.hr.hd.sm; omega)).mono ?_
          rintro e w' ⟨v, rfl, ho, k⟩
          obtain ⟨a, c, rfl, hq, _⟩ := ho.form
          exact ⟨⟨a, c, rfl, hq.csq (by have := HS.out.hr.hd.sm; unfold maxLen; omega)⟩, k⟩)
        have HLN := hidMk (show ∀ y, Kept wc y → Calls Tryz.prog 15 #[.agg #[.slice a3 l3.length d3]] y fun e w' => (∃ a c, e = .returned (.slice a l3.length c) ∧ Cs w' a l3.length (fCq l3)) ∧ Kept y w' from fun y hy => by
          refine (hold_List a3 d3 l3 y (HS.out.nd.cq.kept hy) HS.out.nd.nl (by have := HS.out.nd.sm; omega)).mono ?_
          rintro e w' ⟨v, rfl, ho, k⟩
          obtain ⟨a, c, rfl, hq, _⟩ := ho.form
          exact ⟨⟨a, c, rfl, hq.csq (by have := HS.out.nd.sm; unfold maxLen; omega)⟩, k⟩)
        have HCL := hidMk (show ∀ y, Kept wc y → Cs y la hl.length (fCq hl) from fun y hy => (HS.out.hr.lq.kept hy).csq (by have := HS.out.hr.hd.sm; unfold maxLen; omega))
        have HCN := hidMk (show ∀ y, Kept wc y → Cs y ka l3.length (fCq l3) from fun y hy => (HCK.out.kept hy).csq (by have := HS.out.nd.sm; unfold maxLen; omega))
        go_wp2_with fail
        refine (HLW.out _ (Kept.refl _)).mono ?_
        rintro e w5 ⟨⟨a5, c5, rfl, s5⟩, k5⟩
        have HK5 := hidMk k5
        have HS5 := hidMk s5
        clear k5 s5
        go_wp2_with fail
        refine (ref7_Same _ _ _ _ _ _ _ HS5.out (HCL.out _ HK5.out)).mono ?_
        rintro e w6 ⟨rfl, k6⟩
        have HK6 := hidMk (HK5.out.trans k6)
        have nc6 := HK6.out.cellp HNC.out
        have nl6 : nb < w6.heap.size := cell_lt nc6
        clear k6 wc0 wcl
        go_wp2_with fail
        refine (HLN.out _ HK6.out).mono ?_
        rintro e w7 ⟨⟨a7, c7, rfl, s7⟩, k7⟩
        have HK7 := hidMk (HK6.out.trans k7)
        have HS7 := hidMk s7
        clear k7 s7
        go_wp2_with fail
        refine (ref7_Same _ _ _ _ _ _ _ HS7.out (HCN.out _ HK7.out)).mono ?_
        rintro e w8 ⟨rfl, k8⟩
        have HK8 := hidMk (HK7.out.trans k8)
        have H8 := hidMk (HS.out.keep HK8.out)
        have HC8 := hidMk (HCK.out.kept HK8.out)
        clear k8 nc6 nl6 HLW HLN HCL HCN HS HCK HNC
        go_upto_if 107 with fail
        go_cut [11] from 28 to 139 (fun lw W => ∃ ha hc hl la lc, lw = .slice la hl.length lc ∧ Hid (Hz W0 r q ds ms hb ha hc hl la W))
        case first =>
          by_cases hD : D = 0
          · subst hD
            have nc8 := H8.out.nc
            have nl8 : nb < w8.heap.size := cell_lt nc8
            have y8 := H8.out.hr.cell
            have yf8 := H8.out.hr.fz
            have yl8 : hb < w8.heap.size := cell_lt y8
            go_wp2_with fail
            go_meet
            exact ⟨a3, d3, l3, ka, kc, rfl, hidMk ⟨pp, H8.out.next HC8.out HKF.out⟩⟩
          · have hD2 : (D == 0) = false := by simpa using hD
            go_wp2_with fail
            go_meet
            exact ⟨ha, hc, hl, la, lc, rfl, hidMk ⟨pp, H8.out.hr⟩⟩
        case rest =>
          clear HH H8 HC8 HKF HK8 HK7 HK6 HK5 HS5 HS7
          obtain ⟨ha, hc, hl, la, lc, rfl, HH⟩ := hcut
          have HZS := hidMk (show ∀ y, Hz W0 r q ds ms hb ha hc hl la y → y.cell? ⟨hb, 0, none⟩ = some (.slice ha hl.length hc) ∧ y.cell? ⟨cb, 0, none⟩ = some (.int .i64 xc.1) ∧ y.cell? ⟨cb, 1, none⟩ = some (.int .i64 xc.2.1) ∧ y.cell? ⟨cb, 2, none⟩ = some (.int .i64 xc.2.2.1) ∧ y.cell? ⟨cb, 3, none⟩ = some (.int .i64 xc.2.2.2.1) ∧ y.cell? ⟨cb, 4, none⟩ = some (.int .i64 xc.2.2.2.2) from fun y hy => by
            obtain ⟨p2, g⟩ := hy
            exact ⟨g.cell, HC.out y (HK0.out.trans g.rq.kp)⟩)
          have HA1 := hidMk (show ∀ y, Hz W0 r q ds ms hb ha hc hl la y → _ from fun y hy => hz_Has (x := xc) hy)
          have HA2 := hidMk (show ∀ y, Hz W0 r q ds ms hb ha hc hl la y → _ from fun y hy => hz_RHas (x := xc) (lc := lc) hy)
          have HA3 := hidMk (show ∀ y, Hz W0 r q ds ms hb ha hc hl la y → _ from fun y hy => hz_Within (x := xc) HSW.out hy)
          have HA4 := hidMk (show ∀ y, Hz W0 r q ds ms hb ha hc hl la y → _ from fun y hy => hz_RWithin (x := xc) (lc := lc) HE.out hy)
          have HA5 := hidMk (show ∀ y, Hz W0 r q ds ms hb ha hc hl la y → _ from fun y hy => hz_Region HSW.out HSM.out hy)
          have HA6 := hidMk (show ∀ y v, RgQ ms ds hl v y → Hz W0 r q ds ms hb ha hc hl la y → _ from fun y v hv hy => hz_All HSW.out.ct HNN.out hN6 hv hy)
          have HA7 := hidMk (show ∀ y a, AlQ r (cdK ms ds hl N) a y → Hz W0 r q ds ms hb ha hc hl la y → _ from fun y a hv hy => hz_RRegion (lc := lc) HE.out HNN.out hN6 hv hy)
          have HA8 := hidMk (show ∀ y a b c d, AlQ r (cdK ms ds hl N) a y → Sl .i64 y b (cdK ms ds hl N).length (cdK ms ds hl N) → Hz W0 r q ds ms hb ha hc hl la y → _ from fun y a b c d h1 h2 hy => hz_Ints (c := c) (d := d) h1 h2 hy)
          unfold clV at HA1 HA2 HA3 HA4
          generalize cdK ms ds hl N = L at HA6 HA7 HA8
          generalize decide (xc ∈ hl) = B1 at HA1 HA2
          generalize (hl.any fun z => wiC ms ds xc z) = B2 at HA3 HA4
          have z0 := HH.out.keep ((Kept.refl _).drew)
          obtain ⟨t0, t1, t2, t3, t4, t5⟩ := HZS.out _ HH.out
          go_upto_region 24 with fail
          have hfl := set8_field
          go_region_held3 (fun y => y.cell? ⟨hb, 0, none⟩ = some (.slice ha hl.length hc) ∧ y.cell? ⟨cb, 0, none⟩ = some (.int .i64 xc.1) ∧ y.cell? ⟨cb, 1, none⟩ = some (.int .i64 xc.2.1) ∧ y.cell? ⟨cb, 2, none⟩ = some (.int .i64 xc.2.2.1) ∧ y.cell? ⟨cb, 3, none⟩ = some (.int .i64 xc.2.2.2.1) ∧ y.cell? ⟨cb, 4, none⟩ = some (.int .i64 xc.2.2.2.2))
            (first | assumption | exact HZS.out _ (by first | assumption | exact HH.out))
            (first
              | (go_at_call 16; refine (HA1.out _ (by first | assumption | exact HH.out)).mono ?_; rintro e w11 ⟨rfl, z11⟩)
              | (go_at_call 17; refine (HA2.out _ (by first | assumption | exact HH.out)).mono ?_; rintro e w12 ⟨rfl, z12⟩)
              | (go_at_call 18; refine (HA3.out _ (by first | assumption | exact HH.out)).mono ?_; rintro e w13 ⟨rfl, z13⟩)
              | (go_at_call 19; refine (HA4.out _ (by first | assumption | exact HH.out)).mono ?_; rintro e w14 ⟨rfl, z14⟩)
              | (go_at_call 21; refine (HA5.out _ (by first | assumption | exact HH.out)).mono ?_; rintro e w15 ⟨⟨a15, n15, c15, rfl, g15⟩, z15⟩)
              | (go_at_call 22; refine (HA6.out _ _ (by assumption) (by assumption)).mono ?_; rintro e w16 ⟨⟨a16, c16, rfl, g16⟩, z16⟩)
              | (go_at_call 23; refine (HA7.out _ _ (by assumption) (by assumption)).mono ?_; rintro e w17 ⟨⟨a17, c17, rfl, g17, f17⟩, z17⟩)
              | (go_at_call 20; refine (HA8.out _ _ _ _ _ (by assumption) (by assumption) (by assumption)).mono ?_; rintro e w18 ⟨rfl, z18⟩; have HZ18 := hidMk z18))
          all_goals (try go_wp2_with fail)
          all_goals
            go_roundg (gk - 1)
            case measure => have := HKG.out; omega
            case rel =>
              obtain ⟨p2, g⟩ := HZ18.out
              exact ⟨k + 1, ha, hc, hl, la, lc, p2, by have := HKG.out; omega, rfl, by go_num, hidMk g⟩
    · have y0 := HH.out.cell
      have y2 := HH.out.lt
      have HSA := hidMk (show Calls Tryz.prog 24 #[.agg #[.slice ha hl.length hc], .agg #[.slice ha hl.length hc]] wr fun e w' => e = .returned (.bool true) ∧ Kept wr w' from by
        refine (hold_Same ha ha hc hc hl hl wr HH.out.hd.cq HH.out.hd.cq (by have := HH.out.hd.sm; omega)).mono ?_
        rintro e w' ⟨rfl, k⟩
        exact ⟨by simp, k⟩)
      by_cases hkn : (k : Int) < (l.length : Int)
      · have hk100 : ¬ ((k : Int) < 40) := by omega
        go_wp2_with fail
        refine HSA.out.mono ?_
        rintro e w3 ⟨rfl, k3⟩
        go_wp2_with fail
        refine (HKN.out _).mono ?_
        rintro e w4 ⟨rfl, k4⟩
        go_wp2_with fail
        go_ret
        exact ⟨by simp, HKA.out.trans (HK0.out.trans (HH.out.rq.kp.trans (k3.trans k4)))⟩
      · have hk100 : True := trivial
        go_wp2_with fail
        refine HSA.out.mono ?_
        rintro e w3 ⟨rfl, k3⟩
        go_wp2_with fail
        refine (HKN.out _).mono ?_
        rintro e w4 ⟨rfl, k4⟩
        go_wp2_with fail
        go_ret
        exact ⟨by simp, HKA.out.trans (HK0.out.trans (HH.out.rq.kp.trans (k3.trans k4)))⟩
end Go.Proofs.YtmedgkccicbieaaGreat
