/- HoldRegion: leaves within cells that are held. -/
import Derived.Test.YtpkepkemjcjplaaGreatLaw13K
import Derived.Test.YtpkepkemjcjplaaGreatLaw13N
import Derived.Test.YtpkepkemjcjplaaGreatCellsFr
import Derived.Deep.RegionHeld3
namespace Go.Proofs.YtpkepkemjcjplaaGreat
open Go.RowKit Go.Maps
set_option linter.unusedSimpArgs false
set_option linter.unusedVariables false

/-- A leaf as a cell. -/
def lfC (ds : List Dm) (n : Int) : Cl := (prQ (fun k => leas ds k) n 4, lfF ds n ds.length 0, lfF ds n ds.length 1, lfF ds n ds.length 2, lfF ds n ds.length 3)
theorem lfC_val (ds : List Dm) (n : Int) : cellV (prQ (fun k => leas ds k) n 4) (lfF ds n ds.length) = clV (lfC ds n) := rfl
theorem inC_congr {ms : List ByteArray} {ds : List Dm} (h4 : ds.length ≤ 4) {cm : Int} {f g : Nat → Int} (h : ∀ k, k < 4 → f k = g k) {em : Int} {et : Nat → Int} : inC ms ds cm f em et ↔ inC ms ds cm g em et := by
  have hr : rightB ms ds cm f = rightB ms ds cm g := by
    have e : (rightB ms ds cm f = true) ↔ (rightB ms ds cm g = true) := by
      rw [right_iff, right_iff]
      constructor
      · rintro ⟨h1, h2⟩; exact ⟨h1, fun k hk => by rw [← h k hk]; exact h2 k hk⟩
      · rintro ⟨h1, h2⟩; exact ⟨h1, fun k hk => by rw [h k hk]; exact h2 k hk⟩
    cases hf : rightB ms ds cm f <;> cases hg : rightB ms ds cm g <;> simp_all
  unfold inC
  rw [hr]
  constructor
  · rintro ⟨h1, h2, h3, h5⟩; exact ⟨h1, h2, h3, fun j hj => by rw [← h j (by omega)]; exact h5 j hj⟩
  · rintro ⟨h1, h2, h3, h5⟩; exact ⟨h1, h2, h3, fun j hj => by rw [h j (by omega)]; exact h5 j hj⟩
theorem lf_within {ms : List ByteArray} {ds : List Dm} (h : Ct ds ms) {n : Int} (hn : okC ms ds n) (l : List Cl) : regP ms ds l n ↔ (l.any fun y => wiC ms ds (lfC ds n) y) = true := by
  rw [List.any_eq_true]
  have e : ∀ y : Cl, wiC ms ds (lfC ds n) y = true ↔ n ∈ undL ms ds y.1 (clT y) := fun y => by
    rw [wi_iff, mem_und h, inC_congr h.d4 (g := lfF ds n ds.length) (fun k hk => by
      have : k = 0 ∨ k = 1 ∨ k = 2 ∨ k = 3 := by omega
      rcases this with rfl | rfl | rfl | rfl <;> rfl)]
    exact ⟨fun q => ⟨hn, q⟩, fun q => q.2⟩
  unfold regP
  constructor
  · rintro ⟨k, hk, hy⟩
    exact ⟨clA l k, by rw [clA_get hk]; exact List.getElem_mem hk, (e _).2 hy⟩
  · rintro ⟨y, hy, hw⟩
    obtain ⟨k, hk, rfl⟩ := List.getElem_of_mem hy
    exact ⟨k, hk, by rw [clA_get hk]; exact (e _).1 hw⟩
set_option maxHeartbeats 8000000 in
set_option maxRecDepth 100000 in
theorem law_HoldRegion (a : Option Addr) (n c : Nat) (ds : List Dm) (na : Nat → Option Addr × Nat × Nat) (b : Option Addr) (m d : Nat) (ms : List ByteArray) (lv sc : Int) (la : Option Addr) (ln lc : Nat) (l : List Cl) (w : World) (hs : Dss w a n ds na) (hm : Ss w b m ms) (hmz : ∀ i, i < ms.length → (msA ms i).size ≤ maxLen) (hl : Cqs w la ln l) :
    Calls Tryz.prog 6 #[.agg #[.slice a n c, .slice b m d, .int .i64 lv, .int .i64 sc], .slice la ln lc] w fun e w' => e = .returned (.bool true) ∧ Kept w w' := by
  obtain ⟨WA, hWA⟩ : ∃ V, V = w.alloc (.cells #[.slice a n c, .slice b m d, .int .i64 lv, .int .i64 sc] 25) := ⟨_, rfl⟩
  have kA : Kept w WA := by rw [hWA]; exact (Kept.refl w).alloc _
  have HOP := hidMk (law13_open a n c ds na b m d ms lv sc WA (hs.kept kA) (hm.kept kA) hmz)
  have HKN := hidMk law13_known
  have HKA := hidMk kA
  have HL := hidMk hl
  have hln := hl.len
  have hbig := hl.big
  unfold maxLen at hbig
  clear hs hm hmz hl kA
  subst hln
  go_enter Tryz.func6, Tryz.ntmps6
  go_wp2_with fail
  rw [← hWA]
  clear hWA
  refine HOP.out.mono ?_
  rintro e w1 (⟨W0, s, p, tp, rv, q, rt, rfl, hsm, _, hsw, _, hk, hw1⟩ | ⟨v1, v2, rfl, _, k1⟩)
  rotate_left
  · have HK1 := hidMk (HKA.out.trans k1)
    clear k1
    go_wp2_with fail
    refine (HKN.out _).mono ?_
    rintro e w2 ⟨rfl, k2⟩
    go_wp2_with fail
    go_ret
    exact ⟨rfl, HK1.out.trans k2⟩
  have k01 : Kept W0 w1 := by rw [hw1]; exact (Kept.refl _).alloc _
  have HK1 := hidMk (hk.trans k01)
  have HSW := hidMk (hsw.keep k01)
  have HSM := hidMk hsm
  generalize W0.heap.size = rb at *
  clear hw1 hk k01 hsw hsm HOP
  obtain ⟨M, hM⟩ : ∃ M, M = if l.length ≤ 30 then l.length else 30 := ⟨_, rfl⟩
  have hM1 : M ≤ l.length := by rw [hM]; split <;> omega
  have hM2 : M ≤ 30 := by rw [hM]; split <;> omega
  have hM3 : M = l.length ∨ M = 30 := by rw [hM]; split <;> omega
  clear hM
  obtain ⟨hb, hhb⟩ : ∃ x, x = w1.heap.size := ⟨_, rfl⟩
  have HV0 := hidMk (show Hv w1 (w1.alloc (.cells #[.slice none 0 0] 37)) ms ds hb none 0 [] from ⟨new_cell _ _ _ _ 0 _ hhb rfl, by rw [hhb]; simp, hd_nil _ _ _, fun ad e => (by cases e), (Kept.refl _).alloc _, by omega⟩)
  go_wp2_with fail
  rw [← hhb]
  clear hhb
  go_loopg [9] M (fun gg iv wr => ∃ (k : Nat) (ha : Option Addr) (hc : Nat) (hl : List Cl), k + gg = M ∧ iv = .int .i64 (k : Int) ∧ Hid (Hv w1 wr ms ds hb ha hc hl))
  case atStart => exact ⟨0, none, 0, [], by omega, rfl, HV0⟩
  case round =>
    obtain ⟨k, ha, hc, hl, hkg, rfl, HV⟩ := hrel
    have HKG := hidMk hkg
    by_cases hkM : k < M
    · have hk1 : (k : Int) < (l.length : Int) := by omega
      have hk2 : (k : Int) < 30 := by omega
      have hk3 : k < l.length := by omega
      have hk0 : (0 : Int) ≤ (k : Int) := by omega
      obtain ⟨lb, lo, rfl⟩ := HL.out.cq.form (by omega)
      have kW := HKA.out.trans (HK1.out.trans HV.out.kp)
      obtain ⟨c0, c1, c2, c3, c4⟩ := (HL.out.cq.kept kW).at hk3
      have hlb : lb < wr.heap.size := cell_lt c0
      have y0 := HV.out.cell
      have y1 := HV.out.fz
      have y2 := HV.out.lt
      obtain ⟨X, hX⟩ : ∃ X, clA l k = X := ⟨_, rfl⟩
      rw [hX] at c0 c1 c2 c3 c4
      have HAD := hidMk (show ∀ y, Kept wr y → Calls Tryz.prog 11 #[.agg #[.slice ha hl.length hc], .pointer (some ⟨s, 0, none⟩), clV X] y (AddQ y ms ds hl X) from fun y hy => hd_AddQ (HSW.out.keep (HV.out.kp.trans hy)) (HV.out.hd.kept hy) X)
      unfold AddQ at HAD
      obtain ⟨R, hR⟩ : ∃ R, R = addE ms ds hl X := ⟨_, rfl⟩
      rw [← hR] at HAD
      have HRE := hidMk hR
      obtain ⟨x0, x1, x2, x3, x4⟩ := X
      unfold clV at HAD
      simp only at c0 c1 c2 c3 c4 HAD
      clear kW hX hkg hR
      by_cases hr : R = 0
      · subst hr
        go_wp2_with fail
        go_region_held3 (fun w' => w'.cell? ⟨hb, 0, none⟩ = some (.slice ha hl.length hc) ∧ w'.cell? ⟨lb, lo + k * 5, none⟩ = some (.int .i64 x0) ∧ w'.cell? ⟨lb, lo + k * 5 + 1, none⟩ = some (.int .i64 x1) ∧ w'.cell? ⟨lb, lo + k * 5 + 2, none⟩ = some (.int .i64 x2) ∧ w'.cell? ⟨lb, lo + k * 5 + 3, none⟩ = some (.int .i64 x3) ∧ w'.cell? ⟨lb, lo + k * 5 + 4, none⟩ = some (.int .i64 x4))
          (first | assumption | (refine ⟨Kept.cellp ?_ y0, Kept.cellp ?_ c0, Kept.cellp ?_ c1, Kept.cellp ?_ c2, Kept.cellp ?_ c3, Kept.cellp ?_ c4⟩ <;> ((repeat (first | (with_reducible exact Kept.refl _) | (with_reducible refine Kept.alloc ?_ _) | (with_reducible refine Kept.drew ?_) | (with_reducible refine Kept.drewN ?_ _) | (with_reducible refine Kept.trans ?_ (by assumption)))); done)) | (refine ⟨Kept.cellp ?_ y0, Kept.cellp ?_ c0, Kept.cellp ?_ c1, Kept.cellp ?_ c2, Kept.cellp ?_ c3, Kept.cellp ?_ c4⟩ <;> (refine Kept.setCell ?_ (Nat.le_refl _) _; (repeat (first | (with_reducible exact Kept.refl _) | (with_reducible refine Kept.alloc ?_ _) | (with_reducible refine Kept.drew ?_) | (with_reducible refine Kept.drewN ?_ _) | (with_reducible refine Kept.trans ?_ (by assumption)))); done)))
          ((go_at_call 11; refine (HAD.out _ (by (repeat (first | (with_reducible exact Kept.refl _) | (with_reducible refine Kept.alloc ?_ _) | (with_reducible refine Kept.drew ?_) | (with_reducible refine Kept.drewN ?_ _) | (with_reducible refine Kept.trans ?_ (by assumption)))))).mono ?_; rintro e w3 ⟨a3, n3, d3, r3, rfl, ⟨rfl, l3, hn3, hd3, hm3, hl3, f3⟩, k3⟩; (first | (have q9 := by with_reducible exact new_kn k3) | skip); (first | (obtain ⟨q0, q1, q2⟩ := q9) | skip); have k3w : Kept wr w3 := (by (repeat (first | (with_reducible exact Kept.refl _) | (with_reducible refine Kept.alloc ?_ _) | (with_reducible refine Kept.drew ?_) | (with_reducible refine Kept.drewN ?_ _) | (with_reducible refine Kept.trans ?_ (by assumption))))); have yc := k3w.cellp y0; have yf := (k3w.frozen (p := ⟨hb, 0, none⟩) y2).trans y1; have yl : hb < w3.heap.size := cell_lt yc; have HN3 := hidMk hn3; have HD3 := hidMk hd3; have HM3 := hidMk hm3; have HL3 := hidMk hl3; have HF3 := hidMk f3; have HK3 := hidMk k3; clear hn3 hd3 hm3 hl3 f3))
        all_goals (try go_wp2_with fail)
        all_goals
          go_roundg (gk - 1)
          case measure => have := HKG.out; omega
          case rel =>
            refine ⟨k + 1, a3, d3, l3, by have := HKG.out; omega, by go_num, hidMk ?_⟩
            first
              | exact ((HV.out.keep k3w).set HN3.out HD3.out (fun ad e (f : ad.block = hb) => by have h1 : wr.heap.size ≤ ad.block := HF3.out ad e; omega)).keep ((Kept.refl _).alloc _)
              | exact hv_nextB HV.out (((Kept.refl _).alloc _).drew) (by simp) HK3.out HD3.out HF3.out HN3.out _
      · go_wp2_with fail
        go_region_held3 (fun w' => w'.cell? ⟨hb, 0, none⟩ = some (.slice ha hl.length hc) ∧ w'.cell? ⟨lb, lo + k * 5, none⟩ = some (.int .i64 x0) ∧ w'.cell? ⟨lb, lo + k * 5 + 1, none⟩ = some (.int .i64 x1) ∧ w'.cell? ⟨lb, lo + k * 5 + 2, none⟩ = some (.int .i64 x2) ∧ w'.cell? ⟨lb, lo + k * 5 + 3, none⟩ = some (.int .i64 x3) ∧ w'.cell? ⟨lb, lo + k * 5 + 4, none⟩ = some (.int .i64 x4))
          (first | assumption | (refine ⟨Kept.cellp ?_ y0, Kept.cellp ?_ c0, Kept.cellp ?_ c1, Kept.cellp ?_ c2, Kept.cellp ?_ c3, Kept.cellp ?_ c4⟩ <;> ((repeat (first | (with_reducible exact Kept.refl _) | (with_reducible refine Kept.alloc ?_ _) | (with_reducible refine Kept.drew ?_) | (with_reducible refine Kept.drewN ?_ _) | (with_reducible refine Kept.trans ?_ (by assumption)))); done)) | (refine ⟨Kept.cellp ?_ y0, Kept.cellp ?_ c0, Kept.cellp ?_ c1, Kept.cellp ?_ c2, Kept.cellp ?_ c3, Kept.cellp ?_ c4⟩ <;> (refine Kept.setCell ?_ (Nat.le_refl _) _; (repeat (first | (with_reducible exact Kept.refl _) | (with_reducible refine Kept.alloc ?_ _) | (with_reducible refine Kept.drew ?_) | (with_reducible refine Kept.drewN ?_ _) | (with_reducible refine Kept.trans ?_ (by assumption)))); done)))
          ((go_at_call 11; refine (HAD.out _ (by (repeat (first | (with_reducible exact Kept.refl _) | (with_reducible refine Kept.alloc ?_ _) | (with_reducible refine Kept.drew ?_) | (with_reducible refine Kept.drewN ?_ _) | (with_reducible refine Kept.trans ?_ (by assumption)))))).mono ?_; rintro e w3 ⟨a3, n3, d3, r3, rfl, ⟨rfl, l3, hn3, hd3, hm3, hl3, f3⟩, k3⟩; (first | (have q9 := by with_reducible exact new_kn k3) | skip); (first | (obtain ⟨q0, q1, q2⟩ := q9) | skip); have k3w : Kept wr w3 := (by (repeat (first | (with_reducible exact Kept.refl _) | (with_reducible refine Kept.alloc ?_ _) | (with_reducible refine Kept.drew ?_) | (with_reducible refine Kept.drewN ?_ _) | (with_reducible refine Kept.trans ?_ (by assumption))))); have yc := k3w.cellp y0; have yf := (k3w.frozen (p := ⟨hb, 0, none⟩) y2).trans y1; have yl : hb < w3.heap.size := cell_lt yc; have HN3 := hidMk hn3; have HD3 := hidMk hd3; have HM3 := hidMk hm3; have HL3 := hidMk hl3; have HF3 := hidMk f3; have HK3 := hidMk k3; clear hn3 hd3 hm3 hl3 f3))
        all_goals (try go_wp2_with fail)
        all_goals
          go_roundg (gk - 1)
          case measure => have := HKG.out; omega
          case rel =>
            refine ⟨k + 1, ha, hc, hl, by have := HKG.out; omega, by go_num, hidMk ?_⟩
            first
              | exact HV.out.keep (k3w.alloc _)
              | exact HV.out.keep (k3w.setCell (p := ⟨wr.heap.size, 0, none⟩) (Nat.le_refl _) _)
    · have hkM' : ¬ ((k : Int) < (l.length : Int)) ∨ ¬ ((k : Int) < 30) := by omega
      have y0 := HV.out.cell
      have y2 := HV.out.lt
      have HKV := hidMk HV.out.kp
      have HHD := hidMk HV.out.hd
      have HRG := hidMk (hold_Region (HSW.out.keep HV.out.kp) ha hc hl HV.out.hd.cq (by have := HV.out.hd.sm; omega) (und_few HSW.out.ct HSM.out))
      have HFW := hidMk (leaves_few HSW.out.ct HSM.out)
      have HLV := hidMk (show ∀ y, Kept w1 y → _ from fun y hy => sw_Leaves (HSW.out.keep hy))
      have HLF := hidMk (show ∀ y n, Kept w1 y → okC ms ds n → Calls Tryz.prog 25 #[.pointer (some ⟨s, 0, none⟩), .int .i64 n] y fun e w' => e = .returned (.tuple #[clV (lfC ds n), .bool true]) ∧ Kept y w' from fun y n hy hn => by
        refine (sw_LeafOf (HSW.out.keep hy) n).mono ?_
        rintro e w' ⟨h1, k⟩
        rw [if_pos (show (0 ≤ n ∧ n < mulK (fun k => (leas ds k : Int)) (ms.length : Int) 4) from hn)] at h1
        exact ⟨h1, k⟩)
      have HWI := hidMk (show ∀ y x, Kept wr y → Calls Tryz.prog 17 #[.agg #[.slice ha hl.length hc], .pointer (some ⟨s, 0, none⟩), clV x] y fun e w' => e = .returned (.bool (hl.any fun z => wiC ms ds x z)) ∧ Kept y w' from fun y x hy => hold_Within (HSW.out.keep (HKV.out.trans hy)) ha hc hl x (HHD.out.cq.kept hy) (by have := HHD.out.sm; omega))
      have HNA := hidMk (show ∀ y, Kept wr y → Calls Tryz.prog 11 #[.agg #[.slice ha hl.length hc], .pointer none, .agg #[.int .i64 0, .int .i64 0, .int .i64 0, .int .i64 0, .int .i64 0]] y fun e w' => e = .returned (.tuple #[.agg #[.slice none 0 0], .int .i64 1]) ∧ Kept y w' from fun y hy => hold_Add_nil ha hc hl z13 (HHD.out.cq.kept hy) (by have := HHD.out.sm; omega))
      have HND := hidMk (show ∀ y, Kept wr y → Calls Tryz.prog 9 #[.agg #[.slice ha hl.length hc], .pointer none, .agg #[.int .i64 0, .int .i64 0, .int .i64 0, .int .i64 0, .int .i64 0]] y fun e w' => e = .returned (.tuple #[.agg #[.slice none 0 0], .int .i64 1]) ∧ Kept y w' from fun y hy => hold_Drop_nil ha hc hl z13 (HHD.out.cq.kept hy) (by have := HHD.out.sm; omega))
      obtain ⟨wq, hwq⟩ : ∃ x, x = wr := ⟨_, rfl⟩
      subst hwq
      unfold hdV at HRG
      by_cases hkn : (k : Int) < (l.length : Int)
      · have hk100 : ¬ ((k : Int) < 30) := by omega
        go_wp2_with fail
        refine HRG.out.mono ?_
        rintro e w3 ⟨v3, m3, rfl, hs3, hN3, hm3, hl3, k3, -⟩
        obtain ⟨a3, c3, rfl, hr3, hle3, hnl3⟩ := hs3
        have HS3 := hidMk (show SetIs w3 (.agg #[.slice a3 m3.length c3]) m3 from ⟨a3, c3, rfl, hr3, hle3, hnl3⟩)
        have HN3 := hidMk hN3
        have HM3 := hidMk hm3
        have HL3 := hidMk hl3
        have HK3 := hidMk k3
        obtain ⟨gb, hgb⟩ : ∃ x, x = w3.heap.size := ⟨_, rfl⟩
        have HW3 := hidMk (show ∀ X, Kept (w3.alloc (.cells #[.slice a3 m3.length c3] 55)) X → X.cell? ⟨gb, 0, none⟩ = some (.slice a3 m3.length c3) ∧ X.cell? ⟨hb, 0, none⟩ = some (.slice ha hl.length hc) from fun X kX => ⟨kX.cellp (new_cell w3 _ _ _ 0 _ hgb rfl), kX.cellp (((Kept.refl _).alloc _).cellp (k3.cellp y0))⟩)
        clear hr3 hle3 hnl3 hN3 hm3 hl3 k3
        go_wp2_with fail
        obtain ⟨N, hN⟩ : ∃ N : Nat, (N : Int) = mulK (fun k => leas ds k) ms.length 4 := ⟨(mulK (fun k => leas ds k) ms.length 4).toNat, by have := HFW.out.1; omega⟩
        have hN6 : N ≤ 600 := by have := HFW.out.2; omega
        rw [← hN] at HLV
        have HNN := hidMk hN
        clear hN
        refine gen_world (f := fun W => Code.wp _ _ _ _ W) (fun W => Kept (w3.alloc (.cells #[.slice a3 m3.length c3] 55)) W) (Kept.refl _) ?_
        intro WG hWG
        have HWG := hidMk hWG
        clear hWG
        rw [← hgb]
        clear hgb
        have HHS := hidMk (show ∀ y (i : Int), okC ms ds i → Kept w3 y → Calls Tryz.prog 26 #[.agg #[.slice a3 m3.length c3], .int .i64 i] y fun e w' => e = .returned (.bool (hl.any fun z => wiC ms ds (lfC ds i) z)) ∧ Kept y w' from fun y i hi hy => region_Has _ m3 i y (HS3.out.kept hy) HN3.out (by have := HL3.out; omega) _ ((lf_within HSW.out.ct hi hl).symm.trans (HM3.out i).symm))
        have HKG3 := hidMk (show Kept w1 WG from HKV.out.trans (HK3.out.trans (((Kept.refl _).alloc _).trans HWG.out)))
        have HKQ := hidMk (show Kept wq WG from HK3.out.trans (((Kept.refl _).alloc _).trans HWG.out))
        have HK3G := hidMk (show Kept w3 WG from ((Kept.refl _).alloc _).trans HWG.out)
        clear y0 y2
        go_loopg [13] N (fun gg iv wz => ∃ i : Nat, i + gg = N ∧ iv = .int .i64 (i : Int) ∧ Hid (Kept WG wz))
        case atStart => exact ⟨0, by omega, rfl, hidMk (Kept.refl _)⟩
        case round =>
          obtain ⟨i, hig, rfl, HZ⟩ := hrel
          have HIG := hidMk hig
          have HLE := hidMk (HLV.out wr (HKG3.out.trans HZ.out))
          by_cases hiN : i < N
          · have hi1 : (i : Int) < (N : Int) := by omega
            have hok : okC ms ds (i : Int) := ⟨by omega, by have := HNN.out; omega⟩
            have HLL := hidMk (show ∀ y, Kept wr y → _ from fun y hy => HLF.out y (i : Int) (HKG3.out.trans (HZ.out.trans hy)) hok)
            have HHI := hidMk (show ∀ y, Kept wr y → _ from fun y hy => HHS.out y (i : Int) hok (HK3G.out.trans (HZ.out.trans hy)))
            have HWW := hidMk (show ∀ y, Kept wr y → _ from fun y hy => HWI.out y (lfC ds (i : Int)) (HKQ.out.trans (HZ.out.trans hy)))
            obtain ⟨B, hB⟩ : ∃ B, (hl.any fun z => wiC ms ds (lfC ds (i : Int)) z) = B := ⟨_, rfl⟩
            rw [hB] at HHI HWW
            obtain ⟨X, hX⟩ : ∃ X, lfC ds (i : Int) = X := ⟨_, rfl⟩
            rw [hX] at HLL HWW
            obtain ⟨x0, x1, x2, x3, x4⟩ := X
            unfold clV at HLL HWW
            simp only at HLL HWW
            clear hB hX hok hig
            go_wp2_with fail
            refine HLE.out.mono ?_
            rintro e w5 ⟨rfl, k5⟩
            have HK5 := hidMk k5
            clear k5
            go_wp2_with fail
            refine (HLL.out _ HK5.out).mono ?_
            rintro e w6 ⟨rfl, k6⟩
            have k6' : Kept wr w6 := HK5.out.trans k6
            have HK6 := hidMk k6'
            obtain ⟨W7, hW7⟩ : ∃ V, V = w6.alloc (.cells #[.int .i64 x0, .int .i64 x1, .int .i64 x2, .int .i64 x3, .int .i64 x4] 29) := ⟨_, rfl⟩
            obtain ⟨cb, hcb⟩ : ∃ x, x = w6.heap.size := ⟨_, rfl⟩
            have k7 : Kept w6 W7 := by rw [hW7]; exact (Kept.refl _).alloc _
            have HKR := hidMk (k6'.trans k7)
            obtain ⟨g0, g1⟩ := HW3.out _ (HWG.out.trans (HZ.out.trans (k6'.trans k7)))
            have c0 : W7.cell? ⟨cb, 0, none⟩ = some (.int .i64 x0) := by rw [hW7]; exact new_cell _ _ _ _ 0 _ hcb rfl
            have c1 : W7.cell? ⟨cb, 1, none⟩ = some (.int .i64 x1) := by rw [hW7]; exact new_cell _ _ _ _ 1 _ hcb rfl
            have c2 : W7.cell? ⟨cb, 2, none⟩ = some (.int .i64 x2) := by rw [hW7]; exact new_cell _ _ _ _ 2 _ hcb rfl
            have c3' : W7.cell? ⟨cb, 3, none⟩ = some (.int .i64 x3) := by rw [hW7]; exact new_cell _ _ _ _ 3 _ hcb rfl
            have c4 : W7.cell? ⟨cb, 4, none⟩ = some (.int .i64 x4) := by rw [hW7]; exact new_cell _ _ _ _ 4 _ hcb rfl
            have HH2 := hidMk (show ∀ y, Kept W7 y → _ from fun y hy => HHI.out y (HKR.out.trans hy))
            have HW2 := hidMk (show ∀ y, Kept W7 y → _ from fun y hy => HWW.out y (HKR.out.trans hy))
            clear k6 k6' k7
            go_wp2_with fail
            rw [← hW7, ← hcb]
            clear hW7 hcb
            go_region_held3 (fun w' => w'.cell? ⟨gb, 0, none⟩ = some (.slice a3 m3.length c3) ∧ w'.cell? ⟨hb, 0, none⟩ = some (.slice ha hl.length hc) ∧ w'.cell? ⟨cb, 0, none⟩ = some (.int .i64 x0) ∧ w'.cell? ⟨cb, 1, none⟩ = some (.int .i64 x1) ∧ w'.cell? ⟨cb, 2, none⟩ = some (.int .i64 x2) ∧ w'.cell? ⟨cb, 3, none⟩ = some (.int .i64 x3) ∧ w'.cell? ⟨cb, 4, none⟩ = some (.int .i64 x4))
              (first | assumption | (refine ⟨Kept.cellp ?_ g0, Kept.cellp ?_ g1, Kept.cellp ?_ c0, Kept.cellp ?_ c1, Kept.cellp ?_ c2, Kept.cellp ?_ c3', Kept.cellp ?_ c4⟩ <;> ((repeat (first | (with_reducible exact Kept.refl _) | (with_reducible refine Kept.alloc ?_ _) | (with_reducible refine Kept.drew ?_) | (with_reducible refine Kept.drewN ?_ _) | (with_reducible refine Kept.trans ?_ (by assumption)))); done)))
              (first | (go_at_call 26; refine (HH2.out _ (by (repeat (first | (with_reducible exact Kept.refl _) | (with_reducible refine Kept.alloc ?_ _) | (with_reducible refine Kept.drew ?_) | (with_reducible refine Kept.drewN ?_ _) | (with_reducible refine Kept.trans ?_ (by assumption)))))).mono ?_; rintro e w8 ⟨rfl, k8⟩) | (go_at_call 17; refine (HW2.out _ (by (repeat (first | (with_reducible exact Kept.refl _) | (with_reducible refine Kept.alloc ?_ _) | (with_reducible refine Kept.drew ?_) | (with_reducible refine Kept.drewN ?_ _) | (with_reducible refine Kept.trans ?_ (by assumption)))))).mono ?_; rintro e w9 ⟨rfl, k9⟩; have HK9 := hidMk (show Kept W7 w9 from by (repeat (first | (with_reducible exact Kept.refl _) | (with_reducible refine Kept.alloc ?_ _) | (with_reducible refine Kept.drew ?_) | (with_reducible refine Kept.drewN ?_ _) | (with_reducible refine Kept.trans ?_ (by assumption)))))))
            all_goals (try go_wp2_with fail)
            all_goals
              go_roundg (gk - 1)
              case measure => have := HIG.out; omega
              case rel => exact ⟨i + 1, by have := HIG.out; omega, by go_num, hidMk (HZ.out.trans (HKR.out.trans HK9.out))⟩
          · have hi1 : ¬ ((i : Int) < (N : Int)) := by omega
            obtain ⟨g0, g1⟩ := HW3.out _ (HWG.out.trans HZ.out)
            clear g0
            go_wp2_with fail
            refine HLE.out.mono ?_
            rintro e w5 ⟨rfl, k5⟩
            have HK5 := hidMk k5
            have g5 := k5.cellp g1
            clear k5 g1
            go_wp2_with fail
            refine (HNA.out _ (HKQ.out.trans (HZ.out.trans HK5.out))).mono ?_
            rintro e w6 ⟨rfl, k6⟩
            have HK6 := hidMk (HK5.out.trans k6)
            have g6 := k6.cellp g5
            have g6l : hb < w6.heap.size := cell_lt g6
            clear k6 g5
            go_wp2_with fail
            refine (HND.out _ (HKQ.out.trans (HZ.out.trans (HK6.out.alloc _)))).mono ?_
            rintro e w7 ⟨rfl, k7⟩
            have HK7 := hidMk ((HK6.out.alloc _).trans k7)
            clear k7 g6 g6l
            go_wp2_with fail
            refine (HKN.out _).mono ?_
            rintro e w8 ⟨rfl, k8⟩
            go_wp2_with fail
            go_ret
            exact ⟨by simp, HKA.out.trans (HK1.out.trans (HKG3.out.trans (HZ.out.trans ((HK7.out.alloc _).trans k8))))⟩
      · have hk100 : True := trivial
        go_wp2_with fail
        refine HRG.out.mono ?_
        rintro e w3 ⟨v3, m3, rfl, hs3, hN3, hm3, hl3, k3, -⟩
        obtain ⟨a3, c3, rfl, hr3, hle3, hnl3⟩ := hs3
        have HS3 := hidMk (show SetIs w3 (.agg #[.slice a3 m3.length c3]) m3 from ⟨a3, c3, rfl, hr3, hle3, hnl3⟩)
        have HN3 := hidMk hN3
        have HM3 := hidMk hm3
        have HL3 := hidMk hl3
        have HK3 := hidMk k3
        obtain ⟨gb, hgb⟩ : ∃ x, x = w3.heap.size := ⟨_, rfl⟩
        have HW3 := hidMk (show ∀ X, Kept (w3.alloc (.cells #[.slice a3 m3.length c3] 55)) X → X.cell? ⟨gb, 0, none⟩ = some (.slice a3 m3.length c3) ∧ X.cell? ⟨hb, 0, none⟩ = some (.slice ha hl.length hc) from fun X kX => ⟨kX.cellp (new_cell w3 _ _ _ 0 _ hgb rfl), kX.cellp (((Kept.refl _).alloc _).cellp (k3.cellp y0))⟩)
        clear hr3 hle3 hnl3 hN3 hm3 hl3 k3
        go_wp2_with fail
        obtain ⟨N, hN⟩ : ∃ N : Nat, (N : Int) = mulK (fun k => leas ds k) ms.length 4 := ⟨(mulK (fun k => leas ds k) ms.length 4).toNat, by have := HFW.out.1; omega⟩
        have hN6 : N ≤ 600 := by have := HFW.out.2; omega
        rw [← hN] at HLV
        have HNN := hidMk hN
        clear hN
        refine gen_world (f := fun W => Code.wp _ _ _ _ W) (fun W => Kept (w3.alloc (.cells #[.slice a3 m3.length c3] 55)) W) (Kept.refl _) ?_
        intro WG hWG
        have HWG := hidMk hWG
        clear hWG
        rw [← hgb]
        clear hgb
        have HHS := hidMk (show ∀ y (i : Int), okC ms ds i → Kept w3 y → Calls Tryz.prog 26 #[.agg #[.slice a3 m3.length c3], .int .i64 i] y fun e w' => e = .returned (.bool (hl.any fun z => wiC ms ds (lfC ds i) z)) ∧ Kept y w' from fun y i hi hy => region_Has _ m3 i y (HS3.out.kept hy) HN3.out (by have := HL3.out; omega) _ ((lf_within HSW.out.ct hi hl).symm.trans (HM3.out i).symm))
        have HKG3 := hidMk (show Kept w1 WG from HKV.out.trans (HK3.out.trans (((Kept.refl _).alloc _).trans HWG.out)))
        have HKQ := hidMk (show Kept wq WG from HK3.out.trans (((Kept.refl _).alloc _).trans HWG.out))
        have HK3G := hidMk (show Kept w3 WG from ((Kept.refl _).alloc _).trans HWG.out)
        clear y0 y2
        go_loopg [13] N (fun gg iv wz => ∃ i : Nat, i + gg = N ∧ iv = .int .i64 (i : Int) ∧ Hid (Kept WG wz))
        case atStart => exact ⟨0, by omega, rfl, hidMk (Kept.refl _)⟩
        case round =>
          obtain ⟨i, hig, rfl, HZ⟩ := hrel
          have HIG := hidMk hig
          have HLE := hidMk (HLV.out wr (HKG3.out.trans HZ.out))
          by_cases hiN : i < N
          · have hi1 : (i : Int) < (N : Int) := by omega
            have hok : okC ms ds (i : Int) := ⟨by omega, by have := HNN.out; omega⟩
            have HLL := hidMk (show ∀ y, Kept wr y → _ from fun y hy => HLF.out y (i : Int) (HKG3.out.trans (HZ.out.trans hy)) hok)
            have HHI := hidMk (show ∀ y, Kept wr y → _ from fun y hy => HHS.out y (i : Int) hok (HK3G.out.trans (HZ.out.trans hy)))
            have HWW := hidMk (show ∀ y, Kept wr y → _ from fun y hy => HWI.out y (lfC ds (i : Int)) (HKQ.out.trans (HZ.out.trans hy)))
            obtain ⟨B, hB⟩ : ∃ B, (hl.any fun z => wiC ms ds (lfC ds (i : Int)) z) = B := ⟨_, rfl⟩
            rw [hB] at HHI HWW
            obtain ⟨X, hX⟩ : ∃ X, lfC ds (i : Int) = X := ⟨_, rfl⟩
            rw [hX] at HLL HWW
            obtain ⟨x0, x1, x2, x3, x4⟩ := X
            unfold clV at HLL HWW
            simp only at HLL HWW
            clear hB hX hok hig
            go_wp2_with fail
            refine HLE.out.mono ?_
            rintro e w5 ⟨rfl, k5⟩
            have HK5 := hidMk k5
            clear k5
            go_wp2_with fail
            refine (HLL.out _ HK5.out).mono ?_
            rintro e w6 ⟨rfl, k6⟩
            have k6' : Kept wr w6 := HK5.out.trans k6
            have HK6 := hidMk k6'
            obtain ⟨W7, hW7⟩ : ∃ V, V = w6.alloc (.cells #[.int .i64 x0, .int .i64 x1, .int .i64 x2, .int .i64 x3, .int .i64 x4] 29) := ⟨_, rfl⟩
            obtain ⟨cb, hcb⟩ : ∃ x, x = w6.heap.size := ⟨_, rfl⟩
            have k7 : Kept w6 W7 := by rw [hW7]; exact (Kept.refl _).alloc _
            have HKR := hidMk (k6'.trans k7)
            obtain ⟨g0, g1⟩ := HW3.out _ (HWG.out.trans (HZ.out.trans (k6'.trans k7)))
            have c0 : W7.cell? ⟨cb, 0, none⟩ = some (.int .i64 x0) := by rw [hW7]; exact new_cell _ _ _ _ 0 _ hcb rfl
            have c1 : W7.cell? ⟨cb, 1, none⟩ = some (.int .i64 x1) := by rw [hW7]; exact new_cell _ _ _ _ 1 _ hcb rfl
            have c2 : W7.cell? ⟨cb, 2, none⟩ = some (.int .i64 x2) := by rw [hW7]; exact new_cell _ _ _ _ 2 _ hcb rfl
            have c3' : W7.cell? ⟨cb, 3, none⟩ = some (.int .i64 x3) := by rw [hW7]; exact new_cell _ _ _ _ 3 _ hcb rfl
            have c4 : W7.cell? ⟨cb, 4, none⟩ = some (.int .i64 x4) := by rw [hW7]; exact new_cell _ _ _ _ 4 _ hcb rfl
            have HH2 := hidMk (show ∀ y, Kept W7 y → _ from fun y hy => HHI.out y (HKR.out.trans hy))
            have HW2 := hidMk (show ∀ y, Kept W7 y → _ from fun y hy => HWW.out y (HKR.out.trans hy))
            clear k6 k6' k7
            go_wp2_with fail
            rw [← hW7, ← hcb]
            clear hW7 hcb
            go_region_held3 (fun w' => w'.cell? ⟨gb, 0, none⟩ = some (.slice a3 m3.length c3) ∧ w'.cell? ⟨hb, 0, none⟩ = some (.slice ha hl.length hc) ∧ w'.cell? ⟨cb, 0, none⟩ = some (.int .i64 x0) ∧ w'.cell? ⟨cb, 1, none⟩ = some (.int .i64 x1) ∧ w'.cell? ⟨cb, 2, none⟩ = some (.int .i64 x2) ∧ w'.cell? ⟨cb, 3, none⟩ = some (.int .i64 x3) ∧ w'.cell? ⟨cb, 4, none⟩ = some (.int .i64 x4))
              (first | assumption | (refine ⟨Kept.cellp ?_ g0, Kept.cellp ?_ g1, Kept.cellp ?_ c0, Kept.cellp ?_ c1, Kept.cellp ?_ c2, Kept.cellp ?_ c3', Kept.cellp ?_ c4⟩ <;> ((repeat (first | (with_reducible exact Kept.refl _) | (with_reducible refine Kept.alloc ?_ _) | (with_reducible refine Kept.drew ?_) | (with_reducible refine Kept.drewN ?_ _) | (with_reducible refine Kept.trans ?_ (by assumption)))); done)))
              (first | (go_at_call 26; refine (HH2.out _ (by (repeat (first | (with_reducible exact Kept.refl _) | (with_reducible refine Kept.alloc ?_ _) | (with_reducible refine Kept.drew ?_) | (with_reducible refine Kept.drewN ?_ _) | (with_reducible refine Kept.trans ?_ (by assumption)))))).mono ?_; rintro e w8 ⟨rfl, k8⟩) | (go_at_call 17; refine (HW2.out _ (by (repeat (first | (with_reducible exact Kept.refl _) | (with_reducible refine Kept.alloc ?_ _) | (with_reducible refine Kept.drew ?_) | (with_reducible refine Kept.drewN ?_ _) | (with_reducible refine Kept.trans ?_ (by assumption)))))).mono ?_; rintro e w9 ⟨rfl, k9⟩; have HK9 := hidMk (show Kept W7 w9 from by (repeat (first | (with_reducible exact Kept.refl _) | (with_reducible refine Kept.alloc ?_ _) | (with_reducible refine Kept.drew ?_) | (with_reducible refine Kept.drewN ?_ _) | (with_reducible refine Kept.trans ?_ (by assumption)))))))
            all_goals (try go_wp2_with fail)
            all_goals
              go_roundg (gk - 1)
              case measure => have := HIG.out; omega
              case rel => exact ⟨i + 1, by have := HIG.out; omega, by go_num, hidMk (HZ.out.trans (HKR.out.trans HK9.out))⟩
          · have hi1 : ¬ ((i : Int) < (N : Int)) := by omega
            obtain ⟨g0, g1⟩ := HW3.out _ (HWG.out.trans HZ.out)
            clear g0
            go_wp2_with fail
            refine HLE.out.mono ?_
            rintro e w5 ⟨rfl, k5⟩
            have HK5 := hidMk k5
            have g5 := k5.cellp g1
            clear k5 g1
            go_wp2_with fail
            refine (HNA.out _ (HKQ.out.trans (HZ.out.trans HK5.out))).mono ?_
            rintro e w6 ⟨rfl, k6⟩
            have HK6 := hidMk (HK5.out.trans k6)
            have g6 := k6.cellp g5
            have g6l : hb < w6.heap.size := cell_lt g6
            clear k6 g5
            go_wp2_with fail
            refine (HND.out _ (HKQ.out.trans (HZ.out.trans (HK6.out.alloc _)))).mono ?_
            rintro e w7 ⟨rfl, k7⟩
            have HK7 := hidMk ((HK6.out.alloc _).trans k7)
            clear k7 g6 g6l
            go_wp2_with fail
            refine (HKN.out _).mono ?_
            rintro e w8 ⟨rfl, k8⟩
            go_wp2_with fail
            go_ret
            exact ⟨by simp, HKA.out.trans (HK1.out.trans (HKG3.out.trans (HZ.out.trans ((HK7.out.alloc _).trans k8))))⟩
end Go.Proofs.YtpkepkemjcjplaaGreat
