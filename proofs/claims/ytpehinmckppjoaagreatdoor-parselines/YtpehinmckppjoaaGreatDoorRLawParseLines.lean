/- moietylaw29.ParseLines. -/
import Derived.Test.YtpehinmckppjoaaGreatDoorRPsTB
import Derived.Test.YtpehinmckppjoaaGreatDoorRPsN7
import Derived.Test.YtpehinmckppjoaaGreatDoorRPsTB
namespace Go.Proofs.YtpehinmckppjoaaGreatDoor
open Go.RowKit Go.Maps
set_option linter.unusedSimpArgs false
set_option linter.unusedVariables false

set_option maxHeartbeats 2000000 in
set_option maxRecDepth 100000 in
theorem law_ParseLines (a : Option Addr) (n c : Nat) (ds : List Dm) (na : Nat → Option Addr × Nat × Nat) (b : Option Addr) (m d : Nat) (ms : List ByteArray) (lv sc : Int) (s : ByteArray) (kd : Int) (w : World) (hs : Dss w a n ds na) (hm : Ss w b m ms) (hmz : ∀ i, i < ms.length → (msA ms i).size ≤ maxLen) (hV : FV w) (hVs : Vars w) :
    Calls Tryz.prog 3 #[.agg #[.slice a n c, .slice b m d, .int .i64 lv, .int .i64 sc], .string s, .int .i64 kd] w fun e w' => e = .returned (.bool true) ∧ Kept w w' := by
  have HO := hidMk (show ∀ y, Kept w y → _ from fun y hy => law29_open a n c ds na b m d ms lv sc y (hs.kept hy) (hm.kept hy) hmz)
  have HKN := hidMk (show ∀ y, Kept w y → _ from fun y hy => law29_known y (hV.kept hy) (hVs.kept hy))
  have HPA := hidMk (show ∀ y, Kept w y → ∀ pd, (∃ w0 tp ma mc dv, DP w0 y pd ds tp ma mc ms lv sc dv) → CatOk ds ms → s.size ≤ 10000 → _ from fun y hy pd hd hok hsz => by
    obtain ⟨w0, tp, ma, mc, dv, hd⟩ := hd
    exact ps_Parse (W := y) (w0 := y) ⟨_, _, _, _, _, _, _, hd⟩ hok (hV.kept hy) (hVs.kept hy) s hsz)
  have HLI := hidMk (show ∀ y, Kept w y → ∀ pd, (∃ w0 tp ma mc dv, DP w0 y pd ds tp ma mc ms lv sc dv) → CatOk ds ms → ∀ x, XOk x → _ from fun y hy pd hd hok x hx => by
    obtain ⟨w0, tp, ma, mc, dv, hd⟩ := hd
    exact ps_Line (W := y) ⟨_, _, _, _, _, _, _, hd⟩ hok (hV.kept hy) x hx)
  have HFV := hidMk hV
  clear hs hm hmz hV hVs
  go_enter Tryz.func3, Tryz.ntmps3
  go_wp2_with fail
  refine (HO.out _ ((Kept.refl w).alloc _)).mono ?_
  rintro e w1 ⟨⟨⟨vd, vq, rfl⟩, _⟩ | ⟨pd, pq, at_, rfl, hc, hd, hr⟩, k1⟩
  · have K1 := hidMk (((Kept.refl w).alloc _).trans k1)
    clear k1
    go_wp2_with fail
    refine (HKN.out _ K1.out).mono ?_
    rintro e w2 ⟨rfl, k2⟩
    have K2 := hidMk (K1.out.trans k2)
    clear k2
    go_wp2_with fail
    go_ret
    exact ⟨rfl, K2.out⟩
  have K1 := hidMk (((Kept.refl w).alloc _).trans k1)
  have HOK := hidMk (cat_ok hc)
  have HD := hidMk (show ∀ y, Kept w1 y → ∃ w0 tp ma mc dv, DP w0 y pd ds tp ma mc ms lv sc dv from fun y hy => by
    obtain ⟨w0, tp, ma, mc, dv, hd⟩ := hd
    exact ⟨_, _, _, _, _, hd.kept hy⟩)
  have HRF := hidMk (show ∀ y, Kept w1 y → s.size ≤ 10000 → _ from fun y hy hz => q_Parse (W := y) (pq := pq) (by obtain ⟨rt, h⟩ := hr; exact ⟨rt, h.kept hy⟩) (cat_ok hc) s hz)
  have HK1 := hidMk (show ∀ y, Kept w1 y → _ from fun y hy => ps_Kind y (HFV.out.kept (K1.out.trans hy)) s)
  have HK2 := hidMk (fun y => q_Kind y s)
  have HN1 := hidMk (show ∀ y, Kept w1 y → _ from fun y hy => ps_Name y (HFV.out.kept (K1.out.trans hy)) kd)
  have HN2 := hidMk (fun y => q_Name y kd)
  clear k1 hc hd hr HO
  by_cases hsz : 1000 < s.size
  · have h1 : (1000 : Int) < (s.size : Int) := by omega
    go_wp2_with fail
    refine (HKN.out _ K1.out).mono ?_
    rintro e w2 ⟨rfl, k2⟩
    have K2 := hidMk (K1.out.trans k2)
    clear k2
    go_wp2_with fail
    go_ret
    exact ⟨rfl, K2.out⟩
  have h1 : ¬ (1000 : Int) < (s.size : Int) := by omega
  have HSZ := hidMk (show s.size ≤ 1000 by omega)
  have HP := hidMk (HPA.out _ K1.out pd (HD.out _ (Kept.refl _)) HOK.out (by omega))
  obtain ⟨x, at1, why, hp⟩ : ∃ x a y, parseP ms ds (lineW s) = (x, a, y) := ⟨_, _, _, rfl⟩
  have HRP := hidMk (fun y (hy : Kept w1 y) => HRF.out y hy (by have := HSZ.out; omega))
  rw [hp] at HRP
  simp only at HRP
  rw [hp] at HP
  simp only at HP
  clear hsz hp HPA
  have HEQ := hidMk (eqlM x x)
  rw [cmB_same] at HEQ
  obtain ⟨hx, hk⟩ : ∃ hx hk, x.h = hx ∧ x.k = hk := ⟨_, _, rfl, rfl⟩
  obtain ⟨hk, hhx, hhk⟩ := hk
  have HHX := hidMk (show x.h = hx ∧ x.k = hk from ⟨hhx, hhk⟩)
  have HLV := hidMk (show cmV x = .agg #[.int .i64 hk, .string x.u, .string x.s, .string x.o, .int .i64 x.c0, .int .i64 x.c1, .int .i64 x.c2, .int .i64 x.c3, .int .i64 x.c4, .int .i64 x.n, .int .i64 hx, .int .i64 x.m] by rw [← hhx, ← hhk]; rfl)
  rw [HLV.out] at HP HRP HEQ
  clear hhx hhk HLV HLI HRF
  generalize kindI s = kis at *
  generalize kwI kd = kwk at *
  generalize x.u = xu at *
  generalize x.s = xs at *
  generalize x.o = xo at *
  generalize x.c0 = x0 at *
  generalize x.c1 = x1 at *
  generalize x.c2 = x2 at *
  generalize x.c3 = x3 at *
  generalize x.c4 = x4 at *
  generalize x.n = xn at *
  generalize x.m = xm at *
  go_wp2_with fail
  refine HP.out.mono ?_
  rintro e w2 ⟨rfl, k2⟩
  have K2 := hidMk k2
  clear k2
  have heq := HEQ.out
  go_wp2_with fail
  refine (HRP.out _ (K2.out.alloc _)).mono ?_
  rintro e w3 ⟨rfl, k3⟩
  have b0 : ∀ ob, (w3.alloc ob).cell? ⟨w2.heap.size, 0, none⟩ = some (.int .i64 hk) := fun ob => (k3.alloc ob).cellp (new_cell _ _ _ _ _ _ rfl rfl)
  have b1 : ∀ ob, (w3.alloc ob).cell? ⟨w2.heap.size, 1, none⟩ = some (.string xu) := fun ob => (k3.alloc ob).cellp (new_cell _ _ _ _ _ _ rfl rfl)
  have b2 : ∀ ob, (w3.alloc ob).cell? ⟨w2.heap.size, 2, none⟩ = some (.string xs) := fun ob => (k3.alloc ob).cellp (new_cell _ _ _ _ _ _ rfl rfl)
  have b3 : ∀ ob, (w3.alloc ob).cell? ⟨w2.heap.size, 3, none⟩ = some (.string xo) := fun ob => (k3.alloc ob).cellp (new_cell _ _ _ _ _ _ rfl rfl)
  have b4 : ∀ ob, (w3.alloc ob).cell? ⟨w2.heap.size, 4, none⟩ = some (.int .i64 x0) := fun ob => (k3.alloc ob).cellp (new_cell _ _ _ _ _ _ rfl rfl)
  have b5 : ∀ ob, (w3.alloc ob).cell? ⟨w2.heap.size, 5, none⟩ = some (.int .i64 x1) := fun ob => (k3.alloc ob).cellp (new_cell _ _ _ _ _ _ rfl rfl)
  have b6 : ∀ ob, (w3.alloc ob).cell? ⟨w2.heap.size, 6, none⟩ = some (.int .i64 x2) := fun ob => (k3.alloc ob).cellp (new_cell _ _ _ _ _ _ rfl rfl)
  have b7 : ∀ ob, (w3.alloc ob).cell? ⟨w2.heap.size, 7, none⟩ = some (.int .i64 x3) := fun ob => (k3.alloc ob).cellp (new_cell _ _ _ _ _ _ rfl rfl)
  have b8 : ∀ ob, (w3.alloc ob).cell? ⟨w2.heap.size, 8, none⟩ = some (.int .i64 x4) := fun ob => (k3.alloc ob).cellp (new_cell _ _ _ _ _ _ rfl rfl)
  have b9 : ∀ ob, (w3.alloc ob).cell? ⟨w2.heap.size, 9, none⟩ = some (.int .i64 xn) := fun ob => (k3.alloc ob).cellp (new_cell _ _ _ _ _ _ rfl rfl)
  have b10 : ∀ ob, (w3.alloc ob).cell? ⟨w2.heap.size, 10, none⟩ = some (.int .i64 hx) := fun ob => (k3.alloc ob).cellp (new_cell _ _ _ _ _ _ rfl rfl)
  have b11 : ∀ ob, (w3.alloc ob).cell? ⟨w2.heap.size, 11, none⟩ = some (.int .i64 xm) := fun ob => (k3.alloc ob).cellp (new_cell _ _ _ _ _ _ rfl rfl)
  have bl := cell_lt (b0 (.cells #[] 0))
  have K3 := hidMk (show Kept w1 w3 from (K2.out.alloc _).trans k3)
  clear k3
  go_wp2_with fail
  refine (HN1.out _ (K3.out.alloc _)).mono ?_
  rintro e w4 ⟨rfl, k4⟩
  have K4 := hidMk ((K3.out.alloc _).trans k4)
  clear k4
  go_wp2_with fail
  refine (HN2.out _).mono ?_
  rintro e w5 ⟨rfl, k5⟩
  have K5 := hidMk (K4.out.trans k5)
  clear k5
  go_wp2_with fail
  refine (HK1.out _ K5.out).mono ?_
  rintro e w6 ⟨rfl, hw6⟩
  rw [hw6]
  clear hw6 w6
  go_wp2_with fail
  refine (HK2.out _).mono ?_
  rintro e w7 ⟨rfl, k7⟩
  have K7 := hidMk (K1.out.trans (K5.out.trans k7))
  clear k7
  go_wp2_with fail
  refine (HKN.out _ K7.out).mono ?_
  rintro e w8 ⟨rfl, k8⟩
  have K8 := hidMk (K7.out.trans k8)
  clear k8
  go_wp2_with fail
  go_ret
  exact ⟨rfl, K8.out⟩
end Go.Proofs.YtpehinmckppjoaaGreatDoor
