/- ArenaStays: a node that is asked for stays. -/
import Derived.Test.YtglcinlkpidiaaaDoorAr14
namespace Go.Proofs.YtglcinlkpidiaaaDoor
open Go.RowKit
set_option linter.unusedSimpArgs false
set_option linter.unusedVariables false

def zs8 : List Int := [0, 0, 0, 0, 0, 0, 0, 0]
theorem nd_parts {W : World} {b : Nat} {y : ANd} (hk : y.kids.length = 8) (h : W.rangeAt b 0 (ndL y)) : W.cell? ⟨b, 0, none⟩ = some (.bool y.leaf) ∧ W.rangeAt b 1 (kdV y.kids) ∧ W.rangeAt b 9 (enV y.vals) := by
  refine ⟨?_, ?_, ?_⟩
  · have := h 0 (.bool y.leaf) rfl
    simpa using this
  · have := range_drop h 1 _ (ndL_kids y); simpa using this
  · have := range_drop h 9 _ (ndL_vals y hk); simpa using this
theorem ac_zero {kd n : Int} {lf : Bool} {ks : List Int} {v : Int} (h : ks.length = 8) : setL (acL kd n lf ks v) 3 zK = acL kd n lf zs8 v := by
  obtain ⟨a, b, c, d, e, f, g, k, rfl⟩ := eight h
  rfl
/-- As StI, before what it was is put by. -/
def StA (w0 wr : World) (p : Nat) (LW : List Value) : Prop :=
  ∃ ow n rf nd M, AS w0 wr p ow 60 n rf nd M ∧ M ≤ 9 ∧ rf 1 = 1 + cntK (kdA nd) rf 1 n ∧ ndL (nd 1) = LW
theorem sta_At {w0 wr : World} {p : Nat} {LW : List Value} (h : StA w0 wr p LW) : Calls Tryd.prog 20 #[.pointer (some ⟨p, 0, none⟩), .int .i64 1] wr fun e w' => e = .returned (.tuple #[.agg LW.toArray, .int .i64 0]) ∧ Kept wr w' := by
  obtain ⟨ow, n, rf, nd, M, h1, h2, h3, h4⟩ := h
  refine (as_At h1 1).mono ?_
  rintro e w' ⟨rfl, hk⟩
  unfold atV atE
  rw [if_neg (by omega), if_neg (by omega)]
  unfold ndV
  rw [h4]
  exact ⟨rfl, hk⟩
theorem sta_put {w0 wr : World} {p : Nat} {LW : List Value} (h : StA w0 wr p LW) (hL : LW.length = 25) (T : TypeId) : StI w0 ((wr.alloc (.cells (ndL zNd).toArray T)).setCells wr.heap.size 0 LW) p wr.heap.size LW 0 := by
  obtain ⟨ow, n, rf, nd, M, h1, h2, h3, h4⟩ := h
  have hk : Kept wr ((wr.alloc (.cells (ndL zNd).toArray T)).setCells wr.heap.size 0 LW) := kept_setCells (Nat.le_refl _) _ _ ((Kept.refl _).alloc _)
  have hr : ((wr.alloc (.cells (ndL zNd).toArray T)).setCells wr.heap.size 0 LW).rangeAt wr.heap.size 0 LW := World.rangeAt_setCells_same _ _ _ _ (by rw [hL]; exact new_there _ _ _ _ (by rfl))
  refine ⟨ow, n, rf, nd, M, h1.keep hk, by omega, h3, h4, hr, ?_, h1.1.size, fun e => ?_, fun e => ?_⟩
  · have := hr 0 _ (List.getElem?_eq_getElem (show 0 < LW.length by omega))
    exact cell_lt this
  · have := h1.ok.2.2.2.2.2.2.1; omega
  · have := (h1.ok.2.2.2.2.2.2.2 _ e).1; omega
theorem sta_first {w0 Y : World} {p : Nat} (hV : Vars w0) (hA : AS w0 Y p none 60 0 (fun _ => 0) (fun _ => zNd) 0) (lf : Bool) (v : Int) (b : Bool) : Calls Tryd.prog 11 #[.pointer (some ⟨p, 0, none⟩), ndV (acN lf zs8 v b)] Y fun e w' => e = .returned (.tuple #[.int .i64 1, .int .i64 0]) ∧ StA w0 w' p (ndL (bareN (acN lf zs8 v b))) := by
  have hk : (bareN (acN lf zs8 v b)).kids = zs8 := by unfold bareN; split <;> rfl
  refine (as_Make hA hV (by omega) _ (acN_ok rfl v b)).mono ?_
  unfold MakeIs
  rw [hk]
  rintro e w' (⟨hb, _⟩ | ⟨_, hu, _⟩ | ⟨_, _, x, hx, rfl, ⟨ow2, hA2, _⟩, _⟩)
  · exact absurd hb (by decide)
  · exact absurd hu (by decide)
  · obtain rfl := kn_low1 hx
    refine ⟨rfl, ow2, _, _, _, _, hA2, by omega, ?_, ?_⟩
    · have := make_cnt (nd := fun _ => zNd) (n := 0) (rf := fun _ => 0) (z := bareN (acN lf zs8 v b)) (fun i _ => rfl) hx 1
      rw [hk] at this
      rw [this]
      decide
    · unfold updN
      rw [if_pos (by rfl)]
theorem acs_at {w : World} {a : Option Addr} {n : Nat} {f : Nat → AcT} (h : Acs w a n f) {k : Nat} (hk : k < n) : ∃ b off, a = some ⟨b, off, none⟩ ∧ w.rangeAt b (off + k * 12) (f k).L := by
  obtain ⟨h1, h2, h3⟩ := h
  obtain ⟨b, off, e, _, h4⟩ := h3 (by omega)
  exact ⟨b, off, e, h4 k hk⟩
set_option maxHeartbeats 8000000 in
set_option maxRecDepth 100000 in
theorem law_ArenaStays (x0 : AcT) (hx0 : x0.ks.length = 8) (a : Option Addr) (n c : Nat) (f : Nat → AcT) (w : World) (hA : Acs w a n f) (hV : Vars w) : Calls Tryd.prog 5 #[.agg x0.L.toArray, .slice a n c] w fun e w' => e = .returned (.bool true) ∧ Kept w w' := by
  have HV := hidMk hV
  have HAC := hidMk hA
  have hn := hA.2.1
  have HNEW := hidMk (fun W => arena_New 60 W (by omega) (by omega))
  have HKN := hidMk (fun W (h : Kept w W) => law9_known W (hV.kept h))
  have HND := hidMk (fun (x : AcT) (hx : x.ks.length = 8) W => law9_node x.kd x.n x.lf x.ks x.v hx W)
  have HR0 := hidMk (new_range w x0.L 33)
  have HT0 := hidMk (new_there w x0.L 33 12 (acL_len hx0))
  have HZ0 := hidMk (ac_zero (kd := x0.kd) (n := x0.n) (lf := x0.lf) (v := x0.v) hx0)
  have HL0 := hidMk (show x0.L.length = 12 from acL_len hx0)
  have HK0 := hidMk ((Kept.refl w).alloc (.cells x0.L.toArray 33))
  have hs0 : (w.alloc (.cells x0.L.toArray 33)).heap.size = w.heap.size + 1 := by simp
  obtain ⟨Z1, hZ1⟩ : ∃ Z, zK = Z := ⟨_, rfl⟩
  have HZ1 := hidMk hZ1
  have HO1 := hidMk (show Z1.length = 8 ∧ ∀ u ∈ Z1, u.oneCell' = true from by rw [← hZ1]; exact ⟨rfl, zK_run⟩)
  obtain ⟨LF, hLF⟩ : ∃ L, L = x0.L := ⟨_, rfl⟩
  have hLF' : acL x0.kd x0.n x0.lf x0.ks x0.v = LF := by rw [hLF]; rfl
  rw [hLF'] at HZ0
  obtain ⟨W0, hW0⟩ : ∃ W, W = w.alloc (.cells LF.toArray 33) := ⟨_, rfl⟩
  simp only [← hLF] at *
  rw [← hW0] at HR0 HT0 HK0 hs0
  clear hV hA hZ1 hLF'
  go_enter Tryd.func5, Tryd.ntmps5
  go_wp2_with fail
  rw [← hW0]
  clear hW0
  refine (HNEW.out W0).mono ?_
  rintro e w1 ⟨rfl, hnew⟩
  have hA1 := as_new hnew HK0.out (by omega) (by omega)
  have HR1 := hidMk (hnew.kept.range HR0.out)
  have HT1 := hidMk (hnew.kept.there (by omega) HT0.out)
  obtain ⟨p, hp⟩ : ∃ p, p = W0.heap.size := ⟨_, rfl⟩
  rw [← hp] at hA1
  rw [← hp]
  obtain ⟨W2, hW2⟩ : ∃ W2, W2 = w1.setCells w.heap.size 3 Z1 := ⟨_, rfl⟩
  have HA2 := hidMk (show AS w W2 p none 60 0 (fun _ => 0) (fun _ => zNd) 0 from by
    rw [hW2]
    exact hA1.chg (S := fun j => j = w.heap.size) (chg_setCells (S := fun j => j = w.heap.size) rfl _ _ (Chg.refl _ _)) (fun j e => by omega) (by omega) (fun g e => by cases e))
  obtain ⟨L2, hL2⟩ : ∃ L, L = acL x0.kd x0.n x0.lf zs8 x0.v := ⟨_, rfl⟩
  have HR2 := hidMk (show W2.rangeAt w.heap.size 0 L2 ∧ L2.length = 12 from by
    refine ⟨?_, by rw [hL2]; exact acL_len rfl⟩
    rw [hW2, hL2, ← HZ0.out, HZ1.out]
    exact range_setL HR1.out _ (by rw [HL0.out, HO1.out.1]; omega))
  have HND0 := hidMk (law9_node x0.kd x0.n x0.lf zs8 x0.v rfl W2)
  rw [← hL2] at HND0
  have HT3 := hidMk (there_sub HT1.out (o' := 3) (n' := 8) (by omega) (by omega))
  clear hnew hA1 HNEW HR0 HT0 HK0 hs0 HZ0 HR1 HT1 HL0 hL2 hp
  go_wp2_with (first | (refine wpl_buildK HZ1.out rfl rfl ?_) | (refine wpl_storeT k_size rfl _ _ rfl _ _ rfl Z1 HO1.out.1 rfl HO1.out.2 HT3.out ?_; rw [← hW2]; clear hW2) | (refine wpl_loadT ac_size ac_row rfl _ rfl _ _ rfl L2 HR2.out.2 HR2.out.1 ?_))
  refine HND0.out.mono ?_
  rintro e w3 ⟨⟨b, rfl⟩, k3⟩
  have HA3 := hidMk (HA2.out.keep k3)
  clear HND0 HA2 HR2 HT3 HO1 HZ1 k3
  have hlen := ndL_len (acN x0.lf zs8 x0.v b) rfl rfl
  obtain ⟨g, hg⟩ : ∃ g, g = w3.heap.size := ⟨_, rfl⟩
  have HG := hidMk (fun W => law9_given (acN x0.lf zs8 x0.v b) rfl rfl W)
  have HM := hidMk (fun (Y : World) (h : AS w Y p none 60 0 (fun _ => 0) (fun _ => zNd) 0) => sta_first HV.out h x0.lf x0.v b)
  have HO := hidMk (And.intro hlen (ndL_one (acN x0.lf zs8 x0.v b)))
  unfold ndV at *
  have hy0 : (bareN (acN x0.lf zs8 x0.v b)).kids.length = 8 ∧ (bareN (acN x0.lf zs8 x0.v b)).vals.length = 8 := bareN_ok rfl rfl
  generalize bareN (acN x0.lf zs8 x0.v b) = y0 at *
  generalize ndL (acN x0.lf zs8 x0.v b) = LN at *
  obtain ⟨W4, hW4⟩ : ∃ W4, W4 = (w3.alloc (.cells (ndL zNd).toArray 38)).setCells g 0 LN := ⟨_, rfl⟩
  have ht4 : (w3.alloc (.cells (ndL zNd).toArray 38)).there g 0 25 := by rw [hg]; exact new_there _ _ _ _ (by rfl)
  have HR4 := hidMk (show W4.rangeAt g 0 LN from by rw [hW4]; exact World.rangeAt_setCells_same _ _ _ _ (by rw [hlen]; exact ht4))
  have HA4 := hidMk (HA3.out.keep (y := W4) (by rw [hW4, hg]; exact kept_setCells (Nat.le_refl _) _ _ ((Kept.refl _).alloc _)))
  have HT4 := hidMk ht4
  clear ht4 hlen HA3
  go_wp2_with (first | (refine wpl_allocR rfl rfl ?_; rw [← hg]; clear hg) | (refine wpl_storeT rd_size rfl _ _ rfl _ _ rfl LN HO.out.1 rfl HO.out.2 HT4.out ?_; rw [← hW4]; clear hW4) | (refine wpl_loadT rd_size rd_row rfl _ rfl _ _ rfl LN HO.out.1 HR4.out ?_))
  refine (HG.out _).mono ?_
  rintro e w5 ⟨rfl, k5⟩
  have HA5 := hidMk (HA4.out.keep k5)
  clear k5 HA4 HR4 HT4 HG
  go_wp2_with fail
  refine (HM.out _ HA5.out).mono ?_
  rintro e w6 ⟨rfl, hst⟩
  have HST := hidMk hst
  clear hst HA5 HM HO
  have HLW := hidMk (And.intro (ndL_len y0 hy0.1 hy0.2) (ndL_one y0))
  have HPT := hidMk (fun (W : World) (b : Nat) (h : W.rangeAt b 0 (ndL y0)) => nd_parts hy0.1 h)
  have HKL := hidMk (show (kdV y0.kids).length = 8 ∧ (enV y0.vals).length = 16 from ⟨by rw [kdV_len, hy0.1], by rw [enV_len, hy0.2]⟩)
  have hkeq := fun W => kd_same hy0.1 W
  have hveq := fun W => en_same hy0.2 W
  generalize ndL y0 = LW at *
  generalize kdV y0.kids = KW at *
  generalize enV y0.vals = VW at *
  generalize y0.leaf = lw at *
  clear hy0
  have HAT := hidMk (sta_At HST.out)
  go_wp2_with fail
  refine HAT.out.mono ?_
  rintro e w7 ⟨rfl, k7⟩
  have hst7 : StA w w7 p LW := by
    obtain ⟨ow, n', rf, nd, M, h1, h2⟩ := HST.out
    exact ⟨ow, n', rf, nd, M, h1.keep k7, h2⟩
  obtain ⟨bw, hbw⟩ : ∃ g, g = w7.heap.size := ⟨_, rfl⟩
  obtain ⟨W8, hW8⟩ : ∃ W8, W8 = (w7.alloc (.cells (ndL zNd).toArray 42)).setCells bw 0 LW := ⟨_, rfl⟩
  have HS8 := hidMk (show StI w W8 p bw LW 0 from by rw [hW8, hbw]; exact sta_put hst7 HLW.out.1 _)
  have HT8 := hidMk (show (w7.alloc (.cells (ndL zNd).toArray 42)).there bw 0 25 from by rw [hbw]; exact new_there _ _ _ _ (by rfl))
  clear hst7 k7 HAT HST
  go_wp2_with (first | (refine wpl_allocN rfl rfl ?_; rw [← hbw]; clear hbw) | (refine wpl_storeT nd_size rfl _ _ rfl _ _ rfl LW HLW.out.1 rfl HLW.out.2 HT8.out ?_; rw [← hW8]; clear hW8))
  clear HT8
  go_loopg [12] 62 (fun g x wr => ∃ k : Nat, k + g = 62 ∧ k ≤ 60 ∧ x = .int .i64 k ∧ Hid (StI w wr p bw LW k))
  case atStart => exact ⟨0, by omega, by omega, rfl, HS8⟩
  case round =>
    clear HS8
    obtain ⟨k, hkg, hk8, rfl, HS⟩ := hrel
    have HKG := hidMk hkg
    by_cases hkn : k < n
    · by_cases hk6 : k < 60
      · have hk1 : (k : Int) < n := by omega
        have hk2 : (k : Int) < 60 := by omega
        obtain ⟨ba, off, rfl, hra⟩ := acs_at HAC.out hkn
        have hfk := HAC.out.1 k hkn
        have HRA := hidMk (HS.out.kept.range hra)
        have HKK := hidMk (And.intro hk6 hk8)
        have HFL := hidMk (show (f k).L.length = 12 ∧ ∀ u ∈ (f k).L, u.oneCell' = true from ⟨acL_len hfk, acL_one⟩)
        obtain ⟨bx, hbx⟩ : ∃ g, g = wr.heap.size := ⟨_, rfl⟩
        obtain ⟨W9, hW9⟩ : ∃ W, W = (wr.alloc (.cells zAc.toArray 33)).setCells bx 0 (f k).L := ⟨_, rfl⟩
        have ht9 : (wr.alloc (.cells zAc.toArray 33)).there bx 0 12 := by rw [hbx]; exact new_there _ _ _ _ (by rfl)
        have hr9 : W9.rangeAt bx 0 (f k).L := by rw [hW9]; exact World.rangeAt_setCells_same _ _ _ _ (by rw [HFL.out.1]; exact ht9)
        have HS9 := hidMk (HS.out.keep (y := W9) (by rw [hW9, hbx]; exact kept_setCells (Nat.le_refl _) _ _ ((Kept.refl _).alloc _)))
        have c0 : W9.cell? ⟨bx, 0, none⟩ = some (.int .i64 (f k).kd) := by have := hr9 0 _ rfl; simpa using this
        have c1 : W9.cell? ⟨bx, 1, none⟩ = some (.int .i64 (f k).n) := by have := hr9 1 _ rfl; simpa using this
        have HT9 := hidMk ht9
        have HR9 := hidMk hr9
        have HNX := hidMk (HND.out (f k) hfk)
        have HNG := hidMk (fun b W => law9_given (acN (f k).lf (f k).ks (f k).v b) hfk rfl W)
        have HNM := hidMk (fun b Y (h : StI w Y p bw LW k) => sti_Make h HV.out (by omega) (acN (f k).lf (f k).ks (f k).v b) (acN_ok hfk _ b))
        have hLx : acL (f k).kd (f k).n (f k).lf (f k).ks (f k).v = (f k).L := rfl
        rw [hLx] at HNX
        generalize (f k).L = LX at *
        generalize (f k).kd = xk at *
        generalize (f k).n = xn at *
        clear hra hfk hr9 ht9 hLx hkg hk8 hk6 hkn
        by_cases hq : xk.tmod 3 = 0
        · go_wp2_with (first | (refine wpl_loadT ac_size ac_row rfl _ rfl _ _ rfl LX HFL.out.1 HRA.out ?_) | (refine wpl_allocA rfl rfl ?_; rw [← hbx]; clear hbx) | (refine wpl_storeT ac_size rfl _ _ rfl _ _ rfl LX HFL.out.1 rfl HFL.out.2 HT9.out ?_; rw [← hW9]; clear hW9) | (refine wpl_loadT ac_size ac_row rfl _ rfl _ _ rfl LX HFL.out.1 HR9.out ?_))
          refine (HNX.out _).mono ?_
          rintro e w10 ⟨⟨b, rfl⟩, k10⟩
          have HS10 := hidMk (HS9.out.keep k10)
          clear k10 HS9 HR9 HT9 HRA HS HNX c0 c1
          have HG1 := hidMk (HNG.out b)
          have HM1 := hidMk (HNM.out b)
          unfold ndV at *
          generalize ndL (acN (f k).lf (f k).ks (f k).v b) = LM at *
          clear HNG HNM
          go_wp2_with fail
          refine (HG1.out _).mono ?_
          rintro e w11 ⟨rfl, k11⟩
          have HS11 := hidMk (HS10.out.keep k11)
          clear k11 HS10 HG1
          go_wp2_with fail
          refine (HM1.out _ HS11.out).mono ?_
          rintro e w12 ⟨⟨ra, rb, rfl⟩, hs12⟩
          have HS12 := hidMk hs12
          clear hs12 HS11 HM1
          go_wp2_with fail
          have HAT := hidMk (sti_At HS12.out)
          refine HAT.out.mono ?_
          rintro e w13 ⟨rfl, k13⟩
          obtain ⟨bn, hbn⟩ : ∃ g, g = w13.heap.size := ⟨_, rfl⟩
          obtain ⟨W14, hW14⟩ : ∃ W, W = (w13.alloc (.cells (ndL zNd).toArray 42)).setCells bn 0 LW := ⟨_, rfl⟩
          have ht14 : (w13.alloc (.cells (ndL zNd).toArray 42)).there bn 0 25 := by rw [hbn]; exact new_there _ _ _ _ (by rfl)
          have HS14 := hidMk (HS12.out.keep (y := W14) (k13.trans (by rw [hW14, hbn]; exact kept_setCells (Nat.le_refl _) _ _ ((Kept.refl _).alloc _))))
          have HP1 := hidMk (HPT.out W14 bn (by rw [hW14]; exact World.rangeAt_setCells_same _ _ _ _ (by rw [HLW.out.1]; exact ht14)))
          have HP2 := hidMk (HPT.out W14 bw (by obtain ⟨_, _, _, _, _, _, _, _, _, h, _⟩ := HS14.out; exact h))
          have d1 := HP1.out.1
          have d2 := HP2.out.1
          obtain ⟨m, hm, hrf⟩ := sti_Refs HS14.out
          have HRF := hidMk hrf
          have hm' : ¬ (m < 1) := by omega
          have HT14 := hidMk ht14
          clear k13 ht14 hrf HS12 HAT hm
          go_wp2_with (first | (refine wpl_allocN rfl rfl ?_; rw [← hbn]; clear hbn) | (refine wpl_storeT nd_size rfl _ _ rfl _ _ rfl LW HLW.out.1 rfl HLW.out.2 HT14.out ?_; rw [← hW14]; clear hW14) | (refine wpl_loadG k_size k_row _ rfl rfl bn 1 rfl KW HKL.out.1 HP1.out.2.1 ?_) | (refine wpl_loadG k_size k_row _ rfl rfl bw 1 rfl KW HKL.out.1 HP2.out.2.1 ?_) | (refine wpl_loadG v_size v_row _ rfl rfl bn 9 rfl VW HKL.out.2 HP1.out.2.2 ?_) | (refine wpl_loadG v_size v_row _ rfl rfl bw 9 rfl VW HKL.out.2 HP2.out.2.2 ?_))
          refine HRF.out.mono ?_
          rintro e w15 ⟨rfl, rfl⟩
          go_wp2_with fail
          go_roundg (gk - 1)
          case measure => have := HKG.out; omega
          case rel => exact ⟨k + 1, by have := HKG.out; have := HKK.out; omega, by have := HKK.out; omega, by go_num, HS14⟩
        · have hq' : (xk.tmod 3 == 0) = false := by simpa using hq
          by_cases hn1 : xn = 1
          · have HS12 := hidMk (HS9.out.raise (Nat.le_succ k))
            go_wp2_with (first | (refine wpl_loadT ac_size ac_row rfl _ rfl _ _ rfl LX HFL.out.1 HRA.out ?_) | (refine wpl_allocA rfl rfl ?_; rw [← hbx]; clear hbx) | (refine wpl_storeT ac_size rfl _ _ rfl _ _ rfl LX HFL.out.1 rfl HFL.out.2 HT9.out ?_; rw [← hW9]; clear hW9))
            clear HS9 HR9 HT9 HRA HS HNX HNG HNM c0 c1
            generalize W9 = w12 at *
            have HAT := hidMk (sti_At HS12.out)
            refine HAT.out.mono ?_
            rintro e w13 ⟨rfl, k13⟩
            obtain ⟨bn, hbn⟩ : ∃ g, g = w13.heap.size := ⟨_, rfl⟩
            obtain ⟨W14, hW14⟩ : ∃ W, W = (w13.alloc (.cells (ndL zNd).toArray 42)).setCells bn 0 LW := ⟨_, rfl⟩
            have ht14 : (w13.alloc (.cells (ndL zNd).toArray 42)).there bn 0 25 := by rw [hbn]; exact new_there _ _ _ _ (by rfl)
            have HS14 := hidMk (HS12.out.keep (y := W14) (k13.trans (by rw [hW14, hbn]; exact kept_setCells (Nat.le_refl _) _ _ ((Kept.refl _).alloc _))))
            have HP1 := hidMk (HPT.out W14 bn (by rw [hW14]; exact World.rangeAt_setCells_same _ _ _ _ (by rw [HLW.out.1]; exact ht14)))
            have HP2 := hidMk (HPT.out W14 bw (by obtain ⟨_, _, _, _, _, _, _, _, _, h, _⟩ := HS14.out; exact h))
            have d1 := HP1.out.1
            have d2 := HP2.out.1
            obtain ⟨m, hm, hrf⟩ := sti_Refs HS14.out
            have HRF := hidMk hrf
            have hm' : ¬ (m < 1) := by omega
            have HT14 := hidMk ht14
            clear k13 ht14 hrf HS12 HAT hm
            go_wp2_with (first | (refine wpl_allocN rfl rfl ?_; rw [← hbn]; clear hbn) | (refine wpl_storeT nd_size rfl _ _ rfl _ _ rfl LW HLW.out.1 rfl HLW.out.2 HT14.out ?_; rw [← hW14]; clear hW14) | (refine wpl_loadG k_size k_row _ rfl rfl bn 1 rfl KW HKL.out.1 HP1.out.2.1 ?_) | (refine wpl_loadG k_size k_row _ rfl rfl bw 1 rfl KW HKL.out.1 HP2.out.2.1 ?_) | (refine wpl_loadG v_size v_row _ rfl rfl bn 9 rfl VW HKL.out.2 HP1.out.2.2 ?_) | (refine wpl_loadG v_size v_row _ rfl rfl bw 9 rfl VW HKL.out.2 HP2.out.2.2 ?_))
            refine HRF.out.mono ?_
            rintro e w15 ⟨rfl, rfl⟩
            go_wp2_with fail
            go_roundg (gk - 1)
            case measure => have := HKG.out; omega
            case rel => exact ⟨k + 1, by have := HKG.out; have := HKK.out; omega, by have := HKK.out; omega, by go_num, HS14⟩
          · have hn1' : (xn == 1) = false := by simpa using hn1
            have HDR := hidMk (sti_Drop HS9.out xn hn1)
            go_wp2_with (first | (refine wpl_loadT ac_size ac_row rfl _ rfl _ _ rfl LX HFL.out.1 HRA.out ?_) | (refine wpl_allocA rfl rfl ?_; rw [← hbx]; clear hbx) | (refine wpl_storeT ac_size rfl _ _ rfl _ _ rfl LX HFL.out.1 rfl HFL.out.2 HT9.out ?_; rw [← hW9]; clear hW9))
            refine HDR.out.mono ?_
            rintro e w12 ⟨⟨ra, rfl⟩, hs12⟩
            have HS12 := hidMk hs12
            clear hs12 HDR HS9 HR9 HT9 HRA HS HNX HNG HNM c0 c1
            go_wp2_with fail
            have HAT := hidMk (sti_At HS12.out)
            refine HAT.out.mono ?_
            rintro e w13 ⟨rfl, k13⟩
            obtain ⟨bn, hbn⟩ : ∃ g, g = w13.heap.size := ⟨_, rfl⟩
            obtain ⟨W14, hW14⟩ : ∃ W, W = (w13.alloc (.cells (ndL zNd).toArray 42)).setCells bn 0 LW := ⟨_, rfl⟩
            have ht14 : (w13.alloc (.cells (ndL zNd).toArray 42)).there bn 0 25 := by rw [hbn]; exact new_there _ _ _ _ (by rfl)
            have HS14 := hidMk (HS12.out.keep (y := W14) (k13.trans (by rw [hW14, hbn]; exact kept_setCells (Nat.le_refl _) _ _ ((Kept.refl _).alloc _))))
            have HP1 := hidMk (HPT.out W14 bn (by rw [hW14]; exact World.rangeAt_setCells_same _ _ _ _ (by rw [HLW.out.1]; exact ht14)))
            have HP2 := hidMk (HPT.out W14 bw (by obtain ⟨_, _, _, _, _, _, _, _, _, h, _⟩ := HS14.out; exact h))
            have d1 := HP1.out.1
            have d2 := HP2.out.1
            obtain ⟨m, hm, hrf⟩ := sti_Refs HS14.out
            have HRF := hidMk hrf
            have hm' : ¬ (m < 1) := by omega
            have HT14 := hidMk ht14
            clear k13 ht14 hrf HS12 HAT hm
            go_wp2_with (first | (refine wpl_allocN rfl rfl ?_; rw [← hbn]; clear hbn) | (refine wpl_storeT nd_size rfl _ _ rfl _ _ rfl LW HLW.out.1 rfl HLW.out.2 HT14.out ?_; rw [← hW14]; clear hW14) | (refine wpl_loadG k_size k_row _ rfl rfl bn 1 rfl KW HKL.out.1 HP1.out.2.1 ?_) | (refine wpl_loadG k_size k_row _ rfl rfl bw 1 rfl KW HKL.out.1 HP2.out.2.1 ?_) | (refine wpl_loadG v_size v_row _ rfl rfl bn 9 rfl VW HKL.out.2 HP1.out.2.2 ?_) | (refine wpl_loadG v_size v_row _ rfl rfl bw 9 rfl VW HKL.out.2 HP2.out.2.2 ?_))
            refine HRF.out.mono ?_
            rintro e w15 ⟨rfl, rfl⟩
            go_wp2_with fail
            go_roundg (gk - 1)
            case measure => have := HKG.out; omega
            case rel => exact ⟨k + 1, by have := HKG.out; have := HKK.out; omega, by have := HKK.out; omega, by go_num, HS14⟩
      · have hk2 : ¬ ((k : Int) < 60) := by omega
        have hk1 : (k : Int) < n := by omega
        have HKS := hidMk HS.out.kept
        clear hk6 hkn hkg
        go_wp2_with fail
        refine (HKN.out _ HKS.out).mono ?_
        rintro e w20 ⟨rfl, k20⟩
        have HK20 := hidMk (HKS.out.trans k20)
        go_wp2_with fail
        go_ret
        exact ⟨rfl, HK20.out⟩
    · have hk1 : ¬ ((k : Int) < n) := by omega
      have HKS := hidMk HS.out.kept
      clear hkn hkg
      go_wp2_with fail
      refine (HKN.out _ HKS.out).mono ?_
      rintro e w20 ⟨rfl, k20⟩
      have HK20 := hidMk (HKS.out.trans k20)
      go_wp2_with fail
      go_ret
      exact ⟨rfl, HK20.out⟩
end Go.Proofs.YtglcinlkpidiaaaDoor
