/- DimsCells. -/
import Derived.Test.YtinbgcalgocfoaaLawDimsE
import Derived.Deep.RegionHeld3
import Derived.Deep.DeepMust
namespace Go.Proofs.Ytinbgcalgocfoaa
open Go.RowKit Go.Maps
set_option linter.unusedSimpArgs false
set_option linter.unusedVariables false

theorem cell_form {ms : List ByteArray} {ds : List Dm} {s : ByteArray} {xs : List ByteArray} {r : Value} {e : Int} (h : CellIs ms ds s xs r e) : ∃ i0 i1 i2 i3 i4, r = .agg #[.int .i64 i0, .int .i64 i1, .int .i64 i2, .int .i64 i3, .int .i64 i4] := by
  rcases h with ⟨h1, h2, h3⟩ | ⟨h1, h2, h3, h4⟩ | ⟨h1, h2, ⟨k, h3, h4⟩, h5, h6⟩ | ⟨h1, h2, h3, h4, h5⟩
  · exact ⟨_, _, _, _, _, h2⟩
  · exact ⟨_, _, _, _, _, h3⟩
  · exact ⟨_, _, _, _, _, h5⟩
  · exact ⟨_, _, _, _, _, h4⟩
set_option maxHeartbeats 8000000 in
set_option maxRecDepth 100000 in
theorem law_DimsCells (a : Option Addr) (n c : Nat) (ds : List Dm) (na : Nat → Option Addr × Nat × Nat) (b : Option Addr) (m d : Nat) (ms : List ByteArray) (lv sc : Int) (s : ByteArray) (xa : Option Addr) (xn xc : Nat) (xs : List ByteArray) (cm : Int) (at_ : Nat → Int) (w : World) (hs : Dss w a n ds na) (hm : Ss w b m ms) (hmz : ∀ i, i < ms.length → (msA ms i).size ≤ maxLen) (hx : Ss w xa xn xs) (hxz : ∀ i, i < xs.length → (msA xs i).size ≤ maxLen) :
    Calls Try.prog 3 #[.agg #[.slice a n c, .slice b m d, .int .i64 lv, .int .i64 sc], .string s, .slice xa xn xc, cellV cm at_] w fun e w' => e = .returned (.bool true) ∧ Kept w w' := by
  have hln := hs.len
  have hlm := hm.len
  have hlx := hx.len
  have hbx := hx.big
  have hbm := hm.big
  unfold maxLen at hbx
  have HS := hidMk hs
  have HM := hidMk hm
  have HMZ := hidMk hmz
  have HX := hidMk hx
  have HXZ := hidMk hxz
  have HKN := hidMk law6_known
  have HSM := hidMk (show ∀ y, Kept w y → _ from fun y hy => law6_small a n c ds na b m d lv sc y (hs.kept hy) hbm)
  have HN1 := hidMk (show ∀ y, Kept w y → _ from fun y hy => dims_New a n c ds na b m d ms lv sc y (hs.kept hy) (hm.kept hy) hmz)
  have HN2 := hidMk (show ∀ y, Kept w y → _ from fun y hy => ref6_New a n c ds na b m d ms lv sc y (hs.kept hy) (hm.kept hy) hmz)
  have HBX := hidMk (fun w t => box_at w t cm at_)
  clear hs hm hmz hx hxz hbm
  unfold cellV
  obtain ⟨a0, ha0⟩ : ∃ x, x = at_ 0 := ⟨_, rfl⟩
  obtain ⟨a1, ha1⟩ : ∃ x, x = at_ 1 := ⟨_, rfl⟩
  obtain ⟨a2, ha2⟩ : ∃ x, x = at_ 2 := ⟨_, rfl⟩
  obtain ⟨a3, ha3⟩ : ∃ x, x = at_ 3 := ⟨_, rfl⟩
  have HCV := hidMk (show cellV cm at_ = .agg #[.int .i64 cm, .int .i64 a0, .int .i64 a1, .int .i64 a2, .int .i64 a3] by unfold cellV; rw [ha0, ha1, ha2, ha3])
  rw [← ha0, ← ha1, ← ha2, ← ha3]
  have HBX' := hidMk (show ∀ (w : World) t k, k < 4 → (w.alloc (.cells #[.int .i64 cm, .int .i64 a0, .int .i64 a1, .int .i64 a2, .int .i64 a3] t)).cell? ⟨w.heap.size, 1 + k, none⟩ = some (.int .i64 (at_ k)) from fun w t k hk => by rw [ha0, ha1, ha2, ha3]; exact HBX.out w t k hk)
  clear ha0 ha1 ha2 ha3 HBX
  go_enter Try.func3, Try.ntmps3
  go_wp2_with fail
  refine (HSM.out _ (((Kept.refl w).alloc _).alloc _)).mono ?_
  rintro e w1 ⟨r1, rfl, hsm, k1⟩
  have HK1 := hidMk (show Kept w w1 from (((Kept.refl w).alloc _).alloc _).trans k1)
  have HKC := hidMk (((Kept.refl w1)).trans (Kept.refl w1))
  have y0 : w1.cell? ⟨w.heap.size, 0, none⟩ = some (.slice a n c) := k1.cellp (((Kept.refl _).alloc _).cellp (by simp))
  have y1 : w1.cell? ⟨w.heap.size, 1, none⟩ = some (.slice b m d) := k1.cellp (((Kept.refl _).alloc _).cellp (by simp))
  have y2 : w1.cell? ⟨w.heap.size, 2, none⟩ = some (.int .i64 lv) := k1.cellp (((Kept.refl _).alloc _).cellp (by simp))
  have y3 : w1.cell? ⟨w.heap.size, 3, none⟩ = some (.int .i64 sc) := k1.cellp (((Kept.refl _).alloc _).cellp (by simp))
  have z0 : w1.cell? ⟨w.heap.size + 1, 0, none⟩ = some (.int .i64 cm) := k1.cellp (new_cell _ _ _ _ _ _ (by simp) rfl)
  have z1 : w1.cell? ⟨w.heap.size + 1, 1, none⟩ = some (.int .i64 a0) := k1.cellp (new_cell _ _ _ _ _ _ (by simp) rfl)
  have z2 : w1.cell? ⟨w.heap.size + 1, 2, none⟩ = some (.int .i64 a1) := k1.cellp (new_cell _ _ _ _ _ _ (by simp) rfl)
  have z3 : w1.cell? ⟨w.heap.size + 1, 3, none⟩ = some (.int .i64 a2) := k1.cellp (new_cell _ _ _ _ _ _ (by simp) rfl)
  have z4 : w1.cell? ⟨w.heap.size + 1, 4, none⟩ = some (.int .i64 a3) := k1.cellp (new_cell _ _ _ _ _ _ (by simp) rfl)
  have HZ := hidMk (show ∀ k, k < 4 → w1.cell? ⟨w.heap.size + 1, 1 + k, none⟩ = some (.int .i64 (at_ k)) from fun k hk => k1.cellp (by
    have h := HBX'.out (w.alloc (.cells #[.slice a n c, .slice b m d, .int .i64 lv, .int .i64 sc] 25)) 28 k hk
    simpa using h))
  clear k1 HSM HKC HBX'
  cases r1 with
  | false =>
    go_wp2_with fail
    refine (HKN.out _).mono ?_
    rintro e w2 ⟨rfl, k2⟩
    have K2 := hidMk k2
    clear k2
    go_wp2_with fail
    go_ret
    exact ⟨rfl, HK1.out.trans K2.out⟩
  | true =>
    clear hsm
    by_cases hx20 : 20 < xn
    · have hx' : (20 : Int) < xn := by omega
      go_wp2_with fail
      refine (HKN.out _).mono ?_
      rintro e w2 ⟨rfl, k2⟩
      have K2 := hidMk k2
      clear k2
      go_wp2_with fail
      go_ret
      exact ⟨rfl, HK1.out.trans K2.out⟩
    have hx' : (xn : Int) ≤ 20 := by omega
    go_wp2_with fail
    refine (HN1.out _ HK1.out).mono ?_
    rintro e w2 (⟨w0, p, tp, ma, mc, dv, rfl, hc1, hD, k2⟩ | ⟨at1, er1, rfl, her1, hc1, k2⟩)
    · have HD := hidMk hD
      have HK2 := hidMk (HK1.out.trans k2)
      have K2 := hidMk k2
      have HC1 := hidMk hc1
      have u0 := k2.cellp y0
      have u1 := k2.cellp y1
      have u2 := k2.cellp y2
      have u3 := k2.cellp y3
      clear hD k2 hc1
      go_wp2_with fail
      refine (HN2.out _ HK2.out).mono ?_
      rintro e w3 (⟨q, rt, rfl, hc2, hR, k3⟩ | ⟨at2, er2, rfl, her2, hc2, k3⟩)
      · have HR := hidMk hR
        have HOK := hidMk (cat_ok HC1.out)
        have HK3 := hidMk (HK2.out.trans k3)
        have K3 := hidMk (K2.out.trans k3)
        have HD3 := hidMk (HD.out.kept k3)
        have hd4 := HOK.out.d4
        have HCE := hidMk (show ∀ y, Kept w3 y → _ from fun y hy => dims_Cell (HD3.out.kept hy) hd4 s xa xn xc xs (HX.out.kept (HK3.out.trans hy)) HXZ.out)
        have HCR := hidMk (show ∀ y, Kept w3 y → _ from fun y hy => ref6_Cell (HR.out.kept hy) hd4 s xa xn xc xs (HX.out.kept (HK3.out.trans hy)))
        clear hR k3 hc2 u0 u1 u2 u3
        go_wp2_with fail
        refine (HCE.out _ (Kept.refl _)).mono ?_
        rintro e w4 ⟨r4, e4, rfl, hi4, k4⟩
        obtain ⟨i0, i1, i2, i3, i4, rfl⟩ := cell_form hi4
        have HI4 := hidMk hi4
        have K4 := hidMk k4
        clear hi4 k4
        go_wp2_with fail
        refine (HCR.out _ (K4.out.alloc _)).mono ?_
        rintro e w5 ⟨r5, e5, rfl, hi5, k5⟩
        obtain ⟨rfl, rfl⟩ := cell_one HI4.out hi5
        have v0 : w5.cell? ⟨w4.heap.size, 0, none⟩ = some (.int .i64 i0) := k5.cellp (by simp)
        have v1 : w5.cell? ⟨w4.heap.size, 1, none⟩ = some (.int .i64 i1) := k5.cellp (by simp)
        have v2 : w5.cell? ⟨w4.heap.size, 2, none⟩ = some (.int .i64 i2) := k5.cellp (by simp)
        have v3 : w5.cell? ⟨w4.heap.size, 3, none⟩ = some (.int .i64 i3) := k5.cellp (by simp)
        have v4 : w5.cell? ⟨w4.heap.size, 4, none⟩ = some (.int .i64 i4) := k5.cellp (by simp)
        have K5 := hidMk (show Kept w3 w5 from (K4.out.alloc _).trans k5)
        have HK5 := hidMk (HK3.out.trans K5.out)
        have HKC := hidMk (K3.out.trans K5.out)
        clear hi5 k5 HCE HCR HI4
        go_wp2_with fail
        obtain ⟨W5, hW5⟩ : ∃ W5, w5.alloc (.cells #[.int .i64 i0, .int .i64 i1, .int .i64 i2, .int .i64 i3, .int .i64 i4] 28) = W5 := ⟨_, rfl⟩
        rw [hW5]
        have g0 : W5.cell? ⟨w4.heap.size, 0, none⟩ = some (.int .i64 i0) := by rw [← hW5]; exact ((Kept.refl w5).alloc _).cellp v0
        have g1 : W5.cell? ⟨w4.heap.size, 1, none⟩ = some (.int .i64 i1) := by rw [← hW5]; exact ((Kept.refl w5).alloc _).cellp v1
        have g2 : W5.cell? ⟨w4.heap.size, 2, none⟩ = some (.int .i64 i2) := by rw [← hW5]; exact ((Kept.refl w5).alloc _).cellp v2
        have g3 : W5.cell? ⟨w4.heap.size, 3, none⟩ = some (.int .i64 i3) := by rw [← hW5]; exact ((Kept.refl w5).alloc _).cellp v3
        have g4 : W5.cell? ⟨w4.heap.size, 4, none⟩ = some (.int .i64 i4) := by rw [← hW5]; exact ((Kept.refl w5).alloc _).cellp v4
        have g5 : W5.cell? ⟨w5.heap.size, 0, none⟩ = some (.int .i64 i0) := by rw [← hW5]; exact new_cell _ _ _ _ _ _ rfl rfl
        have g6 : W5.cell? ⟨w5.heap.size, 1, none⟩ = some (.int .i64 i1) := by rw [← hW5]; exact new_cell _ _ _ _ _ _ rfl rfl
        have g7 : W5.cell? ⟨w5.heap.size, 2, none⟩ = some (.int .i64 i2) := by rw [← hW5]; exact new_cell _ _ _ _ _ _ rfl rfl
        have g8 : W5.cell? ⟨w5.heap.size, 3, none⟩ = some (.int .i64 i3) := by rw [← hW5]; exact new_cell _ _ _ _ _ _ rfl rfl
        have g9 : W5.cell? ⟨w5.heap.size, 4, none⟩ = some (.int .i64 i4) := by rw [← hW5]; exact new_cell _ _ _ _ _ _ rfl rfl
        have g10 : W5.cell? ⟨w.heap.size + 1, 0, none⟩ = some (.int .i64 cm) := by rw [← hW5]; exact ((Kept.refl w5).alloc _).cellp (HKC.out.cellp z0)
        have g11 : W5.cell? ⟨w.heap.size + 1, 1, none⟩ = some (.int .i64 a0) := by rw [← hW5]; exact ((Kept.refl w5).alloc _).cellp (HKC.out.cellp z1)
        have g12 : W5.cell? ⟨w.heap.size + 1, 2, none⟩ = some (.int .i64 a1) := by rw [← hW5]; exact ((Kept.refl w5).alloc _).cellp (HKC.out.cellp z2)
        have g13 : W5.cell? ⟨w.heap.size + 1, 3, none⟩ = some (.int .i64 a2) := by rw [← hW5]; exact ((Kept.refl w5).alloc _).cellp (HKC.out.cellp z3)
        have g14 : W5.cell? ⟨w.heap.size + 1, 4, none⟩ = some (.int .i64 a3) := by rw [← hW5]; exact ((Kept.refl w5).alloc _).cellp (HKC.out.cellp z4)
        have KW5 := hidMk (show Kept w5 W5 by rw [← hW5]; exact (Kept.refl w5).alloc _)
        have HDW := hidMk (HD3.out.kept (K5.out.trans KW5.out))
        have HRW := hidMk (HR.out.kept (K5.out.trans KW5.out))
        clear v0 v1 v2 v3 v4 hW5
        obtain ⟨lf, hlf⟩ : ∃ lf : Bool, (lf = true ↔ rightB ms ds cm at_ = true ∧ leavesB ds at_ ds.length) := ⟨@decide _ (Classical.propDecidable _), @decide_eq_true_iff _ (Classical.propDecidable _)⟩
        have HS1 := hidMk (show ∀ y, Kept W5 y → _ from fun y hy => dims_Show (HDW.out.kept hy) hd4 cm at_ (by have := HOK.out.join_le cm at_ ds.length (Nat.le_refl _); omega))
        have HS2 := hidMk (show ∀ y, Kept W5 y → _ from fun y hy => ref6_Show (HRW.out.kept hy) hd4 cm at_ (fun k hk => by have := HOK.out.join_le cm at_ k hk; rw [joinB_size]; omega))
        have HR1 := hidMk (show ∀ y, Kept W5 y → _ from fun y hy => dims_Right (HDW.out.kept hy) hd4 cm at_)
        have HR2 := hidMk (show ∀ y, Kept W5 y → _ from fun y hy => ref6_Right (HRW.out.kept hy) hd4 cm at_)
        have HL1 := hidMk (show ∀ y, Kept W5 y → Calls Try.prog 14 #[.pointer (some ⟨p, 0, none⟩), cellV cm at_] y fun e w' => e = .returned (.bool lf) ∧ Kept y w' from fun y hy => by
          refine (dims_Leaf (HDW.out.kept hy) hd4 cm at_).mono ?_
          rintro e w' ⟨r, rfl, hr, hk⟩
          exact ⟨by rw [Bool.eq_iff_iff.2 (hr.trans hlf.symm)], hk⟩)
        have HL2 := hidMk (show ∀ y, Kept W5 y → Calls Try.prog 15 #[.pointer (some ⟨q, 0, none⟩), cellV cm at_] y fun e w' => e = .returned (.bool lf) ∧ Kept y w' from fun y hy => by
          refine (ref6_Leaf (HRW.out.kept hy) hd4 cm at_).mono ?_
          rintro e w' ⟨r, rfl, hr, hk⟩
          exact ⟨by rw [Bool.eq_iff_iff.2 (hr.trans hlf.symm)], hk⟩)
        obtain ⟨ri, hri⟩ : ∃ ri, rightB ms ds cm at_ = ri := ⟨_, rfl⟩
        rw [hri] at HS1 HS2 HR1 HR2
        generalize (if ri = true then joinB slash (showL ms ds cm at_ ds.length) else ⟨#[]⟩ : ByteArray) = sh at HS1 HS2
        rw [HCV.out] at HS1 HS2 HR1 HR2 HL1 HL2
        have HRI := hidMk hri
        have q1 : (e4 != e4) = false := by simp
        have q2 : (ri != ri) = false := by simp
        have q3 : (lf != lf) = false := by simp
        have qa := eq_arr i1 i2 i3 i4
        clear hlf hri
        go_region_held3 (fun w' => w'.cell? ⟨w4.heap.size, 0, none⟩ = some (.int .i64 i0) ∧ w'.cell? ⟨w4.heap.size, 1, none⟩ = some (.int .i64 i1) ∧ w'.cell? ⟨w4.heap.size, 2, none⟩ = some (.int .i64 i2) ∧ w'.cell? ⟨w4.heap.size, 3, none⟩ = some (.int .i64 i3) ∧ w'.cell? ⟨w4.heap.size, 4, none⟩ = some (.int .i64 i4) ∧ w'.cell? ⟨w5.heap.size, 0, none⟩ = some (.int .i64 i0) ∧ w'.cell? ⟨w5.heap.size, 1, none⟩ = some (.int .i64 i1) ∧ w'.cell? ⟨w5.heap.size, 2, none⟩ = some (.int .i64 i2) ∧ w'.cell? ⟨w5.heap.size, 3, none⟩ = some (.int .i64 i3) ∧ w'.cell? ⟨w5.heap.size, 4, none⟩ = some (.int .i64 i4) ∧ w'.cell? ⟨w.heap.size + 1, 0, none⟩ = some (.int .i64 cm) ∧ w'.cell? ⟨w.heap.size + 1, 1, none⟩ = some (.int .i64 a0) ∧ w'.cell? ⟨w.heap.size + 1, 2, none⟩ = some (.int .i64 a1) ∧ w'.cell? ⟨w.heap.size + 1, 3, none⟩ = some (.int .i64 a2) ∧ w'.cell? ⟨w.heap.size + 1, 4, none⟩ = some (.int .i64 a3)) (first | assumption | (refine ⟨Kept.cellp ?_ g0, Kept.cellp ?_ g1, Kept.cellp ?_ g2, Kept.cellp ?_ g3, Kept.cellp ?_ g4, Kept.cellp ?_ g5, Kept.cellp ?_ g6, Kept.cellp ?_ g7, Kept.cellp ?_ g8, Kept.cellp ?_ g9, Kept.cellp ?_ g10, Kept.cellp ?_ g11, Kept.cellp ?_ g12, Kept.cellp ?_ g13, Kept.cellp ?_ g14⟩ <;> (repeat (first | (with_reducible exact Kept.refl _) | (with_reducible refine Kept.alloc ?_ _) | (with_reducible refine Kept.drew ?_) | (with_reducible refine Kept.drewN ?_ _) | (with_reducible refine Kept.trans ?_ (by assumption))))) | go_keep)
          (first
            | (go_at_call 10; refine (HS1.out _ (by (repeat (first | (with_reducible exact Kept.refl _) | (with_reducible refine Kept.alloc ?_ _) | (with_reducible refine Kept.drew ?_) | (with_reducible refine Kept.drewN ?_ _) | (with_reducible refine Kept.trans ?_ (by assumption)))))).mono ?_; rintro e y5 ⟨rfl, k6⟩)
            | (go_at_call 11; refine (HS2.out _ (by (repeat (first | (with_reducible exact Kept.refl _) | (with_reducible refine Kept.alloc ?_ _) | (with_reducible refine Kept.drew ?_) | (with_reducible refine Kept.drewN ?_ _) | (with_reducible refine Kept.trans ?_ (by assumption)))))).mono ?_; rintro e y5 ⟨rfl, k6⟩)
            | (go_at_call 12; refine (HR1.out _ (by (repeat (first | (with_reducible exact Kept.refl _) | (with_reducible refine Kept.alloc ?_ _) | (with_reducible refine Kept.drew ?_) | (with_reducible refine Kept.drewN ?_ _) | (with_reducible refine Kept.trans ?_ (by assumption)))))).mono ?_; rintro e y5 ⟨rfl, k6⟩)
            | (go_at_call 13; refine (HR2.out _ (by (repeat (first | (with_reducible exact Kept.refl _) | (with_reducible refine Kept.alloc ?_ _) | (with_reducible refine Kept.drew ?_) | (with_reducible refine Kept.drewN ?_ _) | (with_reducible refine Kept.trans ?_ (by assumption)))))).mono ?_; rintro e y5 ⟨rfl, k6⟩)
            | (go_at_call 14; refine (HL1.out _ (by (repeat (first | (with_reducible exact Kept.refl _) | (with_reducible refine Kept.alloc ?_ _) | (with_reducible refine Kept.drew ?_) | (with_reducible refine Kept.drewN ?_ _) | (with_reducible refine Kept.trans ?_ (by assumption)))))).mono ?_; rintro e y5 ⟨rfl, k6⟩)
            | (go_at_call 15; refine (HL2.out _ (by (repeat (first | (with_reducible exact Kept.refl _) | (with_reducible refine Kept.alloc ?_ _) | (with_reducible refine Kept.drew ?_) | (with_reducible refine Kept.drewN ?_ _) | (with_reducible refine Kept.trans ?_ (by assumption)))))).mono ?_; rintro e y5 ⟨rfl, k6⟩))
        refine gen_world (f := fun W => Exit.then _ _ _ _ W) (fun W => Kept W5 W) (by (repeat (first | (with_reducible exact Kept.refl _) | (with_reducible refine Kept.alloc ?_ _) | (with_reducible refine Kept.drew ?_) | (with_reducible refine Kept.drewN ?_ _) | (with_reducible refine Kept.trans ?_ (by assumption))))) ?_
        clear g0 g1 g2 g3 g4 g5 g6 g7 g8 g9 z0 z1 z2 z3 z4 y2 y3 HS1 HS2 HR1 HL1 HL2 HN1 HN2
        rintro W6 k6
        have z0 := k6.cellp g10
        have z1 := k6.cellp g11
        have z2 := k6.cellp g12
        have z3 := k6.cellp g13
        have z4 := k6.cellp g14
        have u0 := k6.cellp (KW5.out.cellp (HKC.out.cellp y0))
        have u1 := k6.cellp (KW5.out.cellp (HKC.out.cellp y1))
        have HZ6 := hidMk (show ∀ k, k < 4 → W6.cell? ⟨w.heap.size + 1, 1 + k, none⟩ = some (.int .i64 (at_ k)) from fun k hk => k6.cellp (KW5.out.cellp (HKC.out.cellp (HZ.out k hk))))
        have HK6 := hidMk (HK5.out.trans (KW5.out.trans k6))
        have HD6 := hidMk (HDW.out.kept k6)
        have HR6 := hidMk (HR2.out W6 k6)
        have HMS := hidMk (HM.out.kept HK6.out)
        clear k6 g10 g11 g12 g13 g14 y0 y1 HZ HKC KW5 HK5 HDW HR2 HM
        go_wp2_with fail
        refine HR6.out.mono ?_
        rintro e W7 ⟨rfl, k7⟩
        have t0 := k7.cellp z0
        have t1 := k7.cellp z1
        have t2 := k7.cellp z2
        have t3 := k7.cellp z3
        have t4 := k7.cellp z4
        have v0 := k7.cellp u0
        have v1 := k7.cellp u1
        have HZ7 := hidMk (show ∀ k, k < 4 → W7.cell? ⟨w.heap.size + 1, 1 + k, none⟩ = some (.int .i64 (at_ k)) from fun k hk => k7.cellp (HZ6.out k hk))
        have HK7 := hidMk (HK6.out.trans k7)
        have HD7 := hidMk (HD6.out.kept k7)
        have HM7 := hidMk (HMS.out.kept k7)
        clear k7 z0 z1 z2 z3 z4 u0 u1 HZ6 HK6 HR6 HD6 HMS
        cases ri with
        | false =>
          go_wp2_with fail
          refine (HKN.out _).mono ?_
          rintro e w8 ⟨rfl, k8⟩
          have K8 := hidMk k8
          clear k8
          go_wp2_with fail
          go_ret
          exact ⟨rfl, HK7.out.trans K8.out⟩
        | true =>
          have hcm : 0 ≤ cm ∧ cm < ms.length := by
            have h := HRI.out
            simp only [rightB, placeB, Bool.and_eq_true, decide_eq_true_eq] at h
            omega
          obtain ⟨mi, hmi⟩ : ∃ mi : Nat, cm = mi := ⟨cm.toNat, by omega⟩
          have HSZ := hidMk (show w.heap.size + 1 < W7.heap.size from cell_lt t0)
          have HSL := hidMk (show ∀ k, ((List.range k).map (nmK ds at_)).length = k from fun k => by simp)
          go_wp2_with fail
          go_loopg [19, 20] n (fun g v x wr => ∃ k : Nat, k + g = n ∧ x = .int .i64 k ∧ Kept W7 wr ∧ Hid (OwnS wr W7.heap.size v ((List.range k).map (nmK ds at_))))
          case atStart => exact ⟨0, by omega, rfl, Kept.refl _, hidMk (World.ownsRow_nil _ _ _ _)⟩
          case round =>
            obtain ⟨k, hkg, rfl, hk, HO⟩ := hrel
            have HKG := hidMk hkg
            have HK := hidMk hk
            have s0 := hk.cellp v0
            by_cases hkn : k < n
            · have d3 := hk.cellp (HZ7.out k (by omega))
              have HD3 := hidMk d3
              have HTR := hidMk (show ∀ y, Kept wr y → Calls Try.prog 16 #[.pointer (some ⟨p, 0, none⟩), .int .i64 k] y fun e w' => e = .returned (.pointer (some ⟨tp k, 0, none⟩)) ∧ Kept y w' from fun y hy => by
                refine (dims_Tree (HD7.out.kept (hk.trans hy)) hd4 k).mono ?_
                rintro e w' ⟨rfl, rfl⟩
                refine ⟨?_, Kept.refl _⟩
                unfold treeP
                rw [if_pos (by omega), Int.toNat_natCast])
              have HNM := hidMk (show ∀ y, Kept wr y → Calls Try.prog 17 #[.pointer (some ⟨tp k, 0, none⟩), .int .i64 (at_ k)] y fun e w' => e = .returned (.string (nmK ds at_ k)) ∧ Kept y w' from fun y hy => by
                obtain ⟨lo, hi, h1, _⟩ := (HD7.out.kept (hk.trans hy)).tr k (by omega)
                refine (w_Name h1.whole (at_ k)).mono ?_
                rintro e w' ⟨rfl, rfl⟩
                exact ⟨rfl, Kept.refl _⟩)
              obtain ⟨na', nc, rfl, _, _⟩ := own_ss (by rw [HSL.out]; unfold maxLen; omega) HO.out
              have kn' : (k : Int) < n := by omega
              have k4' : (k : Int) < 4 := by omega
              have HSZ2 := hidMk hk.size
              clear hk hkg
              generalize at_ k = x at *
              generalize tp k = q at *
              generalize hnk : nmK ds at_ k = nk at *
              have HNK := hidMk hnk
              clear hnk
              obtain ⟨LL, hLL⟩ : ∃ LL, (List.range k).map (nmK ds at_) = LL := ⟨_, rfl⟩
              have HS2 := hidMk (show (List.range (k + 1)).map (nmK ds at_) = LL ++ [nk] by rw [List.range_succ, List.map_append, hLL, List.map_cons, List.map_nil, HNK.out])
              have HLn := hidMk (show LL.length = k by rw [← hLL]; exact HSL.out k)
              rw [hLL] at HO
              rw [hLL]
              clear hLL
              have HLT := hidMk HO.out.lt
              go_wp2_with fail
              go_region_held3 (fun w' => w'.cell? ⟨w.heap.size + 1, 1 + k, none⟩ = some (.int .i64 x)) (first | assumption | (refine Kept.cellp ?_ d3; (repeat (first | (with_reducible exact Kept.refl _) | (with_reducible refine Kept.alloc ?_ _) | (with_reducible refine Kept.drew ?_) | (with_reducible refine Kept.drewN ?_ _) | (with_reducible refine Kept.trans ?_ (by assumption))))) | go_keep)
                (first
                  | (go_at_call 16; refine (HTR.out _ (by (repeat (first | (with_reducible exact Kept.refl _) | (with_reducible refine Kept.alloc ?_ _) | (with_reducible refine Kept.drew ?_) | (with_reducible refine Kept.drewN ?_ _) | (with_reducible refine Kept.trans ?_ (by assumption)))))).mono ?_; rintro e w8 ⟨rfl, k8⟩)
                  | (go_at_call 17; refine (HNM.out _ (by (repeat (first | (with_reducible exact Kept.refl _) | (with_reducible refine Kept.alloc ?_ _) | (with_reducible refine Kept.drew ?_) | (with_reducible refine Kept.drewN ?_ _) | (with_reducible refine Kept.trans ?_ (by assumption)))))).mono ?_; rintro e w9 ⟨rfl, k9⟩; have K9 := hidMk (show Kept wr w9 by (repeat (first | (with_reducible exact Kept.refl _) | (with_reducible refine Kept.alloc ?_ _) | (with_reducible refine Kept.drew ?_) | (with_reducible refine Kept.drewN ?_ _) | (with_reducible refine Kept.trans ?_ (by assumption))))))
                  | (refine step_pushS _ (by rfl) _ _ (by rfl) W7.heap.size (.slice na' LL.length nc) LL (by rfl) (HO.out.kept (K9.out.alloc _)) (by have h1 := HSZ2.out; have h2 := (K9.out.alloc (.cells #[.string nk] 9)).size; omega) w9.heap.size nk (by rfl) (by simp) (by rw [HLn.out]; omega) (w9.heap.size + 1) (by simp) ?_; intro g6 cap6 w6 o6 c6 a6 l6; have m3 := (c6.cell (p := ⟨w.heap.size + 1, 1 + k, none⟩) (cell_lt ((K9.out.alloc _).cellp d3)) (fun e => by have h1 := HLT.out _ e; have h2 := HSZ.out; simp only at h1; omega)).trans ((K9.out.alloc _).cellp d3); have O6 := hidMk o6; have C6 := hidMk c6; clear o6 c6 a6 l6))
              have HKK := hidMk (Chg.kept (HK.out.trans (K9.out.alloc _)) C6.out (fun j e => (HLT.out j e).1))
              clear m3
              go_wp2_with fail
              go_roundg (gk - 1)
              case measure => have := HKG.out; omega
              case rel => exact ⟨k + 1, by have := HKG.out; omega, by go_num, HKK.out, hidMk (by rw [HS2.out]; exact O6.out)⟩
            · have e : k = n := by omega
              subst e
              obtain ⟨na', nc, rfl, hns, _⟩ := own_ss (by rw [HSL.out]; unfold maxLen; omega) HO.out
              rw [HSL.out] at hns
              rw [HSL.out]
              have hns' : Ss wr na' k ((List.range ds.length).map (nmK ds at_)) := by rw [hln]; exact hns
              obtain ⟨mb, mo, rfl, _, hmc⟩ := (HM7.out.kept hk).cells (by omega)
              have hmv : wr.cell? ⟨mb, mo + mi, none⟩ = some (.string (msA ms mi)) := hmc mi (by omega)
              have HCE := hidMk (dims_Cell (HD7.out.kept hk) hd4 (msA ms mi) na' k nc _ hns' (fun i hi => by
                have hi' : i < ds.length := by simpa using hi
                have e : msA ((List.range ds.length).map (nmK ds at_)) i = nmK ds at_ i := by
                  unfold msA
                  rw [List.getD_eq_getElem?_getD, List.getElem?_map, List.getElem?_range hi']
                  rfl
                rw [e]
                have := HOK.out.nmk at_ i hi'
                unfold maxLen
                omega))
              have HBK := hidMk (show ∀ r er, CellIs ms ds (msA ms mi) ((List.range ds.length).map (nmK ds at_)) r er → r = cellV cm at_ ∧ er = 0 from fun r er h => cell_back HOK.out HRI.out (by rw [hmi, Int.toNat_natCast]; exact h))
              have s1 := hk.cellp v1
              have p0 := hk.cellp t0
              have p1 := hk.cellp t1
              have p2 := hk.cellp t2
              have p3 := hk.cellp t3
              have p4 := hk.cellp t4
              subst hmi
              have mi' : (mi : Int) < m := by omega
              have kk' : ¬ ((k : Int) < (k : Int)) := by omega
              have qa := eq_arr a0 a1 a2 a3
              clear hns hns' hmc hk hkg HO
              generalize msA ms mi = mn at *
              go_wp2_with fail
              refine HCE.out.mono ?_
              rintro e w8 ⟨r8, e8, rfl, hi8, k8⟩
              obtain ⟨rfl, rfl⟩ := HBK.out _ _ hi8
              rw [HCV.out]
              have K8 := hidMk (HK.out.trans k8)
              have o0 := k8.cellp p0
              have o1 := k8.cellp p1
              have o2 := k8.cellp p2
              have o3 := k8.cellp p3
              have o4 := k8.cellp p4
              have l0 := fun o => ((Kept.refl w8).alloc o).cellp o0
              have l1 := fun o => ((Kept.refl w8).alloc o).cellp o1
              have l2 := fun o => ((Kept.refl w8).alloc o).cellp o2
              have l3 := fun o => ((Kept.refl w8).alloc o).cellp o3
              have l4 := fun o => ((Kept.refl w8).alloc o).cellp o4
              clear k8 hi8
              go_wp2_with fail
              refine (HKN.out _).mono ?_
              rintro e w9 ⟨rfl, k9⟩
              have K9 := hidMk (((Kept.refl w8).alloc _).trans k9)
              clear k9
              go_wp2_with fail
              go_ret
              exact ⟨rfl, HK7.out.trans (K8.out.trans K9.out)⟩
      · exact absurd (cat_one HC1.out hc2).2.symm her2
    · have HK2 := hidMk (HK1.out.trans k2)
      have HC1 := hidMk hc1
      have u0 := k2.cellp y0
      have u1 := k2.cellp y1
      have u2 := k2.cellp y2
      have u3 := k2.cellp y3
      have HER := hidMk her1
      clear k2 hc1 her1
      go_wp2_with fail
      refine (HN2.out _ HK2.out).mono ?_
      rintro e w3 (⟨q, rt, rfl, hc2, hR, k3⟩ | ⟨at2, er2, rfl, her2, hc2, k3⟩)
      · exact absurd (cat_one HC1.out hc2).2 HER.out
      · obtain ⟨_, rfl⟩ := cat_one HC1.out hc2
        have HK3 := hidMk (HK2.out.trans k3)
        have e1 : (er1 != er1) = false := by simp
        have e2 : (er1 != 0) = true := by simpa using her2
        clear k3 hc2 her2
        go_wp2_with fail
        refine (HKN.out _).mono ?_
        rintro e w4 ⟨rfl, k4⟩
        have K4 := hidMk k4
        clear k4
        go_wp2_with fail
        go_ret
        exact ⟨rfl, HK3.out.trans K4.out⟩
end Go.Proofs.Ytinbgcalgocfoaa
