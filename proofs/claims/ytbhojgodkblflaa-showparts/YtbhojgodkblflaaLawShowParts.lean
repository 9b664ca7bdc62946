/- ShowParts. -/
import Derived.Test.YtbhojgodkblflaaShA
import Derived.Test.YtbhojgodkblflaaSh4
import Derived.Test.YtbhojgodkblflaaSh3
import Derived.Deep.RegionHeld3
import Derived.Deep.DeepMust
namespace Go.Proofs.Ytbhojgodkblflaa
open Go.RowKit Go.Maps
set_option linter.unusedSimpArgs false
set_option linter.unusedVariables false

set_option maxHeartbeats 8000000 in
set_option maxRecDepth 100000 in
theorem law_ShowParts (ca : Option Addr) (n c : Nat) (ds : List Dm) (na : Nat → Option Addr × Nat × Nat) (ba : Option Addr) (m d : Nat) (ms : List ByteArray) (lv sc kind c0 c1 c2 c3 c4 a b cc : Int) (h : Bool) (us : ByteArray) (w : World) (hs : Dss w ca n ds na) (hm : Ss w ba m ms) (hmz : ∀ i, i < ms.length → (msA ms i).size ≤ maxLen) (hk : isI kind) (hc0 : isI c0) (ha : isI a) (hb : isI b) (hcc : isI cc) :
    Calls Try.prog 3 #[.agg #[.slice ca n c, .slice ba m d, .int .i64 lv, .int .i64 sc], .int .i64 kind, .agg #[.int .i64 c0, .int .i64 c1, .int .i64 c2, .int .i64 c3, .int .i64 c4, .int .i64 a, .int .i64 b, .int .i64 cc, .bool h], .string us] w fun e w' => e = .returned (.bool true) ∧ Kept w w' := by
  have HKN := hidMk law30_known
  have HOP := hidMk (show ∀ y, Kept w y → _ from fun y hy => law30_open ca n c ds na ba m d ms lv sc y (hs.kept hy) (hm.kept hy) hmz)
  have HI := hidMk (show isI kind ∧ isI c0 ∧ isI a ∧ isI b ∧ isI cc from ⟨hk, hc0, ha, hb, hcc⟩)
  clear hs hm hmz hk hc0 ha hb hcc
  go_enter Try.func3, Try.ntmps3
  go_wp2_with fail
  refine (HOP.out _ (((Kept.refl w).alloc _).alloc _)).mono ?_
  rintro e w1 ⟨⟨rfl, hns⟩ | ⟨pd, pq, at_, er, rfl, hc, hp, hq, hf⟩, k1⟩
  · have K1 := hidMk (show Kept w w1 from (((Kept.refl w).alloc _).alloc _).trans k1)
    clear k1 hns
    go_wp2_with fail
    refine (HKN.out _).mono ?_
    rintro e w2 ⟨rfl, k2⟩
    have K2 := hidMk k2
    clear k2
    go_wp2_with fail
    go_ret
    exact ⟨rfl, K1.out.trans K2.out⟩
  have z0 : w1.cell? ⟨w.heap.size + 1, 0, none⟩ = some (.int .i64 c0) := k1.cellp (new_cell _ _ _ _ _ _ (by simp) rfl)
  have z1 : w1.cell? ⟨w.heap.size + 1, 1, none⟩ = some (.int .i64 c1) := k1.cellp (new_cell _ _ _ _ _ _ (by simp) rfl)
  have z2 : w1.cell? ⟨w.heap.size + 1, 2, none⟩ = some (.int .i64 c2) := k1.cellp (new_cell _ _ _ _ _ _ (by simp) rfl)
  have z3 : w1.cell? ⟨w.heap.size + 1, 3, none⟩ = some (.int .i64 c3) := k1.cellp (new_cell _ _ _ _ _ _ (by simp) rfl)
  have z4 : w1.cell? ⟨w.heap.size + 1, 4, none⟩ = some (.int .i64 c4) := k1.cellp (new_cell _ _ _ _ _ _ (by simp) rfl)
  have z5 : w1.cell? ⟨w.heap.size + 1, 5, none⟩ = some (.int .i64 a) := k1.cellp (new_cell _ _ _ _ _ _ (by simp) rfl)
  have z6 : w1.cell? ⟨w.heap.size + 1, 6, none⟩ = some (.int .i64 b) := k1.cellp (new_cell _ _ _ _ _ _ (by simp) rfl)
  have z7 : w1.cell? ⟨w.heap.size + 1, 7, none⟩ = some (.int .i64 cc) := k1.cellp (new_cell _ _ _ _ _ _ (by simp) rfl)
  have z8 : w1.cell? ⟨w.heap.size + 1, 8, none⟩ = some (.bool h) := k1.cellp (new_cell _ _ _ _ _ _ (by simp) rfl)
  have K1 := hidMk (show Kept w w1 from (((Kept.refl w).alloc _).alloc _).trans k1)
  clear k1 HOP hc
  by_cases hu : 1000 < us.size
  · have hu' : (1000 : Int) < (us.size : Int) := by omega
    clear hp hq hf
    go_wp2_with fail
    refine (HKN.out _).mono ?_
    rintro e w2 ⟨rfl, k2⟩
    have K2 := hidMk k2
    clear k2
    go_wp2_with fail
    go_ret
    exact ⟨rfl, K1.out.trans K2.out⟩
  · have hu' : ¬ ((1000 : Int) < (us.size : Int)) := by omega
    have hu2 : us.size ≤ 1000 := by omega
    generalize fC er ms ds = f at *
    have HF0 := hidMk (hf c0 c1 c2 c3 c4)
    have HR1 := hidMk (show ∀ y, Kept w1 y → _ from fun y hy => show_Row (.pointer pd) kind c0 c1 c2 c3 c4 a b f y (hp.kept hy) HF0.out HI.out.2.2.1 HI.out.2.2.2.1)
    have HR2 := hidMk (show ∀ y, Kept w1 y → _ from fun y hy => ref_Row (.pointer pq) kind c0 c1 c2 c3 c4 a b f y (hq.kept hy) HF0.out HI.out.2.2.1 HI.out.2.2.2.1)
    have HL1 := hidMk (show ∀ y, Kept w1 y → _ from fun y hy => show_Lock (.pointer pd) c0 c1 c2 c3 c4 us f y (hp.kept hy) HF0.out (by omega))
    have HL2 := hidMk (show ∀ y, Kept w1 y → _ from fun y hy => ref_Lock (.pointer pq) c0 c1 c2 c3 c4 us f y (hq.kept hy) HF0.out (by omega))
    have HC1 := hidMk (show ∀ y, Kept w1 y → _ from fun y hy => show_Clash (.pointer pd) c0 c1 c2 c3 c4 a b cc h f y (hp.kept hy) HF0.out HI.out.2.2.1 HI.out.2.2.2.1 HI.out.2.2.2.2)
    have HC2 := hidMk (show ∀ y, Kept w1 y → _ from fun y hy => ref_Clash (.pointer pq) c0 c1 c2 c3 c4 a b cc h f y (hq.kept hy) HF0.out HI.out.2.2.1 HI.out.2.2.2.1 HI.out.2.2.2.2)
    have HW1 := hidMk (show ∀ y, _ from fun y => show_Wrong kind c0 y HI.out.1 HI.out.2.1)
    have HW2 := hidMk (show ∀ y, _ from fun y => ref_Wrong kind c0 y HI.out.1 HI.out.2.1)
    have HB := hidMk (show w.heap.size + 1 < w1.heap.size from cell_lt z0)
    clear hp hq hf hu hu2
    generalize rowB kind (f c0 c1 c2 c3 c4) a b = r1 at *
    generalize lockB (f c0 c1 c2 c3 c4) us = r2 at *
    generalize clashB (f c0 c1 c2 c3 c4) a b cc h = r3 at *
    generalize wrongB kind c0 = r4 at *
    have q1 : (r1.toList == r1.toList) = true := by simp
    have q2 : (r2.toList == r2.toList) = true := by simp
    have q3 : (r3.toList == r3.toList) = true := by simp
    have q4 : (r4.toList == r4.toList) = true := by simp
    have zz0 := fun o => ((Kept.refl w1).alloc o).cellp z0
    have zz1 := fun o => ((Kept.refl w1).alloc o).cellp z1
    have zz2 := fun o => ((Kept.refl w1).alloc o).cellp z2
    have zz3 := fun o => ((Kept.refl w1).alloc o).cellp z3
    have zz4 := fun o => ((Kept.refl w1).alloc o).cellp z4
    go_wp2_with fail
    generalize hW : ((w1.alloc _).alloc _) = W
    clear zz0 zz1 zz2 zz3 zz4
    have x0 : W.cell? ⟨w.heap.size + 1, 0, none⟩ = some (.int .i64 c0) := by rw [← hW]; exact (((Kept.refl w1).alloc _).alloc _).cellp z0
    have x1 : W.cell? ⟨w.heap.size + 1, 1, none⟩ = some (.int .i64 c1) := by rw [← hW]; exact (((Kept.refl w1).alloc _).alloc _).cellp z1
    have x2 : W.cell? ⟨w.heap.size + 1, 2, none⟩ = some (.int .i64 c2) := by rw [← hW]; exact (((Kept.refl w1).alloc _).alloc _).cellp z2
    have x3 : W.cell? ⟨w.heap.size + 1, 3, none⟩ = some (.int .i64 c3) := by rw [← hW]; exact (((Kept.refl w1).alloc _).alloc _).cellp z3
    have x4 : W.cell? ⟨w.heap.size + 1, 4, none⟩ = some (.int .i64 c4) := by rw [← hW]; exact (((Kept.refl w1).alloc _).alloc _).cellp z4
    have x5 : W.cell? ⟨w.heap.size + 1, 5, none⟩ = some (.int .i64 a) := by rw [← hW]; exact (((Kept.refl w1).alloc _).alloc _).cellp z5
    have x6 : W.cell? ⟨w.heap.size + 1, 6, none⟩ = some (.int .i64 b) := by rw [← hW]; exact (((Kept.refl w1).alloc _).alloc _).cellp z6
    have x7 : W.cell? ⟨w.heap.size + 1, 7, none⟩ = some (.int .i64 cc) := by rw [← hW]; exact (((Kept.refl w1).alloc _).alloc _).cellp z7
    have x8 : W.cell? ⟨w.heap.size + 1, 8, none⟩ = some (.bool h) := by rw [← hW]; exact (((Kept.refl w1).alloc _).alloc _).cellp z8
    have yy0 : W.cell? ⟨w1.heap.size, 0, none⟩ = some (.int .i64 c0) := by rw [← hW]; exact ((Kept.refl _).alloc _).cellp (new_cell _ _ _ _ _ _ rfl rfl)
    have yy1 : W.cell? ⟨w1.heap.size, 1, none⟩ = some (.int .i64 c1) := by rw [← hW]; exact ((Kept.refl _).alloc _).cellp (new_cell _ _ _ _ _ _ rfl rfl)
    have yy2 : W.cell? ⟨w1.heap.size, 2, none⟩ = some (.int .i64 c2) := by rw [← hW]; exact ((Kept.refl _).alloc _).cellp (new_cell _ _ _ _ _ _ rfl rfl)
    have yy3 : W.cell? ⟨w1.heap.size, 3, none⟩ = some (.int .i64 c3) := by rw [← hW]; exact ((Kept.refl _).alloc _).cellp (new_cell _ _ _ _ _ _ rfl rfl)
    have yy4 : W.cell? ⟨w1.heap.size, 4, none⟩ = some (.int .i64 c4) := by rw [← hW]; exact ((Kept.refl _).alloc _).cellp (new_cell _ _ _ _ _ _ rfl rfl)
    have yy5 : W.cell? ⟨w1.heap.size, 5, none⟩ = some (.int .i64 a) := by rw [← hW]; exact ((Kept.refl _).alloc _).cellp (new_cell _ _ _ _ _ _ rfl rfl)
    have yy6 : W.cell? ⟨w1.heap.size, 6, none⟩ = some (.int .i64 b) := by rw [← hW]; exact ((Kept.refl _).alloc _).cellp (new_cell _ _ _ _ _ _ rfl rfl)
    have ll0 : W.cell? ⟨w1.heap.size + 1, 0, none⟩ = some (.int .i64 c0) := by rw [← hW]; exact new_cell _ _ _ _ _ _ (by simp) rfl
    have ll1 : W.cell? ⟨w1.heap.size + 1, 1, none⟩ = some (.int .i64 c1) := by rw [← hW]; exact new_cell _ _ _ _ _ _ (by simp) rfl
    have ll2 : W.cell? ⟨w1.heap.size + 1, 2, none⟩ = some (.int .i64 c2) := by rw [← hW]; exact new_cell _ _ _ _ _ _ (by simp) rfl
    have ll3 : W.cell? ⟨w1.heap.size + 1, 3, none⟩ = some (.int .i64 c3) := by rw [← hW]; exact new_cell _ _ _ _ _ _ (by simp) rfl
    have ll4 : W.cell? ⟨w1.heap.size + 1, 4, none⟩ = some (.int .i64 c4) := by rw [← hW]; exact new_cell _ _ _ _ _ _ (by simp) rfl
    have ll5 : W.cell? ⟨w1.heap.size + 1, 5, none⟩ = some (.string us) := by rw [← hW]; exact new_cell _ _ _ _ _ _ (by simp) rfl
    have KW := hidMk (show Kept w1 W by rw [← hW]; exact ((Kept.refl w1).alloc _).alloc _)
    have HR1' := hidMk (fun y (hy : Kept W y) => HR1.out y (KW.out.trans hy))
    have HR2' := hidMk (fun y (hy : Kept W y) => HR2.out y (KW.out.trans hy))
    have HL1' := hidMk (fun y (hy : Kept W y) => HL1.out y (KW.out.trans hy))
    have HL2' := hidMk (fun y (hy : Kept W y) => HL2.out y (KW.out.trans hy))
    have HC1' := hidMk (fun y (hy : Kept W y) => HC1.out y (KW.out.trans hy))
    have HC2' := hidMk (fun y (hy : Kept W y) => HC2.out y (KW.out.trans hy))
    clear hW HR1 HR2 HL1 HL2 HC1 HC2 z0 z1 z2 z3 z4 z5 z6 z7 z8
    go_region_held3 (fun w' => w'.cell? ⟨w.heap.size + 1, 0, none⟩ = some (.int .i64 c0) ∧ w'.cell? ⟨w.heap.size + 1, 1, none⟩ = some (.int .i64 c1) ∧ w'.cell? ⟨w.heap.size + 1, 2, none⟩ = some (.int .i64 c2) ∧ w'.cell? ⟨w.heap.size + 1, 3, none⟩ = some (.int .i64 c3) ∧ w'.cell? ⟨w.heap.size + 1, 4, none⟩ = some (.int .i64 c4) ∧ w'.cell? ⟨w.heap.size + 1, 5, none⟩ = some (.int .i64 a) ∧ w'.cell? ⟨w.heap.size + 1, 6, none⟩ = some (.int .i64 b) ∧ w'.cell? ⟨w.heap.size + 1, 7, none⟩ = some (.int .i64 cc) ∧ w'.cell? ⟨w.heap.size + 1, 8, none⟩ = some (.bool h) ∧ w'.cell? ⟨w1.heap.size, 0, none⟩ = some (.int .i64 c0) ∧ w'.cell? ⟨w1.heap.size, 1, none⟩ = some (.int .i64 c1) ∧ w'.cell? ⟨w1.heap.size, 2, none⟩ = some (.int .i64 c2) ∧ w'.cell? ⟨w1.heap.size, 3, none⟩ = some (.int .i64 c3) ∧ w'.cell? ⟨w1.heap.size, 4, none⟩ = some (.int .i64 c4) ∧ w'.cell? ⟨w1.heap.size, 5, none⟩ = some (.int .i64 a) ∧ w'.cell? ⟨w1.heap.size, 6, none⟩ = some (.int .i64 b) ∧ w'.cell? ⟨w1.heap.size + 1, 0, none⟩ = some (.int .i64 c0) ∧ w'.cell? ⟨w1.heap.size + 1, 1, none⟩ = some (.int .i64 c1) ∧ w'.cell? ⟨w1.heap.size + 1, 2, none⟩ = some (.int .i64 c2) ∧ w'.cell? ⟨w1.heap.size + 1, 3, none⟩ = some (.int .i64 c3) ∧ w'.cell? ⟨w1.heap.size + 1, 4, none⟩ = some (.int .i64 c4) ∧ w'.cell? ⟨w1.heap.size + 1, 5, none⟩ = some (.string us)) (first | (refine ⟨?_, ?_, ?_, ?_, ?_, ?_, ?_, ?_, ?_, ?_, ?_, ?_, ?_, ?_, ?_, ?_, ?_, ?_, ?_, ?_, ?_, ?_⟩ <;> assumption) | (refine ⟨Kept.cellp ?_ x0, Kept.cellp ?_ x1, Kept.cellp ?_ x2, Kept.cellp ?_ x3, Kept.cellp ?_ x4, Kept.cellp ?_ x5, Kept.cellp ?_ x6, Kept.cellp ?_ x7, Kept.cellp ?_ x8, Kept.cellp ?_ yy0, Kept.cellp ?_ yy1, Kept.cellp ?_ yy2, Kept.cellp ?_ yy3, Kept.cellp ?_ yy4, Kept.cellp ?_ yy5, Kept.cellp ?_ yy6, Kept.cellp ?_ ll0, Kept.cellp ?_ ll1, Kept.cellp ?_ ll2, Kept.cellp ?_ ll3, Kept.cellp ?_ ll4, Kept.cellp ?_ ll5⟩ <;> (repeat (first | (with_reducible exact Kept.refl _) | (with_reducible refine Kept.alloc ?_ _) | (with_reducible refine Kept.drew ?_) | (with_reducible refine Kept.drewN ?_ _) | (with_reducible refine Kept.trans ?_ (by assumption))))) | go_keep)
      (first
        | (go_at_call 7; refine (HR1'.out _ (by (repeat (first | (with_reducible exact Kept.refl _) | (with_reducible refine Kept.alloc ?_ _) | (with_reducible refine Kept.drew ?_) | (with_reducible refine Kept.drewN ?_ _) | (with_reducible refine Kept.trans ?_ (by assumption)))))).mono ?_; rintro e y1 ⟨rfl, k1⟩)
        | (go_at_call 8; refine (HR2'.out _ (by (repeat (first | (with_reducible exact Kept.refl _) | (with_reducible refine Kept.alloc ?_ _) | (with_reducible refine Kept.drew ?_) | (with_reducible refine Kept.drewN ?_ _) | (with_reducible refine Kept.trans ?_ (by assumption)))))).mono ?_; rintro e y2 ⟨rfl, k2⟩)
        | (go_at_call 9; refine (HL1'.out _ (by (repeat (first | (with_reducible exact Kept.refl _) | (with_reducible refine Kept.alloc ?_ _) | (with_reducible refine Kept.drew ?_) | (with_reducible refine Kept.drewN ?_ _) | (with_reducible refine Kept.trans ?_ (by assumption)))))).mono ?_; rintro e y3 ⟨rfl, k3⟩)
        | (go_at_call 10; refine (HL2'.out _ (by (repeat (first | (with_reducible exact Kept.refl _) | (with_reducible refine Kept.alloc ?_ _) | (with_reducible refine Kept.drew ?_) | (with_reducible refine Kept.drewN ?_ _) | (with_reducible refine Kept.trans ?_ (by assumption)))))).mono ?_; rintro e y4 ⟨rfl, k4⟩)
        | (go_at_call 11; refine (HC1'.out _ (by (repeat (first | (with_reducible exact Kept.refl _) | (with_reducible refine Kept.alloc ?_ _) | (with_reducible refine Kept.drew ?_) | (with_reducible refine Kept.drewN ?_ _) | (with_reducible refine Kept.trans ?_ (by assumption)))))).mono ?_; rintro e y5 ⟨rfl, k5⟩)
        | (go_at_call 12; refine (HC2'.out _ (by (repeat (first | (with_reducible exact Kept.refl _) | (with_reducible refine Kept.alloc ?_ _) | (with_reducible refine Kept.drew ?_) | (with_reducible refine Kept.drewN ?_ _) | (with_reducible refine Kept.trans ?_ (by assumption)))))).mono ?_; rintro e y6 ⟨rfl, k6⟩)
        | (go_at_call 13; refine (HW1.out _).mono ?_; rintro e y7 ⟨rfl, k7⟩)
        | (go_at_call 14; refine (HW2.out _).mono ?_; rintro e y8 ⟨rfl, rfl⟩)
        | (go_at_call 6; refine (HKN.out _).mono ?_; rintro e y9 ⟨rfl, k9⟩))
    go_wp2_with fail
    go_ret
    exact ⟨rfl, K1.out.trans (KW.out.trans (by (repeat (first | (with_reducible exact Kept.refl _) | (with_reducible refine Kept.alloc ?_ _) | (with_reducible refine Kept.drew ?_) | (with_reducible refine Kept.drewN ?_ _) | (with_reducible refine Kept.trans ?_ (by assumption))))))⟩
end Go.Proofs.Ytbhojgodkblflaa
