/- CoordNil. -/
import Derived.Test.YtmmdfpafkmhgcaaGreatCoFr
namespace Go.Proofs.YtmmdfpafkmhgcaaGreat
open Go.RowKit Go.Maps
set_option linter.unusedSimpArgs false
set_option linter.unusedVariables false

set_option maxHeartbeats 8000000 in
set_option maxRecDepth 100000 in
theorem law_CoordNil (cm : Int) (at_ : Nat → Int) (n : Int) (w : World) : Calls Tryz.prog 7 #[cellV cm at_, .int .i64 n] w fun e w' => e = .returned (.bool true) ∧ Kept w w' := by
  obtain ⟨cb, hcb⟩ : ∃ x, x = w.heap.size := ⟨_, rfl⟩
  obtain ⟨W1, hW1⟩ : ∃ X, X = w.alloc (.cells #[.int .i64 cm, .int .i64 (at_ 0), .int .i64 (at_ 1), .int .i64 (at_ 2), .int .i64 (at_ 3)] 28) := ⟨_, rfl⟩
  have HK0 := hidMk (show Kept w W1 from by rw [hW1]; exact (Kept.refl w).alloc _)
  have HCC := hidMk (show ∀ X, Kept W1 X → X.cell? ⟨cb, 0, none⟩ = some (.int .i64 cm) ∧ X.cell? ⟨cb, 1, none⟩ = some (.int .i64 (at_ 0)) ∧ X.cell? ⟨cb, 2, none⟩ = some (.int .i64 (at_ 1)) ∧ X.cell? ⟨cb, 3, none⟩ = some (.int .i64 (at_ 2)) ∧ X.cell? ⟨cb, 4, none⟩ = some (.int .i64 (at_ 3)) from fun X kX => by
    have h0 : W1.cell? ⟨cb, 0, none⟩ = some (.int .i64 cm) := by rw [hW1]; exact new_cell _ _ _ _ 0 _ hcb rfl
    have h1 : W1.cell? ⟨cb, 1, none⟩ = some (.int .i64 (at_ 0)) := by rw [hW1]; exact new_cell _ _ _ _ 1 _ hcb rfl
    have h2 : W1.cell? ⟨cb, 2, none⟩ = some (.int .i64 (at_ 1)) := by rw [hW1]; exact new_cell _ _ _ _ 2 _ hcb rfl
    have h3 : W1.cell? ⟨cb, 3, none⟩ = some (.int .i64 (at_ 2)) := by rw [hW1]; exact new_cell _ _ _ _ 3 _ hcb rfl
    have h4 : W1.cell? ⟨cb, 4, none⟩ = some (.int .i64 (at_ 3)) := by rw [hW1]; exact new_cell _ _ _ _ 4 _ hcb rfl
    exact ⟨kX.cellp h0, kX.cellp h1, kX.cellp h2, kX.cellp h3, kX.cellp h4⟩)
  have HCO := hidMk (fun w => n_Code cm at_ w)
  have HIX := hidMk (fun w => n_Index cm at_ w)
  have HUN := hidMk (fun w => n_Under cm at_ w)
  have HIN := hidMk (fun w => n_Inside cm at_ n w)
  have HWI := hidMk (fun w => n_Within cm at_ cm at_ w)
  unfold cellV at *
  generalize at_ 0 = a0 at *
  generalize at_ 1 = a1 at *
  generalize at_ 2 = a2 at *
  generalize at_ 3 = a3 at *
  go_enter Tryz.func7, Tryz.ntmps7
  go_wp2_with fail
  rw [← hW1, ← hcb]
  clear hW1 hcb
  refine (n_New _).mono ?_
  rintro e wq ⟨rfl, hwq⟩
  rw [hwq]
  clear hwq wq
  go_wp2_with fail
  refine (n_Leaf n _).mono ?_
  rintro e w1 ⟨rfl, k1⟩
  have HK1 := hidMk ((Kept.refl W1).trans k1)
  clear k1
  go_wp2_with fail
  refine (n_Cell n _).mono ?_
  rintro e w2 ⟨rfl, k2⟩
  have HK2 := hidMk ((HK1.out.alloc _).trans k2)
  clear k2
  obtain ⟨V, hV⟩ : ∃ X, X = w2.alloc (.cells #[.int .i64 0, .int .i64 0, .int .i64 0, .int .i64 0, .int .i64 0] 28) := ⟨_, rfl⟩
  have HKV := hidMk (show Kept W1 V from by rw [hV]; exact HK2.out.alloc _)
  go_wp2_with fail
  rw [← hV]
  clear hV
  refine (n_Dims _).mono ?_
  rintro e wq ⟨rfl, hwq⟩
  rw [hwq]
  clear hwq wq
  go_wp2_with fail
  refine (n_Leaves _).mono ?_
  rintro e wq ⟨rfl, hwq⟩
  rw [hwq]
  clear hwq wq
  go_wp2_with fail
  obtain ⟨c0, c1, c2, c3, c4⟩ := HCC.out V HKV.out
  refine (n_Cells _).mono ?_
  rintro e wq ⟨rfl, hwq⟩
  rw [hwq]
  clear hwq wq
  go_wp2_with fail
  refine (HCO.out _).mono ?_
  rintro e w3 ⟨rfl, k3⟩
  have HK3 := hidMk (HKV.out.trans k3)
  clear k3
  obtain ⟨c0, c1, c2, c3, c4⟩ := HCC.out w3 HK3.out
  go_wp2_with fail
  refine (HIX.out _).mono ?_
  rintro e w4 ⟨rfl, k4⟩
  have HK4 := hidMk (HK3.out.trans k4)
  clear k4
  obtain ⟨c0, c1, c2, c3, c4⟩ := HCC.out w4 HK4.out
  go_wp2_with fail
  refine (HUN.out _).mono ?_
  rintro e w5 ⟨rfl, k5⟩
  have HK5 := hidMk (HK4.out.trans k5)
  clear k5
  obtain ⟨c0, c1, c2, c3, c4⟩ := HCC.out w5 HK5.out
  go_wp2_with fail
  refine (HIN.out _).mono ?_
  rintro e w6 ⟨rfl, k6⟩
  have HK6 := hidMk (HK5.out.trans k6)
  clear k6
  obtain ⟨c0, c1, c2, c3, c4⟩ := HCC.out w6 HK6.out
  go_wp2_with fail
  refine (HWI.out _).mono ?_
  rintro e w7 ⟨rfl, k7⟩
  have HK7 := hidMk (HK6.out.trans k7)
  clear k7
  go_wp2_with fail
  refine (n_Over n _).mono ?_
  rintro e w8 ⟨rfl, k8⟩
  have HK8 := hidMk (HK7.out.trans k8)
  clear k8
  go_wp2_with fail
  refine (n_Swap n 0 _).mono ?_
  rintro e w9 ⟨rfl, k9⟩
  have HK9 := hidMk (HK8.out.trans k9)
  clear k9
  go_wp2_with fail
  refine (law7_known _).mono ?_
  rintro e w10 ⟨rfl, k10⟩
  have HK10 := hidMk (HK9.out.trans k10)
  clear k10
  go_wp2_with fail
  go_ret
  exact ⟨rfl, HK0.out.trans HK10.out⟩
end Go.Proofs.YtmmdfpafkmhgcaaGreat
