/- lock: Add and Drop without a space; LockNil. -/
import Derived.Test.YtmedgkccicbieaaGreatQLockI
namespace Go.Proofs.YtmedgkccicbieaaGreat
open Go.RowKit Go.Maps
set_option linter.unusedSimpArgs false
set_option linter.unusedVariables false

set_option maxHeartbeats 8000000 in
set_option maxRecDepth 100000 in
theorem lock_Add_nil (x : Cl) (u : ByteArray) (w : World) :
    Calls Tryz.prog 29 #[hdV none 0 0, .pointer none, clV x, .string u] w (HdNo w 1) := by
  obtain ⟨hb, hhb⟩ : ∃ z, z = w.heap.size := ⟨_, rfl⟩
  obtain ⟨cb, hcb⟩ : ∃ z, z = w.heap.size + 1 := ⟨_, rfl⟩
  obtain ⟨rb, hrb⟩ : ∃ z, z = w.heap.size + 1 + 1 := ⟨_, rfl⟩
  obtain ⟨WA, hWA⟩ : ∃ V, V = w.alloc (.cells #[.slice none 0 0] 66) := ⟨_, rfl⟩
  obtain ⟨WC, hWC⟩ : ∃ V, V = WA.alloc (.cells #[.int .i64 x.1, .int .i64 x.2.1, .int .i64 x.2.2.1, .int .i64 x.2.2.2.1, .int .i64 x.2.2.2.2] 29) := ⟨_, rfl⟩
  obtain ⟨W1, hW1⟩ : ∃ V, V = WC.alloc (.cells #[.slice none 0 0] 66) := ⟨_, rfl⟩
  have kA : Kept w WA := by rw [hWA]; exact (Kept.refl _).alloc _
  have kC : Kept WA WC := by rw [hWC]; exact (Kept.refl _).alloc _
  have kD : Kept WC W1 := by rw [hW1]; exact (Kept.refl _).alloc _
  have zA : WA.heap.size = w.heap.size + 1 := by rw [hWA, World.size_alloc]
  have zC : WC.heap.size = w.heap.size + 1 + 1 := by rw [hWC, World.size_alloc, zA]
  have k1 := kA.trans (kC.trans kD)
  have HK1 := hidMk k1
  have HBX := hidMk (show ∀ Y, Chg (fun j => j = rb) W1 Y → Y.cell? ⟨hb, 0, none⟩ = some (.slice none 0 0) ∧ Y.cell? ⟨cb, 0, none⟩ = some (.int .i64 x.1) ∧ Y.cell? ⟨cb, 1, none⟩ = some (.int .i64 x.2.1) ∧ Y.cell? ⟨cb, 2, none⟩ = some (.int .i64 x.2.2.1) ∧ Y.cell? ⟨cb, 3, none⟩ = some (.int .i64 x.2.2.2.1) ∧ Y.cell? ⟨cb, 4, none⟩ = some (.int .i64 x.2.2.2.2) from fun Y k => by
    have e1 : WA.cell? ⟨hb, 0, none⟩ = some (.slice none 0 0) := by rw [hWA]; exact new_cell _ _ _ _ 0 _ hhb rfl
    obtain ⟨f0, f1, f2, f3, f4⟩ := boxC_at WA x 29 (hcb.trans zA.symm) WC (by rw [← hWC]; exact Kept.refl _)
    have n1 : hb ≠ rb := by omega
    have n3 : cb ≠ rb := by omega
    exact ⟨k.cellp ((kC.trans kD).cellp e1) n1, k.cellp (kD.cellp f0) n3, k.cellp (kD.cellp f1) n3, k.cellp (kD.cellp f2) n3, k.cellp (kD.cellp f3) n3, k.cellp (kD.cellp f4) n3⟩)
  have HRB := hidMk (show W1.cell? ⟨rb, 0, none⟩ = some (.slice none 0 0) ∧ W1.frozen? ⟨rb, 0, none⟩ = false from by
    rw [hW1]; exact ⟨new_cell _ _ _ _ 0 _ (hrb.trans zC.symm) rfl, new_frozen _ _ _ (hrb.trans zC.symm) 0⟩)
  have HRN := hidMk (show w.heap.size ≤ rb ∧ rb < W1.heap.size from ⟨by omega, cell_lt (p := ⟨rb, 0, none⟩) HRB.out.1⟩)
  have HAS := hidMk (lask_nil x u W1)
  rw [hWC, hWA] at hW1
  unfold clV hdV at *
  clear k1 kA kC kD zA zC hWA hWC
  obtain ⟨y0, y2, y3, y4, y5, y6⟩ := HBX.out W1 (Chg.refl _ _)
  rw [hW1, hhb] at y0
  rw [hW1, hcb] at y2 y3 y4 y5 y6
  go_enter Tryz.func29, Tryz.ntmps29
  go_wp2_with fail
  rw [← hW1, ← hrb, ← hcb, ← hhb]
  clear hW1 hrb hcb hhb y0 y2 y3 y4 y5 y6
  refine HAS.out.mono ?_
  rintro e w2 ⟨rfl, k2⟩
  have HK2 := hidMk k2
  clear k2 HAS
  have rc := HK2.out.cellp HRB.out.1
  have rf := (HK2.out.frozen (p := ⟨rb, 0, none⟩) HRN.out.2).trans HRB.out.2
  go_wp2_with fail
  refine bodyPost_ret (v := .tuple #[.agg #[.slice none 0 0], .int .i64 1]) ?_ rfl ⟨rfl, ?_⟩
  · simp only [results, show Tryz.f29.results = #[.cell 8 66, .tmp 9] from rfl]
    have rc2 : (w2.setCell ⟨rb, 0, none⟩ (.slice none 0 0)).cell? ⟨rb, 0, none⟩ = some (.slice none 0 0) := World.cell?_setCell_same _ _ _ (HK2.out.cellp HRB.out.1)
    have rl := lock_load rc2
    go_simp
  · exact Chg.kept HK1.out ((Chg.of_kept HK2.out).setCell (S := fun j => j = rb) (p := ⟨rb, 0, none⟩) (.inl rfl) _) (fun j e => by have := HRN.out.1; omega)
set_option maxHeartbeats 8000000 in
set_option maxRecDepth 100000 in
theorem lock_Drop_nil (x : Cl) (u : ByteArray) (w : World) :
    Calls Tryz.prog 27 #[hdV none 0 0, .pointer none, clV x, .string u] w (HdNo w 1) := by
  obtain ⟨hb, hhb⟩ : ∃ z, z = w.heap.size := ⟨_, rfl⟩
  obtain ⟨cb, hcb⟩ : ∃ z, z = w.heap.size + 1 := ⟨_, rfl⟩
  obtain ⟨rb, hrb⟩ : ∃ z, z = w.heap.size + 1 + 1 := ⟨_, rfl⟩
  obtain ⟨WA, hWA⟩ : ∃ V, V = w.alloc (.cells #[.slice none 0 0] 66) := ⟨_, rfl⟩
  obtain ⟨WC, hWC⟩ : ∃ V, V = WA.alloc (.cells #[.int .i64 x.1, .int .i64 x.2.1, .int .i64 x.2.2.1, .int .i64 x.2.2.2.1, .int .i64 x.2.2.2.2] 29) := ⟨_, rfl⟩
  obtain ⟨W1, hW1⟩ : ∃ V, V = WC.alloc (.cells #[.slice none 0 0] 66) := ⟨_, rfl⟩
  have kA : Kept w WA := by rw [hWA]; exact (Kept.refl _).alloc _
  have kC : Kept WA WC := by rw [hWC]; exact (Kept.refl _).alloc _
  have kD : Kept WC W1 := by rw [hW1]; exact (Kept.refl _).alloc _
  have zA : WA.heap.size = w.heap.size + 1 := by rw [hWA, World.size_alloc]
  have zC : WC.heap.size = w.heap.size + 1 + 1 := by rw [hWC, World.size_alloc, zA]
  have k1 := kA.trans (kC.trans kD)
  have HK1 := hidMk k1
  have HBX := hidMk (show ∀ Y, Chg (fun j => j = rb) W1 Y → Y.cell? ⟨hb, 0, none⟩ = some (.slice none 0 0) ∧ Y.cell? ⟨cb, 0, none⟩ = some (.int .i64 x.1) ∧ Y.cell? ⟨cb, 1, none⟩ = some (.int .i64 x.2.1) ∧ Y.cell? ⟨cb, 2, none⟩ = some (.int .i64 x.2.2.1) ∧ Y.cell? ⟨cb, 3, none⟩ = some (.int .i64 x.2.2.2.1) ∧ Y.cell? ⟨cb, 4, none⟩ = some (.int .i64 x.2.2.2.2) from fun Y k => by
    have e1 : WA.cell? ⟨hb, 0, none⟩ = some (.slice none 0 0) := by rw [hWA]; exact new_cell _ _ _ _ 0 _ hhb rfl
    obtain ⟨f0, f1, f2, f3, f4⟩ := boxC_at WA x 29 (hcb.trans zA.symm) WC (by rw [← hWC]; exact Kept.refl _)
    have n1 : hb ≠ rb := by omega
    have n3 : cb ≠ rb := by omega
    exact ⟨k.cellp ((kC.trans kD).cellp e1) n1, k.cellp (kD.cellp f0) n3, k.cellp (kD.cellp f1) n3, k.cellp (kD.cellp f2) n3, k.cellp (kD.cellp f3) n3, k.cellp (kD.cellp f4) n3⟩)
  have HRB := hidMk (show W1.cell? ⟨rb, 0, none⟩ = some (.slice none 0 0) ∧ W1.frozen? ⟨rb, 0, none⟩ = false from by
    rw [hW1]; exact ⟨new_cell _ _ _ _ 0 _ (hrb.trans zC.symm) rfl, new_frozen _ _ _ (hrb.trans zC.symm) 0⟩)
  have HRN := hidMk (show w.heap.size ≤ rb ∧ rb < W1.heap.size from ⟨by omega, cell_lt (p := ⟨rb, 0, none⟩) HRB.out.1⟩)
  have HAS := hidMk (lask_nil x u W1)
  rw [hWC, hWA] at hW1
  unfold clV hdV at *
  clear k1 kA kC kD zA zC hWA hWC
  obtain ⟨y0, y2, y3, y4, y5, y6⟩ := HBX.out W1 (Chg.refl _ _)
  rw [hW1, hhb] at y0
  rw [hW1, hcb] at y2 y3 y4 y5 y6
  go_enter Tryz.func27, Tryz.ntmps27
  go_wp2_with fail
  rw [← hW1, ← hrb, ← hcb, ← hhb]
  clear hW1 hrb hcb hhb y0 y2 y3 y4 y5 y6
  refine HAS.out.mono ?_
  rintro e w2 ⟨rfl, k2⟩
  have HK2 := hidMk k2
  clear k2 HAS
  have rc := HK2.out.cellp HRB.out.1
  have rf := (HK2.out.frozen (p := ⟨rb, 0, none⟩) HRN.out.2).trans HRB.out.2
  go_wp2_with fail
  refine bodyPost_ret (v := .tuple #[.agg #[.slice none 0 0], .int .i64 1]) ?_ rfl ⟨rfl, ?_⟩
  · simp only [results, show Tryz.f27.results = #[.cell 8 66, .tmp 9] from rfl]
    have rc2 : (w2.setCell ⟨rb, 0, none⟩ (.slice none 0 0)).cell? ⟨rb, 0, none⟩ = some (.slice none 0 0) := World.cell?_setCell_same _ _ _ (HK2.out.cellp HRB.out.1)
    have rl := lock_load rc2
    go_simp
  · exact Chg.kept HK1.out ((Chg.of_kept HK2.out).setCell (S := fun j => j = rb) (p := ⟨rb, 0, none⟩) (.inl rfl) _) (fun j e => by have := HRN.out.1; omega)
set_option maxHeartbeats 8000000 in
set_option maxRecDepth 100000 in
theorem law_LockNil (cm : Int) (at_ : Nat → Int) (u : ByteArray) (w : World) :
    Calls Tryz.prog 7 #[cellV cm at_, .string u] w fun e w' => e = .returned (.bool true) ∧ Kept w w' := by
  obtain ⟨xc, hxc⟩ : ∃ xc : Cl, xc = (cm, at_ 0, at_ 1, at_ 2, at_ 3) := ⟨_, rfl⟩
  have hcv : cellV cm at_ = .agg #[.int .i64 xc.1, .int .i64 xc.2.1, .int .i64 xc.2.2.1, .int .i64 xc.2.2.2.1, .int .i64 xc.2.2.2.2] := by rw [hxc]; rfl
  rw [hcv]
  clear hcv hxc
  have HKN := hidMk law14_known
  have HAD := hidMk (fun X => lock_Add_nil xc u X)
  have HDR := hidMk (fun X => lock_Drop_nil xc u X)
  have HLS := hidMk (show ∀ X, Calls Tryz.prog 32 #[.agg #[.slice none 0 0]] X fun e w' => (∃ a c, e = .returned (.slice a 0 c)) ∧ Kept X w' from fun X => by
    refine (lock_List none 0 [] X (Pq.none _ _) (by simp)).mono ?_
    rintro e w' ⟨v, rfl, ho, k⟩
    obtain ⟨a, c, rfl, _⟩ := ho.form
    exact ⟨⟨a, c, rfl⟩, k⟩)
  have HSA := hidMk (show ∀ X, Calls Tryz.prog 40 #[.agg #[.slice none 0 0], .agg #[.slice none 0 0]] X fun e w' => e = .returned (.bool true) ∧ Kept X w' from fun X => by
    refine (lock_Same none none 0 0 [] [] X (Pq.none _ _) (Pq.none _ _) (by simp) (by simp)).mono ?_
    rintro e w' ⟨rfl, k⟩
    exact ⟨by simp, k⟩)
  unfold HdNo at HAD HDR
  unfold clV hdV at HAD HDR
  obtain ⟨WA, hWA⟩ : ∃ V, V = (w.alloc (.cells #[.int .i64 xc.1, .int .i64 xc.2.1, .int .i64 xc.2.2.1, .int .i64 xc.2.2.2.1, .int .i64 xc.2.2.2.2] 29)).alloc (.cells #[.slice none 0 0] 66) := ⟨_, rfl⟩
  have kA : Kept w WA := by rw [hWA]; exact ((Kept.refl w).alloc _).alloc _
  have HKA := hidMk kA
  have HX := hidMk (show ∀ X, Kept WA X → X.cell? ⟨w.heap.size + 1, 0, none⟩ = some (.slice none 0 0) ∧ X.cell? ⟨w.heap.size, 0, none⟩ = some (.int .i64 xc.1) ∧ X.cell? ⟨w.heap.size, 1, none⟩ = some (.int .i64 xc.2.1) ∧ X.cell? ⟨w.heap.size, 2, none⟩ = some (.int .i64 xc.2.2.1) ∧ X.cell? ⟨w.heap.size, 3, none⟩ = some (.int .i64 xc.2.2.2.1) ∧ X.cell? ⟨w.heap.size, 4, none⟩ = some (.int .i64 xc.2.2.2.2) ∧ w.heap.size + 1 < X.heap.size ∧ w.heap.size < X.heap.size from fun X kX => by
    rw [hWA] at kX
    obtain ⟨f0, f1, f2, f3, f4⟩ := boxC_at w xc 29 (g := w.heap.size) rfl X (((Kept.refl _).alloc _).trans kX)
    have e0 := kX.cellp (new_cell _ _ _ (w.heap.size + 1) 0 _ (by simp) rfl)
    exact ⟨e0, f0, f1, f2, f3, f4, cell_lt e0, cell_lt f0⟩)
  obtain ⟨x0, x1, x2, x3, x4, x5, x6, x7⟩ := HX.out WA (Kept.refl _)
  rw [hWA] at x0 x1 x2 x3 x4 x5 x6 x7
  clear kA
  go_enter Tryz.func7, Tryz.ntmps7
  go_wp2_with fail
  rw [← hWA]
  clear hWA x0 x1 x2 x3 x4 x5 x6 x7
  refine (HAD.out WA).mono ?_
  rintro e w2 ⟨rfl, k2⟩
  have HK2 := hidMk k2
  clear k2
  obtain ⟨x0, x1, x2, x3, x4, x5, x6, x7⟩ := HX.out w2 HK2.out
  go_wp2_with fail
  clear x0 x1 x2 x3 x4 x5 x6 x7
  refine (HDR.out _).mono ?_
  rintro e w3 ⟨rfl, k3⟩
  have HK3 := hidMk ((HK2.out.alloc _).trans k3)
  clear k3
  obtain ⟨x0, x1, x2, x3, x4, x5, x6, x7⟩ := HX.out w3 HK3.out
  go_wp2_with fail
  clear x0 x1 x2 x3 x4 x5 x6 x7
  refine (HLS.out _).mono ?_
  rintro e w4 ⟨⟨a4, c4, rfl⟩, k4⟩
  have HK4 := hidMk ((HK3.out.alloc _).trans k4)
  clear k4
  obtain ⟨x0, x1, x2, x3, x4, x5, x6, x7⟩ := HX.out w4 HK4.out
  go_wp2_with fail
  clear x0 x1 x2 x3 x4 x5 x6 x7
  refine (HSA.out _).mono ?_
  rintro e w5 ⟨rfl, k5⟩
  have HK5 := hidMk (HK4.out.trans k5)
  clear k5
  go_wp2_with fail
  refine (HKN.out _).mono ?_
  rintro e w6 ⟨rfl, k6⟩
  go_wp2_with fail
  go_ret
  exact ⟨by simp, HKA.out.trans (HK5.out.trans k6)⟩
end Go.Proofs.YtmedgkccicbieaaGreat
