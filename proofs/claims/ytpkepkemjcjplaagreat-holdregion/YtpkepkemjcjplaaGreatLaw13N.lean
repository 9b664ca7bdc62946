/- hold: Add and Drop without a space. -/
import Derived.Test.YtpkepkemjcjplaaGreatHoldC
namespace Go.Proofs.YtpkepkemjcjplaaGreat
open Go.RowKit Go.Maps
set_option linter.unusedSimpArgs false
set_option linter.unusedVariables false

set_option maxHeartbeats 8000000 in
set_option maxRecDepth 100000 in
theorem hold_Add_nil {w : World} (a : Option Addr) (c : Nat) (l : List Cl) (x : Cl) (hq : Cq w a l) (h16 : l.length ≤ 100000) :
    Calls Tryz.prog 11 #[hdV a l.length c, .pointer none, clV x] w (HdNo w 1) := by
  obtain ⟨hb, hhb⟩ : ∃ z, z = w.heap.size := ⟨_, rfl⟩
  obtain ⟨sb, hsb⟩ : ∃ z, z = w.heap.size + 1 := ⟨_, rfl⟩
  obtain ⟨cb, hcb⟩ : ∃ z, z = w.heap.size + 1 + 1 := ⟨_, rfl⟩
  obtain ⟨rb, hrb⟩ : ∃ z, z = w.heap.size + 1 + 1 + 1 := ⟨_, rfl⟩
  obtain ⟨WA, hWA⟩ : ∃ V, V = w.alloc (.cells #[.slice a l.length c] 37) := ⟨_, rfl⟩
  obtain ⟨WB, hWB⟩ : ∃ V, V = WA.alloc (.cells #[.pointer none] 30) := ⟨_, rfl⟩
  obtain ⟨WC, hWC⟩ : ∃ V, V = WB.alloc (.cells #[.int .i64 x.1, .int .i64 x.2.1, .int .i64 x.2.2.1, .int .i64 x.2.2.2.1, .int .i64 x.2.2.2.2] 29) := ⟨_, rfl⟩
  obtain ⟨W1, hW1⟩ : ∃ V, V = WC.alloc (.cells #[.slice none 0 0] 37) := ⟨_, rfl⟩
  have kA : Kept w WA := by rw [hWA]; exact (Kept.refl _).alloc _
  have kB : Kept WA WB := by rw [hWB]; exact (Kept.refl _).alloc _
  have kC : Kept WB WC := by rw [hWC]; exact (Kept.refl _).alloc _
  have kD : Kept WC W1 := by rw [hW1]; exact (Kept.refl _).alloc _
  have zA : WA.heap.size = w.heap.size + 1 := by rw [hWA, World.size_alloc]
  have zB : WB.heap.size = w.heap.size + 1 + 1 := by rw [hWB, World.size_alloc, zA]
  have zC : WC.heap.size = w.heap.size + 1 + 1 + 1 := by rw [hWC, World.size_alloc, zB]
  have k1 := kA.trans (kB.trans (kC.trans kD))
  have HK1 := hidMk k1
  have HBX := hidMk (show ∀ Y, Chg (fun j => j = rb) W1 Y → Y.cell? ⟨hb, 0, none⟩ = some (.slice a l.length c) ∧ Y.cell? ⟨sb, 0, none⟩ = some (.pointer none) ∧ Y.cell? ⟨cb, 0, none⟩ = some (.int .i64 x.1) ∧ Y.cell? ⟨cb, 1, none⟩ = some (.int .i64 x.2.1) ∧ Y.cell? ⟨cb, 2, none⟩ = some (.int .i64 x.2.2.1) ∧ Y.cell? ⟨cb, 3, none⟩ = some (.int .i64 x.2.2.2.1) ∧ Y.cell? ⟨cb, 4, none⟩ = some (.int .i64 x.2.2.2.2) from fun Y k => by
    have e1 : WA.cell? ⟨hb, 0, none⟩ = some (.slice a l.length c) := by rw [hWA]; exact new_cell _ _ _ _ 0 _ hhb rfl
    have e2 : WB.cell? ⟨sb, 0, none⟩ = some (.pointer none) := by rw [hWB]; exact new_cell _ _ _ _ 0 _ (hsb.trans zA.symm) rfl
    obtain ⟨f0, f1, f2, f3, f4⟩ := boxC_at WB x 29 (hcb.trans zB.symm) WC (by rw [← hWC]; exact Kept.refl _)
    have n1 : hb ≠ rb := by omega
    have n2 : sb ≠ rb := by omega
    have n3 : cb ≠ rb := by omega
    exact ⟨k.cellp ((kB.trans (kC.trans kD)).cellp e1) n1, k.cellp ((kC.trans kD).cellp e2) n2, k.cellp (kD.cellp f0) n3, k.cellp (kD.cellp f1) n3, k.cellp (kD.cellp f2) n3, k.cellp (kD.cellp f3) n3, k.cellp (kD.cellp f4) n3⟩)
  have HRB := hidMk (show W1.cell? ⟨rb, 0, none⟩ = some (.slice none 0 0) ∧ W1.frozen? ⟨rb, 0, none⟩ = false from by
    rw [hW1]; exact ⟨new_cell _ _ _ _ 0 _ (hrb.trans zC.symm) rfl, new_frozen _ _ _ (hrb.trans zC.symm) 0⟩)
  have HAS := hidMk (ask_nil x W1)
  have HRN := hidMk (show w.heap.size ≤ rb ∧ rb < W1.heap.size from ⟨by omega, cell_lt (p := ⟨rb, 0, none⟩) HRB.out.1⟩)
  rw [hWC, hWB, hWA] at hW1
  unfold clV hdV at *
  clear hq h16 k1 kA kB kC kD zA zB zC hWA hWB hWC
  obtain ⟨y0, y1, y2, y3, y4, y5, y6⟩ := HBX.out W1 (Chg.refl _ _)
  rw [hW1, hhb] at y0
  rw [hW1, hsb] at y1
  rw [hW1, hcb] at y2 y3 y4 y5 y6
  go_enter Tryz.func11, Tryz.ntmps11
  go_wp2_with fail
  rw [← hW1, ← hrb, ← hcb, ← hsb, ← hhb]
  clear hW1 hrb hcb hsb hhb y0 y1 y2 y3 y4 y5 y6
  refine HAS.out.mono ?_
  rintro e w2 ⟨rfl, k2⟩
  have HKZ := hidMk k2
  clear k2 HAS
  have rc := HKZ.out.cellp HRB.out.1
  have rf := (HKZ.out.frozen (p := ⟨rb, 0, none⟩) HRN.out.2).trans HRB.out.2
  go_wp2_with fail
  refine bodyPost_ret (v := .tuple #[.agg #[.slice none 0 0], .int .i64 1]) ?_ rfl ⟨rfl, ?_⟩
  · simp only [results, show Tryz.f11.results = #[.cell 6 37, .tmp 7] from rfl]
    have rc2 : (w2.setCell ⟨rb, 0, none⟩ (.slice none 0 0)).cell? ⟨rb, 0, none⟩ = some (.slice none 0 0) := World.cell?_setCell_same _ _ _ (HKZ.out.cellp HRB.out.1)
    have rl := hold_load rc2
    go_simp
  · exact Chg.kept HK1.out ((Chg.of_kept HKZ.out).setCell (S := fun j => j = rb) (p := ⟨rb, 0, none⟩) (.inl rfl) _) (fun j e => by have := HRN.out.1; omega)
set_option maxHeartbeats 8000000 in
set_option maxRecDepth 100000 in
theorem hold_Drop_nil {w : World} (a : Option Addr) (c : Nat) (l : List Cl) (x : Cl) (hq : Cq w a l) (h16 : l.length ≤ 100000) :
    Calls Tryz.prog 9 #[hdV a l.length c, .pointer none, clV x] w (HdNo w 1) := by
  obtain ⟨hb, hhb⟩ : ∃ z, z = w.heap.size := ⟨_, rfl⟩
  obtain ⟨cb, hcb⟩ : ∃ z, z = w.heap.size + 1 := ⟨_, rfl⟩
  obtain ⟨rb, hrb⟩ : ∃ z, z = w.heap.size + 1 + 1 := ⟨_, rfl⟩
  obtain ⟨WA, hWA⟩ : ∃ V, V = w.alloc (.cells #[.slice a l.length c] 37) := ⟨_, rfl⟩
  obtain ⟨WC, hWC⟩ : ∃ V, V = WA.alloc (.cells #[.int .i64 x.1, .int .i64 x.2.1, .int .i64 x.2.2.1, .int .i64 x.2.2.2.1, .int .i64 x.2.2.2.2] 29) := ⟨_, rfl⟩
  obtain ⟨W1, hW1⟩ : ∃ V, V = WC.alloc (.cells #[.slice none 0 0] 37) := ⟨_, rfl⟩
  have kA : Kept w WA := by rw [hWA]; exact (Kept.refl _).alloc _
  have kC : Kept WA WC := by rw [hWC]; exact (Kept.refl _).alloc _
  have kD : Kept WC W1 := by rw [hW1]; exact (Kept.refl _).alloc _
  have zA : WA.heap.size = w.heap.size + 1 := by rw [hWA, World.size_alloc]
  have zC : WC.heap.size = w.heap.size + 1 + 1 := by rw [hWC, World.size_alloc, zA]
  have k1 := kA.trans (kC.trans kD)
  have HK1 := hidMk k1
  have HBX := hidMk (show ∀ Y, Chg (fun j => j = rb) W1 Y → Y.cell? ⟨hb, 0, none⟩ = some (.slice a l.length c) ∧ Y.cell? ⟨cb, 0, none⟩ = some (.int .i64 x.1) ∧ Y.cell? ⟨cb, 1, none⟩ = some (.int .i64 x.2.1) ∧ Y.cell? ⟨cb, 2, none⟩ = some (.int .i64 x.2.2.1) ∧ Y.cell? ⟨cb, 3, none⟩ = some (.int .i64 x.2.2.2.1) ∧ Y.cell? ⟨cb, 4, none⟩ = some (.int .i64 x.2.2.2.2) from fun Y k => by
    have e1 : WA.cell? ⟨hb, 0, none⟩ = some (.slice a l.length c) := by rw [hWA]; exact new_cell _ _ _ _ 0 _ hhb rfl
    obtain ⟨f0, f1, f2, f3, f4⟩ := boxC_at WA x 29 (hcb.trans zA.symm) WC (by rw [← hWC]; exact Kept.refl _)
    have n1 : hb ≠ rb := by omega
    have n3 : cb ≠ rb := by omega
    exact ⟨k.cellp ((kC.trans kD).cellp e1) n1, k.cellp (kD.cellp f0) n3, k.cellp (kD.cellp f1) n3, k.cellp (kD.cellp f2) n3, k.cellp (kD.cellp f3) n3, k.cellp (kD.cellp f4) n3⟩)
  have HRB := hidMk (show W1.cell? ⟨rb, 0, none⟩ = some (.slice none 0 0) ∧ W1.frozen? ⟨rb, 0, none⟩ = false from by
    rw [hW1]; exact ⟨new_cell _ _ _ _ 0 _ (hrb.trans zC.symm) rfl, new_frozen _ _ _ (hrb.trans zC.symm) 0⟩)
  have HRN := hidMk (show w.heap.size ≤ rb ∧ rb < W1.heap.size from ⟨by omega, cell_lt (p := ⟨rb, 0, none⟩) HRB.out.1⟩)
  have HAS := hidMk (ask_nil x W1)
  have HIN := hidMk (show ∀ Y, Kept W1 Y → _ from fun Y k => slices_IndexC a c l x Y (hq.kept (k1.trans k)) h16)
  rw [hWC, hWA] at hW1
  unfold clV hdV at *
  clear hq h16 HIN k1 kA kC kD zA zC hWA hWC
  obtain ⟨y0, y2, y3, y4, y5, y6⟩ := HBX.out W1 (Chg.refl _ _)
  rw [hW1, hhb] at y0
  rw [hW1, hcb] at y2 y3 y4 y5 y6
  go_enter Tryz.func9, Tryz.ntmps9
  go_wp2_with fail
  rw [← hW1, ← hrb, ← hcb, ← hhb]
  clear hW1 hrb hcb hhb y0 y2 y3 y4 y5 y6
  refine HAS.out.mono ?_
  rintro e w2 ⟨rfl, k2⟩
  have HKZ := hidMk k2
  clear k2 HAS
  have rc := HKZ.out.cellp HRB.out.1
  have rf := (HKZ.out.frozen (p := ⟨rb, 0, none⟩) HRN.out.2).trans HRB.out.2
  go_wp2_with fail
  refine bodyPost_ret (v := .tuple #[.agg #[.slice none 0 0], .int .i64 1]) ?_ rfl ⟨rfl, ?_⟩
  · simp only [results, show Tryz.f9.results = #[.cell 6 37, .tmp 7] from rfl]
    have rc2 : (w2.setCell ⟨rb, 0, none⟩ (.slice none 0 0)).cell? ⟨rb, 0, none⟩ = some (.slice none 0 0) := World.cell?_setCell_same _ _ _ (HKZ.out.cellp HRB.out.1)
    have rl := hold_load rc2
    go_simp
  · exact Chg.kept HK1.out ((Chg.of_kept HKZ.out).setCell (S := fun j => j = rb) (p := ⟨rb, 0, none⟩) (.inl rfl) _) (fun j e => by have := HRN.out.1; omega)
end Go.Proofs.YtpkepkemjcjplaaGreat
