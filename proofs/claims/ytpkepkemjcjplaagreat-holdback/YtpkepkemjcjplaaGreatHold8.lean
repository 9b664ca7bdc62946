/- hold: Drop. -/
import Derived.Test.YtpkepkemjcjplaaGreatHold7
namespace Go.Proofs.YtpkepkemjcjplaaGreat
open Go.RowKit Go.Maps
set_option linter.unusedSimpArgs false
set_option linter.unusedVariables false

theorem idxC_get {l : List Cl} {x : Cl} (h : x ∈ l) : ∃ i : Nat, idxC l x = i ∧ i < l.length ∧ clA l i = x := by
  have hlt : (l.findIdx fun y => decide (y = x)) < l.length := List.findIdx_lt_length.2 ⟨x, h, by simp⟩
  refine ⟨l.findIdx fun y => decide (y = x), by unfold idxC; rw [if_pos h], hlt, ?_⟩
  rw [clA_get hlt]
  have := List.findIdx_getElem (w := hlt)
  simpa using this
/-- What Drop tells where the cell is held. -/
def HdDrop (w : World) (l : List Cl) (x : Cl) (e : Ending) (w' : World) : Prop := ∃ (v : Value) (i : Nat), e = .returned (.tuple #[.agg #[v], .int .i64 0]) ∧ idxC l x = i ∧ i < l.length ∧ clA l i = x ∧ OwnQ w' w.heap.size v (l.take i ++ l.drop (i + 1)) ∧ Kept w w'
section
variable {w : World} {s p : Nat} {ds : List Dm} {ms : List ByteArray} {tp : Nat → Nat} {rv : Nat → Option Addr × Nat}
set_option maxHeartbeats 8000000 in
set_option maxRecDepth 100000 in
theorem hold_Drop_range (h : SW w s p ds ms tp rv) (a : Option Addr) (c : Nat) (l : List Cl) (x : Cl) (hq : Cq w a l) (h16 : l.length ≤ 100000) (hx : ixC ms ds x < 0) :
    Calls Tryz.prog 9 #[hdV a l.length c, .pointer (some ⟨s, 0, none⟩), clV x] w (HdNo w 17) := by
  obtain ⟨hb, hhb⟩ : ∃ z, z = w.heap.size := ⟨_, rfl⟩
  obtain ⟨cb, hcb⟩ : ∃ z, z = w.heap.size + 1 := ⟨_, rfl⟩
  obtain ⟨rb, hrb⟩ : ∃ z, z = w.heap.size + 1 + 1 := ⟨_, rfl⟩
  obtain ⟨WA, hWA⟩ : ∃ V, V = w.alloc (.cells #[.slice a l.length c] 37) := ⟨_, rfl⟩
  obtain ⟨WC, hWC⟩ : ∃ V, V = WA.alloc (.cells #[.int .i64 x.1, .int .i64 x.2.1, .int .i64 x.2.2.1, .int .i64 x.2.2.2.1, .int .i64 x.2.2.2.2] 29) := ⟨_, rfl⟩
  obtain ⟨W1, hW1⟩ : ∃ V, V = WC.alloc (.cells #[.slice none 0 0] 37) := ⟨_, rfl⟩
  have kA : Kept w WA := by rw [hWA]; exact (Kept.refl _).alloc _
  have kC : Kept WA WC := by rw [hWC]; exact (Kept.refl _).alloc _
  have kD : Kept WC W1 := by rw [hW1]; exact (Kept.refl _).alloc _
  have zA : WA.heap.size = w.heap.size + 1 := by rw [hWA, World.size_alloc]
  have zC : WC.heap.size = w.heap.size + 1 + 1 := by rw [hWC, World.size_alloc, zA]
  have k1 := kA.trans (kC.trans kD)
  have HK1 := hidMk k1
  have HBX := hidMk (show ∀ Y, Chg (fun j => j = rb) W1 Y → Y.cell? ⟨hb, 0, none⟩ = some (.slice a l.length c) ∧ Y.cell? ⟨cb, 0, none⟩ = some (.int .i64 x.1) ∧ Y.cell? ⟨cb, 1, none⟩ = some (.int .i64 x.2.1) ∧ Y.cell? ⟨cb, 2, none⟩ = some (.int .i64 x.2.2.1) ∧ Y.cell? ⟨cb, 3, none⟩ = some (.int .i64 x.2.2.2.1) ∧ Y.cell? ⟨cb, 4, none⟩ = some (.int .i64 x.2.2.2.2) from fun Y k => by
    have e1 : WA.cell? ⟨hb, 0, none⟩ = some (.slice a l.length c) := by rw [hWA]; exact new_cell _ _ _ _ 0 _ hhb rfl
    obtain ⟨f0, f1, f2, f3, f4⟩ := boxC_at WA x 29 (hcb.trans zA.symm) WC (by rw [← hWC]; exact Kept.refl _)
    have n1 : hb ≠ rb := by omega
    have n3 : cb ≠ rb := by omega
    exact ⟨k.cellp ((kC.trans kD).cellp e1) n1, k.cellp (kD.cellp f0) n3, k.cellp (kD.cellp f1) n3, k.cellp (kD.cellp f2) n3, k.cellp (kD.cellp f3) n3, k.cellp (kD.cellp f4) n3⟩)
  have HRB := hidMk (show W1.cell? ⟨rb, 0, none⟩ = some (.slice none 0 0) ∧ W1.frozen? ⟨rb, 0, none⟩ = false from by
    rw [hW1]; exact ⟨new_cell _ _ _ _ 0 _ (hrb.trans zC.symm) rfl, new_frozen _ _ _ (hrb.trans zC.symm) 0⟩)
  have HRN := hidMk (show w.heap.size ≤ rb ∧ rb < W1.heap.size from ⟨by omega, cell_lt (p := ⟨rb, 0, none⟩) HRB.out.1⟩)
  have HAS := hidMk (sw_ask (h.keep k1) x)
  have HIN := hidMk (show ∀ Y, Kept W1 Y → _ from fun Y k => slices_IndexC a c l x Y (hq.kept (k1.trans k)) h16)
  simp only [if_pos hx] at HAS
  rw [hWC, hWA] at hW1
  unfold clV hdV at *
  clear h hq hx h16 HIN k1 kA kC kD zA zC hWA hWC
  obtain ⟨y0, y2, y3, y4, y5, y6⟩ := HBX.out W1 (Chg.refl _ _)
  rw [hW1, hhb] at y0
  rw [hW1, hcb] at y2 y3 y4 y5 y6
  go_enter Tryz.func9, Tryz.ntmps9
  go_wp2_with fail
  rw [← hW1, ← hrb, ← hcb, ← hhb]
  clear hW1 hrb hcb hhb y0 y2 y3 y4 y5 y6
  refine HAS.out.mono ?_
  rintro e w2 ⟨rfl, k2⟩
  have HKZ := hidMk k2
  clear k2 HAS
  have rc := HKZ.out.cellp HRB.out.1
  have rf := (HKZ.out.frozen (p := ⟨rb, 0, none⟩) HRN.out.2).trans HRB.out.2
  go_wp2_with fail
  refine bodyPost_ret (v := .tuple #[.agg #[.slice none 0 0], .int .i64 17]) ?_ rfl ⟨rfl, ?_⟩
  · simp only [results, show Tryz.f9.results = #[.cell 6 37, .tmp 7] from rfl]
    have rc2 : (w2.setCell ⟨rb, 0, none⟩ (.slice none 0 0)).cell? ⟨rb, 0, none⟩ = some (.slice none 0 0) := World.cell?_setCell_same _ _ _ (HKZ.out.cellp HRB.out.1)
    have rl := hold_load rc2
    go_simp
  · exact Chg.kept HK1.out ((Chg.of_kept HKZ.out).setCell (S := fun j => j = rb) (p := ⟨rb, 0, none⟩) (.inl rfl) _) (fun j e => by have := HRN.out.1; omega)
set_option maxHeartbeats 8000000 in
set_option maxRecDepth 100000 in
theorem hold_Drop_none (h : SW w s p ds ms tp rv) (a : Option Addr) (c : Nat) (l : List Cl) (x : Cl) (hq : Cq w a l) (h16 : l.length ≤ 100000) (hx : ¬ ixC ms ds x < 0) (hn : ¬ x ∈ l) :
    Calls Tryz.prog 9 #[hdV a l.length c, .pointer (some ⟨s, 0, none⟩), clV x] w (HdNo w 10) := by
  obtain ⟨hb, hhb⟩ : ∃ z, z = w.heap.size := ⟨_, rfl⟩
  obtain ⟨cb, hcb⟩ : ∃ z, z = w.heap.size + 1 := ⟨_, rfl⟩
  obtain ⟨rb, hrb⟩ : ∃ z, z = w.heap.size + 1 + 1 := ⟨_, rfl⟩
  obtain ⟨WA, hWA⟩ : ∃ V, V = w.alloc (.cells #[.slice a l.length c] 37) := ⟨_, rfl⟩
  obtain ⟨WC, hWC⟩ : ∃ V, V = WA.alloc (.cells #[.int .i64 x.1, .int .i64 x.2.1, .int .i64 x.2.2.1, .int .i64 x.2.2.2.1, .int .i64 x.2.2.2.2] 29) := ⟨_, rfl⟩
  obtain ⟨W1, hW1⟩ : ∃ V, V = WC.alloc (.cells #[.slice none 0 0] 37) := ⟨_, rfl⟩
  have kA : Kept w WA := by rw [hWA]; exact (Kept.refl _).alloc _
  have kC : Kept WA WC := by rw [hWC]; exact (Kept.refl _).alloc _
  have kD : Kept WC W1 := by rw [hW1]; exact (Kept.refl _).alloc _
  have zA : WA.heap.size = w.heap.size + 1 := by rw [hWA, World.size_alloc]
  have zC : WC.heap.size = w.heap.size + 1 + 1 := by rw [hWC, World.size_alloc, zA]
  have k1 := kA.trans (kC.trans kD)
  have HK1 := hidMk k1
  have HBX := hidMk (show ∀ Y, Chg (fun j => j = rb) W1 Y → Y.cell? ⟨hb, 0, none⟩ = some (.slice a l.length c) ∧ Y.cell? ⟨cb, 0, none⟩ = some (.int .i64 x.1) ∧ Y.cell? ⟨cb, 1, none⟩ = some (.int .i64 x.2.1) ∧ Y.cell? ⟨cb, 2, none⟩ = some (.int .i64 x.2.2.1) ∧ Y.cell? ⟨cb, 3, none⟩ = some (.int .i64 x.2.2.2.1) ∧ Y.cell? ⟨cb, 4, none⟩ = some (.int .i64 x.2.2.2.2) from fun Y k => by
    have e1 : WA.cell? ⟨hb, 0, none⟩ = some (.slice a l.length c) := by rw [hWA]; exact new_cell _ _ _ _ 0 _ hhb rfl
    obtain ⟨f0, f1, f2, f3, f4⟩ := boxC_at WA x 29 (hcb.trans zA.symm) WC (by rw [← hWC]; exact Kept.refl _)
    have n1 : hb ≠ rb := by omega
    have n3 : cb ≠ rb := by omega
    exact ⟨k.cellp ((kC.trans kD).cellp e1) n1, k.cellp (kD.cellp f0) n3, k.cellp (kD.cellp f1) n3, k.cellp (kD.cellp f2) n3, k.cellp (kD.cellp f3) n3, k.cellp (kD.cellp f4) n3⟩)
  have HRB := hidMk (show W1.cell? ⟨rb, 0, none⟩ = some (.slice none 0 0) ∧ W1.frozen? ⟨rb, 0, none⟩ = false from by
    rw [hW1]; exact ⟨new_cell _ _ _ _ 0 _ (hrb.trans zC.symm) rfl, new_frozen _ _ _ (hrb.trans zC.symm) 0⟩)
  have HRN := hidMk (show w.heap.size ≤ rb ∧ rb < W1.heap.size from ⟨by omega, cell_lt (p := ⟨rb, 0, none⟩) HRB.out.1⟩)
  have HAS := hidMk (sw_ask (h.keep k1) x)
  have HIN := hidMk (show ∀ Y, Kept W1 Y → _ from fun Y k => slices_IndexC a c l x Y (hq.kept (k1.trans k)) h16)
  simp only [if_neg hx] at HAS
  have hix : idxC l x = -1 := by unfold idxC; rw [if_neg hn]
  rw [hix] at HIN
  rw [hWC, hWA] at hW1
  unfold clV hdV at *
  clear h hq hx h16 hn hix k1 kA kC kD zA zC hWA hWC
  obtain ⟨y0, y2, y3, y4, y5, y6⟩ := HBX.out W1 (Chg.refl _ _)
  rw [hW1, hhb] at y0
  rw [hW1, hcb] at y2 y3 y4 y5 y6
  go_enter Tryz.func9, Tryz.ntmps9
  go_wp2_with fail
  rw [← hW1, ← hrb, ← hcb, ← hhb]
  clear hW1 hrb hcb hhb y0 y2 y3 y4 y5 y6
  refine HAS.out.mono ?_
  rintro e w2 ⟨rfl, k2⟩
  have HKZ := hidMk k2
  clear k2 HAS
  obtain ⟨y0, y2, y3, y4, y5, y6⟩ := HBX.out w2 (Chg.of_kept HKZ.out)
  go_wp2_with fail
  refine (HIN.out _ HKZ.out).mono ?_
  rintro e w4 ⟨rfl, k4⟩
  have HK4 := hidMk (HKZ.out.trans k4)
  clear k4 HIN HKZ y0 y2 y3 y4 y5 y6
  have rc := HK4.out.cellp HRB.out.1
  have rf := (HK4.out.frozen (p := ⟨rb, 0, none⟩) HRN.out.2).trans HRB.out.2
  go_wp2_with fail
  refine bodyPost_ret (v := .tuple #[.agg #[.slice none 0 0], .int .i64 10]) ?_ rfl ⟨rfl, ?_⟩
  · simp only [results, show Tryz.f9.results = #[.cell 6 37, .tmp 7] from rfl]
    have rc2 : (w4.setCell ⟨rb, 0, none⟩ (.slice none 0 0)).cell? ⟨rb, 0, none⟩ = some (.slice none 0 0) := World.cell?_setCell_same _ _ _ (HK4.out.cellp HRB.out.1)
    have rl := hold_load rc2
    go_simp
  · exact Chg.kept HK1.out ((Chg.of_kept HK4.out).setCell (S := fun j => j = rb) (p := ⟨rb, 0, none⟩) (.inl rfl) _) (fun j e => by have := HRN.out.1; omega)
set_option maxHeartbeats 8000000 in
set_option maxRecDepth 100000 in
theorem hold_Drop_some (h : SW w s p ds ms tp rv) (b o : Nat) (c : Nat) (l : List Cl) (x : Cl) (hq : Cq w (some ⟨b, o, none⟩) l) (h16 : l.length ≤ 1000) (hc : l.length ≤ c) (hx : ¬ ixC ms ds x < 0) (hn : x ∈ l) :
    Calls Tryz.prog 9 #[hdV (some ⟨b, o, none⟩) l.length c, .pointer (some ⟨s, 0, none⟩), clV x] w (HdDrop w l x) := by
  obtain ⟨hb, hhb⟩ : ∃ z, z = w.heap.size := ⟨_, rfl⟩
  obtain ⟨cb, hcb⟩ : ∃ z, z = w.heap.size + 1 := ⟨_, rfl⟩
  obtain ⟨rb, hrb⟩ : ∃ z, z = w.heap.size + 1 + 1 := ⟨_, rfl⟩
  obtain ⟨WA, hWA⟩ : ∃ V, V = w.alloc (.cells #[.slice (some ⟨b, o, none⟩) l.length c] 37) := ⟨_, rfl⟩
  obtain ⟨WC, hWC⟩ : ∃ V, V = WA.alloc (.cells #[.int .i64 x.1, .int .i64 x.2.1, .int .i64 x.2.2.1, .int .i64 x.2.2.2.1, .int .i64 x.2.2.2.2] 29) := ⟨_, rfl⟩
  obtain ⟨W1, hW1⟩ : ∃ V, V = WC.alloc (.cells #[.slice none 0 0] 37) := ⟨_, rfl⟩
  have kA : Kept w WA := by rw [hWA]; exact (Kept.refl _).alloc _
  have kC : Kept WA WC := by rw [hWC]; exact (Kept.refl _).alloc _
  have kD : Kept WC W1 := by rw [hW1]; exact (Kept.refl _).alloc _
  have zA : WA.heap.size = w.heap.size + 1 := by rw [hWA, World.size_alloc]
  have zC : WC.heap.size = w.heap.size + 1 + 1 := by rw [hWC, World.size_alloc, zA]
  have k1 := kA.trans (kC.trans kD)
  have HK1 := hidMk k1
  have HBX := hidMk (show ∀ Y, Chg (fun j => j = rb) W1 Y → Y.cell? ⟨hb, 0, none⟩ = some (.slice (some ⟨b, o, none⟩) l.length c) ∧ Y.cell? ⟨cb, 0, none⟩ = some (.int .i64 x.1) ∧ Y.cell? ⟨cb, 1, none⟩ = some (.int .i64 x.2.1) ∧ Y.cell? ⟨cb, 2, none⟩ = some (.int .i64 x.2.2.1) ∧ Y.cell? ⟨cb, 3, none⟩ = some (.int .i64 x.2.2.2.1) ∧ Y.cell? ⟨cb, 4, none⟩ = some (.int .i64 x.2.2.2.2) from fun Y k => by
    have e1 : WA.cell? ⟨hb, 0, none⟩ = some (.slice (some ⟨b, o, none⟩) l.length c) := by rw [hWA]; exact new_cell _ _ _ _ 0 _ hhb rfl
    obtain ⟨f0, f1, f2, f3, f4⟩ := boxC_at WA x 29 (hcb.trans zA.symm) WC (by rw [← hWC]; exact Kept.refl _)
    have n1 : hb ≠ rb := by omega
    have n3 : cb ≠ rb := by omega
    exact ⟨k.cellp ((kC.trans kD).cellp e1) n1, k.cellp (kD.cellp f0) n3, k.cellp (kD.cellp f1) n3, k.cellp (kD.cellp f2) n3, k.cellp (kD.cellp f3) n3, k.cellp (kD.cellp f4) n3⟩)
  have HRB := hidMk (show W1.cell? ⟨rb, 0, none⟩ = some (.slice none 0 0) ∧ W1.frozen? ⟨rb, 0, none⟩ = false from by
    rw [hW1]; exact ⟨new_cell _ _ _ _ 0 _ (hrb.trans zC.symm) rfl, new_frozen _ _ _ (hrb.trans zC.symm) 0⟩)
  have HRN := hidMk (show w.heap.size ≤ rb ∧ rb < W1.heap.size from ⟨by omega, cell_lt (p := ⟨rb, 0, none⟩) HRB.out.1⟩)
  have HAS := hidMk (sw_ask (h.keep k1) x)
  have HIN := hidMk (show ∀ Y, Kept W1 Y → _ from fun Y k => slices_IndexC (some ⟨b, o, none⟩) c l x Y (hq.kept (k1.trans k)) (by omega))
  simp only [if_neg hx] at HAS
  have HQ := hidMk (show ∀ Y, Kept W1 Y → Cq Y (some ⟨b, o, none⟩) l from fun Y k => hq.kept (k1.trans k))
  obtain ⟨i, hi1, hi2, hi3⟩ := idxC_get hn
  have HI := hidMk (show idxC l x = i ∧ i < l.length ∧ clA l i = x from ⟨hi1, hi2, hi3⟩)
  rw [hi1] at HIN
  rw [hWC, hWA] at hW1
  unfold clV hdV at *
  clear h hq hx hn hi1 hi3 k1 kA kC kD zA zC hWA hWC
  obtain ⟨y0, y2, y3, y4, y5, y6⟩ := HBX.out W1 (Chg.refl _ _)
  rw [hW1, hhb] at y0
  rw [hW1, hcb] at y2 y3 y4 y5 y6
  go_enter Tryz.func9, Tryz.ntmps9
  go_wp2_with fail
  rw [← hW1, ← hrb, ← hcb, ← hhb]
  clear hW1 hrb hcb hhb y0 y2 y3 y4 y5 y6
  refine HAS.out.mono ?_
  rintro e w2 ⟨rfl, k2⟩
  have HKZ := hidMk k2
  clear k2 HAS
  obtain ⟨y0, y2, y3, y4, y5, y6⟩ := HBX.out w2 (Chg.of_kept HKZ.out)
  go_wp2_with fail
  refine (HIN.out _ HKZ.out).mono ?_
  rintro e w4 ⟨rfl, k4⟩
  have HK4 := hidMk (HKZ.out.trans k4)
  clear k4 HIN HKZ y0 y2 y3 y4 y5 y6
  have hic : (i : Int) ≤ (c : Int) := by omega
  have hi0 : ¬ ((i : Int) < 0) := by omega
  obtain ⟨J, hJ⟩ : ∃ J, J = i + 1 := ⟨_, rfl⟩
  have HJ := hidMk hJ
  have hw : IntKind.i64.wrap ((i : Int) + 1) = (J : Int) := by rw [IntKind.wrap_i64]; omega
  have hil : (J : Int) ≤ (l.length : Int) := by omega
  by_cases hci : c = J
  · have hli : J = l.length := by omega
    subst hci
    subst hli
    clear hJ
    have HCO := hidMk (slices_ConcatC w4.heap.size 2 2 (p3 (some ⟨b, o, none⟩) (some ⟨b, o, none⟩) none) (p3 l.length 0 0) (p3 (l.take i) ([] : List Cl) []) (w4.drew.alloc (.cells #[.slice (some ⟨b, o, none⟩) i l.length, .slice (some ⟨b, o, none⟩) 0 0] 35)) (by omega) (fun k hk => by
      have hq4 := (HQ.out w4 HK4.out).kept (((Kept.refl w4).drew).alloc (.cells #[.slice (some ⟨b, o, none⟩) i l.length, .slice (some ⟨b, o, none⟩) 0 0] 35))
      have : k = 0 ∨ k = 1 := by omega
      rcases this with rfl | rfl
      · refine ⟨?_, hq4.take _, fun e => (by cases e), by show (l.take i).length ≤ 1000; rw [List.length_take]; omega⟩
        show _ = some (Value.slice (some ⟨b, o, none⟩) (l.take i).length l.length)
        rw [show (l.take i).length = i by rw [List.length_take]; omega]
        exact new_cell _ _ _ _ 0 _ rfl rfl
      · refine ⟨?_, Cq.none _ _, fun e => (by cases e), by show ([] : List Cl).length ≤ 1000; first | (simp; done) | (simp; omega)⟩
        show _ = some (Value.slice (some ⟨b, o, none⟩) ([] : List Cl).length 0)
        rw [show ([] : List Cl).length = 0 by simp]
        exact new_cell _ _ _ _ 1 _ rfl rfl))
    go_upto_region 7 with fail
    refine wp_region_held_drew (S := (fun w' => Chg (fun j => j = rb) W1 w')) (by kernel_rfl) ?_ (fun hHeld => ?_)
    · exact (Chg.of_kept HK4.out).drew
    refine wpAnyH_take (i := 0) (oi := { dst := some 24, op := _, type := _, pos := _, after := _, guard := _ }) (v := ?_) rfl (by kernel_rfl) (by kernel_rfl) (by kernel_rfl) (fun _ _ _ h => h) (Or.inl ⟨by rfl, ?_⟩) (by assumption) ?_
    rotate_left
    · (intro w9 hSw; clear hSw; go_simp; (try with_reducible rfl))
    (try simp only [Act.put, List.setIfInBounds_toArray, List.set_cons_zero, List.set_cons_succ])
    refine wpAnyH_take (i := 1) (oi := { dst := some 25, op := _, type := _, pos := _, after := _, guard := _ }) (v := ?_) rfl (by kernel_rfl) (by kernel_rfl) (by kernel_rfl) (fun _ _ _ h => h) (Or.inl ⟨by rfl, ?_⟩) (by assumption) ?_
    rotate_left
    · (intro w9 hSw; obtain ⟨y0, y2, y3, y4, y5, y6⟩ := HBX.out w9 hSw; clear hSw; go_simp; (try with_reducible rfl))
    (try simp only [Act.put, List.setIfInBounds_toArray, List.set_cons_zero, List.set_cons_succ])
    refine wpAnyH_take (i := 2) (oi := { dst := some 26, op := _, type := _, pos := _, after := _, guard := _ }) (v := ?_) rfl (by kernel_rfl) (by kernel_rfl) (by kernel_rfl) (fun _ _ _ h => h) (Or.inl ⟨by rfl, ?_⟩) (by assumption) ?_
    rotate_left
    · (intro w9 hSw; clear hSw; go_simp; (try with_reducible rfl))
    (try simp only [Act.put, List.setIfInBounds_toArray, List.set_cons_zero, List.set_cons_succ])
    refine wpAnyH_take (i := 3) (oi := { dst := some 27, op := _, type := _, pos := _, after := _, guard := _ }) (v := ?_) rfl (by kernel_rfl) (by kernel_rfl) (by kernel_rfl) (fun _ _ _ h => h) (Or.inl ⟨by rfl, ?_⟩) (by assumption) ?_
    rotate_left
    · (intro w9 hSw; clear hSw; go_simp; (try with_reducible rfl))
    (try simp only [Act.put, List.setIfInBounds_toArray, List.set_cons_zero, List.set_cons_succ])
    refine wpAnyH_take (i := 4) (oi := { dst := some 28, op := _, type := _, pos := _, after := _, guard := _ }) (v := ?_) rfl (by kernel_rfl) (by kernel_rfl) (by kernel_rfl) (fun _ _ _ h => h) (Or.inl ⟨by rfl, ?_⟩) (by assumption) ?_
    rotate_left
    · (intro w9 hSw; clear hSw; go_simp; (try with_reducible rfl))
    (try simp only [Act.put, List.setIfInBounds_toArray, List.set_cons_zero, List.set_cons_succ])
    refine wpAnyH_take (i := 5) (oi := { dst := some 29, op := _, type := _, pos := _, after := _, guard := _ }) (v := ?_) rfl (by kernel_rfl) (by kernel_rfl) (by kernel_rfl) (fun _ _ _ h => h) (Or.inl ⟨by rfl, ?_⟩) (by assumption) ?_
    rotate_left
    · (intro w9 hSw; obtain ⟨y0, y2, y3, y4, y5, y6⟩ := HBX.out w9 hSw; clear hSw; go_simp; (try with_reducible rfl))
    (try simp only [Act.put, List.setIfInBounds_toArray, List.set_cons_zero, List.set_cons_succ])
    refine wpAnyH_take (i := 6) (oi := { dst := some 30, op := _, type := _, pos := _, after := _, guard := _ }) (v := ?_) rfl (by kernel_rfl) (by kernel_rfl) (by kernel_rfl) (fun _ _ _ h => h) (Or.inl ⟨by rfl, ?_⟩) (by assumption) ?_
    rotate_left
    · (intro w9 hSw; clear hSw; go_simp; (try with_reducible rfl))
    (try simp only [Act.put, List.setIfInBounds_toArray, List.set_cons_zero, List.set_cons_succ])
    refine wpAnyH_take (i := 7) (oi := { dst := some 31, op := _, type := _, pos := _, after := _, guard := _ }) (v := ?_) rfl (by kernel_rfl) (by kernel_rfl) (by kernel_rfl) (fun _ _ _ h => h) (Or.inl ⟨by rfl, ?_⟩) (by assumption) ?_
    rotate_left
    · (intro w9 hSw; clear hSw; go_simp; (try with_reducible rfl))
    (try simp only [Act.put, List.setIfInBounds_toArray, List.set_cons_zero, List.set_cons_succ])
    refine wpAnyH_take (i := 8) (oi := { dst := some 32, op := _, type := _, pos := _, after := _, guard := _ }) (v := ?_) rfl (by kernel_rfl) (by kernel_rfl) (by kernel_rfl) (fun _ _ _ h => h) (Or.inl ⟨by rfl, ?_⟩) (by assumption) ?_
    rotate_left
    · (intro w9 hSw; clear hSw; go_simp; (try with_reducible rfl))
    (try simp only [Act.put, List.setIfInBounds_toArray, List.set_cons_zero, List.set_cons_succ])
    refine wpAnyH_ready (rs := [9]) (by kernel_rfl) (by simp) ?_
    refine AllReadyH.cons (o := { dst := some 33, op := _, type := _, pos := _, after := _, guard := _ }) rfl (fun K hK => ?_) AllReadyH.nil
    go_simp
    refine hK.out _ _ ?_ (fun hHeld => ?_)
    · (first | exact HAA.out | exact Chg.alloc hHeld _ | exact Chg.setCell (S := fun j => j = rb) HAA.out (p := ⟨rb, 0, none⟩) (.inl rfl) _)
    clear hK K
    (try simp only [Act.put, List.setIfInBounds_toArray, List.set_cons_zero, List.set_cons_succ])
    refine wpAnyH_ready (rs := [10]) (by kernel_rfl) (by simp) ?_
    refine AllReadyH.cons (o := { dst := some 34, op := _, type := _, pos := _, after := _, guard := _ }) rfl (fun K hK => ?_) AllReadyH.nil
    go_simp
    refine HCO.out.mono ?_
    rintro e wA ⟨v, rfl, ho, kA⟩
    obtain ⟨va, nv, vc, hv⟩ : ∃ va nv vc, v = Value.slice va nv vc := by obtain ⟨va, vc, hv, _, _⟩ := OwnQ.form ho; exact ⟨va, _, vc, hv⟩
    subst hv
    have HOW := hidMk ho
    have HAA := hidMk (show Chg (fun j => j = rb) W1 wA from hHeld.trans (Chg.of_kept kA))
    have HKA := hidMk (show Kept W1 wA from ((HK4.out.drew).alloc _).trans kA)
    clear ho kA
    (try go_wp2_with fail)
    refine hK.out _ _ ?_ (fun hHeld => ?_)
    · (first | exact HAA.out | exact Chg.alloc hHeld _ | exact Chg.setCell (S := fun j => j = rb) HAA.out (p := ⟨rb, 0, none⟩) (.inl rfl) _)
    clear hK K
    (try simp only [Act.put, List.setIfInBounds_toArray, List.set_cons_zero, List.set_cons_succ])
    refine wpAnyH_take (i := 11) (oi := { dst := some 35, op := _, type := _, pos := _, after := _, guard := _ }) (v := ?_) rfl (by kernel_rfl) (by kernel_rfl) (by kernel_rfl) (fun _ _ _ h => h) (Or.inl ⟨by rfl, ?_⟩) (by assumption) ?_
    rotate_left
    · (intro w9 hSw; clear hSw; go_simp; (try with_reducible rfl))
    (try simp only [Act.put, List.setIfInBounds_toArray, List.set_cons_zero, List.set_cons_succ])
    refine wpAnyH_ready (rs := [12]) (by kernel_rfl) (by simp) ?_
    refine AllReadyH.cons (o := { dst := none, op := _, type := _, pos := _, after := _, guard := _ }) rfl (fun K hK => ?_) AllReadyH.nil
    have rc := HKA.out.cellp HRB.out.1
    have rf := (HKA.out.frozen (p := ⟨rb, 0, none⟩) HRN.out.2).trans HRB.out.2
    go_simp
    clear rc rf
    refine hK.out _ _ ?_ (fun hHeld => ?_)
    · (first | exact HAA.out | exact Chg.alloc hHeld _ | exact Chg.setCell (S := fun j => j = rb) HAA.out (p := ⟨rb, 0, none⟩) (.inl rfl) _)
    clear hK K
    (try simp only [Act.put, List.setIfInBounds_toArray, List.set_cons_zero, List.set_cons_succ])
    refine wpAnyH_take (i := 13) (oi := { dst := some 7, op := _, type := _, pos := _, after := _, guard := _ }) (v := ?_) rfl (by kernel_rfl) (by kernel_rfl) (by kernel_rfl) (fun _ _ _ h => h) (Or.inl ⟨by rfl, ?_⟩) (by assumption) ?_
    rotate_left
    · (intro w9 hSw; clear hSw; go_simp; (try with_reducible rfl))
    (try simp only [Act.put, List.setIfInBounds_toArray, List.set_cons_zero, List.set_cons_succ])
    refine wpAnyH_done (by kernel_rfl) ?_ _
    have HCF := hidMk hHeld
    clear hHeld
    go_wp2_with fail
    refine bodyPost_ret (v := .tuple #[.agg #[.slice va nv vc], .int .i64 0]) ?_ rfl ⟨.slice va nv vc, i, rfl, HI.out.1, HI.out.2.1, HI.out.2.2, ?_, ?_⟩
    · simp only [results, show Tryz.f9.results = #[.cell 6 37, .tmp 7] from rfl]
      have rc : (wA.setCell ⟨rb, 0, none⟩ (.slice va nv vc)).cell? ⟨rb, 0, none⟩ = some (.slice va nv vc) := World.cell?_setCell_same _ _ _ (HKA.out.cellp HRB.out.1)
      have rl := hold_load rc
      go_simp
    · have hown : ∀ g, (Value.slice va nv vc).ownBlock = some g → ¬ g = rb := fun g hg e => by
        have h1 := (World.ownsRow.lt HOW.out g hg).1
        have h2 := HRN.out.2
        have h3 := HK4.out.size
        rw [World.size_alloc] at h1
        have h4 : w4.drew.heap.size = w4.heap.size := rfl
        omega
      have h9 := ownsRow_base (ownsRow_chg HOW.out (S := fun j => j = rb) ((Chg.refl (fun j => j = rb) wA).setCell (p := ⟨rb, 0, none⟩) (.inl rfl) (.slice va nv vc)) hown) (show w.heap.size ≤ _ from Nat.le_trans HK1.out.size (Nat.le_trans HK4.out.size ((((Kept.refl w4).drew).alloc _).size)))
      have hcat : catN (p3 (l.take i) ([] : List Cl) []) 2 = l.take i ++ l.drop (i + 1) := by rw [List.drop_eq_nil_of_le (show l.length ≤ i + 1 by have := HJ.out; omega)]; simp [catN, List.range_succ, p3]
      rw [hcat] at h9
      exact h9
    · exact Chg.kept HK1.out HCF.out (fun j e => by have := HRN.out.1; omega)
  · have hci' : ¬ J = c := fun e => hci e.symm
    clear hJ
    have HCO := hidMk (slices_ConcatC w4.heap.size 2 2 (p3 (some ⟨b, o, none⟩) (some ⟨b, o + J * 5, none⟩) none) (p3 c (c - J) 0) (p3 (l.take i) (l.drop J) []) (w4.drew.alloc (.cells #[.slice (some ⟨b, o, none⟩) i c, .slice (some ⟨b, o + J * 5, none⟩) (l.length - J) (c - J)] 35)) (by omega) (fun k hk => by
      have hq4 := (HQ.out w4 HK4.out).kept (((Kept.refl w4).drew).alloc (.cells #[.slice (some ⟨b, o, none⟩) i c, .slice (some ⟨b, o + J * 5, none⟩) (l.length - J) (c - J)] 35))
      have : k = 0 ∨ k = 1 := by omega
      rcases this with rfl | rfl
      · refine ⟨?_, hq4.take _, fun e => (by cases e), by show (l.take i).length ≤ 1000; rw [List.length_take]; omega⟩
        show _ = some (Value.slice (some ⟨b, o, none⟩) (l.take i).length c)
        rw [show (l.take i).length = i by rw [List.length_take]; omega]
        exact new_cell _ _ _ _ 0 _ rfl rfl
      · refine ⟨?_, hq4.drop J, fun e => (by cases e), by show (l.drop J).length ≤ 1000; first | (simp; done) | (simp; omega)⟩
        show _ = some (Value.slice (some ⟨b, o + J * 5, none⟩) (l.drop J).length (c - J))
        rw [show (l.drop J).length = (l.length - J) by simp]
        exact new_cell _ _ _ _ 1 _ rfl rfl))
    go_upto_region 7 with fail
    refine wp_region_held_drew (S := (fun w' => Chg (fun j => j = rb) W1 w')) (by kernel_rfl) ?_ (fun hHeld => ?_)
    · exact (Chg.of_kept HK4.out).drew
    refine wpAnyH_take (i := 0) (oi := { dst := some 24, op := _, type := _, pos := _, after := _, guard := _ }) (v := ?_) rfl (by kernel_rfl) (by kernel_rfl) (by kernel_rfl) (fun _ _ _ h => h) (Or.inl ⟨by rfl, ?_⟩) (by assumption) ?_
    rotate_left
    · (intro w9 hSw; clear hSw; go_simp; (try with_reducible rfl))
    (try simp only [Act.put, List.setIfInBounds_toArray, List.set_cons_zero, List.set_cons_succ])
    refine wpAnyH_take (i := 1) (oi := { dst := some 25, op := _, type := _, pos := _, after := _, guard := _ }) (v := ?_) rfl (by kernel_rfl) (by kernel_rfl) (by kernel_rfl) (fun _ _ _ h => h) (Or.inl ⟨by rfl, ?_⟩) (by assumption) ?_
    rotate_left
    · (intro w9 hSw; obtain ⟨y0, y2, y3, y4, y5, y6⟩ := HBX.out w9 hSw; clear hSw; go_simp; (try with_reducible rfl))
    (try simp only [Act.put, List.setIfInBounds_toArray, List.set_cons_zero, List.set_cons_succ])
    refine wpAnyH_take (i := 2) (oi := { dst := some 26, op := _, type := _, pos := _, after := _, guard := _ }) (v := ?_) rfl (by kernel_rfl) (by kernel_rfl) (by kernel_rfl) (fun _ _ _ h => h) (Or.inl ⟨by rfl, ?_⟩) (by assumption) ?_
    rotate_left
    · (intro w9 hSw; clear hSw; go_simp; (try with_reducible rfl))
    (try simp only [Act.put, List.setIfInBounds_toArray, List.set_cons_zero, List.set_cons_succ])
    refine wpAnyH_take (i := 3) (oi := { dst := some 27, op := _, type := _, pos := _, after := _, guard := _ }) (v := ?_) rfl (by kernel_rfl) (by kernel_rfl) (by kernel_rfl) (fun _ _ _ h => h) (Or.inl ⟨by rfl, ?_⟩) (by assumption) ?_
    rotate_left
    · (intro w9 hSw; clear hSw; go_simp; (try with_reducible rfl))
    (try simp only [Act.put, List.setIfInBounds_toArray, List.set_cons_zero, List.set_cons_succ])
    refine wpAnyH_take (i := 4) (oi := { dst := some 28, op := _, type := _, pos := _, after := _, guard := _ }) (v := ?_) rfl (by kernel_rfl) (by kernel_rfl) (by kernel_rfl) (fun _ _ _ h => h) (Or.inl ⟨by rfl, ?_⟩) (by assumption) ?_
    rotate_left
    · (intro w9 hSw; clear hSw; go_simp; (try with_reducible rfl))
    (try simp only [Act.put, List.setIfInBounds_toArray, List.set_cons_zero, List.set_cons_succ])
    refine wpAnyH_take (i := 5) (oi := { dst := some 29, op := _, type := _, pos := _, after := _, guard := _ }) (v := ?_) rfl (by kernel_rfl) (by kernel_rfl) (by kernel_rfl) (fun _ _ _ h => h) (Or.inl ⟨by rfl, ?_⟩) (by assumption) ?_
    rotate_left
    · (intro w9 hSw; obtain ⟨y0, y2, y3, y4, y5, y6⟩ := HBX.out w9 hSw; clear hSw; go_simp; (try with_reducible rfl))
    (try simp only [Act.put, List.setIfInBounds_toArray, List.set_cons_zero, List.set_cons_succ])
    refine wpAnyH_take (i := 6) (oi := { dst := some 30, op := _, type := _, pos := _, after := _, guard := _ }) (v := ?_) rfl (by kernel_rfl) (by kernel_rfl) (by kernel_rfl) (fun _ _ _ h => h) (Or.inl ⟨by rfl, ?_⟩) (by assumption) ?_
    rotate_left
    · (intro w9 hSw; clear hSw; go_simp; (try with_reducible rfl))
    (try simp only [Act.put, List.setIfInBounds_toArray, List.set_cons_zero, List.set_cons_succ])
    refine wpAnyH_take (i := 7) (oi := { dst := some 31, op := _, type := _, pos := _, after := _, guard := _ }) (v := ?_) rfl (by kernel_rfl) (by kernel_rfl) (by kernel_rfl) (fun _ _ _ h => h) (Or.inl ⟨by rfl, ?_⟩) (by assumption) ?_
    rotate_left
    · (intro w9 hSw; clear hSw; go_simp; (try with_reducible rfl))
    (try simp only [Act.put, List.setIfInBounds_toArray, List.set_cons_zero, List.set_cons_succ])
    refine wpAnyH_take (i := 8) (oi := { dst := some 32, op := _, type := _, pos := _, after := _, guard := _ }) (v := ?_) rfl (by kernel_rfl) (by kernel_rfl) (by kernel_rfl) (fun _ _ _ h => h) (Or.inl ⟨by rfl, ?_⟩) (by assumption) ?_
    rotate_left
    · (intro w9 hSw; clear hSw; go_simp; (try with_reducible rfl))
    (try simp only [Act.put, List.setIfInBounds_toArray, List.set_cons_zero, List.set_cons_succ])
    refine wpAnyH_ready (rs := [9]) (by kernel_rfl) (by simp) ?_
    refine AllReadyH.cons (o := { dst := some 33, op := _, type := _, pos := _, after := _, guard := _ }) rfl (fun K hK => ?_) AllReadyH.nil
    go_simp
    refine hK.out _ _ ?_ (fun hHeld => ?_)
    · (first | exact HAA.out | exact Chg.alloc hHeld _ | exact Chg.setCell (S := fun j => j = rb) HAA.out (p := ⟨rb, 0, none⟩) (.inl rfl) _)
    clear hK K
    (try simp only [Act.put, List.setIfInBounds_toArray, List.set_cons_zero, List.set_cons_succ])
    refine wpAnyH_ready (rs := [10]) (by kernel_rfl) (by simp) ?_
    refine AllReadyH.cons (o := { dst := some 34, op := _, type := _, pos := _, after := _, guard := _ }) rfl (fun K hK => ?_) AllReadyH.nil
    go_simp
    refine HCO.out.mono ?_
    rintro e wA ⟨v, rfl, ho, kA⟩
    obtain ⟨va, nv, vc, hv⟩ : ∃ va nv vc, v = Value.slice va nv vc := by obtain ⟨va, vc, hv, _, _⟩ := OwnQ.form ho; exact ⟨va, _, vc, hv⟩
    subst hv
    have HOW := hidMk ho
    have HAA := hidMk (show Chg (fun j => j = rb) W1 wA from hHeld.trans (Chg.of_kept kA))
    have HKA := hidMk (show Kept W1 wA from ((HK4.out.drew).alloc _).trans kA)
    clear ho kA
    (try go_wp2_with fail)
    refine hK.out _ _ ?_ (fun hHeld => ?_)
    · (first | exact HAA.out | exact Chg.alloc hHeld _ | exact Chg.setCell (S := fun j => j = rb) HAA.out (p := ⟨rb, 0, none⟩) (.inl rfl) _)
    clear hK K
    (try simp only [Act.put, List.setIfInBounds_toArray, List.set_cons_zero, List.set_cons_succ])
    refine wpAnyH_take (i := 11) (oi := { dst := some 35, op := _, type := _, pos := _, after := _, guard := _ }) (v := ?_) rfl (by kernel_rfl) (by kernel_rfl) (by kernel_rfl) (fun _ _ _ h => h) (Or.inl ⟨by rfl, ?_⟩) (by assumption) ?_
    rotate_left
    · (intro w9 hSw; clear hSw; go_simp; (try with_reducible rfl))
    (try simp only [Act.put, List.setIfInBounds_toArray, List.set_cons_zero, List.set_cons_succ])
    refine wpAnyH_ready (rs := [12]) (by kernel_rfl) (by simp) ?_
    refine AllReadyH.cons (o := { dst := none, op := _, type := _, pos := _, after := _, guard := _ }) rfl (fun K hK => ?_) AllReadyH.nil
    have rc := HKA.out.cellp HRB.out.1
    have rf := (HKA.out.frozen (p := ⟨rb, 0, none⟩) HRN.out.2).trans HRB.out.2
    go_simp
    clear rc rf
    refine hK.out _ _ ?_ (fun hHeld => ?_)
    · (first | exact HAA.out | exact Chg.alloc hHeld _ | exact Chg.setCell (S := fun j => j = rb) HAA.out (p := ⟨rb, 0, none⟩) (.inl rfl) _)
    clear hK K
    (try simp only [Act.put, List.setIfInBounds_toArray, List.set_cons_zero, List.set_cons_succ])
    refine wpAnyH_take (i := 13) (oi := { dst := some 7, op := _, type := _, pos := _, after := _, guard := _ }) (v := ?_) rfl (by kernel_rfl) (by kernel_rfl) (by kernel_rfl) (fun _ _ _ h => h) (Or.inl ⟨by rfl, ?_⟩) (by assumption) ?_
    rotate_left
    · (intro w9 hSw; clear hSw; go_simp; (try with_reducible rfl))
    (try simp only [Act.put, List.setIfInBounds_toArray, List.set_cons_zero, List.set_cons_succ])
    refine wpAnyH_done (by kernel_rfl) ?_ _
    have HCF := hidMk hHeld
    clear hHeld
    go_wp2_with fail
    refine bodyPost_ret (v := .tuple #[.agg #[.slice va nv vc], .int .i64 0]) ?_ rfl ⟨.slice va nv vc, i, rfl, HI.out.1, HI.out.2.1, HI.out.2.2, ?_, ?_⟩
    · simp only [results, show Tryz.f9.results = #[.cell 6 37, .tmp 7] from rfl]
      have rc : (wA.setCell ⟨rb, 0, none⟩ (.slice va nv vc)).cell? ⟨rb, 0, none⟩ = some (.slice va nv vc) := World.cell?_setCell_same _ _ _ (HKA.out.cellp HRB.out.1)
      have rl := hold_load rc
      go_simp
    · have hown : ∀ g, (Value.slice va nv vc).ownBlock = some g → ¬ g = rb := fun g hg e => by
        have h1 := (World.ownsRow.lt HOW.out g hg).1
        have h2 := HRN.out.2
        have h3 := HK4.out.size
        rw [World.size_alloc] at h1
        have h4 : w4.drew.heap.size = w4.heap.size := rfl
        omega
      have h9 := ownsRow_base (ownsRow_chg HOW.out (S := fun j => j = rb) ((Chg.refl (fun j => j = rb) wA).setCell (p := ⟨rb, 0, none⟩) (.inl rfl) (.slice va nv vc)) hown) (show w.heap.size ≤ _ from Nat.le_trans HK1.out.size (Nat.le_trans HK4.out.size ((((Kept.refl w4).drew).alloc _).size)))
      have hcat : catN (p3 (l.take i) (l.drop J) []) 2 = l.take i ++ l.drop (i + 1) := by rw [← HJ.out]; simp [catN, List.range_succ, p3]
      rw [hcat] at h9
      exact h9
    · exact Chg.kept HK1.out HCF.out (fun j e => by have := HRN.out.1; omega)
end
end Go.Proofs.YtpkepkemjcjplaaGreat
