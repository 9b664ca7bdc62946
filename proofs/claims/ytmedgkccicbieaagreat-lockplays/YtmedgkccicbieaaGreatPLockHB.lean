/- lock: Drop. · lock: cells that are locked, by rising numbers; Add and Drop, each in one contract. -/
import Derived.Test.YtmedgkccicbieaaGreatPTk
import Derived.Test.YtmedgkccicbieaaGreatPLockGB
namespace Go.Proofs.YtmedgkccicbieaaGreat
open Go.RowKit Go.Maps
set_option linter.unusedSimpArgs false
set_option linter.unusedVariables false

def LkDrop (w : World) (l : List Pk) (i : Nat) (e : Ending) (w' : World) : Prop := ∃ v, e = .returned (.tuple #[.agg #[v], .int .i64 0]) ∧ OwnPk w' w.heap.size v (l.take i ++ l.drop (i + 1)) ∧ Kept w w'
section
variable {w : World} {s p : Nat} {ds : List Dm} {ms : List ByteArray} {tp : Nat → Nat} {rv : Nat → Option Addr × Nat}
set_option maxHeartbeats 8000000 in
set_option maxRecDepth 100000 in
theorem lock_Drop_ask (h : SW w s p ds ms tp rv) (a : Option Addr) (c : Nat) (l : List Pk) (x : Cl) (u : ByteArray) (hq : Pq w a l) (hl : l.length ≤ 40) (huz : u.size ≤ maxLen) (r : Int) (hA : askE ms ds x u = r) (hr : ¬ r = 0) :
    Calls Tryz.prog 27 #[hdV a l.length c, .pointer (some ⟨s, 0, none⟩), clV x, .string u] w (HdNo w r) := by
  have hrb0 : (r != 0) = true := by simpa using hr
  obtain ⟨hb, hhb⟩ : ∃ z, z = w.heap.size := ⟨_, rfl⟩
  obtain ⟨cb, hcb⟩ : ∃ z, z = w.heap.size + 1 := ⟨_, rfl⟩
  obtain ⟨rb, hrb⟩ : ∃ z, z = w.heap.size + 1 + 1 := ⟨_, rfl⟩
  obtain ⟨WA, hWA⟩ : ∃ V, V = w.alloc (.cells #[.slice a l.length c] 66) := ⟨_, rfl⟩
  obtain ⟨WC, hWC⟩ : ∃ V, V = WA.alloc (.cells #[.int .i64 x.1, .int .i64 x.2.1, .int .i64 x.2.2.1, .int .i64 x.2.2.2.1, .int .i64 x.2.2.2.2] 29) := ⟨_, rfl⟩
  obtain ⟨W1, hW1⟩ : ∃ V, V = WC.alloc (.cells #[.slice none 0 0] 66) := ⟨_, rfl⟩
  have kA : Kept w WA := by rw [hWA]; exact (Kept.refl _).alloc _
  have kC : Kept WA WC := by rw [hWC]; exact (Kept.refl _).alloc _
  have kD : Kept WC W1 := by rw [hW1]; exact (Kept.refl _).alloc _
  have zA : WA.heap.size = w.heap.size + 1 := by rw [hWA, World.size_alloc]
  have zC : WC.heap.size = w.heap.size + 1 + 1 := by rw [hWC, World.size_alloc, zA]
  have k1 := kA.trans (kC.trans kD)
  have HK1 := hidMk k1
  have HBX := hidMk (show ∀ Y, Chg (fun j => j = rb) W1 Y → Y.cell? ⟨hb, 0, none⟩ = some (.slice a l.length c) ∧ Y.cell? ⟨cb, 0, none⟩ = some (.int .i64 x.1) ∧ Y.cell? ⟨cb, 1, none⟩ = some (.int .i64 x.2.1) ∧ Y.cell? ⟨cb, 2, none⟩ = some (.int .i64 x.2.2.1) ∧ Y.cell? ⟨cb, 3, none⟩ = some (.int .i64 x.2.2.2.1) ∧ Y.cell? ⟨cb, 4, none⟩ = some (.int .i64 x.2.2.2.2) from fun Y k => by
    have e1 : WA.cell? ⟨hb, 0, none⟩ = some (.slice a l.length c) := by rw [hWA]; exact new_cell _ _ _ _ 0 _ hhb rfl
    obtain ⟨f0, f1, f2, f3, f4⟩ := boxC_at WA x 29 (hcb.trans zA.symm) WC (by rw [← hWC]; exact Kept.refl _)
    have n1 : hb ≠ rb := by omega
    have n3 : cb ≠ rb := by omega
    exact ⟨k.cellp ((kC.trans kD).cellp e1) n1, k.cellp (kD.cellp f0) n3, k.cellp (kD.cellp f1) n3, k.cellp (kD.cellp f2) n3, k.cellp (kD.cellp f3) n3, k.cellp (kD.cellp f4) n3⟩)
  have HRB := hidMk (show W1.cell? ⟨rb, 0, none⟩ = some (.slice none 0 0) ∧ W1.frozen? ⟨rb, 0, none⟩ = false from by
    rw [hW1]; exact ⟨new_cell _ _ _ _ 0 _ (hrb.trans zC.symm) rfl, new_frozen _ _ _ (hrb.trans zC.symm) 0⟩)
  have HRN := hidMk (show w.heap.size ≤ rb ∧ rb < W1.heap.size from ⟨by omega, cell_lt (p := ⟨rb, 0, none⟩) HRB.out.1⟩)
  have HAS := hidMk (lsw_ask (h.keep k1) x u huz)
  rw [hA] at HAS
  rw [hWC, hWA] at hW1
  unfold clV hdV at *
  clear h hq hA k1 kA kC kD zA zC hWA hWC
  obtain ⟨y0, y2, y3, y4, y5, y6⟩ := HBX.out W1 (Chg.refl _ _)
  rw [hW1, hhb] at y0
  rw [hW1, hcb] at y2 y3 y4 y5 y6
  go_enter Tryz.func27, Tryz.ntmps27
  go_wp2_with fail
  rw [← hW1, ← hrb, ← hcb, ← hhb]
  clear hW1 hrb hcb hhb y0 y2 y3 y4 y5 y6
  refine HAS.out.mono ?_
  rintro e w2 ⟨rfl, k2⟩
  have HK2 := hidMk k2
  clear k2 HAS
  have rc := HK2.out.cellp HRB.out.1
  have rf := (HK2.out.frozen (p := ⟨rb, 0, none⟩) HRN.out.2).trans HRB.out.2
  go_wp2_with fail
  refine bodyPost_ret (v := .tuple #[.agg #[.slice none 0 0], .int .i64 r]) ?_ rfl ⟨rfl, ?_⟩
  · simp only [results, show Tryz.f27.results = #[.cell 8 66, .tmp 9] from rfl]
    have rc2 : (w2.setCell ⟨rb, 0, none⟩ (.slice none 0 0)).cell? ⟨rb, 0, none⟩ = some (.slice none 0 0) := World.cell?_setCell_same _ _ _ (HK2.out.cellp HRB.out.1)
    have rl := lock_load rc2
    go_simp
  · exact Chg.kept HK1.out ((Chg.of_kept HK2.out).setCell (S := fun j => j = rb) (p := ⟨rb, 0, none⟩) (.inl rfl) _) (fun j e => by have := HRN.out.1; omega)
set_option maxHeartbeats 8000000 in
set_option maxRecDepth 100000 in
theorem lock_Drop_none (h : SW w s p ds ms tp rv) (a : Option Addr) (c : Nat) (l : List Pk) (x : Cl) (u : ByteArray) (hq : Pq w a l) (hl : l.length ≤ 40) (huz : u.size ≤ maxLen) (hA : askE ms ds x u = 0) (hno : ∀ t, t < l.length → (pkA l t).1 ≠ x) :
    Calls Tryz.prog 27 #[hdV a l.length c, .pointer (some ⟨s, 0, none⟩), clV x, .string u] w (HdNo w 10) := by
  obtain ⟨hb, hhb⟩ : ∃ z, z = w.heap.size := ⟨_, rfl⟩
  obtain ⟨cb, hcb⟩ : ∃ z, z = w.heap.size + 1 := ⟨_, rfl⟩
  obtain ⟨rb, hrb⟩ : ∃ z, z = w.heap.size + 1 + 1 := ⟨_, rfl⟩
  obtain ⟨WA, hWA⟩ : ∃ V, V = w.alloc (.cells #[.slice a l.length c] 66) := ⟨_, rfl⟩
  obtain ⟨WC, hWC⟩ : ∃ V, V = WA.alloc (.cells #[.int .i64 x.1, .int .i64 x.2.1, .int .i64 x.2.2.1, .int .i64 x.2.2.2.1, .int .i64 x.2.2.2.2] 29) := ⟨_, rfl⟩
  obtain ⟨W1, hW1⟩ : ∃ V, V = WC.alloc (.cells #[.slice none 0 0] 66) := ⟨_, rfl⟩
  have kA : Kept w WA := by rw [hWA]; exact (Kept.refl _).alloc _
  have kC : Kept WA WC := by rw [hWC]; exact (Kept.refl _).alloc _
  have kD : Kept WC W1 := by rw [hW1]; exact (Kept.refl _).alloc _
  have zA : WA.heap.size = w.heap.size + 1 := by rw [hWA, World.size_alloc]
  have zC : WC.heap.size = w.heap.size + 1 + 1 := by rw [hWC, World.size_alloc, zA]
  have k1 := kA.trans (kC.trans kD)
  have HK1 := hidMk k1
  have HBX := hidMk (show ∀ Y, Chg (fun j => j = rb) W1 Y → Y.cell? ⟨hb, 0, none⟩ = some (.slice a l.length c) ∧ Y.cell? ⟨cb, 0, none⟩ = some (.int .i64 x.1) ∧ Y.cell? ⟨cb, 1, none⟩ = some (.int .i64 x.2.1) ∧ Y.cell? ⟨cb, 2, none⟩ = some (.int .i64 x.2.2.1) ∧ Y.cell? ⟨cb, 3, none⟩ = some (.int .i64 x.2.2.2.1) ∧ Y.cell? ⟨cb, 4, none⟩ = some (.int .i64 x.2.2.2.2) from fun Y k => by
    have e1 : WA.cell? ⟨hb, 0, none⟩ = some (.slice a l.length c) := by rw [hWA]; exact new_cell _ _ _ _ 0 _ hhb rfl
    obtain ⟨f0, f1, f2, f3, f4⟩ := boxC_at WA x 29 (hcb.trans zA.symm) WC (by rw [← hWC]; exact Kept.refl _)
    have n1 : hb ≠ rb := by omega
    have n3 : cb ≠ rb := by omega
    exact ⟨k.cellp ((kC.trans kD).cellp e1) n1, k.cellp (kD.cellp f0) n3, k.cellp (kD.cellp f1) n3, k.cellp (kD.cellp f2) n3, k.cellp (kD.cellp f3) n3, k.cellp (kD.cellp f4) n3⟩)
  have HRB := hidMk (show W1.cell? ⟨rb, 0, none⟩ = some (.slice none 0 0) ∧ W1.frozen? ⟨rb, 0, none⟩ = false from by
    rw [hW1]; exact ⟨new_cell _ _ _ _ 0 _ (hrb.trans zC.symm) rfl, new_frozen _ _ _ (hrb.trans zC.symm) 0⟩)
  have HRN := hidMk (show w.heap.size ≤ rb ∧ rb < W1.heap.size from ⟨by omega, cell_lt (p := ⟨rb, 0, none⟩) HRB.out.1⟩)
  have HAS := hidMk (lsw_ask (h.keep k1) x u huz)
  rw [hA] at HAS
  have HFI := hidMk (show ∀ Y, Kept W1 Y → _ from fun Y k => lock_find a c l x Y (hq.kept (k1.trans k)) (by omega))
  have HQ := hidMk (show ∀ Y, Kept W1 Y → Pq Y a l from fun Y k => hq.kept (k1.trans k))
  rw [hWC, hWA] at hW1
  unfold clV hdV at *
  clear h hq hA k1 kA kC kD zA zC hWA hWC
  obtain ⟨y0, y2, y3, y4, y5, y6⟩ := HBX.out W1 (Chg.refl _ _)
  rw [hW1, hhb] at y0
  rw [hW1, hcb] at y2 y3 y4 y5 y6
  go_enter Tryz.func27, Tryz.ntmps27
  go_wp2_with fail
  rw [← hW1, ← hrb, ← hcb, ← hhb]
  clear hW1 hrb hcb hhb y0 y2 y3 y4 y5 y6
  refine HAS.out.mono ?_
  rintro e w2 ⟨rfl, k2⟩
  have HK2 := hidMk k2
  clear k2 HAS
  obtain ⟨y0, y2, y3, y4, y5, y6⟩ := HBX.out w2 (Chg.of_kept HK2.out)
  go_wp2_with fail
  refine (HFI.out _ HK2.out).mono ?_
  rintro e w3 ⟨z, rfl, hz, k3⟩
  obtain rfl : z = -1 := by
    rcases hz with ⟨k', rfl, h1, h2, h3⟩ | ⟨h, _⟩
    · exact absurd (of_decide_eq_true h2) (hno k' h1)
    · exact h
  have HK3 := hidMk (HK2.out.trans k3)
  clear k3 hz HFI HK2 y0 y2 y3 y4 y5 y6
  obtain ⟨y0, y2, y3, y4, y5, y6⟩ := HBX.out w3 (Chg.of_kept HK3.out)
  clear hno
  clear y0 y2 y3 y4 y5 y6
  have rc := HK3.out.cellp HRB.out.1
  have rf := (HK3.out.frozen (p := ⟨rb, 0, none⟩) HRN.out.2).trans HRB.out.2
  go_wp2_with fail
  refine bodyPost_ret (v := .tuple #[.agg #[.slice none 0 0], .int .i64 10]) ?_ rfl ⟨rfl, ?_⟩
  · simp only [results, show Tryz.f27.results = #[.cell 8 66, .tmp 9] from rfl]
    have rc2 : (w3.setCell ⟨rb, 0, none⟩ (.slice none 0 0)).cell? ⟨rb, 0, none⟩ = some (.slice none 0 0) := World.cell?_setCell_same _ _ _ (HK3.out.cellp HRB.out.1)
    have rl := lock_load rc2
    go_simp
  · exact Chg.kept HK1.out ((Chg.of_kept HK3.out).setCell (S := fun j => j = rb) (p := ⟨rb, 0, none⟩) (.inl rfl) _) (fun j e => by have := HRN.out.1; omega)
set_option maxHeartbeats 8000000 in
set_option maxRecDepth 100000 in
theorem lock_Drop_lok (h : SW w s p ds ms tp rv) (a : Option Addr) (c : Nat) (l : List Pk) (x : Cl) (u : ByteArray) (hq : Pq w a l) (hl : l.length ≤ 40) (huz : u.size ≤ maxLen) (hA : askE ms ds x u = 0) (hcd : ∀ i j, i < l.length → j < l.length → (pkA l i).1 = (pkA l j).1 → i = j) (k : Nat) (hk : k < l.length) (hce : (pkA l k).1 = x) (hue : (pkA l k).2.1 ≠ u) :
    Calls Tryz.prog 27 #[hdV a l.length c, .pointer (some ⟨s, 0, none⟩), clV x, .string u] w (HdNo w 12) := by
  obtain ⟨b, o, rfl⟩ := hq.form (show 0 < l.length by omega)
  obtain ⟨hb, hhb⟩ : ∃ z, z = w.heap.size := ⟨_, rfl⟩
  obtain ⟨cb, hcb⟩ : ∃ z, z = w.heap.size + 1 := ⟨_, rfl⟩
  obtain ⟨rb, hrb⟩ : ∃ z, z = w.heap.size + 1 + 1 := ⟨_, rfl⟩
  obtain ⟨WA, hWA⟩ : ∃ V, V = w.alloc (.cells #[.slice (some ⟨b, o, none⟩) l.length c] 66) := ⟨_, rfl⟩
  obtain ⟨WC, hWC⟩ : ∃ V, V = WA.alloc (.cells #[.int .i64 x.1, .int .i64 x.2.1, .int .i64 x.2.2.1, .int .i64 x.2.2.2.1, .int .i64 x.2.2.2.2] 29) := ⟨_, rfl⟩
  obtain ⟨W1, hW1⟩ : ∃ V, V = WC.alloc (.cells #[.slice none 0 0] 66) := ⟨_, rfl⟩
  have kA : Kept w WA := by rw [hWA]; exact (Kept.refl _).alloc _
  have kC : Kept WA WC := by rw [hWC]; exact (Kept.refl _).alloc _
  have kD : Kept WC W1 := by rw [hW1]; exact (Kept.refl _).alloc _
  have zA : WA.heap.size = w.heap.size + 1 := by rw [hWA, World.size_alloc]
  have zC : WC.heap.size = w.heap.size + 1 + 1 := by rw [hWC, World.size_alloc, zA]
  have k1 := kA.trans (kC.trans kD)
  have HK1 := hidMk k1
  have HBX := hidMk (show ∀ Y, Chg (fun j => j = rb) W1 Y → Y.cell? ⟨hb, 0, none⟩ = some (.slice (some ⟨b, o, none⟩) l.length c) ∧ Y.cell? ⟨cb, 0, none⟩ = some (.int .i64 x.1) ∧ Y.cell? ⟨cb, 1, none⟩ = some (.int .i64 x.2.1) ∧ Y.cell? ⟨cb, 2, none⟩ = some (.int .i64 x.2.2.1) ∧ Y.cell? ⟨cb, 3, none⟩ = some (.int .i64 x.2.2.2.1) ∧ Y.cell? ⟨cb, 4, none⟩ = some (.int .i64 x.2.2.2.2) from fun Y k => by
    have e1 : WA.cell? ⟨hb, 0, none⟩ = some (.slice (some ⟨b, o, none⟩) l.length c) := by rw [hWA]; exact new_cell _ _ _ _ 0 _ hhb rfl
    obtain ⟨f0, f1, f2, f3, f4⟩ := boxC_at WA x 29 (hcb.trans zA.symm) WC (by rw [← hWC]; exact Kept.refl _)
    have n1 : hb ≠ rb := by omega
    have n3 : cb ≠ rb := by omega
    exact ⟨k.cellp ((kC.trans kD).cellp e1) n1, k.cellp (kD.cellp f0) n3, k.cellp (kD.cellp f1) n3, k.cellp (kD.cellp f2) n3, k.cellp (kD.cellp f3) n3, k.cellp (kD.cellp f4) n3⟩)
  have HRB := hidMk (show W1.cell? ⟨rb, 0, none⟩ = some (.slice none 0 0) ∧ W1.frozen? ⟨rb, 0, none⟩ = false from by
    rw [hW1]; exact ⟨new_cell _ _ _ _ 0 _ (hrb.trans zC.symm) rfl, new_frozen _ _ _ (hrb.trans zC.symm) 0⟩)
  have HRN := hidMk (show w.heap.size ≤ rb ∧ rb < W1.heap.size from ⟨by omega, cell_lt (p := ⟨rb, 0, none⟩) HRB.out.1⟩)
  have HAS := hidMk (lsw_ask (h.keep k1) x u huz)
  rw [hA] at HAS
  have HFI := hidMk (show ∀ Y, Kept W1 Y → _ from fun Y k => lock_find (some ⟨b, o, none⟩) c l x Y (hq.kept (k1.trans k)) (by omega))
  have HQ := hidMk (show ∀ Y, Kept W1 Y → Pq Y (some ⟨b, o, none⟩) l from fun Y k => hq.kept (k1.trans k))
  rw [hWC, hWA] at hW1
  unfold clV hdV at *
  clear h hq hA k1 kA kC kD zA zC hWA hWC
  obtain ⟨y0, y2, y3, y4, y5, y6⟩ := HBX.out W1 (Chg.refl _ _)
  rw [hW1, hhb] at y0
  rw [hW1, hcb] at y2 y3 y4 y5 y6
  go_enter Tryz.func27, Tryz.ntmps27
  go_wp2_with fail
  rw [← hW1, ← hrb, ← hcb, ← hhb]
  clear hW1 hrb hcb hhb y0 y2 y3 y4 y5 y6
  refine HAS.out.mono ?_
  rintro e w2 ⟨rfl, k2⟩
  have HK2 := hidMk k2
  clear k2 HAS
  obtain ⟨y0, y2, y3, y4, y5, y6⟩ := HBX.out w2 (Chg.of_kept HK2.out)
  go_wp2_with fail
  refine (HFI.out _ HK2.out).mono ?_
  rintro e w3 ⟨z, rfl, hz, k3⟩
  obtain rfl : z = (k : Int) := by
    rcases hz with ⟨k', rfl, h1, h2, h3⟩ | ⟨_, h2⟩
    · rw [hcd k' k h1 hk (by rw [of_decide_eq_true h2, hce])]
    · exact absurd hce (of_decide_eq_false (h2 k hk))
  have HK3 := hidMk (HK2.out.trans k3)
  clear k3 hz HFI HK2 y0 y2 y3 y4 y5 y6
  obtain ⟨y0, y2, y3, y4, y5, y6⟩ := HBX.out w3 (Chg.of_kept HK3.out)
  have hk0 : (0 : Int) ≤ (k : Int) := by omega
  have hk1 : (k : Int) < (l.length : Int) := by omega
  obtain ⟨c0, c1, c2, c3, c4, c5, c6⟩ := (HQ.out w3 HK3.out).at hk
  clear hcd hce
  have hki : ¬ ((k : Int) < 0) := by omega
  have hus := bytes_neD hue
  clear hue
  generalize pkA l k = X at *
  have rc := HK3.out.cellp HRB.out.1
  have rf := (HK3.out.frozen (p := ⟨rb, 0, none⟩) HRN.out.2).trans HRB.out.2
  go_wp2_with fail
  refine bodyPost_ret (v := .tuple #[.agg #[.slice none 0 0], .int .i64 12]) ?_ rfl ⟨rfl, ?_⟩
  · simp only [results, show Tryz.f27.results = #[.cell 8 66, .tmp 9] from rfl]
    have rc2 : (w3.setCell ⟨rb, 0, none⟩ (.slice none 0 0)).cell? ⟨rb, 0, none⟩ = some (.slice none 0 0) := World.cell?_setCell_same _ _ _ (HK3.out.cellp HRB.out.1)
    have rl := lock_load rc2
    go_simp
  · exact Chg.kept HK1.out ((Chg.of_kept HK3.out).setCell (S := fun j => j = rb) (p := ⟨rb, 0, none⟩) (.inl rfl) _) (fun j e => by have := HRN.out.1; omega)
set_option maxHeartbeats 8000000 in
set_option maxRecDepth 100000 in
theorem lock_Drop_some (h : SW w s p ds ms tp rv) (b o c : Nat) (l : List Pk) (x : Cl) (u : ByteArray) (hq : Pq w (some ⟨b, o, none⟩) l) (hl : l.length ≤ 40) (hc : l.length ≤ c) (huz : u.size ≤ maxLen) (hA : askE ms ds x u = 0) (hcd : ∀ i j, i < l.length → j < l.length → (pkA l i).1 = (pkA l j).1 → i = j) (i : Nat) (hk : i < l.length) (hce : (pkA l i).1 = x) (hue : (pkA l i).2.1 = u) :
    Calls Tryz.prog 27 #[hdV (some ⟨b, o, none⟩) l.length c, .pointer (some ⟨s, 0, none⟩), clV x, .string u] w (LkDrop w l i) := by
  obtain ⟨hb, hhb⟩ : ∃ z, z = w.heap.size := ⟨_, rfl⟩
  obtain ⟨cb, hcb⟩ : ∃ z, z = w.heap.size + 1 := ⟨_, rfl⟩
  obtain ⟨rb, hrb⟩ : ∃ z, z = w.heap.size + 1 + 1 := ⟨_, rfl⟩
  obtain ⟨WA, hWA⟩ : ∃ V, V = w.alloc (.cells #[.slice (some ⟨b, o, none⟩) l.length c] 66) := ⟨_, rfl⟩
  obtain ⟨WC, hWC⟩ : ∃ V, V = WA.alloc (.cells #[.int .i64 x.1, .int .i64 x.2.1, .int .i64 x.2.2.1, .int .i64 x.2.2.2.1, .int .i64 x.2.2.2.2] 29) := ⟨_, rfl⟩
  obtain ⟨W1, hW1⟩ : ∃ V, V = WC.alloc (.cells #[.slice none 0 0] 66) := ⟨_, rfl⟩
  have kA : Kept w WA := by rw [hWA]; exact (Kept.refl _).alloc _
  have kC : Kept WA WC := by rw [hWC]; exact (Kept.refl _).alloc _
  have kD : Kept WC W1 := by rw [hW1]; exact (Kept.refl _).alloc _
  have zA : WA.heap.size = w.heap.size + 1 := by rw [hWA, World.size_alloc]
  have zC : WC.heap.size = w.heap.size + 1 + 1 := by rw [hWC, World.size_alloc, zA]
  have k1 := kA.trans (kC.trans kD)
  have HK1 := hidMk k1
  have HBX := hidMk (show ∀ Y, Chg (fun j => j = rb) W1 Y → Y.cell? ⟨hb, 0, none⟩ = some (.slice (some ⟨b, o, none⟩) l.length c) ∧ Y.cell? ⟨cb, 0, none⟩ = some (.int .i64 x.1) ∧ Y.cell? ⟨cb, 1, none⟩ = some (.int .i64 x.2.1) ∧ Y.cell? ⟨cb, 2, none⟩ = some (.int .i64 x.2.2.1) ∧ Y.cell? ⟨cb, 3, none⟩ = some (.int .i64 x.2.2.2.1) ∧ Y.cell? ⟨cb, 4, none⟩ = some (.int .i64 x.2.2.2.2) from fun Y k => by
    have e1 : WA.cell? ⟨hb, 0, none⟩ = some (.slice (some ⟨b, o, none⟩) l.length c) := by rw [hWA]; exact new_cell _ _ _ _ 0 _ hhb rfl
    obtain ⟨f0, f1, f2, f3, f4⟩ := boxC_at WA x 29 (hcb.trans zA.symm) WC (by rw [← hWC]; exact Kept.refl _)
    have n1 : hb ≠ rb := by omega
    have n3 : cb ≠ rb := by omega
    exact ⟨k.cellp ((kC.trans kD).cellp e1) n1, k.cellp (kD.cellp f0) n3, k.cellp (kD.cellp f1) n3, k.cellp (kD.cellp f2) n3, k.cellp (kD.cellp f3) n3, k.cellp (kD.cellp f4) n3⟩)
  have HRB := hidMk (show W1.cell? ⟨rb, 0, none⟩ = some (.slice none 0 0) ∧ W1.frozen? ⟨rb, 0, none⟩ = false from by
    rw [hW1]; exact ⟨new_cell _ _ _ _ 0 _ (hrb.trans zC.symm) rfl, new_frozen _ _ _ (hrb.trans zC.symm) 0⟩)
  have HRN := hidMk (show w.heap.size ≤ rb ∧ rb < W1.heap.size from ⟨by omega, cell_lt (p := ⟨rb, 0, none⟩) HRB.out.1⟩)
  have HAS := hidMk (lsw_ask (h.keep k1) x u huz)
  rw [hA] at HAS
  have HFI := hidMk (show ∀ Y, Kept W1 Y → _ from fun Y k => lock_find (some ⟨b, o, none⟩) c l x Y (hq.kept (k1.trans k)) (by omega))
  have HQ := hidMk (show ∀ Y, Kept W1 Y → Pq Y (some ⟨b, o, none⟩) l from fun Y k => hq.kept (k1.trans k))
  rw [hWC, hWA] at hW1
  unfold clV hdV at *
  clear h hq hA k1 kA kC kD zA zC hWA hWC
  obtain ⟨y0, y2, y3, y4, y5, y6⟩ := HBX.out W1 (Chg.refl _ _)
  rw [hW1, hhb] at y0
  rw [hW1, hcb] at y2 y3 y4 y5 y6
  go_enter Tryz.func27, Tryz.ntmps27
  go_wp2_with fail
  rw [← hW1, ← hrb, ← hcb, ← hhb]
  clear hW1 hrb hcb hhb y0 y2 y3 y4 y5 y6
  refine HAS.out.mono ?_
  rintro e w2 ⟨rfl, k2⟩
  have HK2 := hidMk k2
  clear k2 HAS
  obtain ⟨y0, y2, y3, y4, y5, y6⟩ := HBX.out w2 (Chg.of_kept HK2.out)
  go_wp2_with fail
  refine (HFI.out _ HK2.out).mono ?_
  rintro e w4 ⟨z, rfl, hz, k3⟩
  obtain rfl : z = (i : Int) := by
    rcases hz with ⟨k', rfl, h1, h2, h3⟩ | ⟨_, h2⟩
    · rw [hcd k' i h1 hk (by rw [of_decide_eq_true h2, hce])]
    · exact absurd hce (of_decide_eq_false (h2 i hk))
  have HK4 := hidMk (HK2.out.trans k3)
  clear k3 hz HFI HK2 y0 y2 y3 y4 y5 y6
  obtain ⟨y0, y2, y3, y4, y5, y6⟩ := HBX.out w4 (Chg.of_kept HK4.out)
  have hk0 : (0 : Int) ≤ (i : Int) := by omega
  have hk1 : (i : Int) < (l.length : Int) := by omega
  obtain ⟨c0, c1, c2, c3, c4, c5, c6⟩ := (HQ.out w4 HK4.out).at hk
  clear hcd hce
  have hus : ((pkA l i).2.1.toList == u.toList) = true := by rw [hue]; simp
  clear hue
  clear hk0 hk1
  have hki : ¬ ((i : Int) < 0) := by omega
  have hk1 : (i : Int) < (l.length : Int) := by omega
  obtain ⟨X, hX⟩ : ∃ X, pkA l i = X := ⟨_, rfl⟩
  rw [hX] at c0 c1 c2 c3 c4 c5 c6 hus
  clear hX
  go_upto_region 9 with fail
  clear y0 y2 y3 y4 y5 y6 c0 c1 c2 c3 c4 c5 c6 hus hk1 hki
  have hic : (i : Int) ≤ (c : Int) := by omega
  obtain ⟨J, hJ⟩ : ∃ J, J = i + 1 := ⟨_, rfl⟩
  have HJ := hidMk hJ
  have hw : IntKind.i64.wrap ((i : Int) + 1) = (J : Int) := by rw [IntKind.wrap_i64]; omega
  have hil : (J : Int) ≤ (l.length : Int) := by omega
  by_cases hci : c = J
  · have hli : J = l.length := by omega
    subst hci
    subst hli
    clear hJ
    have HCO := hidMk (slices_ConcatPk w4.heap.size 2 2 (p3 (some ⟨b, o, none⟩) (some ⟨b, o, none⟩) none) (p3 l.length 0 0) (p3 (l.take i) ([] : List Pk) []) (w4.drew.alloc (.cells #[.slice (some ⟨b, o, none⟩) i l.length, .slice (some ⟨b, o, none⟩) 0 0] 64)) (by omega) (fun kk hkk => by
      have hq4 := (HQ.out w4 HK4.out).kept (((Kept.refl w4).drew).alloc (.cells #[.slice (some ⟨b, o, none⟩) i l.length, .slice (some ⟨b, o, none⟩) 0 0] 64))
      have : kk = 0 ∨ kk = 1 := by omega
      rcases this with rfl | rfl
      · refine ⟨?_, hq4.take _, fun e => (by cases e), by show (l.take i).length ≤ 1000; rw [List.length_take]; omega⟩
        show _ = some (Value.slice (some ⟨b, o, none⟩) (l.take i).length l.length)
        rw [show (l.take i).length = i by rw [List.length_take]; omega]
        exact new_cell _ _ _ _ 0 _ rfl rfl
      · refine ⟨?_, Pq.none _ _, fun e => (by cases e), by show ([] : List Pk).length ≤ 1000; first | (simp; done) | (simp; omega)⟩
        show _ = some (Value.slice (some ⟨b, o, none⟩) ([] : List Pk).length 0)
        rw [show ([] : List Pk).length = 0 by simp]
        exact new_cell _ _ _ _ 1 _ rfl rfl))
    refine wp_region_held_drew (S := (fun w' => Chg (fun j => j = rb) W1 w')) (by kernel_rfl) ?_ (fun hHeld => ?_)
    · exact (Chg.of_kept HK4.out).drew
    refine tkL 0 36 (v := ?_) rfl ?_ ?_
    rotate_left
    · (intro w9 hSw; clear hSw; go_simp; (try with_reducible rfl))
    (try simp only [tkS])
    refine tkL 1 37 (v := ?_) rfl ?_ ?_
    rotate_left
    · (intro w9 hSw; obtain ⟨y0, y2, y3, y4, y5, y6⟩ := HBX.out w9 hSw; clear hSw; go_simp; (try with_reducible rfl))
    (try simp only [tkS])
    refine tkL 2 38 (v := ?_) rfl ?_ ?_
    rotate_left
    · (intro w9 hSw; clear hSw; go_simp; (try with_reducible rfl))
    (try simp only [tkS])
    refine tkL 3 39 (v := ?_) rfl ?_ ?_
    rotate_left
    · (intro w9 hSw; clear hSw; go_simp; (try with_reducible rfl))
    (try simp only [tkS])
    refine tkL 4 40 (v := ?_) rfl ?_ ?_
    rotate_left
    · (intro w9 hSw; clear hSw; go_simp; (try with_reducible rfl))
    (try simp only [tkS])
    refine tkL 5 41 (v := ?_) rfl ?_ ?_
    rotate_left
    · (intro w9 hSw; obtain ⟨y0, y2, y3, y4, y5, y6⟩ := HBX.out w9 hSw; clear hSw; go_simp; (try with_reducible rfl))
    (try simp only [tkS])
    refine tkL 6 42 (v := ?_) rfl ?_ ?_
    rotate_left
    · (intro w9 hSw; clear hSw; go_simp; (try with_reducible rfl))
    (try simp only [tkS])
    refine tkL 7 43 (v := ?_) rfl ?_ ?_
    rotate_left
    · (intro w9 hSw; clear hSw; go_simp; (try with_reducible rfl))
    (try simp only [tkS])
    refine tkL 8 44 (v := ?_) rfl ?_ ?_
    rotate_left
    · (intro w9 hSw; clear hSw; go_simp; (try with_reducible rfl))
    (try simp only [tkS])
    refine wpAnyH_ready (rs := [9]) (by kernel_rfl) (by simp) ?_
    refine AllReadyH.cons (o := ⟨some 45, _, _, _, _, _⟩) rfl (fun K hK => ?_) AllReadyH.nil
    go_simp
    refine hK.out _ _ ?_ (fun hHeld => ?_)
    · (first | exact HAA.out | exact Chg.alloc hHeld _ | exact Chg.setCell (S := fun j => j = rb) HAA.out (p := ⟨rb, 0, none⟩) (.inl rfl) _)
    clear hK K
    (try simp only [tkS])
    refine wpAnyH_ready (rs := [10]) (by kernel_rfl) (by simp) ?_
    refine AllReadyH.cons (o := ⟨some 46, _, _, _, _, _⟩) rfl (fun K hK => ?_) AllReadyH.nil
    go_simp
    refine HCO.out.mono ?_
    rintro e wA ⟨v, rfl, ho, kA⟩
    obtain ⟨va, nv, vc, hv⟩ : ∃ va nv vc, v = Value.slice va nv vc := by obtain ⟨va, vc, hv, _, _⟩ := OwnPk.form ho; exact ⟨va, _, vc, hv⟩
    subst hv
    have HOW := hidMk ho
    have HAA := hidMk (show Chg (fun j => j = rb) W1 wA from hHeld.trans (Chg.of_kept kA))
    have HKA := hidMk (show Kept W1 wA from ((HK4.out.drew).alloc _).trans kA)
    clear ho kA
    (try go_wp2_with fail)
    refine hK.out _ _ ?_ (fun hHeld => ?_)
    · (first | exact HAA.out | exact Chg.alloc hHeld _ | exact Chg.setCell (S := fun j => j = rb) HAA.out (p := ⟨rb, 0, none⟩) (.inl rfl) _)
    clear hK K
    (try simp only [tkS])
    refine tkL 11 47 (v := ?_) rfl ?_ ?_
    rotate_left
    · (intro w9 hSw; clear hSw; go_simp; (try with_reducible rfl))
    (try simp only [tkS])
    refine wpAnyH_ready (rs := [12]) (by kernel_rfl) (by simp) ?_
    refine AllReadyH.cons (o := ⟨none, _, _, _, _, _⟩) rfl (fun K hK => ?_) AllReadyH.nil
    have rc := HKA.out.cellp HRB.out.1
    have rf := (HKA.out.frozen (p := ⟨rb, 0, none⟩) HRN.out.2).trans HRB.out.2
    go_simp
    clear rc rf
    refine hK.out _ _ ?_ (fun hHeld => ?_)
    · (first | exact HAA.out | exact Chg.alloc hHeld _ | exact Chg.setCell (S := fun j => j = rb) HAA.out (p := ⟨rb, 0, none⟩) (.inl rfl) _)
    clear hK K
    (try simp only [tkS])
    refine tkL 13 9 (v := ?_) rfl ?_ ?_
    rotate_left
    · (intro w9 hSw; clear hSw; go_simp; (try with_reducible rfl))
    (try simp only [tkS])
    refine wpAnyH_done (by kernel_rfl) ?_ _
    have HCF := hidMk hHeld
    clear hHeld
    go_wp2_with fail
    refine bodyPost_ret (v := .tuple #[.agg #[.slice va nv vc], .int .i64 0]) ?_ rfl ⟨.slice va nv vc, rfl, ?_, ?_⟩
    · simp only [results, show Tryz.f27.results = #[.cell 8 66, .tmp 9] from rfl]
      have rc : (wA.setCell ⟨rb, 0, none⟩ (.slice va nv vc)).cell? ⟨rb, 0, none⟩ = some (.slice va nv vc) := World.cell?_setCell_same _ _ _ (HKA.out.cellp HRB.out.1)
      have rl := lock_load rc
      go_simp
    · have hown : ∀ g, (Value.slice va nv vc).ownBlock = some g → ¬ g = rb := fun g hg e => by
        have h1 := (World.ownsRow.lt HOW.out g hg).1
        have h2 := HRN.out.2
        have h3 := HK4.out.size
        rw [World.size_alloc] at h1
        have h4 : w4.drew.heap.size = w4.heap.size := rfl
        omega
      have h9 := ownsRow_base (ownsRow_chg HOW.out (S := fun j => j = rb) ((Chg.refl (fun j => j = rb) wA).setCell (p := ⟨rb, 0, none⟩) (.inl rfl) (.slice va nv vc)) hown) (show w.heap.size ≤ _ from Nat.le_trans HK1.out.size (Nat.le_trans HK4.out.size ((((Kept.refl w4).drew).alloc _).size)))
      have hcat : catNPk (p3 (l.take i) ([] : List Pk) []) 2 = l.take i ++ l.drop (i + 1) := by rw [List.drop_eq_nil_of_le (show l.length ≤ i + 1 by have := HJ.out; omega)]; simp [catNPk, List.range_succ, p3]
      rw [hcat] at h9
      exact h9
    · exact Chg.kept HK1.out HCF.out (fun j e => by have := HRN.out.1; omega)
  · have hci' : ¬ J = c := fun e => hci e.symm
    clear hJ
    have HCO := hidMk (slices_ConcatPk w4.heap.size 2 2 (p3 (some ⟨b, o, none⟩) (some ⟨b, o + J * 7, none⟩) none) (p3 c (c - J) 0) (p3 (l.take i) (l.drop J) []) (w4.drew.alloc (.cells #[.slice (some ⟨b, o, none⟩) i c, .slice (some ⟨b, o + J * 7, none⟩) (l.length - J) (c - J)] 64)) (by omega) (fun kk hkk => by
      have hq4 := (HQ.out w4 HK4.out).kept (((Kept.refl w4).drew).alloc (.cells #[.slice (some ⟨b, o, none⟩) i c, .slice (some ⟨b, o + J * 7, none⟩) (l.length - J) (c - J)] 64))
      have : kk = 0 ∨ kk = 1 := by omega
      rcases this with rfl | rfl
      · refine ⟨?_, hq4.take _, fun e => (by cases e), by show (l.take i).length ≤ 1000; rw [List.length_take]; omega⟩
        show _ = some (Value.slice (some ⟨b, o, none⟩) (l.take i).length c)
        rw [show (l.take i).length = i by rw [List.length_take]; omega]
        exact new_cell _ _ _ _ 0 _ rfl rfl
      · refine ⟨?_, hq4.drop J, fun e => (by cases e), by show (l.drop J).length ≤ 1000; first | (simp; done) | (simp; omega)⟩
        show _ = some (Value.slice (some ⟨b, o + J * 7, none⟩) (l.drop J).length (c - J))
        rw [show (l.drop J).length = (l.length - J) by simp]
        exact new_cell _ _ _ _ 1 _ rfl rfl))
    refine wp_region_held_drew (S := (fun w' => Chg (fun j => j = rb) W1 w')) (by kernel_rfl) ?_ (fun hHeld => ?_)
    · exact (Chg.of_kept HK4.out).drew
    refine tkL 0 36 (v := ?_) rfl ?_ ?_
    rotate_left
    · (intro w9 hSw; clear hSw; go_simp; (try with_reducible rfl))
    (try simp only [tkS])
    refine tkL 1 37 (v := ?_) rfl ?_ ?_
    rotate_left
    · (intro w9 hSw; obtain ⟨y0, y2, y3, y4, y5, y6⟩ := HBX.out w9 hSw; clear hSw; go_simp; (try with_reducible rfl))
    (try simp only [tkS])
    refine tkL 2 38 (v := ?_) rfl ?_ ?_
    rotate_left
    · (intro w9 hSw; clear hSw; go_simp; (try with_reducible rfl))
    (try simp only [tkS])
    refine tkL 3 39 (v := ?_) rfl ?_ ?_
    rotate_left
    · (intro w9 hSw; clear hSw; go_simp; (try with_reducible rfl))
    (try simp only [tkS])
    refine tkL 4 40 (v := ?_) rfl ?_ ?_
    rotate_left
    · (intro w9 hSw; clear hSw; go_simp; (try with_reducible rfl))
    (try simp only [tkS])
    refine tkL 5 41 (v := ?_) rfl ?_ ?_
    rotate_left
    · (intro w9 hSw; obtain ⟨y0, y2, y3, y4, y5, y6⟩ := HBX.out w9 hSw; clear hSw; go_simp; (try with_reducible rfl))
    (try simp only [tkS])
    refine tkL 6 42 (v := ?_) rfl ?_ ?_
    rotate_left
    · (intro w9 hSw; clear hSw; go_simp; (try with_reducible rfl))
    (try simp only [tkS])
    refine tkL 7 43 (v := ?_) rfl ?_ ?_
    rotate_left
    · (intro w9 hSw; clear hSw; go_simp; (try with_reducible rfl))
    (try simp only [tkS])
    refine tkL 8 44 (v := ?_) rfl ?_ ?_
    rotate_left
    · (intro w9 hSw; clear hSw; go_simp; (try with_reducible rfl))
    (try simp only [tkS])
    refine wpAnyH_ready (rs := [9]) (by kernel_rfl) (by simp) ?_
    refine AllReadyH.cons (o := ⟨some 45, _, _, _, _, _⟩) rfl (fun K hK => ?_) AllReadyH.nil
    go_simp
    refine hK.out _ _ ?_ (fun hHeld => ?_)
    · (first | exact HAA.out | exact Chg.alloc hHeld _ | exact Chg.setCell (S := fun j => j = rb) HAA.out (p := ⟨rb, 0, none⟩) (.inl rfl) _)
    clear hK K
    (try simp only [tkS])
    refine wpAnyH_ready (rs := [10]) (by kernel_rfl) (by simp) ?_
    refine AllReadyH.cons (o := ⟨some 46, _, _, _, _, _⟩) rfl (fun K hK => ?_) AllReadyH.nil
    go_simp
    refine HCO.out.mono ?_
    rintro e wA ⟨v, rfl, ho, kA⟩
    obtain ⟨va, nv, vc, hv⟩ : ∃ va nv vc, v = Value.slice va nv vc := by obtain ⟨va, vc, hv, _, _⟩ := OwnPk.form ho; exact ⟨va, _, vc, hv⟩
    subst hv
    have HOW := hidMk ho
    have HAA := hidMk (show Chg (fun j => j = rb) W1 wA from hHeld.trans (Chg.of_kept kA))
    have HKA := hidMk (show Kept W1 wA from ((HK4.out.drew).alloc _).trans kA)
    clear ho kA
    (try go_wp2_with fail)
    refine hK.out _ _ ?_ (fun hHeld => ?_)
    · (first | exact HAA.out | exact Chg.alloc hHeld _ | exact Chg.setCell (S := fun j => j = rb) HAA.out (p := ⟨rb, 0, none⟩) (.inl rfl) _)
    clear hK K
    (try simp only [tkS])
    refine tkL 11 47 (v := ?_) rfl ?_ ?_
    rotate_left
    · (intro w9 hSw; clear hSw; go_simp; (try with_reducible rfl))
    (try simp only [tkS])
    refine wpAnyH_ready (rs := [12]) (by kernel_rfl) (by simp) ?_
    refine AllReadyH.cons (o := ⟨none, _, _, _, _, _⟩) rfl (fun K hK => ?_) AllReadyH.nil
    have rc := HKA.out.cellp HRB.out.1
    have rf := (HKA.out.frozen (p := ⟨rb, 0, none⟩) HRN.out.2).trans HRB.out.2
    go_simp
    clear rc rf
    refine hK.out _ _ ?_ (fun hHeld => ?_)
    · (first | exact HAA.out | exact Chg.alloc hHeld _ | exact Chg.setCell (S := fun j => j = rb) HAA.out (p := ⟨rb, 0, none⟩) (.inl rfl) _)
    clear hK K
    (try simp only [tkS])
    refine tkL 13 9 (v := ?_) rfl ?_ ?_
    rotate_left
    · (intro w9 hSw; clear hSw; go_simp; (try with_reducible rfl))
    (try simp only [tkS])
    refine wpAnyH_done (by kernel_rfl) ?_ _
    have HCF := hidMk hHeld
    clear hHeld
    go_wp2_with fail
    refine bodyPost_ret (v := .tuple #[.agg #[.slice va nv vc], .int .i64 0]) ?_ rfl ⟨.slice va nv vc, rfl, ?_, ?_⟩
    · simp only [results, show Tryz.f27.results = #[.cell 8 66, .tmp 9] from rfl]
      have rc : (wA.setCell ⟨rb, 0, none⟩ (.slice va nv vc)).cell? ⟨rb, 0, none⟩ = some (.slice va nv vc) := World.cell?_setCell_same _ _ _ (HKA.out.cellp HRB.out.1)
      have rl := lock_load rc
      go_simp
    · have hown : ∀ g, (Value.slice va nv vc).ownBlock = some g → ¬ g = rb := fun g hg e => by
        have h1 := (World.ownsRow.lt HOW.out g hg).1
        have h2 := HRN.out.2
        have h3 := HK4.out.size
        rw [World.size_alloc] at h1
        have h4 : w4.drew.heap.size = w4.heap.size := rfl
        omega
      have h9 := ownsRow_base (ownsRow_chg HOW.out (S := fun j => j = rb) ((Chg.refl (fun j => j = rb) wA).setCell (p := ⟨rb, 0, none⟩) (.inl rfl) (.slice va nv vc)) hown) (show w.heap.size ≤ _ from Nat.le_trans HK1.out.size (Nat.le_trans HK4.out.size ((((Kept.refl w4).drew).alloc _).size)))
      have hcat : catNPk (p3 (l.take i) (l.drop J) []) 2 = l.take i ++ l.drop (i + 1) := by rw [← HJ.out]; simp [catNPk, List.range_succ, p3]
      rw [hcat] at h9
      exact h9
    · exact Chg.kept HK1.out HCF.out (fun j e => by have := HRN.out.1; omega)
end

theorem riseG_ext {α : Type} {f : α → Int} {l m : List α} (hl : l.Pairwise fun x y => f x < f y) (hm : m.Pairwise fun x y => f x < f y) (h : ∀ x, x ∈ l ↔ x ∈ m) : l = m := by
  have e : l.map f = m.map f := by
    refine rise_ext ?_ ?_ (fun z => ?_)
    · unfold Rise; rw [List.pairwise_map]; exact hl
    · unfold Rise; rw [List.pairwise_map]; exact hm
    · simp only [List.mem_map, h]
  have hlen : l.length = m.length := by simpa using congrArg List.length e
  apply List.ext_getElem hlen
  intro i h1 h2
  have ei : f l[i] = f m[i] := by
    have := List.getElem_map f (l := l) (i := i) (h := by simpa using h1)
    rw [← this]
    simp only [e, List.getElem_map]
  obtain ⟨j, hj, ej⟩ := List.getElem_of_mem ((h _).1 (List.getElem_mem h1))
  rw [List.pairwise_iff_getElem] at hm
  rcases Nat.lt_trichotomy i j with hij | hij | hij
  · have := hm i j h2 hj hij; rw [ej] at this; omega
  · subst hij; exact ej.symm
  · have := hm j i hj h2 hij; rw [ej] at this; omega
theorem prods_neL : ∀ (ls : List (List Int)), (∀ l, l ∈ ls → l ≠ []) → prods ls ≠ [] := by
  intro ls
  induction ls with
  | nil => intro _; simp [prods]
  | cons l r ih =>
    intro h
    have h1 := h l (by simp)
    have h2 := ih (fun x hx => h x (by simp [hx]))
    cases l with
    | nil => exact absurd rfl h1
    | cons v t =>
      cases hr : prods r with
      | nil => exact absurd hr h2
      | cons x y => simp [prods, hr]
theorem span_neL {ds : List Dm} {ms : List ByteArray} (h : Ct ds ms) {at_ : Nat → Int} {k : Nat} (hk : k < ds.length) (hi : 0 ≤ at_ k ∧ at_ k < (dmL ds k).length) : spanL ds at_ k ≠ [] := by
  obtain ⟨i, hii⟩ : ∃ i : Nat, at_ k = i := ⟨(at_ k).toNat, by omega⟩
  have hil : i < (dmL ds k).length := by omega
  have hne := lvS_ne (h.tr k hk) hil
  cases hl : lvS (dmL ds k) i with
  | nil => exact absurd hl hne
  | cons x t =>
    obtain ⟨m1, m2⟩ := (lvS_mem (h.tr k hk) hil).1 (show x ∈ lvS (dmL ds k) i by rw [hl]; simp)
    obtain ⟨r, hr, e⟩ := List.getElem_of_mem m1
    have : at_ k ∈ abvA (dmL ds k) ((lvsN (dmL ds k))[r] : Nat) := by rw [e, hii]; unfold inB at m2; simpa using m2
    have hs := (in_span h hk hi hr).1 this
    exact List.ne_nil_of_mem (spanL_mem.2 hs)
theorem und_neL {ds : List Dm} {ms : List ByteArray} (h : Ct ds ms) {cm : Int} {at_ : Nat → Int} (hr : rightB ms ds cm at_ = true) : 0 < (undL ms ds cm at_).length := by
  unfold undL
  rw [if_pos hr, List.length_map]
  refine List.length_pos_iff.2 (prods_neL _ (fun l hl => ?_))
  simp only [lsK, List.mem_map, List.mem_range] at hl
  obtain ⟨k, hk, rfl⟩ := hl
  have h4 := h.d4
  have := (right_iff.1 hr).2 k (by omega)
  rw [many_in hk] at this
  exact span_neL h hk this
theorem undC_ne {ds : List Dm} {ms : List ByteArray} (h : Ct ds ms) {x : Cl} (hx : 0 ≤ ixC ms ds x) : ∃ n, n ∈ undC ms ds x := by
  have := und_neL h (ixC_right hx)
  exact List.exists_mem_of_length_pos this
structure Ld (ms : List ByteArray) (ds : List Dm) (l : List Pk) : Prop where
  rs : l.Pairwise fun x y => x.2.2 < y.2.2
  ix : ∀ y, y ∈ l → y.2.2 = ixC ms ds y.1
  ok : ∀ y, y ∈ l → 0 ≤ ixC ms ds y.1
  nm : ∀ y, y ∈ l → nameB y.2.1 = true
  one : ∀ x, x ∈ l → ∀ y, y ∈ l → ∀ n, n ∈ undC ms ds x.1 → n ∈ undC ms ds y.1 → x.2.1 = y.2.1
  sm : l.length ≤ 16
theorem ld_nil (ms : List ByteArray) (ds : List Dm) : Ld ms ds [] := ⟨List.Pairwise.nil, fun y h => (by cases h), fun y h => (by cases h), fun y h => (by cases h), fun y h => (by cases h), by simp⟩
section
variable {ms : List ByteArray} {ds : List Dm} {l : List Pk}
theorem Ld.up (h : Ld ms ds l) : ∀ i j, i < j → j < l.length → (pkA l i).2.2 < (pkA l j).2.2 := fun i j hij hj => by
  rw [pkA_get hj, pkA_get (by omega)]
  exact (List.pairwise_iff_getElem.1 h.rs) i j (by omega) hj hij
theorem Ld.cd (h : Ld ms ds l) : ∀ i j, i < l.length → j < l.length → (pkA l i).1 = (pkA l j).1 → i = j := fun i j hi hj e => by
  have e1 : (pkA l i).2.2 = ixC ms ds (pkA l i).1 := by rw [pkA_get hi]; exact h.ix _ (List.getElem_mem hi)
  have e2 : (pkA l j).2.2 = ixC ms ds (pkA l j).1 := by rw [pkA_get hj]; exact h.ix _ (List.getElem_mem hj)
  rw [e] at e1
  rcases Nat.lt_trichotomy i j with g | g | g
  · have := h.up i j g hj; omega
  · exact g
  · have := h.up j i g hi; omega
theorem Ld.sub (h : Ld ms ds l) {m : List Pk} (hs : m.Sublist l) : Ld ms ds m :=
  ⟨h.rs.sublist hs, fun y hy => h.ix y (hs.subset hy), fun y hy => h.ok y (hs.subset hy), fun y hy => h.nm y (hs.subset hy), fun x hx y hy => h.one x (hs.subset hx) y (hs.subset hy), Nat.le_trans hs.length_le h.sm⟩
end
theorem askE_ok {ms : List ByteArray} {ds : List Dm} {x : Cl} {u : ByteArray} : askE ms ds x u = 0 ↔ nameB u = true ∧ 0 ≤ ixC ms ds x := by
  unfold askE
  constructor
  · intro h
    by_cases h1 : nameB u = false
    · rw [if_pos h1] at h; cases h
    · rw [if_neg h1] at h
      by_cases h2 : ixC ms ds x < 0
      · rw [if_pos h2] at h; cases h
      · exact ⟨by simpa using h1, by omega⟩
  · rintro ⟨h1, h2⟩
    rw [if_neg (by simp [h1]), if_neg (by omega)]
theorem insPk_is {l l' : List Pk} {x : Pk} (hr : l.Pairwise fun x y => x.2.2 < y.2.2) (hne : ∀ y, y ∈ l → y.2.2 ≠ x.2.2) (h : InsPk l x l') : (l'.Pairwise fun x y => x.2.2 < y.2.2) ∧ (∀ y, y ∈ l' ↔ y = x ∨ y ∈ l) ∧ l'.length = l.length + 1 := by
  obtain ⟨i, hi, h1, h2, rfl⟩ := h
  have hm : ∀ y, y ∈ l ↔ y ∈ l.take i ∨ y ∈ l.drop i := fun y => by
    conv => lhs; rw [← List.take_append_drop i l]
    rw [List.mem_append]
  have ht : ∀ y, y ∈ l.take i → y.2.2 < x.2.2 := fun y hy => by
    obtain ⟨k, hk, rfl⟩ := List.getElem_of_mem hy
    rw [List.length_take] at hk
    rw [List.getElem_take, ← pkA_get (by omega)]
    exact h1 k (by omega)
  have hd : ∀ y, y ∈ l.drop i → x.2.2 < y.2.2 := fun y hy => by
    have hy2 := (hm y).2 (.inr hy)
    obtain ⟨k, hk, rfl⟩ := List.getElem_of_mem hy
    rw [List.length_drop] at hk
    rw [List.getElem_drop] at hy2 ⊢
    have := h2 (i + k) (by omega) (by omega)
    rw [pkA_get (by omega)] at this
    have := hne _ hy2
    omega
  refine ⟨?_, fun y => ?_, by simp; omega⟩
  · rw [List.pairwise_append, List.pairwise_cons]
    refine ⟨hr.sublist (List.take_sublist _ _), ⟨fun y hy => hd y hy, hr.sublist (List.drop_sublist _ _)⟩, fun y hy z hz => ?_⟩
    rcases List.mem_cons.1 hz with rfl | hz
    · exact ht y hy
    · have := ht y hy; have := hd z hz; omega
  · rw [List.mem_append, List.mem_cons, hm]
    constructor
    · rintro (h | h | h)
      · exact .inr (.inl h)
      · exact .inl h
      · exact .inr (.inr h)
    · rintro (h | h | h)
      · exact .inr (.inl h)
      · exact .inl h
      · exact .inr (.inr h)
theorem dropPk_sub {l : List Pk} {i : Nat} (hi : i < l.length) : (l.take i ++ l.drop (i + 1)).Sublist l := by
  conv => rhs; rw [← List.take_append_drop i l]
  refine List.Sublist.append_left ?_ _
  rw [List.drop_eq_getElem_cons hi]
  exact List.sublist_cons_self _ _
theorem dropPk_mem {ms : List ByteArray} {ds : List Dm} {l : List Pk} (h : Ld ms ds l) {i : Nat} (hi : i < l.length) : ∀ y, y ∈ l.take i ++ l.drop (i + 1) ↔ y ∈ l ∧ y.1 ≠ (pkA l i).1 := fun y => by
  have hd : l.drop i = pkA l i :: l.drop (i + 1) := by rw [List.drop_eq_getElem_cons hi, ← pkA_get hi]
  have hm : y ∈ l ↔ y ∈ l.take i ∨ y = pkA l i ∨ y ∈ l.drop (i + 1) := by
    conv => lhs; rw [← List.take_append_drop i l, hd]
    rw [List.mem_append, List.mem_cons]
  have ht : y ∈ l.take i → y.1 ≠ (pkA l i).1 := fun hy e => by
    obtain ⟨k, hk, rfl⟩ := List.getElem_of_mem hy
    rw [List.length_take] at hk
    rw [List.getElem_take, ← pkA_get (by omega)] at e
    have := h.cd k i (by omega) hi e
    omega
  have hdr : y ∈ l.drop (i + 1) → y.1 ≠ (pkA l i).1 := fun hy e => by
    obtain ⟨k, hk, rfl⟩ := List.getElem_of_mem hy
    rw [List.length_drop] at hk
    rw [List.getElem_drop, ← pkA_get (by omega)] at e
    have := h.cd (i + 1 + k) i (by omega) hi e
    omega
  rw [List.mem_append]
  constructor
  · rintro (hy | hy)
    · exact ⟨hm.2 (.inl hy), ht hy⟩
    · exact ⟨hm.2 (.inr (.inr hy)), hdr hy⟩
  · rintro ⟨hy, hn⟩
    rcases hm.1 hy with hy | hy | hy
    · exact .inl hy
    · rw [hy] at hn; exact absurd rfl hn
    · exact .inr hy
structure Lp (w : World) (ms : List ByteArray) (ds : List Dm) (a : Option Addr) (c : Nat) (l : List Pk) : Prop where
  pq : Pq w a l
  le : l.length ≤ c
  nl : a = none → l = [] ∧ c = 0
  ld : Ld ms ds l
  sp : ∀ ad, a = some ad → ad.spot = none
theorem Lp.kept {w w' : World} {ms : List ByteArray} {ds : List Dm} {a : Option Addr} {c : Nat} {l : List Pk} (h : Lp w ms ds a c l) (k : Kept w w') : Lp w' ms ds a c l := ⟨h.pq.kept k, h.le, h.nl, h.ld, h.sp⟩
theorem Lp.chg {S : Nat → Prop} {w w' : World} {ms : List ByteArray} {ds : List Dm} {a : Option Addr} {c : Nat} {l : List Pk} (h : Lp w ms ds a c l) (k : Chg S w w') (hs : ∀ ad, a = some ad → ¬ S ad.block) : Lp w' ms ds a c l := ⟨h.pq.chg k (fun _ ad e => hs ad e), h.le, h.nl, h.ld, h.sp⟩
theorem lp_nil (w : World) (ms : List ByteArray) (ds : List Dm) : Lp w ms ds none 0 [] := ⟨Pq.none _ _, by simp, fun _ => ⟨rfl, rfl⟩, ld_nil _ _, fun ad e => (by cases e)⟩
def twB (L : List Lk) (x : Cl) (u : ByteArray) : Bool := L.any fun y => decide (y.1 = x ∧ y.2 = u)
def laddE (ms : List ByteArray) (ds : List Dm) (L : List Lk) (x : Cl) (u : ByteArray) : Int := if askE ms ds x u = 0 then (if twB L x u = true then 4 else if lokB ms ds L u x = true then 12 else if 16 ≤ L.length then 14 else 0) else askE ms ds x u
def ldropE (ms : List ByteArray) (ds : List Dm) (L : List Lk) (x : Cl) (u : ByteArray) : Int := if askE ms ds x u = 0 then (if (L.any fun y => decide (y.1 = x)) = false then 10 else if twB L x u = true then 0 else 12) else askE ms ds x u
def LAddP (w : World) (ms : List ByteArray) (ds : List Dm) (l : List Pk) (x : Cl) (u : ByteArray) (e : Ending) (w' : World) : Prop :=
  ∃ a' c' l', e = .returned (.tuple #[hdV a' l'.length c', .int .i64 (laddE ms ds (l.map lkOf) x u)]) ∧ Lp w' ms ds a' c' l' ∧ (∀ y, y ∈ l' ↔ laddE ms ds (l.map lkOf) x u = 0 ∧ (y = (x, u, ixC ms ds x) ∨ y ∈ l)) ∧ (laddE ms ds (l.map lkOf) x u = 0 → l'.length = l.length + 1) ∧ Kept w w' ∧ ∀ ad, a' = some ad → w.heap.size ≤ ad.block
def LDropP (w : World) (ms : List ByteArray) (ds : List Dm) (l : List Pk) (x : Cl) (u : ByteArray) (e : Ending) (w' : World) : Prop :=
  ∃ a' c' l', e = .returned (.tuple #[hdV a' l'.length c', .int .i64 (ldropE ms ds (l.map lkOf) x u)]) ∧ Lp w' ms ds a' c' l' ∧ (∀ y, y ∈ l' ↔ ldropE ms ds (l.map lkOf) x u = 0 ∧ y ∈ l ∧ y.1 ≠ x) ∧ Kept w w' ∧ ∀ ad, a' = some ad → w.heap.size ≤ ad.block
theorem mem_lk {l : List Pk} {x : Cl} {u : ByteArray} : twB (l.map lkOf) x u = true ↔ ∃ k, k < l.length ∧ (pkA l k).1 = x ∧ (pkA l k).2.1 = u := by
  unfold twB
  rw [List.any_eq_true]
  constructor
  · rintro ⟨y, hy, e⟩
    obtain ⟨z, hz, rfl⟩ := List.mem_map.1 hy
    obtain ⟨k, hk, rfl⟩ := List.getElem_of_mem hz
    have e := of_decide_eq_true e
    exact ⟨k, hk, by rw [pkA_get hk]; exact e.1, by rw [pkA_get hk]; exact e.2⟩
  · rintro ⟨k, hk, e1, e2⟩
    exact ⟨lkOf (pkA l k), List.mem_map_of_mem (by rw [pkA_get hk]; exact List.getElem_mem hk), decide_eq_true ⟨e1, e2⟩⟩
section
variable {w : World} {s p : Nat} {ds : List Dm} {ms : List ByteArray} {tp : Nat → Nat} {rv : Nat → Option Addr × Nat}
theorem lp_Add (h : SW w s p ds ms tp rv) (hu : ∀ cm at_, (undL ms ds cm at_).length ≤ 1000 ∧ ∀ y, y ∈ undL ms ds cm at_ → isI y ∧ 0 ≤ y) {a : Option Addr} {c : Nat} {l : List Pk} (hd : Lp w ms ds a c l) (x : Cl) (u : ByteArray) (huz : u.size ≤ maxLen) :
    Calls Tryz.prog 29 #[hdV a l.length c, .pointer (some ⟨s, 0, none⟩), clV x, .string u] w (LAddP w ms ds l x u) := by
  have hsm := hd.ld.sm
  have no : ∀ (k : Int), k ≠ 0 → laddE ms ds (l.map lkOf) x u = k → ∀ e w', HdNo w k e w' → LAddP w ms ds l x u e w' := fun k hk e e' w' he => by
    obtain ⟨rfl, kk⟩ := he
    exact ⟨none, 0, [], by rw [e]; rfl, lp_nil _ _ _, fun y => by rw [e]; simp [hk], fun q => absurd (e.symm.trans q) hk, kk, fun ad e => (by cases e)⟩
  by_cases hA : askE ms ds x u = 0
  case neg =>
    exact (lock_Add_ask h a c l x u hd.pq (by omega) huz _ rfl hA).mono (no _ hA (by unfold laddE; rw [if_neg hA]))
  obtain ⟨hnm, hix⟩ := askE_ok.1 hA
  by_cases hf : ∃ k, k < l.length ∧ (pkA l k).1 = x
  · obtain ⟨k, hk, hce⟩ := hf
    by_cases hue : (pkA l k).2.1 = u
    · refine (lock_Add_twice h a c l x u hd.pq (by omega) huz hA hd.ld.cd k hk hce hue).mono (no 4 (by decide) ?_)
      unfold laddE
      rw [if_pos hA, if_pos (mem_lk.2 ⟨k, hk, hce, hue⟩)]
    · have hB : lokB ms ds (l.map lkOf) u x = true := by
        obtain ⟨n, hn⟩ := undC_ne h.ct hix
        refine lok_iff.2 ⟨n, hn, lkOf (pkA l k), List.mem_map_of_mem (by rw [pkA_get hk]; exact List.getElem_mem hk), hue, ?_⟩
        show n ∈ undC ms ds (pkA l k).1
        rw [hce]; exact hn
      refine (lock_Add_lok1 h a c l x u hd.pq (by omega) huz hu hA hd.ld.cd k hk hce hue hB).mono (no 12 (by decide) ?_)
      unfold laddE
      rw [if_pos hA, if_neg (fun e => by
        obtain ⟨k', hk', e1, e2⟩ := mem_lk.1 e
        rw [hd.ld.cd k' k hk' hk (by rw [e1, hce])] at e2
        exact hue e2), if_pos hB]
  · have hno : ∀ t, t < l.length → (pkA l t).1 ≠ x := fun t ht e => hf ⟨t, ht, e⟩
    have hnm2 : ¬ twB (l.map lkOf) x u = true := fun e => by
      obtain ⟨k', hk', e1, _⟩ := mem_lk.1 e
      exact hno k' hk' e1
    by_cases hB : lokB ms ds (l.map lkOf) u x = true
    · refine (lock_Add_lok0 h a c l x u hd.pq (by omega) huz hu hA hno hB).mono (no 12 (by decide) ?_)
      unfold laddE
      rw [if_pos hA, if_neg hnm2, if_pos hB]
    · have hB0 : lokB ms ds (l.map lkOf) u x = false := by simpa using hB
      by_cases h16 : 16 ≤ l.length
      · refine (lock_Add_full0 h a c l x u hd.pq (by omega) huz hu hA hno hB0 h16).mono (no 14 (by decide) ?_)
        unfold laddE
        rw [if_pos hA, if_neg hnm2, if_neg hB, if_pos (by simpa using h16)]
      · have e0 : laddE ms ds (l.map lkOf) x u = 0 := by
          unfold laddE
          rw [if_pos hA, if_neg hnm2, if_neg hB, if_neg (by simpa using h16)]
        have hne : ∀ y, y ∈ l → y.2.2 ≠ ixC ms ds x := fun y hy e => by
          rw [hd.ld.ix y hy] at e
          have e2 := ixC_inj h.ct (hd.ld.ok y hy) e
          obtain ⟨t, ht, rfl⟩ := List.getElem_of_mem hy
          exact hno t ht (by rw [pkA_get ht]; exact e2)
        have fin : ∀ e w', LkAdd w l (x, u, ixC ms ds x) e w' → LAddP w ms ds l x u e w' := by
          rintro e w' ⟨v, l', rfl, hi, ho, k⟩
          obtain ⟨r1, r2, r3⟩ := insPk_is hd.ld.rs hne hi
          obtain ⟨a', c', rfl, hq, hn⟩ := ho.form
          have nw : ∀ y, y ∈ l → ∀ n, n ∈ undC ms ds x → n ∈ undC ms ds y.1 → y.2.1 = u := fun y hy n h1 h2 => by
            by_cases g : y.2.1 = u
            · exact g
            · exact absurd (lok_iff.2 ⟨n, h1, lkOf y, List.mem_map_of_mem hy, g, h2⟩) hB
          refine ⟨a', c', l', by rw [e0]; rfl, ⟨hq, ho.le, hn, ⟨r1, fun y hy => ?_, fun y hy => ?_, fun y hy => ?_, fun y hy z hz n h1 h2 => ?_, by omega⟩, ho.sp⟩, fun y => by rw [e0, r2]; simp, fun _ => r3, k, ho.fr⟩
          · rcases (r2 y).1 hy with rfl | hy
            · rfl
            · exact hd.ld.ix y hy
          · rcases (r2 y).1 hy with rfl | hy
            · exact hix
            · exact hd.ld.ok y hy
          · rcases (r2 y).1 hy with rfl | hy
            · exact hnm
            · exact hd.ld.nm y hy
          · rcases (r2 y).1 hy with rfl | hy <;> rcases (r2 z).1 hz with rfl | hz
            · rfl
            · exact (nw z hz n h1 h2).symm
            · exact nw y hy n h2 h1
            · exact hd.ld.one y hy z hz n h1 h2
        cases a with
        | none =>
          obtain ⟨rfl, rfl⟩ := hd.nl rfl
          exact (lock_Add_none h x u huz hu hA _ rfl).mono fin
        | some ad =>
          obtain ⟨b, o, spot⟩ := ad
          obtain rfl : spot = none := hd.sp _ rfl
          exact (lock_Add_some h b o c l x u hd.pq (by omega) hd.le huz hu hA hno hB0 (by omega) hd.ld.up hne _ rfl).mono fin
theorem lp_Drop (h : SW w s p ds ms tp rv) {a : Option Addr} {c : Nat} {l : List Pk} (hd : Lp w ms ds a c l) (x : Cl) (u : ByteArray) (huz : u.size ≤ maxLen) :
    Calls Tryz.prog 27 #[hdV a l.length c, .pointer (some ⟨s, 0, none⟩), clV x, .string u] w (LDropP w ms ds l x u) := by
  have hsm := hd.ld.sm
  have no : ∀ (k : Int), k ≠ 0 → ldropE ms ds (l.map lkOf) x u = k → ∀ e w', HdNo w k e w' → LDropP w ms ds l x u e w' := fun k hk e e' w' he => by
    obtain ⟨rfl, kk⟩ := he
    exact ⟨none, 0, [], by rw [e]; rfl, lp_nil _ _ _, fun y => by rw [e]; simp [hk], kk, fun ad e => (by cases e)⟩
  by_cases hA : askE ms ds x u = 0
  case neg =>
    exact (lock_Drop_ask h a c l x u hd.pq (by omega) huz _ rfl hA).mono (no _ hA (by unfold ldropE; rw [if_neg hA]))
  have hany : (∃ k, k < l.length ∧ (pkA l k).1 = x) ↔ ¬ ((l.map lkOf).any fun y => decide (y.1 = x)) = false := by
    rw [Bool.not_eq_false, List.any_eq_true]
    constructor
    · rintro ⟨k, hk, e⟩
      exact ⟨lkOf (pkA l k), List.mem_map_of_mem (by rw [pkA_get hk]; exact List.getElem_mem hk), decide_eq_true e⟩
    · rintro ⟨y, hy, e⟩
      obtain ⟨z, hz, rfl⟩ := List.mem_map.1 hy
      obtain ⟨k, hk, rfl⟩ := List.getElem_of_mem hz
      exact ⟨k, hk, by rw [pkA_get hk]; exact of_decide_eq_true e⟩
  by_cases hf : ∃ k, k < l.length ∧ (pkA l k).1 = x
  · have hf2 := hany.1 hf
    obtain ⟨k, hk, hce⟩ := hf
    by_cases hue : (pkA l k).2.1 = u
    · have e0 : ldropE ms ds (l.map lkOf) x u = 0 := by
        unfold ldropE
        rw [if_pos hA, if_neg hf2, if_pos (mem_lk.2 ⟨k, hk, hce, hue⟩)]
      obtain ⟨b, o, rfl⟩ := hd.pq.form (show 0 < l.length by omega)
      refine (lock_Drop_some h b o c l x u hd.pq (by omega) hd.le huz hA hd.ld.cd k hk hce hue).mono ?_
      rintro e w' ⟨v, rfl, ho, kk⟩
      obtain ⟨a', c', rfl, hq, hn⟩ := ho.form
      refine ⟨a', c', _, by rw [e0]; rfl, ⟨hq, ho.le, hn, hd.ld.sub (dropPk_sub hk), ho.sp⟩, fun y => ?_, kk, ho.fr⟩
      rw [e0, dropPk_mem hd.ld hk, hce]
      simp
    · refine (lock_Drop_lok h a c l x u hd.pq (by omega) huz hA hd.ld.cd k hk hce hue).mono (no 12 (by decide) ?_)
      unfold ldropE
      rw [if_pos hA, if_neg hf2, if_neg (fun e => by
        obtain ⟨k', hk', e1, e2⟩ := mem_lk.1 e
        rw [hd.ld.cd k' k hk' hk (by rw [e1, hce])] at e2
        exact hue e2)]
  · have hno : ∀ t, t < l.length → (pkA l t).1 ≠ x := fun t ht e => hf ⟨t, ht, e⟩
    refine (lock_Drop_none h a c l x u hd.pq (by omega) huz hA hno).mono (no 10 (by decide) ?_)
    unfold ldropE
    rw [if_pos hA, if_pos (by
      by_cases g : ((l.map lkOf).any fun y => decide (y.1 = x)) = false
      · exact g
      · exact absurd (hany.2 g) hf)]
end
end Go.Proofs.YtmedgkccicbieaaGreat
