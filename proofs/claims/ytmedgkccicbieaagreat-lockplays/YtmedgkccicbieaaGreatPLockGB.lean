/- lock: what Add refuses; Add. · lock: Add, a lock more. -/
import Derived.Test.YtmedgkccicbieaaGreatPTk
import Derived.Test.YtmedgkccicbieaaGreatPLockDB
namespace Go.Proofs.YtmedgkccicbieaaGreat
open Go.RowKit Go.Maps
set_option linter.unusedSimpArgs false
set_option linter.unusedVariables false

theorem lock_load {w : World} {g : Nat} {v : Value} (c0 : w.cell? ⟨g, 0, none⟩ = some v) : (loadVar 66 ⟨g, 0, none⟩).run Tryz.prog w = .ok (.agg #[v]) w := by
  have hl := run_loadCells_list (P := Tryz.prog) w ⟨g, 0, none⟩ [v] (fun j u hv => by
    have : j = 0 := by
      have := (List.getElem?_eq_some_iff.1 hv).1
      simp at this
      omega
    subst this
    simp at hv
    subst hv
    simpa [Addr.add] using c0)
  have hi : (Tryz.prog.info? 66).map (·.size) = some 1 := by kernel_rfl
  obtain ⟨i, h1, h2⟩ := Option.map_eq_some_iff.1 hi
  simp only [List.length_cons, List.length_nil, Nat.reduceAdd] at hl
  simp [loadVar, Sem.run_bind, Tryz.isAgg66, sizeOf, typeInfo, h1, h2, hl]
def forB (ms : List ByteArray) (ds : List Dm) (l : List Lk) (u : ByteArray) (n : Int) : Bool := l.any fun y => decide (y.2 ≠ u ∧ n ∈ undC ms ds y.1)
theorem for_iff {ms : List ByteArray} {ds : List Dm} {l : List Lk} {u : ByteArray} {n : Int} : forB ms ds l u n = true ↔ forP ms ds l u n := by
  unfold forB forP
  simp only [List.any_eq_true, decide_eq_true_eq]
def lokB (ms : List ByteArray) (ds : List Dm) (l : List Lk) (u : ByteArray) (x : Cl) : Bool := (undC ms ds x).any (forB ms ds l u)
theorem lok_iff {ms : List ByteArray} {ds : List Dm} {l : List Lk} {u : ByteArray} {x : Cl} : lokB ms ds l u x = true ↔ ∃ n, n ∈ undC ms ds x ∧ forP ms ds l u n := by
  unfold lokB
  simp only [List.any_eq_true, for_iff]
section
variable {w : World} {s p : Nat} {ds : List Dm} {ms : List ByteArray} {tp : Nat → Nat} {rv : Nat → Option Addr × Nat}
set_option maxHeartbeats 8000000 in
set_option maxRecDepth 100000 in
theorem lock_Add_ask (h : SW w s p ds ms tp rv) (a : Option Addr) (c : Nat) (l : List Pk) (x : Cl) (u : ByteArray) (hq : Pq w a l) (hl : l.length ≤ 40) (huz : u.size ≤ maxLen) (r : Int) (hA : askE ms ds x u = r) (hr : ¬ r = 0) :
    Calls Tryz.prog 29 #[hdV a l.length c, .pointer (some ⟨s, 0, none⟩), clV x, .string u] w (HdNo w r) := by
  have hrb0 : (r != 0) = true := by simpa using hr
  obtain ⟨hb, hhb⟩ : ∃ z, z = w.heap.size := ⟨_, rfl⟩
  obtain ⟨cb, hcb⟩ : ∃ z, z = w.heap.size + 1 := ⟨_, rfl⟩
  obtain ⟨rb, hrb⟩ : ∃ z, z = w.heap.size + 1 + 1 := ⟨_, rfl⟩
  obtain ⟨WA, hWA⟩ : ∃ V, V = w.alloc (.cells #[.slice a l.length c] 66) := ⟨_, rfl⟩
  obtain ⟨WC, hWC⟩ : ∃ V, V = WA.alloc (.cells #[.int .i64 x.1, .int .i64 x.2.1, .int .i64 x.2.2.1, .int .i64 x.2.2.2.1, .int .i64 x.2.2.2.2] 29) := ⟨_, rfl⟩
  obtain ⟨W1, hW1⟩ : ∃ V, V = WC.alloc (.cells #[.slice none 0 0] 66) := ⟨_, rfl⟩
  have kA : Kept w WA := by rw [hWA]; exact (Kept.refl _).alloc _
  have kC : Kept WA WC := by rw [hWC]; exact (Kept.refl _).alloc _
  have kD : Kept WC W1 := by rw [hW1]; exact (Kept.refl _).alloc _
  have zA : WA.heap.size = w.heap.size + 1 := by rw [hWA, World.size_alloc]
  have zC : WC.heap.size = w.heap.size + 1 + 1 := by rw [hWC, World.size_alloc, zA]
  have k1 := kA.trans (kC.trans kD)
  have HK1 := hidMk k1
  have HBX := hidMk (show ∀ Y, Chg (fun j => j = rb) W1 Y → Y.cell? ⟨hb, 0, none⟩ = some (.slice a l.length c) ∧ Y.cell? ⟨cb, 0, none⟩ = some (.int .i64 x.1) ∧ Y.cell? ⟨cb, 1, none⟩ = some (.int .i64 x.2.1) ∧ Y.cell? ⟨cb, 2, none⟩ = some (.int .i64 x.2.2.1) ∧ Y.cell? ⟨cb, 3, none⟩ = some (.int .i64 x.2.2.2.1) ∧ Y.cell? ⟨cb, 4, none⟩ = some (.int .i64 x.2.2.2.2) from fun Y k => by
    have e1 : WA.cell? ⟨hb, 0, none⟩ = some (.slice a l.length c) := by rw [hWA]; exact new_cell _ _ _ _ 0 _ hhb rfl
    obtain ⟨f0, f1, f2, f3, f4⟩ := boxC_at WA x 29 (hcb.trans zA.symm) WC (by rw [← hWC]; exact Kept.refl _)
    have n1 : hb ≠ rb := by omega
    have n3 : cb ≠ rb := by omega
    exact ⟨k.cellp ((kC.trans kD).cellp e1) n1, k.cellp (kD.cellp f0) n3, k.cellp (kD.cellp f1) n3, k.cellp (kD.cellp f2) n3, k.cellp (kD.cellp f3) n3, k.cellp (kD.cellp f4) n3⟩)
  have HRB := hidMk (show W1.cell? ⟨rb, 0, none⟩ = some (.slice none 0 0) ∧ W1.frozen? ⟨rb, 0, none⟩ = false from by
    rw [hW1]; exact ⟨new_cell _ _ _ _ 0 _ (hrb.trans zC.symm) rfl, new_frozen _ _ _ (hrb.trans zC.symm) 0⟩)
  have HRN := hidMk (show w.heap.size ≤ rb ∧ rb < W1.heap.size from ⟨by omega, cell_lt (p := ⟨rb, 0, none⟩) HRB.out.1⟩)
  have HAS := hidMk (lsw_ask (h.keep k1) x u huz)
  rw [hA] at HAS
  rw [hWC, hWA] at hW1
  unfold clV hdV at *
  clear h hq hA k1 kA kC kD zA zC hWA hWC
  obtain ⟨y0, y2, y3, y4, y5, y6⟩ := HBX.out W1 (Chg.refl _ _)
  rw [hW1, hhb] at y0
  rw [hW1, hcb] at y2 y3 y4 y5 y6
  go_enter Tryz.func29, Tryz.ntmps29
  go_wp2_with fail
  rw [← hW1, ← hrb, ← hcb, ← hhb]
  clear hW1 hrb hcb hhb y0 y2 y3 y4 y5 y6
  refine HAS.out.mono ?_
  rintro e w2 ⟨rfl, k2⟩
  have HK2 := hidMk k2
  clear k2 HAS
  have rc := HK2.out.cellp HRB.out.1
  have rf := (HK2.out.frozen (p := ⟨rb, 0, none⟩) HRN.out.2).trans HRB.out.2
  go_wp2_with fail
  refine bodyPost_ret (v := .tuple #[.agg #[.slice none 0 0], .int .i64 r]) ?_ rfl ⟨rfl, ?_⟩
  · simp only [results, show Tryz.f29.results = #[.cell 8 66, .tmp 9] from rfl]
    have rc2 : (w2.setCell ⟨rb, 0, none⟩ (.slice none 0 0)).cell? ⟨rb, 0, none⟩ = some (.slice none 0 0) := World.cell?_setCell_same _ _ _ (HK2.out.cellp HRB.out.1)
    have rl := lock_load rc2
    go_simp
  · exact Chg.kept HK1.out ((Chg.of_kept HK2.out).setCell (S := fun j => j = rb) (p := ⟨rb, 0, none⟩) (.inl rfl) _) (fun j e => by have := HRN.out.1; omega)
set_option maxHeartbeats 8000000 in
set_option maxRecDepth 100000 in
theorem lock_Add_twice (h : SW w s p ds ms tp rv) (a : Option Addr) (c : Nat) (l : List Pk) (x : Cl) (u : ByteArray) (hq : Pq w a l) (hl : l.length ≤ 40) (huz : u.size ≤ maxLen) (hA : askE ms ds x u = 0) (hcd : ∀ i j, i < l.length → j < l.length → (pkA l i).1 = (pkA l j).1 → i = j) (k : Nat) (hk : k < l.length) (hce : (pkA l k).1 = x) (hue : (pkA l k).2.1 = u) :
    Calls Tryz.prog 29 #[hdV a l.length c, .pointer (some ⟨s, 0, none⟩), clV x, .string u] w (HdNo w 4) := by
  obtain ⟨b, o, rfl⟩ := hq.form (show 0 < l.length by omega)
  obtain ⟨hb, hhb⟩ : ∃ z, z = w.heap.size := ⟨_, rfl⟩
  obtain ⟨cb, hcb⟩ : ∃ z, z = w.heap.size + 1 := ⟨_, rfl⟩
  obtain ⟨rb, hrb⟩ : ∃ z, z = w.heap.size + 1 + 1 := ⟨_, rfl⟩
  obtain ⟨WA, hWA⟩ : ∃ V, V = w.alloc (.cells #[.slice (some ⟨b, o, none⟩) l.length c] 66) := ⟨_, rfl⟩
  obtain ⟨WC, hWC⟩ : ∃ V, V = WA.alloc (.cells #[.int .i64 x.1, .int .i64 x.2.1, .int .i64 x.2.2.1, .int .i64 x.2.2.2.1, .int .i64 x.2.2.2.2] 29) := ⟨_, rfl⟩
  obtain ⟨W1, hW1⟩ : ∃ V, V = WC.alloc (.cells #[.slice none 0 0] 66) := ⟨_, rfl⟩
  have kA : Kept w WA := by rw [hWA]; exact (Kept.refl _).alloc _
  have kC : Kept WA WC := by rw [hWC]; exact (Kept.refl _).alloc _
  have kD : Kept WC W1 := by rw [hW1]; exact (Kept.refl _).alloc _
  have zA : WA.heap.size = w.heap.size + 1 := by rw [hWA, World.size_alloc]
  have zC : WC.heap.size = w.heap.size + 1 + 1 := by rw [hWC, World.size_alloc, zA]
  have k1 := kA.trans (kC.trans kD)
  have HK1 := hidMk k1
  have HBX := hidMk (show ∀ Y, Chg (fun j => j = rb) W1 Y → Y.cell? ⟨hb, 0, none⟩ = some (.slice (some ⟨b, o, none⟩) l.length c) ∧ Y.cell? ⟨cb, 0, none⟩ = some (.int .i64 x.1) ∧ Y.cell? ⟨cb, 1, none⟩ = some (.int .i64 x.2.1) ∧ Y.cell? ⟨cb, 2, none⟩ = some (.int .i64 x.2.2.1) ∧ Y.cell? ⟨cb, 3, none⟩ = some (.int .i64 x.2.2.2.1) ∧ Y.cell? ⟨cb, 4, none⟩ = some (.int .i64 x.2.2.2.2) from fun Y k => by
    have e1 : WA.cell? ⟨hb, 0, none⟩ = some (.slice (some ⟨b, o, none⟩) l.length c) := by rw [hWA]; exact new_cell _ _ _ _ 0 _ hhb rfl
    obtain ⟨f0, f1, f2, f3, f4⟩ := boxC_at WA x 29 (hcb.trans zA.symm) WC (by rw [← hWC]; exact Kept.refl _)
    have n1 : hb ≠ rb := by omega
    have n3 : cb ≠ rb := by omega
    exact ⟨k.cellp ((kC.trans kD).cellp e1) n1, k.cellp (kD.cellp f0) n3, k.cellp (kD.cellp f1) n3, k.cellp (kD.cellp f2) n3, k.cellp (kD.cellp f3) n3, k.cellp (kD.cellp f4) n3⟩)
  have HRB := hidMk (show W1.cell? ⟨rb, 0, none⟩ = some (.slice none 0 0) ∧ W1.frozen? ⟨rb, 0, none⟩ = false from by
    rw [hW1]; exact ⟨new_cell _ _ _ _ 0 _ (hrb.trans zC.symm) rfl, new_frozen _ _ _ (hrb.trans zC.symm) 0⟩)
  have HRN := hidMk (show w.heap.size ≤ rb ∧ rb < W1.heap.size from ⟨by omega, cell_lt (p := ⟨rb, 0, none⟩) HRB.out.1⟩)
  have HAS := hidMk (lsw_ask (h.keep k1) x u huz)
  rw [hA] at HAS
  have HFI := hidMk (show ∀ Y, Kept W1 Y → _ from fun Y k => lock_find (some ⟨b, o, none⟩) c l x Y (hq.kept (k1.trans k)) (by omega))
  have HQ := hidMk (show ∀ Y, Kept W1 Y → Pq Y (some ⟨b, o, none⟩) l from fun Y k => hq.kept (k1.trans k))
  rw [hWC, hWA] at hW1
  unfold clV hdV at *
  clear h hq hA k1 kA kC kD zA zC hWA hWC
  obtain ⟨y0, y2, y3, y4, y5, y6⟩ := HBX.out W1 (Chg.refl _ _)
  rw [hW1, hhb] at y0
  rw [hW1, hcb] at y2 y3 y4 y5 y6
  go_enter Tryz.func29, Tryz.ntmps29
  go_wp2_with fail
  rw [← hW1, ← hrb, ← hcb, ← hhb]
  clear hW1 hrb hcb hhb y0 y2 y3 y4 y5 y6
  refine HAS.out.mono ?_
  rintro e w2 ⟨rfl, k2⟩
  have HK2 := hidMk k2
  clear k2 HAS
  obtain ⟨y0, y2, y3, y4, y5, y6⟩ := HBX.out w2 (Chg.of_kept HK2.out)
  go_wp2_with fail
  refine (HFI.out _ HK2.out).mono ?_
  rintro e w3 ⟨z, rfl, hz, k3⟩
  obtain rfl : z = (k : Int) := by
    rcases hz with ⟨k', rfl, h1, h2, h3⟩ | ⟨_, h2⟩
    · rw [hcd k' k h1 hk (by rw [of_decide_eq_true h2, hce])]
    · exact absurd hce (of_decide_eq_false (h2 k hk))
  have HK3 := hidMk (HK2.out.trans k3)
  clear k3 hz HFI HK2 y0 y2 y3 y4 y5 y6
  obtain ⟨y0, y2, y3, y4, y5, y6⟩ := HBX.out w3 (Chg.of_kept HK3.out)
  have hk0 : (0 : Int) ≤ (k : Int) := by omega
  have hk1 : (k : Int) < (l.length : Int) := by omega
  obtain ⟨c0, c1, c2, c3, c4, c5, c6⟩ := (HQ.out w3 HK3.out).at hk
  clear hcd hce
  have hus : ((pkA l k).2.1.toList == u.toList) = true := by rw [hue]; simp
  clear hue
  generalize pkA l k = X at *
  have rc := HK3.out.cellp HRB.out.1
  have rf := (HK3.out.frozen (p := ⟨rb, 0, none⟩) HRN.out.2).trans HRB.out.2
  go_wp2_with fail
  refine bodyPost_ret (v := .tuple #[.agg #[.slice none 0 0], .int .i64 4]) ?_ rfl ⟨rfl, ?_⟩
  · simp only [results, show Tryz.f29.results = #[.cell 8 66, .tmp 9] from rfl]
    have rc2 : (w3.setCell ⟨rb, 0, none⟩ (.slice none 0 0)).cell? ⟨rb, 0, none⟩ = some (.slice none 0 0) := World.cell?_setCell_same _ _ _ (HK3.out.cellp HRB.out.1)
    have rl := lock_load rc2
    go_simp
  · exact Chg.kept HK1.out ((Chg.of_kept HK3.out).setCell (S := fun j => j = rb) (p := ⟨rb, 0, none⟩) (.inl rfl) _) (fun j e => by have := HRN.out.1; omega)
set_option maxHeartbeats 8000000 in
set_option maxRecDepth 100000 in
theorem lock_Add_lok1 (h : SW w s p ds ms tp rv) (a : Option Addr) (c : Nat) (l : List Pk) (x : Cl) (u : ByteArray) (hq : Pq w a l) (hl : l.length ≤ 40) (huz : u.size ≤ maxLen) (hu : ∀ cm at_, (undL ms ds cm at_).length ≤ 1000 ∧ ∀ y, y ∈ undL ms ds cm at_ → isI y ∧ 0 ≤ y) (hA : askE ms ds x u = 0) (hcd : ∀ i j, i < l.length → j < l.length → (pkA l i).1 = (pkA l j).1 → i = j) (k : Nat) (hk : k < l.length) (hce : (pkA l k).1 = x) (hue : (pkA l k).2.1 ≠ u) (hB : lokB ms ds (l.map lkOf) u x = true) :
    Calls Tryz.prog 29 #[hdV a l.length c, .pointer (some ⟨s, 0, none⟩), clV x, .string u] w (HdNo w 12) := by
  obtain ⟨b, o, rfl⟩ := hq.form (show 0 < l.length by omega)
  obtain ⟨hb, hhb⟩ : ∃ z, z = w.heap.size := ⟨_, rfl⟩
  obtain ⟨cb, hcb⟩ : ∃ z, z = w.heap.size + 1 := ⟨_, rfl⟩
  obtain ⟨rb, hrb⟩ : ∃ z, z = w.heap.size + 1 + 1 := ⟨_, rfl⟩
  obtain ⟨WA, hWA⟩ : ∃ V, V = w.alloc (.cells #[.slice (some ⟨b, o, none⟩) l.length c] 66) := ⟨_, rfl⟩
  obtain ⟨WC, hWC⟩ : ∃ V, V = WA.alloc (.cells #[.int .i64 x.1, .int .i64 x.2.1, .int .i64 x.2.2.1, .int .i64 x.2.2.2.1, .int .i64 x.2.2.2.2] 29) := ⟨_, rfl⟩
  obtain ⟨W1, hW1⟩ : ∃ V, V = WC.alloc (.cells #[.slice none 0 0] 66) := ⟨_, rfl⟩
  have kA : Kept w WA := by rw [hWA]; exact (Kept.refl _).alloc _
  have kC : Kept WA WC := by rw [hWC]; exact (Kept.refl _).alloc _
  have kD : Kept WC W1 := by rw [hW1]; exact (Kept.refl _).alloc _
  have zA : WA.heap.size = w.heap.size + 1 := by rw [hWA, World.size_alloc]
  have zC : WC.heap.size = w.heap.size + 1 + 1 := by rw [hWC, World.size_alloc, zA]
  have k1 := kA.trans (kC.trans kD)
  have HK1 := hidMk k1
  have HBX := hidMk (show ∀ Y, Chg (fun j => j = rb) W1 Y → Y.cell? ⟨hb, 0, none⟩ = some (.slice (some ⟨b, o, none⟩) l.length c) ∧ Y.cell? ⟨cb, 0, none⟩ = some (.int .i64 x.1) ∧ Y.cell? ⟨cb, 1, none⟩ = some (.int .i64 x.2.1) ∧ Y.cell? ⟨cb, 2, none⟩ = some (.int .i64 x.2.2.1) ∧ Y.cell? ⟨cb, 3, none⟩ = some (.int .i64 x.2.2.2.1) ∧ Y.cell? ⟨cb, 4, none⟩ = some (.int .i64 x.2.2.2.2) from fun Y k => by
    have e1 : WA.cell? ⟨hb, 0, none⟩ = some (.slice (some ⟨b, o, none⟩) l.length c) := by rw [hWA]; exact new_cell _ _ _ _ 0 _ hhb rfl
    obtain ⟨f0, f1, f2, f3, f4⟩ := boxC_at WA x 29 (hcb.trans zA.symm) WC (by rw [← hWC]; exact Kept.refl _)
    have n1 : hb ≠ rb := by omega
    have n3 : cb ≠ rb := by omega
    exact ⟨k.cellp ((kC.trans kD).cellp e1) n1, k.cellp (kD.cellp f0) n3, k.cellp (kD.cellp f1) n3, k.cellp (kD.cellp f2) n3, k.cellp (kD.cellp f3) n3, k.cellp (kD.cellp f4) n3⟩)
  have HRB := hidMk (show W1.cell? ⟨rb, 0, none⟩ = some (.slice none 0 0) ∧ W1.frozen? ⟨rb, 0, none⟩ = false from by
    rw [hW1]; exact ⟨new_cell _ _ _ _ 0 _ (hrb.trans zC.symm) rfl, new_frozen _ _ _ (hrb.trans zC.symm) 0⟩)
  have HRN := hidMk (show w.heap.size ≤ rb ∧ rb < W1.heap.size from ⟨by omega, cell_lt (p := ⟨rb, 0, none⟩) HRB.out.1⟩)
  have HAS := hidMk (lsw_ask (h.keep k1) x u huz)
  rw [hA] at HAS
  have HFI := hidMk (show ∀ Y, Kept W1 Y → _ from fun Y k => lock_find (some ⟨b, o, none⟩) c l x Y (hq.kept (k1.trans k)) (by omega))
  have HQ := hidMk (show ∀ Y, Kept W1 Y → Pq Y (some ⟨b, o, none⟩) l from fun Y k => hq.kept (k1.trans k))
  have HUN := hidMk (show ∀ Y, Kept W1 Y → _ from fun Y k => sw_UnderC (h.keep (k1.trans k)) x)
  have HUB := hidMk (show (undC ms ds x).length ≤ 1000 from (hu _ _).1)
  have HFO := hidMk (show ∀ Y, Kept W1 Y → _ from fun Y k => lock_Foreign (h.keep (k1.trans k)) (some ⟨b, o, none⟩) c l u (hq.kept (k1.trans k)) (by omega) hu)
  obtain ⟨B, hBB⟩ : ∃ B : Bool, B = true := ⟨_, rfl⟩
  have HBV := hidMk hBB
  have HB := hidMk (show ∀ m : List Rn, (∀ n, inRg m n ↔ forP ms ds (l.map lkOf) u n) → (B = true ↔ ∃ n, n ∈ undC ms ds x ∧ inRg m n) from fun m hm => by
    have e := lok_iff (ms := ms) (ds := ds) (l := l.map lkOf) (u := u) (x := x)
    rw [hB.trans hBB.symm] at e
    exact e.trans ⟨fun ⟨n, h1, h2⟩ => ⟨n, h1, (hm n).2 h2⟩, fun ⟨n, h1, h2⟩ => ⟨n, h1, (hm n).1 h2⟩⟩)
  generalize undC ms ds x = UL at *
  rw [hWC, hWA] at hW1
  unfold clV hdV at *
  generalize forP ms ds (l.map lkOf) u = FP at *
  clear h hq hA k1 kA kC kD zA zC hWA hWC hu hB hBB
  obtain ⟨y0, y2, y3, y4, y5, y6⟩ := HBX.out W1 (Chg.refl _ _)
  rw [hW1, hhb] at y0
  rw [hW1, hcb] at y2 y3 y4 y5 y6
  go_enter Tryz.func29, Tryz.ntmps29
  go_wp2_with fail
  rw [← hW1, ← hrb, ← hcb, ← hhb]
  clear hW1 hrb hcb hhb y0 y2 y3 y4 y5 y6
  refine HAS.out.mono ?_
  rintro e w2 ⟨rfl, k2⟩
  have HK2 := hidMk k2
  clear k2 HAS
  obtain ⟨y0, y2, y3, y4, y5, y6⟩ := HBX.out w2 (Chg.of_kept HK2.out)
  go_wp2_with fail
  refine (HFI.out _ HK2.out).mono ?_
  rintro e w3 ⟨z, rfl, hz, k3⟩
  obtain rfl : z = (k : Int) := by
    rcases hz with ⟨k', rfl, h1, h2, h3⟩ | ⟨_, h2⟩
    · rw [hcd k' k h1 hk (by rw [of_decide_eq_true h2, hce])]
    · exact absurd hce (of_decide_eq_false (h2 k hk))
  have HK3 := hidMk (HK2.out.trans k3)
  clear k3 hz HFI HK2 y0 y2 y3 y4 y5 y6
  obtain ⟨y0, y2, y3, y4, y5, y6⟩ := HBX.out w3 (Chg.of_kept HK3.out)
  have hk0 : (0 : Int) ≤ (k : Int) := by omega
  have hk1 : (k : Int) < (l.length : Int) := by omega
  obtain ⟨c0, c1, c2, c3, c4, c5, c6⟩ := (HQ.out w3 HK3.out).at hk
  clear hcd hce
  have hus := bytes_neD hue
  clear hue
  generalize pkA l k = X at *
  go_upto_region 7 with fail
  clear y0 y2 y3 y4 y5 y6
  refine wp_region_held_drew (S := (fun w' => Kept W1 w')) (by kernel_rfl) ?_ (fun hHeld => ?_)
  · exact HK3.out.drew
  refine tkL 0 40 (v := ?_) rfl ?_ ?_
  rotate_left
  · (intro w9 hSw; clear hSw; go_simp; (try with_reducible rfl))
  (try simp only [tkS])
  refine tkL 1 41 (v := ?_) rfl ?_ ?_
  rotate_left
  · (intro w9 hSw; obtain ⟨y0, y2, y3, y4, y5, y6⟩ := HBX.out w9 (Chg.of_kept hSw); clear hSw; go_simp; (try with_reducible rfl))
  (try simp only [tkS])
  refine tkL 3 43 (v := ?_) rfl ?_ ?_
  rotate_left
  · (intro w9 hSw; obtain ⟨y0, y2, y3, y4, y5, y6⟩ := HBX.out w9 (Chg.of_kept hSw); clear hSw; go_simp; (try with_reducible rfl))
  (try simp only [tkS])
  refine tkL 4 44 (v := ?_) rfl ?_ ?_
  rotate_left
  · (intro w9 hSw; clear hSw; go_simp; (try with_reducible rfl))
  (try simp only [tkS])
  refine tkL 5 45 (v := ?_) rfl ?_ ?_
  rotate_left
  · (intro w9 hSw; clear hSw; go_simp; (try with_reducible rfl))
  (try simp only [tkS])
  refine wpAnyH_ready (rs := [2]) (by kernel_rfl) (by simp) ?_
  refine AllReadyH.cons (o := ⟨some 42, _, _, _, _, _⟩) rfl (fun K hK => ?_) AllReadyH.nil
  go_simp
  refine (HUN.out _ hHeld).mono ?_
  rintro e wA ⟨v2, rfl, ho2, kA⟩
  obtain ⟨ua, uc, rfl, hsl⟩ := ho2.sl (by have := HUB.out; unfold maxLen; omega)
  have HSL := hidMk hsl
  have HAA := hidMk (hHeld.trans kA)
  clear kA ho2 hsl
  (try go_wp2_with fail)
  refine hK.out _ _ ?_ (fun hHeld => ?_)
  · exact HAA.out
  clear hK K
  (try simp only [tkS])
  refine wpAnyH_ready (rs := [6]) (by kernel_rfl) (by simp) ?_
  refine AllReadyH.cons (o := ⟨some 46, _, _, _, _, _⟩) rfl (fun K hK => ?_) AllReadyH.nil
  go_simp
  refine (HFO.out _ hHeld).mono ?_
  rintro e wB ⟨v3, m, rfl, hset, hN, hin, hlen, kB, _⟩
  obtain ⟨ma, mc, rfl, hrs⟩ := hset
  have HAN := hidMk (show ∀ Y, Kept wB Y → _ from fun Y k => slices_AnyHas ua UL.length uc UL ma m.length mc m Y (HSL.out.kept (kB.trans k)) (SetIs.kept (v := .agg #[.slice ma m.length mc]) ⟨ma, mc, rfl, hrs⟩ k) hN (by omega) rfl (by have := HUB.out; omega) B (HB.out m hin))
  have HAB := hidMk (hHeld.trans kB)
  have HAA := hidMk (show Kept W1 wB from HAB.out)
  clear kB hrs hN hin hlen
  (try go_wp2_with fail)
  refine hK.out _ _ ?_ (fun hHeld => ?_)
  · exact HAA.out
  clear hK K
  (try simp only [tkS])
  refine tkL 7 47 (v := ?_) rfl ?_ ?_
  rotate_left
  · (intro w9 hSw; clear hSw; go_simp; (try with_reducible rfl))
  (try simp only [tkS])
  refine wpAnyH_ready (rs := [8]) (by kernel_rfl) (by simp) ?_
  refine AllReadyH.cons (o := ⟨some 48, _, _, _, _, _⟩) rfl (fun K hK => ?_) AllReadyH.nil
  go_simp
  refine (HAN.out _ (Kept.refl _)).mono ?_
  rintro e wC ⟨rfl, kC⟩
  have HAA := hidMk (hHeld.trans kC)
  clear kC
  (try go_wp2_with fail)
  refine hK.out _ _ ?_ (fun hHeld => ?_)
  · exact HAA.out
  clear hK K
  (try simp only [tkS])
  refine wpAnyH_done (by kernel_rfl) ?_ _
  have HK5 := hidMk hHeld
  obtain rfl := HBV.out
  clear hHeld HAN HSL HB HBV
  have rc := HK5.out.cellp HRB.out.1
  have rf := (HK5.out.frozen (p := ⟨rb, 0, none⟩) HRN.out.2).trans HRB.out.2
  go_wp2_with fail
  refine bodyPost_ret (v := .tuple #[.agg #[.slice none 0 0], .int .i64 12]) ?_ rfl ⟨rfl, ?_⟩
  · simp only [results, show Tryz.f29.results = #[.cell 8 66, .tmp 9] from rfl]
    have rc2 : (wC.setCell ⟨rb, 0, none⟩ (.slice none 0 0)).cell? ⟨rb, 0, none⟩ = some (.slice none 0 0) := World.cell?_setCell_same _ _ _ (HK5.out.cellp HRB.out.1)
    have rl := lock_load rc2
    go_simp
  · exact Chg.kept HK1.out ((Chg.of_kept HK5.out).setCell (S := fun j => j = rb) (p := ⟨rb, 0, none⟩) (.inl rfl) _) (fun j e => by have := HRN.out.1; omega)
set_option maxHeartbeats 8000000 in
set_option maxRecDepth 100000 in
theorem lock_Add_lok0 (h : SW w s p ds ms tp rv) (a : Option Addr) (c : Nat) (l : List Pk) (x : Cl) (u : ByteArray) (hq : Pq w a l) (hl : l.length ≤ 40) (huz : u.size ≤ maxLen) (hu : ∀ cm at_, (undL ms ds cm at_).length ≤ 1000 ∧ ∀ y, y ∈ undL ms ds cm at_ → isI y ∧ 0 ≤ y) (hA : askE ms ds x u = 0) (hno : ∀ t, t < l.length → (pkA l t).1 ≠ x) (hB : lokB ms ds (l.map lkOf) u x = true) :
    Calls Tryz.prog 29 #[hdV a l.length c, .pointer (some ⟨s, 0, none⟩), clV x, .string u] w (HdNo w 12) := by
  obtain ⟨hb, hhb⟩ : ∃ z, z = w.heap.size := ⟨_, rfl⟩
  obtain ⟨cb, hcb⟩ : ∃ z, z = w.heap.size + 1 := ⟨_, rfl⟩
  obtain ⟨rb, hrb⟩ : ∃ z, z = w.heap.size + 1 + 1 := ⟨_, rfl⟩
  obtain ⟨WA, hWA⟩ : ∃ V, V = w.alloc (.cells #[.slice a l.length c] 66) := ⟨_, rfl⟩
  obtain ⟨WC, hWC⟩ : ∃ V, V = WA.alloc (.cells #[.int .i64 x.1, .int .i64 x.2.1, .int .i64 x.2.2.1, .int .i64 x.2.2.2.1, .int .i64 x.2.2.2.2] 29) := ⟨_, rfl⟩
  obtain ⟨W1, hW1⟩ : ∃ V, V = WC.alloc (.cells #[.slice none 0 0] 66) := ⟨_, rfl⟩
  have kA : Kept w WA := by rw [hWA]; exact (Kept.refl _).alloc _
  have kC : Kept WA WC := by rw [hWC]; exact (Kept.refl _).alloc _
  have kD : Kept WC W1 := by rw [hW1]; exact (Kept.refl _).alloc _
  have zA : WA.heap.size = w.heap.size + 1 := by rw [hWA, World.size_alloc]
  have zC : WC.heap.size = w.heap.size + 1 + 1 := by rw [hWC, World.size_alloc, zA]
  have k1 := kA.trans (kC.trans kD)
  have HK1 := hidMk k1
  have HBX := hidMk (show ∀ Y, Chg (fun j => j = rb) W1 Y → Y.cell? ⟨hb, 0, none⟩ = some (.slice a l.length c) ∧ Y.cell? ⟨cb, 0, none⟩ = some (.int .i64 x.1) ∧ Y.cell? ⟨cb, 1, none⟩ = some (.int .i64 x.2.1) ∧ Y.cell? ⟨cb, 2, none⟩ = some (.int .i64 x.2.2.1) ∧ Y.cell? ⟨cb, 3, none⟩ = some (.int .i64 x.2.2.2.1) ∧ Y.cell? ⟨cb, 4, none⟩ = some (.int .i64 x.2.2.2.2) from fun Y k => by
    have e1 : WA.cell? ⟨hb, 0, none⟩ = some (.slice a l.length c) := by rw [hWA]; exact new_cell _ _ _ _ 0 _ hhb rfl
    obtain ⟨f0, f1, f2, f3, f4⟩ := boxC_at WA x 29 (hcb.trans zA.symm) WC (by rw [← hWC]; exact Kept.refl _)
    have n1 : hb ≠ rb := by omega
    have n3 : cb ≠ rb := by omega
    exact ⟨k.cellp ((kC.trans kD).cellp e1) n1, k.cellp (kD.cellp f0) n3, k.cellp (kD.cellp f1) n3, k.cellp (kD.cellp f2) n3, k.cellp (kD.cellp f3) n3, k.cellp (kD.cellp f4) n3⟩)
  have HRB := hidMk (show W1.cell? ⟨rb, 0, none⟩ = some (.slice none 0 0) ∧ W1.frozen? ⟨rb, 0, none⟩ = false from by
    rw [hW1]; exact ⟨new_cell _ _ _ _ 0 _ (hrb.trans zC.symm) rfl, new_frozen _ _ _ (hrb.trans zC.symm) 0⟩)
  have HRN := hidMk (show w.heap.size ≤ rb ∧ rb < W1.heap.size from ⟨by omega, cell_lt (p := ⟨rb, 0, none⟩) HRB.out.1⟩)
  have HAS := hidMk (lsw_ask (h.keep k1) x u huz)
  rw [hA] at HAS
  have HFI := hidMk (show ∀ Y, Kept W1 Y → _ from fun Y k => lock_find a c l x Y (hq.kept (k1.trans k)) (by omega))
  have HQ := hidMk (show ∀ Y, Kept W1 Y → Pq Y a l from fun Y k => hq.kept (k1.trans k))
  have HUN := hidMk (show ∀ Y, Kept W1 Y → _ from fun Y k => sw_UnderC (h.keep (k1.trans k)) x)
  have HUB := hidMk (show (undC ms ds x).length ≤ 1000 from (hu _ _).1)
  have HFO := hidMk (show ∀ Y, Kept W1 Y → _ from fun Y k => lock_Foreign (h.keep (k1.trans k)) a c l u (hq.kept (k1.trans k)) (by omega) hu)
  obtain ⟨B, hBB⟩ : ∃ B : Bool, B = true := ⟨_, rfl⟩
  have HBV := hidMk hBB
  have HB := hidMk (show ∀ m : List Rn, (∀ n, inRg m n ↔ forP ms ds (l.map lkOf) u n) → (B = true ↔ ∃ n, n ∈ undC ms ds x ∧ inRg m n) from fun m hm => by
    have e := lok_iff (ms := ms) (ds := ds) (l := l.map lkOf) (u := u) (x := x)
    rw [hB.trans hBB.symm] at e
    exact e.trans ⟨fun ⟨n, h1, h2⟩ => ⟨n, h1, (hm n).2 h2⟩, fun ⟨n, h1, h2⟩ => ⟨n, h1, (hm n).1 h2⟩⟩)
  generalize undC ms ds x = UL at *
  rw [hWC, hWA] at hW1
  unfold clV hdV at *
  generalize forP ms ds (l.map lkOf) u = FP at *
  clear h hq hA k1 kA kC kD zA zC hWA hWC hu hB hBB
  obtain ⟨y0, y2, y3, y4, y5, y6⟩ := HBX.out W1 (Chg.refl _ _)
  rw [hW1, hhb] at y0
  rw [hW1, hcb] at y2 y3 y4 y5 y6
  go_enter Tryz.func29, Tryz.ntmps29
  go_wp2_with fail
  rw [← hW1, ← hrb, ← hcb, ← hhb]
  clear hW1 hrb hcb hhb y0 y2 y3 y4 y5 y6
  refine HAS.out.mono ?_
  rintro e w2 ⟨rfl, k2⟩
  have HK2 := hidMk k2
  clear k2 HAS
  obtain ⟨y0, y2, y3, y4, y5, y6⟩ := HBX.out w2 (Chg.of_kept HK2.out)
  go_wp2_with fail
  refine (HFI.out _ HK2.out).mono ?_
  rintro e w3 ⟨z, rfl, hz, k3⟩
  obtain rfl : z = -1 := by
    rcases hz with ⟨k', rfl, h1, h2, h3⟩ | ⟨h, _⟩
    · exact absurd (of_decide_eq_true h2) (hno k' h1)
    · exact h
  have HK3 := hidMk (HK2.out.trans k3)
  clear k3 hz HFI HK2 y0 y2 y3 y4 y5 y6
  obtain ⟨y0, y2, y3, y4, y5, y6⟩ := HBX.out w3 (Chg.of_kept HK3.out)
  clear hno
  go_upto_region 7 with fail
  clear y0 y2 y3 y4 y5 y6
  refine wp_region_held_drew (S := (fun w' => Kept W1 w')) (by kernel_rfl) ?_ (fun hHeld => ?_)
  · exact HK3.out.drew
  refine tkL 0 40 (v := ?_) rfl ?_ ?_
  rotate_left
  · (intro w9 hSw; clear hSw; go_simp; (try with_reducible rfl))
  (try simp only [tkS])
  refine tkL 1 41 (v := ?_) rfl ?_ ?_
  rotate_left
  · (intro w9 hSw; obtain ⟨y0, y2, y3, y4, y5, y6⟩ := HBX.out w9 (Chg.of_kept hSw); clear hSw; go_simp; (try with_reducible rfl))
  (try simp only [tkS])
  refine tkL 3 43 (v := ?_) rfl ?_ ?_
  rotate_left
  · (intro w9 hSw; obtain ⟨y0, y2, y3, y4, y5, y6⟩ := HBX.out w9 (Chg.of_kept hSw); clear hSw; go_simp; (try with_reducible rfl))
  (try simp only [tkS])
  refine tkL 4 44 (v := ?_) rfl ?_ ?_
  rotate_left
  · (intro w9 hSw; clear hSw; go_simp; (try with_reducible rfl))
  (try simp only [tkS])
  refine tkL 5 45 (v := ?_) rfl ?_ ?_
  rotate_left
  · (intro w9 hSw; clear hSw; go_simp; (try with_reducible rfl))
  (try simp only [tkS])
  refine wpAnyH_ready (rs := [2]) (by kernel_rfl) (by simp) ?_
  refine AllReadyH.cons (o := ⟨some 42, _, _, _, _, _⟩) rfl (fun K hK => ?_) AllReadyH.nil
  go_simp
  refine (HUN.out _ hHeld).mono ?_
  rintro e wA ⟨v2, rfl, ho2, kA⟩
  obtain ⟨ua, uc, rfl, hsl⟩ := ho2.sl (by have := HUB.out; unfold maxLen; omega)
  have HSL := hidMk hsl
  have HAA := hidMk (hHeld.trans kA)
  clear kA ho2 hsl
  (try go_wp2_with fail)
  refine hK.out _ _ ?_ (fun hHeld => ?_)
  · exact HAA.out
  clear hK K
  (try simp only [tkS])
  refine wpAnyH_ready (rs := [6]) (by kernel_rfl) (by simp) ?_
  refine AllReadyH.cons (o := ⟨some 46, _, _, _, _, _⟩) rfl (fun K hK => ?_) AllReadyH.nil
  go_simp
  refine (HFO.out _ hHeld).mono ?_
  rintro e wB ⟨v3, m, rfl, hset, hN, hin, hlen, kB, _⟩
  obtain ⟨ma, mc, rfl, hrs⟩ := hset
  have HAN := hidMk (show ∀ Y, Kept wB Y → _ from fun Y k => slices_AnyHas ua UL.length uc UL ma m.length mc m Y (HSL.out.kept (kB.trans k)) (SetIs.kept (v := .agg #[.slice ma m.length mc]) ⟨ma, mc, rfl, hrs⟩ k) hN (by omega) rfl (by have := HUB.out; omega) B (HB.out m hin))
  have HAB := hidMk (hHeld.trans kB)
  have HAA := hidMk (show Kept W1 wB from HAB.out)
  clear kB hrs hN hin hlen
  (try go_wp2_with fail)
  refine hK.out _ _ ?_ (fun hHeld => ?_)
  · exact HAA.out
  clear hK K
  (try simp only [tkS])
  refine tkL 7 47 (v := ?_) rfl ?_ ?_
  rotate_left
  · (intro w9 hSw; clear hSw; go_simp; (try with_reducible rfl))
  (try simp only [tkS])
  refine wpAnyH_ready (rs := [8]) (by kernel_rfl) (by simp) ?_
  refine AllReadyH.cons (o := ⟨some 48, _, _, _, _, _⟩) rfl (fun K hK => ?_) AllReadyH.nil
  go_simp
  refine (HAN.out _ (Kept.refl _)).mono ?_
  rintro e wC ⟨rfl, kC⟩
  have HAA := hidMk (hHeld.trans kC)
  clear kC
  (try go_wp2_with fail)
  refine hK.out _ _ ?_ (fun hHeld => ?_)
  · exact HAA.out
  clear hK K
  (try simp only [tkS])
  refine wpAnyH_done (by kernel_rfl) ?_ _
  have HK5 := hidMk hHeld
  obtain rfl := HBV.out
  clear hHeld HAN HSL HB HBV
  have rc := HK5.out.cellp HRB.out.1
  have rf := (HK5.out.frozen (p := ⟨rb, 0, none⟩) HRN.out.2).trans HRB.out.2
  go_wp2_with fail
  refine bodyPost_ret (v := .tuple #[.agg #[.slice none 0 0], .int .i64 12]) ?_ rfl ⟨rfl, ?_⟩
  · simp only [results, show Tryz.f29.results = #[.cell 8 66, .tmp 9] from rfl]
    have rc2 : (wC.setCell ⟨rb, 0, none⟩ (.slice none 0 0)).cell? ⟨rb, 0, none⟩ = some (.slice none 0 0) := World.cell?_setCell_same _ _ _ (HK5.out.cellp HRB.out.1)
    have rl := lock_load rc2
    go_simp
  · exact Chg.kept HK1.out ((Chg.of_kept HK5.out).setCell (S := fun j => j = rb) (p := ⟨rb, 0, none⟩) (.inl rfl) _) (fun j e => by have := HRN.out.1; omega)
set_option maxHeartbeats 8000000 in
set_option maxRecDepth 100000 in
theorem lock_Add_full0 (h : SW w s p ds ms tp rv) (a : Option Addr) (c : Nat) (l : List Pk) (x : Cl) (u : ByteArray) (hq : Pq w a l) (hl : l.length ≤ 40) (huz : u.size ≤ maxLen) (hu : ∀ cm at_, (undL ms ds cm at_).length ≤ 1000 ∧ ∀ y, y ∈ undL ms ds cm at_ → isI y ∧ 0 ≤ y) (hA : askE ms ds x u = 0) (hno : ∀ t, t < l.length → (pkA l t).1 ≠ x) (hB : lokB ms ds (l.map lkOf) u x = false) (h16 : 16 ≤ l.length) :
    Calls Tryz.prog 29 #[hdV a l.length c, .pointer (some ⟨s, 0, none⟩), clV x, .string u] w (HdNo w 14) := by
  have h16i : (16 : Int) ≤ (l.length : Int) := by omega
  obtain ⟨hb, hhb⟩ : ∃ z, z = w.heap.size := ⟨_, rfl⟩
  obtain ⟨cb, hcb⟩ : ∃ z, z = w.heap.size + 1 := ⟨_, rfl⟩
  obtain ⟨rb, hrb⟩ : ∃ z, z = w.heap.size + 1 + 1 := ⟨_, rfl⟩
  obtain ⟨WA, hWA⟩ : ∃ V, V = w.alloc (.cells #[.slice a l.length c] 66) := ⟨_, rfl⟩
  obtain ⟨WC, hWC⟩ : ∃ V, V = WA.alloc (.cells #[.int .i64 x.1, .int .i64 x.2.1, .int .i64 x.2.2.1, .int .i64 x.2.2.2.1, .int .i64 x.2.2.2.2] 29) := ⟨_, rfl⟩
  obtain ⟨W1, hW1⟩ : ∃ V, V = WC.alloc (.cells #[.slice none 0 0] 66) := ⟨_, rfl⟩
  have kA : Kept w WA := by rw [hWA]; exact (Kept.refl _).alloc _
  have kC : Kept WA WC := by rw [hWC]; exact (Kept.refl _).alloc _
  have kD : Kept WC W1 := by rw [hW1]; exact (Kept.refl _).alloc _
  have zA : WA.heap.size = w.heap.size + 1 := by rw [hWA, World.size_alloc]
  have zC : WC.heap.size = w.heap.size + 1 + 1 := by rw [hWC, World.size_alloc, zA]
  have k1 := kA.trans (kC.trans kD)
  have HK1 := hidMk k1
  have HBX := hidMk (show ∀ Y, Chg (fun j => j = rb) W1 Y → Y.cell? ⟨hb, 0, none⟩ = some (.slice a l.length c) ∧ Y.cell? ⟨cb, 0, none⟩ = some (.int .i64 x.1) ∧ Y.cell? ⟨cb, 1, none⟩ = some (.int .i64 x.2.1) ∧ Y.cell? ⟨cb, 2, none⟩ = some (.int .i64 x.2.2.1) ∧ Y.cell? ⟨cb, 3, none⟩ = some (.int .i64 x.2.2.2.1) ∧ Y.cell? ⟨cb, 4, none⟩ = some (.int .i64 x.2.2.2.2) from fun Y k => by
    have e1 : WA.cell? ⟨hb, 0, none⟩ = some (.slice a l.length c) := by rw [hWA]; exact new_cell _ _ _ _ 0 _ hhb rfl
    obtain ⟨f0, f1, f2, f3, f4⟩ := boxC_at WA x 29 (hcb.trans zA.symm) WC (by rw [← hWC]; exact Kept.refl _)
    have n1 : hb ≠ rb := by omega
    have n3 : cb ≠ rb := by omega
    exact ⟨k.cellp ((kC.trans kD).cellp e1) n1, k.cellp (kD.cellp f0) n3, k.cellp (kD.cellp f1) n3, k.cellp (kD.cellp f2) n3, k.cellp (kD.cellp f3) n3, k.cellp (kD.cellp f4) n3⟩)
  have HRB := hidMk (show W1.cell? ⟨rb, 0, none⟩ = some (.slice none 0 0) ∧ W1.frozen? ⟨rb, 0, none⟩ = false from by
    rw [hW1]; exact ⟨new_cell _ _ _ _ 0 _ (hrb.trans zC.symm) rfl, new_frozen _ _ _ (hrb.trans zC.symm) 0⟩)
  have HRN := hidMk (show w.heap.size ≤ rb ∧ rb < W1.heap.size from ⟨by omega, cell_lt (p := ⟨rb, 0, none⟩) HRB.out.1⟩)
  have HAS := hidMk (lsw_ask (h.keep k1) x u huz)
  rw [hA] at HAS
  have HFI := hidMk (show ∀ Y, Kept W1 Y → _ from fun Y k => lock_find a c l x Y (hq.kept (k1.trans k)) (by omega))
  have HQ := hidMk (show ∀ Y, Kept W1 Y → Pq Y a l from fun Y k => hq.kept (k1.trans k))
  have HUN := hidMk (show ∀ Y, Kept W1 Y → _ from fun Y k => sw_UnderC (h.keep (k1.trans k)) x)
  have HUB := hidMk (show (undC ms ds x).length ≤ 1000 from (hu _ _).1)
  have HFO := hidMk (show ∀ Y, Kept W1 Y → _ from fun Y k => lock_Foreign (h.keep (k1.trans k)) a c l u (hq.kept (k1.trans k)) (by omega) hu)
  obtain ⟨B, hBB⟩ : ∃ B : Bool, B = false := ⟨_, rfl⟩
  have HBV := hidMk hBB
  have HB := hidMk (show ∀ m : List Rn, (∀ n, inRg m n ↔ forP ms ds (l.map lkOf) u n) → (B = true ↔ ∃ n, n ∈ undC ms ds x ∧ inRg m n) from fun m hm => by
    have e := lok_iff (ms := ms) (ds := ds) (l := l.map lkOf) (u := u) (x := x)
    rw [hB.trans hBB.symm] at e
    exact e.trans ⟨fun ⟨n, h1, h2⟩ => ⟨n, h1, (hm n).2 h2⟩, fun ⟨n, h1, h2⟩ => ⟨n, h1, (hm n).1 h2⟩⟩)
  generalize undC ms ds x = UL at *
  rw [hWC, hWA] at hW1
  unfold clV hdV at *
  generalize forP ms ds (l.map lkOf) u = FP at *
  clear h hq hA k1 kA kC kD zA zC hWA hWC hu hB hBB
  obtain ⟨y0, y2, y3, y4, y5, y6⟩ := HBX.out W1 (Chg.refl _ _)
  rw [hW1, hhb] at y0
  rw [hW1, hcb] at y2 y3 y4 y5 y6
  go_enter Tryz.func29, Tryz.ntmps29
  go_wp2_with fail
  rw [← hW1, ← hrb, ← hcb, ← hhb]
  clear hW1 hrb hcb hhb y0 y2 y3 y4 y5 y6
  refine HAS.out.mono ?_
  rintro e w2 ⟨rfl, k2⟩
  have HK2 := hidMk k2
  clear k2 HAS
  obtain ⟨y0, y2, y3, y4, y5, y6⟩ := HBX.out w2 (Chg.of_kept HK2.out)
  go_wp2_with fail
  refine (HFI.out _ HK2.out).mono ?_
  rintro e w3 ⟨z, rfl, hz, k3⟩
  obtain rfl : z = -1 := by
    rcases hz with ⟨k', rfl, h1, h2, h3⟩ | ⟨h, _⟩
    · exact absurd (of_decide_eq_true h2) (hno k' h1)
    · exact h
  have HK3 := hidMk (HK2.out.trans k3)
  clear k3 hz HFI HK2 y0 y2 y3 y4 y5 y6
  obtain ⟨y0, y2, y3, y4, y5, y6⟩ := HBX.out w3 (Chg.of_kept HK3.out)
  clear hno
  go_upto_region 7 with fail
  clear y0 y2 y3 y4 y5 y6
  refine wp_region_held_drew (S := (fun w' => Kept W1 w')) (by kernel_rfl) ?_ (fun hHeld => ?_)
  · exact HK3.out.drew
  refine tkL 0 40 (v := ?_) rfl ?_ ?_
  rotate_left
  · (intro w9 hSw; clear hSw; go_simp; (try with_reducible rfl))
  (try simp only [tkS])
  refine tkL 1 41 (v := ?_) rfl ?_ ?_
  rotate_left
  · (intro w9 hSw; obtain ⟨y0, y2, y3, y4, y5, y6⟩ := HBX.out w9 (Chg.of_kept hSw); clear hSw; go_simp; (try with_reducible rfl))
  (try simp only [tkS])
  refine tkL 3 43 (v := ?_) rfl ?_ ?_
  rotate_left
  · (intro w9 hSw; obtain ⟨y0, y2, y3, y4, y5, y6⟩ := HBX.out w9 (Chg.of_kept hSw); clear hSw; go_simp; (try with_reducible rfl))
  (try simp only [tkS])
  refine tkL 4 44 (v := ?_) rfl ?_ ?_
  rotate_left
  · (intro w9 hSw; clear hSw; go_simp; (try with_reducible rfl))
  (try simp only [tkS])
  refine tkL 5 45 (v := ?_) rfl ?_ ?_
  rotate_left
  · (intro w9 hSw; clear hSw; go_simp; (try with_reducible rfl))
  (try simp only [tkS])
  refine wpAnyH_ready (rs := [2]) (by kernel_rfl) (by simp) ?_
  refine AllReadyH.cons (o := ⟨some 42, _, _, _, _, _⟩) rfl (fun K hK => ?_) AllReadyH.nil
  go_simp
  refine (HUN.out _ hHeld).mono ?_
  rintro e wA ⟨v2, rfl, ho2, kA⟩
  obtain ⟨ua, uc, rfl, hsl⟩ := ho2.sl (by have := HUB.out; unfold maxLen; omega)
  have HSL := hidMk hsl
  have HAA := hidMk (hHeld.trans kA)
  clear kA ho2 hsl
  (try go_wp2_with fail)
  refine hK.out _ _ ?_ (fun hHeld => ?_)
  · exact HAA.out
  clear hK K
  (try simp only [tkS])
  refine wpAnyH_ready (rs := [6]) (by kernel_rfl) (by simp) ?_
  refine AllReadyH.cons (o := ⟨some 46, _, _, _, _, _⟩) rfl (fun K hK => ?_) AllReadyH.nil
  go_simp
  refine (HFO.out _ hHeld).mono ?_
  rintro e wB ⟨v3, m, rfl, hset, hN, hin, hlen, kB, _⟩
  obtain ⟨ma, mc, rfl, hrs⟩ := hset
  have HAN := hidMk (show ∀ Y, Kept wB Y → _ from fun Y k => slices_AnyHas ua UL.length uc UL ma m.length mc m Y (HSL.out.kept (kB.trans k)) (SetIs.kept (v := .agg #[.slice ma m.length mc]) ⟨ma, mc, rfl, hrs⟩ k) hN (by omega) rfl (by have := HUB.out; omega) B (HB.out m hin))
  have HAB := hidMk (hHeld.trans kB)
  have HAA := hidMk (show Kept W1 wB from HAB.out)
  clear kB hrs hN hin hlen
  (try go_wp2_with fail)
  refine hK.out _ _ ?_ (fun hHeld => ?_)
  · exact HAA.out
  clear hK K
  (try simp only [tkS])
  refine tkL 7 47 (v := ?_) rfl ?_ ?_
  rotate_left
  · (intro w9 hSw; clear hSw; go_simp; (try with_reducible rfl))
  (try simp only [tkS])
  refine wpAnyH_ready (rs := [8]) (by kernel_rfl) (by simp) ?_
  refine AllReadyH.cons (o := ⟨some 48, _, _, _, _, _⟩) rfl (fun K hK => ?_) AllReadyH.nil
  go_simp
  refine (HAN.out _ (Kept.refl _)).mono ?_
  rintro e wC ⟨rfl, kC⟩
  have HAA := hidMk (hHeld.trans kC)
  clear kC
  (try go_wp2_with fail)
  refine hK.out _ _ ?_ (fun hHeld => ?_)
  · exact HAA.out
  clear hK K
  (try simp only [tkS])
  refine wpAnyH_done (by kernel_rfl) ?_ _
  have HK5 := hidMk hHeld
  obtain rfl := HBV.out
  clear hHeld HAN HSL HB HBV
  obtain ⟨y0, y2, y3, y4, y5, y6⟩ := HBX.out wC (Chg.of_kept HK5.out)
  have rc := HK5.out.cellp HRB.out.1
  have rf := (HK5.out.frozen (p := ⟨rb, 0, none⟩) HRN.out.2).trans HRB.out.2
  go_wp2_with fail
  refine bodyPost_ret (v := .tuple #[.agg #[.slice none 0 0], .int .i64 14]) ?_ rfl ⟨rfl, ?_⟩
  · simp only [results, show Tryz.f29.results = #[.cell 8 66, .tmp 9] from rfl]
    have rc2 : (wC.setCell ⟨rb, 0, none⟩ (.slice none 0 0)).cell? ⟨rb, 0, none⟩ = some (.slice none 0 0) := World.cell?_setCell_same _ _ _ (HK5.out.cellp HRB.out.1)
    have rl := lock_load rc2
    go_simp
  · exact Chg.kept HK1.out ((Chg.of_kept HK5.out).setCell (S := fun j => j = rb) (p := ⟨rb, 0, none⟩) (.inl rfl) _) (fun j e => by have := HRN.out.1; omega)
end

def InsPk (l : List Pk) (x : Pk) (l' : List Pk) : Prop := ∃ i, i ≤ l.length ∧ (∀ k, k < i → (pkA l k).2.2 < x.2.2) ∧ (∀ k, i ≤ k → k < l.length → x.2.2 ≤ (pkA l k).2.2) ∧ l' = l.take i ++ x :: l.drop i
def LkAdd (w : World) (l : List Pk) (x : Pk) (e : Ending) (w' : World) : Prop := ∃ v l', e = .returned (.tuple #[.agg #[v], .int .i64 0]) ∧ InsPk l x l' ∧ OwnPk w' w.heap.size v l' ∧ Kept w w'
theorem pk_room {W Y : World} (k : Kept ((W.alloc (.cells #[.int .i64 0, .int .i64 0, .int .i64 0, .int .i64 0, .int .i64 0, .string ⟨#[]⟩, .int .i64 0] 130)).drew) Y) : Y.cell? ⟨W.heap.size, 0, none⟩ = some (.int .i64 0) ∧ Y.cell? ⟨W.heap.size, 1, none⟩ = some (.int .i64 0) ∧ Y.cell? ⟨W.heap.size, 2, none⟩ = some (.int .i64 0) ∧ Y.cell? ⟨W.heap.size, 3, none⟩ = some (.int .i64 0) ∧ Y.cell? ⟨W.heap.size, 4, none⟩ = some (.int .i64 0) ∧ Y.cell? ⟨W.heap.size, 5, none⟩ = some (.string ⟨#[]⟩) ∧ Y.cell? ⟨W.heap.size, 6, none⟩ = some (.int .i64 0) ∧ (∀ j, Y.frozen? ⟨W.heap.size, j, none⟩ = false) ∧ W.heap.size < Y.heap.size := by
  have k := ((Kept.refl (W.alloc _)).drew).trans k
  exact ⟨k.cellp (new_cell _ _ _ _ 0 _ rfl rfl), k.cellp (new_cell _ _ _ _ 1 _ rfl rfl), k.cellp (new_cell _ _ _ _ 2 _ rfl rfl), k.cellp (new_cell _ _ _ _ 3 _ rfl rfl), k.cellp (new_cell _ _ _ _ 4 _ rfl rfl), k.cellp (new_cell _ _ _ _ 5 _ rfl rfl), k.cellp (new_cell _ _ _ _ 6 _ rfl rfl), fun j => (k.frozen (p := ⟨W.heap.size, j, none⟩) (by simp)).trans (new_frozen _ _ _ rfl j), by have := k.size; rw [World.size_alloc] at this; omega⟩
theorem set7_kept {X Y : World} (k : Kept X Y) {b : Nat} (hb : X.heap.size ≤ b) (v0 v1 v2 v3 v4 v5 v6 : Value) : Kept X (((((((Y.setCell ⟨b, 0, none⟩ v0).setCell ⟨b, 1, none⟩ v1).setCell ⟨b, 2, none⟩ v2).setCell ⟨b, 3, none⟩ v3).setCell ⟨b, 4, none⟩ v4).setCell ⟨b, 5, none⟩ v5).setCell ⟨b, 6, none⟩ v6) :=
  ((((((k.setCell (p := ⟨b, 0, none⟩) hb v0).setCell (p := ⟨b, 1, none⟩) hb v1).setCell (p := ⟨b, 2, none⟩) hb v2).setCell (p := ⟨b, 3, none⟩) hb v3).setCell (p := ⟨b, 4, none⟩) hb v4).setCell (p := ⟨b, 5, none⟩) hb v5).setCell (p := ⟨b, 6, none⟩) hb v6
theorem set7_cells {Y : World} {b : Nat} {z0 z1 z2 z3 z4 z5 z6 : Value} (p0 : Y.cell? ⟨b, 0, none⟩ = some z0) (p1 : Y.cell? ⟨b, 1, none⟩ = some z1) (p2 : Y.cell? ⟨b, 2, none⟩ = some z2) (p3 : Y.cell? ⟨b, 3, none⟩ = some z3) (p4 : Y.cell? ⟨b, 4, none⟩ = some z4) (p5 : Y.cell? ⟨b, 5, none⟩ = some z5) (p6 : Y.cell? ⟨b, 6, none⟩ = some z6) (v0 v1 v2 v3 v4 v5 v6 : Value) (Z : World) (hZ : Z = (((((((Y.setCell ⟨b, 0, none⟩ v0).setCell ⟨b, 1, none⟩ v1).setCell ⟨b, 2, none⟩ v2).setCell ⟨b, 3, none⟩ v3).setCell ⟨b, 4, none⟩ v4).setCell ⟨b, 5, none⟩ v5).setCell ⟨b, 6, none⟩ v6)) : Z.cell? ⟨b, 0, none⟩ = some v0 ∧ Z.cell? ⟨b, 1, none⟩ = some v1 ∧ Z.cell? ⟨b, 2, none⟩ = some v2 ∧ Z.cell? ⟨b, 3, none⟩ = some v3 ∧ Z.cell? ⟨b, 4, none⟩ = some v4 ∧ Z.cell? ⟨b, 5, none⟩ = some v5 ∧ Z.cell? ⟨b, 6, none⟩ = some v6 := by
  subst hZ
  refine ⟨?_, ?_, ?_, ?_, ?_, ?_, ?_⟩ <;> go_simp
section
variable {w : World} {s p : Nat} {ds : List Dm} {ms : List ByteArray} {tp : Nat → Nat} {rv : Nat → Option Addr × Nat}
set_option maxHeartbeats 8000000 in
set_option maxRecDepth 100000 in
theorem lock_Add_some (h : SW w s p ds ms tp rv) (b o c : Nat) (l : List Pk) (x : Cl) (u : ByteArray) (hq : Pq w (some ⟨b, o, none⟩) l) (hl : l.length ≤ 40) (hc : l.length ≤ c) (huz : u.size ≤ maxLen) (hu : ∀ cm at_, (undL ms ds cm at_).length ≤ 1000 ∧ ∀ y, y ∈ undL ms ds cm at_ → isI y ∧ 0 ≤ y) (hA : askE ms ds x u = 0) (hno : ∀ t, t < l.length → (pkA l t).1 ≠ x) (hB : lokB ms ds (l.map lkOf) u x = false) (h16 : l.length < 16) (hr : ∀ i j, i < j → j < l.length → (pkA l i).2.2 < (pkA l j).2.2) (hne : ∀ y, y ∈ l → y.2.2 ≠ ixC ms ds x) (ix : Int) (hix : ixC ms ds x = ix) :
    Calls Tryz.prog 29 #[hdV (some ⟨b, o, none⟩) l.length c, .pointer (some ⟨s, 0, none⟩), clV x, .string u] w (LkAdd w l (x, u, ix)) := by
  have h16i : ¬ ((16 : Int) ≤ (l.length : Int)) := by omega
  rw [hix] at hne
  obtain ⟨hb, hhb⟩ : ∃ z, z = w.heap.size := ⟨_, rfl⟩
  obtain ⟨cb, hcb⟩ : ∃ z, z = w.heap.size + 1 := ⟨_, rfl⟩
  obtain ⟨rb, hrb⟩ : ∃ z, z = w.heap.size + 1 + 1 := ⟨_, rfl⟩
  obtain ⟨WA, hWA⟩ : ∃ V, V = w.alloc (.cells #[.slice (some ⟨b, o, none⟩) l.length c] 66) := ⟨_, rfl⟩
  obtain ⟨WC, hWC⟩ : ∃ V, V = WA.alloc (.cells #[.int .i64 x.1, .int .i64 x.2.1, .int .i64 x.2.2.1, .int .i64 x.2.2.2.1, .int .i64 x.2.2.2.2] 29) := ⟨_, rfl⟩
  obtain ⟨W1, hW1⟩ : ∃ V, V = WC.alloc (.cells #[.slice none 0 0] 66) := ⟨_, rfl⟩
  have kA : Kept w WA := by rw [hWA]; exact (Kept.refl _).alloc _
  have kC : Kept WA WC := by rw [hWC]; exact (Kept.refl _).alloc _
  have kD : Kept WC W1 := by rw [hW1]; exact (Kept.refl _).alloc _
  have zA : WA.heap.size = w.heap.size + 1 := by rw [hWA, World.size_alloc]
  have zC : WC.heap.size = w.heap.size + 1 + 1 := by rw [hWC, World.size_alloc, zA]
  have k1 := kA.trans (kC.trans kD)
  have HK1 := hidMk k1
  have HBX := hidMk (show ∀ Y, Chg (fun j => j = rb) W1 Y → Y.cell? ⟨hb, 0, none⟩ = some (.slice (some ⟨b, o, none⟩) l.length c) ∧ Y.cell? ⟨cb, 0, none⟩ = some (.int .i64 x.1) ∧ Y.cell? ⟨cb, 1, none⟩ = some (.int .i64 x.2.1) ∧ Y.cell? ⟨cb, 2, none⟩ = some (.int .i64 x.2.2.1) ∧ Y.cell? ⟨cb, 3, none⟩ = some (.int .i64 x.2.2.2.1) ∧ Y.cell? ⟨cb, 4, none⟩ = some (.int .i64 x.2.2.2.2) from fun Y k => by
    have e1 : WA.cell? ⟨hb, 0, none⟩ = some (.slice (some ⟨b, o, none⟩) l.length c) := by rw [hWA]; exact new_cell _ _ _ _ 0 _ hhb rfl
    obtain ⟨f0, f1, f2, f3, f4⟩ := boxC_at WA x 29 (hcb.trans zA.symm) WC (by rw [← hWC]; exact Kept.refl _)
    have n1 : hb ≠ rb := by omega
    have n3 : cb ≠ rb := by omega
    exact ⟨k.cellp ((kC.trans kD).cellp e1) n1, k.cellp (kD.cellp f0) n3, k.cellp (kD.cellp f1) n3, k.cellp (kD.cellp f2) n3, k.cellp (kD.cellp f3) n3, k.cellp (kD.cellp f4) n3⟩)
  have HRB := hidMk (show W1.cell? ⟨rb, 0, none⟩ = some (.slice none 0 0) ∧ W1.frozen? ⟨rb, 0, none⟩ = false from by
    rw [hW1]; exact ⟨new_cell _ _ _ _ 0 _ (hrb.trans zC.symm) rfl, new_frozen _ _ _ (hrb.trans zC.symm) 0⟩)
  have HRN := hidMk (show w.heap.size ≤ rb ∧ rb < W1.heap.size from ⟨by omega, cell_lt (p := ⟨rb, 0, none⟩) HRB.out.1⟩)
  have HAS := hidMk (lsw_ask (h.keep k1) x u huz)
  rw [hA] at HAS
  have HFI := hidMk (show ∀ Y, Kept W1 Y → _ from fun Y k => lock_find (some ⟨b, o, none⟩) c l x Y (hq.kept (k1.trans k)) (by omega))
  have HQ := hidMk (show ∀ Y, Kept W1 Y → Pq Y (some ⟨b, o, none⟩) l from fun Y k => hq.kept (k1.trans k))
  have HUN := hidMk (show ∀ Y, Kept W1 Y → _ from fun Y k => sw_UnderC (h.keep (k1.trans k)) x)
  have HUB := hidMk (show (undC ms ds x).length ≤ 1000 from (hu _ _).1)
  have HFO := hidMk (show ∀ Y, Kept W1 Y → _ from fun Y k => lock_Foreign (h.keep (k1.trans k)) (some ⟨b, o, none⟩) c l u (hq.kept (k1.trans k)) (by omega) hu)
  obtain ⟨B, hBB⟩ : ∃ B : Bool, B = false := ⟨_, rfl⟩
  have HBV := hidMk hBB
  have HB := hidMk (show ∀ m : List Rn, (∀ n, inRg m n ↔ forP ms ds (l.map lkOf) u n) → (B = true ↔ ∃ n, n ∈ undC ms ds x ∧ inRg m n) from fun m hm => by
    have e := lok_iff (ms := ms) (ds := ds) (l := l.map lkOf) (u := u) (x := x)
    rw [hB.trans hBB.symm] at e
    exact e.trans ⟨fun ⟨n, h1, h2⟩ => ⟨n, h1, (hm n).2 h2⟩, fun ⟨n, h1, h2⟩ => ⟨n, h1, (hm n).1 h2⟩⟩)
  have HIX0 := hidMk (show ∀ Y, Kept W1 Y → _ from fun Y k => sw_IndexC (h.keep (k1.trans k)) x)
  have HIX := hidMk (show ∀ Y, Kept W1 Y → _ from fun Y k => HIX0.out Y k)
  rw [hix] at HIX
  clear HIX0
  have HBI := hidMk (show ∀ Y, Kept W1 Y → _ from fun Y k => slices_BinPk (some ⟨b, o, none⟩) c l (x, u, ix) (fun y => y.2.2) Y (hq.kept (k1.trans k)) (by omega) hr (fun Z kz y hy => lock_against y (x, u, ix) Z (hne y hy)))
  generalize undC ms ds x = UL at *
  rw [hWC, hWA] at hW1
  unfold clV hdV at *
  generalize forP ms ds (l.map lkOf) u = FP at *
  unfold pkV at HBI
  clear h hq hA k1 kA kC kD zA zC hWA hWC hu hB hBB hr hne hix
  obtain ⟨y0, y2, y3, y4, y5, y6⟩ := HBX.out W1 (Chg.refl _ _)
  rw [hW1, hhb] at y0
  rw [hW1, hcb] at y2 y3 y4 y5 y6
  go_enter Tryz.func29, Tryz.ntmps29
  go_wp2_with fail
  rw [← hW1, ← hrb, ← hcb, ← hhb]
  clear hW1 hrb hcb hhb y0 y2 y3 y4 y5 y6
  refine HAS.out.mono ?_
  rintro e w2 ⟨rfl, k2⟩
  have HK2 := hidMk k2
  clear k2 HAS
  obtain ⟨y0, y2, y3, y4, y5, y6⟩ := HBX.out w2 (Chg.of_kept HK2.out)
  go_wp2_with fail
  refine (HFI.out _ HK2.out).mono ?_
  rintro e w3 ⟨z, rfl, hz, k3⟩
  obtain rfl : z = -1 := by
    rcases hz with ⟨k', rfl, h1, h2, h3⟩ | ⟨h, _⟩
    · exact absurd (of_decide_eq_true h2) (hno k' h1)
    · exact h
  have HK3 := hidMk (HK2.out.trans k3)
  clear k3 hz HFI HK2 y0 y2 y3 y4 y5 y6
  obtain ⟨y0, y2, y3, y4, y5, y6⟩ := HBX.out w3 (Chg.of_kept HK3.out)
  clear hno
  go_upto_region 7 with fail
  clear y0 y2 y3 y4 y5 y6
  refine wp_region_held_drew (S := (fun w' => Kept W1 w')) (by kernel_rfl) ?_ (fun hHeld => ?_)
  · exact HK3.out.drew
  refine tkL 0 40 (v := ?_) rfl ?_ ?_
  rotate_left
  · (intro w9 hSw; clear hSw; go_simp; (try with_reducible rfl))
  (try simp only [tkS])
  refine tkL 1 41 (v := ?_) rfl ?_ ?_
  rotate_left
  · (intro w9 hSw; obtain ⟨y0, y2, y3, y4, y5, y6⟩ := HBX.out w9 (Chg.of_kept hSw); clear hSw; go_simp; (try with_reducible rfl))
  (try simp only [tkS])
  refine tkL 3 43 (v := ?_) rfl ?_ ?_
  rotate_left
  · (intro w9 hSw; obtain ⟨y0, y2, y3, y4, y5, y6⟩ := HBX.out w9 (Chg.of_kept hSw); clear hSw; go_simp; (try with_reducible rfl))
  (try simp only [tkS])
  refine tkL 4 44 (v := ?_) rfl ?_ ?_
  rotate_left
  · (intro w9 hSw; clear hSw; go_simp; (try with_reducible rfl))
  (try simp only [tkS])
  refine tkL 5 45 (v := ?_) rfl ?_ ?_
  rotate_left
  · (intro w9 hSw; clear hSw; go_simp; (try with_reducible rfl))
  (try simp only [tkS])
  refine wpAnyH_ready (rs := [2]) (by kernel_rfl) (by simp) ?_
  refine AllReadyH.cons (o := ⟨some 42, _, _, _, _, _⟩) rfl (fun K hK => ?_) AllReadyH.nil
  go_simp
  refine (HUN.out _ hHeld).mono ?_
  rintro e wA ⟨v2, rfl, ho2, kA⟩
  obtain ⟨ua, uc, rfl, hsl⟩ := ho2.sl (by have := HUB.out; unfold maxLen; omega)
  have HSL := hidMk hsl
  have HAA := hidMk (hHeld.trans kA)
  clear kA ho2 hsl
  (try go_wp2_with fail)
  refine hK.out _ _ ?_ (fun hHeld => ?_)
  · exact HAA.out
  clear hK K
  (try simp only [tkS])
  refine wpAnyH_ready (rs := [6]) (by kernel_rfl) (by simp) ?_
  refine AllReadyH.cons (o := ⟨some 46, _, _, _, _, _⟩) rfl (fun K hK => ?_) AllReadyH.nil
  go_simp
  refine (HFO.out _ hHeld).mono ?_
  rintro e wB ⟨v3, m, rfl, hset, hN, hin, hlen, kB, _⟩
  obtain ⟨ma, mc, rfl, hrs⟩ := hset
  have HAN := hidMk (show ∀ Y, Kept wB Y → _ from fun Y k => slices_AnyHas ua UL.length uc UL ma m.length mc m Y (HSL.out.kept (kB.trans k)) (SetIs.kept (v := .agg #[.slice ma m.length mc]) ⟨ma, mc, rfl, hrs⟩ k) hN (by omega) rfl (by have := HUB.out; omega) B (HB.out m hin))
  have HAB := hidMk (hHeld.trans kB)
  have HAA := hidMk (show Kept W1 wB from HAB.out)
  clear kB hrs hN hin hlen
  (try go_wp2_with fail)
  refine hK.out _ _ ?_ (fun hHeld => ?_)
  · exact HAA.out
  clear hK K
  (try simp only [tkS])
  refine tkL 7 47 (v := ?_) rfl ?_ ?_
  rotate_left
  · (intro w9 hSw; clear hSw; go_simp; (try with_reducible rfl))
  (try simp only [tkS])
  refine wpAnyH_ready (rs := [8]) (by kernel_rfl) (by simp) ?_
  refine AllReadyH.cons (o := ⟨some 48, _, _, _, _, _⟩) rfl (fun K hK => ?_) AllReadyH.nil
  go_simp
  refine (HAN.out _ (Kept.refl _)).mono ?_
  rintro e wC ⟨rfl, kC⟩
  have HAA := hidMk (hHeld.trans kC)
  clear kC
  (try go_wp2_with fail)
  refine hK.out _ _ ?_ (fun hHeld => ?_)
  · exact HAA.out
  clear hK K
  (try simp only [tkS])
  refine wpAnyH_done (by kernel_rfl) ?_ _
  have HK5 := hidMk hHeld
  obtain rfl := HBV.out
  clear hHeld HAN HSL HB HBV
  obtain ⟨y0, y2, y3, y4, y5, y6⟩ := HBX.out wC (Chg.of_kept HK5.out)
  go_upto_region 11 with fail
  clear y0 y2 y3 y4 y5 y6
  go_cut [12] from 55 to 61 (fun t W => ∃ pb, t = .pointer (some ⟨pb, 0, none⟩) ∧ Hid (Kept W1 W ∧ W1.heap.size ≤ pb ∧ W.cell? ⟨pb, 0, none⟩ = some (.int .i64 x.1) ∧ W.cell? ⟨pb, 1, none⟩ = some (.int .i64 x.2.1) ∧ W.cell? ⟨pb, 2, none⟩ = some (.int .i64 x.2.2.1) ∧ W.cell? ⟨pb, 3, none⟩ = some (.int .i64 x.2.2.2.1) ∧ W.cell? ⟨pb, 4, none⟩ = some (.int .i64 x.2.2.2.2) ∧ W.cell? ⟨pb, 5, none⟩ = some (.string u) ∧ W.cell? ⟨pb, 6, none⟩ = some (.int .i64 ix)))
  case first =>
    refine wp_region_held_drew (S := (fun w' => Kept wC w')) (by kernel_rfl) ?_ (fun hHeld => ?_)
    · exact (Kept.refl wC).drew
    refine tkL 0 55 (v := ?_) rfl ?_ ?_
    rotate_left
    · (intro w9 hSw; obtain ⟨y0, y2, y3, y4, y5, y6⟩ := HBX.out w9 (Chg.of_kept (HK5.out.trans hSw)); clear hSw; go_simp; (try with_reducible rfl))
    (try simp only [tkS])
    refine tkL 1 56 (v := ?_) rfl ?_ ?_
    rotate_left
    · (intro w9 hSw; clear hSw; go_simp; (try with_reducible rfl))
    (try simp only [tkS])
    refine tkL 2 57 (v := ?_) rfl ?_ ?_
    rotate_left
    · (intro w9 hSw; clear hSw; go_simp; (try with_reducible rfl))
    (try simp only [tkS])
    refine tkL 3 58 (v := ?_) rfl ?_ ?_
    rotate_left
    · (intro w9 hSw; clear hSw; go_simp; (try with_reducible rfl))
    (try simp only [tkS])
    refine tkL 4 59 (v := ?_) rfl ?_ ?_
    rotate_left
    · (intro w9 hSw; obtain ⟨y0, y2, y3, y4, y5, y6⟩ := HBX.out w9 (Chg.of_kept (HK5.out.trans hSw)); clear hSw; go_simp; (try with_reducible rfl))
    (try simp only [tkS])
    refine wpAnyH_ready (rs := [5, 7]) (by kernel_rfl) (by simp) ?_
    refine (AllReadyH.cons (o := ⟨some 60, _, _, _, _, _⟩) rfl (fun K hK => ?_) (AllReadyH.cons (o := ⟨some 12, _, _, _, _, _⟩) rfl (fun K hK => ?_) AllReadyH.nil))
    · go_simp
      refine (HIX.out _ (HK5.out.trans hHeld)).mono ?_
      rintro e wI ⟨rfl, kI⟩
      have HAI := hidMk (hHeld.trans kI)
      clear kI
      (try go_wp2_with fail)
      refine hK.out _ _ ?_ (fun hHeld => ?_)
      · exact HAI.out
      clear hK K
      (try simp only [tkS])
      refine tkL 6 61 (v := ?_) rfl ?_ ?_
      rotate_left
      · (intro w9 hSw; clear hSw; go_simp; (try with_reducible rfl))
      (try simp only [tkS])
      refine wpAnyH_ready (rs := [7]) (by kernel_rfl) (by simp) ?_
      refine (AllReadyH.cons (o := ⟨some 12, _, _, _, _, _⟩) rfl (fun K hK => ?_) AllReadyH.nil)
      go_simp
      refine hK.out _ _ ?_ (fun hHeld => ?_)
      · exact hHeld.alloc _
      clear hK K
      (try simp only [tkS])
      refine wpAnyH_ready (rs := [8]) (by kernel_rfl) (by simp) ?_
      refine (AllReadyH.cons (o := ⟨none, _, _, _, _, _⟩) rfl (fun K hK => ?_) AllReadyH.nil)
      go_simp
      refine hK.out _ _ ?_ (fun hHeld => ?_)
      · exact HAI.out.alloc _
      clear hK K
      (try simp only [tkS])
      refine wpAnyH_done (by kernel_rfl) ?_ _
      go_wp2_with fail
      go_meet
      have kk := HK5.out.trans HAI.out
      exact ⟨wI.heap.size, rfl, hidMk ⟨kk.alloc _, kk.size, boxPk_at wI (x, u, ix) 130 rfl _ (Kept.refl _)⟩⟩
    · go_simp
      refine hK.out _ _ ?_ (fun hHeld => ?_)
      · exact hHeld.alloc _
      clear hK K
      (try simp only [tkS])
      refine wpAnyH_ready (rs := [5]) (by kernel_rfl) (by simp) ?_
      refine (AllReadyH.cons (o := ⟨some 60, _, _, _, _, _⟩) rfl (fun K hK => ?_) AllReadyH.nil)
      go_simp
      refine (HIX.out _ (HK5.out.trans hHeld)).mono ?_
      rintro e wI ⟨rfl, kI⟩
      have HPB := hidMk (pk_room kI)
      skip
      have HAI := hidMk (hHeld.trans kI)
      clear kI
      (try go_wp2_with fail)
      refine hK.out _ _ ?_ (fun hHeld => ?_)
      · exact HAI.out
      clear hK K
      (try simp only [tkS])
      refine tkL 6 61 (v := ?_) rfl ?_ ?_
      rotate_left
      · (intro w9 hSw; clear hSw; go_simp; (try with_reducible rfl))
      (try simp only [tkS])
      refine wpAnyH_ready (rs := [8]) (by kernel_rfl) (by simp) ?_
      refine (AllReadyH.cons (o := ⟨none, _, _, _, _, _⟩) rfl (fun K hK => ?_) AllReadyH.nil)
      obtain ⟨p0, p1, p2, p3, p4, p5, p6, pf, pl⟩ := HPB.out
      go_simp
      clear p0 p1 p2 p3 p4 p5 p6 pf pl
      refine hK.out _ _ ?_ (fun hHeld => ?_)
      · exact set7_kept HAI.out (Nat.le_refl _) _ _ _ _ _ _ _
      clear hK K
      (try simp only [tkS])
      refine wpAnyH_done (by kernel_rfl) ?_ _
      go_wp2_with fail
      go_meet
      obtain ⟨p0, p1, p2, p3, p4, p5, p6, pf, pl⟩ := HPB.out
      exact ⟨wC.heap.size, rfl, hidMk ⟨set7_kept (HK5.out.trans HAI.out) HK5.out.size _ _ _ _ _ _ _, HK5.out.size, set7_cells p0 p1 p2 p3 p4 p5 p6 _ _ _ _ _ _ _ _ rfl⟩⟩
  case rest =>
    obtain ⟨pb, rfl, HP⟩ := hcut
    obtain ⟨y0, y2, y3, y4, y5, y6⟩ := HBX.out wc (Chg.of_kept HP.out.1)
    obtain ⟨q0, q1, q2, q3, q4, q5, q6⟩ := HP.out.2.2
    go_wp2_with fail
    refine (HBI.out _ HP.out.1).mono ?_
    rintro e w4 ⟨i, fd, rfl, hi, hi1, hi2, k4⟩
    have HK4 := hidMk (HP.out.1.trans k4)
    have HB4 := hidMk (show ∀ Y, Chg (fun j => j = rb) w4 Y → Y.cell? ⟨hb, 0, none⟩ = some (.slice (some ⟨b, o, none⟩) l.length c) ∧ Y.cell? ⟨pb, 0, none⟩ = some (.int .i64 x.1) ∧ Y.cell? ⟨pb, 1, none⟩ = some (.int .i64 x.2.1) ∧ Y.cell? ⟨pb, 2, none⟩ = some (.int .i64 x.2.2.1) ∧ Y.cell? ⟨pb, 3, none⟩ = some (.int .i64 x.2.2.2.1) ∧ Y.cell? ⟨pb, 4, none⟩ = some (.int .i64 x.2.2.2.2) ∧ Y.cell? ⟨pb, 5, none⟩ = some (.string u) ∧ Y.cell? ⟨pb, 6, none⟩ = some (.int .i64 ix) from fun Y kY => by
      have n0 : ¬ pb = rb := by have := HRN.out.2; have := HP.out.2.1; omega
      exact ⟨(HBX.out Y ((Chg.of_kept HK4.out).trans kY)).1, kY.cellp (k4.cellp q0) n0, kY.cellp (k4.cellp q1) n0, kY.cellp (k4.cellp q2) n0, kY.cellp (k4.cellp q3) n0, kY.cellp (k4.cellp q4) n0, kY.cellp (k4.cellp q5) n0, kY.cellp (k4.cellp q6) n0⟩)
    have HI := hidMk (show (∀ k, k < i → _) ∧ ∀ k, i ≤ k → k < l.length → _ from ⟨hi1, hi2⟩)
    clear k4 HBI HP y0 y2 y3 y4 y5 y6 q0 q1 q2 q3 q4 q5 q6 hi1 hi2
    have hic : (i : Int) ≤ (c : Int) := by omega
    have hil : (i : Int) ≤ (l.length : Int) := by omega
    by_cases hci : c = i
    · have hli : i = l.length := by omega
      subst hli
      subst hci
      have HCO := hidMk (slices_ConcatPk (w4.heap.size + 1) 3 3 (p3 (some ⟨b, o, none⟩) (some ⟨w4.heap.size, 0, none⟩) (some ⟨b, o, none⟩)) (p3 l.length 1 0) (p3 (l.take l.length) [(x, u, ix)] ([] : List Pk)) ((w4.drew.alloc (.cells #[.int .i64 x.1, .int .i64 x.2.1, .int .i64 x.2.2.1, .int .i64 x.2.2.2.1, .int .i64 x.2.2.2.2, .string u, .int .i64 ix] 130)).alloc (.cells #[.slice (some ⟨b, o, none⟩) l.length l.length, .slice (some ⟨w4.heap.size, 0, none⟩) 1 1, .slice (some ⟨b, o, none⟩) 0 0] 64)) (by omega) (fun k hk => by
        have hsz : (w4.drew.alloc (.cells #[.int .i64 x.1, .int .i64 x.2.1, .int .i64 x.2.2.1, .int .i64 x.2.2.2.1, .int .i64 x.2.2.2.2, .string u, .int .i64 ix] 130)).heap.size = w4.heap.size + 1 := by rw [World.size_alloc]; rfl
        have hq4 := (HQ.out w4 HK4.out).kept ((((Kept.refl w4).drew).alloc (.cells #[.int .i64 x.1, .int .i64 x.2.1, .int .i64 x.2.2.1, .int .i64 x.2.2.2.1, .int .i64 x.2.2.2.2, .string u, .int .i64 ix] 130)).alloc (.cells #[.slice (some ⟨b, o, none⟩) l.length l.length, .slice (some ⟨w4.heap.size, 0, none⟩) 1 1, .slice (some ⟨b, o, none⟩) 0 0] 64))
        have : k = 0 ∨ k = 1 ∨ k = 2 := by omega
        rcases this with rfl | rfl | rfl
        · refine ⟨?_, hq4.take _, fun e => (by cases e), by show (l.take l.length).length ≤ 1000; rw [List.length_take]; omega⟩
          show _ = some (Value.slice (some ⟨b, o, none⟩) (l.take l.length).length l.length)
          rw [show (l.take l.length).length = l.length by rw [List.length_take]; omega]
          exact new_cell _ _ _ _ 0 _ hsz.symm rfl
        · refine ⟨?_, ?_, fun e => (by cases e), by show [(x, u, ix)].length ≤ 1000; simp⟩
          · exact new_cell _ _ _ _ 1 _ hsz.symm rfl
          · refine ⟨fun _ => ⟨w4.heap.size, 0, rfl, by rw [World.size_alloc, hsz]; omega, fun j hj t ht uu hu => ?_⟩⟩
            have hj0 : j = 0 := by simpa [p3] using hj
            subst hj0
            obtain ⟨f0, f1, f2, f3, f4, f5, f6⟩ := boxPk_at w4.drew (x, u, ix) 130 (g := w4.heap.size) rfl _ ((Kept.refl _).alloc (.cells #[.slice (some ⟨b, o, none⟩) l.length l.length, .slice (some ⟨w4.heap.size, 0, none⟩) 1 1, .slice (some ⟨b, o, none⟩) 0 0] 64))
            have ht5 : t = 0 ∨ t = 1 ∨ t = 2 ∨ t = 3 ∨ t = 4 ∨ t = 5 ∨ t = 6 := by omega
            have hu' : (pkF (x, u, ix))[t]? = some uu := hu
            rcases ht5 with rfl | rfl | rfl | rfl | rfl | rfl | rfl <;> (simp [pkF] at hu'; subst hu'; assumption)
        · refine ⟨?_, Pq.none _ _, fun e => (by cases e), by show ([] : List Pk).length ≤ 1000; first | (simp; done) | (simp; omega)⟩
          show _ = some (Value.slice (some ⟨b, o, none⟩) ([] : List Pk).length 0)
          rw [show ([] : List Pk).length = 0 by simp]
          exact new_cell _ _ _ _ 2 _ hsz.symm rfl))
      go_upto_region 13 with fail
      refine wp_region_held_drew (S := (fun w' => Chg (fun j => j = rb) w4 w')) (by kernel_rfl) ?_ (fun hHeld => ?_)
      · exact (Chg.refl _ w4).drew
      refine tkL 0 69 (v := ?_) rfl ?_ ?_
      rotate_left
      · (intro w9 hSw; clear hSw; go_simp; (try with_reducible rfl))
      (try simp only [tkS])
      refine tkL 1 70 (v := ?_) rfl ?_ ?_
      rotate_left
      · (intro w9 hSw; obtain ⟨y0, q0, q1, q2, q3, q4, q5, q6⟩ := HB4.out w9 hSw; clear hSw; go_simp; (try with_reducible rfl))
      (try simp only [tkS])
      refine tkL 2 71 (v := ?_) rfl ?_ ?_
      rotate_left
      · (intro w9 hSw; clear hSw; go_simp; (try with_reducible rfl))
      (try simp only [tkS])
      refine tkL 3 72 (v := ?_) rfl ?_ ?_
      rotate_left
      · (intro w9 hSw; clear hSw; go_simp; (try with_reducible rfl))
      (try simp only [tkS])
      refine tkL 4 73 (v := ?_) rfl ?_ ?_
      rotate_left
      · (intro w9 hSw; obtain ⟨y0, q0, q1, q2, q3, q4, q5, q6⟩ := HB4.out w9 hSw; clear hSw; go_simp; (try with_reducible rfl))
      (try simp only [tkS])
      refine tkL 6 75 (v := ?_) rfl ?_ ?_
      rotate_left
      · (intro w9 hSw; clear hSw; go_simp; (try with_reducible rfl))
      (try simp only [tkS])
      refine tkL 7 76 (v := ?_) rfl ?_ ?_
      rotate_left
      · (intro w9 hSw; obtain ⟨y0, q0, q1, q2, q3, q4, q5, q6⟩ := HB4.out w9 hSw; clear hSw; go_simp; (try with_reducible rfl))
      (try simp only [tkS])
      refine tkL 8 77 (v := ?_) rfl ?_ ?_
      rotate_left
      · (intro w9 hSw; clear hSw; go_simp; (try with_reducible rfl))
      (try simp only [tkS])
      refine tkL 9 78 (v := ?_) rfl ?_ ?_
      rotate_left
      · (intro w9 hSw; clear hSw; go_simp; (try with_reducible rfl))
      (try simp only [tkS])
      refine wpAnyH_ready (rs := [5]) (by kernel_rfl) (by simp) ?_
      refine AllReadyH.cons (o := ⟨some 74, _, _, _, _, _⟩) rfl (fun K hK => ?_) AllReadyH.nil
      go_simp
      refine hK.out _ _ ?_ (fun hHeld => ?_)
      · (first | exact HAA.out | exact Chg.alloc hHeld _ | exact Chg.setCell (S := fun j => j = rb) HAA.out (p := ⟨rb, 0, none⟩) (.inl rfl) _)
      clear hK K
      (try simp only [tkS])
      refine wpAnyH_ready (rs := [10]) (by kernel_rfl) (by simp) ?_
      refine AllReadyH.cons (o := ⟨some 79, _, _, _, _, _⟩) rfl (fun K hK => ?_) AllReadyH.nil
      go_simp
      refine hK.out _ _ ?_ (fun hHeld => ?_)
      · (first | exact HAA.out | exact Chg.alloc hHeld _ | exact Chg.setCell (S := fun j => j = rb) HAA.out (p := ⟨rb, 0, none⟩) (.inl rfl) _)
      clear hK K
      (try simp only [tkS])
      refine wpAnyH_ready (rs := [11]) (by kernel_rfl) (by simp) ?_
      refine AllReadyH.cons (o := ⟨some 80, _, _, _, _, _⟩) rfl (fun K hK => ?_) AllReadyH.nil
      go_simp
      refine HCO.out.mono ?_
      rintro e wA ⟨v, rfl, ho, kA⟩
      obtain ⟨va, nv, vc, hv⟩ : ∃ va nv vc, v = Value.slice va nv vc := by obtain ⟨va, vc, hv, _, _⟩ := OwnPk.form ho; exact ⟨va, _, vc, hv⟩
      subst hv
      have HOW := hidMk ho
      have HAA := hidMk (show Chg (fun j => j = rb) w4 wA from hHeld.trans (Chg.of_kept kA))
      have HKA := hidMk (show Kept W1 wA from (((HK4.out.drew).alloc _).alloc _).trans kA)
      clear ho kA
      (try go_wp2_with fail)
      refine hK.out _ _ ?_ (fun hHeld => ?_)
      · (first | exact HAA.out | exact Chg.alloc hHeld _ | exact Chg.setCell (S := fun j => j = rb) HAA.out (p := ⟨rb, 0, none⟩) (.inl rfl) _)
      clear hK K
      (try simp only [tkS])
      refine tkL 12 81 (v := ?_) rfl ?_ ?_
      rotate_left
      · (intro w9 hSw; clear hSw; go_simp; (try with_reducible rfl))
      (try simp only [tkS])
      refine wpAnyH_ready (rs := [13]) (by kernel_rfl) (by simp) ?_
      refine AllReadyH.cons (o := ⟨none, _, _, _, _, _⟩) rfl (fun K hK => ?_) AllReadyH.nil
      have rc := HKA.out.cellp HRB.out.1
      have rf := (HKA.out.frozen (p := ⟨rb, 0, none⟩) HRN.out.2).trans HRB.out.2
      go_simp
      clear rc rf
      refine hK.out _ _ ?_ (fun hHeld => ?_)
      · (first | exact HAA.out | exact Chg.alloc hHeld _ | exact Chg.setCell (S := fun j => j = rb) HAA.out (p := ⟨rb, 0, none⟩) (.inl rfl) _)
      clear hK K
      (try simp only [tkS])
      refine tkL 14 9 (v := ?_) rfl ?_ ?_
      rotate_left
      · (intro w9 hSw; clear hSw; go_simp; (try with_reducible rfl))
      (try simp only [tkS])
      refine wpAnyH_done (by kernel_rfl) ?_ _
      have HCF := hidMk hHeld
      clear hHeld
      go_wp2_with fail
      refine bodyPost_ret (v := .tuple #[.agg #[.slice va nv vc], .int .i64 0]) ?_ rfl ⟨.slice va nv vc, _, rfl, ⟨l.length, Nat.le_refl _, HI.out.1, HI.out.2, rfl⟩, ?_, ?_⟩
      · simp only [results, show Tryz.f29.results = #[.cell 8 66, .tmp 9] from rfl]
        have rc : (wA.setCell ⟨rb, 0, none⟩ (.slice va nv vc)).cell? ⟨rb, 0, none⟩ = some (.slice va nv vc) := World.cell?_setCell_same _ _ _ (HKA.out.cellp HRB.out.1)
        have rl := lock_load rc
        go_simp
      · have hown : ∀ g, (Value.slice va nv vc).ownBlock = some g → ¬ g = rb := fun g hg e => by
          have h1 := (World.ownsRow.lt HOW.out g hg).1
          have h2 := HRN.out.2
          have h3 := HK4.out.size
          rw [World.size_alloc, World.size_alloc] at h1
          have h4 : w4.drew.heap.size = w4.heap.size := rfl
          omega
        have h9 := ownsRow_base (ownsRow_chg HOW.out (S := fun j => j = rb) ((Chg.refl (fun j => j = rb) wA).setCell (p := ⟨rb, 0, none⟩) (.inl rfl) (.slice va nv vc)) hown) (show w.heap.size ≤ _ from Nat.le_trans HK1.out.size (Nat.le_trans HK4.out.size (((((Kept.refl w4).drew).alloc _).alloc _).size)))
        have hcat : catNPk (p3 (l.take l.length) [(x, u, ix)] ([] : List Pk)) 3 = l.take l.length ++ (x, u, ix) :: l.drop l.length := by simp [catNPk, List.range_succ, p3]
        rw [hcat] at h9
        exact h9
      · exact Chg.kept (HK1.out.trans HK4.out) HCF.out (fun j e => by have := HRN.out.1; omega)
    · have hci' : ¬ i = c := fun e => hci e.symm
      have HCO := hidMk (slices_ConcatPk (w4.heap.size + 1) 3 3 (p3 (some ⟨b, o, none⟩) (some ⟨w4.heap.size, 0, none⟩) (some ⟨b, o + i * 7, none⟩)) (p3 c 1 (c - i)) (p3 (l.take i) [(x, u, ix)] (l.drop i)) ((w4.drew.alloc (.cells #[.int .i64 x.1, .int .i64 x.2.1, .int .i64 x.2.2.1, .int .i64 x.2.2.2.1, .int .i64 x.2.2.2.2, .string u, .int .i64 ix] 130)).alloc (.cells #[.slice (some ⟨b, o, none⟩) i c, .slice (some ⟨w4.heap.size, 0, none⟩) 1 1, .slice (some ⟨b, o + i * 7, none⟩) (l.length - i) (c - i)] 64)) (by omega) (fun k hk => by
        have hsz : (w4.drew.alloc (.cells #[.int .i64 x.1, .int .i64 x.2.1, .int .i64 x.2.2.1, .int .i64 x.2.2.2.1, .int .i64 x.2.2.2.2, .string u, .int .i64 ix] 130)).heap.size = w4.heap.size + 1 := by rw [World.size_alloc]; rfl
        have hq4 := (HQ.out w4 HK4.out).kept ((((Kept.refl w4).drew).alloc (.cells #[.int .i64 x.1, .int .i64 x.2.1, .int .i64 x.2.2.1, .int .i64 x.2.2.2.1, .int .i64 x.2.2.2.2, .string u, .int .i64 ix] 130)).alloc (.cells #[.slice (some ⟨b, o, none⟩) i c, .slice (some ⟨w4.heap.size, 0, none⟩) 1 1, .slice (some ⟨b, o + i * 7, none⟩) (l.length - i) (c - i)] 64))
        have : k = 0 ∨ k = 1 ∨ k = 2 := by omega
        rcases this with rfl | rfl | rfl
        · refine ⟨?_, hq4.take _, fun e => (by cases e), by show (l.take i).length ≤ 1000; rw [List.length_take]; omega⟩
          show _ = some (Value.slice (some ⟨b, o, none⟩) (l.take i).length c)
          rw [show (l.take i).length = i by rw [List.length_take]; omega]
          exact new_cell _ _ _ _ 0 _ hsz.symm rfl
        · refine ⟨?_, ?_, fun e => (by cases e), by show [(x, u, ix)].length ≤ 1000; simp⟩
          · exact new_cell _ _ _ _ 1 _ hsz.symm rfl
          · refine ⟨fun _ => ⟨w4.heap.size, 0, rfl, by rw [World.size_alloc, hsz]; omega, fun j hj t ht uu hu => ?_⟩⟩
            have hj0 : j = 0 := by simpa [p3] using hj
            subst hj0
            obtain ⟨f0, f1, f2, f3, f4, f5, f6⟩ := boxPk_at w4.drew (x, u, ix) 130 (g := w4.heap.size) rfl _ ((Kept.refl _).alloc (.cells #[.slice (some ⟨b, o, none⟩) i c, .slice (some ⟨w4.heap.size, 0, none⟩) 1 1, .slice (some ⟨b, o + i * 7, none⟩) (l.length - i) (c - i)] 64))
            have ht5 : t = 0 ∨ t = 1 ∨ t = 2 ∨ t = 3 ∨ t = 4 ∨ t = 5 ∨ t = 6 := by omega
            have hu' : (pkF (x, u, ix))[t]? = some uu := hu
            rcases ht5 with rfl | rfl | rfl | rfl | rfl | rfl | rfl <;> (simp [pkF] at hu'; subst hu'; assumption)
        · refine ⟨?_, hq4.drop i, fun e => (by cases e), by show (l.drop i).length ≤ 1000; first | (simp; done) | (simp; omega)⟩
          show _ = some (Value.slice (some ⟨b, o + i * 7, none⟩) (l.drop i).length (c - i))
          rw [show (l.drop i).length = (l.length - i) by simp]
          exact new_cell _ _ _ _ 2 _ hsz.symm rfl))
      go_upto_region 13 with fail
      refine wp_region_held_drew (S := (fun w' => Chg (fun j => j = rb) w4 w')) (by kernel_rfl) ?_ (fun hHeld => ?_)
      · exact (Chg.refl _ w4).drew
      refine tkL 0 69 (v := ?_) rfl ?_ ?_
      rotate_left
      · (intro w9 hSw; clear hSw; go_simp; (try with_reducible rfl))
      (try simp only [tkS])
      refine tkL 1 70 (v := ?_) rfl ?_ ?_
      rotate_left
      · (intro w9 hSw; obtain ⟨y0, q0, q1, q2, q3, q4, q5, q6⟩ := HB4.out w9 hSw; clear hSw; go_simp; (try with_reducible rfl))
      (try simp only [tkS])
      refine tkL 2 71 (v := ?_) rfl ?_ ?_
      rotate_left
      · (intro w9 hSw; clear hSw; go_simp; (try with_reducible rfl))
      (try simp only [tkS])
      refine tkL 3 72 (v := ?_) rfl ?_ ?_
      rotate_left
      · (intro w9 hSw; clear hSw; go_simp; (try with_reducible rfl))
      (try simp only [tkS])
      refine tkL 4 73 (v := ?_) rfl ?_ ?_
      rotate_left
      · (intro w9 hSw; obtain ⟨y0, q0, q1, q2, q3, q4, q5, q6⟩ := HB4.out w9 hSw; clear hSw; go_simp; (try with_reducible rfl))
      (try simp only [tkS])
      refine tkL 6 75 (v := ?_) rfl ?_ ?_
      rotate_left
      · (intro w9 hSw; clear hSw; go_simp; (try with_reducible rfl))
      (try simp only [tkS])
      refine tkL 7 76 (v := ?_) rfl ?_ ?_
      rotate_left
      · (intro w9 hSw; obtain ⟨y0, q0, q1, q2, q3, q4, q5, q6⟩ := HB4.out w9 hSw; clear hSw; go_simp; (try with_reducible rfl))
      (try simp only [tkS])
      refine tkL 8 77 (v := ?_) rfl ?_ ?_
      rotate_left
      · (intro w9 hSw; clear hSw; go_simp; (try with_reducible rfl))
      (try simp only [tkS])
      refine tkL 9 78 (v := ?_) rfl ?_ ?_
      rotate_left
      · (intro w9 hSw; clear hSw; go_simp; (try with_reducible rfl))
      (try simp only [tkS])
      refine wpAnyH_ready (rs := [5]) (by kernel_rfl) (by simp) ?_
      refine AllReadyH.cons (o := ⟨some 74, _, _, _, _, _⟩) rfl (fun K hK => ?_) AllReadyH.nil
      go_simp
      refine hK.out _ _ ?_ (fun hHeld => ?_)
      · (first | exact HAA.out | exact Chg.alloc hHeld _ | exact Chg.setCell (S := fun j => j = rb) HAA.out (p := ⟨rb, 0, none⟩) (.inl rfl) _)
      clear hK K
      (try simp only [tkS])
      refine wpAnyH_ready (rs := [10]) (by kernel_rfl) (by simp) ?_
      refine AllReadyH.cons (o := ⟨some 79, _, _, _, _, _⟩) rfl (fun K hK => ?_) AllReadyH.nil
      go_simp
      refine hK.out _ _ ?_ (fun hHeld => ?_)
      · (first | exact HAA.out | exact Chg.alloc hHeld _ | exact Chg.setCell (S := fun j => j = rb) HAA.out (p := ⟨rb, 0, none⟩) (.inl rfl) _)
      clear hK K
      (try simp only [tkS])
      refine wpAnyH_ready (rs := [11]) (by kernel_rfl) (by simp) ?_
      refine AllReadyH.cons (o := ⟨some 80, _, _, _, _, _⟩) rfl (fun K hK => ?_) AllReadyH.nil
      go_simp
      refine HCO.out.mono ?_
      rintro e wA ⟨v, rfl, ho, kA⟩
      obtain ⟨va, nv, vc, hv⟩ : ∃ va nv vc, v = Value.slice va nv vc := by obtain ⟨va, vc, hv, _, _⟩ := OwnPk.form ho; exact ⟨va, _, vc, hv⟩
      subst hv
      have HOW := hidMk ho
      have HAA := hidMk (show Chg (fun j => j = rb) w4 wA from hHeld.trans (Chg.of_kept kA))
      have HKA := hidMk (show Kept W1 wA from (((HK4.out.drew).alloc _).alloc _).trans kA)
      clear ho kA
      (try go_wp2_with fail)
      refine hK.out _ _ ?_ (fun hHeld => ?_)
      · (first | exact HAA.out | exact Chg.alloc hHeld _ | exact Chg.setCell (S := fun j => j = rb) HAA.out (p := ⟨rb, 0, none⟩) (.inl rfl) _)
      clear hK K
      (try simp only [tkS])
      refine tkL 12 81 (v := ?_) rfl ?_ ?_
      rotate_left
      · (intro w9 hSw; clear hSw; go_simp; (try with_reducible rfl))
      (try simp only [tkS])
      refine wpAnyH_ready (rs := [13]) (by kernel_rfl) (by simp) ?_
      refine AllReadyH.cons (o := ⟨none, _, _, _, _, _⟩) rfl (fun K hK => ?_) AllReadyH.nil
      have rc := HKA.out.cellp HRB.out.1
      have rf := (HKA.out.frozen (p := ⟨rb, 0, none⟩) HRN.out.2).trans HRB.out.2
      go_simp
      clear rc rf
      refine hK.out _ _ ?_ (fun hHeld => ?_)
      · (first | exact HAA.out | exact Chg.alloc hHeld _ | exact Chg.setCell (S := fun j => j = rb) HAA.out (p := ⟨rb, 0, none⟩) (.inl rfl) _)
      clear hK K
      (try simp only [tkS])
      refine tkL 14 9 (v := ?_) rfl ?_ ?_
      rotate_left
      · (intro w9 hSw; clear hSw; go_simp; (try with_reducible rfl))
      (try simp only [tkS])
      refine wpAnyH_done (by kernel_rfl) ?_ _
      have HCF := hidMk hHeld
      clear hHeld
      go_wp2_with fail
      refine bodyPost_ret (v := .tuple #[.agg #[.slice va nv vc], .int .i64 0]) ?_ rfl ⟨.slice va nv vc, _, rfl, ⟨i, hi, HI.out.1, HI.out.2, rfl⟩, ?_, ?_⟩
      · simp only [results, show Tryz.f29.results = #[.cell 8 66, .tmp 9] from rfl]
        have rc : (wA.setCell ⟨rb, 0, none⟩ (.slice va nv vc)).cell? ⟨rb, 0, none⟩ = some (.slice va nv vc) := World.cell?_setCell_same _ _ _ (HKA.out.cellp HRB.out.1)
        have rl := lock_load rc
        go_simp
      · have hown : ∀ g, (Value.slice va nv vc).ownBlock = some g → ¬ g = rb := fun g hg e => by
          have h1 := (World.ownsRow.lt HOW.out g hg).1
          have h2 := HRN.out.2
          have h3 := HK4.out.size
          rw [World.size_alloc, World.size_alloc] at h1
          have h4 : w4.drew.heap.size = w4.heap.size := rfl
          omega
        have h9 := ownsRow_base (ownsRow_chg HOW.out (S := fun j => j = rb) ((Chg.refl (fun j => j = rb) wA).setCell (p := ⟨rb, 0, none⟩) (.inl rfl) (.slice va nv vc)) hown) (show w.heap.size ≤ _ from Nat.le_trans HK1.out.size (Nat.le_trans HK4.out.size (((((Kept.refl w4).drew).alloc _).alloc _).size)))
        have hcat : catNPk (p3 (l.take i) [(x, u, ix)] (l.drop i)) 3 = l.take i ++ (x, u, ix) :: l.drop i := by simp [catNPk, List.range_succ, p3]
        rw [hcat] at h9
        exact h9
      · exact Chg.kept (HK1.out.trans HK4.out) HCF.out (fun j e => by have := HRN.out.1; omega)
set_option maxHeartbeats 8000000 in
set_option maxRecDepth 100000 in
theorem lock_Add_none (h : SW w s p ds ms tp rv)  (x : Cl) (u : ByteArray)  (huz : u.size ≤ maxLen) (hu : ∀ cm at_, (undL ms ds cm at_).length ≤ 1000 ∧ ∀ y, y ∈ undL ms ds cm at_ → isI y ∧ 0 ≤ y) (hA : askE ms ds x u = 0) (ix : Int) (hix : ixC ms ds x = ix) :
    Calls Tryz.prog 29 #[hdV none 0 0, .pointer (some ⟨s, 0, none⟩), clV x, .string u] w (LkAdd w [] (x, u, ix)) := by
  obtain ⟨l, hl0⟩ : ∃ l : List Pk, l = [] := ⟨_, rfl⟩
  have hl1 : l.length = 0 := by rw [hl0]; rfl
  have hq : Pq w none l := by rw [hl0]; exact Pq.none _ _
  have hno : ∀ t, t < l.length → (pkA l t).1 ≠ x := fun t ht => absurd ht (by omega)
  have hB : lokB ms ds (l.map lkOf) u x = false := by rw [hl0]; exact Bool.eq_false_iff.2 fun e => by obtain ⟨n, _, y, hy, _⟩ := lok_iff.1 e; simp at hy
  have hr : ∀ i j, i < j → j < l.length → (pkA l i).2.2 < (pkA l j).2.2 := fun i j _ hj => absurd hj (by omega)
  have hne : ∀ y, y ∈ l → y.2.2 ≠ ix := fun y hy => by rw [hl0] at hy; cases hy
  obtain ⟨hb, hhb⟩ : ∃ z, z = w.heap.size := ⟨_, rfl⟩
  obtain ⟨cb, hcb⟩ : ∃ z, z = w.heap.size + 1 := ⟨_, rfl⟩
  obtain ⟨rb, hrb⟩ : ∃ z, z = w.heap.size + 1 + 1 := ⟨_, rfl⟩
  obtain ⟨WA, hWA⟩ : ∃ V, V = w.alloc (.cells #[.slice none 0 0] 66) := ⟨_, rfl⟩
  obtain ⟨WC, hWC⟩ : ∃ V, V = WA.alloc (.cells #[.int .i64 x.1, .int .i64 x.2.1, .int .i64 x.2.2.1, .int .i64 x.2.2.2.1, .int .i64 x.2.2.2.2] 29) := ⟨_, rfl⟩
  obtain ⟨W1, hW1⟩ : ∃ V, V = WC.alloc (.cells #[.slice none 0 0] 66) := ⟨_, rfl⟩
  have kA : Kept w WA := by rw [hWA]; exact (Kept.refl _).alloc _
  have kC : Kept WA WC := by rw [hWC]; exact (Kept.refl _).alloc _
  have kD : Kept WC W1 := by rw [hW1]; exact (Kept.refl _).alloc _
  have zA : WA.heap.size = w.heap.size + 1 := by rw [hWA, World.size_alloc]
  have zC : WC.heap.size = w.heap.size + 1 + 1 := by rw [hWC, World.size_alloc, zA]
  have k1 := kA.trans (kC.trans kD)
  have HK1 := hidMk k1
  have HBX := hidMk (show ∀ Y, Chg (fun j => j = rb) W1 Y → Y.cell? ⟨hb, 0, none⟩ = some (.slice none 0 0) ∧ Y.cell? ⟨cb, 0, none⟩ = some (.int .i64 x.1) ∧ Y.cell? ⟨cb, 1, none⟩ = some (.int .i64 x.2.1) ∧ Y.cell? ⟨cb, 2, none⟩ = some (.int .i64 x.2.2.1) ∧ Y.cell? ⟨cb, 3, none⟩ = some (.int .i64 x.2.2.2.1) ∧ Y.cell? ⟨cb, 4, none⟩ = some (.int .i64 x.2.2.2.2) from fun Y k => by
    have e1 : WA.cell? ⟨hb, 0, none⟩ = some (.slice none 0 0) := by rw [hWA]; exact new_cell _ _ _ _ 0 _ hhb rfl
    obtain ⟨f0, f1, f2, f3, f4⟩ := boxC_at WA x 29 (hcb.trans zA.symm) WC (by rw [← hWC]; exact Kept.refl _)
    have n1 : hb ≠ rb := by omega
    have n3 : cb ≠ rb := by omega
    exact ⟨k.cellp ((kC.trans kD).cellp e1) n1, k.cellp (kD.cellp f0) n3, k.cellp (kD.cellp f1) n3, k.cellp (kD.cellp f2) n3, k.cellp (kD.cellp f3) n3, k.cellp (kD.cellp f4) n3⟩)
  have HRB := hidMk (show W1.cell? ⟨rb, 0, none⟩ = some (.slice none 0 0) ∧ W1.frozen? ⟨rb, 0, none⟩ = false from by
    rw [hW1]; exact ⟨new_cell _ _ _ _ 0 _ (hrb.trans zC.symm) rfl, new_frozen _ _ _ (hrb.trans zC.symm) 0⟩)
  have HRN := hidMk (show w.heap.size ≤ rb ∧ rb < W1.heap.size from ⟨by omega, cell_lt (p := ⟨rb, 0, none⟩) HRB.out.1⟩)
  have HAS := hidMk (lsw_ask (h.keep k1) x u huz)
  rw [hA] at HAS
  have HFI := hidMk (show ∀ Y, Kept W1 Y → _ from fun Y k => lock_find none 0 l x Y (hq.kept (k1.trans k)) (by omega))
  have HQ := hidMk (show ∀ Y, Kept W1 Y → Pq Y none l from fun Y k => hq.kept (k1.trans k))
  have HUN := hidMk (show ∀ Y, Kept W1 Y → _ from fun Y k => sw_UnderC (h.keep (k1.trans k)) x)
  have HUB := hidMk (show (undC ms ds x).length ≤ 1000 from (hu _ _).1)
  have HFO := hidMk (show ∀ Y, Kept W1 Y → _ from fun Y k => lock_Foreign (h.keep (k1.trans k)) none 0 l u (hq.kept (k1.trans k)) (by omega) hu)
  obtain ⟨B, hBB⟩ : ∃ B : Bool, B = false := ⟨_, rfl⟩
  have HBV := hidMk hBB
  have HB := hidMk (show ∀ m : List Rn, (∀ n, inRg m n ↔ forP ms ds (l.map lkOf) u n) → (B = true ↔ ∃ n, n ∈ undC ms ds x ∧ inRg m n) from fun m hm => by
    have e := lok_iff (ms := ms) (ds := ds) (l := l.map lkOf) (u := u) (x := x)
    rw [hB.trans hBB.symm] at e
    exact e.trans ⟨fun ⟨n, h1, h2⟩ => ⟨n, h1, (hm n).2 h2⟩, fun ⟨n, h1, h2⟩ => ⟨n, h1, (hm n).1 h2⟩⟩)
  have HIX0 := hidMk (show ∀ Y, Kept W1 Y → _ from fun Y k => sw_IndexC (h.keep (k1.trans k)) x)
  have HIX := hidMk (show ∀ Y, Kept W1 Y → _ from fun Y k => HIX0.out Y k)
  rw [hix] at HIX
  clear HIX0
  have HBI := hidMk (show ∀ Y, Kept W1 Y → _ from fun Y k => slices_BinPk none 0 l (x, u, ix) (fun y => y.2.2) Y (hq.kept (k1.trans k)) (by omega) hr (fun Z kz y hy => lock_against y (x, u, ix) Z (hne y hy)))
  generalize undC ms ds x = UL at *
  simp only [hl1] at HFI HFO HBI
  rw [hWC, hWA] at hW1
  unfold clV hdV at *
  generalize forP ms ds (l.map lkOf) u = FP at *
  unfold pkV at HBI
  clear h hq hA k1 kA kC kD zA zC hWA hWC hu hB hBB hr hne hix
  obtain ⟨y0, y2, y3, y4, y5, y6⟩ := HBX.out W1 (Chg.refl _ _)
  rw [hW1, hhb] at y0
  rw [hW1, hcb] at y2 y3 y4 y5 y6
  go_enter Tryz.func29, Tryz.ntmps29
  go_wp2_with fail
  rw [← hW1, ← hrb, ← hcb, ← hhb]
  clear hW1 hrb hcb hhb y0 y2 y3 y4 y5 y6
  refine HAS.out.mono ?_
  rintro e w2 ⟨rfl, k2⟩
  have HK2 := hidMk k2
  clear k2 HAS
  obtain ⟨y0, y2, y3, y4, y5, y6⟩ := HBX.out w2 (Chg.of_kept HK2.out)
  go_wp2_with fail
  refine (HFI.out _ HK2.out).mono ?_
  rintro e w3 ⟨z, rfl, hz, k3⟩
  obtain rfl : z = -1 := by
    rcases hz with ⟨k', rfl, h1, h2, h3⟩ | ⟨h, _⟩
    · exact absurd (of_decide_eq_true h2) (hno k' h1)
    · exact h
  have HK3 := hidMk (HK2.out.trans k3)
  clear k3 hz HFI HK2 y0 y2 y3 y4 y5 y6
  obtain ⟨y0, y2, y3, y4, y5, y6⟩ := HBX.out w3 (Chg.of_kept HK3.out)
  clear hno
  go_upto_region 7 with fail
  clear y0 y2 y3 y4 y5 y6
  refine wp_region_held_drew (S := (fun w' => Kept W1 w')) (by kernel_rfl) ?_ (fun hHeld => ?_)
  · exact HK3.out.drew
  refine tkL 0 40 (v := ?_) rfl ?_ ?_
  rotate_left
  · (intro w9 hSw; clear hSw; go_simp; (try with_reducible rfl))
  (try simp only [tkS])
  refine tkL 1 41 (v := ?_) rfl ?_ ?_
  rotate_left
  · (intro w9 hSw; obtain ⟨y0, y2, y3, y4, y5, y6⟩ := HBX.out w9 (Chg.of_kept hSw); clear hSw; go_simp; (try with_reducible rfl))
  (try simp only [tkS])
  refine tkL 3 43 (v := ?_) rfl ?_ ?_
  rotate_left
  · (intro w9 hSw; obtain ⟨y0, y2, y3, y4, y5, y6⟩ := HBX.out w9 (Chg.of_kept hSw); clear hSw; go_simp; (try with_reducible rfl))
  (try simp only [tkS])
  refine tkL 4 44 (v := ?_) rfl ?_ ?_
  rotate_left
  · (intro w9 hSw; clear hSw; go_simp; (try with_reducible rfl))
  (try simp only [tkS])
  refine tkL 5 45 (v := ?_) rfl ?_ ?_
  rotate_left
  · (intro w9 hSw; clear hSw; go_simp; (try with_reducible rfl))
  (try simp only [tkS])
  refine wpAnyH_ready (rs := [2]) (by kernel_rfl) (by simp) ?_
  refine AllReadyH.cons (o := ⟨some 42, _, _, _, _, _⟩) rfl (fun K hK => ?_) AllReadyH.nil
  go_simp
  refine (HUN.out _ hHeld).mono ?_
  rintro e wA ⟨v2, rfl, ho2, kA⟩
  obtain ⟨ua, uc, rfl, hsl⟩ := ho2.sl (by have := HUB.out; unfold maxLen; omega)
  have HSL := hidMk hsl
  have HAA := hidMk (hHeld.trans kA)
  clear kA ho2 hsl
  (try go_wp2_with fail)
  refine hK.out _ _ ?_ (fun hHeld => ?_)
  · exact HAA.out
  clear hK K
  (try simp only [tkS])
  refine wpAnyH_ready (rs := [6]) (by kernel_rfl) (by simp) ?_
  refine AllReadyH.cons (o := ⟨some 46, _, _, _, _, _⟩) rfl (fun K hK => ?_) AllReadyH.nil
  go_simp
  refine (HFO.out _ hHeld).mono ?_
  rintro e wB ⟨v3, m, rfl, hset, hN, hin, hlen, kB, _⟩
  obtain ⟨ma, mc, rfl, hrs⟩ := hset
  have HAN := hidMk (show ∀ Y, Kept wB Y → _ from fun Y k => slices_AnyHas ua UL.length uc UL ma m.length mc m Y (HSL.out.kept (kB.trans k)) (SetIs.kept (v := .agg #[.slice ma m.length mc]) ⟨ma, mc, rfl, hrs⟩ k) hN (by omega) rfl (by have := HUB.out; omega) B (HB.out m hin))
  have HAB := hidMk (hHeld.trans kB)
  have HAA := hidMk (show Kept W1 wB from HAB.out)
  clear kB hrs hN hin hlen
  (try go_wp2_with fail)
  refine hK.out _ _ ?_ (fun hHeld => ?_)
  · exact HAA.out
  clear hK K
  (try simp only [tkS])
  refine tkL 7 47 (v := ?_) rfl ?_ ?_
  rotate_left
  · (intro w9 hSw; clear hSw; go_simp; (try with_reducible rfl))
  (try simp only [tkS])
  refine wpAnyH_ready (rs := [8]) (by kernel_rfl) (by simp) ?_
  refine AllReadyH.cons (o := ⟨some 48, _, _, _, _, _⟩) rfl (fun K hK => ?_) AllReadyH.nil
  go_simp
  refine (HAN.out _ (Kept.refl _)).mono ?_
  rintro e wC ⟨rfl, kC⟩
  have HAA := hidMk (hHeld.trans kC)
  clear kC
  (try go_wp2_with fail)
  refine hK.out _ _ ?_ (fun hHeld => ?_)
  · exact HAA.out
  clear hK K
  (try simp only [tkS])
  refine wpAnyH_done (by kernel_rfl) ?_ _
  have HK5 := hidMk hHeld
  obtain rfl := HBV.out
  clear hHeld HAN HSL HB HBV
  obtain ⟨y0, y2, y3, y4, y5, y6⟩ := HBX.out wC (Chg.of_kept HK5.out)
  go_upto_region 11 with fail
  clear y0 y2 y3 y4 y5 y6
  go_cut [12] from 55 to 61 (fun t W => ∃ pb, t = .pointer (some ⟨pb, 0, none⟩) ∧ Hid (Kept W1 W ∧ W1.heap.size ≤ pb ∧ W.cell? ⟨pb, 0, none⟩ = some (.int .i64 x.1) ∧ W.cell? ⟨pb, 1, none⟩ = some (.int .i64 x.2.1) ∧ W.cell? ⟨pb, 2, none⟩ = some (.int .i64 x.2.2.1) ∧ W.cell? ⟨pb, 3, none⟩ = some (.int .i64 x.2.2.2.1) ∧ W.cell? ⟨pb, 4, none⟩ = some (.int .i64 x.2.2.2.2) ∧ W.cell? ⟨pb, 5, none⟩ = some (.string u) ∧ W.cell? ⟨pb, 6, none⟩ = some (.int .i64 ix)))
  case first =>
    refine wp_region_held_drew (S := (fun w' => Kept wC w')) (by kernel_rfl) ?_ (fun hHeld => ?_)
    · exact (Kept.refl wC).drew
    refine tkL 0 55 (v := ?_) rfl ?_ ?_
    rotate_left
    · (intro w9 hSw; obtain ⟨y0, y2, y3, y4, y5, y6⟩ := HBX.out w9 (Chg.of_kept (HK5.out.trans hSw)); clear hSw; go_simp; (try with_reducible rfl))
    (try simp only [tkS])
    refine tkL 1 56 (v := ?_) rfl ?_ ?_
    rotate_left
    · (intro w9 hSw; clear hSw; go_simp; (try with_reducible rfl))
    (try simp only [tkS])
    refine tkL 2 57 (v := ?_) rfl ?_ ?_
    rotate_left
    · (intro w9 hSw; clear hSw; go_simp; (try with_reducible rfl))
    (try simp only [tkS])
    refine tkL 3 58 (v := ?_) rfl ?_ ?_
    rotate_left
    · (intro w9 hSw; clear hSw; go_simp; (try with_reducible rfl))
    (try simp only [tkS])
    refine tkL 4 59 (v := ?_) rfl ?_ ?_
    rotate_left
    · (intro w9 hSw; obtain ⟨y0, y2, y3, y4, y5, y6⟩ := HBX.out w9 (Chg.of_kept (HK5.out.trans hSw)); clear hSw; go_simp; (try with_reducible rfl))
    (try simp only [tkS])
    refine wpAnyH_ready (rs := [5, 7]) (by kernel_rfl) (by simp) ?_
    refine (AllReadyH.cons (o := ⟨some 60, _, _, _, _, _⟩) rfl (fun K hK => ?_) (AllReadyH.cons (o := ⟨some 12, _, _, _, _, _⟩) rfl (fun K hK => ?_) AllReadyH.nil))
    · go_simp
      refine (HIX.out _ (HK5.out.trans hHeld)).mono ?_
      rintro e wI ⟨rfl, kI⟩
      have HAI := hidMk (hHeld.trans kI)
      clear kI
      (try go_wp2_with fail)
      refine hK.out _ _ ?_ (fun hHeld => ?_)
      · exact HAI.out
      clear hK K
      (try simp only [tkS])
      refine tkL 6 61 (v := ?_) rfl ?_ ?_
      rotate_left
      · (intro w9 hSw; clear hSw; go_simp; (try with_reducible rfl))
      (try simp only [tkS])
      refine wpAnyH_ready (rs := [7]) (by kernel_rfl) (by simp) ?_
      refine (AllReadyH.cons (o := ⟨some 12, _, _, _, _, _⟩) rfl (fun K hK => ?_) AllReadyH.nil)
      go_simp
      refine hK.out _ _ ?_ (fun hHeld => ?_)
      · exact hHeld.alloc _
      clear hK K
      (try simp only [tkS])
      refine wpAnyH_ready (rs := [8]) (by kernel_rfl) (by simp) ?_
      refine (AllReadyH.cons (o := ⟨none, _, _, _, _, _⟩) rfl (fun K hK => ?_) AllReadyH.nil)
      go_simp
      refine hK.out _ _ ?_ (fun hHeld => ?_)
      · exact HAI.out.alloc _
      clear hK K
      (try simp only [tkS])
      refine wpAnyH_done (by kernel_rfl) ?_ _
      go_wp2_with fail
      go_meet
      have kk := HK5.out.trans HAI.out
      exact ⟨wI.heap.size, rfl, hidMk ⟨kk.alloc _, kk.size, boxPk_at wI (x, u, ix) 130 rfl _ (Kept.refl _)⟩⟩
    · go_simp
      refine hK.out _ _ ?_ (fun hHeld => ?_)
      · exact hHeld.alloc _
      clear hK K
      (try simp only [tkS])
      refine wpAnyH_ready (rs := [5]) (by kernel_rfl) (by simp) ?_
      refine (AllReadyH.cons (o := ⟨some 60, _, _, _, _, _⟩) rfl (fun K hK => ?_) AllReadyH.nil)
      go_simp
      refine (HIX.out _ (HK5.out.trans hHeld)).mono ?_
      rintro e wI ⟨rfl, kI⟩
      have HPB := hidMk (pk_room kI)
      skip
      have HAI := hidMk (hHeld.trans kI)
      clear kI
      (try go_wp2_with fail)
      refine hK.out _ _ ?_ (fun hHeld => ?_)
      · exact HAI.out
      clear hK K
      (try simp only [tkS])
      refine tkL 6 61 (v := ?_) rfl ?_ ?_
      rotate_left
      · (intro w9 hSw; clear hSw; go_simp; (try with_reducible rfl))
      (try simp only [tkS])
      refine wpAnyH_ready (rs := [8]) (by kernel_rfl) (by simp) ?_
      refine (AllReadyH.cons (o := ⟨none, _, _, _, _, _⟩) rfl (fun K hK => ?_) AllReadyH.nil)
      obtain ⟨p0, p1, p2, p3, p4, p5, p6, pf, pl⟩ := HPB.out
      go_simp
      clear p0 p1 p2 p3 p4 p5 p6 pf pl
      refine hK.out _ _ ?_ (fun hHeld => ?_)
      · exact set7_kept HAI.out (Nat.le_refl _) _ _ _ _ _ _ _
      clear hK K
      (try simp only [tkS])
      refine wpAnyH_done (by kernel_rfl) ?_ _
      go_wp2_with fail
      go_meet
      obtain ⟨p0, p1, p2, p3, p4, p5, p6, pf, pl⟩ := HPB.out
      exact ⟨wC.heap.size, rfl, hidMk ⟨set7_kept (HK5.out.trans HAI.out) HK5.out.size _ _ _ _ _ _ _, HK5.out.size, set7_cells p0 p1 p2 p3 p4 p5 p6 _ _ _ _ _ _ _ _ rfl⟩⟩
  case rest =>
    obtain ⟨pb, rfl, HP⟩ := hcut
    obtain ⟨y0, y2, y3, y4, y5, y6⟩ := HBX.out wc (Chg.of_kept HP.out.1)
    obtain ⟨q0, q1, q2, q3, q4, q5, q6⟩ := HP.out.2.2
    go_wp2_with fail
    refine (HBI.out _ HP.out.1).mono ?_
    rintro e w4 ⟨i, fd, rfl, hi, hi1, hi2, k4⟩
    have hi0 : i = 0 := by omega
    subst hi0
    have HK4 := hidMk (HP.out.1.trans k4)
    have HB4 := hidMk (show ∀ Y, Chg (fun j => j = rb) w4 Y → Y.cell? ⟨hb, 0, none⟩ = some (.slice none 0 0) ∧ Y.cell? ⟨pb, 0, none⟩ = some (.int .i64 x.1) ∧ Y.cell? ⟨pb, 1, none⟩ = some (.int .i64 x.2.1) ∧ Y.cell? ⟨pb, 2, none⟩ = some (.int .i64 x.2.2.1) ∧ Y.cell? ⟨pb, 3, none⟩ = some (.int .i64 x.2.2.2.1) ∧ Y.cell? ⟨pb, 4, none⟩ = some (.int .i64 x.2.2.2.2) ∧ Y.cell? ⟨pb, 5, none⟩ = some (.string u) ∧ Y.cell? ⟨pb, 6, none⟩ = some (.int .i64 ix) from fun Y kY => by
      have n0 : ¬ pb = rb := by have := HRN.out.2; have := HP.out.2.1; omega
      exact ⟨(HBX.out Y ((Chg.of_kept HK4.out).trans kY)).1, kY.cellp (k4.cellp q0) n0, kY.cellp (k4.cellp q1) n0, kY.cellp (k4.cellp q2) n0, kY.cellp (k4.cellp q3) n0, kY.cellp (k4.cellp q4) n0, kY.cellp (k4.cellp q5) n0, kY.cellp (k4.cellp q6) n0⟩)
    clear k4 HBI HP y0 y2 y3 y4 y5 y6 q0 q1 q2 q3 q4 q5 q6 hi1 hi2
    have HCO := hidMk (slices_ConcatPk (w4.heap.size + 1) 3 3 (p3 none (some ⟨w4.heap.size, 0, none⟩) none) (p3 0 1 0) (p3 ([] : List Pk) [(x, u, ix)] ([] : List Pk)) ((w4.drew.alloc (.cells #[.int .i64 x.1, .int .i64 x.2.1, .int .i64 x.2.2.1, .int .i64 x.2.2.2.1, .int .i64 x.2.2.2.2, .string u, .int .i64 ix] 130)).alloc (.cells #[.slice none 0 0, .slice (some ⟨w4.heap.size, 0, none⟩) 1 1, .slice none 0 0] 64)) (by omega) (fun k hk => by
      have hsz : (w4.drew.alloc (.cells #[.int .i64 x.1, .int .i64 x.2.1, .int .i64 x.2.2.1, .int .i64 x.2.2.2.1, .int .i64 x.2.2.2.2, .string u, .int .i64 ix] 130)).heap.size = w4.heap.size + 1 := by rw [World.size_alloc]; rfl
      have : k = 0 ∨ k = 1 ∨ k = 2 := by omega
      rcases this with rfl | rfl | rfl
      · refine ⟨?_, Pq.none _ _, fun _ => ⟨rfl, rfl⟩, by show ([] : List Pk).length ≤ 1000; simp⟩
        show _ = some (Value.slice none ([] : List Pk).length 0)
      
        exact new_cell _ _ _ _ 0 _ hsz.symm rfl
      · refine ⟨?_, ?_, fun e => (by cases e), by show [(x, u, ix)].length ≤ 1000; simp⟩
        · exact new_cell _ _ _ _ 1 _ hsz.symm rfl
        · refine ⟨fun _ => ⟨w4.heap.size, 0, rfl, by rw [World.size_alloc, hsz]; omega, fun j hj t ht uu hu => ?_⟩⟩
          have hj0 : j = 0 := by simpa [p3] using hj
          subst hj0
          obtain ⟨f0, f1, f2, f3, f4, f5, f6⟩ := boxPk_at w4.drew (x, u, ix) 130 (g := w4.heap.size) rfl _ ((Kept.refl _).alloc (.cells #[.slice none 0 0, .slice (some ⟨w4.heap.size, 0, none⟩) 1 1, .slice none 0 0] 64))
          have ht5 : t = 0 ∨ t = 1 ∨ t = 2 ∨ t = 3 ∨ t = 4 ∨ t = 5 ∨ t = 6 := by omega
          have hu' : (pkF (x, u, ix))[t]? = some uu := hu
          rcases ht5 with rfl | rfl | rfl | rfl | rfl | rfl | rfl <;> (simp [pkF] at hu'; subst hu'; assumption)
      · refine ⟨?_, Pq.none _ _, fun _ => ⟨rfl, rfl⟩, by show ([] : List Pk).length ≤ 1000; first | (simp; done) | (simp; omega)⟩
        show _ = some (Value.slice none ([] : List Pk).length 0)
      
        exact new_cell _ _ _ _ 2 _ hsz.symm rfl))
    go_upto_region 13 with fail
    refine wp_region_held_drew (S := (fun w' => Chg (fun j => j = rb) w4 w')) (by kernel_rfl) ?_ (fun hHeld => ?_)
    · exact (Chg.refl _ w4).drew
    refine tkL 0 69 (v := ?_) rfl ?_ ?_
    rotate_left
    · (intro w9 hSw; clear hSw; go_simp; (try with_reducible rfl))
    (try simp only [tkS])
    refine tkL 1 70 (v := ?_) rfl ?_ ?_
    rotate_left
    · (intro w9 hSw; obtain ⟨y0, q0, q1, q2, q3, q4, q5, q6⟩ := HB4.out w9 hSw; clear hSw; go_simp; (try with_reducible rfl))
    (try simp only [tkS])
    refine tkL 2 71 (v := ?_) rfl ?_ ?_
    rotate_left
    · (intro w9 hSw; clear hSw; go_simp; (try with_reducible rfl))
    (try simp only [tkS])
    refine tkL 3 72 (v := ?_) rfl ?_ ?_
    rotate_left
    · (intro w9 hSw; clear hSw; go_simp; (try with_reducible rfl))
    (try simp only [tkS])
    refine tkL 4 73 (v := ?_) rfl ?_ ?_
    rotate_left
    · (intro w9 hSw; obtain ⟨y0, q0, q1, q2, q3, q4, q5, q6⟩ := HB4.out w9 hSw; clear hSw; go_simp; (try with_reducible rfl))
    (try simp only [tkS])
    refine tkL 6 75 (v := ?_) rfl ?_ ?_
    rotate_left
    · (intro w9 hSw; clear hSw; go_simp; (try with_reducible rfl))
    (try simp only [tkS])
    refine tkL 7 76 (v := ?_) rfl ?_ ?_
    rotate_left
    · (intro w9 hSw; obtain ⟨y0, q0, q1, q2, q3, q4, q5, q6⟩ := HB4.out w9 hSw; clear hSw; go_simp; (try with_reducible rfl))
    (try simp only [tkS])
    refine tkL 8 77 (v := ?_) rfl ?_ ?_
    rotate_left
    · (intro w9 hSw; clear hSw; go_simp; (try with_reducible rfl))
    (try simp only [tkS])
    refine tkL 9 78 (v := ?_) rfl ?_ ?_
    rotate_left
    · (intro w9 hSw; clear hSw; go_simp; (try with_reducible rfl))
    (try simp only [tkS])
    refine wpAnyH_ready (rs := [5]) (by kernel_rfl) (by simp) ?_
    refine AllReadyH.cons (o := ⟨some 74, _, _, _, _, _⟩) rfl (fun K hK => ?_) AllReadyH.nil
    go_simp
    refine hK.out _ _ ?_ (fun hHeld => ?_)
    · (first | exact HAA.out | exact Chg.alloc hHeld _ | exact Chg.setCell (S := fun j => j = rb) HAA.out (p := ⟨rb, 0, none⟩) (.inl rfl) _)
    clear hK K
    (try simp only [tkS])
    refine wpAnyH_ready (rs := [10]) (by kernel_rfl) (by simp) ?_
    refine AllReadyH.cons (o := ⟨some 79, _, _, _, _, _⟩) rfl (fun K hK => ?_) AllReadyH.nil
    go_simp
    refine hK.out _ _ ?_ (fun hHeld => ?_)
    · (first | exact HAA.out | exact Chg.alloc hHeld _ | exact Chg.setCell (S := fun j => j = rb) HAA.out (p := ⟨rb, 0, none⟩) (.inl rfl) _)
    clear hK K
    (try simp only [tkS])
    refine wpAnyH_ready (rs := [11]) (by kernel_rfl) (by simp) ?_
    refine AllReadyH.cons (o := ⟨some 80, _, _, _, _, _⟩) rfl (fun K hK => ?_) AllReadyH.nil
    go_simp
    refine HCO.out.mono ?_
    rintro e wA ⟨v, rfl, ho, kA⟩
    obtain ⟨va, nv, vc, hv⟩ : ∃ va nv vc, v = Value.slice va nv vc := by obtain ⟨va, vc, hv, _, _⟩ := OwnPk.form ho; exact ⟨va, _, vc, hv⟩
    subst hv
    have HOW := hidMk ho
    have HAA := hidMk (show Chg (fun j => j = rb) w4 wA from hHeld.trans (Chg.of_kept kA))
    have HKA := hidMk (show Kept W1 wA from (((HK4.out.drew).alloc _).alloc _).trans kA)
    clear ho kA
    (try go_wp2_with fail)
    refine hK.out _ _ ?_ (fun hHeld => ?_)
    · (first | exact HAA.out | exact Chg.alloc hHeld _ | exact Chg.setCell (S := fun j => j = rb) HAA.out (p := ⟨rb, 0, none⟩) (.inl rfl) _)
    clear hK K
    (try simp only [tkS])
    refine tkL 12 81 (v := ?_) rfl ?_ ?_
    rotate_left
    · (intro w9 hSw; clear hSw; go_simp; (try with_reducible rfl))
    (try simp only [tkS])
    refine wpAnyH_ready (rs := [13]) (by kernel_rfl) (by simp) ?_
    refine AllReadyH.cons (o := ⟨none, _, _, _, _, _⟩) rfl (fun K hK => ?_) AllReadyH.nil
    have rc := HKA.out.cellp HRB.out.1
    have rf := (HKA.out.frozen (p := ⟨rb, 0, none⟩) HRN.out.2).trans HRB.out.2
    go_simp
    clear rc rf
    refine hK.out _ _ ?_ (fun hHeld => ?_)
    · (first | exact HAA.out | exact Chg.alloc hHeld _ | exact Chg.setCell (S := fun j => j = rb) HAA.out (p := ⟨rb, 0, none⟩) (.inl rfl) _)
    clear hK K
    (try simp only [tkS])
    refine tkL 14 9 (v := ?_) rfl ?_ ?_
    rotate_left
    · (intro w9 hSw; clear hSw; go_simp; (try with_reducible rfl))
    (try simp only [tkS])
    refine wpAnyH_done (by kernel_rfl) ?_ _
    have HCF := hidMk hHeld
    clear hHeld
    go_wp2_with fail
    refine bodyPost_ret (v := .tuple #[.agg #[.slice va nv vc], .int .i64 0]) ?_ rfl ⟨.slice va nv vc, _, rfl, ⟨0, Nat.le_refl _, fun k hk => absurd hk (by omega), fun k _ hk => absurd hk (by simp), rfl⟩, ?_, ?_⟩
    · simp only [results, show Tryz.f29.results = #[.cell 8 66, .tmp 9] from rfl]
      have rc : (wA.setCell ⟨rb, 0, none⟩ (.slice va nv vc)).cell? ⟨rb, 0, none⟩ = some (.slice va nv vc) := World.cell?_setCell_same _ _ _ (HKA.out.cellp HRB.out.1)
      have rl := lock_load rc
      go_simp
    · have hown : ∀ g, (Value.slice va nv vc).ownBlock = some g → ¬ g = rb := fun g hg e => by
        have h1 := (World.ownsRow.lt HOW.out g hg).1
        have h2 := HRN.out.2
        have h3 := HK4.out.size
        rw [World.size_alloc, World.size_alloc] at h1
        have h4 : w4.drew.heap.size = w4.heap.size := rfl
        omega
      have h9 := ownsRow_base (ownsRow_chg HOW.out (S := fun j => j = rb) ((Chg.refl (fun j => j = rb) wA).setCell (p := ⟨rb, 0, none⟩) (.inl rfl) (.slice va nv vc)) hown) (show w.heap.size ≤ _ from Nat.le_trans HK1.out.size (Nat.le_trans HK4.out.size (((((Kept.refl w4).drew).alloc _).alloc _).size)))
      have hcat : catNPk (p3 ([] : List Pk) [(x, u, ix)] ([] : List Pk)) 3 = [(x, u, ix)] := by simp [catNPk, List.range_succ, p3]
      rw [hcat] at h9
      exact h9
    · exact Chg.kept (HK1.out.trans HK4.out) HCF.out (fun j e => by have := HRN.out.1; omega)
end
end Go.Proofs.YtmedgkccicbieaaGreat
