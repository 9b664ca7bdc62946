/- hold: Add. · hold: Add at nothing; what Add refuses. · hold: what Add refuses. · hold: Drop. -/
import Derived.Test.YtmedgkccicbieaaGreatQHoldA
namespace Go.Proofs.YtmedgkccicbieaaGreat
open Go.RowKit Go.Maps
set_option linter.unusedSimpArgs false
set_option linter.unusedVariables false

theorem hold_load {w : World} {g : Nat} {v : Value} (c0 : w.cell? ⟨g, 0, none⟩ = some v) : (loadVar 37 ⟨g, 0, none⟩).run Tryz.prog w = .ok (.agg #[v]) w := by
  have hl := run_loadCells_list (P := Tryz.prog) w ⟨g, 0, none⟩ [v] (fun j u hv => by
    have : j = 0 := by
      have := (List.getElem?_eq_some_iff.1 hv).1
      simp at this
      omega
    subst this
    simp at hv
    subst hv
    simpa [Addr.add] using c0)
  have hi : (Tryz.prog.info? 37).map (·.size) = some 1 := by kernel_rfl
  obtain ⟨i, h1, h2⟩ := Option.map_eq_some_iff.1 hi
  simp only [List.length_cons, List.length_nil, Nat.reduceAdd] at hl
  simp [loadVar, Sem.run_bind, Tryz.isAgg37, sizeOf, typeInfo, h1, h2, hl]
theorem Cq.take {w : World} {a : Option Addr} {l : List Cl} (h : Cq w a l) (i : Nat) : Cq w a (l.take i) := by
  refine ⟨fun hp => ?_⟩
  have hl : 0 < l.length := by rw [List.length_take] at hp; omega
  obtain ⟨b, o, h1, h2, h3⟩ := h.cells hl
  refine ⟨b, o, h1, h2, fun j hj t ht u hu => h3 j (by rw [List.length_take] at hj; omega) t ht u ?_⟩
  have e : clA (l.take i) j = clA l j := by rw [clA_get hj, clA_get (by rw [List.length_take] at hj; omega), List.getElem_take]
  rw [← e]; exact hu
theorem Cq.drop {w : World} {b o : Nat} {l : List Cl} (h : Cq w (some ⟨b, o, none⟩) l) (i : Nat) : Cq w (some ⟨b, o + i * 5, none⟩) (l.drop i) := by
  refine ⟨fun hp => ?_⟩
  rw [List.length_drop] at hp
  obtain ⟨b', o', h1, h2, h3⟩ := h.cells (by omega)
  cases h1
  refine ⟨b, o + i * 5, rfl, h2, fun j hj t ht u hu => ?_⟩
  rw [List.length_drop] at hj
  have e : clA (l.drop i) j = clA l (i + j) := by rw [clA_get (by rw [List.length_drop]; omega), clA_get (by omega), List.getElem_drop]
  rw [e] at hu
  have := h3 (i + j) (by omega) t ht u hu
  rw [show o + (i + j) * 5 + t = o + i * 5 + j * 5 + t by omega] at this
  exact this
theorem Cq.none (w : World) (a : Option Addr) : Cq w a [] := ⟨fun hp => absurd hp (by simp)⟩
/-- A cell put in where it belongs. -/
def InsC (f : Cl → Int) (l : List Cl) (x : Cl) (l' : List Cl) : Prop := ∃ i, i ≤ l.length ∧ (∀ k, k < i → f (clA l k) < f x) ∧ (∀ k, i ≤ k → k < l.length → f x ≤ f (clA l k)) ∧ l' = l.take i ++ x :: l.drop i
def HdAdd (w : World) (f : Cl → Int) (l : List Cl) (x : Cl) (e : Ending) (w' : World) : Prop := ∃ v l', e = .returned (.tuple #[.agg #[v], .int .i64 0]) ∧ InsC f l x l' ∧ OwnQ w' w.heap.size v l' ∧ Kept w w'
/-- The three rows that Add joins. -/
def p3 {α : Type} (a b c : α) (k : Nat) : α := if k = 0 then a else if k = 1 then b else c
section
variable {w : World} {s p : Nat} {ds : List Dm} {ms : List ByteArray} {tp : Nat → Nat} {rv : Nat → Option Addr × Nat}
set_option maxHeartbeats 8000000 in
set_option maxRecDepth 100000 in
theorem hold_Add_some (h : SW w s p ds ms tp rv) (b o c : Nat) (l : List Cl) (x : Cl) (hq : Cq w (some ⟨b, o, none⟩) l) (hc : l.length ≤ c) (hr : ∀ i j, i < j → j < l.length → ixC ms ds (clA l i) < ixC ms ds (clA l j)) (hx : ¬ ixC ms ds x < 0) (hn : ¬ x ∈ l) (hl : l.length < 16) :
    Calls Tryz.prog 12 #[hdV (some ⟨b, o, none⟩) l.length c, .pointer (some ⟨s, 0, none⟩), clV x] w (HdAdd w (ixC ms ds) l x) := by
  obtain ⟨hb, hhb⟩ : ∃ z, z = w.heap.size := ⟨_, rfl⟩
  obtain ⟨sb, hsb⟩ : ∃ z, z = w.heap.size + 1 := ⟨_, rfl⟩
  obtain ⟨cb, hcb⟩ : ∃ z, z = w.heap.size + 1 + 1 := ⟨_, rfl⟩
  obtain ⟨rb, hrb⟩ : ∃ z, z = w.heap.size + 1 + 1 + 1 := ⟨_, rfl⟩
  obtain ⟨WA, hWA⟩ : ∃ V, V = w.alloc (.cells #[.slice (some ⟨b, o, none⟩) l.length c] 37) := ⟨_, rfl⟩
  obtain ⟨WB, hWB⟩ : ∃ V, V = WA.alloc (.cells #[.pointer (some ⟨s, 0, none⟩)] 30) := ⟨_, rfl⟩
  obtain ⟨WC, hWC⟩ : ∃ V, V = WB.alloc (.cells #[.int .i64 x.1, .int .i64 x.2.1, .int .i64 x.2.2.1, .int .i64 x.2.2.2.1, .int .i64 x.2.2.2.2] 29) := ⟨_, rfl⟩
  obtain ⟨W1, hW1⟩ : ∃ V, V = WC.alloc (.cells #[.slice none 0 0] 37) := ⟨_, rfl⟩
  have kA : Kept w WA := by rw [hWA]; exact (Kept.refl _).alloc _
  have kB : Kept WA WB := by rw [hWB]; exact (Kept.refl _).alloc _
  have kC : Kept WB WC := by rw [hWC]; exact (Kept.refl _).alloc _
  have kD : Kept WC W1 := by rw [hW1]; exact (Kept.refl _).alloc _
  have zA : WA.heap.size = w.heap.size + 1 := by rw [hWA, World.size_alloc]
  have zB : WB.heap.size = w.heap.size + 1 + 1 := by rw [hWB, World.size_alloc, zA]
  have zC : WC.heap.size = w.heap.size + 1 + 1 + 1 := by rw [hWC, World.size_alloc, zB]
  have k1 := kA.trans (kB.trans (kC.trans kD))
  have HK1 := hidMk k1
  have HBX := hidMk (show ∀ Y, Chg (fun j => j = rb) W1 Y → Y.cell? ⟨hb, 0, none⟩ = some (.slice (some ⟨b, o, none⟩) l.length c) ∧ Y.cell? ⟨sb, 0, none⟩ = some (.pointer (some ⟨s, 0, none⟩)) ∧ Y.cell? ⟨cb, 0, none⟩ = some (.int .i64 x.1) ∧ Y.cell? ⟨cb, 1, none⟩ = some (.int .i64 x.2.1) ∧ Y.cell? ⟨cb, 2, none⟩ = some (.int .i64 x.2.2.1) ∧ Y.cell? ⟨cb, 3, none⟩ = some (.int .i64 x.2.2.2.1) ∧ Y.cell? ⟨cb, 4, none⟩ = some (.int .i64 x.2.2.2.2) from fun Y k => by
    have e1 : WA.cell? ⟨hb, 0, none⟩ = some (.slice (some ⟨b, o, none⟩) l.length c) := by rw [hWA]; exact new_cell _ _ _ _ 0 _ hhb rfl
    have e2 : WB.cell? ⟨sb, 0, none⟩ = some (.pointer (some ⟨s, 0, none⟩)) := by rw [hWB]; exact new_cell _ _ _ _ 0 _ (hsb.trans zA.symm) rfl
    obtain ⟨f0, f1, f2, f3, f4⟩ := boxC_at WB x 29 (hcb.trans zB.symm) WC (by rw [← hWC]; exact Kept.refl _)
    have n1 : hb ≠ rb := by omega
    have n2 : sb ≠ rb := by omega
    have n3 : cb ≠ rb := by omega
    exact ⟨k.cellp ((kB.trans (kC.trans kD)).cellp e1) n1, k.cellp ((kC.trans kD).cellp e2) n2, k.cellp (kD.cellp f0) n3, k.cellp (kD.cellp f1) n3, k.cellp (kD.cellp f2) n3, k.cellp (kD.cellp f3) n3, k.cellp (kD.cellp f4) n3⟩)
  have HRB := hidMk (show W1.cell? ⟨rb, 0, none⟩ = some (.slice none 0 0) ∧ W1.frozen? ⟨rb, 0, none⟩ = false from by
    rw [hW1]; exact ⟨new_cell _ _ _ _ 0 _ (hrb.trans zC.symm) rfl, new_frozen _ _ _ (hrb.trans zC.symm) 0⟩)
  have HAS := hidMk (sw_ask (h.keep k1) x)
  simp only [if_neg hx] at HAS
  have HHA := hidMk (show ∀ Y, Kept W1 Y → _ from fun Y k => hold_Has (some ⟨b, o, none⟩) c l x Y (hq.kept (k1.trans k)) (by omega))
  simp only [hn, decide_false] at HHA
  have HBI := hidMk (show ∀ Y, Kept W1 Y → _ from fun Y k => slices_BinC (some ⟨b, o, none⟩) c l x (ixC ms ds) sb Y (hq.kept (k1.trans k)) (by omega) hr (fun Z kz x y => hold_cmp (h.keep (k1.trans (k.trans kz))) x y sb ((HBX.out Z (Chg.of_kept (k.trans kz))).2.1)))
  have HQ := hidMk (show ∀ Y, Kept W1 Y → Cq Y (some ⟨b, o, none⟩) l from fun Y k => hq.kept (k1.trans k))
  have HRN := hidMk (show w.heap.size ≤ rb ∧ rb < W1.heap.size from ⟨by omega, cell_lt (p := ⟨rb, 0, none⟩) HRB.out.1⟩)
  rw [hWC, hWB, hWA] at hW1
  unfold clV hdV at *
  have hl' : ¬ ((16 : Int) ≤ (l.length : Int)) := by omega
  clear h hq hr hx hn k1 kA kB kC kD zA zB zC hWA hWB hWC
  obtain ⟨y0, y1, y2, y3, y4, y5, y6⟩ := HBX.out W1 (Chg.refl _ _)
  rw [hW1, hhb] at y0
  rw [hW1, hsb] at y1
  rw [hW1, hcb] at y2 y3 y4 y5 y6
  go_enter Tryz.func12, Tryz.ntmps12
  go_wp2_with fail
  rw [← hW1, ← hrb, ← hcb, ← hsb, ← hhb]
  clear hW1 hrb hcb hsb hhb y0 y1 y2 y3 y4 y5 y6
  refine HAS.out.mono ?_
  rintro e w2 ⟨rfl, k2⟩
  have HK2 := hidMk k2
  clear k2 HAS
  obtain ⟨y0, y1, y2, y3, y4, y5, y6⟩ := HBX.out w2 (Chg.of_kept HK2.out)
  go_wp2_with fail
  refine (HHA.out _ HK2.out).mono ?_
  rintro e w3 ⟨rfl, k3⟩
  have HK3 := hidMk (HK2.out.trans k3)
  clear k3 HHA HK2 y0 y1 y2 y3 y4 y5 y6
  obtain ⟨y0, y1, y2, y3, y4, y5, y6⟩ := HBX.out w3 (Chg.of_kept HK3.out)
  go_wp2_with fail
  refine (HBI.out _ HK3.out).mono ?_
  rintro e w4 ⟨i, fd, rfl, hi, hi1, hi2, k4⟩
  have HK4 := hidMk (HK3.out.trans k4)
  have HI := hidMk (show (∀ k, k < i → _) ∧ ∀ k, i ≤ k → k < l.length → _ from ⟨hi1, hi2⟩)
  clear k4 HBI HK3 y0 y1 y2 y3 y4 y5 y6 hi1 hi2
  have hic : (i : Int) ≤ (c : Int) := by omega
  have hil : (i : Int) ≤ (l.length : Int) := by omega
  by_cases hci : c = i
  · have hli : i = l.length := by omega
    subst hli
    subst hci
    have HCO := hidMk (slices_ConcatC (w4.heap.size + 1) 3 3 (p3 (some ⟨b, o, none⟩) (some ⟨w4.heap.size, 0, none⟩) (some ⟨b, o, none⟩)) (p3 l.length 1 0) (p3 (l.take l.length) [x] ([] : List Cl)) ((w4.drew.alloc (.cells #[.int .i64 x.1, .int .i64 x.2.1, .int .i64 x.2.2.1, .int .i64 x.2.2.2.1, .int .i64 x.2.2.2.2] 29)).alloc (.cells #[.slice (some ⟨b, o, none⟩) l.length l.length, .slice (some ⟨w4.heap.size, 0, none⟩) 1 1, .slice (some ⟨b, o, none⟩) 0 0] 35)) (by omega) (fun k hk => by
      have hsz : (w4.drew.alloc (.cells #[.int .i64 x.1, .int .i64 x.2.1, .int .i64 x.2.2.1, .int .i64 x.2.2.2.1, .int .i64 x.2.2.2.2] 29)).heap.size = w4.heap.size + 1 := by rw [World.size_alloc]; rfl
      have hq4 := (HQ.out w4 HK4.out).kept ((((Kept.refl w4).drew).alloc (.cells #[.int .i64 x.1, .int .i64 x.2.1, .int .i64 x.2.2.1, .int .i64 x.2.2.2.1, .int .i64 x.2.2.2.2] 29)).alloc (.cells #[.slice (some ⟨b, o, none⟩) l.length l.length, .slice (some ⟨w4.heap.size, 0, none⟩) 1 1, .slice (some ⟨b, o, none⟩) 0 0] 35))
      have : k = 0 ∨ k = 1 ∨ k = 2 := by omega
      rcases this with rfl | rfl | rfl
      · refine ⟨?_, hq4.take _, fun e => (by cases e), by show (l.take l.length).length ≤ 1000; rw [List.length_take]; omega⟩
        show _ = some (Value.slice (some ⟨b, o, none⟩) (l.take l.length).length l.length)
        rw [show (l.take l.length).length = l.length by rw [List.length_take]; omega]
        exact new_cell _ _ _ _ 0 _ hsz.symm rfl
      · refine ⟨?_, ?_, fun e => (by cases e), by show [x].length ≤ 1000; simp⟩
        · exact new_cell _ _ _ _ 1 _ hsz.symm rfl
        · refine ⟨fun _ => ⟨w4.heap.size, 0, rfl, by rw [World.size_alloc, hsz]; omega, fun j hj t ht u hu => ?_⟩⟩
          have hj0 : j = 0 := by simpa [p3] using hj
          subst hj0
          obtain ⟨f0, f1, f2, f3, f4⟩ := boxC_at w4.drew x 29 (g := w4.heap.size) rfl _ ((Kept.refl _).alloc (.cells #[.slice (some ⟨b, o, none⟩) l.length l.length, .slice (some ⟨w4.heap.size, 0, none⟩) 1 1, .slice (some ⟨b, o, none⟩) 0 0] 35))
          have ht5 : t = 0 ∨ t = 1 ∨ t = 2 ∨ t = 3 ∨ t = 4 := by omega
          have hu' : (clF x)[t]? = some u := hu
          rcases ht5 with rfl | rfl | rfl | rfl | rfl <;> (simp [clF] at hu'; subst hu'; assumption)
      · refine ⟨?_, Cq.none _ _, fun e => (by cases e), by show ([] : List Cl).length ≤ 1000; first | (simp; done) | (simp; omega)⟩
        show _ = some (Value.slice (some ⟨b, o, none⟩) ([] : List Cl).length 0)
        rw [show ([] : List Cl).length = 0 by simp]
        exact new_cell _ _ _ _ 2 _ hsz.symm rfl))
    go_upto_region 10 with fail
    refine wp_region_held_drew (S := (fun w' => Chg (fun j => j = rb) W1 w')) (by kernel_rfl) ?_ (fun hHeld => ?_)
    · exact (Chg.of_kept HK4.out).drew
    refine wpAnyH_take (i := 0) (oi := { dst := some 37, op := _, type := _, pos := _, after := _, guard := _ }) (v := ?_) rfl (by kernel_rfl) (by kernel_rfl) (by kernel_rfl) (fun _ _ _ h => h) (Or.inl ⟨by rfl, ?_⟩) (by assumption) ?_
    rotate_left
    · (intro w9 hSw; clear hSw; go_simp; (try with_reducible rfl))
    (try simp only [Act.put, List.setIfInBounds_toArray, List.set_cons_zero, List.set_cons_succ])
    refine wpAnyH_take (i := 1) (oi := { dst := some 38, op := _, type := _, pos := _, after := _, guard := _ }) (v := ?_) rfl (by kernel_rfl) (by kernel_rfl) (by kernel_rfl) (fun _ _ _ h => h) (Or.inl ⟨by rfl, ?_⟩) (by assumption) ?_
    rotate_left
    · (intro w9 hSw; obtain ⟨y0, y1, y2, y3, y4, y5, y6⟩ := HBX.out w9 hSw; clear hSw; go_simp; (try with_reducible rfl))
    (try simp only [Act.put, List.setIfInBounds_toArray, List.set_cons_zero, List.set_cons_succ])
    refine wpAnyH_take (i := 2) (oi := { dst := some 39, op := _, type := _, pos := _, after := _, guard := _ }) (v := ?_) rfl (by kernel_rfl) (by kernel_rfl) (by kernel_rfl) (fun _ _ _ h => h) (Or.inl ⟨by rfl, ?_⟩) (by assumption) ?_
    rotate_left
    · (intro w9 hSw; clear hSw; go_simp; (try with_reducible rfl))
    (try simp only [Act.put, List.setIfInBounds_toArray, List.set_cons_zero, List.set_cons_succ])
    refine wpAnyH_take (i := 3) (oi := { dst := some 40, op := _, type := _, pos := _, after := _, guard := _ }) (v := ?_) rfl (by kernel_rfl) (by kernel_rfl) (by kernel_rfl) (fun _ _ _ h => h) (Or.inl ⟨by rfl, ?_⟩) (by assumption) ?_
    rotate_left
    · (intro w9 hSw; clear hSw; go_simp; (try with_reducible rfl))
    (try simp only [Act.put, List.setIfInBounds_toArray, List.set_cons_zero, List.set_cons_succ])
    refine wpAnyH_take (i := 4) (oi := { dst := some 41, op := _, type := _, pos := _, after := _, guard := _ }) (v := ?_) rfl (by kernel_rfl) (by kernel_rfl) (by kernel_rfl) (fun _ _ _ h => h) (Or.inl ⟨by rfl, ?_⟩) (by assumption) ?_
    rotate_left
    · (intro w9 hSw; obtain ⟨y0, y1, y2, y3, y4, y5, y6⟩ := HBX.out w9 hSw; clear hSw; go_simp; (try with_reducible rfl))
    (try simp only [Act.put, List.setIfInBounds_toArray, List.set_cons_zero, List.set_cons_succ])
    refine wpAnyH_take (i := 6) (oi := { dst := some 43, op := _, type := _, pos := _, after := _, guard := _ }) (v := ?_) rfl (by kernel_rfl) (by kernel_rfl) (by kernel_rfl) (fun _ _ _ h => h) (Or.inl ⟨by rfl, ?_⟩) (by assumption) ?_
    rotate_left
    · (intro w9 hSw; clear hSw; go_simp; (try with_reducible rfl))
    (try simp only [Act.put, List.setIfInBounds_toArray, List.set_cons_zero, List.set_cons_succ])
    refine wpAnyH_take (i := 7) (oi := { dst := some 44, op := _, type := _, pos := _, after := _, guard := _ }) (v := ?_) rfl (by kernel_rfl) (by kernel_rfl) (by kernel_rfl) (fun _ _ _ h => h) (Or.inl ⟨by rfl, ?_⟩) (by assumption) ?_
    rotate_left
    · (intro w9 hSw; obtain ⟨y0, y1, y2, y3, y4, y5, y6⟩ := HBX.out w9 hSw; clear hSw; go_simp; (try with_reducible rfl))
    (try simp only [Act.put, List.setIfInBounds_toArray, List.set_cons_zero, List.set_cons_succ])
    refine wpAnyH_take (i := 8) (oi := { dst := some 45, op := _, type := _, pos := _, after := _, guard := _ }) (v := ?_) rfl (by kernel_rfl) (by kernel_rfl) (by kernel_rfl) (fun _ _ _ h => h) (Or.inl ⟨by rfl, ?_⟩) (by assumption) ?_
    rotate_left
    · (intro w9 hSw; clear hSw; go_simp; (try with_reducible rfl))
    (try simp only [Act.put, List.setIfInBounds_toArray, List.set_cons_zero, List.set_cons_succ])
    refine wpAnyH_take (i := 9) (oi := { dst := some 46, op := _, type := _, pos := _, after := _, guard := _ }) (v := ?_) rfl (by kernel_rfl) (by kernel_rfl) (by kernel_rfl) (fun _ _ _ h => h) (Or.inl ⟨by rfl, ?_⟩) (by assumption) ?_
    rotate_left
    · (intro w9 hSw; clear hSw; go_simp; (try with_reducible rfl))
    (try simp only [Act.put, List.setIfInBounds_toArray, List.set_cons_zero, List.set_cons_succ])
    refine wpAnyH_ready (rs := [5]) (by kernel_rfl) (by simp) ?_
    refine AllReadyH.cons (o := { dst := some 42, op := _, type := _, pos := _, after := _, guard := _ }) rfl (fun K hK => ?_) AllReadyH.nil
    go_simp
    refine hK.out _ _ ?_ (fun hHeld => ?_)
    · (first | exact HAA.out | exact Chg.alloc hHeld _ | exact Chg.setCell (S := fun j => j = rb) HAA.out (p := ⟨rb, 0, none⟩) (.inl rfl) _)
    clear hK K
    (try simp only [Act.put, List.setIfInBounds_toArray, List.set_cons_zero, List.set_cons_succ])
    refine wpAnyH_ready (rs := [10]) (by kernel_rfl) (by simp) ?_
    refine AllReadyH.cons (o := { dst := some 47, op := _, type := _, pos := _, after := _, guard := _ }) rfl (fun K hK => ?_) AllReadyH.nil
    go_simp
    refine hK.out _ _ ?_ (fun hHeld => ?_)
    · (first | exact HAA.out | exact Chg.alloc hHeld _ | exact Chg.setCell (S := fun j => j = rb) HAA.out (p := ⟨rb, 0, none⟩) (.inl rfl) _)
    clear hK K
    (try simp only [Act.put, List.setIfInBounds_toArray, List.set_cons_zero, List.set_cons_succ])
    refine wpAnyH_ready (rs := [11]) (by kernel_rfl) (by simp) ?_
    refine AllReadyH.cons (o := { dst := some 48, op := _, type := _, pos := _, after := _, guard := _ }) rfl (fun K hK => ?_) AllReadyH.nil
    go_simp
    refine HCO.out.mono ?_
    rintro e wA ⟨v, rfl, ho, kA⟩
    obtain ⟨va, nv, vc, hv⟩ : ∃ va nv vc, v = Value.slice va nv vc := by obtain ⟨va, vc, hv, _, _⟩ := OwnQ.form ho; exact ⟨va, _, vc, hv⟩
    subst hv
    have HOW := hidMk ho
    have HAA := hidMk (show Chg (fun j => j = rb) W1 wA from hHeld.trans (Chg.of_kept kA))
    have HKA := hidMk (show Kept W1 wA from (((HK4.out.drew).alloc _).alloc _).trans kA)
    clear ho kA
    (try go_wp2_with fail)
    refine hK.out _ _ ?_ (fun hHeld => ?_)
    · (first | exact HAA.out | exact Chg.alloc hHeld _ | exact Chg.setCell (S := fun j => j = rb) HAA.out (p := ⟨rb, 0, none⟩) (.inl rfl) _)
    clear hK K
    (try simp only [Act.put, List.setIfInBounds_toArray, List.set_cons_zero, List.set_cons_succ])
    refine wpAnyH_take (i := 12) (oi := { dst := some 49, op := _, type := _, pos := _, after := _, guard := _ }) (v := ?_) rfl (by kernel_rfl) (by kernel_rfl) (by kernel_rfl) (fun _ _ _ h => h) (Or.inl ⟨by rfl, ?_⟩) (by assumption) ?_
    rotate_left
    · (intro w9 hSw; clear hSw; go_simp; (try with_reducible rfl))
    (try simp only [Act.put, List.setIfInBounds_toArray, List.set_cons_zero, List.set_cons_succ])
    refine wpAnyH_ready (rs := [13]) (by kernel_rfl) (by simp) ?_
    refine AllReadyH.cons (o := { dst := none, op := _, type := _, pos := _, after := _, guard := _ }) rfl (fun K hK => ?_) AllReadyH.nil
    have rc := HKA.out.cellp HRB.out.1
    have rf := (HKA.out.frozen (p := ⟨rb, 0, none⟩) HRN.out.2).trans HRB.out.2
    go_simp
    clear rc rf
    refine hK.out _ _ ?_ (fun hHeld => ?_)
    · (first | exact HAA.out | exact Chg.alloc hHeld _ | exact Chg.setCell (S := fun j => j = rb) HAA.out (p := ⟨rb, 0, none⟩) (.inl rfl) _)
    clear hK K
    (try simp only [Act.put, List.setIfInBounds_toArray, List.set_cons_zero, List.set_cons_succ])
    refine wpAnyH_take (i := 14) (oi := { dst := some 7, op := _, type := _, pos := _, after := _, guard := _ }) (v := ?_) rfl (by kernel_rfl) (by kernel_rfl) (by kernel_rfl) (fun _ _ _ h => h) (Or.inl ⟨by rfl, ?_⟩) (by assumption) ?_
    rotate_left
    · (intro w9 hSw; clear hSw; go_simp; (try with_reducible rfl))
    (try simp only [Act.put, List.setIfInBounds_toArray, List.set_cons_zero, List.set_cons_succ])
    refine wpAnyH_done (by kernel_rfl) ?_ _
    have HCF := hidMk hHeld
    clear hHeld
    go_wp2_with fail
    refine bodyPost_ret (v := .tuple #[.agg #[.slice va nv vc], .int .i64 0]) ?_ rfl ⟨.slice va nv vc, _, rfl, ⟨l.length, Nat.le_refl _, HI.out.1, HI.out.2, rfl⟩, ?_, ?_⟩
    · simp only [results, show Tryz.f12.results = #[.cell 6 37, .tmp 7] from rfl]
      have rc : (wA.setCell ⟨rb, 0, none⟩ (.slice va nv vc)).cell? ⟨rb, 0, none⟩ = some (.slice va nv vc) := World.cell?_setCell_same _ _ _ (HKA.out.cellp HRB.out.1)
      have rl := hold_load rc
      go_simp
    · have hown : ∀ g, (Value.slice va nv vc).ownBlock = some g → ¬ g = rb := fun g hg e => by
        have h1 := (World.ownsRow.lt HOW.out g hg).1
        have h2 := HRN.out.2
        have h3 := HK4.out.size
        rw [World.size_alloc, World.size_alloc] at h1
        have h4 : w4.drew.heap.size = w4.heap.size := rfl
        omega
      have h9 := ownsRow_base (ownsRow_chg HOW.out (S := fun j => j = rb) ((Chg.refl (fun j => j = rb) wA).setCell (p := ⟨rb, 0, none⟩) (.inl rfl) (.slice va nv vc)) hown) (show w.heap.size ≤ _ from Nat.le_trans HK1.out.size (Nat.le_trans HK4.out.size (((((Kept.refl w4).drew).alloc _).alloc _).size)))
      have hcat : catN (p3 (l.take l.length) [x] ([] : List Cl)) 3 = l.take l.length ++ x :: l.drop l.length := by simp [catN, List.range_succ, p3]
      rw [hcat] at h9
      exact h9
    · exact Chg.kept HK1.out HCF.out (fun j e => by have := HRN.out.1; omega)
  · have hci' : ¬ i = c := fun e => hci e.symm
    have HCO := hidMk (slices_ConcatC (w4.heap.size + 1) 3 3 (p3 (some ⟨b, o, none⟩) (some ⟨w4.heap.size, 0, none⟩) (some ⟨b, o + i * 5, none⟩)) (p3 c 1 (c - i)) (p3 (l.take i) [x] (l.drop i)) ((w4.drew.alloc (.cells #[.int .i64 x.1, .int .i64 x.2.1, .int .i64 x.2.2.1, .int .i64 x.2.2.2.1, .int .i64 x.2.2.2.2] 29)).alloc (.cells #[.slice (some ⟨b, o, none⟩) i c, .slice (some ⟨w4.heap.size, 0, none⟩) 1 1, .slice (some ⟨b, o + i * 5, none⟩) (l.length - i) (c - i)] 35)) (by omega) (fun k hk => by
      have hsz : (w4.drew.alloc (.cells #[.int .i64 x.1, .int .i64 x.2.1, .int .i64 x.2.2.1, .int .i64 x.2.2.2.1, .int .i64 x.2.2.2.2] 29)).heap.size = w4.heap.size + 1 := by rw [World.size_alloc]; rfl
      have hq4 := (HQ.out w4 HK4.out).kept ((((Kept.refl w4).drew).alloc (.cells #[.int .i64 x.1, .int .i64 x.2.1, .int .i64 x.2.2.1, .int .i64 x.2.2.2.1, .int .i64 x.2.2.2.2] 29)).alloc (.cells #[.slice (some ⟨b, o, none⟩) i c, .slice (some ⟨w4.heap.size, 0, none⟩) 1 1, .slice (some ⟨b, o + i * 5, none⟩) (l.length - i) (c - i)] 35))
      have : k = 0 ∨ k = 1 ∨ k = 2 := by omega
      rcases this with rfl | rfl | rfl
      · refine ⟨?_, hq4.take _, fun e => (by cases e), by show (l.take i).length ≤ 1000; rw [List.length_take]; omega⟩
        show _ = some (Value.slice (some ⟨b, o, none⟩) (l.take i).length c)
        rw [show (l.take i).length = i by rw [List.length_take]; omega]
        exact new_cell _ _ _ _ 0 _ hsz.symm rfl
      · refine ⟨?_, ?_, fun e => (by cases e), by show [x].length ≤ 1000; simp⟩
        · exact new_cell _ _ _ _ 1 _ hsz.symm rfl
        · refine ⟨fun _ => ⟨w4.heap.size, 0, rfl, by rw [World.size_alloc, hsz]; omega, fun j hj t ht u hu => ?_⟩⟩
          have hj0 : j = 0 := by simpa [p3] using hj
          subst hj0
          obtain ⟨f0, f1, f2, f3, f4⟩ := boxC_at w4.drew x 29 (g := w4.heap.size) rfl _ ((Kept.refl _).alloc (.cells #[.slice (some ⟨b, o, none⟩) i c, .slice (some ⟨w4.heap.size, 0, none⟩) 1 1, .slice (some ⟨b, o + i * 5, none⟩) (l.length - i) (c - i)] 35))
          have ht5 : t = 0 ∨ t = 1 ∨ t = 2 ∨ t = 3 ∨ t = 4 := by omega
          have hu' : (clF x)[t]? = some u := hu
          rcases ht5 with rfl | rfl | rfl | rfl | rfl <;> (simp [clF] at hu'; subst hu'; assumption)
      · refine ⟨?_, hq4.drop i, fun e => (by cases e), by show (l.drop i).length ≤ 1000; first | (simp; done) | (simp; omega)⟩
        show _ = some (Value.slice (some ⟨b, o + i * 5, none⟩) (l.drop i).length (c - i))
        rw [show (l.drop i).length = (l.length - i) by simp]
        exact new_cell _ _ _ _ 2 _ hsz.symm rfl))
    go_upto_region 10 with fail
    refine wp_region_held_drew (S := (fun w' => Chg (fun j => j = rb) W1 w')) (by kernel_rfl) ?_ (fun hHeld => ?_)
    · exact (Chg.of_kept HK4.out).drew
    refine wpAnyH_take (i := 0) (oi := { dst := some 37, op := _, type := _, pos := _, after := _, guard := _ }) (v := ?_) rfl (by kernel_rfl) (by kernel_rfl) (by kernel_rfl) (fun _ _ _ h => h) (Or.inl ⟨by rfl, ?_⟩) (by assumption) ?_
    rotate_left
    · (intro w9 hSw; clear hSw; go_simp; (try with_reducible rfl))
    (try simp only [Act.put, List.setIfInBounds_toArray, List.set_cons_zero, List.set_cons_succ])
    refine wpAnyH_take (i := 1) (oi := { dst := some 38, op := _, type := _, pos := _, after := _, guard := _ }) (v := ?_) rfl (by kernel_rfl) (by kernel_rfl) (by kernel_rfl) (fun _ _ _ h => h) (Or.inl ⟨by rfl, ?_⟩) (by assumption) ?_
    rotate_left
    · (intro w9 hSw; obtain ⟨y0, y1, y2, y3, y4, y5, y6⟩ := HBX.out w9 hSw; clear hSw; go_simp; (try with_reducible rfl))
    (try simp only [Act.put, List.setIfInBounds_toArray, List.set_cons_zero, List.set_cons_succ])
    refine wpAnyH_take (i := 2) (oi := { dst := some 39, op := _, type := _, pos := _, after := _, guard := _ }) (v := ?_) rfl (by kernel_rfl) (by kernel_rfl) (by kernel_rfl) (fun _ _ _ h => h) (Or.inl ⟨by rfl, ?_⟩) (by assumption) ?_
    rotate_left
    · (intro w9 hSw; clear hSw; go_simp; (try with_reducible rfl))
    (try simp only [Act.put, List.setIfInBounds_toArray, List.set_cons_zero, List.set_cons_succ])
    refine wpAnyH_take (i := 3) (oi := { dst := some 40, op := _, type := _, pos := _, after := _, guard := _ }) (v := ?_) rfl (by kernel_rfl) (by kernel_rfl) (by kernel_rfl) (fun _ _ _ h => h) (Or.inl ⟨by rfl, ?_⟩) (by assumption) ?_
    rotate_left
    · (intro w9 hSw; clear hSw; go_simp; (try with_reducible rfl))
    (try simp only [Act.put, List.setIfInBounds_toArray, List.set_cons_zero, List.set_cons_succ])
    refine wpAnyH_take (i := 4) (oi := { dst := some 41, op := _, type := _, pos := _, after := _, guard := _ }) (v := ?_) rfl (by kernel_rfl) (by kernel_rfl) (by kernel_rfl) (fun _ _ _ h => h) (Or.inl ⟨by rfl, ?_⟩) (by assumption) ?_
    rotate_left
    · (intro w9 hSw; obtain ⟨y0, y1, y2, y3, y4, y5, y6⟩ := HBX.out w9 hSw; clear hSw; go_simp; (try with_reducible rfl))
    (try simp only [Act.put, List.setIfInBounds_toArray, List.set_cons_zero, List.set_cons_succ])
    refine wpAnyH_take (i := 6) (oi := { dst := some 43, op := _, type := _, pos := _, after := _, guard := _ }) (v := ?_) rfl (by kernel_rfl) (by kernel_rfl) (by kernel_rfl) (fun _ _ _ h => h) (Or.inl ⟨by rfl, ?_⟩) (by assumption) ?_
    rotate_left
    · (intro w9 hSw; clear hSw; go_simp; (try with_reducible rfl))
    (try simp only [Act.put, List.setIfInBounds_toArray, List.set_cons_zero, List.set_cons_succ])
    refine wpAnyH_take (i := 7) (oi := { dst := some 44, op := _, type := _, pos := _, after := _, guard := _ }) (v := ?_) rfl (by kernel_rfl) (by kernel_rfl) (by kernel_rfl) (fun _ _ _ h => h) (Or.inl ⟨by rfl, ?_⟩) (by assumption) ?_
    rotate_left
    · (intro w9 hSw; obtain ⟨y0, y1, y2, y3, y4, y5, y6⟩ := HBX.out w9 hSw; clear hSw; go_simp; (try with_reducible rfl))
    (try simp only [Act.put, List.setIfInBounds_toArray, List.set_cons_zero, List.set_cons_succ])
    refine wpAnyH_take (i := 8) (oi := { dst := some 45, op := _, type := _, pos := _, after := _, guard := _ }) (v := ?_) rfl (by kernel_rfl) (by kernel_rfl) (by kernel_rfl) (fun _ _ _ h => h) (Or.inl ⟨by rfl, ?_⟩) (by assumption) ?_
    rotate_left
    · (intro w9 hSw; clear hSw; go_simp; (try with_reducible rfl))
    (try simp only [Act.put, List.setIfInBounds_toArray, List.set_cons_zero, List.set_cons_succ])
    refine wpAnyH_take (i := 9) (oi := { dst := some 46, op := _, type := _, pos := _, after := _, guard := _ }) (v := ?_) rfl (by kernel_rfl) (by kernel_rfl) (by kernel_rfl) (fun _ _ _ h => h) (Or.inl ⟨by rfl, ?_⟩) (by assumption) ?_
    rotate_left
    · (intro w9 hSw; clear hSw; go_simp; (try with_reducible rfl))
    (try simp only [Act.put, List.setIfInBounds_toArray, List.set_cons_zero, List.set_cons_succ])
    refine wpAnyH_ready (rs := [5]) (by kernel_rfl) (by simp) ?_
    refine AllReadyH.cons (o := { dst := some 42, op := _, type := _, pos := _, after := _, guard := _ }) rfl (fun K hK => ?_) AllReadyH.nil
    go_simp
    refine hK.out _ _ ?_ (fun hHeld => ?_)
    · (first | exact HAA.out | exact Chg.alloc hHeld _ | exact Chg.setCell (S := fun j => j = rb) HAA.out (p := ⟨rb, 0, none⟩) (.inl rfl) _)
    clear hK K
    (try simp only [Act.put, List.setIfInBounds_toArray, List.set_cons_zero, List.set_cons_succ])
    refine wpAnyH_ready (rs := [10]) (by kernel_rfl) (by simp) ?_
    refine AllReadyH.cons (o := { dst := some 47, op := _, type := _, pos := _, after := _, guard := _ }) rfl (fun K hK => ?_) AllReadyH.nil
    go_simp
    refine hK.out _ _ ?_ (fun hHeld => ?_)
    · (first | exact HAA.out | exact Chg.alloc hHeld _ | exact Chg.setCell (S := fun j => j = rb) HAA.out (p := ⟨rb, 0, none⟩) (.inl rfl) _)
    clear hK K
    (try simp only [Act.put, List.setIfInBounds_toArray, List.set_cons_zero, List.set_cons_succ])
    refine wpAnyH_ready (rs := [11]) (by kernel_rfl) (by simp) ?_
    refine AllReadyH.cons (o := { dst := some 48, op := _, type := _, pos := _, after := _, guard := _ }) rfl (fun K hK => ?_) AllReadyH.nil
    go_simp
    refine HCO.out.mono ?_
    rintro e wA ⟨v, rfl, ho, kA⟩
    obtain ⟨va, nv, vc, hv⟩ : ∃ va nv vc, v = Value.slice va nv vc := by obtain ⟨va, vc, hv, _, _⟩ := OwnQ.form ho; exact ⟨va, _, vc, hv⟩
    subst hv
    have HOW := hidMk ho
    have HAA := hidMk (show Chg (fun j => j = rb) W1 wA from hHeld.trans (Chg.of_kept kA))
    have HKA := hidMk (show Kept W1 wA from (((HK4.out.drew).alloc _).alloc _).trans kA)
    clear ho kA
    (try go_wp2_with fail)
    refine hK.out _ _ ?_ (fun hHeld => ?_)
    · (first | exact HAA.out | exact Chg.alloc hHeld _ | exact Chg.setCell (S := fun j => j = rb) HAA.out (p := ⟨rb, 0, none⟩) (.inl rfl) _)
    clear hK K
    (try simp only [Act.put, List.setIfInBounds_toArray, List.set_cons_zero, List.set_cons_succ])
    refine wpAnyH_take (i := 12) (oi := { dst := some 49, op := _, type := _, pos := _, after := _, guard := _ }) (v := ?_) rfl (by kernel_rfl) (by kernel_rfl) (by kernel_rfl) (fun _ _ _ h => h) (Or.inl ⟨by rfl, ?_⟩) (by assumption) ?_
    rotate_left
    · (intro w9 hSw; clear hSw; go_simp; (try with_reducible rfl))
    (try simp only [Act.put, List.setIfInBounds_toArray, List.set_cons_zero, List.set_cons_succ])
    refine wpAnyH_ready (rs := [13]) (by kernel_rfl) (by simp) ?_
    refine AllReadyH.cons (o := { dst := none, op := _, type := _, pos := _, after := _, guard := _ }) rfl (fun K hK => ?_) AllReadyH.nil
    have rc := HKA.out.cellp HRB.out.1
    have rf := (HKA.out.frozen (p := ⟨rb, 0, none⟩) HRN.out.2).trans HRB.out.2
    go_simp
    clear rc rf
    refine hK.out _ _ ?_ (fun hHeld => ?_)
    · (first | exact HAA.out | exact Chg.alloc hHeld _ | exact Chg.setCell (S := fun j => j = rb) HAA.out (p := ⟨rb, 0, none⟩) (.inl rfl) _)
    clear hK K
    (try simp only [Act.put, List.setIfInBounds_toArray, List.set_cons_zero, List.set_cons_succ])
    refine wpAnyH_take (i := 14) (oi := { dst := some 7, op := _, type := _, pos := _, after := _, guard := _ }) (v := ?_) rfl (by kernel_rfl) (by kernel_rfl) (by kernel_rfl) (fun _ _ _ h => h) (Or.inl ⟨by rfl, ?_⟩) (by assumption) ?_
    rotate_left
    · (intro w9 hSw; clear hSw; go_simp; (try with_reducible rfl))
    (try simp only [Act.put, List.setIfInBounds_toArray, List.set_cons_zero, List.set_cons_succ])
    refine wpAnyH_done (by kernel_rfl) ?_ _
    have HCF := hidMk hHeld
    clear hHeld
    go_wp2_with fail
    refine bodyPost_ret (v := .tuple #[.agg #[.slice va nv vc], .int .i64 0]) ?_ rfl ⟨.slice va nv vc, _, rfl, ⟨i, hi, HI.out.1, HI.out.2, rfl⟩, ?_, ?_⟩
    · simp only [results, show Tryz.f12.results = #[.cell 6 37, .tmp 7] from rfl]
      have rc : (wA.setCell ⟨rb, 0, none⟩ (.slice va nv vc)).cell? ⟨rb, 0, none⟩ = some (.slice va nv vc) := World.cell?_setCell_same _ _ _ (HKA.out.cellp HRB.out.1)
      have rl := hold_load rc
      go_simp
    · have hown : ∀ g, (Value.slice va nv vc).ownBlock = some g → ¬ g = rb := fun g hg e => by
        have h1 := (World.ownsRow.lt HOW.out g hg).1
        have h2 := HRN.out.2
        have h3 := HK4.out.size
        rw [World.size_alloc, World.size_alloc] at h1
        have h4 : w4.drew.heap.size = w4.heap.size := rfl
        omega
      have h9 := ownsRow_base (ownsRow_chg HOW.out (S := fun j => j = rb) ((Chg.refl (fun j => j = rb) wA).setCell (p := ⟨rb, 0, none⟩) (.inl rfl) (.slice va nv vc)) hown) (show w.heap.size ≤ _ from Nat.le_trans HK1.out.size (Nat.le_trans HK4.out.size (((((Kept.refl w4).drew).alloc _).alloc _).size)))
      have hcat : catN (p3 (l.take i) [x] (l.drop i)) 3 = l.take i ++ x :: l.drop i := by simp [catN, List.range_succ, p3]
      rw [hcat] at h9
      exact h9
    · exact Chg.kept HK1.out HCF.out (fun j e => by have := HRN.out.1; omega)
end
end Go.Proofs.YtmedgkccicbieaaGreat
namespace Go.Proofs.YtmedgkccicbieaaGreat
open Go.RowKit Go.Maps
set_option linter.unusedSimpArgs false
set_option linter.unusedVariables false

section
variable {w : World} {s p : Nat} {ds : List Dm} {ms : List ByteArray} {tp : Nat → Nat} {rv : Nat → Option Addr × Nat}
set_option maxHeartbeats 8000000 in
set_option maxRecDepth 100000 in
theorem hold_Add_none (h : SW w s p ds ms tp rv) (x : Cl) (hx : ¬ ixC ms ds x < 0) :
    Calls Tryz.prog 12 #[hdV none 0 0, .pointer (some ⟨s, 0, none⟩), clV x] w (HdAdd w (ixC ms ds) [] x) := by
  obtain ⟨hb, hhb⟩ : ∃ z, z = w.heap.size := ⟨_, rfl⟩
  obtain ⟨sb, hsb⟩ : ∃ z, z = w.heap.size + 1 := ⟨_, rfl⟩
  obtain ⟨cb, hcb⟩ : ∃ z, z = w.heap.size + 1 + 1 := ⟨_, rfl⟩
  obtain ⟨rb, hrb⟩ : ∃ z, z = w.heap.size + 1 + 1 + 1 := ⟨_, rfl⟩
  obtain ⟨WA, hWA⟩ : ∃ V, V = w.alloc (.cells #[.slice none 0 0] 37) := ⟨_, rfl⟩
  obtain ⟨WB, hWB⟩ : ∃ V, V = WA.alloc (.cells #[.pointer (some ⟨s, 0, none⟩)] 30) := ⟨_, rfl⟩
  obtain ⟨WC, hWC⟩ : ∃ V, V = WB.alloc (.cells #[.int .i64 x.1, .int .i64 x.2.1, .int .i64 x.2.2.1, .int .i64 x.2.2.2.1, .int .i64 x.2.2.2.2] 29) := ⟨_, rfl⟩
  obtain ⟨W1, hW1⟩ : ∃ V, V = WC.alloc (.cells #[.slice none 0 0] 37) := ⟨_, rfl⟩
  have kA : Kept w WA := by rw [hWA]; exact (Kept.refl _).alloc _
  have kB : Kept WA WB := by rw [hWB]; exact (Kept.refl _).alloc _
  have kC : Kept WB WC := by rw [hWC]; exact (Kept.refl _).alloc _
  have kD : Kept WC W1 := by rw [hW1]; exact (Kept.refl _).alloc _
  have zA : WA.heap.size = w.heap.size + 1 := by rw [hWA, World.size_alloc]
  have zB : WB.heap.size = w.heap.size + 1 + 1 := by rw [hWB, World.size_alloc, zA]
  have zC : WC.heap.size = w.heap.size + 1 + 1 + 1 := by rw [hWC, World.size_alloc, zB]
  have k1 := kA.trans (kB.trans (kC.trans kD))
  have HK1 := hidMk k1
  have HBX := hidMk (show ∀ Y, Chg (fun j => j = rb) W1 Y → Y.cell? ⟨hb, 0, none⟩ = some (.slice none 0 0) ∧ Y.cell? ⟨sb, 0, none⟩ = some (.pointer (some ⟨s, 0, none⟩)) ∧ Y.cell? ⟨cb, 0, none⟩ = some (.int .i64 x.1) ∧ Y.cell? ⟨cb, 1, none⟩ = some (.int .i64 x.2.1) ∧ Y.cell? ⟨cb, 2, none⟩ = some (.int .i64 x.2.2.1) ∧ Y.cell? ⟨cb, 3, none⟩ = some (.int .i64 x.2.2.2.1) ∧ Y.cell? ⟨cb, 4, none⟩ = some (.int .i64 x.2.2.2.2) from fun Y k => by
    have e1 : WA.cell? ⟨hb, 0, none⟩ = some (.slice none 0 0) := by rw [hWA]; exact new_cell _ _ _ _ 0 _ hhb rfl
    have e2 : WB.cell? ⟨sb, 0, none⟩ = some (.pointer (some ⟨s, 0, none⟩)) := by rw [hWB]; exact new_cell _ _ _ _ 0 _ (hsb.trans zA.symm) rfl
    obtain ⟨f0, f1, f2, f3, f4⟩ := boxC_at WB x 29 (hcb.trans zB.symm) WC (by rw [← hWC]; exact Kept.refl _)
    have n1 : hb ≠ rb := by omega
    have n2 : sb ≠ rb := by omega
    have n3 : cb ≠ rb := by omega
    exact ⟨k.cellp ((kB.trans (kC.trans kD)).cellp e1) n1, k.cellp ((kC.trans kD).cellp e2) n2, k.cellp (kD.cellp f0) n3, k.cellp (kD.cellp f1) n3, k.cellp (kD.cellp f2) n3, k.cellp (kD.cellp f3) n3, k.cellp (kD.cellp f4) n3⟩)
  have HRB := hidMk (show W1.cell? ⟨rb, 0, none⟩ = some (.slice none 0 0) ∧ W1.frozen? ⟨rb, 0, none⟩ = false from by
    rw [hW1]; exact ⟨new_cell _ _ _ _ 0 _ (hrb.trans zC.symm) rfl, new_frozen _ _ _ (hrb.trans zC.symm) 0⟩)
  have HAS := hidMk (sw_ask (h.keep k1) x)
  simp only [if_neg hx] at HAS
  have HHA := hidMk (show ∀ Y, Kept W1 Y → _ from fun Y k => hold_Has none 0 [] x Y (Cq.none _ _) (by simp))
  simp only [List.not_mem_nil, decide_false, List.length_nil] at HHA
  have HBI := hidMk (show ∀ Y, Kept W1 Y → _ from fun Y k => slices_BinC none 0 [] x (ixC ms ds) sb Y (Cq.none _ _) (by simp) (fun i j _ hj => absurd hj (by simp)) (fun Z kz x y => hold_cmp (h.keep (k1.trans (k.trans kz))) x y sb ((HBX.out Z (Chg.of_kept (k.trans kz))).2.1)))
  have HRN := hidMk (show w.heap.size ≤ rb ∧ rb < W1.heap.size from ⟨by omega, cell_lt (p := ⟨rb, 0, none⟩) HRB.out.1⟩)
  rw [hWC, hWB, hWA] at hW1
  unfold clV hdV at *
  simp only [List.length_nil] at HBI
  clear h hx k1 kA kB kC kD zA zB zC hWA hWB hWC
  obtain ⟨y0, y1, y2, y3, y4, y5, y6⟩ := HBX.out W1 (Chg.refl _ _)
  rw [hW1, hhb] at y0
  rw [hW1, hsb] at y1
  rw [hW1, hcb] at y2 y3 y4 y5 y6
  go_enter Tryz.func12, Tryz.ntmps12
  go_wp2_with fail
  rw [← hW1, ← hrb, ← hcb, ← hsb, ← hhb]
  clear hW1 hrb hcb hsb hhb y0 y1 y2 y3 y4 y5 y6
  refine HAS.out.mono ?_
  rintro e w2 ⟨rfl, k2⟩
  have HK2 := hidMk k2
  clear k2 HAS
  obtain ⟨y0, y1, y2, y3, y4, y5, y6⟩ := HBX.out w2 (Chg.of_kept HK2.out)
  go_wp2_with fail
  refine (HHA.out _ HK2.out).mono ?_
  rintro e w3 ⟨rfl, k3⟩
  have HK3 := hidMk (HK2.out.trans k3)
  clear k3 HHA HK2 y0 y1 y2 y3 y4 y5 y6
  obtain ⟨y0, y1, y2, y3, y4, y5, y6⟩ := HBX.out w3 (Chg.of_kept HK3.out)
  go_wp2_with fail
  refine (HBI.out _ HK3.out).mono ?_
  rintro e w4 ⟨i, fd, rfl, hi, hi1, hi2, k4⟩
  have hi0 : i = 0 := by simpa using hi
  subst hi0
  have HK4 := hidMk (HK3.out.trans k4)
  clear k4 HBI HK3 y0 y1 y2 y3 y4 y5 y6 hi1 hi2
  have HCO := hidMk (slices_ConcatC (w4.heap.size + 1) 3 3 (p3 none (some ⟨w4.heap.size, 0, none⟩) none) (p3 0 1 0) (p3 ([] : List Cl) [x] ([] : List Cl)) ((w4.drew.alloc (.cells #[.int .i64 x.1, .int .i64 x.2.1, .int .i64 x.2.2.1, .int .i64 x.2.2.2.1, .int .i64 x.2.2.2.2] 29)).alloc (.cells #[.slice none 0 0, .slice (some ⟨w4.heap.size, 0, none⟩) 1 1, .slice none 0 0] 35)) (by omega) (fun k hk => by
    have hsz : (w4.drew.alloc (.cells #[.int .i64 x.1, .int .i64 x.2.1, .int .i64 x.2.2.1, .int .i64 x.2.2.2.1, .int .i64 x.2.2.2.2] 29)).heap.size = w4.heap.size + 1 := by rw [World.size_alloc]; rfl
    have : k = 0 ∨ k = 1 ∨ k = 2 := by omega
    rcases this with rfl | rfl | rfl
    · refine ⟨?_, Cq.none _ _, fun _ => ⟨rfl, rfl⟩, by show ([] : List Cl).length ≤ 1000; simp⟩
      show _ = some (Value.slice none ([] : List Cl).length 0)
      
      exact new_cell _ _ _ _ 0 _ hsz.symm rfl
    · refine ⟨?_, ?_, fun e => (by cases e), by show [x].length ≤ 1000; simp⟩
      · exact new_cell _ _ _ _ 1 _ hsz.symm rfl
      · refine ⟨fun _ => ⟨w4.heap.size, 0, rfl, by rw [World.size_alloc, hsz]; omega, fun j hj t ht u hu => ?_⟩⟩
        have hj0 : j = 0 := by simpa [p3] using hj
        subst hj0
        obtain ⟨f0, f1, f2, f3, f4⟩ := boxC_at w4.drew x 29 (g := w4.heap.size) rfl _ ((Kept.refl _).alloc (.cells #[.slice none 0 0, .slice (some ⟨w4.heap.size, 0, none⟩) 1 1, .slice none 0 0] 35))
        have ht5 : t = 0 ∨ t = 1 ∨ t = 2 ∨ t = 3 ∨ t = 4 := by omega
        have hu' : (clF x)[t]? = some u := hu
        rcases ht5 with rfl | rfl | rfl | rfl | rfl <;> (simp [clF] at hu'; subst hu'; assumption)
    · refine ⟨?_, Cq.none _ _, fun _ => ⟨rfl, rfl⟩, by show ([] : List Cl).length ≤ 1000; first | (simp; done) | (simp; omega)⟩
      show _ = some (Value.slice none ([] : List Cl).length 0)
      
      exact new_cell _ _ _ _ 2 _ hsz.symm rfl))
  go_upto_region 10 with fail
  refine wp_region_held_drew (S := (fun w' => Chg (fun j => j = rb) W1 w')) (by kernel_rfl) ?_ (fun hHeld => ?_)
  · exact (Chg.of_kept HK4.out).drew
  refine wpAnyH_take (i := 0) (oi := { dst := some 37, op := _, type := _, pos := _, after := _, guard := _ }) (v := ?_) rfl (by kernel_rfl) (by kernel_rfl) (by kernel_rfl) (fun _ _ _ h => h) (Or.inl ⟨by rfl, ?_⟩) (by assumption) ?_
  rotate_left
  · (intro w9 hSw; clear hSw; go_simp; (try with_reducible rfl))
  (try simp only [Act.put, List.setIfInBounds_toArray, List.set_cons_zero, List.set_cons_succ])
  refine wpAnyH_take (i := 1) (oi := { dst := some 38, op := _, type := _, pos := _, after := _, guard := _ }) (v := ?_) rfl (by kernel_rfl) (by kernel_rfl) (by kernel_rfl) (fun _ _ _ h => h) (Or.inl ⟨by rfl, ?_⟩) (by assumption) ?_
  rotate_left
  · (intro w9 hSw; obtain ⟨y0, y1, y2, y3, y4, y5, y6⟩ := HBX.out w9 hSw; clear hSw; go_simp; (try with_reducible rfl))
  (try simp only [Act.put, List.setIfInBounds_toArray, List.set_cons_zero, List.set_cons_succ])
  refine wpAnyH_take (i := 2) (oi := { dst := some 39, op := _, type := _, pos := _, after := _, guard := _ }) (v := ?_) rfl (by kernel_rfl) (by kernel_rfl) (by kernel_rfl) (fun _ _ _ h => h) (Or.inl ⟨by rfl, ?_⟩) (by assumption) ?_
  rotate_left
  · (intro w9 hSw; clear hSw; go_simp; (try with_reducible rfl))
  (try simp only [Act.put, List.setIfInBounds_toArray, List.set_cons_zero, List.set_cons_succ])
  refine wpAnyH_take (i := 3) (oi := { dst := some 40, op := _, type := _, pos := _, after := _, guard := _ }) (v := ?_) rfl (by kernel_rfl) (by kernel_rfl) (by kernel_rfl) (fun _ _ _ h => h) (Or.inl ⟨by rfl, ?_⟩) (by assumption) ?_
  rotate_left
  · (intro w9 hSw; clear hSw; go_simp; (try with_reducible rfl))
  (try simp only [Act.put, List.setIfInBounds_toArray, List.set_cons_zero, List.set_cons_succ])
  refine wpAnyH_take (i := 4) (oi := { dst := some 41, op := _, type := _, pos := _, after := _, guard := _ }) (v := ?_) rfl (by kernel_rfl) (by kernel_rfl) (by kernel_rfl) (fun _ _ _ h => h) (Or.inl ⟨by rfl, ?_⟩) (by assumption) ?_
  rotate_left
  · (intro w9 hSw; obtain ⟨y0, y1, y2, y3, y4, y5, y6⟩ := HBX.out w9 hSw; clear hSw; go_simp; (try with_reducible rfl))
  (try simp only [Act.put, List.setIfInBounds_toArray, List.set_cons_zero, List.set_cons_succ])
  refine wpAnyH_take (i := 6) (oi := { dst := some 43, op := _, type := _, pos := _, after := _, guard := _ }) (v := ?_) rfl (by kernel_rfl) (by kernel_rfl) (by kernel_rfl) (fun _ _ _ h => h) (Or.inl ⟨by rfl, ?_⟩) (by assumption) ?_
  rotate_left
  · (intro w9 hSw; clear hSw; go_simp; (try with_reducible rfl))
  (try simp only [Act.put, List.setIfInBounds_toArray, List.set_cons_zero, List.set_cons_succ])
  refine wpAnyH_take (i := 7) (oi := { dst := some 44, op := _, type := _, pos := _, after := _, guard := _ }) (v := ?_) rfl (by kernel_rfl) (by kernel_rfl) (by kernel_rfl) (fun _ _ _ h => h) (Or.inl ⟨by rfl, ?_⟩) (by assumption) ?_
  rotate_left
  · (intro w9 hSw; obtain ⟨y0, y1, y2, y3, y4, y5, y6⟩ := HBX.out w9 hSw; clear hSw; go_simp; (try with_reducible rfl))
  (try simp only [Act.put, List.setIfInBounds_toArray, List.set_cons_zero, List.set_cons_succ])
  refine wpAnyH_take (i := 8) (oi := { dst := some 45, op := _, type := _, pos := _, after := _, guard := _ }) (v := ?_) rfl (by kernel_rfl) (by kernel_rfl) (by kernel_rfl) (fun _ _ _ h => h) (Or.inl ⟨by rfl, ?_⟩) (by assumption) ?_
  rotate_left
  · (intro w9 hSw; clear hSw; go_simp; (try with_reducible rfl))
  (try simp only [Act.put, List.setIfInBounds_toArray, List.set_cons_zero, List.set_cons_succ])
  refine wpAnyH_take (i := 9) (oi := { dst := some 46, op := _, type := _, pos := _, after := _, guard := _ }) (v := ?_) rfl (by kernel_rfl) (by kernel_rfl) (by kernel_rfl) (fun _ _ _ h => h) (Or.inl ⟨by rfl, ?_⟩) (by assumption) ?_
  rotate_left
  · (intro w9 hSw; clear hSw; go_simp; (try with_reducible rfl))
  (try simp only [Act.put, List.setIfInBounds_toArray, List.set_cons_zero, List.set_cons_succ])
  refine wpAnyH_ready (rs := [5]) (by kernel_rfl) (by simp) ?_
  refine AllReadyH.cons (o := { dst := some 42, op := _, type := _, pos := _, after := _, guard := _ }) rfl (fun K hK => ?_) AllReadyH.nil
  go_simp
  refine hK.out _ _ ?_ (fun hHeld => ?_)
  · (first | exact HAA.out | exact Chg.alloc hHeld _ | exact Chg.setCell (S := fun j => j = rb) HAA.out (p := ⟨rb, 0, none⟩) (.inl rfl) _)
  clear hK K
  (try simp only [Act.put, List.setIfInBounds_toArray, List.set_cons_zero, List.set_cons_succ])
  refine wpAnyH_ready (rs := [10]) (by kernel_rfl) (by simp) ?_
  refine AllReadyH.cons (o := { dst := some 47, op := _, type := _, pos := _, after := _, guard := _ }) rfl (fun K hK => ?_) AllReadyH.nil
  go_simp
  refine hK.out _ _ ?_ (fun hHeld => ?_)
  · (first | exact HAA.out | exact Chg.alloc hHeld _ | exact Chg.setCell (S := fun j => j = rb) HAA.out (p := ⟨rb, 0, none⟩) (.inl rfl) _)
  clear hK K
  (try simp only [Act.put, List.setIfInBounds_toArray, List.set_cons_zero, List.set_cons_succ])
  refine wpAnyH_ready (rs := [11]) (by kernel_rfl) (by simp) ?_
  refine AllReadyH.cons (o := { dst := some 48, op := _, type := _, pos := _, after := _, guard := _ }) rfl (fun K hK => ?_) AllReadyH.nil
  go_simp
  refine HCO.out.mono ?_
  rintro e wA ⟨v, rfl, ho, kA⟩
  obtain ⟨va, nv, vc, hv⟩ : ∃ va nv vc, v = Value.slice va nv vc := by obtain ⟨va, vc, hv, _, _⟩ := OwnQ.form ho; exact ⟨va, _, vc, hv⟩
  subst hv
  have HOW := hidMk ho
  have HAA := hidMk (show Chg (fun j => j = rb) W1 wA from hHeld.trans (Chg.of_kept kA))
  have HKA := hidMk (show Kept W1 wA from (((HK4.out.drew).alloc _).alloc _).trans kA)
  clear ho kA
  (try go_wp2_with fail)
  refine hK.out _ _ ?_ (fun hHeld => ?_)
  · (first | exact HAA.out | exact Chg.alloc hHeld _ | exact Chg.setCell (S := fun j => j = rb) HAA.out (p := ⟨rb, 0, none⟩) (.inl rfl) _)
  clear hK K
  (try simp only [Act.put, List.setIfInBounds_toArray, List.set_cons_zero, List.set_cons_succ])
  refine wpAnyH_take (i := 12) (oi := { dst := some 49, op := _, type := _, pos := _, after := _, guard := _ }) (v := ?_) rfl (by kernel_rfl) (by kernel_rfl) (by kernel_rfl) (fun _ _ _ h => h) (Or.inl ⟨by rfl, ?_⟩) (by assumption) ?_
  rotate_left
  · (intro w9 hSw; clear hSw; go_simp; (try with_reducible rfl))
  (try simp only [Act.put, List.setIfInBounds_toArray, List.set_cons_zero, List.set_cons_succ])
  refine wpAnyH_ready (rs := [13]) (by kernel_rfl) (by simp) ?_
  refine AllReadyH.cons (o := { dst := none, op := _, type := _, pos := _, after := _, guard := _ }) rfl (fun K hK => ?_) AllReadyH.nil
  have rc := HKA.out.cellp HRB.out.1
  have rf := (HKA.out.frozen (p := ⟨rb, 0, none⟩) HRN.out.2).trans HRB.out.2
  go_simp
  clear rc rf
  refine hK.out _ _ ?_ (fun hHeld => ?_)
  · (first | exact HAA.out | exact Chg.alloc hHeld _ | exact Chg.setCell (S := fun j => j = rb) HAA.out (p := ⟨rb, 0, none⟩) (.inl rfl) _)
  clear hK K
  (try simp only [Act.put, List.setIfInBounds_toArray, List.set_cons_zero, List.set_cons_succ])
  refine wpAnyH_take (i := 14) (oi := { dst := some 7, op := _, type := _, pos := _, after := _, guard := _ }) (v := ?_) rfl (by kernel_rfl) (by kernel_rfl) (by kernel_rfl) (fun _ _ _ h => h) (Or.inl ⟨by rfl, ?_⟩) (by assumption) ?_
  rotate_left
  · (intro w9 hSw; clear hSw; go_simp; (try with_reducible rfl))
  (try simp only [Act.put, List.setIfInBounds_toArray, List.set_cons_zero, List.set_cons_succ])
  refine wpAnyH_done (by kernel_rfl) ?_ _
  have HCF := hidMk hHeld
  clear hHeld
  go_wp2_with fail
  refine bodyPost_ret (v := .tuple #[.agg #[.slice va nv vc], .int .i64 0]) ?_ rfl ⟨.slice va nv vc, _, rfl, ⟨0, Nat.le_refl _, fun k hk => absurd hk (by omega), fun k _ hk => absurd hk (by simp), rfl⟩, ?_, ?_⟩
  · simp only [results, show Tryz.f12.results = #[.cell 6 37, .tmp 7] from rfl]
    have rc : (wA.setCell ⟨rb, 0, none⟩ (.slice va nv vc)).cell? ⟨rb, 0, none⟩ = some (.slice va nv vc) := World.cell?_setCell_same _ _ _ (HKA.out.cellp HRB.out.1)
    have rl := hold_load rc
    go_simp
  · have hown : ∀ g, (Value.slice va nv vc).ownBlock = some g → ¬ g = rb := fun g hg e => by
      have h1 := (World.ownsRow.lt HOW.out g hg).1
      have h2 := HRN.out.2
      have h3 := HK4.out.size
      rw [World.size_alloc, World.size_alloc] at h1
      have h4 : w4.drew.heap.size = w4.heap.size := rfl
      omega
    have h9 := ownsRow_base (ownsRow_chg HOW.out (S := fun j => j = rb) ((Chg.refl (fun j => j = rb) wA).setCell (p := ⟨rb, 0, none⟩) (.inl rfl) (.slice va nv vc)) hown) (show w.heap.size ≤ _ from Nat.le_trans HK1.out.size (Nat.le_trans HK4.out.size (((((Kept.refl w4).drew).alloc _).alloc _).size)))
    have hcat : catN (p3 ([] : List Cl) [x] ([] : List Cl)) 3 = [x] := by simp [catN, List.range_succ, p3]
    rw [hcat] at h9
    exact h9
  · exact Chg.kept HK1.out HCF.out (fun j e => by have := HRN.out.1; omega)
end
end Go.Proofs.YtmedgkccicbieaaGreat
namespace Go.Proofs.YtmedgkccicbieaaGreat
open Go.RowKit Go.Maps
set_option linter.unusedSimpArgs false
set_option linter.unusedVariables false

/-- Nothing is told, but why. -/
def HdNo (w : World) (why : Int) (e : Ending) (w' : World) : Prop := e = .returned (.tuple #[hdV none 0 0, .int .i64 why]) ∧ Kept w w'
section
variable {w : World} {s p : Nat} {ds : List Dm} {ms : List ByteArray} {tp : Nat → Nat} {rv : Nat → Option Addr × Nat}
set_option maxHeartbeats 8000000 in
set_option maxRecDepth 100000 in
theorem hold_Add_range (h : SW w s p ds ms tp rv) (a : Option Addr) (c : Nat) (l : List Cl) (x : Cl) (hq : Cq w a l) (h16 : l.length ≤ 100000) (hx : ixC ms ds x < 0) :
    Calls Tryz.prog 12 #[hdV a l.length c, .pointer (some ⟨s, 0, none⟩), clV x] w (HdNo w 17) := by
  obtain ⟨hb, hhb⟩ : ∃ z, z = w.heap.size := ⟨_, rfl⟩
  obtain ⟨sb, hsb⟩ : ∃ z, z = w.heap.size + 1 := ⟨_, rfl⟩
  obtain ⟨cb, hcb⟩ : ∃ z, z = w.heap.size + 1 + 1 := ⟨_, rfl⟩
  obtain ⟨rb, hrb⟩ : ∃ z, z = w.heap.size + 1 + 1 + 1 := ⟨_, rfl⟩
  obtain ⟨WA, hWA⟩ : ∃ V, V = w.alloc (.cells #[.slice a l.length c] 37) := ⟨_, rfl⟩
  obtain ⟨WB, hWB⟩ : ∃ V, V = WA.alloc (.cells #[.pointer (some ⟨s, 0, none⟩)] 30) := ⟨_, rfl⟩
  obtain ⟨WC, hWC⟩ : ∃ V, V = WB.alloc (.cells #[.int .i64 x.1, .int .i64 x.2.1, .int .i64 x.2.2.1, .int .i64 x.2.2.2.1, .int .i64 x.2.2.2.2] 29) := ⟨_, rfl⟩
  obtain ⟨W1, hW1⟩ : ∃ V, V = WC.alloc (.cells #[.slice none 0 0] 37) := ⟨_, rfl⟩
  have kA : Kept w WA := by rw [hWA]; exact (Kept.refl _).alloc _
  have kB : Kept WA WB := by rw [hWB]; exact (Kept.refl _).alloc _
  have kC : Kept WB WC := by rw [hWC]; exact (Kept.refl _).alloc _
  have kD : Kept WC W1 := by rw [hW1]; exact (Kept.refl _).alloc _
  have zA : WA.heap.size = w.heap.size + 1 := by rw [hWA, World.size_alloc]
  have zB : WB.heap.size = w.heap.size + 1 + 1 := by rw [hWB, World.size_alloc, zA]
  have zC : WC.heap.size = w.heap.size + 1 + 1 + 1 := by rw [hWC, World.size_alloc, zB]
  have k1 := kA.trans (kB.trans (kC.trans kD))
  have HK1 := hidMk k1
  have HBX := hidMk (show ∀ Y, Chg (fun j => j = rb) W1 Y → Y.cell? ⟨hb, 0, none⟩ = some (.slice a l.length c) ∧ Y.cell? ⟨sb, 0, none⟩ = some (.pointer (some ⟨s, 0, none⟩)) ∧ Y.cell? ⟨cb, 0, none⟩ = some (.int .i64 x.1) ∧ Y.cell? ⟨cb, 1, none⟩ = some (.int .i64 x.2.1) ∧ Y.cell? ⟨cb, 2, none⟩ = some (.int .i64 x.2.2.1) ∧ Y.cell? ⟨cb, 3, none⟩ = some (.int .i64 x.2.2.2.1) ∧ Y.cell? ⟨cb, 4, none⟩ = some (.int .i64 x.2.2.2.2) from fun Y k => by
    have e1 : WA.cell? ⟨hb, 0, none⟩ = some (.slice a l.length c) := by rw [hWA]; exact new_cell _ _ _ _ 0 _ hhb rfl
    have e2 : WB.cell? ⟨sb, 0, none⟩ = some (.pointer (some ⟨s, 0, none⟩)) := by rw [hWB]; exact new_cell _ _ _ _ 0 _ (hsb.trans zA.symm) rfl
    obtain ⟨f0, f1, f2, f3, f4⟩ := boxC_at WB x 29 (hcb.trans zB.symm) WC (by rw [← hWC]; exact Kept.refl _)
    have n1 : hb ≠ rb := by omega
    have n2 : sb ≠ rb := by omega
    have n3 : cb ≠ rb := by omega
    exact ⟨k.cellp ((kB.trans (kC.trans kD)).cellp e1) n1, k.cellp ((kC.trans kD).cellp e2) n2, k.cellp (kD.cellp f0) n3, k.cellp (kD.cellp f1) n3, k.cellp (kD.cellp f2) n3, k.cellp (kD.cellp f3) n3, k.cellp (kD.cellp f4) n3⟩)
  have HRB := hidMk (show W1.cell? ⟨rb, 0, none⟩ = some (.slice none 0 0) ∧ W1.frozen? ⟨rb, 0, none⟩ = false from by
    rw [hW1]; exact ⟨new_cell _ _ _ _ 0 _ (hrb.trans zC.symm) rfl, new_frozen _ _ _ (hrb.trans zC.symm) 0⟩)
  have HAS := hidMk (sw_ask (h.keep k1) x)
  simp only [if_pos hx] at HAS
  have HRN := hidMk (show w.heap.size ≤ rb ∧ rb < W1.heap.size from ⟨by omega, cell_lt (p := ⟨rb, 0, none⟩) HRB.out.1⟩)
  rw [hWC, hWB, hWA] at hW1
  unfold clV hdV at *
  clear h hq hx h16 k1 kA kB kC kD zA zB zC hWA hWB hWC
  obtain ⟨y0, y1, y2, y3, y4, y5, y6⟩ := HBX.out W1 (Chg.refl _ _)
  rw [hW1, hhb] at y0
  rw [hW1, hsb] at y1
  rw [hW1, hcb] at y2 y3 y4 y5 y6
  go_enter Tryz.func12, Tryz.ntmps12
  go_wp2_with fail
  rw [← hW1, ← hrb, ← hcb, ← hsb, ← hhb]
  clear hW1 hrb hcb hsb hhb y0 y1 y2 y3 y4 y5 y6
  refine HAS.out.mono ?_
  rintro e w2 ⟨rfl, k2⟩
  have HKZ := hidMk k2
  clear k2 HAS
  have rc := HKZ.out.cellp HRB.out.1
  have rf := (HKZ.out.frozen (p := ⟨rb, 0, none⟩) HRN.out.2).trans HRB.out.2
  go_wp2_with fail
  refine bodyPost_ret (v := .tuple #[.agg #[.slice none 0 0], .int .i64 17]) ?_ rfl ⟨rfl, ?_⟩
  · simp only [results, show Tryz.f12.results = #[.cell 6 37, .tmp 7] from rfl]
    have rc2 : (w2.setCell ⟨rb, 0, none⟩ (.slice none 0 0)).cell? ⟨rb, 0, none⟩ = some (.slice none 0 0) := World.cell?_setCell_same _ _ _ (HKZ.out.cellp HRB.out.1)
    have rl := hold_load rc2
    go_simp
  · exact Chg.kept HK1.out ((Chg.of_kept HKZ.out).setCell (S := fun j => j = rb) (p := ⟨rb, 0, none⟩) (.inl rfl) _) (fun j e => by have := HRN.out.1; omega)
set_option maxHeartbeats 8000000 in
set_option maxRecDepth 100000 in
theorem hold_Add_twice (h : SW w s p ds ms tp rv) (a : Option Addr) (c : Nat) (l : List Cl) (x : Cl) (hq : Cq w a l) (h16 : l.length ≤ 100000) (hx : ¬ ixC ms ds x < 0) (hn : x ∈ l) :
    Calls Tryz.prog 12 #[hdV a l.length c, .pointer (some ⟨s, 0, none⟩), clV x] w (HdNo w 4) := by
  obtain ⟨hb, hhb⟩ : ∃ z, z = w.heap.size := ⟨_, rfl⟩
  obtain ⟨sb, hsb⟩ : ∃ z, z = w.heap.size + 1 := ⟨_, rfl⟩
  obtain ⟨cb, hcb⟩ : ∃ z, z = w.heap.size + 1 + 1 := ⟨_, rfl⟩
  obtain ⟨rb, hrb⟩ : ∃ z, z = w.heap.size + 1 + 1 + 1 := ⟨_, rfl⟩
  obtain ⟨WA, hWA⟩ : ∃ V, V = w.alloc (.cells #[.slice a l.length c] 37) := ⟨_, rfl⟩
  obtain ⟨WB, hWB⟩ : ∃ V, V = WA.alloc (.cells #[.pointer (some ⟨s, 0, none⟩)] 30) := ⟨_, rfl⟩
  obtain ⟨WC, hWC⟩ : ∃ V, V = WB.alloc (.cells #[.int .i64 x.1, .int .i64 x.2.1, .int .i64 x.2.2.1, .int .i64 x.2.2.2.1, .int .i64 x.2.2.2.2] 29) := ⟨_, rfl⟩
  obtain ⟨W1, hW1⟩ : ∃ V, V = WC.alloc (.cells #[.slice none 0 0] 37) := ⟨_, rfl⟩
  have kA : Kept w WA := by rw [hWA]; exact (Kept.refl _).alloc _
  have kB : Kept WA WB := by rw [hWB]; exact (Kept.refl _).alloc _
  have kC : Kept WB WC := by rw [hWC]; exact (Kept.refl _).alloc _
  have kD : Kept WC W1 := by rw [hW1]; exact (Kept.refl _).alloc _
  have zA : WA.heap.size = w.heap.size + 1 := by rw [hWA, World.size_alloc]
  have zB : WB.heap.size = w.heap.size + 1 + 1 := by rw [hWB, World.size_alloc, zA]
  have zC : WC.heap.size = w.heap.size + 1 + 1 + 1 := by rw [hWC, World.size_alloc, zB]
  have k1 := kA.trans (kB.trans (kC.trans kD))
  have HK1 := hidMk k1
  have HBX := hidMk (show ∀ Y, Chg (fun j => j = rb) W1 Y → Y.cell? ⟨hb, 0, none⟩ = some (.slice a l.length c) ∧ Y.cell? ⟨sb, 0, none⟩ = some (.pointer (some ⟨s, 0, none⟩)) ∧ Y.cell? ⟨cb, 0, none⟩ = some (.int .i64 x.1) ∧ Y.cell? ⟨cb, 1, none⟩ = some (.int .i64 x.2.1) ∧ Y.cell? ⟨cb, 2, none⟩ = some (.int .i64 x.2.2.1) ∧ Y.cell? ⟨cb, 3, none⟩ = some (.int .i64 x.2.2.2.1) ∧ Y.cell? ⟨cb, 4, none⟩ = some (.int .i64 x.2.2.2.2) from fun Y k => by
    have e1 : WA.cell? ⟨hb, 0, none⟩ = some (.slice a l.length c) := by rw [hWA]; exact new_cell _ _ _ _ 0 _ hhb rfl
    have e2 : WB.cell? ⟨sb, 0, none⟩ = some (.pointer (some ⟨s, 0, none⟩)) := by rw [hWB]; exact new_cell _ _ _ _ 0 _ (hsb.trans zA.symm) rfl
    obtain ⟨f0, f1, f2, f3, f4⟩ := boxC_at WB x 29 (hcb.trans zB.symm) WC (by rw [← hWC]; exact Kept.refl _)
    have n1 : hb ≠ rb := by omega
    have n2 : sb ≠ rb := by omega
    have n3 : cb ≠ rb := by omega
    exact ⟨k.cellp ((kB.trans (kC.trans kD)).cellp e1) n1, k.cellp ((kC.trans kD).cellp e2) n2, k.cellp (kD.cellp f0) n3, k.cellp (kD.cellp f1) n3, k.cellp (kD.cellp f2) n3, k.cellp (kD.cellp f3) n3, k.cellp (kD.cellp f4) n3⟩)
  have HRB := hidMk (show W1.cell? ⟨rb, 0, none⟩ = some (.slice none 0 0) ∧ W1.frozen? ⟨rb, 0, none⟩ = false from by
    rw [hW1]; exact ⟨new_cell _ _ _ _ 0 _ (hrb.trans zC.symm) rfl, new_frozen _ _ _ (hrb.trans zC.symm) 0⟩)
  have HAS := hidMk (sw_ask (h.keep k1) x)
  simp only [if_neg hx] at HAS
  have HHA := hidMk (show ∀ Y, Kept W1 Y → _ from fun Y k => hold_Has a c l x Y (hq.kept (k1.trans k)) h16)
  simp only [hn, decide_true] at HHA
  have HRN := hidMk (show w.heap.size ≤ rb ∧ rb < W1.heap.size from ⟨by omega, cell_lt (p := ⟨rb, 0, none⟩) HRB.out.1⟩)
  rw [hWC, hWB, hWA] at hW1
  unfold clV hdV at *
  clear h hq hx hn h16 k1 kA kB kC kD zA zB zC hWA hWB hWC
  obtain ⟨y0, y1, y2, y3, y4, y5, y6⟩ := HBX.out W1 (Chg.refl _ _)
  rw [hW1, hhb] at y0
  rw [hW1, hsb] at y1
  rw [hW1, hcb] at y2 y3 y4 y5 y6
  go_enter Tryz.func12, Tryz.ntmps12
  go_wp2_with fail
  rw [← hW1, ← hrb, ← hcb, ← hsb, ← hhb]
  clear hW1 hrb hcb hsb hhb y0 y1 y2 y3 y4 y5 y6
  refine HAS.out.mono ?_
  rintro e w2 ⟨rfl, k2⟩
  have HKZ := hidMk k2
  clear k2 HAS
  obtain ⟨y0, y1, y2, y3, y4, y5, y6⟩ := HBX.out w2 (Chg.of_kept HKZ.out)
  go_wp2_with fail
  refine (HHA.out _ HKZ.out).mono ?_
  rintro e w3 ⟨rfl, k3⟩
  have HK3 := hidMk (HKZ.out.trans k3)
  clear k3 HHA HKZ y0 y1 y2 y3 y4 y5 y6
  have HKZ := hidMk HK3.out
  clear HK3
  have rc := HKZ.out.cellp HRB.out.1
  have rf := (HKZ.out.frozen (p := ⟨rb, 0, none⟩) HRN.out.2).trans HRB.out.2
  go_wp2_with fail
  refine bodyPost_ret (v := .tuple #[.agg #[.slice none 0 0], .int .i64 4]) ?_ rfl ⟨rfl, ?_⟩
  · simp only [results, show Tryz.f12.results = #[.cell 6 37, .tmp 7] from rfl]
    have rc2 : (w3.setCell ⟨rb, 0, none⟩ (.slice none 0 0)).cell? ⟨rb, 0, none⟩ = some (.slice none 0 0) := World.cell?_setCell_same _ _ _ (HKZ.out.cellp HRB.out.1)
    have rl := hold_load rc2
    go_simp
  · exact Chg.kept HK1.out ((Chg.of_kept HKZ.out).setCell (S := fun j => j = rb) (p := ⟨rb, 0, none⟩) (.inl rfl) _) (fun j e => by have := HRN.out.1; omega)
set_option maxHeartbeats 8000000 in
set_option maxRecDepth 100000 in
theorem hold_Add_full (h : SW w s p ds ms tp rv) (a : Option Addr) (c : Nat) (l : List Cl) (x : Cl) (hq : Cq w a l) (h16 : l.length ≤ 100000) (hx : ¬ ixC ms ds x < 0) (hn : ¬ x ∈ l) (hl : 16 ≤ l.length) :
    Calls Tryz.prog 12 #[hdV a l.length c, .pointer (some ⟨s, 0, none⟩), clV x] w (HdNo w 14) := by
  obtain ⟨hb, hhb⟩ : ∃ z, z = w.heap.size := ⟨_, rfl⟩
  obtain ⟨sb, hsb⟩ : ∃ z, z = w.heap.size + 1 := ⟨_, rfl⟩
  obtain ⟨cb, hcb⟩ : ∃ z, z = w.heap.size + 1 + 1 := ⟨_, rfl⟩
  obtain ⟨rb, hrb⟩ : ∃ z, z = w.heap.size + 1 + 1 + 1 := ⟨_, rfl⟩
  obtain ⟨WA, hWA⟩ : ∃ V, V = w.alloc (.cells #[.slice a l.length c] 37) := ⟨_, rfl⟩
  obtain ⟨WB, hWB⟩ : ∃ V, V = WA.alloc (.cells #[.pointer (some ⟨s, 0, none⟩)] 30) := ⟨_, rfl⟩
  obtain ⟨WC, hWC⟩ : ∃ V, V = WB.alloc (.cells #[.int .i64 x.1, .int .i64 x.2.1, .int .i64 x.2.2.1, .int .i64 x.2.2.2.1, .int .i64 x.2.2.2.2] 29) := ⟨_, rfl⟩
  obtain ⟨W1, hW1⟩ : ∃ V, V = WC.alloc (.cells #[.slice none 0 0] 37) := ⟨_, rfl⟩
  have kA : Kept w WA := by rw [hWA]; exact (Kept.refl _).alloc _
  have kB : Kept WA WB := by rw [hWB]; exact (Kept.refl _).alloc _
  have kC : Kept WB WC := by rw [hWC]; exact (Kept.refl _).alloc _
  have kD : Kept WC W1 := by rw [hW1]; exact (Kept.refl _).alloc _
  have zA : WA.heap.size = w.heap.size + 1 := by rw [hWA, World.size_alloc]
  have zB : WB.heap.size = w.heap.size + 1 + 1 := by rw [hWB, World.size_alloc, zA]
  have zC : WC.heap.size = w.heap.size + 1 + 1 + 1 := by rw [hWC, World.size_alloc, zB]
  have k1 := kA.trans (kB.trans (kC.trans kD))
  have HK1 := hidMk k1
  have HBX := hidMk (show ∀ Y, Chg (fun j => j = rb) W1 Y → Y.cell? ⟨hb, 0, none⟩ = some (.slice a l.length c) ∧ Y.cell? ⟨sb, 0, none⟩ = some (.pointer (some ⟨s, 0, none⟩)) ∧ Y.cell? ⟨cb, 0, none⟩ = some (.int .i64 x.1) ∧ Y.cell? ⟨cb, 1, none⟩ = some (.int .i64 x.2.1) ∧ Y.cell? ⟨cb, 2, none⟩ = some (.int .i64 x.2.2.1) ∧ Y.cell? ⟨cb, 3, none⟩ = some (.int .i64 x.2.2.2.1) ∧ Y.cell? ⟨cb, 4, none⟩ = some (.int .i64 x.2.2.2.2) from fun Y k => by
    have e1 : WA.cell? ⟨hb, 0, none⟩ = some (.slice a l.length c) := by rw [hWA]; exact new_cell _ _ _ _ 0 _ hhb rfl
    have e2 : WB.cell? ⟨sb, 0, none⟩ = some (.pointer (some ⟨s, 0, none⟩)) := by rw [hWB]; exact new_cell _ _ _ _ 0 _ (hsb.trans zA.symm) rfl
    obtain ⟨f0, f1, f2, f3, f4⟩ := boxC_at WB x 29 (hcb.trans zB.symm) WC (by rw [← hWC]; exact Kept.refl _)
    have n1 : hb ≠ rb := by omega
    have n2 : sb ≠ rb := by omega
    have n3 : cb ≠ rb := by omega
    exact ⟨k.cellp ((kB.trans (kC.trans kD)).cellp e1) n1, k.cellp ((kC.trans kD).cellp e2) n2, k.cellp (kD.cellp f0) n3, k.cellp (kD.cellp f1) n3, k.cellp (kD.cellp f2) n3, k.cellp (kD.cellp f3) n3, k.cellp (kD.cellp f4) n3⟩)
  have HRB := hidMk (show W1.cell? ⟨rb, 0, none⟩ = some (.slice none 0 0) ∧ W1.frozen? ⟨rb, 0, none⟩ = false from by
    rw [hW1]; exact ⟨new_cell _ _ _ _ 0 _ (hrb.trans zC.symm) rfl, new_frozen _ _ _ (hrb.trans zC.symm) 0⟩)
  have HAS := hidMk (sw_ask (h.keep k1) x)
  simp only [if_neg hx] at HAS
  have HHA := hidMk (show ∀ Y, Kept W1 Y → _ from fun Y k => hold_Has a c l x Y (hq.kept (k1.trans k)) h16)
  simp only [hn, decide_false] at HHA
  have HRN := hidMk (show w.heap.size ≤ rb ∧ rb < W1.heap.size from ⟨by omega, cell_lt (p := ⟨rb, 0, none⟩) HRB.out.1⟩)
  rw [hWC, hWB, hWA] at hW1
  unfold clV hdV at *
  have hl' : (16 : Int) ≤ (l.length : Int) := by omega
  clear h hq hx hn h16 k1 kA kB kC kD zA zB zC hWA hWB hWC
  obtain ⟨y0, y1, y2, y3, y4, y5, y6⟩ := HBX.out W1 (Chg.refl _ _)
  rw [hW1, hhb] at y0
  rw [hW1, hsb] at y1
  rw [hW1, hcb] at y2 y3 y4 y5 y6
  go_enter Tryz.func12, Tryz.ntmps12
  go_wp2_with fail
  rw [← hW1, ← hrb, ← hcb, ← hsb, ← hhb]
  clear hW1 hrb hcb hsb hhb y0 y1 y2 y3 y4 y5 y6
  refine HAS.out.mono ?_
  rintro e w2 ⟨rfl, k2⟩
  have HKZ := hidMk k2
  clear k2 HAS
  obtain ⟨y0, y1, y2, y3, y4, y5, y6⟩ := HBX.out w2 (Chg.of_kept HKZ.out)
  go_wp2_with fail
  refine (HHA.out _ HKZ.out).mono ?_
  rintro e w3 ⟨rfl, k3⟩
  have HK3 := hidMk (HKZ.out.trans k3)
  clear k3 HHA HKZ y0 y1 y2 y3 y4 y5 y6
  have HKZ := hidMk HK3.out
  clear HK3
  have rc := HKZ.out.cellp HRB.out.1
  have rf := (HKZ.out.frozen (p := ⟨rb, 0, none⟩) HRN.out.2).trans HRB.out.2
  obtain ⟨y0, y1, y2, y3, y4, y5, y6⟩ := HBX.out w3 (Chg.of_kept HKZ.out)
  go_wp2_with fail
  refine bodyPost_ret (v := .tuple #[.agg #[.slice none 0 0], .int .i64 14]) ?_ rfl ⟨rfl, ?_⟩
  · simp only [results, show Tryz.f12.results = #[.cell 6 37, .tmp 7] from rfl]
    have rc2 : (w3.setCell ⟨rb, 0, none⟩ (.slice none 0 0)).cell? ⟨rb, 0, none⟩ = some (.slice none 0 0) := World.cell?_setCell_same _ _ _ (HKZ.out.cellp HRB.out.1)
    have rl := hold_load rc2
    go_simp
  · exact Chg.kept HK1.out ((Chg.of_kept HKZ.out).setCell (S := fun j => j = rb) (p := ⟨rb, 0, none⟩) (.inl rfl) _) (fun j e => by have := HRN.out.1; omega)
end
end Go.Proofs.YtmedgkccicbieaaGreat
namespace Go.Proofs.YtmedgkccicbieaaGreat
open Go.RowKit Go.Maps
set_option linter.unusedSimpArgs false
set_option linter.unusedVariables false

theorem idxC_get {l : List Cl} {x : Cl} (h : x ∈ l) : ∃ i : Nat, idxC l x = i ∧ i < l.length ∧ clA l i = x := by
  have hlt : (l.findIdx fun y => decide (y = x)) < l.length := List.findIdx_lt_length.2 ⟨x, h, by simp⟩
  refine ⟨l.findIdx fun y => decide (y = x), by unfold idxC; rw [if_pos h], hlt, ?_⟩
  rw [clA_get hlt]
  have := List.findIdx_getElem (w := hlt)
  simpa using this
/-- What Drop tells where the cell is held. -/
def HdDrop (w : World) (l : List Cl) (x : Cl) (e : Ending) (w' : World) : Prop := ∃ (v : Value) (i : Nat), e = .returned (.tuple #[.agg #[v], .int .i64 0]) ∧ idxC l x = i ∧ i < l.length ∧ clA l i = x ∧ OwnQ w' w.heap.size v (l.take i ++ l.drop (i + 1)) ∧ Kept w w'
section
variable {w : World} {s p : Nat} {ds : List Dm} {ms : List ByteArray} {tp : Nat → Nat} {rv : Nat → Option Addr × Nat}
set_option maxHeartbeats 8000000 in
set_option maxRecDepth 100000 in
theorem hold_Drop_range (h : SW w s p ds ms tp rv) (a : Option Addr) (c : Nat) (l : List Cl) (x : Cl) (hq : Cq w a l) (h16 : l.length ≤ 100000) (hx : ixC ms ds x < 0) :
    Calls Tryz.prog 10 #[hdV a l.length c, .pointer (some ⟨s, 0, none⟩), clV x] w (HdNo w 17) := by
  obtain ⟨hb, hhb⟩ : ∃ z, z = w.heap.size := ⟨_, rfl⟩
  obtain ⟨cb, hcb⟩ : ∃ z, z = w.heap.size + 1 := ⟨_, rfl⟩
  obtain ⟨rb, hrb⟩ : ∃ z, z = w.heap.size + 1 + 1 := ⟨_, rfl⟩
  obtain ⟨WA, hWA⟩ : ∃ V, V = w.alloc (.cells #[.slice a l.length c] 37) := ⟨_, rfl⟩
  obtain ⟨WC, hWC⟩ : ∃ V, V = WA.alloc (.cells #[.int .i64 x.1, .int .i64 x.2.1, .int .i64 x.2.2.1, .int .i64 x.2.2.2.1, .int .i64 x.2.2.2.2] 29) := ⟨_, rfl⟩
  obtain ⟨W1, hW1⟩ : ∃ V, V = WC.alloc (.cells #[.slice none 0 0] 37) := ⟨_, rfl⟩
  have kA : Kept w WA := by rw [hWA]; exact (Kept.refl _).alloc _
  have kC : Kept WA WC := by rw [hWC]; exact (Kept.refl _).alloc _
  have kD : Kept WC W1 := by rw [hW1]; exact (Kept.refl _).alloc _
  have zA : WA.heap.size = w.heap.size + 1 := by rw [hWA, World.size_alloc]
  have zC : WC.heap.size = w.heap.size + 1 + 1 := by rw [hWC, World.size_alloc, zA]
  have k1 := kA.trans (kC.trans kD)
  have HK1 := hidMk k1
  have HBX := hidMk (show ∀ Y, Chg (fun j => j = rb) W1 Y → Y.cell? ⟨hb, 0, none⟩ = some (.slice a l.length c) ∧ Y.cell? ⟨cb, 0, none⟩ = some (.int .i64 x.1) ∧ Y.cell? ⟨cb, 1, none⟩ = some (.int .i64 x.2.1) ∧ Y.cell? ⟨cb, 2, none⟩ = some (.int .i64 x.2.2.1) ∧ Y.cell? ⟨cb, 3, none⟩ = some (.int .i64 x.2.2.2.1) ∧ Y.cell? ⟨cb, 4, none⟩ = some (.int .i64 x.2.2.2.2) from fun Y k => by
    have e1 : WA.cell? ⟨hb, 0, none⟩ = some (.slice a l.length c) := by rw [hWA]; exact new_cell _ _ _ _ 0 _ hhb rfl
    obtain ⟨f0, f1, f2, f3, f4⟩ := boxC_at WA x 29 (hcb.trans zA.symm) WC (by rw [← hWC]; exact Kept.refl _)
    have n1 : hb ≠ rb := by omega
    have n3 : cb ≠ rb := by omega
    exact ⟨k.cellp ((kC.trans kD).cellp e1) n1, k.cellp (kD.cellp f0) n3, k.cellp (kD.cellp f1) n3, k.cellp (kD.cellp f2) n3, k.cellp (kD.cellp f3) n3, k.cellp (kD.cellp f4) n3⟩)
  have HRB := hidMk (show W1.cell? ⟨rb, 0, none⟩ = some (.slice none 0 0) ∧ W1.frozen? ⟨rb, 0, none⟩ = false from by
    rw [hW1]; exact ⟨new_cell _ _ _ _ 0 _ (hrb.trans zC.symm) rfl, new_frozen _ _ _ (hrb.trans zC.symm) 0⟩)
  have HRN := hidMk (show w.heap.size ≤ rb ∧ rb < W1.heap.size from ⟨by omega, cell_lt (p := ⟨rb, 0, none⟩) HRB.out.1⟩)
  have HAS := hidMk (sw_ask (h.keep k1) x)
  have HIN := hidMk (show ∀ Y, Kept W1 Y → _ from fun Y k => slices_IndexC a c l x Y (hq.kept (k1.trans k)) h16)
  simp only [if_pos hx] at HAS
  rw [hWC, hWA] at hW1
  unfold clV hdV at *
  clear h hq hx h16 HIN k1 kA kC kD zA zC hWA hWC
  obtain ⟨y0, y2, y3, y4, y5, y6⟩ := HBX.out W1 (Chg.refl _ _)
  rw [hW1, hhb] at y0
  rw [hW1, hcb] at y2 y3 y4 y5 y6
  go_enter Tryz.func10, Tryz.ntmps10
  go_wp2_with fail
  rw [← hW1, ← hrb, ← hcb, ← hhb]
  clear hW1 hrb hcb hhb y0 y2 y3 y4 y5 y6
  refine HAS.out.mono ?_
  rintro e w2 ⟨rfl, k2⟩
  have HKZ := hidMk k2
  clear k2 HAS
  have rc := HKZ.out.cellp HRB.out.1
  have rf := (HKZ.out.frozen (p := ⟨rb, 0, none⟩) HRN.out.2).trans HRB.out.2
  go_wp2_with fail
  refine bodyPost_ret (v := .tuple #[.agg #[.slice none 0 0], .int .i64 17]) ?_ rfl ⟨rfl, ?_⟩
  · simp only [results, show Tryz.f10.results = #[.cell 6 37, .tmp 7] from rfl]
    have rc2 : (w2.setCell ⟨rb, 0, none⟩ (.slice none 0 0)).cell? ⟨rb, 0, none⟩ = some (.slice none 0 0) := World.cell?_setCell_same _ _ _ (HKZ.out.cellp HRB.out.1)
    have rl := hold_load rc2
    go_simp
  · exact Chg.kept HK1.out ((Chg.of_kept HKZ.out).setCell (S := fun j => j = rb) (p := ⟨rb, 0, none⟩) (.inl rfl) _) (fun j e => by have := HRN.out.1; omega)
set_option maxHeartbeats 8000000 in
set_option maxRecDepth 100000 in
theorem hold_Drop_none (h : SW w s p ds ms tp rv) (a : Option Addr) (c : Nat) (l : List Cl) (x : Cl) (hq : Cq w a l) (h16 : l.length ≤ 100000) (hx : ¬ ixC ms ds x < 0) (hn : ¬ x ∈ l) :
    Calls Tryz.prog 10 #[hdV a l.length c, .pointer (some ⟨s, 0, none⟩), clV x] w (HdNo w 10) := by
  obtain ⟨hb, hhb⟩ : ∃ z, z = w.heap.size := ⟨_, rfl⟩
  obtain ⟨cb, hcb⟩ : ∃ z, z = w.heap.size + 1 := ⟨_, rfl⟩
  obtain ⟨rb, hrb⟩ : ∃ z, z = w.heap.size + 1 + 1 := ⟨_, rfl⟩
  obtain ⟨WA, hWA⟩ : ∃ V, V = w.alloc (.cells #[.slice a l.length c] 37) := ⟨_, rfl⟩
  obtain ⟨WC, hWC⟩ : ∃ V, V = WA.alloc (.cells #[.int .i64 x.1, .int .i64 x.2.1, .int .i64 x.2.2.1, .int .i64 x.2.2.2.1, .int .i64 x.2.2.2.2] 29) := ⟨_, rfl⟩
  obtain ⟨W1, hW1⟩ : ∃ V, V = WC.alloc (.cells #[.slice none 0 0] 37) := ⟨_, rfl⟩
  have kA : Kept w WA := by rw [hWA]; exact (Kept.refl _).alloc _
  have kC : Kept WA WC := by rw [hWC]; exact (Kept.refl _).alloc _
  have kD : Kept WC W1 := by rw [hW1]; exact (Kept.refl _).alloc _
  have zA : WA.heap.size = w.heap.size + 1 := by rw [hWA, World.size_alloc]
  have zC : WC.heap.size = w.heap.size + 1 + 1 := by rw [hWC, World.size_alloc, zA]
  have k1 := kA.trans (kC.trans kD)
  have HK1 := hidMk k1
  have HBX := hidMk (show ∀ Y, Chg (fun j => j = rb) W1 Y → Y.cell? ⟨hb, 0, none⟩ = some (.slice a l.length c) ∧ Y.cell? ⟨cb, 0, none⟩ = some (.int .i64 x.1) ∧ Y.cell? ⟨cb, 1, none⟩ = some (.int .i64 x.2.1) ∧ Y.cell? ⟨cb, 2, none⟩ = some (.int .i64 x.2.2.1) ∧ Y.cell? ⟨cb, 3, none⟩ = some (.int .i64 x.2.2.2.1) ∧ Y.cell? ⟨cb, 4, none⟩ = some (.int .i64 x.2.2.2.2) from fun Y k => by
    have e1 : WA.cell? ⟨hb, 0, none⟩ = some (.slice a l.length c) := by rw [hWA]; exact new_cell _ _ _ _ 0 _ hhb rfl
    obtain ⟨f0, f1, f2, f3, f4⟩ := boxC_at WA x 29 (hcb.trans zA.symm) WC (by rw [← hWC]; exact Kept.refl _)
    have n1 : hb ≠ rb := by omega
    have n3 : cb ≠ rb := by omega
    exact ⟨k.cellp ((kC.trans kD).cellp e1) n1, k.cellp (kD.cellp f0) n3, k.cellp (kD.cellp f1) n3, k.cellp (kD.cellp f2) n3, k.cellp (kD.cellp f3) n3, k.cellp (kD.cellp f4) n3⟩)
  have HRB := hidMk (show W1.cell? ⟨rb, 0, none⟩ = some (.slice none 0 0) ∧ W1.frozen? ⟨rb, 0, none⟩ = false from by
    rw [hW1]; exact ⟨new_cell _ _ _ _ 0 _ (hrb.trans zC.symm) rfl, new_frozen _ _ _ (hrb.trans zC.symm) 0⟩)
  have HRN := hidMk (show w.heap.size ≤ rb ∧ rb < W1.heap.size from ⟨by omega, cell_lt (p := ⟨rb, 0, none⟩) HRB.out.1⟩)
  have HAS := hidMk (sw_ask (h.keep k1) x)
  have HIN := hidMk (show ∀ Y, Kept W1 Y → _ from fun Y k => slices_IndexC a c l x Y (hq.kept (k1.trans k)) h16)
  simp only [if_neg hx] at HAS
  have hix : idxC l x = -1 := by unfold idxC; rw [if_neg hn]
  rw [hix] at HIN
  rw [hWC, hWA] at hW1
  unfold clV hdV at *
  clear h hq hx h16 hn hix k1 kA kC kD zA zC hWA hWC
  obtain ⟨y0, y2, y3, y4, y5, y6⟩ := HBX.out W1 (Chg.refl _ _)
  rw [hW1, hhb] at y0
  rw [hW1, hcb] at y2 y3 y4 y5 y6
  go_enter Tryz.func10, Tryz.ntmps10
  go_wp2_with fail
  rw [← hW1, ← hrb, ← hcb, ← hhb]
  clear hW1 hrb hcb hhb y0 y2 y3 y4 y5 y6
  refine HAS.out.mono ?_
  rintro e w2 ⟨rfl, k2⟩
  have HKZ := hidMk k2
  clear k2 HAS
  obtain ⟨y0, y2, y3, y4, y5, y6⟩ := HBX.out w2 (Chg.of_kept HKZ.out)
  go_wp2_with fail
  refine (HIN.out _ HKZ.out).mono ?_
  rintro e w4 ⟨rfl, k4⟩
  have HK4 := hidMk (HKZ.out.trans k4)
  clear k4 HIN HKZ y0 y2 y3 y4 y5 y6
  have rc := HK4.out.cellp HRB.out.1
  have rf := (HK4.out.frozen (p := ⟨rb, 0, none⟩) HRN.out.2).trans HRB.out.2
  go_wp2_with fail
  refine bodyPost_ret (v := .tuple #[.agg #[.slice none 0 0], .int .i64 10]) ?_ rfl ⟨rfl, ?_⟩
  · simp only [results, show Tryz.f10.results = #[.cell 6 37, .tmp 7] from rfl]
    have rc2 : (w4.setCell ⟨rb, 0, none⟩ (.slice none 0 0)).cell? ⟨rb, 0, none⟩ = some (.slice none 0 0) := World.cell?_setCell_same _ _ _ (HK4.out.cellp HRB.out.1)
    have rl := hold_load rc2
    go_simp
  · exact Chg.kept HK1.out ((Chg.of_kept HK4.out).setCell (S := fun j => j = rb) (p := ⟨rb, 0, none⟩) (.inl rfl) _) (fun j e => by have := HRN.out.1; omega)
set_option maxHeartbeats 8000000 in
set_option maxRecDepth 100000 in
theorem hold_Drop_some (h : SW w s p ds ms tp rv) (b o : Nat) (c : Nat) (l : List Cl) (x : Cl) (hq : Cq w (some ⟨b, o, none⟩) l) (h16 : l.length ≤ 1000) (hc : l.length ≤ c) (hx : ¬ ixC ms ds x < 0) (hn : x ∈ l) :
    Calls Tryz.prog 10 #[hdV (some ⟨b, o, none⟩) l.length c, .pointer (some ⟨s, 0, none⟩), clV x] w (HdDrop w l x) := by
  obtain ⟨hb, hhb⟩ : ∃ z, z = w.heap.size := ⟨_, rfl⟩
  obtain ⟨cb, hcb⟩ : ∃ z, z = w.heap.size + 1 := ⟨_, rfl⟩
  obtain ⟨rb, hrb⟩ : ∃ z, z = w.heap.size + 1 + 1 := ⟨_, rfl⟩
  obtain ⟨WA, hWA⟩ : ∃ V, V = w.alloc (.cells #[.slice (some ⟨b, o, none⟩) l.length c] 37) := ⟨_, rfl⟩
  obtain ⟨WC, hWC⟩ : ∃ V, V = WA.alloc (.cells #[.int .i64 x.1, .int .i64 x.2.1, .int .i64 x.2.2.1, .int .i64 x.2.2.2.1, .int .i64 x.2.2.2.2] 29) := ⟨_, rfl⟩
  obtain ⟨W1, hW1⟩ : ∃ V, V = WC.alloc (.cells #[.slice none 0 0] 37) := ⟨_, rfl⟩
  have kA : Kept w WA := by rw [hWA]; exact (Kept.refl _).alloc _
  have kC : Kept WA WC := by rw [hWC]; exact (Kept.refl _).alloc _
  have kD : Kept WC W1 := by rw [hW1]; exact (Kept.refl _).alloc _
  have zA : WA.heap.size = w.heap.size + 1 := by rw [hWA, World.size_alloc]
  have zC : WC.heap.size = w.heap.size + 1 + 1 := by rw [hWC, World.size_alloc, zA]
  have k1 := kA.trans (kC.trans kD)
  have HK1 := hidMk k1
  have HBX := hidMk (show ∀ Y, Chg (fun j => j = rb) W1 Y → Y.cell? ⟨hb, 0, none⟩ = some (.slice (some ⟨b, o, none⟩) l.length c) ∧ Y.cell? ⟨cb, 0, none⟩ = some (.int .i64 x.1) ∧ Y.cell? ⟨cb, 1, none⟩ = some (.int .i64 x.2.1) ∧ Y.cell? ⟨cb, 2, none⟩ = some (.int .i64 x.2.2.1) ∧ Y.cell? ⟨cb, 3, none⟩ = some (.int .i64 x.2.2.2.1) ∧ Y.cell? ⟨cb, 4, none⟩ = some (.int .i64 x.2.2.2.2) from fun Y k => by
    have e1 : WA.cell? ⟨hb, 0, none⟩ = some (.slice (some ⟨b, o, none⟩) l.length c) := by rw [hWA]; exact new_cell _ _ _ _ 0 _ hhb rfl
    obtain ⟨f0, f1, f2, f3, f4⟩ := boxC_at WA x 29 (hcb.trans zA.symm) WC (by rw [← hWC]; exact Kept.refl _)
    have n1 : hb ≠ rb := by omega
    have n3 : cb ≠ rb := by omega
    exact ⟨k.cellp ((kC.trans kD).cellp e1) n1, k.cellp (kD.cellp f0) n3, k.cellp (kD.cellp f1) n3, k.cellp (kD.cellp f2) n3, k.cellp (kD.cellp f3) n3, k.cellp (kD.cellp f4) n3⟩)
  have HRB := hidMk (show W1.cell? ⟨rb, 0, none⟩ = some (.slice none 0 0) ∧ W1.frozen? ⟨rb, 0, none⟩ = false from by
    rw [hW1]; exact ⟨new_cell _ _ _ _ 0 _ (hrb.trans zC.symm) rfl, new_frozen _ _ _ (hrb.trans zC.symm) 0⟩)
  have HRN := hidMk (show w.heap.size ≤ rb ∧ rb < W1.heap.size from ⟨by omega, cell_lt (p := ⟨rb, 0, none⟩) HRB.out.1⟩)
  have HAS := hidMk (sw_ask (h.keep k1) x)
  have HIN := hidMk (show ∀ Y, Kept W1 Y → _ from fun Y k => slices_IndexC (some ⟨b, o, none⟩) c l x Y (hq.kept (k1.trans k)) (by omega))
  simp only [if_neg hx] at HAS
  have HQ := hidMk (show ∀ Y, Kept W1 Y → Cq Y (some ⟨b, o, none⟩) l from fun Y k => hq.kept (k1.trans k))
  obtain ⟨i, hi1, hi2, hi3⟩ := idxC_get hn
  have HI := hidMk (show idxC l x = i ∧ i < l.length ∧ clA l i = x from ⟨hi1, hi2, hi3⟩)
  rw [hi1] at HIN
  rw [hWC, hWA] at hW1
  unfold clV hdV at *
  clear h hq hx hn hi1 hi3 k1 kA kC kD zA zC hWA hWC
  obtain ⟨y0, y2, y3, y4, y5, y6⟩ := HBX.out W1 (Chg.refl _ _)
  rw [hW1, hhb] at y0
  rw [hW1, hcb] at y2 y3 y4 y5 y6
  go_enter Tryz.func10, Tryz.ntmps10
  go_wp2_with fail
  rw [← hW1, ← hrb, ← hcb, ← hhb]
  clear hW1 hrb hcb hhb y0 y2 y3 y4 y5 y6
  refine HAS.out.mono ?_
  rintro e w2 ⟨rfl, k2⟩
  have HKZ := hidMk k2
  clear k2 HAS
  obtain ⟨y0, y2, y3, y4, y5, y6⟩ := HBX.out w2 (Chg.of_kept HKZ.out)
  go_wp2_with fail
  refine (HIN.out _ HKZ.out).mono ?_
  rintro e w4 ⟨rfl, k4⟩
  have HK4 := hidMk (HKZ.out.trans k4)
  clear k4 HIN HKZ y0 y2 y3 y4 y5 y6
  have hic : (i : Int) ≤ (c : Int) := by omega
  have hi0 : ¬ ((i : Int) < 0) := by omega
  obtain ⟨J, hJ⟩ : ∃ J, J = i + 1 := ⟨_, rfl⟩
  have HJ := hidMk hJ
  have hw : IntKind.i64.wrap ((i : Int) + 1) = (J : Int) := by rw [IntKind.wrap_i64]; omega
  have hil : (J : Int) ≤ (l.length : Int) := by omega
  by_cases hci : c = J
  · have hli : J = l.length := by omega
    subst hci
    subst hli
    clear hJ
    have HCO := hidMk (slices_ConcatC w4.heap.size 2 2 (p3 (some ⟨b, o, none⟩) (some ⟨b, o, none⟩) none) (p3 l.length 0 0) (p3 (l.take i) ([] : List Cl) []) (w4.drew.alloc (.cells #[.slice (some ⟨b, o, none⟩) i l.length, .slice (some ⟨b, o, none⟩) 0 0] 35)) (by omega) (fun k hk => by
      have hq4 := (HQ.out w4 HK4.out).kept (((Kept.refl w4).drew).alloc (.cells #[.slice (some ⟨b, o, none⟩) i l.length, .slice (some ⟨b, o, none⟩) 0 0] 35))
      have : k = 0 ∨ k = 1 := by omega
      rcases this with rfl | rfl
      · refine ⟨?_, hq4.take _, fun e => (by cases e), by show (l.take i).length ≤ 1000; rw [List.length_take]; omega⟩
        show _ = some (Value.slice (some ⟨b, o, none⟩) (l.take i).length l.length)
        rw [show (l.take i).length = i by rw [List.length_take]; omega]
        exact new_cell _ _ _ _ 0 _ rfl rfl
      · refine ⟨?_, Cq.none _ _, fun e => (by cases e), by show ([] : List Cl).length ≤ 1000; first | (simp; done) | (simp; omega)⟩
        show _ = some (Value.slice (some ⟨b, o, none⟩) ([] : List Cl).length 0)
        rw [show ([] : List Cl).length = 0 by simp]
        exact new_cell _ _ _ _ 1 _ rfl rfl))
    go_upto_region 7 with fail
    refine wp_region_held_drew (S := (fun w' => Chg (fun j => j = rb) W1 w')) (by kernel_rfl) ?_ (fun hHeld => ?_)
    · exact (Chg.of_kept HK4.out).drew
    refine wpAnyH_take (i := 0) (oi := { dst := some 24, op := _, type := _, pos := _, after := _, guard := _ }) (v := ?_) rfl (by kernel_rfl) (by kernel_rfl) (by kernel_rfl) (fun _ _ _ h => h) (Or.inl ⟨by rfl, ?_⟩) (by assumption) ?_
    rotate_left
    · (intro w9 hSw; clear hSw; go_simp; (try with_reducible rfl))
    (try simp only [Act.put, List.setIfInBounds_toArray, List.set_cons_zero, List.set_cons_succ])
    refine wpAnyH_take (i := 1) (oi := { dst := some 25, op := _, type := _, pos := _, after := _, guard := _ }) (v := ?_) rfl (by kernel_rfl) (by kernel_rfl) (by kernel_rfl) (fun _ _ _ h => h) (Or.inl ⟨by rfl, ?_⟩) (by assumption) ?_
    rotate_left
    · (intro w9 hSw; obtain ⟨y0, y2, y3, y4, y5, y6⟩ := HBX.out w9 hSw; clear hSw; go_simp; (try with_reducible rfl))
    (try simp only [Act.put, List.setIfInBounds_toArray, List.set_cons_zero, List.set_cons_succ])
    refine wpAnyH_take (i := 2) (oi := { dst := some 26, op := _, type := _, pos := _, after := _, guard := _ }) (v := ?_) rfl (by kernel_rfl) (by kernel_rfl) (by kernel_rfl) (fun _ _ _ h => h) (Or.inl ⟨by rfl, ?_⟩) (by assumption) ?_
    rotate_left
    · (intro w9 hSw; clear hSw; go_simp; (try with_reducible rfl))
    (try simp only [Act.put, List.setIfInBounds_toArray, List.set_cons_zero, List.set_cons_succ])
    refine wpAnyH_take (i := 3) (oi := { dst := some 27, op := _, type := _, pos := _, after := _, guard := _ }) (v := ?_) rfl (by kernel_rfl) (by kernel_rfl) (by kernel_rfl) (fun _ _ _ h => h) (Or.inl ⟨by rfl, ?_⟩) (by assumption) ?_
    rotate_left
    · (intro w9 hSw; clear hSw; go_simp; (try with_reducible rfl))
    (try simp only [Act.put, List.setIfInBounds_toArray, List.set_cons_zero, List.set_cons_succ])
    refine wpAnyH_take (i := 4) (oi := { dst := some 28, op := _, type := _, pos := _, after := _, guard := _ }) (v := ?_) rfl (by kernel_rfl) (by kernel_rfl) (by kernel_rfl) (fun _ _ _ h => h) (Or.inl ⟨by rfl, ?_⟩) (by assumption) ?_
    rotate_left
    · (intro w9 hSw; clear hSw; go_simp; (try with_reducible rfl))
    (try simp only [Act.put, List.setIfInBounds_toArray, List.set_cons_zero, List.set_cons_succ])
    refine wpAnyH_take (i := 5) (oi := { dst := some 29, op := _, type := _, pos := _, after := _, guard := _ }) (v := ?_) rfl (by kernel_rfl) (by kernel_rfl) (by kernel_rfl) (fun _ _ _ h => h) (Or.inl ⟨by rfl, ?_⟩) (by assumption) ?_
    rotate_left
    · (intro w9 hSw; obtain ⟨y0, y2, y3, y4, y5, y6⟩ := HBX.out w9 hSw; clear hSw; go_simp; (try with_reducible rfl))
    (try simp only [Act.put, List.setIfInBounds_toArray, List.set_cons_zero, List.set_cons_succ])
    refine wpAnyH_take (i := 6) (oi := { dst := some 30, op := _, type := _, pos := _, after := _, guard := _ }) (v := ?_) rfl (by kernel_rfl) (by kernel_rfl) (by kernel_rfl) (fun _ _ _ h => h) (Or.inl ⟨by rfl, ?_⟩) (by assumption) ?_
    rotate_left
    · (intro w9 hSw; clear hSw; go_simp; (try with_reducible rfl))
    (try simp only [Act.put, List.setIfInBounds_toArray, List.set_cons_zero, List.set_cons_succ])
    refine wpAnyH_take (i := 7) (oi := { dst := some 31, op := _, type := _, pos := _, after := _, guard := _ }) (v := ?_) rfl (by kernel_rfl) (by kernel_rfl) (by kernel_rfl) (fun _ _ _ h => h) (Or.inl ⟨by rfl, ?_⟩) (by assumption) ?_
    rotate_left
    · (intro w9 hSw; clear hSw; go_simp; (try with_reducible rfl))
    (try simp only [Act.put, List.setIfInBounds_toArray, List.set_cons_zero, List.set_cons_succ])
    refine wpAnyH_take (i := 8) (oi := { dst := some 32, op := _, type := _, pos := _, after := _, guard := _ }) (v := ?_) rfl (by kernel_rfl) (by kernel_rfl) (by kernel_rfl) (fun _ _ _ h => h) (Or.inl ⟨by rfl, ?_⟩) (by assumption) ?_
    rotate_left
    · (intro w9 hSw; clear hSw; go_simp; (try with_reducible rfl))
    (try simp only [Act.put, List.setIfInBounds_toArray, List.set_cons_zero, List.set_cons_succ])
    refine wpAnyH_ready (rs := [9]) (by kernel_rfl) (by simp) ?_
    refine AllReadyH.cons (o := { dst := some 33, op := _, type := _, pos := _, after := _, guard := _ }) rfl (fun K hK => ?_) AllReadyH.nil
    go_simp
    refine hK.out _ _ ?_ (fun hHeld => ?_)
    · (first | exact HAA.out | exact Chg.alloc hHeld _ | exact Chg.setCell (S := fun j => j = rb) HAA.out (p := ⟨rb, 0, none⟩) (.inl rfl) _)
    clear hK K
    (try simp only [Act.put, List.setIfInBounds_toArray, List.set_cons_zero, List.set_cons_succ])
    refine wpAnyH_ready (rs := [10]) (by kernel_rfl) (by simp) ?_
    refine AllReadyH.cons (o := { dst := some 34, op := _, type := _, pos := _, after := _, guard := _ }) rfl (fun K hK => ?_) AllReadyH.nil
    go_simp
    refine HCO.out.mono ?_
    rintro e wA ⟨v, rfl, ho, kA⟩
    obtain ⟨va, nv, vc, hv⟩ : ∃ va nv vc, v = Value.slice va nv vc := by obtain ⟨va, vc, hv, _, _⟩ := OwnQ.form ho; exact ⟨va, _, vc, hv⟩
    subst hv
    have HOW := hidMk ho
    have HAA := hidMk (show Chg (fun j => j = rb) W1 wA from hHeld.trans (Chg.of_kept kA))
    have HKA := hidMk (show Kept W1 wA from ((HK4.out.drew).alloc _).trans kA)
    clear ho kA
    (try go_wp2_with fail)
    refine hK.out _ _ ?_ (fun hHeld => ?_)
    · (first | exact HAA.out | exact Chg.alloc hHeld _ | exact Chg.setCell (S := fun j => j = rb) HAA.out (p := ⟨rb, 0, none⟩) (.inl rfl) _)
    clear hK K
    (try simp only [Act.put, List.setIfInBounds_toArray, List.set_cons_zero, List.set_cons_succ])
    refine wpAnyH_take (i := 11) (oi := { dst := some 35, op := _, type := _, pos := _, after := _, guard := _ }) (v := ?_) rfl (by kernel_rfl) (by kernel_rfl) (by kernel_rfl) (fun _ _ _ h => h) (Or.inl ⟨by rfl, ?_⟩) (by assumption) ?_
    rotate_left
    · (intro w9 hSw; clear hSw; go_simp; (try with_reducible rfl))
    (try simp only [Act.put, List.setIfInBounds_toArray, List.set_cons_zero, List.set_cons_succ])
    refine wpAnyH_ready (rs := [12]) (by kernel_rfl) (by simp) ?_
    refine AllReadyH.cons (o := { dst := none, op := _, type := _, pos := _, after := _, guard := _ }) rfl (fun K hK => ?_) AllReadyH.nil
    have rc := HKA.out.cellp HRB.out.1
    have rf := (HKA.out.frozen (p := ⟨rb, 0, none⟩) HRN.out.2).trans HRB.out.2
    go_simp
    clear rc rf
    refine hK.out _ _ ?_ (fun hHeld => ?_)
    · (first | exact HAA.out | exact Chg.alloc hHeld _ | exact Chg.setCell (S := fun j => j = rb) HAA.out (p := ⟨rb, 0, none⟩) (.inl rfl) _)
    clear hK K
    (try simp only [Act.put, List.setIfInBounds_toArray, List.set_cons_zero, List.set_cons_succ])
    refine wpAnyH_take (i := 13) (oi := { dst := some 7, op := _, type := _, pos := _, after := _, guard := _ }) (v := ?_) rfl (by kernel_rfl) (by kernel_rfl) (by kernel_rfl) (fun _ _ _ h => h) (Or.inl ⟨by rfl, ?_⟩) (by assumption) ?_
    rotate_left
    · (intro w9 hSw; clear hSw; go_simp; (try with_reducible rfl))
    (try simp only [Act.put, List.setIfInBounds_toArray, List.set_cons_zero, List.set_cons_succ])
    refine wpAnyH_done (by kernel_rfl) ?_ _
    have HCF := hidMk hHeld
    clear hHeld
    go_wp2_with fail
    refine bodyPost_ret (v := .tuple #[.agg #[.slice va nv vc], .int .i64 0]) ?_ rfl ⟨.slice va nv vc, i, rfl, HI.out.1, HI.out.2.1, HI.out.2.2, ?_, ?_⟩
    · simp only [results, show Tryz.f10.results = #[.cell 6 37, .tmp 7] from rfl]
      have rc : (wA.setCell ⟨rb, 0, none⟩ (.slice va nv vc)).cell? ⟨rb, 0, none⟩ = some (.slice va nv vc) := World.cell?_setCell_same _ _ _ (HKA.out.cellp HRB.out.1)
      have rl := hold_load rc
      go_simp
    · have hown : ∀ g, (Value.slice va nv vc).ownBlock = some g → ¬ g = rb := fun g hg e => by
        have h1 := (World.ownsRow.lt HOW.out g hg).1
        have h2 := HRN.out.2
        have h3 := HK4.out.size
        rw [World.size_alloc] at h1
        have h4 : w4.drew.heap.size = w4.heap.size := rfl
        omega
      have h9 := ownsRow_base (ownsRow_chg HOW.out (S := fun j => j = rb) ((Chg.refl (fun j => j = rb) wA).setCell (p := ⟨rb, 0, none⟩) (.inl rfl) (.slice va nv vc)) hown) (show w.heap.size ≤ _ from Nat.le_trans HK1.out.size (Nat.le_trans HK4.out.size ((((Kept.refl w4).drew).alloc _).size)))
      have hcat : catN (p3 (l.take i) ([] : List Cl) []) 2 = l.take i ++ l.drop (i + 1) := by rw [List.drop_eq_nil_of_le (show l.length ≤ i + 1 by have := HJ.out; omega)]; simp [catN, List.range_succ, p3]
      rw [hcat] at h9
      exact h9
    · exact Chg.kept HK1.out HCF.out (fun j e => by have := HRN.out.1; omega)
  · have hci' : ¬ J = c := fun e => hci e.symm
    clear hJ
    have HCO := hidMk (slices_ConcatC w4.heap.size 2 2 (p3 (some ⟨b, o, none⟩) (some ⟨b, o + J * 5, none⟩) none) (p3 c (c - J) 0) (p3 (l.take i) (l.drop J) []) (w4.drew.alloc (.cells #[.slice (some ⟨b, o, none⟩) i c, .slice (some ⟨b, o + J * 5, none⟩) (l.length - J) (c - J)] 35)) (by omega) (fun k hk => by
      have hq4 := (HQ.out w4 HK4.out).kept (((Kept.refl w4).drew).alloc (.cells #[.slice (some ⟨b, o, none⟩) i c, .slice (some ⟨b, o + J * 5, none⟩) (l.length - J) (c - J)] 35))
      have : k = 0 ∨ k = 1 := by omega
      rcases this with rfl | rfl
      · refine ⟨?_, hq4.take _, fun e => (by cases e), by show (l.take i).length ≤ 1000; rw [List.length_take]; omega⟩
        show _ = some (Value.slice (some ⟨b, o, none⟩) (l.take i).length c)
        rw [show (l.take i).length = i by rw [List.length_take]; omega]
        exact new_cell _ _ _ _ 0 _ rfl rfl
      · refine ⟨?_, hq4.drop J, fun e => (by cases e), by show (l.drop J).length ≤ 1000; first | (simp; done) | (simp; omega)⟩
        show _ = some (Value.slice (some ⟨b, o + J * 5, none⟩) (l.drop J).length (c - J))
        rw [show (l.drop J).length = (l.length - J) by simp]
        exact new_cell _ _ _ _ 1 _ rfl rfl))
    go_upto_region 7 with fail
    refine wp_region_held_drew (S := (fun w' => Chg (fun j => j = rb) W1 w')) (by kernel_rfl) ?_ (fun hHeld => ?_)
    · exact (Chg.of_kept HK4.out).drew
    refine wpAnyH_take (i := 0) (oi := { dst := some 24, op := _, type := _, pos := _, after := _, guard := _ }) (v := ?_) rfl (by kernel_rfl) (by kernel_rfl) (by kernel_rfl) (fun _ _ _ h => h) (Or.inl ⟨by rfl, ?_⟩) (by assumption) ?_
    rotate_left
    · (intro w9 hSw; clear hSw; go_simp; (try with_reducible rfl))
    (try simp only [Act.put, List.setIfInBounds_toArray, List.set_cons_zero, List.set_cons_succ])
    refine wpAnyH_take (i := 1) (oi := { dst := some 25, op := _, type := _, pos := _, after := _, guard := _ }) (v := ?_) rfl (by kernel_rfl) (by kernel_rfl) (by kernel_rfl) (fun _ _ _ h => h) (Or.inl ⟨by rfl, ?_⟩) (by assumption) ?_
    rotate_left
    · (intro w9 hSw; obtain ⟨y0, y2, y3, y4, y5, y6⟩ := HBX.out w9 hSw; clear hSw; go_simp; (try with_reducible rfl))
    (try simp only [Act.put, List.setIfInBounds_toArray, List.set_cons_zero, List.set_cons_succ])
    refine wpAnyH_take (i := 2) (oi := { dst := some 26, op := _, type := _, pos := _, after := _, guard := _ }) (v := ?_) rfl (by kernel_rfl) (by kernel_rfl) (by kernel_rfl) (fun _ _ _ h => h) (Or.inl ⟨by rfl, ?_⟩) (by assumption) ?_
    rotate_left
    · (intro w9 hSw; clear hSw; go_simp; (try with_reducible rfl))
    (try simp only [Act.put, List.setIfInBounds_toArray, List.set_cons_zero, List.set_cons_succ])
    refine wpAnyH_take (i := 3) (oi := { dst := some 27, op := _, type := _, pos := _, after := _, guard := _ }) (v := ?_) rfl (by kernel_rfl) (by kernel_rfl) (by kernel_rfl) (fun _ _ _ h => h) (Or.inl ⟨by rfl, ?_⟩) (by assumption) ?_
    rotate_left
    · (intro w9 hSw; clear hSw; go_simp; (try with_reducible rfl))
    (try simp only [Act.put, List.setIfInBounds_toArray, List.set_cons_zero, List.set_cons_succ])
    refine wpAnyH_take (i := 4) (oi := { dst := some 28, op := _, type := _, pos := _, after := _, guard := _ }) (v := ?_) rfl (by kernel_rfl) (by kernel_rfl) (by kernel_rfl) (fun _ _ _ h => h) (Or.inl ⟨by rfl, ?_⟩) (by assumption) ?_
    rotate_left
    · (intro w9 hSw; clear hSw; go_simp; (try with_reducible rfl))
    (try simp only [Act.put, List.setIfInBounds_toArray, List.set_cons_zero, List.set_cons_succ])
    refine wpAnyH_take (i := 5) (oi := { dst := some 29, op := _, type := _, pos := _, after := _, guard := _ }) (v := ?_) rfl (by kernel_rfl) (by kernel_rfl) (by kernel_rfl) (fun _ _ _ h => h) (Or.inl ⟨by rfl, ?_⟩) (by assumption) ?_
    rotate_left
    · (intro w9 hSw; obtain ⟨y0, y2, y3, y4, y5, y6⟩ := HBX.out w9 hSw; clear hSw; go_simp; (try with_reducible rfl))
    (try simp only [Act.put, List.setIfInBounds_toArray, List.set_cons_zero, List.set_cons_succ])
    refine wpAnyH_take (i := 6) (oi := { dst := some 30, op := _, type := _, pos := _, after := _, guard := _ }) (v := ?_) rfl (by kernel_rfl) (by kernel_rfl) (by kernel_rfl) (fun _ _ _ h => h) (Or.inl ⟨by rfl, ?_⟩) (by assumption) ?_
    rotate_left
    · (intro w9 hSw; clear hSw; go_simp; (try with_reducible rfl))
    (try simp only [Act.put, List.setIfInBounds_toArray, List.set_cons_zero, List.set_cons_succ])
    refine wpAnyH_take (i := 7) (oi := { dst := some 31, op := _, type := _, pos := _, after := _, guard := _ }) (v := ?_) rfl (by kernel_rfl) (by kernel_rfl) (by kernel_rfl) (fun _ _ _ h => h) (Or.inl ⟨by rfl, ?_⟩) (by assumption) ?_
    rotate_left
    · (intro w9 hSw; clear hSw; go_simp; (try with_reducible rfl))
    (try simp only [Act.put, List.setIfInBounds_toArray, List.set_cons_zero, List.set_cons_succ])
    refine wpAnyH_take (i := 8) (oi := { dst := some 32, op := _, type := _, pos := _, after := _, guard := _ }) (v := ?_) rfl (by kernel_rfl) (by kernel_rfl) (by kernel_rfl) (fun _ _ _ h => h) (Or.inl ⟨by rfl, ?_⟩) (by assumption) ?_
    rotate_left
    · (intro w9 hSw; clear hSw; go_simp; (try with_reducible rfl))
    (try simp only [Act.put, List.setIfInBounds_toArray, List.set_cons_zero, List.set_cons_succ])
    refine wpAnyH_ready (rs := [9]) (by kernel_rfl) (by simp) ?_
    refine AllReadyH.cons (o := { dst := some 33, op := _, type := _, pos := _, after := _, guard := _ }) rfl (fun K hK => ?_) AllReadyH.nil
    go_simp
    refine hK.out _ _ ?_ (fun hHeld => ?_)
    · (first | exact HAA.out | exact Chg.alloc hHeld _ | exact Chg.setCell (S := fun j => j = rb) HAA.out (p := ⟨rb, 0, none⟩) (.inl rfl) _)
    clear hK K
    (try simp only [Act.put, List.setIfInBounds_toArray, List.set_cons_zero, List.set_cons_succ])
    refine wpAnyH_ready (rs := [10]) (by kernel_rfl) (by simp) ?_
    refine AllReadyH.cons (o := { dst := some 34, op := _, type := _, pos := _, after := _, guard := _ }) rfl (fun K hK => ?_) AllReadyH.nil
    go_simp
    refine HCO.out.mono ?_
    rintro e wA ⟨v, rfl, ho, kA⟩
    obtain ⟨va, nv, vc, hv⟩ : ∃ va nv vc, v = Value.slice va nv vc := by obtain ⟨va, vc, hv, _, _⟩ := OwnQ.form ho; exact ⟨va, _, vc, hv⟩
    subst hv
    have HOW := hidMk ho
    have HAA := hidMk (show Chg (fun j => j = rb) W1 wA from hHeld.trans (Chg.of_kept kA))
    have HKA := hidMk (show Kept W1 wA from ((HK4.out.drew).alloc _).trans kA)
    clear ho kA
    (try go_wp2_with fail)
    refine hK.out _ _ ?_ (fun hHeld => ?_)
    · (first | exact HAA.out | exact Chg.alloc hHeld _ | exact Chg.setCell (S := fun j => j = rb) HAA.out (p := ⟨rb, 0, none⟩) (.inl rfl) _)
    clear hK K
    (try simp only [Act.put, List.setIfInBounds_toArray, List.set_cons_zero, List.set_cons_succ])
    refine wpAnyH_take (i := 11) (oi := { dst := some 35, op := _, type := _, pos := _, after := _, guard := _ }) (v := ?_) rfl (by kernel_rfl) (by kernel_rfl) (by kernel_rfl) (fun _ _ _ h => h) (Or.inl ⟨by rfl, ?_⟩) (by assumption) ?_
    rotate_left
    · (intro w9 hSw; clear hSw; go_simp; (try with_reducible rfl))
    (try simp only [Act.put, List.setIfInBounds_toArray, List.set_cons_zero, List.set_cons_succ])
    refine wpAnyH_ready (rs := [12]) (by kernel_rfl) (by simp) ?_
    refine AllReadyH.cons (o := { dst := none, op := _, type := _, pos := _, after := _, guard := _ }) rfl (fun K hK => ?_) AllReadyH.nil
    have rc := HKA.out.cellp HRB.out.1
    have rf := (HKA.out.frozen (p := ⟨rb, 0, none⟩) HRN.out.2).trans HRB.out.2
    go_simp
    clear rc rf
    refine hK.out _ _ ?_ (fun hHeld => ?_)
    · (first | exact HAA.out | exact Chg.alloc hHeld _ | exact Chg.setCell (S := fun j => j = rb) HAA.out (p := ⟨rb, 0, none⟩) (.inl rfl) _)
    clear hK K
    (try simp only [Act.put, List.setIfInBounds_toArray, List.set_cons_zero, List.set_cons_succ])
    refine wpAnyH_take (i := 13) (oi := { dst := some 7, op := _, type := _, pos := _, after := _, guard := _ }) (v := ?_) rfl (by kernel_rfl) (by kernel_rfl) (by kernel_rfl) (fun _ _ _ h => h) (Or.inl ⟨by rfl, ?_⟩) (by assumption) ?_
    rotate_left
    · (intro w9 hSw; clear hSw; go_simp; (try with_reducible rfl))
    (try simp only [Act.put, List.setIfInBounds_toArray, List.set_cons_zero, List.set_cons_succ])
    refine wpAnyH_done (by kernel_rfl) ?_ _
    have HCF := hidMk hHeld
    clear hHeld
    go_wp2_with fail
    refine bodyPost_ret (v := .tuple #[.agg #[.slice va nv vc], .int .i64 0]) ?_ rfl ⟨.slice va nv vc, i, rfl, HI.out.1, HI.out.2.1, HI.out.2.2, ?_, ?_⟩
    · simp only [results, show Tryz.f10.results = #[.cell 6 37, .tmp 7] from rfl]
      have rc : (wA.setCell ⟨rb, 0, none⟩ (.slice va nv vc)).cell? ⟨rb, 0, none⟩ = some (.slice va nv vc) := World.cell?_setCell_same _ _ _ (HKA.out.cellp HRB.out.1)
      have rl := hold_load rc
      go_simp
    · have hown : ∀ g, (Value.slice va nv vc).ownBlock = some g → ¬ g = rb := fun g hg e => by
        have h1 := (World.ownsRow.lt HOW.out g hg).1
        have h2 := HRN.out.2
        have h3 := HK4.out.size
        rw [World.size_alloc] at h1
        have h4 : w4.drew.heap.size = w4.heap.size := rfl
        omega
      have h9 := ownsRow_base (ownsRow_chg HOW.out (S := fun j => j = rb) ((Chg.refl (fun j => j = rb) wA).setCell (p := ⟨rb, 0, none⟩) (.inl rfl) (.slice va nv vc)) hown) (show w.heap.size ≤ _ from Nat.le_trans HK1.out.size (Nat.le_trans HK4.out.size ((((Kept.refl w4).drew).alloc _).size)))
      have hcat : catN (p3 (l.take i) (l.drop J) []) 2 = l.take i ++ l.drop (i + 1) := by rw [← HJ.out]; simp [catN, List.range_succ, p3]
      rw [hcat] at h9
      exact h9
    · exact Chg.kept HK1.out HCF.out (fun j e => by have := HRN.out.1; omega)
end
end Go.Proofs.YtmedgkccicbieaaGreat
