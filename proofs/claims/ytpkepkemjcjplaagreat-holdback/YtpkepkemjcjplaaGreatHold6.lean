/- hold: Add at nothing; what Add refuses. -/
import Derived.Test.YtpkepkemjcjplaaGreatHold5
namespace Go.Proofs.YtpkepkemjcjplaaGreat
open Go.RowKit Go.Maps
set_option linter.unusedSimpArgs false
set_option linter.unusedVariables false

section
variable {w : World} {s p : Nat} {ds : List Dm} {ms : List ByteArray} {tp : Nat → Nat} {rv : Nat → Option Addr × Nat}
set_option maxHeartbeats 8000000 in
set_option maxRecDepth 100000 in
theorem hold_Add_none (h : SW w s p ds ms tp rv) (x : Cl) (hx : ¬ ixC ms ds x < 0) :
    Calls Tryz.prog 11 #[hdV none 0 0, .pointer (some ⟨s, 0, none⟩), clV x] w (HdAdd w (ixC ms ds) [] x) := by
  obtain ⟨hb, hhb⟩ : ∃ z, z = w.heap.size := ⟨_, rfl⟩
  obtain ⟨sb, hsb⟩ : ∃ z, z = w.heap.size + 1 := ⟨_, rfl⟩
  obtain ⟨cb, hcb⟩ : ∃ z, z = w.heap.size + 1 + 1 := ⟨_, rfl⟩
  obtain ⟨rb, hrb⟩ : ∃ z, z = w.heap.size + 1 + 1 + 1 := ⟨_, rfl⟩
  obtain ⟨WA, hWA⟩ : ∃ V, V = w.alloc (.cells #[.slice none 0 0] 37) := ⟨_, rfl⟩
  obtain ⟨WB, hWB⟩ : ∃ V, V = WA.alloc (.cells #[.pointer (some ⟨s, 0, none⟩)] 30) := ⟨_, rfl⟩
  obtain ⟨WC, hWC⟩ : ∃ V, V = WB.alloc (.cells #[.int .i64 x.1, .int .i64 x.2.1, .int .i64 x.2.2.1, .int .i64 x.2.2.2.1, .int .i64 x.2.2.2.2] 29) := ⟨_, rfl⟩
  obtain ⟨W1, hW1⟩ : ∃ V, V = WC.alloc (.cells #[.slice none 0 0] 37) := ⟨_, rfl⟩
  have kA : Kept w WA := by rw [hWA]; exact (Kept.refl _).alloc _
  have kB : Kept WA WB := by rw [hWB]; exact (Kept.refl _).alloc _
  have kC : Kept WB WC := by rw [hWC]; exact (Kept.refl _).alloc _
  have kD : Kept WC W1 := by rw [hW1]; exact (Kept.refl _).alloc _
  have zA : WA.heap.size = w.heap.size + 1 := by rw [hWA, World.size_alloc]
  have zB : WB.heap.size = w.heap.size + 1 + 1 := by rw [hWB, World.size_alloc, zA]
  have zC : WC.heap.size = w.heap.size + 1 + 1 + 1 := by rw [hWC, World.size_alloc, zB]
  have k1 := kA.trans (kB.trans (kC.trans kD))
  have HK1 := hidMk k1
  have HBX := hidMk (show ∀ Y, Chg (fun j => j = rb) W1 Y → Y.cell? ⟨hb, 0, none⟩ = some (.slice none 0 0) ∧ Y.cell? ⟨sb, 0, none⟩ = some (.pointer (some ⟨s, 0, none⟩)) ∧ Y.cell? ⟨cb, 0, none⟩ = some (.int .i64 x.1) ∧ Y.cell? ⟨cb, 1, none⟩ = some (.int .i64 x.2.1) ∧ Y.cell? ⟨cb, 2, none⟩ = some (.int .i64 x.2.2.1) ∧ Y.cell? ⟨cb, 3, none⟩ = some (.int .i64 x.2.2.2.1) ∧ Y.cell? ⟨cb, 4, none⟩ = some (.int .i64 x.2.2.2.2) from fun Y k => by
    have e1 : WA.cell? ⟨hb, 0, none⟩ = some (.slice none 0 0) := by rw [hWA]; exact new_cell _ _ _ _ 0 _ hhb rfl
    have e2 : WB.cell? ⟨sb, 0, none⟩ = some (.pointer (some ⟨s, 0, none⟩)) := by rw [hWB]; exact new_cell _ _ _ _ 0 _ (hsb.trans zA.symm) rfl
    obtain ⟨f0, f1, f2, f3, f4⟩ := boxC_at WB x 29 (hcb.trans zB.symm) WC (by rw [← hWC]; exact Kept.refl _)
    have n1 : hb ≠ rb := by omega
    have n2 : sb ≠ rb := by omega
    have n3 : cb ≠ rb := by omega
    exact ⟨k.cellp ((kB.trans (kC.trans kD)).cellp e1) n1, k.cellp ((kC.trans kD).cellp e2) n2, k.cellp (kD.cellp f0) n3, k.cellp (kD.cellp f1) n3, k.cellp (kD.cellp f2) n3, k.cellp (kD.cellp f3) n3, k.cellp (kD.cellp f4) n3⟩)
  have HRB := hidMk (show W1.cell? ⟨rb, 0, none⟩ = some (.slice none 0 0) ∧ W1.frozen? ⟨rb, 0, none⟩ = false from by
    rw [hW1]; exact ⟨new_cell _ _ _ _ 0 _ (hrb.trans zC.symm) rfl, new_frozen _ _ _ (hrb.trans zC.symm) 0⟩)
  have HAS := hidMk (sw_ask (h.keep k1) x)
  simp only [if_neg hx] at HAS
  have HHA := hidMk (show ∀ Y, Kept W1 Y → _ from fun Y k => hold_Has none 0 [] x Y (Cq.none _ _) (by simp))
  simp only [List.not_mem_nil, decide_false, List.length_nil] at HHA
  have HBI := hidMk (show ∀ Y, Kept W1 Y → _ from fun Y k => slices_BinC none 0 [] x (ixC ms ds) sb Y (Cq.none _ _) (by simp) (fun i j _ hj => absurd hj (by simp)) (fun Z kz x y => hold_cmp (h.keep (k1.trans (k.trans kz))) x y sb ((HBX.out Z (Chg.of_kept (k.trans kz))).2.1)))
  have HRN := hidMk (show w.heap.size ≤ rb ∧ rb < W1.heap.size from ⟨by omega, cell_lt (p := ⟨rb, 0, none⟩) HRB.out.1⟩)
  rw [hWC, hWB, hWA] at hW1
  unfold clV hdV at *
  simp only [List.length_nil] at HBI
  clear h hx k1 kA kB kC kD zA zB zC hWA hWB hWC
  obtain ⟨y0, y1, y2, y3, y4, y5, y6⟩ := HBX.out W1 (Chg.refl _ _)
  rw [hW1, hhb] at y0
  rw [hW1, hsb] at y1
  rw [hW1, hcb] at y2 y3 y4 y5 y6
  go_enter Tryz.func11, Tryz.ntmps11
  go_wp2_with fail
  rw [← hW1, ← hrb, ← hcb, ← hsb, ← hhb]
  clear hW1 hrb hcb hsb hhb y0 y1 y2 y3 y4 y5 y6
  refine HAS.out.mono ?_
  rintro e w2 ⟨rfl, k2⟩
  have HK2 := hidMk k2
  clear k2 HAS
  obtain ⟨y0, y1, y2, y3, y4, y5, y6⟩ := HBX.out w2 (Chg.of_kept HK2.out)
  go_wp2_with fail
  refine (HHA.out _ HK2.out).mono ?_
  rintro e w3 ⟨rfl, k3⟩
  have HK3 := hidMk (HK2.out.trans k3)
  clear k3 HHA HK2 y0 y1 y2 y3 y4 y5 y6
  obtain ⟨y0, y1, y2, y3, y4, y5, y6⟩ := HBX.out w3 (Chg.of_kept HK3.out)
  go_wp2_with fail
  refine (HBI.out _ HK3.out).mono ?_
  rintro e w4 ⟨i, fd, rfl, hi, hi1, hi2, k4⟩
  have hi0 : i = 0 := by simpa using hi
  subst hi0
  have HK4 := hidMk (HK3.out.trans k4)
  clear k4 HBI HK3 y0 y1 y2 y3 y4 y5 y6 hi1 hi2
  have HCO := hidMk (slices_ConcatC (w4.heap.size + 1) 3 3 (p3 none (some ⟨w4.heap.size, 0, none⟩) none) (p3 0 1 0) (p3 ([] : List Cl) [x] ([] : List Cl)) ((w4.drew.alloc (.cells #[.int .i64 x.1, .int .i64 x.2.1, .int .i64 x.2.2.1, .int .i64 x.2.2.2.1, .int .i64 x.2.2.2.2] 29)).alloc (.cells #[.slice none 0 0, .slice (some ⟨w4.heap.size, 0, none⟩) 1 1, .slice none 0 0] 35)) (by omega) (fun k hk => by
    have hsz : (w4.drew.alloc (.cells #[.int .i64 x.1, .int .i64 x.2.1, .int .i64 x.2.2.1, .int .i64 x.2.2.2.1, .int .i64 x.2.2.2.2] 29)).heap.size = w4.heap.size + 1 := by rw [World.size_alloc]; rfl
    have : k = 0 ∨ k = 1 ∨ k = 2 := by omega
    rcases this with rfl | rfl | rfl
    · refine ⟨?_, Cq.none _ _, fun _ => ⟨rfl, rfl⟩, by show ([] : List Cl).length ≤ 1000; simp⟩
      show _ = some (Value.slice none ([] : List Cl).length 0)
      
      exact new_cell _ _ _ _ 0 _ hsz.symm rfl
    · refine ⟨?_, ?_, fun e => (by cases e), by show [x].length ≤ 1000; simp⟩
      · exact new_cell _ _ _ _ 1 _ hsz.symm rfl
      · refine ⟨fun _ => ⟨w4.heap.size, 0, rfl, by rw [World.size_alloc, hsz]; omega, fun j hj t ht u hu => ?_⟩⟩
        have hj0 : j = 0 := by simpa [p3] using hj
        subst hj0
        obtain ⟨f0, f1, f2, f3, f4⟩ := boxC_at w4.drew x 29 (g := w4.heap.size) rfl _ ((Kept.refl _).alloc (.cells #[.slice none 0 0, .slice (some ⟨w4.heap.size, 0, none⟩) 1 1, .slice none 0 0] 35))
        have ht5 : t = 0 ∨ t = 1 ∨ t = 2 ∨ t = 3 ∨ t = 4 := by omega
        have hu' : (clF x)[t]? = some u := hu
        rcases ht5 with rfl | rfl | rfl | rfl | rfl <;> (simp [clF] at hu'; subst hu'; assumption)
    · refine ⟨?_, Cq.none _ _, fun _ => ⟨rfl, rfl⟩, by show ([] : List Cl).length ≤ 1000; first | (simp; done) | (simp; omega)⟩
      show _ = some (Value.slice none ([] : List Cl).length 0)
      
      exact new_cell _ _ _ _ 2 _ hsz.symm rfl))
  go_upto_region 10 with fail
  refine wp_region_held_drew (S := (fun w' => Chg (fun j => j = rb) W1 w')) (by kernel_rfl) ?_ (fun hHeld => ?_)
  · exact (Chg.of_kept HK4.out).drew
  refine wpAnyH_take (i := 0) (oi := { dst := some 37, op := _, type := _, pos := _, after := _, guard := _ }) (v := ?_) rfl (by kernel_rfl) (by kernel_rfl) (by kernel_rfl) (fun _ _ _ h => h) (Or.inl ⟨by rfl, ?_⟩) (by assumption) ?_
  rotate_left
  · (intro w9 hSw; clear hSw; go_simp; (try with_reducible rfl))
  (try simp only [Act.put, List.setIfInBounds_toArray, List.set_cons_zero, List.set_cons_succ])
  refine wpAnyH_take (i := 1) (oi := { dst := some 38, op := _, type := _, pos := _, after := _, guard := _ }) (v := ?_) rfl (by kernel_rfl) (by kernel_rfl) (by kernel_rfl) (fun _ _ _ h => h) (Or.inl ⟨by rfl, ?_⟩) (by assumption) ?_
  rotate_left
  · (intro w9 hSw; obtain ⟨y0, y1, y2, y3, y4, y5, y6⟩ := HBX.out w9 hSw; clear hSw; go_simp; (try with_reducible rfl))
  (try simp only [Act.put, List.setIfInBounds_toArray, List.set_cons_zero, List.set_cons_succ])
  refine wpAnyH_take (i := 2) (oi := { dst := some 39, op := _, type := _, pos := _, after := _, guard := _ }) (v := ?_) rfl (by kernel_rfl) (by kernel_rfl) (by kernel_rfl) (fun _ _ _ h => h) (Or.inl ⟨by rfl, ?_⟩) (by assumption) ?_
  rotate_left
  · (intro w9 hSw; clear hSw; go_simp; (try with_reducible rfl))
  (try simp only [Act.put, List.setIfInBounds_toArray, List.set_cons_zero, List.set_cons_succ])
  refine wpAnyH_take (i := 3) (oi := { dst := some 40, op := _, type := _, pos := _, after := _, guard := _ }) (v := ?_) rfl (by kernel_rfl) (by kernel_rfl) (by kernel_rfl) (fun _ _ _ h => h) (Or.inl ⟨by rfl, ?_⟩) (by assumption) ?_
  rotate_left
  · (intro w9 hSw; clear hSw; go_simp; (try with_reducible rfl))
  (try simp only [Act.put, List.setIfInBounds_toArray, List.set_cons_zero, List.set_cons_succ])
  refine wpAnyH_take (i := 4) (oi := { dst := some 41, op := _, type := _, pos := _, after := _, guard := _ }) (v := ?_) rfl (by kernel_rfl) (by kernel_rfl) (by kernel_rfl) (fun _ _ _ h => h) (Or.inl ⟨by rfl, ?_⟩) (by assumption) ?_
  rotate_left
  · (intro w9 hSw; obtain ⟨y0, y1, y2, y3, y4, y5, y6⟩ := HBX.out w9 hSw; clear hSw; go_simp; (try with_reducible rfl))
  (try simp only [Act.put, List.setIfInBounds_toArray, List.set_cons_zero, List.set_cons_succ])
  refine wpAnyH_take (i := 6) (oi := { dst := some 43, op := _, type := _, pos := _, after := _, guard := _ }) (v := ?_) rfl (by kernel_rfl) (by kernel_rfl) (by kernel_rfl) (fun _ _ _ h => h) (Or.inl ⟨by rfl, ?_⟩) (by assumption) ?_
  rotate_left
  · (intro w9 hSw; clear hSw; go_simp; (try with_reducible rfl))
  (try simp only [Act.put, List.setIfInBounds_toArray, List.set_cons_zero, List.set_cons_succ])
  refine wpAnyH_take (i := 7) (oi := { dst := some 44, op := _, type := _, pos := _, after := _, guard := _ }) (v := ?_) rfl (by kernel_rfl) (by kernel_rfl) (by kernel_rfl) (fun _ _ _ h => h) (Or.inl ⟨by rfl, ?_⟩) (by assumption) ?_
  rotate_left
  · (intro w9 hSw; obtain ⟨y0, y1, y2, y3, y4, y5, y6⟩ := HBX.out w9 hSw; clear hSw; go_simp; (try with_reducible rfl))
  (try simp only [Act.put, List.setIfInBounds_toArray, List.set_cons_zero, List.set_cons_succ])
  refine wpAnyH_take (i := 8) (oi := { dst := some 45, op := _, type := _, pos := _, after := _, guard := _ }) (v := ?_) rfl (by kernel_rfl) (by kernel_rfl) (by kernel_rfl) (fun _ _ _ h => h) (Or.inl ⟨by rfl, ?_⟩) (by assumption) ?_
  rotate_left
  · (intro w9 hSw; clear hSw; go_simp; (try with_reducible rfl))
  (try simp only [Act.put, List.setIfInBounds_toArray, List.set_cons_zero, List.set_cons_succ])
  refine wpAnyH_take (i := 9) (oi := { dst := some 46, op := _, type := _, pos := _, after := _, guard := _ }) (v := ?_) rfl (by kernel_rfl) (by kernel_rfl) (by kernel_rfl) (fun _ _ _ h => h) (Or.inl ⟨by rfl, ?_⟩) (by assumption) ?_
  rotate_left
  · (intro w9 hSw; clear hSw; go_simp; (try with_reducible rfl))
  (try simp only [Act.put, List.setIfInBounds_toArray, List.set_cons_zero, List.set_cons_succ])
  refine wpAnyH_ready (rs := [5]) (by kernel_rfl) (by simp) ?_
  refine AllReadyH.cons (o := { dst := some 42, op := _, type := _, pos := _, after := _, guard := _ }) rfl (fun K hK => ?_) AllReadyH.nil
  go_simp
  refine hK.out _ _ ?_ (fun hHeld => ?_)
  · (first | exact HAA.out | exact Chg.alloc hHeld _ | exact Chg.setCell (S := fun j => j = rb) HAA.out (p := ⟨rb, 0, none⟩) (.inl rfl) _)
  clear hK K
  (try simp only [Act.put, List.setIfInBounds_toArray, List.set_cons_zero, List.set_cons_succ])
  refine wpAnyH_ready (rs := [10]) (by kernel_rfl) (by simp) ?_
  refine AllReadyH.cons (o := { dst := some 47, op := _, type := _, pos := _, after := _, guard := _ }) rfl (fun K hK => ?_) AllReadyH.nil
  go_simp
  refine hK.out _ _ ?_ (fun hHeld => ?_)
  · (first | exact HAA.out | exact Chg.alloc hHeld _ | exact Chg.setCell (S := fun j => j = rb) HAA.out (p := ⟨rb, 0, none⟩) (.inl rfl) _)
  clear hK K
  (try simp only [Act.put, List.setIfInBounds_toArray, List.set_cons_zero, List.set_cons_succ])
  refine wpAnyH_ready (rs := [11]) (by kernel_rfl) (by simp) ?_
  refine AllReadyH.cons (o := { dst := some 48, op := _, type := _, pos := _, after := _, guard := _ }) rfl (fun K hK => ?_) AllReadyH.nil
  go_simp
  refine HCO.out.mono ?_
  rintro e wA ⟨v, rfl, ho, kA⟩
  obtain ⟨va, nv, vc, hv⟩ : ∃ va nv vc, v = Value.slice va nv vc := by obtain ⟨va, vc, hv, _, _⟩ := OwnQ.form ho; exact ⟨va, _, vc, hv⟩
  subst hv
  have HOW := hidMk ho
  have HAA := hidMk (show Chg (fun j => j = rb) W1 wA from hHeld.trans (Chg.of_kept kA))
  have HKA := hidMk (show Kept W1 wA from (((HK4.out.drew).alloc _).alloc _).trans kA)
  clear ho kA
  (try go_wp2_with fail)
  refine hK.out _ _ ?_ (fun hHeld => ?_)
  · (first | exact HAA.out | exact Chg.alloc hHeld _ | exact Chg.setCell (S := fun j => j = rb) HAA.out (p := ⟨rb, 0, none⟩) (.inl rfl) _)
  clear hK K
  (try simp only [Act.put, List.setIfInBounds_toArray, List.set_cons_zero, List.set_cons_succ])
  refine wpAnyH_take (i := 12) (oi := { dst := some 49, op := _, type := _, pos := _, after := _, guard := _ }) (v := ?_) rfl (by kernel_rfl) (by kernel_rfl) (by kernel_rfl) (fun _ _ _ h => h) (Or.inl ⟨by rfl, ?_⟩) (by assumption) ?_
  rotate_left
  · (intro w9 hSw; clear hSw; go_simp; (try with_reducible rfl))
  (try simp only [Act.put, List.setIfInBounds_toArray, List.set_cons_zero, List.set_cons_succ])
  refine wpAnyH_ready (rs := [13]) (by kernel_rfl) (by simp) ?_
  refine AllReadyH.cons (o := { dst := none, op := _, type := _, pos := _, after := _, guard := _ }) rfl (fun K hK => ?_) AllReadyH.nil
  have rc := HKA.out.cellp HRB.out.1
  have rf := (HKA.out.frozen (p := ⟨rb, 0, none⟩) HRN.out.2).trans HRB.out.2
  go_simp
  clear rc rf
  refine hK.out _ _ ?_ (fun hHeld => ?_)
  · (first | exact HAA.out | exact Chg.alloc hHeld _ | exact Chg.setCell (S := fun j => j = rb) HAA.out (p := ⟨rb, 0, none⟩) (.inl rfl) _)
  clear hK K
  (try simp only [Act.put, List.setIfInBounds_toArray, List.set_cons_zero, List.set_cons_succ])
  refine wpAnyH_take (i := 14) (oi := { dst := some 7, op := _, type := _, pos := _, after := _, guard := _ }) (v := ?_) rfl (by kernel_rfl) (by kernel_rfl) (by kernel_rfl) (fun _ _ _ h => h) (Or.inl ⟨by rfl, ?_⟩) (by assumption) ?_
  rotate_left
  · (intro w9 hSw; clear hSw; go_simp; (try with_reducible rfl))
  (try simp only [Act.put, List.setIfInBounds_toArray, List.set_cons_zero, List.set_cons_succ])
  refine wpAnyH_done (by kernel_rfl) ?_ _
  have HCF := hidMk hHeld
  clear hHeld
  go_wp2_with fail
  refine bodyPost_ret (v := .tuple #[.agg #[.slice va nv vc], .int .i64 0]) ?_ rfl ⟨.slice va nv vc, _, rfl, ⟨0, Nat.le_refl _, fun k hk => absurd hk (by omega), fun k _ hk => absurd hk (by simp), rfl⟩, ?_, ?_⟩
  · simp only [results, show Tryz.f11.results = #[.cell 6 37, .tmp 7] from rfl]
    have rc : (wA.setCell ⟨rb, 0, none⟩ (.slice va nv vc)).cell? ⟨rb, 0, none⟩ = some (.slice va nv vc) := World.cell?_setCell_same _ _ _ (HKA.out.cellp HRB.out.1)
    have rl := hold_load rc
    go_simp
  · have hown : ∀ g, (Value.slice va nv vc).ownBlock = some g → ¬ g = rb := fun g hg e => by
      have h1 := (World.ownsRow.lt HOW.out g hg).1
      have h2 := HRN.out.2
      have h3 := HK4.out.size
      rw [World.size_alloc, World.size_alloc] at h1
      have h4 : w4.drew.heap.size = w4.heap.size := rfl
      omega
    have h9 := ownsRow_base (ownsRow_chg HOW.out (S := fun j => j = rb) ((Chg.refl (fun j => j = rb) wA).setCell (p := ⟨rb, 0, none⟩) (.inl rfl) (.slice va nv vc)) hown) (show w.heap.size ≤ _ from Nat.le_trans HK1.out.size (Nat.le_trans HK4.out.size (((((Kept.refl w4).drew).alloc _).alloc _).size)))
    have hcat : catN (p3 ([] : List Cl) [x] ([] : List Cl)) 3 = [x] := by simp [catN, List.range_succ, p3]
    rw [hcat] at h9
    exact h9
  · exact Chg.kept HK1.out HCF.out (fun j e => by have := HRN.out.1; omega)
end
end Go.Proofs.YtpkepkemjcjplaaGreat
