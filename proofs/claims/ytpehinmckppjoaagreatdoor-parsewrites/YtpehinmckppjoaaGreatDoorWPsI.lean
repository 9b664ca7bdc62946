/- parse.fields, for a writer. -/
import Derived.Test.YtpehinmckppjoaaGreatDoorWPsHB
import Derived.Test.YtpehinmckppjoaaGreatDoorWPs8
import Derived.Handy
namespace Go.Proofs.YtpehinmckppjoaaGreatDoor
open Go.RowKit Go.Maps
set_option linter.unusedSimpArgs false
set_option linter.unusedVariables false

section
variable {w0 W : World} {pr px pd : Nat} {ms : List ByteArray} {ds : List Dm} {x : Cm} {v : Value} {l : List ByteArray}
set_option maxHeartbeats 4000000 in
set_option maxRecDepth 100000 in
theorem wr_fields_2 (hX : WX w0 pd ms ds) (hS : WS w0 W pr px pd x v l) (hx : XOk x) (hl : l.length ≤ 1) (hk : x.k = 2 ∨ x.k = 3 ∨ x.k = 11) :
    Calls Tryz.prog 26 #[wrV pr, .pointer (some ⟨px, 0, none⟩)] W (WrPost w0 W pr px pd x v l (foldW ms ds [115, 99] x)) := by
  have HS := hidMk hS
  have HX := hidMk hX
  have HXO := hidMk hx
  have HL := hidMk hl
  have x0 := hS.x 0 _ rfl
  have hmf : ∀ fn first cap w, (Instr.makeFunc fn first cap).run Tryz.prog w = .ok (.func fn first cap) w := fun _ _ _ _ => rfl
  have hna1 : ∀ n w, (nilAhead (n + 1) 83 (.pointer (some ⟨pr, 0, none⟩)) "moiety/parse.cell").run Tryz.prog w = .ok (some false) w := fun n w => by kernel_rfl
  have hna2 : ∀ n w, (nilAhead (n + 1) 83 (.pointer (some ⟨pr, 0, none⟩)) "moiety/parse.num").run Tryz.prog w = .ok (some false) w := fun n w => by kernel_rfl
  have hna3 : ∀ n w, (nilAhead (n + 1) 83 (.pointer (some ⟨pr, 0, none⟩)) "moiety/parse.choice").run Tryz.prog w = .ok (some false) w := fun n w => by kernel_rfl
  have hna4 : ∀ n w, (nilAhead (n + 1) 83 (.pointer (some ⟨pr, 0, none⟩)) "moiety/parse.dim").run Tryz.prog w = .ok (some false) w := fun n w => by kernel_rfl
  have hna5 : ∀ n w, (nilAhead (n + 1) 83 (.pointer (some ⟨pr, 0, none⟩)) "moiety/parse.meas").run Tryz.prog w = .ok (some false) w := fun n w => by kernel_rfl
  obtain ⟨R, hR⟩ : ∃ R, foldW ms ds [115, 99] x = R := ⟨_, rfl⟩
  rw [hR]
  have HF := hidMk ((cat_nil _).trans hR)
  unfold wrV
  clear hX hS hR hx hl
  rcases hk with hk | hk | hk
  all_goals
    rw [hk] at x0
    go_enter Tryz.func26, Tryz.ntmps26
    have HH0 := hidMk (WC.of_kept (pr := pr) (v := v) (Kept.refl W))
    have HN0 := hidMk (show ([] : List ByteArray).length ≤ 0 from Nat.le_refl _)
    have HS0 := hidMk (show WS w0 W pr px pd x v (l ++ []) by rw [List.append_nil]; exact HS.out)
    obtain ⟨r0, hr0⟩ : ∃ r, foldW ms ds [115] x = r := ⟨_, rfl⟩
    have HF0 := hidMk (show catW (some []) (catW r0 (foldW ms ds [99] x)) = R by rw [← hr0, ← foldW_app]; exact HF.out)
    have HM0 := hidMk (show ∀ m, r0 = some m → m.length ≤ 2 from fun m h => foldW_len _ m (hr0.trans h))
    have HC0 := hidMk (show ∀ o t y, o = .cells #[.pointer (some ⟨px, 2, none⟩)] t → Kept (W.alloc o) y → Calls Tryz.prog 50 #[.iface 83 (.pointer (some ⟨pr, 0, none⟩)), .slice (some ⟨W.heap.size, 0, none⟩) 1 1] y (WrPost w0 W pr px pd x v (l ++ []) r0) from fun o t y ho hy => by subst ho; rw [← hr0]; exact wr_nmA HS0.out HXO.out (by have h1 := HN0.out; have h2 := HL.out; rw [List.length_append]; omega) [115] (by decide) (by simp [isNm]) t y hy)
    clear hr0 HF
    go_wp2_with fail
    refine (HC0.out _ _ _ rfl (by (repeat (first | (with_reducible exact Kept.refl _) | (with_reducible refine Kept.alloc ?_ _) | (with_reducible refine Kept.drew ?_) | (with_reducible refine Kept.drewN ?_ _))))).mono ?_
    rintro e w1 hp
    rcases r0 with _ | m0
    · obtain ⟨rfl, vq, hc⟩ := hp
      have HZ := hidMk (HH0.out.trans hc)
      clear hc
      go_wp2_with fail
      exact ⟨rfl, wr_fail ⟨_, HZ.out⟩ HF0.out⟩
    obtain ⟨rfl, v1, hs, hc⟩ := hp
    have HS1 := hidMk (show WS w0 w1 pr px pd x v1 (l ++ ([] ++ m0)) by rw [← List.append_assoc]; exact hs)
    have HH1 := hidMk (HH0.out.trans hc)
    have HG1 := hidMk (show catW (some ([] ++ m0)) (foldW ms ds [99] x) = R from cat_more.symm.trans HF0.out)
    have HN1 := hidMk (show ([] ++ m0).length ≤ 2 by have h1 := HN0.out; have h2 := HM0.out m0 rfl; rw [List.length_append]; omega)
    clear hs hc HF0 HC0 HM0
    obtain ⟨r1, hr1⟩ : ∃ r, oneW ms ds 99 x = r := ⟨_, rfl⟩
    have HF1 := hidMk (show catW (some ([] ++ m0)) (catW r1 (foldW ms ds [] x)) = R by rw [← hr1]; exact HG1.out)
    have HM1 := hidMk (show ∀ m, r1 = some m → m.length ≤ 2 from fun m h => oneW_len (hr1.trans h))
    have HC1 := hidMk (show ∀ y, Kept w1 y → Calls Tryz.prog 179 #[.pointer (some ⟨pr, 0, none⟩), .pointer (some ⟨px, 4, none⟩)] y (WrPost w0 w1 pr px pd x v1 (l ++ ([] ++ m0)) r1) from fun y hy => by rw [← hr1, oneW_cell]; exact wr_from hy (wr_cell HX.out (HS1.out.keep hy) (by have h1 := HN1.out; have h2 := HL.out; rw [List.length_append]; omega)))
    clear hr1 HG1
    go_wp2_with fail
    refine wp_region_held_drew (S := (fun _ => True)) (by kernel_rfl) ?_ (fun hHeld => ?_)
    · trivial
    refine wpAnyH_take (i := 0) (oi := { dst := some 67, op := _, type := _, pos := _, after := _, guard := _ }) (v := ?_) rfl (by kernel_rfl) (by kernel_rfl) (by kernel_rfl) (fun _ _ _ h => h) (Or.inl ⟨by rfl, ?_⟩) (by assumption) ?_
    rotate_left
    · (intro w hSw; go_simp; (try with_reducible rfl))
    (try simp only [Act.put, List.setIfInBounds_toArray, List.set_cons_zero, List.set_cons_succ])
    refine wpAnyH_take (i := 1) (oi := { dst := some 68, op := _, type := _, pos := _, after := _, guard := _ }) (v := ?_) rfl (by kernel_rfl) (by kernel_rfl) (by kernel_rfl) (fun _ _ _ h => h) (Or.inl ⟨by rfl, ?_⟩) (by assumption) ?_
    rotate_left
    · (intro w hSw; go_simp; (try with_reducible rfl))
    (try simp only [Act.put, List.setIfInBounds_toArray, List.set_cons_zero, List.set_cons_succ])
    refine wpAnyH_take (i := 2) (oi := { dst := some 69, op := _, type := _, pos := _, after := _, guard := _ }) (v := ?_) rfl (by kernel_rfl) (by kernel_rfl) (by kernel_rfl) (fun _ _ _ h => h) (Or.inl ⟨by rfl, ?_⟩) (by assumption) ?_
    rotate_left
    · (intro w hSw; go_simp; (try with_reducible rfl))
    (try simp only [Act.put, List.setIfInBounds_toArray, List.set_cons_zero, List.set_cons_succ])
    refine wpAnyH_take (i := 3) (oi := { dst := some 70, op := _, type := _, pos := _, after := _, guard := _ }) (v := ?_) rfl (by kernel_rfl) (by kernel_rfl) (by kernel_rfl) (fun _ _ _ h => h) (Or.inl ⟨by rfl, ?_⟩) (by assumption) ?_
    rotate_left
    · (intro w hSw; go_simp; (try with_reducible rfl))
    (try simp only [Act.put, List.setIfInBounds_toArray, List.set_cons_zero, List.set_cons_succ])
    refine wpAnyH_take (i := 4) (oi := { dst := some 71, op := _, type := _, pos := _, after := _, guard := _ }) (v := ?_) rfl (by kernel_rfl) (by kernel_rfl) (by kernel_rfl) (fun _ _ _ h => h) (Or.inl ⟨by rfl, ?_⟩) (by assumption) ?_
    rotate_left
    · (intro w hSw; go_simp; (try with_reducible rfl))
    (try simp only [Act.put, List.setIfInBounds_toArray, List.set_cons_zero, List.set_cons_succ])
    refine wpAnyH_take (i := 5) (oi := { dst := some 72, op := _, type := _, pos := _, after := _, guard := _ }) (v := ?_) rfl (by kernel_rfl) (by kernel_rfl) (by kernel_rfl) (fun _ _ _ h => h) (Or.inl ⟨by rfl, ?_⟩) (by assumption) ?_
    rotate_left
    · (intro w hSw; go_simp; (try with_reducible rfl))
    (try simp only [Act.put, List.setIfInBounds_toArray, List.set_cons_zero, List.set_cons_succ])
    refine wpAnyH_take (i := 6) (oi := { dst := some 73, op := _, type := _, pos := _, after := _, guard := _ }) (v := ?_) rfl (by kernel_rfl) (by kernel_rfl) (by kernel_rfl) (fun _ _ _ h => h) (Or.inl ⟨by rfl, ?_⟩) (by assumption) ?_
    rotate_left
    · (intro w hSw; go_simp; (try with_reducible rfl))
    (try simp only [Act.put, List.setIfInBounds_toArray, List.set_cons_zero, List.set_cons_succ])
    refine wpAnyH_ready (rs := [7]) (by kernel_rfl) (by simp) ?_
    refine AllReadyH.cons (o := { dst := some 74, op := _, type := _, pos := _, after := _, guard := _ }) rfl (fun K hK => ?_) AllReadyH.nil
    go_simp
    (try (go_invoke; go_simp))
    refine (HC1.out _ (by (repeat (first | (with_reducible exact Kept.refl _) | (with_reducible refine Kept.alloc ?_ _) | (with_reducible refine Kept.drew ?_) | (with_reducible refine Kept.drewN ?_ _))))).mono ?_
    rintro e w2 hp
    rcases r1 with _ | m1
    · obtain ⟨rfl, vq, hc⟩ := hp
      exact ⟨rfl, wr_fail ⟨_, HH1.out.trans hc⟩ HF1.out⟩
    obtain ⟨rfl, v2, hs, hc⟩ := hp
    have HS2 := hidMk (show WS w0 w2 pr px pd x v2 (l ++ (([] ++ m0) ++ m1)) by rw [← List.append_assoc]; exact hs)
    have HH2 := hidMk (HH1.out.trans hc)
    have HG2 := hidMk (show catW (some (([] ++ m0) ++ m1)) (foldW ms ds [] x) = R from cat_more.symm.trans HF1.out)
    have HN2 := hidMk (show (([] ++ m0) ++ m1).length ≤ 4 by have h1 := HN1.out; have h2 := HM1.out m1 rfl; rw [List.length_append]; omega)
    clear hs hc HF1 HC1 HM1
    (try go_wp2_with fail)
    refine hK.out _ _ ?_ (fun hHeld => ?_)
    · trivial
    clear hK K
    (try simp only [Act.put, List.setIfInBounds_toArray, List.set_cons_zero, List.set_cons_succ])
    refine wpAnyH_done (by kernel_rfl) ?_ _
    go_wp2_with fail
    (try go_end0)
    exact wr_done HS2.out HH2.out ((cat_end _).symm.trans HG2.out)
set_option maxHeartbeats 4000000 in
set_option maxRecDepth 100000 in
theorem wr_fields_4 (hX : WX w0 pd ms ds) (hS : WS w0 W pr px pd x v l) (hx : XOk x) (hl : l.length ≤ 1) (hk : x.k = 4 ∨ x.k = 5 ∨ x.k = 12) :
    Calls Tryz.prog 26 #[wrV pr, .pointer (some ⟨px, 0, none⟩)] W (WrPost w0 W pr px pd x v l (foldW ms ds [117, 115, 99] x)) := by
  have HS := hidMk hS
  have HX := hidMk hX
  have HXO := hidMk hx
  have HL := hidMk hl
  have x0 := hS.x 0 _ rfl
  have hmf : ∀ fn first cap w, (Instr.makeFunc fn first cap).run Tryz.prog w = .ok (.func fn first cap) w := fun _ _ _ _ => rfl
  have hna1 : ∀ n w, (nilAhead (n + 1) 83 (.pointer (some ⟨pr, 0, none⟩)) "moiety/parse.cell").run Tryz.prog w = .ok (some false) w := fun n w => by kernel_rfl
  have hna2 : ∀ n w, (nilAhead (n + 1) 83 (.pointer (some ⟨pr, 0, none⟩)) "moiety/parse.num").run Tryz.prog w = .ok (some false) w := fun n w => by kernel_rfl
  have hna3 : ∀ n w, (nilAhead (n + 1) 83 (.pointer (some ⟨pr, 0, none⟩)) "moiety/parse.choice").run Tryz.prog w = .ok (some false) w := fun n w => by kernel_rfl
  have hna4 : ∀ n w, (nilAhead (n + 1) 83 (.pointer (some ⟨pr, 0, none⟩)) "moiety/parse.dim").run Tryz.prog w = .ok (some false) w := fun n w => by kernel_rfl
  have hna5 : ∀ n w, (nilAhead (n + 1) 83 (.pointer (some ⟨pr, 0, none⟩)) "moiety/parse.meas").run Tryz.prog w = .ok (some false) w := fun n w => by kernel_rfl
  obtain ⟨R, hR⟩ : ∃ R, foldW ms ds [117, 115, 99] x = R := ⟨_, rfl⟩
  rw [hR]
  have HF := hidMk ((cat_nil _).trans hR)
  unfold wrV
  clear hX hS hR hx hl
  rcases hk with hk | hk | hk
  all_goals
    rw [hk] at x0
    go_enter Tryz.func26, Tryz.ntmps26
    have HH0 := hidMk (WC.of_kept (pr := pr) (v := v) (Kept.refl W))
    have HN0 := hidMk (show ([] : List ByteArray).length ≤ 0 from Nat.le_refl _)
    have HS0 := hidMk (show WS w0 W pr px pd x v (l ++ []) by rw [List.append_nil]; exact HS.out)
    obtain ⟨r0, hr0⟩ : ∃ r, foldW ms ds [117, 115] x = r := ⟨_, rfl⟩
    have HF0 := hidMk (show catW (some []) (catW r0 (foldW ms ds [99] x)) = R by rw [← hr0, ← foldW_app]; exact HF.out)
    have HM0 := hidMk (show ∀ m, r0 = some m → m.length ≤ 4 from fun m h => foldW_len _ m (hr0.trans h))
    have HC0 := hidMk (show ∀ o t y, o = .cells #[.pointer (some ⟨px, 1, none⟩), .pointer (some ⟨px, 2, none⟩)] t → Kept (W.alloc o) y → Calls Tryz.prog 50 #[.iface 83 (.pointer (some ⟨pr, 0, none⟩)), .slice (some ⟨W.heap.size, 0, none⟩) 2 2] y (WrPost w0 W pr px pd x v (l ++ []) r0) from fun o t y ho hy => by subst ho; rw [← hr0]; exact wr_nmA HS0.out HXO.out (by have h1 := HN0.out; have h2 := HL.out; rw [List.length_append]; omega) [117, 115] (by decide) (by simp [isNm]) t y hy)
    clear hr0 HF
    go_wp2_with fail
    refine wp_region_held_drew (S := (fun _ => True)) (by kernel_rfl) ?_ (fun hHeld => ?_)
    · trivial
    refine wpAnyH_take (i := 0) (oi := { dst := some 79, op := _, type := _, pos := _, after := _, guard := _ }) (v := ?_) rfl (by kernel_rfl) (by kernel_rfl) (by kernel_rfl) (fun _ _ _ h => h) (Or.inl ⟨by rfl, ?_⟩) (by assumption) ?_
    rotate_left
    · (intro w hSw; go_simp; (try with_reducible rfl))
    (try simp only [Act.put, List.setIfInBounds_toArray, List.set_cons_zero, List.set_cons_succ])
    refine wpAnyH_take (i := 1) (oi := { dst := some 80, op := _, type := _, pos := _, after := _, guard := _ }) (v := ?_) rfl (by kernel_rfl) (by kernel_rfl) (by kernel_rfl) (fun _ _ _ h => h) (Or.inl ⟨by rfl, ?_⟩) (by assumption) ?_
    rotate_left
    · (intro w hSw; go_simp; (try with_reducible rfl))
    (try simp only [Act.put, List.setIfInBounds_toArray, List.set_cons_zero, List.set_cons_succ])
    refine wpAnyH_take (i := 2) (oi := { dst := some 81, op := _, type := _, pos := _, after := _, guard := _ }) (v := ?_) rfl (by kernel_rfl) (by kernel_rfl) (by kernel_rfl) (fun _ _ _ h => h) (Or.inl ⟨by rfl, ?_⟩) (by assumption) ?_
    rotate_left
    · (intro w hSw; go_simp; (try with_reducible rfl))
    (try simp only [Act.put, List.setIfInBounds_toArray, List.set_cons_zero, List.set_cons_succ])
    refine wpAnyH_take (i := 3) (oi := { dst := some 82, op := _, type := _, pos := _, after := _, guard := _ }) (v := ?_) rfl (by kernel_rfl) (by kernel_rfl) (by kernel_rfl) (fun _ _ _ h => h) (Or.inl ⟨by rfl, ?_⟩) (by assumption) ?_
    rotate_left
    · (intro w hSw; go_simp; (try with_reducible rfl))
    (try simp only [Act.put, List.setIfInBounds_toArray, List.set_cons_zero, List.set_cons_succ])
    refine wpAnyH_take (i := 4) (oi := { dst := some 83, op := _, type := _, pos := _, after := _, guard := _ }) (v := ?_) rfl (by kernel_rfl) (by kernel_rfl) (by kernel_rfl) (fun _ _ _ h => h) (Or.inl ⟨by rfl, ?_⟩) (by assumption) ?_
    rotate_left
    · (intro w hSw; go_simp; (try with_reducible rfl))
    (try simp only [Act.put, List.setIfInBounds_toArray, List.set_cons_zero, List.set_cons_succ])
    refine wpAnyH_take (i := 5) (oi := { dst := some 84, op := _, type := _, pos := _, after := _, guard := _ }) (v := ?_) rfl (by kernel_rfl) (by kernel_rfl) (by kernel_rfl) (fun _ _ _ h => h) (Or.inl ⟨by rfl, ?_⟩) (by assumption) ?_
    rotate_left
    · (intro w hSw; go_simp; (try with_reducible rfl))
    (try simp only [Act.put, List.setIfInBounds_toArray, List.set_cons_zero, List.set_cons_succ])
    refine wpAnyH_take (i := 6) (oi := { dst := some 85, op := _, type := _, pos := _, after := _, guard := _ }) (v := ?_) rfl (by kernel_rfl) (by kernel_rfl) (by kernel_rfl) (fun _ _ _ h => h) (Or.inl ⟨by rfl, ?_⟩) (by assumption) ?_
    rotate_left
    · (intro w hSw; go_simp; (try with_reducible rfl))
    (try simp only [Act.put, List.setIfInBounds_toArray, List.set_cons_zero, List.set_cons_succ])
    refine wpAnyH_ready (rs := [7]) (by kernel_rfl) (by simp) ?_
    refine AllReadyH.cons (o := { dst := some 86, op := _, type := _, pos := _, after := _, guard := _ }) rfl (fun K hK => ?_) AllReadyH.nil
    go_simp
    refine hK.out _ _ ?_ (fun hHeld => ?_)
    · trivial
    clear hK K
    (try simp only [Act.put, List.setIfInBounds_toArray, List.set_cons_zero, List.set_cons_succ])
    refine wpAnyH_ready (rs := [8]) (by kernel_rfl) (by simp) ?_
    refine AllReadyH.cons (o := { dst := some 87, op := _, type := _, pos := _, after := _, guard := _ }) rfl (fun K hK => ?_) AllReadyH.nil
    go_simp
    (try (go_invoke; go_simp))
    refine (HC0.out _ _ _ rfl (by (repeat (first | (with_reducible exact Kept.refl _) | (with_reducible refine Kept.alloc ?_ _) | (with_reducible refine Kept.drew ?_) | (with_reducible refine Kept.drewN ?_ _))))).mono ?_
    rintro e w1 hp
    rcases r0 with _ | m0
    · obtain ⟨rfl, vq, hc⟩ := hp
      exact ⟨rfl, wr_fail ⟨_, HH0.out.trans hc⟩ HF0.out⟩
    obtain ⟨rfl, v1, hs, hc⟩ := hp
    have HS1 := hidMk (show WS w0 w1 pr px pd x v1 (l ++ ([] ++ m0)) by rw [← List.append_assoc]; exact hs)
    have HH1 := hidMk (HH0.out.trans hc)
    have HG1 := hidMk (show catW (some ([] ++ m0)) (foldW ms ds [99] x) = R from cat_more.symm.trans HF0.out)
    have HN1 := hidMk (show ([] ++ m0).length ≤ 4 by have h1 := HN0.out; have h2 := HM0.out m0 rfl; rw [List.length_append]; omega)
    clear hs hc HF0 HC0 HM0
    (try go_wp2_with fail)
    refine hK.out _ _ ?_ (fun hHeld => ?_)
    · trivial
    clear hK K
    (try simp only [Act.put, List.setIfInBounds_toArray, List.set_cons_zero, List.set_cons_succ])
    refine wpAnyH_done (by kernel_rfl) ?_ _
    obtain ⟨r1, hr1⟩ : ∃ r, oneW ms ds 99 x = r := ⟨_, rfl⟩
    have HF1 := hidMk (show catW (some ([] ++ m0)) (catW r1 (foldW ms ds [] x)) = R by rw [← hr1]; exact HG1.out)
    have HM1 := hidMk (show ∀ m, r1 = some m → m.length ≤ 2 from fun m h => oneW_len (hr1.trans h))
    have HC1 := hidMk (show ∀ y, Kept w1 y → Calls Tryz.prog 179 #[.pointer (some ⟨pr, 0, none⟩), .pointer (some ⟨px, 4, none⟩)] y (WrPost w0 w1 pr px pd x v1 (l ++ ([] ++ m0)) r1) from fun y hy => by rw [← hr1, oneW_cell]; exact wr_from hy (wr_cell HX.out (HS1.out.keep hy) (by have h1 := HN1.out; have h2 := HL.out; rw [List.length_append]; omega)))
    clear hr1 HG1
    go_wp2_with fail
    refine wp_region_held_drew (S := (fun _ => True)) (by kernel_rfl) ?_ (fun hHeld => ?_)
    · trivial
    refine wpAnyH_take (i := 0) (oi := { dst := some 88, op := _, type := _, pos := _, after := _, guard := _ }) (v := ?_) rfl (by kernel_rfl) (by kernel_rfl) (by kernel_rfl) (fun _ _ _ h => h) (Or.inl ⟨by rfl, ?_⟩) (by assumption) ?_
    rotate_left
    · (intro w hSw; go_simp; (try with_reducible rfl))
    (try simp only [Act.put, List.setIfInBounds_toArray, List.set_cons_zero, List.set_cons_succ])
    refine wpAnyH_take (i := 1) (oi := { dst := some 89, op := _, type := _, pos := _, after := _, guard := _ }) (v := ?_) rfl (by kernel_rfl) (by kernel_rfl) (by kernel_rfl) (fun _ _ _ h => h) (Or.inl ⟨by rfl, ?_⟩) (by assumption) ?_
    rotate_left
    · (intro w hSw; go_simp; (try with_reducible rfl))
    (try simp only [Act.put, List.setIfInBounds_toArray, List.set_cons_zero, List.set_cons_succ])
    refine wpAnyH_take (i := 2) (oi := { dst := some 90, op := _, type := _, pos := _, after := _, guard := _ }) (v := ?_) rfl (by kernel_rfl) (by kernel_rfl) (by kernel_rfl) (fun _ _ _ h => h) (Or.inl ⟨by rfl, ?_⟩) (by assumption) ?_
    rotate_left
    · (intro w hSw; go_simp; (try with_reducible rfl))
    (try simp only [Act.put, List.setIfInBounds_toArray, List.set_cons_zero, List.set_cons_succ])
    refine wpAnyH_take (i := 3) (oi := { dst := some 91, op := _, type := _, pos := _, after := _, guard := _ }) (v := ?_) rfl (by kernel_rfl) (by kernel_rfl) (by kernel_rfl) (fun _ _ _ h => h) (Or.inl ⟨by rfl, ?_⟩) (by assumption) ?_
    rotate_left
    · (intro w hSw; go_simp; (try with_reducible rfl))
    (try simp only [Act.put, List.setIfInBounds_toArray, List.set_cons_zero, List.set_cons_succ])
    refine wpAnyH_take (i := 4) (oi := { dst := some 92, op := _, type := _, pos := _, after := _, guard := _ }) (v := ?_) rfl (by kernel_rfl) (by kernel_rfl) (by kernel_rfl) (fun _ _ _ h => h) (Or.inl ⟨by rfl, ?_⟩) (by assumption) ?_
    rotate_left
    · (intro w hSw; go_simp; (try with_reducible rfl))
    (try simp only [Act.put, List.setIfInBounds_toArray, List.set_cons_zero, List.set_cons_succ])
    refine wpAnyH_take (i := 5) (oi := { dst := some 93, op := _, type := _, pos := _, after := _, guard := _ }) (v := ?_) rfl (by kernel_rfl) (by kernel_rfl) (by kernel_rfl) (fun _ _ _ h => h) (Or.inl ⟨by rfl, ?_⟩) (by assumption) ?_
    rotate_left
    · (intro w hSw; go_simp; (try with_reducible rfl))
    (try simp only [Act.put, List.setIfInBounds_toArray, List.set_cons_zero, List.set_cons_succ])
    refine wpAnyH_take (i := 6) (oi := { dst := some 94, op := _, type := _, pos := _, after := _, guard := _ }) (v := ?_) rfl (by kernel_rfl) (by kernel_rfl) (by kernel_rfl) (fun _ _ _ h => h) (Or.inl ⟨by rfl, ?_⟩) (by assumption) ?_
    rotate_left
    · (intro w hSw; go_simp; (try with_reducible rfl))
    (try simp only [Act.put, List.setIfInBounds_toArray, List.set_cons_zero, List.set_cons_succ])
    refine wpAnyH_ready (rs := [7]) (by kernel_rfl) (by simp) ?_
    refine AllReadyH.cons (o := { dst := some 95, op := _, type := _, pos := _, after := _, guard := _ }) rfl (fun K hK => ?_) AllReadyH.nil
    go_simp
    (try (go_invoke; go_simp))
    refine (HC1.out _ (by (repeat (first | (with_reducible exact Kept.refl _) | (with_reducible refine Kept.alloc ?_ _) | (with_reducible refine Kept.drew ?_) | (with_reducible refine Kept.drewN ?_ _))))).mono ?_
    rintro e w2 hp
    rcases r1 with _ | m1
    · obtain ⟨rfl, vq, hc⟩ := hp
      exact ⟨rfl, wr_fail ⟨_, HH1.out.trans hc⟩ HF1.out⟩
    obtain ⟨rfl, v2, hs, hc⟩ := hp
    have HS2 := hidMk (show WS w0 w2 pr px pd x v2 (l ++ (([] ++ m0) ++ m1)) by rw [← List.append_assoc]; exact hs)
    have HH2 := hidMk (HH1.out.trans hc)
    have HG2 := hidMk (show catW (some (([] ++ m0) ++ m1)) (foldW ms ds [] x) = R from cat_more.symm.trans HF1.out)
    have HN2 := hidMk (show (([] ++ m0) ++ m1).length ≤ 6 by have h1 := HN1.out; have h2 := HM1.out m1 rfl; rw [List.length_append]; omega)
    clear hs hc HF1 HC1 HM1
    (try go_wp2_with fail)
    refine hK.out _ _ ?_ (fun hHeld => ?_)
    · trivial
    clear hK K
    (try simp only [Act.put, List.setIfInBounds_toArray, List.set_cons_zero, List.set_cons_succ])
    refine wpAnyH_done (by kernel_rfl) ?_ _
    go_wp2_with fail
    (try go_end0)
    exact wr_done HS2.out HH2.out ((cat_end _).symm.trans HG2.out)
set_option maxHeartbeats 4000000 in
set_option maxRecDepth 100000 in
theorem wr_fields_17 (hX : WX w0 pd ms ds) (hS : WS w0 W pr px pd x v l) (hx : XOk x) (hl : l.length ≤ 1) (hk : x.k = 17) :
    Calls Tryz.prog 26 #[wrV pr, .pointer (some ⟨px, 0, none⟩)] W (WrPost w0 W pr px pd x v l (foldW ms ds [115, 99, 100] x)) := by
  have HS := hidMk hS
  have HX := hidMk hX
  have HXO := hidMk hx
  have HL := hidMk hl
  have x0 := hS.x 0 _ rfl
  have hmf : ∀ fn first cap w, (Instr.makeFunc fn first cap).run Tryz.prog w = .ok (.func fn first cap) w := fun _ _ _ _ => rfl
  have hna1 : ∀ n w, (nilAhead (n + 1) 83 (.pointer (some ⟨pr, 0, none⟩)) "moiety/parse.cell").run Tryz.prog w = .ok (some false) w := fun n w => by kernel_rfl
  have hna2 : ∀ n w, (nilAhead (n + 1) 83 (.pointer (some ⟨pr, 0, none⟩)) "moiety/parse.num").run Tryz.prog w = .ok (some false) w := fun n w => by kernel_rfl
  have hna3 : ∀ n w, (nilAhead (n + 1) 83 (.pointer (some ⟨pr, 0, none⟩)) "moiety/parse.choice").run Tryz.prog w = .ok (some false) w := fun n w => by kernel_rfl
  have hna4 : ∀ n w, (nilAhead (n + 1) 83 (.pointer (some ⟨pr, 0, none⟩)) "moiety/parse.dim").run Tryz.prog w = .ok (some false) w := fun n w => by kernel_rfl
  have hna5 : ∀ n w, (nilAhead (n + 1) 83 (.pointer (some ⟨pr, 0, none⟩)) "moiety/parse.meas").run Tryz.prog w = .ok (some false) w := fun n w => by kernel_rfl
  obtain ⟨R, hR⟩ : ∃ R, foldW ms ds [115, 99, 100] x = R := ⟨_, rfl⟩
  rw [hR]
  have HF := hidMk ((cat_nil _).trans hR)
  unfold wrV
  clear hX hS hR hx hl
  all_goals
    rw [hk] at x0
    go_enter Tryz.func26, Tryz.ntmps26
    have HH0 := hidMk (WC.of_kept (pr := pr) (v := v) (Kept.refl W))
    have HN0 := hidMk (show ([] : List ByteArray).length ≤ 0 from Nat.le_refl _)
    have HS0 := hidMk (show WS w0 W pr px pd x v (l ++ []) by rw [List.append_nil]; exact HS.out)
    obtain ⟨r0, hr0⟩ : ∃ r, foldW ms ds [115] x = r := ⟨_, rfl⟩
    have HF0 := hidMk (show catW (some []) (catW r0 (foldW ms ds [99, 100] x)) = R by rw [← hr0, ← foldW_app]; exact HF.out)
    have HM0 := hidMk (show ∀ m, r0 = some m → m.length ≤ 2 from fun m h => foldW_len _ m (hr0.trans h))
    have HC0 := hidMk (show ∀ o t y, o = .cells #[.pointer (some ⟨px, 2, none⟩)] t → Kept (W.alloc o) y → Calls Tryz.prog 50 #[.iface 83 (.pointer (some ⟨pr, 0, none⟩)), .slice (some ⟨W.heap.size, 0, none⟩) 1 1] y (WrPost w0 W pr px pd x v (l ++ []) r0) from fun o t y ho hy => by subst ho; rw [← hr0]; exact wr_nmA HS0.out HXO.out (by have h1 := HN0.out; have h2 := HL.out; rw [List.length_append]; omega) [115] (by decide) (by simp [isNm]) t y hy)
    clear hr0 HF
    go_wp2_with fail
    refine (HC0.out _ _ _ rfl (by (repeat (first | (with_reducible exact Kept.refl _) | (with_reducible refine Kept.alloc ?_ _) | (with_reducible refine Kept.drew ?_) | (with_reducible refine Kept.drewN ?_ _))))).mono ?_
    rintro e w1 hp
    rcases r0 with _ | m0
    · obtain ⟨rfl, vq, hc⟩ := hp
      have HZ := hidMk (HH0.out.trans hc)
      clear hc
      go_wp2_with fail
      exact ⟨rfl, wr_fail ⟨_, HZ.out⟩ HF0.out⟩
    obtain ⟨rfl, v1, hs, hc⟩ := hp
    have HS1 := hidMk (show WS w0 w1 pr px pd x v1 (l ++ ([] ++ m0)) by rw [← List.append_assoc]; exact hs)
    have HH1 := hidMk (HH0.out.trans hc)
    have HG1 := hidMk (show catW (some ([] ++ m0)) (foldW ms ds [99, 100] x) = R from cat_more.symm.trans HF0.out)
    have HN1 := hidMk (show ([] ++ m0).length ≤ 2 by have h1 := HN0.out; have h2 := HM0.out m0 rfl; rw [List.length_append]; omega)
    clear hs hc HF0 HC0 HM0
    obtain ⟨r1, hr1⟩ : ∃ r, oneW ms ds 99 x = r := ⟨_, rfl⟩
    have HF1 := hidMk (show catW (some ([] ++ m0)) (catW r1 (foldW ms ds [100] x)) = R by rw [← hr1]; exact HG1.out)
    have HM1 := hidMk (show ∀ m, r1 = some m → m.length ≤ 2 from fun m h => oneW_len (hr1.trans h))
    have HC1 := hidMk (show ∀ y, Kept w1 y → Calls Tryz.prog 179 #[.pointer (some ⟨pr, 0, none⟩), .pointer (some ⟨px, 4, none⟩)] y (WrPost w0 w1 pr px pd x v1 (l ++ ([] ++ m0)) r1) from fun y hy => by rw [← hr1, oneW_cell]; exact wr_from hy (wr_cell HX.out (HS1.out.keep hy) (by have h1 := HN1.out; have h2 := HL.out; rw [List.length_append]; omega)))
    clear hr1 HG1
    go_wp2_with fail
    refine wp_region_held_drew (S := (fun _ => True)) (by kernel_rfl) ?_ (fun hHeld => ?_)
    · trivial
    refine wpAnyH_take (i := 0) (oi := { dst := some 151, op := _, type := _, pos := _, after := _, guard := _ }) (v := ?_) rfl (by kernel_rfl) (by kernel_rfl) (by kernel_rfl) (fun _ _ _ h => h) (Or.inl ⟨by rfl, ?_⟩) (by assumption) ?_
    rotate_left
    · (intro w hSw; go_simp; (try with_reducible rfl))
    (try simp only [Act.put, List.setIfInBounds_toArray, List.set_cons_zero, List.set_cons_succ])
    refine wpAnyH_take (i := 1) (oi := { dst := some 152, op := _, type := _, pos := _, after := _, guard := _ }) (v := ?_) rfl (by kernel_rfl) (by kernel_rfl) (by kernel_rfl) (fun _ _ _ h => h) (Or.inl ⟨by rfl, ?_⟩) (by assumption) ?_
    rotate_left
    · (intro w hSw; go_simp; (try with_reducible rfl))
    (try simp only [Act.put, List.setIfInBounds_toArray, List.set_cons_zero, List.set_cons_succ])
    refine wpAnyH_take (i := 2) (oi := { dst := some 153, op := _, type := _, pos := _, after := _, guard := _ }) (v := ?_) rfl (by kernel_rfl) (by kernel_rfl) (by kernel_rfl) (fun _ _ _ h => h) (Or.inl ⟨by rfl, ?_⟩) (by assumption) ?_
    rotate_left
    · (intro w hSw; go_simp; (try with_reducible rfl))
    (try simp only [Act.put, List.setIfInBounds_toArray, List.set_cons_zero, List.set_cons_succ])
    refine wpAnyH_take (i := 3) (oi := { dst := some 154, op := _, type := _, pos := _, after := _, guard := _ }) (v := ?_) rfl (by kernel_rfl) (by kernel_rfl) (by kernel_rfl) (fun _ _ _ h => h) (Or.inl ⟨by rfl, ?_⟩) (by assumption) ?_
    rotate_left
    · (intro w hSw; go_simp; (try with_reducible rfl))
    (try simp only [Act.put, List.setIfInBounds_toArray, List.set_cons_zero, List.set_cons_succ])
    refine wpAnyH_take (i := 4) (oi := { dst := some 155, op := _, type := _, pos := _, after := _, guard := _ }) (v := ?_) rfl (by kernel_rfl) (by kernel_rfl) (by kernel_rfl) (fun _ _ _ h => h) (Or.inl ⟨by rfl, ?_⟩) (by assumption) ?_
    rotate_left
    · (intro w hSw; go_simp; (try with_reducible rfl))
    (try simp only [Act.put, List.setIfInBounds_toArray, List.set_cons_zero, List.set_cons_succ])
    refine wpAnyH_take (i := 5) (oi := { dst := some 156, op := _, type := _, pos := _, after := _, guard := _ }) (v := ?_) rfl (by kernel_rfl) (by kernel_rfl) (by kernel_rfl) (fun _ _ _ h => h) (Or.inl ⟨by rfl, ?_⟩) (by assumption) ?_
    rotate_left
    · (intro w hSw; go_simp; (try with_reducible rfl))
    (try simp only [Act.put, List.setIfInBounds_toArray, List.set_cons_zero, List.set_cons_succ])
    refine wpAnyH_take (i := 6) (oi := { dst := some 157, op := _, type := _, pos := _, after := _, guard := _ }) (v := ?_) rfl (by kernel_rfl) (by kernel_rfl) (by kernel_rfl) (fun _ _ _ h => h) (Or.inl ⟨by rfl, ?_⟩) (by assumption) ?_
    rotate_left
    · (intro w hSw; go_simp; (try with_reducible rfl))
    (try simp only [Act.put, List.setIfInBounds_toArray, List.set_cons_zero, List.set_cons_succ])
    refine wpAnyH_ready (rs := [7]) (by kernel_rfl) (by simp) ?_
    refine AllReadyH.cons (o := { dst := some 158, op := _, type := _, pos := _, after := _, guard := _ }) rfl (fun K hK => ?_) AllReadyH.nil
    go_simp
    (try (go_invoke; go_simp))
    refine (HC1.out _ (by (repeat (first | (with_reducible exact Kept.refl _) | (with_reducible refine Kept.alloc ?_ _) | (with_reducible refine Kept.drew ?_) | (with_reducible refine Kept.drewN ?_ _))))).mono ?_
    rintro e w2 hp
    rcases r1 with _ | m1
    · obtain ⟨rfl, vq, hc⟩ := hp
      exact ⟨rfl, wr_fail ⟨_, HH1.out.trans hc⟩ HF1.out⟩
    obtain ⟨rfl, v2, hs, hc⟩ := hp
    have HS2 := hidMk (show WS w0 w2 pr px pd x v2 (l ++ (([] ++ m0) ++ m1)) by rw [← List.append_assoc]; exact hs)
    have HH2 := hidMk (HH1.out.trans hc)
    have HG2 := hidMk (show catW (some (([] ++ m0) ++ m1)) (foldW ms ds [100] x) = R from cat_more.symm.trans HF1.out)
    have HN2 := hidMk (show (([] ++ m0) ++ m1).length ≤ 4 by have h1 := HN1.out; have h2 := HM1.out m1 rfl; rw [List.length_append]; omega)
    clear hs hc HF1 HC1 HM1
    (try go_wp2_with fail)
    refine hK.out _ _ ?_ (fun hHeld => ?_)
    · trivial
    clear hK K
    (try simp only [Act.put, List.setIfInBounds_toArray, List.set_cons_zero, List.set_cons_succ])
    refine wpAnyH_done (by kernel_rfl) ?_ _
    obtain ⟨r2, hr2⟩ : ∃ r, oneW ms ds 100 x = r := ⟨_, rfl⟩
    have HF2 := hidMk (show catW (some (([] ++ m0) ++ m1)) (catW r2 (foldW ms ds [] x)) = R by rw [← hr2]; exact HG2.out)
    have HM2 := hidMk (show ∀ m, r2 = some m → m.length ≤ 2 from fun m h => oneW_len (hr2.trans h))
    have HC2 := hidMk (show ∀ y, Kept w2 y → Calls Tryz.prog 181 #[.pointer (some ⟨pr, 0, none⟩), .pointer (some ⟨px, 11, none⟩)] y (WrPost w0 w2 pr px pd x v2 (l ++ (([] ++ m0) ++ m1)) r2) from fun y hy => by rw [← hr2, oneW_dim]; exact wr_from hy (wr_dim HX.out (HS2.out.keep hy) (by have h1 := HN2.out; have h2 := HL.out; rw [List.length_append]; omega)))
    clear hr2 HG2
    go_wp2_with fail
    refine wp_region_held_drew (S := (fun _ => True)) (by kernel_rfl) ?_ (fun hHeld => ?_)
    · trivial
    refine wpAnyH_take (i := 0) (oi := { dst := some 159, op := _, type := _, pos := _, after := _, guard := _ }) (v := ?_) rfl (by kernel_rfl) (by kernel_rfl) (by kernel_rfl) (fun _ _ _ h => h) (Or.inl ⟨by rfl, ?_⟩) (by assumption) ?_
    rotate_left
    · (intro w hSw; go_simp; (try with_reducible rfl))
    (try simp only [Act.put, List.setIfInBounds_toArray, List.set_cons_zero, List.set_cons_succ])
    refine wpAnyH_take (i := 1) (oi := { dst := some 160, op := _, type := _, pos := _, after := _, guard := _ }) (v := ?_) rfl (by kernel_rfl) (by kernel_rfl) (by kernel_rfl) (fun _ _ _ h => h) (Or.inl ⟨by rfl, ?_⟩) (by assumption) ?_
    rotate_left
    · (intro w hSw; go_simp; (try with_reducible rfl))
    (try simp only [Act.put, List.setIfInBounds_toArray, List.set_cons_zero, List.set_cons_succ])
    refine wpAnyH_take (i := 2) (oi := { dst := some 161, op := _, type := _, pos := _, after := _, guard := _ }) (v := ?_) rfl (by kernel_rfl) (by kernel_rfl) (by kernel_rfl) (fun _ _ _ h => h) (Or.inl ⟨by rfl, ?_⟩) (by assumption) ?_
    rotate_left
    · (intro w hSw; go_simp; (try with_reducible rfl))
    (try simp only [Act.put, List.setIfInBounds_toArray, List.set_cons_zero, List.set_cons_succ])
    refine wpAnyH_take (i := 3) (oi := { dst := some 162, op := _, type := _, pos := _, after := _, guard := _ }) (v := ?_) rfl (by kernel_rfl) (by kernel_rfl) (by kernel_rfl) (fun _ _ _ h => h) (Or.inl ⟨by rfl, ?_⟩) (by assumption) ?_
    rotate_left
    · (intro w hSw; go_simp; (try with_reducible rfl))
    (try simp only [Act.put, List.setIfInBounds_toArray, List.set_cons_zero, List.set_cons_succ])
    refine wpAnyH_take (i := 4) (oi := { dst := some 163, op := _, type := _, pos := _, after := _, guard := _ }) (v := ?_) rfl (by kernel_rfl) (by kernel_rfl) (by kernel_rfl) (fun _ _ _ h => h) (Or.inl ⟨by rfl, ?_⟩) (by assumption) ?_
    rotate_left
    · (intro w hSw; go_simp; (try with_reducible rfl))
    (try simp only [Act.put, List.setIfInBounds_toArray, List.set_cons_zero, List.set_cons_succ])
    refine wpAnyH_take (i := 5) (oi := { dst := some 164, op := _, type := _, pos := _, after := _, guard := _ }) (v := ?_) rfl (by kernel_rfl) (by kernel_rfl) (by kernel_rfl) (fun _ _ _ h => h) (Or.inl ⟨by rfl, ?_⟩) (by assumption) ?_
    rotate_left
    · (intro w hSw; go_simp; (try with_reducible rfl))
    (try simp only [Act.put, List.setIfInBounds_toArray, List.set_cons_zero, List.set_cons_succ])
    refine wpAnyH_take (i := 6) (oi := { dst := some 165, op := _, type := _, pos := _, after := _, guard := _ }) (v := ?_) rfl (by kernel_rfl) (by kernel_rfl) (by kernel_rfl) (fun _ _ _ h => h) (Or.inl ⟨by rfl, ?_⟩) (by assumption) ?_
    rotate_left
    · (intro w hSw; go_simp; (try with_reducible rfl))
    (try simp only [Act.put, List.setIfInBounds_toArray, List.set_cons_zero, List.set_cons_succ])
    refine wpAnyH_ready (rs := [7]) (by kernel_rfl) (by simp) ?_
    refine AllReadyH.cons (o := { dst := some 166, op := _, type := _, pos := _, after := _, guard := _ }) rfl (fun K hK => ?_) AllReadyH.nil
    go_simp
    (try (go_invoke; go_simp))
    refine (HC2.out _ (by (repeat (first | (with_reducible exact Kept.refl _) | (with_reducible refine Kept.alloc ?_ _) | (with_reducible refine Kept.drew ?_) | (with_reducible refine Kept.drewN ?_ _))))).mono ?_
    rintro e w3 hp
    rcases r2 with _ | m2
    · obtain ⟨rfl, vq, hc⟩ := hp
      exact ⟨rfl, wr_fail ⟨_, HH2.out.trans hc⟩ HF2.out⟩
    obtain ⟨rfl, v3, hs, hc⟩ := hp
    have HS3 := hidMk (show WS w0 w3 pr px pd x v3 (l ++ ((([] ++ m0) ++ m1) ++ m2)) by rw [← List.append_assoc]; exact hs)
    have HH3 := hidMk (HH2.out.trans hc)
    have HG3 := hidMk (show catW (some ((([] ++ m0) ++ m1) ++ m2)) (foldW ms ds [] x) = R from cat_more.symm.trans HF2.out)
    have HN3 := hidMk (show ((([] ++ m0) ++ m1) ++ m2).length ≤ 6 by have h1 := HN2.out; have h2 := HM2.out m2 rfl; rw [List.length_append]; omega)
    clear hs hc HF2 HC2 HM2
    (try go_wp2_with fail)
    refine hK.out _ _ ?_ (fun hHeld => ?_)
    · trivial
    clear hK K
    (try simp only [Act.put, List.setIfInBounds_toArray, List.set_cons_zero, List.set_cons_succ])
    refine wpAnyH_done (by kernel_rfl) ?_ _
    go_wp2_with fail
    (try go_end0)
    exact wr_done HS3.out HH3.out ((cat_end _).symm.trans HG3.out)
set_option maxHeartbeats 4000000 in
set_option maxRecDepth 100000 in
theorem wr_fields_18 (hX : WX w0 pd ms ds) (hS : WS w0 W pr px pd x v l) (hx : XOk x) (hl : l.length ≤ 1) (hk : x.k = 18) :
    Calls Tryz.prog 26 #[wrV pr, .pointer (some ⟨px, 0, none⟩)] W (WrPost w0 W pr px pd x v l (foldW ms ds [115, 99, 110] x)) := by
  have HS := hidMk hS
  have HX := hidMk hX
  have HXO := hidMk hx
  have HL := hidMk hl
  have x0 := hS.x 0 _ rfl
  have hmf : ∀ fn first cap w, (Instr.makeFunc fn first cap).run Tryz.prog w = .ok (.func fn first cap) w := fun _ _ _ _ => rfl
  have hna1 : ∀ n w, (nilAhead (n + 1) 83 (.pointer (some ⟨pr, 0, none⟩)) "moiety/parse.cell").run Tryz.prog w = .ok (some false) w := fun n w => by kernel_rfl
  have hna2 : ∀ n w, (nilAhead (n + 1) 83 (.pointer (some ⟨pr, 0, none⟩)) "moiety/parse.num").run Tryz.prog w = .ok (some false) w := fun n w => by kernel_rfl
  have hna3 : ∀ n w, (nilAhead (n + 1) 83 (.pointer (some ⟨pr, 0, none⟩)) "moiety/parse.choice").run Tryz.prog w = .ok (some false) w := fun n w => by kernel_rfl
  have hna4 : ∀ n w, (nilAhead (n + 1) 83 (.pointer (some ⟨pr, 0, none⟩)) "moiety/parse.dim").run Tryz.prog w = .ok (some false) w := fun n w => by kernel_rfl
  have hna5 : ∀ n w, (nilAhead (n + 1) 83 (.pointer (some ⟨pr, 0, none⟩)) "moiety/parse.meas").run Tryz.prog w = .ok (some false) w := fun n w => by kernel_rfl
  obtain ⟨R, hR⟩ : ∃ R, foldW ms ds [115, 99, 110] x = R := ⟨_, rfl⟩
  rw [hR]
  have HF := hidMk ((cat_nil _).trans hR)
  unfold wrV
  clear hX hS hR hx hl
  all_goals
    rw [hk] at x0
    go_enter Tryz.func26, Tryz.ntmps26
    have HH0 := hidMk (WC.of_kept (pr := pr) (v := v) (Kept.refl W))
    have HN0 := hidMk (show ([] : List ByteArray).length ≤ 0 from Nat.le_refl _)
    have HS0 := hidMk (show WS w0 W pr px pd x v (l ++ []) by rw [List.append_nil]; exact HS.out)
    obtain ⟨r0, hr0⟩ : ∃ r, foldW ms ds [115] x = r := ⟨_, rfl⟩
    have HF0 := hidMk (show catW (some []) (catW r0 (foldW ms ds [99, 110] x)) = R by rw [← hr0, ← foldW_app]; exact HF.out)
    have HM0 := hidMk (show ∀ m, r0 = some m → m.length ≤ 2 from fun m h => foldW_len _ m (hr0.trans h))
    have HC0 := hidMk (show ∀ o t y, o = .cells #[.pointer (some ⟨px, 2, none⟩)] t → Kept (W.alloc o) y → Calls Tryz.prog 50 #[.iface 83 (.pointer (some ⟨pr, 0, none⟩)), .slice (some ⟨W.heap.size, 0, none⟩) 1 1] y (WrPost w0 W pr px pd x v (l ++ []) r0) from fun o t y ho hy => by subst ho; rw [← hr0]; exact wr_nmA HS0.out HXO.out (by have h1 := HN0.out; have h2 := HL.out; rw [List.length_append]; omega) [115] (by decide) (by simp [isNm]) t y hy)
    clear hr0 HF
    go_wp2_with fail
    refine (HC0.out _ _ _ rfl (by (repeat (first | (with_reducible exact Kept.refl _) | (with_reducible refine Kept.alloc ?_ _) | (with_reducible refine Kept.drew ?_) | (with_reducible refine Kept.drewN ?_ _))))).mono ?_
    rintro e w1 hp
    rcases r0 with _ | m0
    · obtain ⟨rfl, vq, hc⟩ := hp
      have HZ := hidMk (HH0.out.trans hc)
      clear hc
      go_wp2_with fail
      exact ⟨rfl, wr_fail ⟨_, HZ.out⟩ HF0.out⟩
    obtain ⟨rfl, v1, hs, hc⟩ := hp
    have HS1 := hidMk (show WS w0 w1 pr px pd x v1 (l ++ ([] ++ m0)) by rw [← List.append_assoc]; exact hs)
    have HH1 := hidMk (HH0.out.trans hc)
    have HG1 := hidMk (show catW (some ([] ++ m0)) (foldW ms ds [99, 110] x) = R from cat_more.symm.trans HF0.out)
    have HN1 := hidMk (show ([] ++ m0).length ≤ 2 by have h1 := HN0.out; have h2 := HM0.out m0 rfl; rw [List.length_append]; omega)
    clear hs hc HF0 HC0 HM0
    obtain ⟨r1, hr1⟩ : ∃ r, oneW ms ds 99 x = r := ⟨_, rfl⟩
    have HF1 := hidMk (show catW (some ([] ++ m0)) (catW r1 (foldW ms ds [110] x)) = R by rw [← hr1]; exact HG1.out)
    have HM1 := hidMk (show ∀ m, r1 = some m → m.length ≤ 2 from fun m h => oneW_len (hr1.trans h))
    have HC1 := hidMk (show ∀ y, Kept w1 y → Calls Tryz.prog 179 #[.pointer (some ⟨pr, 0, none⟩), .pointer (some ⟨px, 4, none⟩)] y (WrPost w0 w1 pr px pd x v1 (l ++ ([] ++ m0)) r1) from fun y hy => by rw [← hr1, oneW_cell]; exact wr_from hy (wr_cell HX.out (HS1.out.keep hy) (by have h1 := HN1.out; have h2 := HL.out; rw [List.length_append]; omega)))
    clear hr1 HG1
    go_wp2_with fail
    refine wp_region_held_drew (S := (fun _ => True)) (by kernel_rfl) ?_ (fun hHeld => ?_)
    · trivial
    refine wpAnyH_take (i := 0) (oi := { dst := some 175, op := _, type := _, pos := _, after := _, guard := _ }) (v := ?_) rfl (by kernel_rfl) (by kernel_rfl) (by kernel_rfl) (fun _ _ _ h => h) (Or.inl ⟨by rfl, ?_⟩) (by assumption) ?_
    rotate_left
    · (intro w hSw; go_simp; (try with_reducible rfl))
    (try simp only [Act.put, List.setIfInBounds_toArray, List.set_cons_zero, List.set_cons_succ])
    refine wpAnyH_take (i := 1) (oi := { dst := some 176, op := _, type := _, pos := _, after := _, guard := _ }) (v := ?_) rfl (by kernel_rfl) (by kernel_rfl) (by kernel_rfl) (fun _ _ _ h => h) (Or.inl ⟨by rfl, ?_⟩) (by assumption) ?_
    rotate_left
    · (intro w hSw; go_simp; (try with_reducible rfl))
    (try simp only [Act.put, List.setIfInBounds_toArray, List.set_cons_zero, List.set_cons_succ])
    refine wpAnyH_take (i := 2) (oi := { dst := some 177, op := _, type := _, pos := _, after := _, guard := _ }) (v := ?_) rfl (by kernel_rfl) (by kernel_rfl) (by kernel_rfl) (fun _ _ _ h => h) (Or.inl ⟨by rfl, ?_⟩) (by assumption) ?_
    rotate_left
    · (intro w hSw; go_simp; (try with_reducible rfl))
    (try simp only [Act.put, List.setIfInBounds_toArray, List.set_cons_zero, List.set_cons_succ])
    refine wpAnyH_take (i := 3) (oi := { dst := some 178, op := _, type := _, pos := _, after := _, guard := _ }) (v := ?_) rfl (by kernel_rfl) (by kernel_rfl) (by kernel_rfl) (fun _ _ _ h => h) (Or.inl ⟨by rfl, ?_⟩) (by assumption) ?_
    rotate_left
    · (intro w hSw; go_simp; (try with_reducible rfl))
    (try simp only [Act.put, List.setIfInBounds_toArray, List.set_cons_zero, List.set_cons_succ])
    refine wpAnyH_take (i := 4) (oi := { dst := some 179, op := _, type := _, pos := _, after := _, guard := _ }) (v := ?_) rfl (by kernel_rfl) (by kernel_rfl) (by kernel_rfl) (fun _ _ _ h => h) (Or.inl ⟨by rfl, ?_⟩) (by assumption) ?_
    rotate_left
    · (intro w hSw; go_simp; (try with_reducible rfl))
    (try simp only [Act.put, List.setIfInBounds_toArray, List.set_cons_zero, List.set_cons_succ])
    refine wpAnyH_take (i := 5) (oi := { dst := some 180, op := _, type := _, pos := _, after := _, guard := _ }) (v := ?_) rfl (by kernel_rfl) (by kernel_rfl) (by kernel_rfl) (fun _ _ _ h => h) (Or.inl ⟨by rfl, ?_⟩) (by assumption) ?_
    rotate_left
    · (intro w hSw; go_simp; (try with_reducible rfl))
    (try simp only [Act.put, List.setIfInBounds_toArray, List.set_cons_zero, List.set_cons_succ])
    refine wpAnyH_take (i := 6) (oi := { dst := some 181, op := _, type := _, pos := _, after := _, guard := _ }) (v := ?_) rfl (by kernel_rfl) (by kernel_rfl) (by kernel_rfl) (fun _ _ _ h => h) (Or.inl ⟨by rfl, ?_⟩) (by assumption) ?_
    rotate_left
    · (intro w hSw; go_simp; (try with_reducible rfl))
    (try simp only [Act.put, List.setIfInBounds_toArray, List.set_cons_zero, List.set_cons_succ])
    refine wpAnyH_ready (rs := [7]) (by kernel_rfl) (by simp) ?_
    refine AllReadyH.cons (o := { dst := some 182, op := _, type := _, pos := _, after := _, guard := _ }) rfl (fun K hK => ?_) AllReadyH.nil
    go_simp
    (try (go_invoke; go_simp))
    refine (HC1.out _ (by (repeat (first | (with_reducible exact Kept.refl _) | (with_reducible refine Kept.alloc ?_ _) | (with_reducible refine Kept.drew ?_) | (with_reducible refine Kept.drewN ?_ _))))).mono ?_
    rintro e w2 hp
    rcases r1 with _ | m1
    · obtain ⟨rfl, vq, hc⟩ := hp
      exact ⟨rfl, wr_fail ⟨_, HH1.out.trans hc⟩ HF1.out⟩
    obtain ⟨rfl, v2, hs, hc⟩ := hp
    have HS2 := hidMk (show WS w0 w2 pr px pd x v2 (l ++ (([] ++ m0) ++ m1)) by rw [← List.append_assoc]; exact hs)
    have HH2 := hidMk (HH1.out.trans hc)
    have HG2 := hidMk (show catW (some (([] ++ m0) ++ m1)) (foldW ms ds [110] x) = R from cat_more.symm.trans HF1.out)
    have HN2 := hidMk (show (([] ++ m0) ++ m1).length ≤ 4 by have h1 := HN1.out; have h2 := HM1.out m1 rfl; rw [List.length_append]; omega)
    clear hs hc HF1 HC1 HM1
    (try go_wp2_with fail)
    refine hK.out _ _ ?_ (fun hHeld => ?_)
    · trivial
    clear hK K
    (try simp only [Act.put, List.setIfInBounds_toArray, List.set_cons_zero, List.set_cons_succ])
    refine wpAnyH_done (by kernel_rfl) ?_ _
    obtain ⟨r2, hr2⟩ : ∃ r, oneW ms ds 110 x = r := ⟨_, rfl⟩
    have HF2 := hidMk (show catW (some (([] ++ m0) ++ m1)) (catW r2 (foldW ms ds [] x)) = R by rw [← hr2]; exact HG2.out)
    have HM2 := hidMk (show ∀ m, r2 = some m → m.length ≤ 2 from fun m h => oneW_len (hr2.trans h))
    have HC2 := hidMk (show ∀ y, Kept w2 y → Calls Tryz.prog 184 #[.pointer (some ⟨pr, 0, none⟩), .pointer (some ⟨px, 9, none⟩)] y (WrPost w0 w2 pr px pd x v2 (l ++ (([] ++ m0) ++ m1)) r2) from fun y hy => by rw [← hr2, oneW_num]; exact wr_from hy (wr_num (HS2.out.keep hy) HXO.out (by have h1 := HN2.out; have h2 := HL.out; rw [List.length_append]; omega)))
    clear hr2 HG2
    go_wp2_with fail
    refine wp_region_held_drew (S := (fun _ => True)) (by kernel_rfl) ?_ (fun hHeld => ?_)
    · trivial
    refine wpAnyH_take (i := 0) (oi := { dst := some 183, op := _, type := _, pos := _, after := _, guard := _ }) (v := ?_) rfl (by kernel_rfl) (by kernel_rfl) (by kernel_rfl) (fun _ _ _ h => h) (Or.inl ⟨by rfl, ?_⟩) (by assumption) ?_
    rotate_left
    · (intro w hSw; go_simp; (try with_reducible rfl))
    (try simp only [Act.put, List.setIfInBounds_toArray, List.set_cons_zero, List.set_cons_succ])
    refine wpAnyH_take (i := 1) (oi := { dst := some 184, op := _, type := _, pos := _, after := _, guard := _ }) (v := ?_) rfl (by kernel_rfl) (by kernel_rfl) (by kernel_rfl) (fun _ _ _ h => h) (Or.inl ⟨by rfl, ?_⟩) (by assumption) ?_
    rotate_left
    · (intro w hSw; go_simp; (try with_reducible rfl))
    (try simp only [Act.put, List.setIfInBounds_toArray, List.set_cons_zero, List.set_cons_succ])
    refine wpAnyH_take (i := 2) (oi := { dst := some 185, op := _, type := _, pos := _, after := _, guard := _ }) (v := ?_) rfl (by kernel_rfl) (by kernel_rfl) (by kernel_rfl) (fun _ _ _ h => h) (Or.inl ⟨by rfl, ?_⟩) (by assumption) ?_
    rotate_left
    · (intro w hSw; go_simp; (try with_reducible rfl))
    (try simp only [Act.put, List.setIfInBounds_toArray, List.set_cons_zero, List.set_cons_succ])
    refine wpAnyH_take (i := 3) (oi := { dst := some 186, op := _, type := _, pos := _, after := _, guard := _ }) (v := ?_) rfl (by kernel_rfl) (by kernel_rfl) (by kernel_rfl) (fun _ _ _ h => h) (Or.inl ⟨by rfl, ?_⟩) (by assumption) ?_
    rotate_left
    · (intro w hSw; go_simp; (try with_reducible rfl))
    (try simp only [Act.put, List.setIfInBounds_toArray, List.set_cons_zero, List.set_cons_succ])
    refine wpAnyH_take (i := 4) (oi := { dst := some 187, op := _, type := _, pos := _, after := _, guard := _ }) (v := ?_) rfl (by kernel_rfl) (by kernel_rfl) (by kernel_rfl) (fun _ _ _ h => h) (Or.inl ⟨by rfl, ?_⟩) (by assumption) ?_
    rotate_left
    · (intro w hSw; go_simp; (try with_reducible rfl))
    (try simp only [Act.put, List.setIfInBounds_toArray, List.set_cons_zero, List.set_cons_succ])
    refine wpAnyH_take (i := 5) (oi := { dst := some 188, op := _, type := _, pos := _, after := _, guard := _ }) (v := ?_) rfl (by kernel_rfl) (by kernel_rfl) (by kernel_rfl) (fun _ _ _ h => h) (Or.inl ⟨by rfl, ?_⟩) (by assumption) ?_
    rotate_left
    · (intro w hSw; go_simp; (try with_reducible rfl))
    (try simp only [Act.put, List.setIfInBounds_toArray, List.set_cons_zero, List.set_cons_succ])
    refine wpAnyH_take (i := 6) (oi := { dst := some 189, op := _, type := _, pos := _, after := _, guard := _ }) (v := ?_) rfl (by kernel_rfl) (by kernel_rfl) (by kernel_rfl) (fun _ _ _ h => h) (Or.inl ⟨by rfl, ?_⟩) (by assumption) ?_
    rotate_left
    · (intro w hSw; go_simp; (try with_reducible rfl))
    (try simp only [Act.put, List.setIfInBounds_toArray, List.set_cons_zero, List.set_cons_succ])
    refine wpAnyH_ready (rs := [7]) (by kernel_rfl) (by simp) ?_
    refine AllReadyH.cons (o := { dst := some 190, op := _, type := _, pos := _, after := _, guard := _ }) rfl (fun K hK => ?_) AllReadyH.nil
    go_simp
    (try (go_invoke; go_simp))
    refine (HC2.out _ (by (repeat (first | (with_reducible exact Kept.refl _) | (with_reducible refine Kept.alloc ?_ _) | (with_reducible refine Kept.drew ?_) | (with_reducible refine Kept.drewN ?_ _))))).mono ?_
    rintro e w3 hp
    rcases r2 with _ | m2
    · obtain ⟨rfl, vq, hc⟩ := hp
      exact ⟨rfl, wr_fail ⟨_, HH2.out.trans hc⟩ HF2.out⟩
    obtain ⟨rfl, v3, hs, hc⟩ := hp
    have HS3 := hidMk (show WS w0 w3 pr px pd x v3 (l ++ ((([] ++ m0) ++ m1) ++ m2)) by rw [← List.append_assoc]; exact hs)
    have HH3 := hidMk (HH2.out.trans hc)
    have HG3 := hidMk (show catW (some ((([] ++ m0) ++ m1) ++ m2)) (foldW ms ds [] x) = R from cat_more.symm.trans HF2.out)
    have HN3 := hidMk (show ((([] ++ m0) ++ m1) ++ m2).length ≤ 6 by have h1 := HN2.out; have h2 := HM2.out m2 rfl; rw [List.length_append]; omega)
    clear hs hc HF2 HC2 HM2
    (try go_wp2_with fail)
    refine hK.out _ _ ?_ (fun hHeld => ?_)
    · trivial
    clear hK K
    (try simp only [Act.put, List.setIfInBounds_toArray, List.set_cons_zero, List.set_cons_succ])
    refine wpAnyH_done (by kernel_rfl) ?_ _
    go_wp2_with fail
    (try go_end0)
    exact wr_done HS3.out HH3.out ((cat_end _).symm.trans HG3.out)
end
end Go.Proofs.YtpehinmckppjoaaGreatDoor
