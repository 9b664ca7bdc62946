/- parse.fields, for a reader. -/
import Derived.Test.YtpehinmckppjoaaGreatDoorWPs8
import Derived.Handy
namespace Go.Proofs.YtpehinmckppjoaaGreatDoor
open Go.RowKit Go.Maps
set_option linter.unusedSimpArgs false
set_option linter.unusedVariables false

section
variable {w0 W : World} {pr px pd : Nat} {ra : Option Addr} {rc : Nat} {ms : List ByteArray} {ds : List Dm} {L : List ByteArray}
set_option maxHeartbeats 4000000 in
set_option maxRecDepth 100000 in
theorem rd_fields_2 (hX : RX w0 pr px pd ra rc ms ds L) {s : Nat × Cm} (hS : RS w0 W pr px pd ra L.length rc s) (hk : s.2.k = 2 ∨ s.2.k = 3 ∨ s.2.k = 11) :
    Calls Tryz.prog 26 #[rdV pr, .pointer (some ⟨px, 0, none⟩)] W (RdPost w0 W pr px pd ra L.length rc (foldP ms ds L [115, 99] s)) := by
  have HS := hidMk hS
  have HX := hidMk hX
  have x0 := hS.x 0 _ rfl
  have hmf : ∀ fn first cap w, (Instr.makeFunc fn first cap).run Tryz.prog w = .ok (.func fn first cap) w := fun _ _ _ _ => rfl
  have hna1 : ∀ n w, (nilAhead (n + 1) 62 (.pointer (some ⟨pr, 0, none⟩)) "moiety/parse.cell").run Tryz.prog w = .ok (some false) w := fun n w => by kernel_rfl
  have hna2 : ∀ n w, (nilAhead (n + 1) 62 (.pointer (some ⟨pr, 0, none⟩)) "moiety/parse.num").run Tryz.prog w = .ok (some false) w := fun n w => by kernel_rfl
  have hna3 : ∀ n w, (nilAhead (n + 1) 62 (.pointer (some ⟨pr, 0, none⟩)) "moiety/parse.choice").run Tryz.prog w = .ok (some false) w := fun n w => by kernel_rfl
  have hna4 : ∀ n w, (nilAhead (n + 1) 62 (.pointer (some ⟨pr, 0, none⟩)) "moiety/parse.dim").run Tryz.prog w = .ok (some false) w := fun n w => by kernel_rfl
  have hna5 : ∀ n w, (nilAhead (n + 1) 62 (.pointer (some ⟨pr, 0, none⟩)) "moiety/parse.meas").run Tryz.prog w = .ok (some false) w := fun n w => by kernel_rfl
  obtain ⟨R, hR⟩ : ∃ R, foldP ms ds L [115, 99] s = R := ⟨_, rfl⟩
  rw [hR]
  have HF := hidMk hR
  unfold rdV
  clear hX hS hR
  rcases hk with hk | hk | hk
  all_goals
    rw [hk] at x0
    go_enter Tryz.func26, Tryz.ntmps26
    have HH0 := hidMk (Chg.refl (Two pr px) W)
    obtain ⟨r0, hr0⟩ : ∃ r, foldP ms ds L [115] s = r := ⟨_, rfl⟩
    have HF0 := hidMk (show bdP r0 (foldP ms ds L [99]) = R from (congrArg (bdP · (foldP ms ds L [99])) hr0).symm.trans ((foldP_app ms ds L [115] [99] s).symm.trans HF.out))
    have HC0 := hidMk (show ∀ o t y, o = .cells #[.pointer (some ⟨px, 2, none⟩)] t → Kept (W.alloc o) y → Calls Tryz.prog 50 #[.iface 62 (.pointer (some ⟨pr, 0, none⟩)), .slice (some ⟨W.heap.size, 0, none⟩) 1 1] y (RdPost w0 W pr px pd ra L.length rc r0) from fun o t y ho hy => by subst ho; rw [← hr0]; exact rd_nmA HX.out HS.out [115] (by decide) (by simp [isNm]) t y hy)
    clear hr0 HF
    go_wp2_with fail
    refine (HC0.out _ _ _ rfl (by (repeat (first | (with_reducible exact Kept.refl _) | (with_reducible refine Kept.alloc ?_ _) | (with_reducible refine Kept.drew ?_) | (with_reducible refine Kept.drewN ?_ _))))).mono ?_
    rintro e w1 hp
    rcases r0 with p | s1
    · obtain ⟨rfl, hc⟩ := hp
      go_wp2_with fail
      rw [← HF0.out]
      exact ⟨rfl, rdP_err (HH0.out.thn hc (fun _ _ h => h))⟩
    obtain ⟨rfl, hs, hc⟩ := hp
    have HS1 := hidMk hs
    have HH1 := hidMk (HH0.out.thn hc (fun _ _ h => h))
    have HG1 := hidMk (show foldP ms ds L [99] s1 = R from HF0.out)
    clear hs hc HF0 HC0
    obtain ⟨r1, hr1⟩ : ∃ r, cellP ms ds L s1 = r := ⟨_, rfl⟩
    have HF1 := hidMk (show bdP r1 (foldP ms ds L []) = R from (congrArg (bdP · (foldP ms ds L [])) hr1).symm.trans HG1.out)
    have HC1 := hidMk (show ∀ y, Kept w1 y → Calls Tryz.prog 171 #[.pointer (some ⟨pr, 0, none⟩), .pointer (some ⟨px, 4, none⟩)] y (RdPost w0 w1 pr px pd ra L.length rc r1) from fun y hy => by rw [← hr1]; exact rdP_from hy (rd_cell HX.out (HS1.out.keep hy)))
    clear hr1 HG1
    go_wp2_with fail
    refine wp_region_held_drew (S := (fun _ => True)) (by kernel_rfl) ?_ (fun hHeld => ?_)
    · trivial
    refine wpAnyH_take (i := 0) (oi := { dst := some 67, op := _, type := _, pos := _, after := _, guard := _ }) (v := ?_) rfl (by kernel_rfl) (by kernel_rfl) (by kernel_rfl) (fun _ _ _ h => h) (Or.inl ⟨by rfl, ?_⟩) (by assumption) ?_
    rotate_left
    · (intro w hSw; go_simp; (try with_reducible rfl))
    (try simp only [Act.put, List.setIfInBounds_toArray, List.set_cons_zero, List.set_cons_succ])
    refine wpAnyH_take (i := 1) (oi := { dst := some 68, op := _, type := _, pos := _, after := _, guard := _ }) (v := ?_) rfl (by kernel_rfl) (by kernel_rfl) (by kernel_rfl) (fun _ _ _ h => h) (Or.inl ⟨by rfl, ?_⟩) (by assumption) ?_
    rotate_left
    · (intro w hSw; go_simp; (try with_reducible rfl))
    (try simp only [Act.put, List.setIfInBounds_toArray, List.set_cons_zero, List.set_cons_succ])
    refine wpAnyH_take (i := 2) (oi := { dst := some 69, op := _, type := _, pos := _, after := _, guard := _ }) (v := ?_) rfl (by kernel_rfl) (by kernel_rfl) (by kernel_rfl) (fun _ _ _ h => h) (Or.inl ⟨by rfl, ?_⟩) (by assumption) ?_
    rotate_left
    · (intro w hSw; go_simp; (try with_reducible rfl))
    (try simp only [Act.put, List.setIfInBounds_toArray, List.set_cons_zero, List.set_cons_succ])
    refine wpAnyH_take (i := 3) (oi := { dst := some 70, op := _, type := _, pos := _, after := _, guard := _ }) (v := ?_) rfl (by kernel_rfl) (by kernel_rfl) (by kernel_rfl) (fun _ _ _ h => h) (Or.inl ⟨by rfl, ?_⟩) (by assumption) ?_
    rotate_left
    · (intro w hSw; go_simp; (try with_reducible rfl))
    (try simp only [Act.put, List.setIfInBounds_toArray, List.set_cons_zero, List.set_cons_succ])
    refine wpAnyH_take (i := 4) (oi := { dst := some 71, op := _, type := _, pos := _, after := _, guard := _ }) (v := ?_) rfl (by kernel_rfl) (by kernel_rfl) (by kernel_rfl) (fun _ _ _ h => h) (Or.inl ⟨by rfl, ?_⟩) (by assumption) ?_
    rotate_left
    · (intro w hSw; go_simp; (try with_reducible rfl))
    (try simp only [Act.put, List.setIfInBounds_toArray, List.set_cons_zero, List.set_cons_succ])
    refine wpAnyH_take (i := 5) (oi := { dst := some 72, op := _, type := _, pos := _, after := _, guard := _ }) (v := ?_) rfl (by kernel_rfl) (by kernel_rfl) (by kernel_rfl) (fun _ _ _ h => h) (Or.inl ⟨by rfl, ?_⟩) (by assumption) ?_
    rotate_left
    · (intro w hSw; go_simp; (try with_reducible rfl))
    (try simp only [Act.put, List.setIfInBounds_toArray, List.set_cons_zero, List.set_cons_succ])
    refine wpAnyH_take (i := 6) (oi := { dst := some 73, op := _, type := _, pos := _, after := _, guard := _ }) (v := ?_) rfl (by kernel_rfl) (by kernel_rfl) (by kernel_rfl) (fun _ _ _ h => h) (Or.inl ⟨by rfl, ?_⟩) (by assumption) ?_
    rotate_left
    · (intro w hSw; go_simp; (try with_reducible rfl))
    (try simp only [Act.put, List.setIfInBounds_toArray, List.set_cons_zero, List.set_cons_succ])
    refine wpAnyH_ready (rs := [7]) (by kernel_rfl) (by simp) ?_
    refine AllReadyH.cons (o := { dst := some 74, op := _, type := _, pos := _, after := _, guard := _ }) rfl (fun K hK => ?_) AllReadyH.nil
    go_simp
    (try (go_invoke; go_simp))
    refine (HC1.out _ (by (repeat (first | (with_reducible exact Kept.refl _) | (with_reducible refine Kept.alloc ?_ _) | (with_reducible refine Kept.drew ?_) | (with_reducible refine Kept.drewN ?_ _))))).mono ?_
    rintro e w2 hp
    rcases r1 with p | s2
    · obtain ⟨rfl, hc⟩ := hp
      rw [← HF1.out]
      exact ⟨rfl, rdP_err (HH1.out.thn hc (fun _ _ h => h))⟩
    obtain ⟨rfl, hs, hc⟩ := hp
    have HS2 := hidMk hs
    have HH2 := hidMk (HH1.out.thn hc (fun _ _ h => h))
    have HG2 := hidMk (show foldP ms ds L [] s2 = R from HF1.out)
    clear hs hc HF1 HC1
    (try go_wp2_with fail)
    refine hK.out _ _ ?_ (fun hHeld => ?_)
    · trivial
    clear hK K
    (try simp only [Act.put, List.setIfInBounds_toArray, List.set_cons_zero, List.set_cons_succ])
    refine wpAnyH_done (by kernel_rfl) ?_ _
    go_wp2_with fail
    (try go_end0)
    have hE := HG2.out
    unfold foldP at hE
    subst hE
    exact ⟨rfl, HS2.out, HH2.out⟩
set_option maxHeartbeats 4000000 in
set_option maxRecDepth 100000 in
theorem rd_fields_4 (hX : RX w0 pr px pd ra rc ms ds L) {s : Nat × Cm} (hS : RS w0 W pr px pd ra L.length rc s) (hk : s.2.k = 4 ∨ s.2.k = 5 ∨ s.2.k = 12) :
    Calls Tryz.prog 26 #[rdV pr, .pointer (some ⟨px, 0, none⟩)] W (RdPost w0 W pr px pd ra L.length rc (foldP ms ds L [117, 115, 99] s)) := by
  have HS := hidMk hS
  have HX := hidMk hX
  have x0 := hS.x 0 _ rfl
  have hmf : ∀ fn first cap w, (Instr.makeFunc fn first cap).run Tryz.prog w = .ok (.func fn first cap) w := fun _ _ _ _ => rfl
  have hna1 : ∀ n w, (nilAhead (n + 1) 62 (.pointer (some ⟨pr, 0, none⟩)) "moiety/parse.cell").run Tryz.prog w = .ok (some false) w := fun n w => by kernel_rfl
  have hna2 : ∀ n w, (nilAhead (n + 1) 62 (.pointer (some ⟨pr, 0, none⟩)) "moiety/parse.num").run Tryz.prog w = .ok (some false) w := fun n w => by kernel_rfl
  have hna3 : ∀ n w, (nilAhead (n + 1) 62 (.pointer (some ⟨pr, 0, none⟩)) "moiety/parse.choice").run Tryz.prog w = .ok (some false) w := fun n w => by kernel_rfl
  have hna4 : ∀ n w, (nilAhead (n + 1) 62 (.pointer (some ⟨pr, 0, none⟩)) "moiety/parse.dim").run Tryz.prog w = .ok (some false) w := fun n w => by kernel_rfl
  have hna5 : ∀ n w, (nilAhead (n + 1) 62 (.pointer (some ⟨pr, 0, none⟩)) "moiety/parse.meas").run Tryz.prog w = .ok (some false) w := fun n w => by kernel_rfl
  obtain ⟨R, hR⟩ : ∃ R, foldP ms ds L [117, 115, 99] s = R := ⟨_, rfl⟩
  rw [hR]
  have HF := hidMk hR
  unfold rdV
  clear hX hS hR
  rcases hk with hk | hk | hk
  all_goals
    rw [hk] at x0
    go_enter Tryz.func26, Tryz.ntmps26
    have HH0 := hidMk (Chg.refl (Two pr px) W)
    obtain ⟨r0, hr0⟩ : ∃ r, foldP ms ds L [117, 115] s = r := ⟨_, rfl⟩
    have HF0 := hidMk (show bdP r0 (foldP ms ds L [99]) = R from (congrArg (bdP · (foldP ms ds L [99])) hr0).symm.trans ((foldP_app ms ds L [117, 115] [99] s).symm.trans HF.out))
    have HC0 := hidMk (show ∀ o t y, o = .cells #[.pointer (some ⟨px, 1, none⟩), .pointer (some ⟨px, 2, none⟩)] t → Kept (W.alloc o) y → Calls Tryz.prog 50 #[.iface 62 (.pointer (some ⟨pr, 0, none⟩)), .slice (some ⟨W.heap.size, 0, none⟩) 2 2] y (RdPost w0 W pr px pd ra L.length rc r0) from fun o t y ho hy => by subst ho; rw [← hr0]; exact rd_nmA HX.out HS.out [117, 115] (by decide) (by simp [isNm]) t y hy)
    clear hr0 HF
    go_wp2_with fail
    refine wp_region_held_drew (S := (fun _ => True)) (by kernel_rfl) ?_ (fun hHeld => ?_)
    · trivial
    refine wpAnyH_take (i := 0) (oi := { dst := some 79, op := _, type := _, pos := _, after := _, guard := _ }) (v := ?_) rfl (by kernel_rfl) (by kernel_rfl) (by kernel_rfl) (fun _ _ _ h => h) (Or.inl ⟨by rfl, ?_⟩) (by assumption) ?_
    rotate_left
    · (intro w hSw; go_simp; (try with_reducible rfl))
    (try simp only [Act.put, List.setIfInBounds_toArray, List.set_cons_zero, List.set_cons_succ])
    refine wpAnyH_take (i := 1) (oi := { dst := some 80, op := _, type := _, pos := _, after := _, guard := _ }) (v := ?_) rfl (by kernel_rfl) (by kernel_rfl) (by kernel_rfl) (fun _ _ _ h => h) (Or.inl ⟨by rfl, ?_⟩) (by assumption) ?_
    rotate_left
    · (intro w hSw; go_simp; (try with_reducible rfl))
    (try simp only [Act.put, List.setIfInBounds_toArray, List.set_cons_zero, List.set_cons_succ])
    refine wpAnyH_take (i := 2) (oi := { dst := some 81, op := _, type := _, pos := _, after := _, guard := _ }) (v := ?_) rfl (by kernel_rfl) (by kernel_rfl) (by kernel_rfl) (fun _ _ _ h => h) (Or.inl ⟨by rfl, ?_⟩) (by assumption) ?_
    rotate_left
    · (intro w hSw; go_simp; (try with_reducible rfl))
    (try simp only [Act.put, List.setIfInBounds_toArray, List.set_cons_zero, List.set_cons_succ])
    refine wpAnyH_take (i := 3) (oi := { dst := some 82, op := _, type := _, pos := _, after := _, guard := _ }) (v := ?_) rfl (by kernel_rfl) (by kernel_rfl) (by kernel_rfl) (fun _ _ _ h => h) (Or.inl ⟨by rfl, ?_⟩) (by assumption) ?_
    rotate_left
    · (intro w hSw; go_simp; (try with_reducible rfl))
    (try simp only [Act.put, List.setIfInBounds_toArray, List.set_cons_zero, List.set_cons_succ])
    refine wpAnyH_take (i := 4) (oi := { dst := some 83, op := _, type := _, pos := _, after := _, guard := _ }) (v := ?_) rfl (by kernel_rfl) (by kernel_rfl) (by kernel_rfl) (fun _ _ _ h => h) (Or.inl ⟨by rfl, ?_⟩) (by assumption) ?_
    rotate_left
    · (intro w hSw; go_simp; (try with_reducible rfl))
    (try simp only [Act.put, List.setIfInBounds_toArray, List.set_cons_zero, List.set_cons_succ])
    refine wpAnyH_take (i := 5) (oi := { dst := some 84, op := _, type := _, pos := _, after := _, guard := _ }) (v := ?_) rfl (by kernel_rfl) (by kernel_rfl) (by kernel_rfl) (fun _ _ _ h => h) (Or.inl ⟨by rfl, ?_⟩) (by assumption) ?_
    rotate_left
    · (intro w hSw; go_simp; (try with_reducible rfl))
    (try simp only [Act.put, List.setIfInBounds_toArray, List.set_cons_zero, List.set_cons_succ])
    refine wpAnyH_take (i := 6) (oi := { dst := some 85, op := _, type := _, pos := _, after := _, guard := _ }) (v := ?_) rfl (by kernel_rfl) (by kernel_rfl) (by kernel_rfl) (fun _ _ _ h => h) (Or.inl ⟨by rfl, ?_⟩) (by assumption) ?_
    rotate_left
    · (intro w hSw; go_simp; (try with_reducible rfl))
    (try simp only [Act.put, List.setIfInBounds_toArray, List.set_cons_zero, List.set_cons_succ])
    refine wpAnyH_ready (rs := [7]) (by kernel_rfl) (by simp) ?_
    refine AllReadyH.cons (o := { dst := some 86, op := _, type := _, pos := _, after := _, guard := _ }) rfl (fun K hK => ?_) AllReadyH.nil
    go_simp
    refine hK.out _ _ ?_ (fun hHeld => ?_)
    · trivial
    clear hK K
    (try simp only [Act.put, List.setIfInBounds_toArray, List.set_cons_zero, List.set_cons_succ])
    refine wpAnyH_ready (rs := [8]) (by kernel_rfl) (by simp) ?_
    refine AllReadyH.cons (o := { dst := some 87, op := _, type := _, pos := _, after := _, guard := _ }) rfl (fun K hK => ?_) AllReadyH.nil
    go_simp
    (try (go_invoke; go_simp))
    refine (HC0.out _ _ _ rfl (by (repeat (first | (with_reducible exact Kept.refl _) | (with_reducible refine Kept.alloc ?_ _) | (with_reducible refine Kept.drew ?_) | (with_reducible refine Kept.drewN ?_ _))))).mono ?_
    rintro e w1 hp
    rcases r0 with p | s1
    · obtain ⟨rfl, hc⟩ := hp
      rw [← HF0.out]
      exact ⟨rfl, rdP_err (HH0.out.thn hc (fun _ _ h => h))⟩
    obtain ⟨rfl, hs, hc⟩ := hp
    have HS1 := hidMk hs
    have HH1 := hidMk (HH0.out.thn hc (fun _ _ h => h))
    have HG1 := hidMk (show foldP ms ds L [99] s1 = R from HF0.out)
    clear hs hc HF0 HC0
    (try go_wp2_with fail)
    refine hK.out _ _ ?_ (fun hHeld => ?_)
    · trivial
    clear hK K
    (try simp only [Act.put, List.setIfInBounds_toArray, List.set_cons_zero, List.set_cons_succ])
    refine wpAnyH_done (by kernel_rfl) ?_ _
    obtain ⟨r1, hr1⟩ : ∃ r, cellP ms ds L s1 = r := ⟨_, rfl⟩
    have HF1 := hidMk (show bdP r1 (foldP ms ds L []) = R from (congrArg (bdP · (foldP ms ds L [])) hr1).symm.trans HG1.out)
    have HC1 := hidMk (show ∀ y, Kept w1 y → Calls Tryz.prog 171 #[.pointer (some ⟨pr, 0, none⟩), .pointer (some ⟨px, 4, none⟩)] y (RdPost w0 w1 pr px pd ra L.length rc r1) from fun y hy => by rw [← hr1]; exact rdP_from hy (rd_cell HX.out (HS1.out.keep hy)))
    clear hr1 HG1
    go_wp2_with fail
    refine wp_region_held_drew (S := (fun _ => True)) (by kernel_rfl) ?_ (fun hHeld => ?_)
    · trivial
    refine wpAnyH_take (i := 0) (oi := { dst := some 88, op := _, type := _, pos := _, after := _, guard := _ }) (v := ?_) rfl (by kernel_rfl) (by kernel_rfl) (by kernel_rfl) (fun _ _ _ h => h) (Or.inl ⟨by rfl, ?_⟩) (by assumption) ?_
    rotate_left
    · (intro w hSw; go_simp; (try with_reducible rfl))
    (try simp only [Act.put, List.setIfInBounds_toArray, List.set_cons_zero, List.set_cons_succ])
    refine wpAnyH_take (i := 1) (oi := { dst := some 89, op := _, type := _, pos := _, after := _, guard := _ }) (v := ?_) rfl (by kernel_rfl) (by kernel_rfl) (by kernel_rfl) (fun _ _ _ h => h) (Or.inl ⟨by rfl, ?_⟩) (by assumption) ?_
    rotate_left
    · (intro w hSw; go_simp; (try with_reducible rfl))
    (try simp only [Act.put, List.setIfInBounds_toArray, List.set_cons_zero, List.set_cons_succ])
    refine wpAnyH_take (i := 2) (oi := { dst := some 90, op := _, type := _, pos := _, after := _, guard := _ }) (v := ?_) rfl (by kernel_rfl) (by kernel_rfl) (by kernel_rfl) (fun _ _ _ h => h) (Or.inl ⟨by rfl, ?_⟩) (by assumption) ?_
    rotate_left
    · (intro w hSw; go_simp; (try with_reducible rfl))
    (try simp only [Act.put, List.setIfInBounds_toArray, List.set_cons_zero, List.set_cons_succ])
    refine wpAnyH_take (i := 3) (oi := { dst := some 91, op := _, type := _, pos := _, after := _, guard := _ }) (v := ?_) rfl (by kernel_rfl) (by kernel_rfl) (by kernel_rfl) (fun _ _ _ h => h) (Or.inl ⟨by rfl, ?_⟩) (by assumption) ?_
    rotate_left
    · (intro w hSw; go_simp; (try with_reducible rfl))
    (try simp only [Act.put, List.setIfInBounds_toArray, List.set_cons_zero, List.set_cons_succ])
    refine wpAnyH_take (i := 4) (oi := { dst := some 92, op := _, type := _, pos := _, after := _, guard := _ }) (v := ?_) rfl (by kernel_rfl) (by kernel_rfl) (by kernel_rfl) (fun _ _ _ h => h) (Or.inl ⟨by rfl, ?_⟩) (by assumption) ?_
    rotate_left
    · (intro w hSw; go_simp; (try with_reducible rfl))
    (try simp only [Act.put, List.setIfInBounds_toArray, List.set_cons_zero, List.set_cons_succ])
    refine wpAnyH_take (i := 5) (oi := { dst := some 93, op := _, type := _, pos := _, after := _, guard := _ }) (v := ?_) rfl (by kernel_rfl) (by kernel_rfl) (by kernel_rfl) (fun _ _ _ h => h) (Or.inl ⟨by rfl, ?_⟩) (by assumption) ?_
    rotate_left
    · (intro w hSw; go_simp; (try with_reducible rfl))
    (try simp only [Act.put, List.setIfInBounds_toArray, List.set_cons_zero, List.set_cons_succ])
    refine wpAnyH_take (i := 6) (oi := { dst := some 94, op := _, type := _, pos := _, after := _, guard := _ }) (v := ?_) rfl (by kernel_rfl) (by kernel_rfl) (by kernel_rfl) (fun _ _ _ h => h) (Or.inl ⟨by rfl, ?_⟩) (by assumption) ?_
    rotate_left
    · (intro w hSw; go_simp; (try with_reducible rfl))
    (try simp only [Act.put, List.setIfInBounds_toArray, List.set_cons_zero, List.set_cons_succ])
    refine wpAnyH_ready (rs := [7]) (by kernel_rfl) (by simp) ?_
    refine AllReadyH.cons (o := { dst := some 95, op := _, type := _, pos := _, after := _, guard := _ }) rfl (fun K hK => ?_) AllReadyH.nil
    go_simp
    (try (go_invoke; go_simp))
    refine (HC1.out _ (by (repeat (first | (with_reducible exact Kept.refl _) | (with_reducible refine Kept.alloc ?_ _) | (with_reducible refine Kept.drew ?_) | (with_reducible refine Kept.drewN ?_ _))))).mono ?_
    rintro e w2 hp
    rcases r1 with p | s2
    · obtain ⟨rfl, hc⟩ := hp
      rw [← HF1.out]
      exact ⟨rfl, rdP_err (HH1.out.thn hc (fun _ _ h => h))⟩
    obtain ⟨rfl, hs, hc⟩ := hp
    have HS2 := hidMk hs
    have HH2 := hidMk (HH1.out.thn hc (fun _ _ h => h))
    have HG2 := hidMk (show foldP ms ds L [] s2 = R from HF1.out)
    clear hs hc HF1 HC1
    (try go_wp2_with fail)
    refine hK.out _ _ ?_ (fun hHeld => ?_)
    · trivial
    clear hK K
    (try simp only [Act.put, List.setIfInBounds_toArray, List.set_cons_zero, List.set_cons_succ])
    refine wpAnyH_done (by kernel_rfl) ?_ _
    go_wp2_with fail
    (try go_end0)
    have hE := HG2.out
    unfold foldP at hE
    subst hE
    exact ⟨rfl, HS2.out, HH2.out⟩
set_option maxHeartbeats 4000000 in
set_option maxRecDepth 100000 in
theorem rd_fields_17 (hX : RX w0 pr px pd ra rc ms ds L) {s : Nat × Cm} (hS : RS w0 W pr px pd ra L.length rc s) (hk : s.2.k = 17) :
    Calls Tryz.prog 26 #[rdV pr, .pointer (some ⟨px, 0, none⟩)] W (RdPost w0 W pr px pd ra L.length rc (foldP ms ds L [115, 99, 100] s)) := by
  have HS := hidMk hS
  have HX := hidMk hX
  have x0 := hS.x 0 _ rfl
  have hmf : ∀ fn first cap w, (Instr.makeFunc fn first cap).run Tryz.prog w = .ok (.func fn first cap) w := fun _ _ _ _ => rfl
  have hna1 : ∀ n w, (nilAhead (n + 1) 62 (.pointer (some ⟨pr, 0, none⟩)) "moiety/parse.cell").run Tryz.prog w = .ok (some false) w := fun n w => by kernel_rfl
  have hna2 : ∀ n w, (nilAhead (n + 1) 62 (.pointer (some ⟨pr, 0, none⟩)) "moiety/parse.num").run Tryz.prog w = .ok (some false) w := fun n w => by kernel_rfl
  have hna3 : ∀ n w, (nilAhead (n + 1) 62 (.pointer (some ⟨pr, 0, none⟩)) "moiety/parse.choice").run Tryz.prog w = .ok (some false) w := fun n w => by kernel_rfl
  have hna4 : ∀ n w, (nilAhead (n + 1) 62 (.pointer (some ⟨pr, 0, none⟩)) "moiety/parse.dim").run Tryz.prog w = .ok (some false) w := fun n w => by kernel_rfl
  have hna5 : ∀ n w, (nilAhead (n + 1) 62 (.pointer (some ⟨pr, 0, none⟩)) "moiety/parse.meas").run Tryz.prog w = .ok (some false) w := fun n w => by kernel_rfl
  obtain ⟨R, hR⟩ : ∃ R, foldP ms ds L [115, 99, 100] s = R := ⟨_, rfl⟩
  rw [hR]
  have HF := hidMk hR
  unfold rdV
  clear hX hS hR
  all_goals
    rw [hk] at x0
    go_enter Tryz.func26, Tryz.ntmps26
    have HH0 := hidMk (Chg.refl (Two pr px) W)
    obtain ⟨r0, hr0⟩ : ∃ r, foldP ms ds L [115] s = r := ⟨_, rfl⟩
    have HF0 := hidMk (show bdP r0 (foldP ms ds L [99, 100]) = R from (congrArg (bdP · (foldP ms ds L [99, 100])) hr0).symm.trans ((foldP_app ms ds L [115] [99, 100] s).symm.trans HF.out))
    have HC0 := hidMk (show ∀ o t y, o = .cells #[.pointer (some ⟨px, 2, none⟩)] t → Kept (W.alloc o) y → Calls Tryz.prog 50 #[.iface 62 (.pointer (some ⟨pr, 0, none⟩)), .slice (some ⟨W.heap.size, 0, none⟩) 1 1] y (RdPost w0 W pr px pd ra L.length rc r0) from fun o t y ho hy => by subst ho; rw [← hr0]; exact rd_nmA HX.out HS.out [115] (by decide) (by simp [isNm]) t y hy)
    clear hr0 HF
    go_wp2_with fail
    refine (HC0.out _ _ _ rfl (by (repeat (first | (with_reducible exact Kept.refl _) | (with_reducible refine Kept.alloc ?_ _) | (with_reducible refine Kept.drew ?_) | (with_reducible refine Kept.drewN ?_ _))))).mono ?_
    rintro e w1 hp
    rcases r0 with p | s1
    · obtain ⟨rfl, hc⟩ := hp
      go_wp2_with fail
      rw [← HF0.out]
      exact ⟨rfl, rdP_err (HH0.out.thn hc (fun _ _ h => h))⟩
    obtain ⟨rfl, hs, hc⟩ := hp
    have HS1 := hidMk hs
    have HH1 := hidMk (HH0.out.thn hc (fun _ _ h => h))
    have HG1 := hidMk (show foldP ms ds L [99, 100] s1 = R from HF0.out)
    clear hs hc HF0 HC0
    obtain ⟨r1, hr1⟩ : ∃ r, cellP ms ds L s1 = r := ⟨_, rfl⟩
    have HF1 := hidMk (show bdP r1 (foldP ms ds L [100]) = R from (congrArg (bdP · (foldP ms ds L [100])) hr1).symm.trans HG1.out)
    have HC1 := hidMk (show ∀ y, Kept w1 y → Calls Tryz.prog 171 #[.pointer (some ⟨pr, 0, none⟩), .pointer (some ⟨px, 4, none⟩)] y (RdPost w0 w1 pr px pd ra L.length rc r1) from fun y hy => by rw [← hr1]; exact rdP_from hy (rd_cell HX.out (HS1.out.keep hy)))
    clear hr1 HG1
    go_wp2_with fail
    refine wp_region_held_drew (S := (fun _ => True)) (by kernel_rfl) ?_ (fun hHeld => ?_)
    · trivial
    refine wpAnyH_take (i := 0) (oi := { dst := some 151, op := _, type := _, pos := _, after := _, guard := _ }) (v := ?_) rfl (by kernel_rfl) (by kernel_rfl) (by kernel_rfl) (fun _ _ _ h => h) (Or.inl ⟨by rfl, ?_⟩) (by assumption) ?_
    rotate_left
    · (intro w hSw; go_simp; (try with_reducible rfl))
    (try simp only [Act.put, List.setIfInBounds_toArray, List.set_cons_zero, List.set_cons_succ])
    refine wpAnyH_take (i := 1) (oi := { dst := some 152, op := _, type := _, pos := _, after := _, guard := _ }) (v := ?_) rfl (by kernel_rfl) (by kernel_rfl) (by kernel_rfl) (fun _ _ _ h => h) (Or.inl ⟨by rfl, ?_⟩) (by assumption) ?_
    rotate_left
    · (intro w hSw; go_simp; (try with_reducible rfl))
    (try simp only [Act.put, List.setIfInBounds_toArray, List.set_cons_zero, List.set_cons_succ])
    refine wpAnyH_take (i := 2) (oi := { dst := some 153, op := _, type := _, pos := _, after := _, guard := _ }) (v := ?_) rfl (by kernel_rfl) (by kernel_rfl) (by kernel_rfl) (fun _ _ _ h => h) (Or.inl ⟨by rfl, ?_⟩) (by assumption) ?_
    rotate_left
    · (intro w hSw; go_simp; (try with_reducible rfl))
    (try simp only [Act.put, List.setIfInBounds_toArray, List.set_cons_zero, List.set_cons_succ])
    refine wpAnyH_take (i := 3) (oi := { dst := some 154, op := _, type := _, pos := _, after := _, guard := _ }) (v := ?_) rfl (by kernel_rfl) (by kernel_rfl) (by kernel_rfl) (fun _ _ _ h => h) (Or.inl ⟨by rfl, ?_⟩) (by assumption) ?_
    rotate_left
    · (intro w hSw; go_simp; (try with_reducible rfl))
    (try simp only [Act.put, List.setIfInBounds_toArray, List.set_cons_zero, List.set_cons_succ])
    refine wpAnyH_take (i := 4) (oi := { dst := some 155, op := _, type := _, pos := _, after := _, guard := _ }) (v := ?_) rfl (by kernel_rfl) (by kernel_rfl) (by kernel_rfl) (fun _ _ _ h => h) (Or.inl ⟨by rfl, ?_⟩) (by assumption) ?_
    rotate_left
    · (intro w hSw; go_simp; (try with_reducible rfl))
    (try simp only [Act.put, List.setIfInBounds_toArray, List.set_cons_zero, List.set_cons_succ])
    refine wpAnyH_take (i := 5) (oi := { dst := some 156, op := _, type := _, pos := _, after := _, guard := _ }) (v := ?_) rfl (by kernel_rfl) (by kernel_rfl) (by kernel_rfl) (fun _ _ _ h => h) (Or.inl ⟨by rfl, ?_⟩) (by assumption) ?_
    rotate_left
    · (intro w hSw; go_simp; (try with_reducible rfl))
    (try simp only [Act.put, List.setIfInBounds_toArray, List.set_cons_zero, List.set_cons_succ])
    refine wpAnyH_take (i := 6) (oi := { dst := some 157, op := _, type := _, pos := _, after := _, guard := _ }) (v := ?_) rfl (by kernel_rfl) (by kernel_rfl) (by kernel_rfl) (fun _ _ _ h => h) (Or.inl ⟨by rfl, ?_⟩) (by assumption) ?_
    rotate_left
    · (intro w hSw; go_simp; (try with_reducible rfl))
    (try simp only [Act.put, List.setIfInBounds_toArray, List.set_cons_zero, List.set_cons_succ])
    refine wpAnyH_ready (rs := [7]) (by kernel_rfl) (by simp) ?_
    refine AllReadyH.cons (o := { dst := some 158, op := _, type := _, pos := _, after := _, guard := _ }) rfl (fun K hK => ?_) AllReadyH.nil
    go_simp
    (try (go_invoke; go_simp))
    refine (HC1.out _ (by (repeat (first | (with_reducible exact Kept.refl _) | (with_reducible refine Kept.alloc ?_ _) | (with_reducible refine Kept.drew ?_) | (with_reducible refine Kept.drewN ?_ _))))).mono ?_
    rintro e w2 hp
    rcases r1 with p | s2
    · obtain ⟨rfl, hc⟩ := hp
      rw [← HF1.out]
      exact ⟨rfl, rdP_err (HH1.out.thn hc (fun _ _ h => h))⟩
    obtain ⟨rfl, hs, hc⟩ := hp
    have HS2 := hidMk hs
    have HH2 := hidMk (HH1.out.thn hc (fun _ _ h => h))
    have HG2 := hidMk (show foldP ms ds L [100] s2 = R from HF1.out)
    clear hs hc HF1 HC1
    (try go_wp2_with fail)
    refine hK.out _ _ ?_ (fun hHeld => ?_)
    · trivial
    clear hK K
    (try simp only [Act.put, List.setIfInBounds_toArray, List.set_cons_zero, List.set_cons_succ])
    refine wpAnyH_done (by kernel_rfl) ?_ _
    obtain ⟨r2, hr2⟩ : ∃ r, indexP L (lbl ds) s2 = r := ⟨_, rfl⟩
    have HF2 := hidMk (show bdP r2 (foldP ms ds L []) = R from (congrArg (bdP · (foldP ms ds L [])) hr2).symm.trans HG2.out)
    have HC2 := hidMk (show ∀ y, Kept w2 y → Calls Tryz.prog 173 #[.pointer (some ⟨pr, 0, none⟩), .pointer (some ⟨px, 11, none⟩)] y (RdPost w0 w2 pr px pd ra L.length rc r2) from fun y hy => by rw [← hr2]; exact rdP_from hy (rd_dim HX.out (HS2.out.keep hy)))
    clear hr2 HG2
    go_wp2_with fail
    refine wp_region_held_drew (S := (fun _ => True)) (by kernel_rfl) ?_ (fun hHeld => ?_)
    · trivial
    refine wpAnyH_take (i := 0) (oi := { dst := some 159, op := _, type := _, pos := _, after := _, guard := _ }) (v := ?_) rfl (by kernel_rfl) (by kernel_rfl) (by kernel_rfl) (fun _ _ _ h => h) (Or.inl ⟨by rfl, ?_⟩) (by assumption) ?_
    rotate_left
    · (intro w hSw; go_simp; (try with_reducible rfl))
    (try simp only [Act.put, List.setIfInBounds_toArray, List.set_cons_zero, List.set_cons_succ])
    refine wpAnyH_take (i := 1) (oi := { dst := some 160, op := _, type := _, pos := _, after := _, guard := _ }) (v := ?_) rfl (by kernel_rfl) (by kernel_rfl) (by kernel_rfl) (fun _ _ _ h => h) (Or.inl ⟨by rfl, ?_⟩) (by assumption) ?_
    rotate_left
    · (intro w hSw; go_simp; (try with_reducible rfl))
    (try simp only [Act.put, List.setIfInBounds_toArray, List.set_cons_zero, List.set_cons_succ])
    refine wpAnyH_take (i := 2) (oi := { dst := some 161, op := _, type := _, pos := _, after := _, guard := _ }) (v := ?_) rfl (by kernel_rfl) (by kernel_rfl) (by kernel_rfl) (fun _ _ _ h => h) (Or.inl ⟨by rfl, ?_⟩) (by assumption) ?_
    rotate_left
    · (intro w hSw; go_simp; (try with_reducible rfl))
    (try simp only [Act.put, List.setIfInBounds_toArray, List.set_cons_zero, List.set_cons_succ])
    refine wpAnyH_take (i := 3) (oi := { dst := some 162, op := _, type := _, pos := _, after := _, guard := _ }) (v := ?_) rfl (by kernel_rfl) (by kernel_rfl) (by kernel_rfl) (fun _ _ _ h => h) (Or.inl ⟨by rfl, ?_⟩) (by assumption) ?_
    rotate_left
    · (intro w hSw; go_simp; (try with_reducible rfl))
    (try simp only [Act.put, List.setIfInBounds_toArray, List.set_cons_zero, List.set_cons_succ])
    refine wpAnyH_take (i := 4) (oi := { dst := some 163, op := _, type := _, pos := _, after := _, guard := _ }) (v := ?_) rfl (by kernel_rfl) (by kernel_rfl) (by kernel_rfl) (fun _ _ _ h => h) (Or.inl ⟨by rfl, ?_⟩) (by assumption) ?_
    rotate_left
    · (intro w hSw; go_simp; (try with_reducible rfl))
    (try simp only [Act.put, List.setIfInBounds_toArray, List.set_cons_zero, List.set_cons_succ])
    refine wpAnyH_take (i := 5) (oi := { dst := some 164, op := _, type := _, pos := _, after := _, guard := _ }) (v := ?_) rfl (by kernel_rfl) (by kernel_rfl) (by kernel_rfl) (fun _ _ _ h => h) (Or.inl ⟨by rfl, ?_⟩) (by assumption) ?_
    rotate_left
    · (intro w hSw; go_simp; (try with_reducible rfl))
    (try simp only [Act.put, List.setIfInBounds_toArray, List.set_cons_zero, List.set_cons_succ])
    refine wpAnyH_take (i := 6) (oi := { dst := some 165, op := _, type := _, pos := _, after := _, guard := _ }) (v := ?_) rfl (by kernel_rfl) (by kernel_rfl) (by kernel_rfl) (fun _ _ _ h => h) (Or.inl ⟨by rfl, ?_⟩) (by assumption) ?_
    rotate_left
    · (intro w hSw; go_simp; (try with_reducible rfl))
    (try simp only [Act.put, List.setIfInBounds_toArray, List.set_cons_zero, List.set_cons_succ])
    refine wpAnyH_ready (rs := [7]) (by kernel_rfl) (by simp) ?_
    refine AllReadyH.cons (o := { dst := some 166, op := _, type := _, pos := _, after := _, guard := _ }) rfl (fun K hK => ?_) AllReadyH.nil
    go_simp
    (try (go_invoke; go_simp))
    refine (HC2.out _ (by (repeat (first | (with_reducible exact Kept.refl _) | (with_reducible refine Kept.alloc ?_ _) | (with_reducible refine Kept.drew ?_) | (with_reducible refine Kept.drewN ?_ _))))).mono ?_
    rintro e w3 hp
    rcases r2 with p | s3
    · obtain ⟨rfl, hc⟩ := hp
      rw [← HF2.out]
      exact ⟨rfl, rdP_err (HH2.out.thn hc (fun _ _ h => h))⟩
    obtain ⟨rfl, hs, hc⟩ := hp
    have HS3 := hidMk hs
    have HH3 := hidMk (HH2.out.thn hc (fun _ _ h => h))
    have HG3 := hidMk (show foldP ms ds L [] s3 = R from HF2.out)
    clear hs hc HF2 HC2
    (try go_wp2_with fail)
    refine hK.out _ _ ?_ (fun hHeld => ?_)
    · trivial
    clear hK K
    (try simp only [Act.put, List.setIfInBounds_toArray, List.set_cons_zero, List.set_cons_succ])
    refine wpAnyH_done (by kernel_rfl) ?_ _
    go_wp2_with fail
    (try go_end0)
    have hE := HG3.out
    unfold foldP at hE
    subst hE
    exact ⟨rfl, HS3.out, HH3.out⟩
set_option maxHeartbeats 4000000 in
set_option maxRecDepth 100000 in
theorem rd_fields_18 (hX : RX w0 pr px pd ra rc ms ds L) {s : Nat × Cm} (hS : RS w0 W pr px pd ra L.length rc s) (hk : s.2.k = 18) :
    Calls Tryz.prog 26 #[rdV pr, .pointer (some ⟨px, 0, none⟩)] W (RdPost w0 W pr px pd ra L.length rc (foldP ms ds L [115, 99, 110] s)) := by
  have HS := hidMk hS
  have HX := hidMk hX
  have x0 := hS.x 0 _ rfl
  have hmf : ∀ fn first cap w, (Instr.makeFunc fn first cap).run Tryz.prog w = .ok (.func fn first cap) w := fun _ _ _ _ => rfl
  have hna1 : ∀ n w, (nilAhead (n + 1) 62 (.pointer (some ⟨pr, 0, none⟩)) "moiety/parse.cell").run Tryz.prog w = .ok (some false) w := fun n w => by kernel_rfl
  have hna2 : ∀ n w, (nilAhead (n + 1) 62 (.pointer (some ⟨pr, 0, none⟩)) "moiety/parse.num").run Tryz.prog w = .ok (some false) w := fun n w => by kernel_rfl
  have hna3 : ∀ n w, (nilAhead (n + 1) 62 (.pointer (some ⟨pr, 0, none⟩)) "moiety/parse.choice").run Tryz.prog w = .ok (some false) w := fun n w => by kernel_rfl
  have hna4 : ∀ n w, (nilAhead (n + 1) 62 (.pointer (some ⟨pr, 0, none⟩)) "moiety/parse.dim").run Tryz.prog w = .ok (some false) w := fun n w => by kernel_rfl
  have hna5 : ∀ n w, (nilAhead (n + 1) 62 (.pointer (some ⟨pr, 0, none⟩)) "moiety/parse.meas").run Tryz.prog w = .ok (some false) w := fun n w => by kernel_rfl
  obtain ⟨R, hR⟩ : ∃ R, foldP ms ds L [115, 99, 110] s = R := ⟨_, rfl⟩
  rw [hR]
  have HF := hidMk hR
  unfold rdV
  clear hX hS hR
  all_goals
    rw [hk] at x0
    go_enter Tryz.func26, Tryz.ntmps26
    have HH0 := hidMk (Chg.refl (Two pr px) W)
    obtain ⟨r0, hr0⟩ : ∃ r, foldP ms ds L [115] s = r := ⟨_, rfl⟩
    have HF0 := hidMk (show bdP r0 (foldP ms ds L [99, 110]) = R from (congrArg (bdP · (foldP ms ds L [99, 110])) hr0).symm.trans ((foldP_app ms ds L [115] [99, 110] s).symm.trans HF.out))
    have HC0 := hidMk (show ∀ o t y, o = .cells #[.pointer (some ⟨px, 2, none⟩)] t → Kept (W.alloc o) y → Calls Tryz.prog 50 #[.iface 62 (.pointer (some ⟨pr, 0, none⟩)), .slice (some ⟨W.heap.size, 0, none⟩) 1 1] y (RdPost w0 W pr px pd ra L.length rc r0) from fun o t y ho hy => by subst ho; rw [← hr0]; exact rd_nmA HX.out HS.out [115] (by decide) (by simp [isNm]) t y hy)
    clear hr0 HF
    go_wp2_with fail
    refine (HC0.out _ _ _ rfl (by (repeat (first | (with_reducible exact Kept.refl _) | (with_reducible refine Kept.alloc ?_ _) | (with_reducible refine Kept.drew ?_) | (with_reducible refine Kept.drewN ?_ _))))).mono ?_
    rintro e w1 hp
    rcases r0 with p | s1
    · obtain ⟨rfl, hc⟩ := hp
      go_wp2_with fail
      rw [← HF0.out]
      exact ⟨rfl, rdP_err (HH0.out.thn hc (fun _ _ h => h))⟩
    obtain ⟨rfl, hs, hc⟩ := hp
    have HS1 := hidMk hs
    have HH1 := hidMk (HH0.out.thn hc (fun _ _ h => h))
    have HG1 := hidMk (show foldP ms ds L [99, 110] s1 = R from HF0.out)
    clear hs hc HF0 HC0
    obtain ⟨r1, hr1⟩ : ∃ r, cellP ms ds L s1 = r := ⟨_, rfl⟩
    have HF1 := hidMk (show bdP r1 (foldP ms ds L [110]) = R from (congrArg (bdP · (foldP ms ds L [110])) hr1).symm.trans HG1.out)
    have HC1 := hidMk (show ∀ y, Kept w1 y → Calls Tryz.prog 171 #[.pointer (some ⟨pr, 0, none⟩), .pointer (some ⟨px, 4, none⟩)] y (RdPost w0 w1 pr px pd ra L.length rc r1) from fun y hy => by rw [← hr1]; exact rdP_from hy (rd_cell HX.out (HS1.out.keep hy)))
    clear hr1 HG1
    go_wp2_with fail
    refine wp_region_held_drew (S := (fun _ => True)) (by kernel_rfl) ?_ (fun hHeld => ?_)
    · trivial
    refine wpAnyH_take (i := 0) (oi := { dst := some 175, op := _, type := _, pos := _, after := _, guard := _ }) (v := ?_) rfl (by kernel_rfl) (by kernel_rfl) (by kernel_rfl) (fun _ _ _ h => h) (Or.inl ⟨by rfl, ?_⟩) (by assumption) ?_
    rotate_left
    · (intro w hSw; go_simp; (try with_reducible rfl))
    (try simp only [Act.put, List.setIfInBounds_toArray, List.set_cons_zero, List.set_cons_succ])
    refine wpAnyH_take (i := 1) (oi := { dst := some 176, op := _, type := _, pos := _, after := _, guard := _ }) (v := ?_) rfl (by kernel_rfl) (by kernel_rfl) (by kernel_rfl) (fun _ _ _ h => h) (Or.inl ⟨by rfl, ?_⟩) (by assumption) ?_
    rotate_left
    · (intro w hSw; go_simp; (try with_reducible rfl))
    (try simp only [Act.put, List.setIfInBounds_toArray, List.set_cons_zero, List.set_cons_succ])
    refine wpAnyH_take (i := 2) (oi := { dst := some 177, op := _, type := _, pos := _, after := _, guard := _ }) (v := ?_) rfl (by kernel_rfl) (by kernel_rfl) (by kernel_rfl) (fun _ _ _ h => h) (Or.inl ⟨by rfl, ?_⟩) (by assumption) ?_
    rotate_left
    · (intro w hSw; go_simp; (try with_reducible rfl))
    (try simp only [Act.put, List.setIfInBounds_toArray, List.set_cons_zero, List.set_cons_succ])
    refine wpAnyH_take (i := 3) (oi := { dst := some 178, op := _, type := _, pos := _, after := _, guard := _ }) (v := ?_) rfl (by kernel_rfl) (by kernel_rfl) (by kernel_rfl) (fun _ _ _ h => h) (Or.inl ⟨by rfl, ?_⟩) (by assumption) ?_
    rotate_left
    · (intro w hSw; go_simp; (try with_reducible rfl))
    (try simp only [Act.put, List.setIfInBounds_toArray, List.set_cons_zero, List.set_cons_succ])
    refine wpAnyH_take (i := 4) (oi := { dst := some 179, op := _, type := _, pos := _, after := _, guard := _ }) (v := ?_) rfl (by kernel_rfl) (by kernel_rfl) (by kernel_rfl) (fun _ _ _ h => h) (Or.inl ⟨by rfl, ?_⟩) (by assumption) ?_
    rotate_left
    · (intro w hSw; go_simp; (try with_reducible rfl))
    (try simp only [Act.put, List.setIfInBounds_toArray, List.set_cons_zero, List.set_cons_succ])
    refine wpAnyH_take (i := 5) (oi := { dst := some 180, op := _, type := _, pos := _, after := _, guard := _ }) (v := ?_) rfl (by kernel_rfl) (by kernel_rfl) (by kernel_rfl) (fun _ _ _ h => h) (Or.inl ⟨by rfl, ?_⟩) (by assumption) ?_
    rotate_left
    · (intro w hSw; go_simp; (try with_reducible rfl))
    (try simp only [Act.put, List.setIfInBounds_toArray, List.set_cons_zero, List.set_cons_succ])
    refine wpAnyH_take (i := 6) (oi := { dst := some 181, op := _, type := _, pos := _, after := _, guard := _ }) (v := ?_) rfl (by kernel_rfl) (by kernel_rfl) (by kernel_rfl) (fun _ _ _ h => h) (Or.inl ⟨by rfl, ?_⟩) (by assumption) ?_
    rotate_left
    · (intro w hSw; go_simp; (try with_reducible rfl))
    (try simp only [Act.put, List.setIfInBounds_toArray, List.set_cons_zero, List.set_cons_succ])
    refine wpAnyH_ready (rs := [7]) (by kernel_rfl) (by simp) ?_
    refine AllReadyH.cons (o := { dst := some 182, op := _, type := _, pos := _, after := _, guard := _ }) rfl (fun K hK => ?_) AllReadyH.nil
    go_simp
    (try (go_invoke; go_simp))
    refine (HC1.out _ (by (repeat (first | (with_reducible exact Kept.refl _) | (with_reducible refine Kept.alloc ?_ _) | (with_reducible refine Kept.drew ?_) | (with_reducible refine Kept.drewN ?_ _))))).mono ?_
    rintro e w2 hp
    rcases r1 with p | s2
    · obtain ⟨rfl, hc⟩ := hp
      rw [← HF1.out]
      exact ⟨rfl, rdP_err (HH1.out.thn hc (fun _ _ h => h))⟩
    obtain ⟨rfl, hs, hc⟩ := hp
    have HS2 := hidMk hs
    have HH2 := hidMk (HH1.out.thn hc (fun _ _ h => h))
    have HG2 := hidMk (show foldP ms ds L [110] s2 = R from HF1.out)
    clear hs hc HF1 HC1
    (try go_wp2_with fail)
    refine hK.out _ _ ?_ (fun hHeld => ?_)
    · trivial
    clear hK K
    (try simp only [Act.put, List.setIfInBounds_toArray, List.set_cons_zero, List.set_cons_succ])
    refine wpAnyH_done (by kernel_rfl) ?_ _
    obtain ⟨r2, hr2⟩ : ∃ r, numP L s2 = r := ⟨_, rfl⟩
    have HF2 := hidMk (show bdP r2 (foldP ms ds L []) = R from (congrArg (bdP · (foldP ms ds L [])) hr2).symm.trans HG2.out)
    have HC2 := hidMk (show ∀ y, Kept w2 y → Calls Tryz.prog 176 #[.pointer (some ⟨pr, 0, none⟩), .pointer (some ⟨px, 9, none⟩)] y (RdPost w0 w2 pr px pd ra L.length rc r2) from fun y hy => by rw [← hr2]; exact rdP_from hy (rd_num HX.out (HS2.out.keep hy)))
    clear hr2 HG2
    go_wp2_with fail
    refine wp_region_held_drew (S := (fun _ => True)) (by kernel_rfl) ?_ (fun hHeld => ?_)
    · trivial
    refine wpAnyH_take (i := 0) (oi := { dst := some 183, op := _, type := _, pos := _, after := _, guard := _ }) (v := ?_) rfl (by kernel_rfl) (by kernel_rfl) (by kernel_rfl) (fun _ _ _ h => h) (Or.inl ⟨by rfl, ?_⟩) (by assumption) ?_
    rotate_left
    · (intro w hSw; go_simp; (try with_reducible rfl))
    (try simp only [Act.put, List.setIfInBounds_toArray, List.set_cons_zero, List.set_cons_succ])
    refine wpAnyH_take (i := 1) (oi := { dst := some 184, op := _, type := _, pos := _, after := _, guard := _ }) (v := ?_) rfl (by kernel_rfl) (by kernel_rfl) (by kernel_rfl) (fun _ _ _ h => h) (Or.inl ⟨by rfl, ?_⟩) (by assumption) ?_
    rotate_left
    · (intro w hSw; go_simp; (try with_reducible rfl))
    (try simp only [Act.put, List.setIfInBounds_toArray, List.set_cons_zero, List.set_cons_succ])
    refine wpAnyH_take (i := 2) (oi := { dst := some 185, op := _, type := _, pos := _, after := _, guard := _ }) (v := ?_) rfl (by kernel_rfl) (by kernel_rfl) (by kernel_rfl) (fun _ _ _ h => h) (Or.inl ⟨by rfl, ?_⟩) (by assumption) ?_
    rotate_left
    · (intro w hSw; go_simp; (try with_reducible rfl))
    (try simp only [Act.put, List.setIfInBounds_toArray, List.set_cons_zero, List.set_cons_succ])
    refine wpAnyH_take (i := 3) (oi := { dst := some 186, op := _, type := _, pos := _, after := _, guard := _ }) (v := ?_) rfl (by kernel_rfl) (by kernel_rfl) (by kernel_rfl) (fun _ _ _ h => h) (Or.inl ⟨by rfl, ?_⟩) (by assumption) ?_
    rotate_left
    · (intro w hSw; go_simp; (try with_reducible rfl))
    (try simp only [Act.put, List.setIfInBounds_toArray, List.set_cons_zero, List.set_cons_succ])
    refine wpAnyH_take (i := 4) (oi := { dst := some 187, op := _, type := _, pos := _, after := _, guard := _ }) (v := ?_) rfl (by kernel_rfl) (by kernel_rfl) (by kernel_rfl) (fun _ _ _ h => h) (Or.inl ⟨by rfl, ?_⟩) (by assumption) ?_
    rotate_left
    · (intro w hSw; go_simp; (try with_reducible rfl))
    (try simp only [Act.put, List.setIfInBounds_toArray, List.set_cons_zero, List.set_cons_succ])
    refine wpAnyH_take (i := 5) (oi := { dst := some 188, op := _, type := _, pos := _, after := _, guard := _ }) (v := ?_) rfl (by kernel_rfl) (by kernel_rfl) (by kernel_rfl) (fun _ _ _ h => h) (Or.inl ⟨by rfl, ?_⟩) (by assumption) ?_
    rotate_left
    · (intro w hSw; go_simp; (try with_reducible rfl))
    (try simp only [Act.put, List.setIfInBounds_toArray, List.set_cons_zero, List.set_cons_succ])
    refine wpAnyH_take (i := 6) (oi := { dst := some 189, op := _, type := _, pos := _, after := _, guard := _ }) (v := ?_) rfl (by kernel_rfl) (by kernel_rfl) (by kernel_rfl) (fun _ _ _ h => h) (Or.inl ⟨by rfl, ?_⟩) (by assumption) ?_
    rotate_left
    · (intro w hSw; go_simp; (try with_reducible rfl))
    (try simp only [Act.put, List.setIfInBounds_toArray, List.set_cons_zero, List.set_cons_succ])
    refine wpAnyH_ready (rs := [7]) (by kernel_rfl) (by simp) ?_
    refine AllReadyH.cons (o := { dst := some 190, op := _, type := _, pos := _, after := _, guard := _ }) rfl (fun K hK => ?_) AllReadyH.nil
    go_simp
    (try (go_invoke; go_simp))
    refine (HC2.out _ (by (repeat (first | (with_reducible exact Kept.refl _) | (with_reducible refine Kept.alloc ?_ _) | (with_reducible refine Kept.drew ?_) | (with_reducible refine Kept.drewN ?_ _))))).mono ?_
    rintro e w3 hp
    rcases r2 with p | s3
    · obtain ⟨rfl, hc⟩ := hp
      rw [← HF2.out]
      exact ⟨rfl, rdP_err (HH2.out.thn hc (fun _ _ h => h))⟩
    obtain ⟨rfl, hs, hc⟩ := hp
    have HS3 := hidMk hs
    have HH3 := hidMk (HH2.out.thn hc (fun _ _ h => h))
    have HG3 := hidMk (show foldP ms ds L [] s3 = R from HF2.out)
    clear hs hc HF2 HC2
    (try go_wp2_with fail)
    refine hK.out _ _ ?_ (fun hHeld => ?_)
    · trivial
    clear hK K
    (try simp only [Act.put, List.setIfInBounds_toArray, List.set_cons_zero, List.set_cons_succ])
    refine wpAnyH_done (by kernel_rfl) ?_ _
    go_wp2_with fail
    (try go_end0)
    have hE := HG3.out
    unfold foldP at hE
    subst hE
    exact ⟨rfl, HS3.out, HH3.out⟩
end
end Go.Proofs.YtpehinmckppjoaaGreatDoor
