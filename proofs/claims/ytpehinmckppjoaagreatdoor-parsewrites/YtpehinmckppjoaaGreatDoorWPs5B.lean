/- parse's reader: a measure, a dimension. · parse's reader: a choice, a cell. -/
import Derived.Test.YtpehinmckppjoaaGreatDoorWPs3B
import Derived.Deep.DeepMust
namespace Go.Proofs.YtpehinmckppjoaaGreatDoor
open Go.RowKit Go.Maps
set_option linter.unusedSimpArgs false
set_option linter.unusedVariables false

section
variable {w0 W : World} {pr px pd : Nat} {ra : Option Addr} {rc : Nat} {ms : List ByteArray} {ds : List Dm} {L : List ByteArray} {s : Nat × Cm}
set_option maxHeartbeats 4000000 in
set_option maxRecDepth 100000 in
theorem rd_meas (hX : RX w0 pr px pd ra rc ms ds L) (hS : RS w0 W pr px pd ra L.length rc s) :
    Calls Tryz.prog 174 #[.pointer (some ⟨pr, 0, none⟩), .pointer (some ⟨px, 11, none⟩)] W (RdPost w0 W pr px pd ra L.length rc (indexP L (ms) s)) := by
  have q0 := hS.d
  unfold indexP
  cases hn : nx L 1 s.1 with
  | none =>
    have HW := hidMk (show ∀ y, Kept W y → _ from fun y hy => rd_word_no hX (hS.keep hy) hn)
    clear hX hS hn
    show Calls _ _ _ _ (fun e w' => e = .panicked (flt s.1 6) ∧ Chg (Two pr px) W w')
    go_enter Tryz.func174, Tryz.ntmps174
    go_wp2_with fail
    refine wp_region_held_drew (S := (fun w' => w'.cell? ⟨pr, 0, none⟩ = some (.pointer (some ⟨pd, 0, none⟩)))) (by kernel_rfl) ?_ (fun hHeld => ?_)
    · exact q0
    refine wpAnyH_take (i := 0) (oi := { dst := some 4, op := _, type := _, pos := _, after := _, guard := _ }) (v := ?_) rfl (by kernel_rfl) (by kernel_rfl) (by kernel_rfl) (fun _ _ _ h => h) (Or.inl ⟨by rfl, ?_⟩) (by assumption) ?_
    rotate_left
    · (intro w hSw; (try dsimp only at hSw); (try obtain ⟨hSw1, hSw2⟩ := hSw); go_simp; (try with_reducible rfl))
    (try simp only [Act.put, List.setIfInBounds_toArray, List.set_cons_zero, List.set_cons_succ])
    refine wpAnyH_take (i := 1) (oi := { dst := some 5, op := _, type := _, pos := _, after := _, guard := _ }) (v := ?_) rfl (by kernel_rfl) (by kernel_rfl) (by kernel_rfl) (fun _ _ _ h => h) (Or.inl ⟨by rfl, ?_⟩) (by assumption) ?_
    rotate_left
    · (intro w hSw; (try dsimp only at hSw); (try obtain ⟨hSw1, hSw2⟩ := hSw); go_simp; (try with_reducible rfl))
    (try simp only [Act.put, List.setIfInBounds_toArray, List.set_cons_zero, List.set_cons_succ])
    refine wpAnyH_take (i := 2) (oi := { dst := some 6, op := _, type := _, pos := _, after := _, guard := _ }) (v := ?_) rfl (by kernel_rfl) (by kernel_rfl) (by kernel_rfl) (fun _ _ _ h => h) (Or.inl ⟨by rfl, ?_⟩) (by assumption) ?_
    rotate_left
    · (intro w hSw; (try dsimp only at hSw); (try obtain ⟨hSw1, hSw2⟩ := hSw); go_simp; (try with_reducible rfl))
    (try simp only [Act.put, List.setIfInBounds_toArray, List.set_cons_zero, List.set_cons_succ])
    refine wpAnyH_take (i := 3) (oi := { dst := some 7, op := _, type := _, pos := _, after := _, guard := _ }) (v := ?_) rfl (by kernel_rfl) (by kernel_rfl) (by kernel_rfl) (fun _ _ _ h => h) (Or.inl ⟨by rfl, ?_⟩) (by assumption) ?_
    rotate_left
    · (intro w hSw; (try dsimp only at hSw); (try obtain ⟨hSw1, hSw2⟩ := hSw); go_simp; (try with_reducible rfl))
    (try simp only [Act.put, List.setIfInBounds_toArray, List.set_cons_zero, List.set_cons_succ])
    refine wpAnyH_take (i := 4) (oi := { dst := some 8, op := _, type := _, pos := _, after := _, guard := _ }) (v := ?_) rfl (by kernel_rfl) (by kernel_rfl) (by kernel_rfl) (fun _ _ _ h => h) (Or.inl ⟨by rfl, ?_⟩) (by assumption) ?_
    rotate_left
    · (intro w hSw; (try dsimp only at hSw); (try obtain ⟨hSw1, hSw2⟩ := hSw); go_simp; (try with_reducible rfl))
    (try simp only [Act.put, List.setIfInBounds_toArray, List.set_cons_zero, List.set_cons_succ])
    refine wpAnyH_take (i := 5) (oi := { dst := some 9, op := _, type := _, pos := _, after := _, guard := _ }) (v := ?_) rfl (by kernel_rfl) (by kernel_rfl) (by kernel_rfl) (fun _ _ _ h => h) (Or.inl ⟨by rfl, ?_⟩) (by assumption) ?_
    rotate_left
    · (intro w hSw; (try dsimp only at hSw); (try obtain ⟨hSw1, hSw2⟩ := hSw); go_simp; (try with_reducible rfl))
    (try simp only [Act.put, List.setIfInBounds_toArray, List.set_cons_zero, List.set_cons_succ])
    refine wpAnyH_ready (rs := [6]) (by kernel_rfl) (by simp) ?_
    refine AllReadyH.cons (o := { dst := some 10, op := _, type := _, pos := _, after := _, guard := _ }) rfl (fun K hK => ?_) AllReadyH.nil
    go_simp
    refine (HW.out _ (by (repeat (first | (with_reducible exact Kept.refl _) | (with_reducible refine Kept.alloc ?_ _) | (with_reducible refine Kept.drew ?_) | (with_reducible refine Kept.drewN ?_ _) | (with_reducible refine Kept.trans ?_ (by assumption)))))).mono ?_
    rintro e w1 ⟨rfl, k1⟩
    exact ⟨rfl, rfl, Chg.of_kept (by (repeat (first | (with_reducible exact Kept.refl _) | (with_reducible refine Kept.alloc ?_ _) | (with_reducible refine Kept.drew ?_) | (with_reducible refine Kept.drewN ?_ _) | (with_reducible refine Kept.trans ?_ (by assumption)))))⟩
  | some t =>
    have HW := hidMk (show ∀ y, Kept W y → _ from fun y hy => rd_word_yes hX (hS.keep hy) hn)
    have hi := (nx_some hn).1
    have hbig := hX.big
    have HS := hidMk hS
    have HI := hidMk (show ∀ y, Kept W y → Calls Tryz.prog 66 #[.pointer (some ⟨pd, 0, none⟩), .string t] y fun e w' => e = .returned (.int .i64 (idxI (ms) t)) ∧ Kept y w' from fun y hy => by
      obtain ⟨yy, tp, ma, mc, lv, sc, dv, hD⟩ := hX.dp _ (chg_kept hS.kept hy)
      exact (dims_Meas hD t).mono (fun e w' h => ⟨h.1, by rw [h.2]; exact Kept.refl _⟩))
    have HFD := fun v0 v1 v2 v3 v4 w => (wd_field v0 v1 v2 v3 v4 w).1
    obtain ⟨i, x⟩ := s
    simp only at HS hi HW ⊢
    have HPY := hidMk (fun (y : World) (hy : RS w0 y pr px pd ra L.length rc (i, { x with m := idxI (ms) t })) => rd_pass_yes pr i 10 y hy.at_ hy.fr (by omega))
    have HPN := hidMk (fun (y : World) (hy : RS w0 y pr px pd ra L.length rc (i, { x with m := idxI (ms) t })) => rd_pass_no pr i 10 y hy.at_)
    have HP := hidMk (show cmL { x with m := idxI (ms) t } = (cmL x).set 11 (.int .i64 (idxI (ms) t)) from rfl)
    clear hX hS hn
    generalize hk : idxI (ms) t = k at *
    clear hk
    by_cases hk0 : k < 0
    · rw [if_pos hk0]
      have hb0 : decide (0 ≤ k) = false := by simp; omega
      show Calls _ _ _ _ (fun e w' => e = .panicked (flt i 10) ∧ Chg (Two pr px) W w')
      go_enter Tryz.func174, Tryz.ntmps174
      go_wp2_with fail
      refine wp_region_held_drew (S := (fun w' => w'.cell? ⟨pr, 0, none⟩ = some (.pointer (some ⟨pd, 0, none⟩)))) (by kernel_rfl) ?_ (fun hHeld => ?_)
      · exact q0
      refine wpAnyH_take (i := 0) (oi := { dst := some 4, op := _, type := _, pos := _, after := _, guard := _ }) (v := ?_) rfl (by kernel_rfl) (by kernel_rfl) (by kernel_rfl) (fun _ _ _ h => h) (Or.inl ⟨by rfl, ?_⟩) (by assumption) ?_
      rotate_left
      · (intro w hSw; (try dsimp only at hSw); (try obtain ⟨hSw1, hSw2⟩ := hSw); go_simp; (try with_reducible rfl))
      (try simp only [Act.put, List.setIfInBounds_toArray, List.set_cons_zero, List.set_cons_succ])
      refine wpAnyH_take (i := 1) (oi := { dst := some 5, op := _, type := _, pos := _, after := _, guard := _ }) (v := ?_) rfl (by kernel_rfl) (by kernel_rfl) (by kernel_rfl) (fun _ _ _ h => h) (Or.inl ⟨by rfl, ?_⟩) (by assumption) ?_
      rotate_left
      · (intro w hSw; (try dsimp only at hSw); (try obtain ⟨hSw1, hSw2⟩ := hSw); go_simp; (try with_reducible rfl))
      (try simp only [Act.put, List.setIfInBounds_toArray, List.set_cons_zero, List.set_cons_succ])
      refine wpAnyH_take (i := 2) (oi := { dst := some 6, op := _, type := _, pos := _, after := _, guard := _ }) (v := ?_) rfl (by kernel_rfl) (by kernel_rfl) (by kernel_rfl) (fun _ _ _ h => h) (Or.inl ⟨by rfl, ?_⟩) (by assumption) ?_
      rotate_left
      · (intro w hSw; (try dsimp only at hSw); (try obtain ⟨hSw1, hSw2⟩ := hSw); go_simp; (try with_reducible rfl))
      (try simp only [Act.put, List.setIfInBounds_toArray, List.set_cons_zero, List.set_cons_succ])
      refine wpAnyH_take (i := 3) (oi := { dst := some 7, op := _, type := _, pos := _, after := _, guard := _ }) (v := ?_) rfl (by kernel_rfl) (by kernel_rfl) (by kernel_rfl) (fun _ _ _ h => h) (Or.inl ⟨by rfl, ?_⟩) (by assumption) ?_
      rotate_left
      · (intro w hSw; (try dsimp only at hSw); (try obtain ⟨hSw1, hSw2⟩ := hSw); go_simp; (try with_reducible rfl))
      (try simp only [Act.put, List.setIfInBounds_toArray, List.set_cons_zero, List.set_cons_succ])
      refine wpAnyH_take (i := 4) (oi := { dst := some 8, op := _, type := _, pos := _, after := _, guard := _ }) (v := ?_) rfl (by kernel_rfl) (by kernel_rfl) (by kernel_rfl) (fun _ _ _ h => h) (Or.inl ⟨by rfl, ?_⟩) (by assumption) ?_
      rotate_left
      · (intro w hSw; (try dsimp only at hSw); (try obtain ⟨hSw1, hSw2⟩ := hSw); go_simp; (try with_reducible rfl))
      (try simp only [Act.put, List.setIfInBounds_toArray, List.set_cons_zero, List.set_cons_succ])
      refine wpAnyH_take (i := 5) (oi := { dst := some 9, op := _, type := _, pos := _, after := _, guard := _ }) (v := ?_) rfl (by kernel_rfl) (by kernel_rfl) (by kernel_rfl) (fun _ _ _ h => h) (Or.inl ⟨by rfl, ?_⟩) (by assumption) ?_
      rotate_left
      · (intro w hSw; (try dsimp only at hSw); (try obtain ⟨hSw1, hSw2⟩ := hSw); go_simp; (try with_reducible rfl))
      (try simp only [Act.put, List.setIfInBounds_toArray, List.set_cons_zero, List.set_cons_succ])
      refine wpAnyH_ready (rs := [6]) (by kernel_rfl) (by simp) ?_
      refine AllReadyH.cons (o := { dst := some 10, op := _, type := _, pos := _, after := _, guard := _ }) rfl (fun K hK => ?_) AllReadyH.nil
      go_simp
      refine (HW.out _ (by (repeat (first | (with_reducible exact Kept.refl _) | (with_reducible refine Kept.alloc ?_ _) | (with_reducible refine Kept.drew ?_) | (with_reducible refine Kept.drewN ?_ _) | (with_reducible refine Kept.trans ?_ (by assumption)))))).mono ?_
      rintro e w1 ⟨wx, rfl, _, _, k1⟩
      have K1 := hidMk (show Kept W w1 by (repeat (first | (with_reducible exact Kept.refl _) | (with_reducible refine Kept.alloc ?_ _) | (with_reducible refine Kept.drew ?_) | (with_reducible refine Kept.drewN ?_ _) | (with_reducible refine Kept.trans ?_ (by assumption)))))
      clear k1
      (try go_wp2_with fail)
      refine hK.out _ _ ?_ (fun hHeld => ?_)
      · first | (exact Kept.cellp (by first | exact K2.out | exact K1.out) q0) | (exact so d2 (by intro e; simp only [Addr.mk.injEq] at e; exact hne e.1.symm))
      clear hK K
      (try simp only [Act.put, List.setIfInBounds_toArray, List.set_cons_zero, List.set_cons_succ])
      refine wpAnyH_take (i := 7) (oi := { dst := some 11, op := _, type := _, pos := _, after := _, guard := _ }) (v := ?_) rfl (by kernel_rfl) (by kernel_rfl) (by kernel_rfl) (fun _ _ _ h => h) (Or.inl ⟨by rfl, ?_⟩) (by assumption) ?_
      rotate_left
      · (intro w hSw; (try dsimp only at hSw); (try obtain ⟨hSw1, hSw2⟩ := hSw); go_simp; (try with_reducible rfl))
      (try simp only [Act.put, List.setIfInBounds_toArray, List.set_cons_zero, List.set_cons_succ])
      refine wpAnyH_ready (rs := [8]) (by kernel_rfl) (by simp) ?_
      refine AllReadyH.cons (o := { dst := some 12, op := _, type := _, pos := _, after := _, guard := _ }) rfl (fun K hK => ?_) AllReadyH.nil
      go_simp
      refine (HI.out _ K1.out).mono ?_
      rintro e w2 ⟨rfl, k2⟩
      have S2 := hidMk (HS.out.keep (K1.out.trans k2))
      have K2 := hidMk (K1.out.trans k2)
      clear k2
      have x0 := S2.out.x 11 _ rfl
      have xf := S2.out.fx 11 (by omega)
      have d2 := S2.out.d
      have hne := S2.out.ne
      (try go_wp2_with fail)
      refine hK.out _ _ ?_ (fun hHeld => ?_)
      · first | (exact Kept.cellp (by first | exact K2.out | exact K1.out) q0) | (exact so d2 (by intro e; simp only [Addr.mk.injEq] at e; exact hne e.1.symm))
      clear hK K
      (try simp only [Act.put, List.setIfInBounds_toArray, List.set_cons_zero, List.set_cons_succ])
      refine wpAnyH_take (i := 9) (oi := { dst := some 13, op := _, type := _, pos := _, after := _, guard := _ }) (v := ?_) rfl (by kernel_rfl) (by kernel_rfl) (by kernel_rfl) (fun _ _ _ h => h) (Or.inl ⟨by rfl, ?_⟩) (by assumption) ?_
      rotate_left
      · (intro w hSw; (try dsimp only at hSw); (try obtain ⟨hSw1, hSw2⟩ := hSw); go_simp; (try with_reducible rfl))
      (try simp only [Act.put, List.setIfInBounds_toArray, List.set_cons_zero, List.set_cons_succ])
      refine wpAnyH_ready (rs := [10]) (by kernel_rfl) (by simp) ?_
      refine AllReadyH.cons (o := { dst := none, op := _, type := _, pos := _, after := _, guard := _ }) rfl (fun K hK => ?_) AllReadyH.nil
      go_simp
      refine hK.out _ _ ?_ (fun hHeld => ?_)
      · first | (exact Kept.cellp (by first | exact K2.out | exact K1.out) q0) | (exact so d2 (by intro e; simp only [Addr.mk.injEq] at e; exact hne e.1.symm))
      clear hK K
      (try simp only [Act.put, List.setIfInBounds_toArray, List.set_cons_zero, List.set_cons_succ])
      refine wpAnyH_done (by kernel_rfl) ?_ _
      have S3 := hidMk (S2.out.setX (by omega) HP.out)
      have x3 := S3.out.x 11 _ rfl
      simp only at x3
      have C3 := hidMk (((Chg.of_kept (S := Two pr px) K2.out).setCell (p := ⟨px, 11, none⟩) (.inl (.inr rfl)) (.int .i64 k)))
      have HQ := hidMk (HPN.out _ S3.out)
      clear x0 xf d2 hne
      generalize (w2.setCell ⟨px, 11, none⟩ (.int .i64 k)) = w3 at *
      go_wp2_with fail
      refine HQ.out.mono ?_
      rintro e w4 ⟨rfl, rfl⟩
      go_wp2_with fail
      exact ⟨rfl, rfl, C3.out⟩
    · rw [if_neg hk0]
      have hb0 : decide (0 ≤ k) = true := by simp; omega
      show Calls _ _ _ _ (fun e w' => e = .returned (.tuple #[]) ∧ RS w0 w' pr px pd ra L.length rc (i + 1, { x with m := k }) ∧ Chg (Two pr px) W w')
      go_enter Tryz.func174, Tryz.ntmps174
      go_wp2_with fail
      refine wp_region_held_drew (S := (fun w' => w'.cell? ⟨pr, 0, none⟩ = some (.pointer (some ⟨pd, 0, none⟩)))) (by kernel_rfl) ?_ (fun hHeld => ?_)
      · exact q0
      refine wpAnyH_take (i := 0) (oi := { dst := some 4, op := _, type := _, pos := _, after := _, guard := _ }) (v := ?_) rfl (by kernel_rfl) (by kernel_rfl) (by kernel_rfl) (fun _ _ _ h => h) (Or.inl ⟨by rfl, ?_⟩) (by assumption) ?_
      rotate_left
      · (intro w hSw; (try dsimp only at hSw); (try obtain ⟨hSw1, hSw2⟩ := hSw); go_simp; (try with_reducible rfl))
      (try simp only [Act.put, List.setIfInBounds_toArray, List.set_cons_zero, List.set_cons_succ])
      refine wpAnyH_take (i := 1) (oi := { dst := some 5, op := _, type := _, pos := _, after := _, guard := _ }) (v := ?_) rfl (by kernel_rfl) (by kernel_rfl) (by kernel_rfl) (fun _ _ _ h => h) (Or.inl ⟨by rfl, ?_⟩) (by assumption) ?_
      rotate_left
      · (intro w hSw; (try dsimp only at hSw); (try obtain ⟨hSw1, hSw2⟩ := hSw); go_simp; (try with_reducible rfl))
      (try simp only [Act.put, List.setIfInBounds_toArray, List.set_cons_zero, List.set_cons_succ])
      refine wpAnyH_take (i := 2) (oi := { dst := some 6, op := _, type := _, pos := _, after := _, guard := _ }) (v := ?_) rfl (by kernel_rfl) (by kernel_rfl) (by kernel_rfl) (fun _ _ _ h => h) (Or.inl ⟨by rfl, ?_⟩) (by assumption) ?_
      rotate_left
      · (intro w hSw; (try dsimp only at hSw); (try obtain ⟨hSw1, hSw2⟩ := hSw); go_simp; (try with_reducible rfl))
      (try simp only [Act.put, List.setIfInBounds_toArray, List.set_cons_zero, List.set_cons_succ])
      refine wpAnyH_take (i := 3) (oi := { dst := some 7, op := _, type := _, pos := _, after := _, guard := _ }) (v := ?_) rfl (by kernel_rfl) (by kernel_rfl) (by kernel_rfl) (fun _ _ _ h => h) (Or.inl ⟨by rfl, ?_⟩) (by assumption) ?_
      rotate_left
      · (intro w hSw; (try dsimp only at hSw); (try obtain ⟨hSw1, hSw2⟩ := hSw); go_simp; (try with_reducible rfl))
      (try simp only [Act.put, List.setIfInBounds_toArray, List.set_cons_zero, List.set_cons_succ])
      refine wpAnyH_take (i := 4) (oi := { dst := some 8, op := _, type := _, pos := _, after := _, guard := _ }) (v := ?_) rfl (by kernel_rfl) (by kernel_rfl) (by kernel_rfl) (fun _ _ _ h => h) (Or.inl ⟨by rfl, ?_⟩) (by assumption) ?_
      rotate_left
      · (intro w hSw; (try dsimp only at hSw); (try obtain ⟨hSw1, hSw2⟩ := hSw); go_simp; (try with_reducible rfl))
      (try simp only [Act.put, List.setIfInBounds_toArray, List.set_cons_zero, List.set_cons_succ])
      refine wpAnyH_take (i := 5) (oi := { dst := some 9, op := _, type := _, pos := _, after := _, guard := _ }) (v := ?_) rfl (by kernel_rfl) (by kernel_rfl) (by kernel_rfl) (fun _ _ _ h => h) (Or.inl ⟨by rfl, ?_⟩) (by assumption) ?_
      rotate_left
      · (intro w hSw; (try dsimp only at hSw); (try obtain ⟨hSw1, hSw2⟩ := hSw); go_simp; (try with_reducible rfl))
      (try simp only [Act.put, List.setIfInBounds_toArray, List.set_cons_zero, List.set_cons_succ])
      refine wpAnyH_ready (rs := [6]) (by kernel_rfl) (by simp) ?_
      refine AllReadyH.cons (o := { dst := some 10, op := _, type := _, pos := _, after := _, guard := _ }) rfl (fun K hK => ?_) AllReadyH.nil
      go_simp
      refine (HW.out _ (by (repeat (first | (with_reducible exact Kept.refl _) | (with_reducible refine Kept.alloc ?_ _) | (with_reducible refine Kept.drew ?_) | (with_reducible refine Kept.drewN ?_ _) | (with_reducible refine Kept.trans ?_ (by assumption)))))).mono ?_
      rintro e w1 ⟨wx, rfl, _, _, k1⟩
      have K1 := hidMk (show Kept W w1 by (repeat (first | (with_reducible exact Kept.refl _) | (with_reducible refine Kept.alloc ?_ _) | (with_reducible refine Kept.drew ?_) | (with_reducible refine Kept.drewN ?_ _) | (with_reducible refine Kept.trans ?_ (by assumption)))))
      clear k1
      (try go_wp2_with fail)
      refine hK.out _ _ ?_ (fun hHeld => ?_)
      · first | (exact Kept.cellp (by first | exact K2.out | exact K1.out) q0) | (exact so d2 (by intro e; simp only [Addr.mk.injEq] at e; exact hne e.1.symm))
      clear hK K
      (try simp only [Act.put, List.setIfInBounds_toArray, List.set_cons_zero, List.set_cons_succ])
      refine wpAnyH_take (i := 7) (oi := { dst := some 11, op := _, type := _, pos := _, after := _, guard := _ }) (v := ?_) rfl (by kernel_rfl) (by kernel_rfl) (by kernel_rfl) (fun _ _ _ h => h) (Or.inl ⟨by rfl, ?_⟩) (by assumption) ?_
      rotate_left
      · (intro w hSw; (try dsimp only at hSw); (try obtain ⟨hSw1, hSw2⟩ := hSw); go_simp; (try with_reducible rfl))
      (try simp only [Act.put, List.setIfInBounds_toArray, List.set_cons_zero, List.set_cons_succ])
      refine wpAnyH_ready (rs := [8]) (by kernel_rfl) (by simp) ?_
      refine AllReadyH.cons (o := { dst := some 12, op := _, type := _, pos := _, after := _, guard := _ }) rfl (fun K hK => ?_) AllReadyH.nil
      go_simp
      refine (HI.out _ K1.out).mono ?_
      rintro e w2 ⟨rfl, k2⟩
      have S2 := hidMk (HS.out.keep (K1.out.trans k2))
      have K2 := hidMk (K1.out.trans k2)
      clear k2
      have x0 := S2.out.x 11 _ rfl
      have xf := S2.out.fx 11 (by omega)
      have d2 := S2.out.d
      have hne := S2.out.ne
      (try go_wp2_with fail)
      refine hK.out _ _ ?_ (fun hHeld => ?_)
      · first | (exact Kept.cellp (by first | exact K2.out | exact K1.out) q0) | (exact so d2 (by intro e; simp only [Addr.mk.injEq] at e; exact hne e.1.symm))
      clear hK K
      (try simp only [Act.put, List.setIfInBounds_toArray, List.set_cons_zero, List.set_cons_succ])
      refine wpAnyH_take (i := 9) (oi := { dst := some 13, op := _, type := _, pos := _, after := _, guard := _ }) (v := ?_) rfl (by kernel_rfl) (by kernel_rfl) (by kernel_rfl) (fun _ _ _ h => h) (Or.inl ⟨by rfl, ?_⟩) (by assumption) ?_
      rotate_left
      · (intro w hSw; (try dsimp only at hSw); (try obtain ⟨hSw1, hSw2⟩ := hSw); go_simp; (try with_reducible rfl))
      (try simp only [Act.put, List.setIfInBounds_toArray, List.set_cons_zero, List.set_cons_succ])
      refine wpAnyH_ready (rs := [10]) (by kernel_rfl) (by simp) ?_
      refine AllReadyH.cons (o := { dst := none, op := _, type := _, pos := _, after := _, guard := _ }) rfl (fun K hK => ?_) AllReadyH.nil
      go_simp
      refine hK.out _ _ ?_ (fun hHeld => ?_)
      · first | (exact Kept.cellp (by first | exact K2.out | exact K1.out) q0) | (exact so d2 (by intro e; simp only [Addr.mk.injEq] at e; exact hne e.1.symm))
      clear hK K
      (try simp only [Act.put, List.setIfInBounds_toArray, List.set_cons_zero, List.set_cons_succ])
      refine wpAnyH_done (by kernel_rfl) ?_ _
      have S3 := hidMk (S2.out.setX (by omega) HP.out)
      have x3 := S3.out.x 11 _ rfl
      simp only at x3
      have C3 := hidMk (((Chg.of_kept (S := Two pr px) K2.out).setCell (p := ⟨px, 11, none⟩) (.inl (.inr rfl)) (.int .i64 k)))
      have HQ := hidMk (HPY.out _ S3.out)
      clear x0 xf d2 hne
      generalize (w2.setCell ⟨px, 11, none⟩ (.int .i64 k)) = w3 at *
      go_wp2_with fail
      refine HQ.out.mono ?_
      rintro e w4 ⟨rfl, rfl⟩
      go_wp2_with fail
      go_end0
      exact ⟨rfl, S3.out.setAt (i + 1) (by show i + 1 ≤ L.length; omega), C3.out.setCell (p := ⟨pr, 2, none⟩) (.inl (.inl rfl)) _⟩
set_option maxHeartbeats 4000000 in
set_option maxRecDepth 100000 in
theorem rd_dim (hX : RX w0 pr px pd ra rc ms ds L) (hS : RS w0 W pr px pd ra L.length rc s) :
    Calls Tryz.prog 173 #[.pointer (some ⟨pr, 0, none⟩), .pointer (some ⟨px, 11, none⟩)] W (RdPost w0 W pr px pd ra L.length rc (indexP L (lbl ds) s)) := by
  have q0 := hS.d
  unfold indexP
  cases hn : nx L 1 s.1 with
  | none =>
    have HW := hidMk (show ∀ y, Kept W y → _ from fun y hy => rd_word_no hX (hS.keep hy) hn)
    clear hX hS hn
    show Calls _ _ _ _ (fun e w' => e = .panicked (flt s.1 6) ∧ Chg (Two pr px) W w')
    go_enter Tryz.func173, Tryz.ntmps173
    go_wp2_with fail
    refine wp_region_held_drew (S := (fun w' => w'.cell? ⟨pr, 0, none⟩ = some (.pointer (some ⟨pd, 0, none⟩)))) (by kernel_rfl) ?_ (fun hHeld => ?_)
    · exact q0
    refine wpAnyH_take (i := 0) (oi := { dst := some 4, op := _, type := _, pos := _, after := _, guard := _ }) (v := ?_) rfl (by kernel_rfl) (by kernel_rfl) (by kernel_rfl) (fun _ _ _ h => h) (Or.inl ⟨by rfl, ?_⟩) (by assumption) ?_
    rotate_left
    · (intro w hSw; (try dsimp only at hSw); (try obtain ⟨hSw1, hSw2⟩ := hSw); go_simp; (try with_reducible rfl))
    (try simp only [Act.put, List.setIfInBounds_toArray, List.set_cons_zero, List.set_cons_succ])
    refine wpAnyH_take (i := 1) (oi := { dst := some 5, op := _, type := _, pos := _, after := _, guard := _ }) (v := ?_) rfl (by kernel_rfl) (by kernel_rfl) (by kernel_rfl) (fun _ _ _ h => h) (Or.inl ⟨by rfl, ?_⟩) (by assumption) ?_
    rotate_left
    · (intro w hSw; (try dsimp only at hSw); (try obtain ⟨hSw1, hSw2⟩ := hSw); go_simp; (try with_reducible rfl))
    (try simp only [Act.put, List.setIfInBounds_toArray, List.set_cons_zero, List.set_cons_succ])
    refine wpAnyH_take (i := 2) (oi := { dst := some 6, op := _, type := _, pos := _, after := _, guard := _ }) (v := ?_) rfl (by kernel_rfl) (by kernel_rfl) (by kernel_rfl) (fun _ _ _ h => h) (Or.inl ⟨by rfl, ?_⟩) (by assumption) ?_
    rotate_left
    · (intro w hSw; (try dsimp only at hSw); (try obtain ⟨hSw1, hSw2⟩ := hSw); go_simp; (try with_reducible rfl))
    (try simp only [Act.put, List.setIfInBounds_toArray, List.set_cons_zero, List.set_cons_succ])
    refine wpAnyH_take (i := 3) (oi := { dst := some 7, op := _, type := _, pos := _, after := _, guard := _ }) (v := ?_) rfl (by kernel_rfl) (by kernel_rfl) (by kernel_rfl) (fun _ _ _ h => h) (Or.inl ⟨by rfl, ?_⟩) (by assumption) ?_
    rotate_left
    · (intro w hSw; (try dsimp only at hSw); (try obtain ⟨hSw1, hSw2⟩ := hSw); go_simp; (try with_reducible rfl))
    (try simp only [Act.put, List.setIfInBounds_toArray, List.set_cons_zero, List.set_cons_succ])
    refine wpAnyH_take (i := 4) (oi := { dst := some 8, op := _, type := _, pos := _, after := _, guard := _ }) (v := ?_) rfl (by kernel_rfl) (by kernel_rfl) (by kernel_rfl) (fun _ _ _ h => h) (Or.inl ⟨by rfl, ?_⟩) (by assumption) ?_
    rotate_left
    · (intro w hSw; (try dsimp only at hSw); (try obtain ⟨hSw1, hSw2⟩ := hSw); go_simp; (try with_reducible rfl))
    (try simp only [Act.put, List.setIfInBounds_toArray, List.set_cons_zero, List.set_cons_succ])
    refine wpAnyH_take (i := 5) (oi := { dst := some 9, op := _, type := _, pos := _, after := _, guard := _ }) (v := ?_) rfl (by kernel_rfl) (by kernel_rfl) (by kernel_rfl) (fun _ _ _ h => h) (Or.inl ⟨by rfl, ?_⟩) (by assumption) ?_
    rotate_left
    · (intro w hSw; (try dsimp only at hSw); (try obtain ⟨hSw1, hSw2⟩ := hSw); go_simp; (try with_reducible rfl))
    (try simp only [Act.put, List.setIfInBounds_toArray, List.set_cons_zero, List.set_cons_succ])
    refine wpAnyH_ready (rs := [6]) (by kernel_rfl) (by simp) ?_
    refine AllReadyH.cons (o := { dst := some 10, op := _, type := _, pos := _, after := _, guard := _ }) rfl (fun K hK => ?_) AllReadyH.nil
    go_simp
    refine (HW.out _ (by (repeat (first | (with_reducible exact Kept.refl _) | (with_reducible refine Kept.alloc ?_ _) | (with_reducible refine Kept.drew ?_) | (with_reducible refine Kept.drewN ?_ _) | (with_reducible refine Kept.trans ?_ (by assumption)))))).mono ?_
    rintro e w1 ⟨rfl, k1⟩
    exact ⟨rfl, rfl, Chg.of_kept (by (repeat (first | (with_reducible exact Kept.refl _) | (with_reducible refine Kept.alloc ?_ _) | (with_reducible refine Kept.drew ?_) | (with_reducible refine Kept.drewN ?_ _) | (with_reducible refine Kept.trans ?_ (by assumption)))))⟩
  | some t =>
    have HW := hidMk (show ∀ y, Kept W y → _ from fun y hy => rd_word_yes hX (hS.keep hy) hn)
    have hi := (nx_some hn).1
    have hbig := hX.big
    have HS := hidMk hS
    have HI := hidMk (show ∀ y, Kept W y → Calls Tryz.prog 64 #[.pointer (some ⟨pd, 0, none⟩), .string t] y fun e w' => e = .returned (.int .i64 (idxI (lbl ds) t)) ∧ Kept y w' from fun y hy => by
      obtain ⟨yy, tp, ma, mc, lv, sc, dv, hD⟩ := hX.dp _ (chg_kept hS.kept hy)
      exact dims_Find hD (by have := hX.ok.d4; omega) t)
    have HFD := fun v0 v1 v2 v3 v4 w => (wd_field v0 v1 v2 v3 v4 w).1
    obtain ⟨i, x⟩ := s
    simp only at HS hi HW ⊢
    have HPY := hidMk (fun (y : World) (hy : RS w0 y pr px pd ra L.length rc (i, { x with m := idxI (lbl ds) t })) => rd_pass_yes pr i 10 y hy.at_ hy.fr (by omega))
    have HPN := hidMk (fun (y : World) (hy : RS w0 y pr px pd ra L.length rc (i, { x with m := idxI (lbl ds) t })) => rd_pass_no pr i 10 y hy.at_)
    have HP := hidMk (show cmL { x with m := idxI (lbl ds) t } = (cmL x).set 11 (.int .i64 (idxI (lbl ds) t)) from rfl)
    clear hX hS hn
    generalize hk : idxI (lbl ds) t = k at *
    clear hk
    by_cases hk0 : k < 0
    · rw [if_pos hk0]
      have hb0 : decide (0 ≤ k) = false := by simp; omega
      show Calls _ _ _ _ (fun e w' => e = .panicked (flt i 10) ∧ Chg (Two pr px) W w')
      go_enter Tryz.func173, Tryz.ntmps173
      go_wp2_with fail
      refine wp_region_held_drew (S := (fun w' => w'.cell? ⟨pr, 0, none⟩ = some (.pointer (some ⟨pd, 0, none⟩)))) (by kernel_rfl) ?_ (fun hHeld => ?_)
      · exact q0
      refine wpAnyH_take (i := 0) (oi := { dst := some 4, op := _, type := _, pos := _, after := _, guard := _ }) (v := ?_) rfl (by kernel_rfl) (by kernel_rfl) (by kernel_rfl) (fun _ _ _ h => h) (Or.inl ⟨by rfl, ?_⟩) (by assumption) ?_
      rotate_left
      · (intro w hSw; (try dsimp only at hSw); (try obtain ⟨hSw1, hSw2⟩ := hSw); go_simp; (try with_reducible rfl))
      (try simp only [Act.put, List.setIfInBounds_toArray, List.set_cons_zero, List.set_cons_succ])
      refine wpAnyH_take (i := 1) (oi := { dst := some 5, op := _, type := _, pos := _, after := _, guard := _ }) (v := ?_) rfl (by kernel_rfl) (by kernel_rfl) (by kernel_rfl) (fun _ _ _ h => h) (Or.inl ⟨by rfl, ?_⟩) (by assumption) ?_
      rotate_left
      · (intro w hSw; (try dsimp only at hSw); (try obtain ⟨hSw1, hSw2⟩ := hSw); go_simp; (try with_reducible rfl))
      (try simp only [Act.put, List.setIfInBounds_toArray, List.set_cons_zero, List.set_cons_succ])
      refine wpAnyH_take (i := 2) (oi := { dst := some 6, op := _, type := _, pos := _, after := _, guard := _ }) (v := ?_) rfl (by kernel_rfl) (by kernel_rfl) (by kernel_rfl) (fun _ _ _ h => h) (Or.inl ⟨by rfl, ?_⟩) (by assumption) ?_
      rotate_left
      · (intro w hSw; (try dsimp only at hSw); (try obtain ⟨hSw1, hSw2⟩ := hSw); go_simp; (try with_reducible rfl))
      (try simp only [Act.put, List.setIfInBounds_toArray, List.set_cons_zero, List.set_cons_succ])
      refine wpAnyH_take (i := 3) (oi := { dst := some 7, op := _, type := _, pos := _, after := _, guard := _ }) (v := ?_) rfl (by kernel_rfl) (by kernel_rfl) (by kernel_rfl) (fun _ _ _ h => h) (Or.inl ⟨by rfl, ?_⟩) (by assumption) ?_
      rotate_left
      · (intro w hSw; (try dsimp only at hSw); (try obtain ⟨hSw1, hSw2⟩ := hSw); go_simp; (try with_reducible rfl))
      (try simp only [Act.put, List.setIfInBounds_toArray, List.set_cons_zero, List.set_cons_succ])
      refine wpAnyH_take (i := 4) (oi := { dst := some 8, op := _, type := _, pos := _, after := _, guard := _ }) (v := ?_) rfl (by kernel_rfl) (by kernel_rfl) (by kernel_rfl) (fun _ _ _ h => h) (Or.inl ⟨by rfl, ?_⟩) (by assumption) ?_
      rotate_left
      · (intro w hSw; (try dsimp only at hSw); (try obtain ⟨hSw1, hSw2⟩ := hSw); go_simp; (try with_reducible rfl))
      (try simp only [Act.put, List.setIfInBounds_toArray, List.set_cons_zero, List.set_cons_succ])
      refine wpAnyH_take (i := 5) (oi := { dst := some 9, op := _, type := _, pos := _, after := _, guard := _ }) (v := ?_) rfl (by kernel_rfl) (by kernel_rfl) (by kernel_rfl) (fun _ _ _ h => h) (Or.inl ⟨by rfl, ?_⟩) (by assumption) ?_
      rotate_left
      · (intro w hSw; (try dsimp only at hSw); (try obtain ⟨hSw1, hSw2⟩ := hSw); go_simp; (try with_reducible rfl))
      (try simp only [Act.put, List.setIfInBounds_toArray, List.set_cons_zero, List.set_cons_succ])
      refine wpAnyH_ready (rs := [6]) (by kernel_rfl) (by simp) ?_
      refine AllReadyH.cons (o := { dst := some 10, op := _, type := _, pos := _, after := _, guard := _ }) rfl (fun K hK => ?_) AllReadyH.nil
      go_simp
      refine (HW.out _ (by (repeat (first | (with_reducible exact Kept.refl _) | (with_reducible refine Kept.alloc ?_ _) | (with_reducible refine Kept.drew ?_) | (with_reducible refine Kept.drewN ?_ _) | (with_reducible refine Kept.trans ?_ (by assumption)))))).mono ?_
      rintro e w1 ⟨wx, rfl, _, _, k1⟩
      have K1 := hidMk (show Kept W w1 by (repeat (first | (with_reducible exact Kept.refl _) | (with_reducible refine Kept.alloc ?_ _) | (with_reducible refine Kept.drew ?_) | (with_reducible refine Kept.drewN ?_ _) | (with_reducible refine Kept.trans ?_ (by assumption)))))
      clear k1
      (try go_wp2_with fail)
      refine hK.out _ _ ?_ (fun hHeld => ?_)
      · first | (exact Kept.cellp (by first | exact K2.out | exact K1.out) q0) | (exact so d2 (by intro e; simp only [Addr.mk.injEq] at e; exact hne e.1.symm))
      clear hK K
      (try simp only [Act.put, List.setIfInBounds_toArray, List.set_cons_zero, List.set_cons_succ])
      refine wpAnyH_take (i := 7) (oi := { dst := some 11, op := _, type := _, pos := _, after := _, guard := _ }) (v := ?_) rfl (by kernel_rfl) (by kernel_rfl) (by kernel_rfl) (fun _ _ _ h => h) (Or.inl ⟨by rfl, ?_⟩) (by assumption) ?_
      rotate_left
      · (intro w hSw; (try dsimp only at hSw); (try obtain ⟨hSw1, hSw2⟩ := hSw); go_simp; (try with_reducible rfl))
      (try simp only [Act.put, List.setIfInBounds_toArray, List.set_cons_zero, List.set_cons_succ])
      refine wpAnyH_ready (rs := [8]) (by kernel_rfl) (by simp) ?_
      refine AllReadyH.cons (o := { dst := some 12, op := _, type := _, pos := _, after := _, guard := _ }) rfl (fun K hK => ?_) AllReadyH.nil
      go_simp
      refine (HI.out _ K1.out).mono ?_
      rintro e w2 ⟨rfl, k2⟩
      have S2 := hidMk (HS.out.keep (K1.out.trans k2))
      have K2 := hidMk (K1.out.trans k2)
      clear k2
      have x0 := S2.out.x 11 _ rfl
      have xf := S2.out.fx 11 (by omega)
      have d2 := S2.out.d
      have hne := S2.out.ne
      (try go_wp2_with fail)
      refine hK.out _ _ ?_ (fun hHeld => ?_)
      · first | (exact Kept.cellp (by first | exact K2.out | exact K1.out) q0) | (exact so d2 (by intro e; simp only [Addr.mk.injEq] at e; exact hne e.1.symm))
      clear hK K
      (try simp only [Act.put, List.setIfInBounds_toArray, List.set_cons_zero, List.set_cons_succ])
      refine wpAnyH_take (i := 9) (oi := { dst := some 13, op := _, type := _, pos := _, after := _, guard := _ }) (v := ?_) rfl (by kernel_rfl) (by kernel_rfl) (by kernel_rfl) (fun _ _ _ h => h) (Or.inl ⟨by rfl, ?_⟩) (by assumption) ?_
      rotate_left
      · (intro w hSw; (try dsimp only at hSw); (try obtain ⟨hSw1, hSw2⟩ := hSw); go_simp; (try with_reducible rfl))
      (try simp only [Act.put, List.setIfInBounds_toArray, List.set_cons_zero, List.set_cons_succ])
      refine wpAnyH_ready (rs := [10]) (by kernel_rfl) (by simp) ?_
      refine AllReadyH.cons (o := { dst := none, op := _, type := _, pos := _, after := _, guard := _ }) rfl (fun K hK => ?_) AllReadyH.nil
      go_simp
      refine hK.out _ _ ?_ (fun hHeld => ?_)
      · first | (exact Kept.cellp (by first | exact K2.out | exact K1.out) q0) | (exact so d2 (by intro e; simp only [Addr.mk.injEq] at e; exact hne e.1.symm))
      clear hK K
      (try simp only [Act.put, List.setIfInBounds_toArray, List.set_cons_zero, List.set_cons_succ])
      refine wpAnyH_done (by kernel_rfl) ?_ _
      have S3 := hidMk (S2.out.setX (by omega) HP.out)
      have x3 := S3.out.x 11 _ rfl
      simp only at x3
      have C3 := hidMk (((Chg.of_kept (S := Two pr px) K2.out).setCell (p := ⟨px, 11, none⟩) (.inl (.inr rfl)) (.int .i64 k)))
      have HQ := hidMk (HPN.out _ S3.out)
      clear x0 xf d2 hne
      generalize (w2.setCell ⟨px, 11, none⟩ (.int .i64 k)) = w3 at *
      go_wp2_with fail
      refine HQ.out.mono ?_
      rintro e w4 ⟨rfl, rfl⟩
      go_wp2_with fail
      exact ⟨rfl, rfl, C3.out⟩
    · rw [if_neg hk0]
      have hb0 : decide (0 ≤ k) = true := by simp; omega
      show Calls _ _ _ _ (fun e w' => e = .returned (.tuple #[]) ∧ RS w0 w' pr px pd ra L.length rc (i + 1, { x with m := k }) ∧ Chg (Two pr px) W w')
      go_enter Tryz.func173, Tryz.ntmps173
      go_wp2_with fail
      refine wp_region_held_drew (S := (fun w' => w'.cell? ⟨pr, 0, none⟩ = some (.pointer (some ⟨pd, 0, none⟩)))) (by kernel_rfl) ?_ (fun hHeld => ?_)
      · exact q0
      refine wpAnyH_take (i := 0) (oi := { dst := some 4, op := _, type := _, pos := _, after := _, guard := _ }) (v := ?_) rfl (by kernel_rfl) (by kernel_rfl) (by kernel_rfl) (fun _ _ _ h => h) (Or.inl ⟨by rfl, ?_⟩) (by assumption) ?_
      rotate_left
      · (intro w hSw; (try dsimp only at hSw); (try obtain ⟨hSw1, hSw2⟩ := hSw); go_simp; (try with_reducible rfl))
      (try simp only [Act.put, List.setIfInBounds_toArray, List.set_cons_zero, List.set_cons_succ])
      refine wpAnyH_take (i := 1) (oi := { dst := some 5, op := _, type := _, pos := _, after := _, guard := _ }) (v := ?_) rfl (by kernel_rfl) (by kernel_rfl) (by kernel_rfl) (fun _ _ _ h => h) (Or.inl ⟨by rfl, ?_⟩) (by assumption) ?_
      rotate_left
      · (intro w hSw; (try dsimp only at hSw); (try obtain ⟨hSw1, hSw2⟩ := hSw); go_simp; (try with_reducible rfl))
      (try simp only [Act.put, List.setIfInBounds_toArray, List.set_cons_zero, List.set_cons_succ])
      refine wpAnyH_take (i := 2) (oi := { dst := some 6, op := _, type := _, pos := _, after := _, guard := _ }) (v := ?_) rfl (by kernel_rfl) (by kernel_rfl) (by kernel_rfl) (fun _ _ _ h => h) (Or.inl ⟨by rfl, ?_⟩) (by assumption) ?_
      rotate_left
      · (intro w hSw; (try dsimp only at hSw); (try obtain ⟨hSw1, hSw2⟩ := hSw); go_simp; (try with_reducible rfl))
      (try simp only [Act.put, List.setIfInBounds_toArray, List.set_cons_zero, List.set_cons_succ])
      refine wpAnyH_take (i := 3) (oi := { dst := some 7, op := _, type := _, pos := _, after := _, guard := _ }) (v := ?_) rfl (by kernel_rfl) (by kernel_rfl) (by kernel_rfl) (fun _ _ _ h => h) (Or.inl ⟨by rfl, ?_⟩) (by assumption) ?_
      rotate_left
      · (intro w hSw; (try dsimp only at hSw); (try obtain ⟨hSw1, hSw2⟩ := hSw); go_simp; (try with_reducible rfl))
      (try simp only [Act.put, List.setIfInBounds_toArray, List.set_cons_zero, List.set_cons_succ])
      refine wpAnyH_take (i := 4) (oi := { dst := some 8, op := _, type := _, pos := _, after := _, guard := _ }) (v := ?_) rfl (by kernel_rfl) (by kernel_rfl) (by kernel_rfl) (fun _ _ _ h => h) (Or.inl ⟨by rfl, ?_⟩) (by assumption) ?_
      rotate_left
      · (intro w hSw; (try dsimp only at hSw); (try obtain ⟨hSw1, hSw2⟩ := hSw); go_simp; (try with_reducible rfl))
      (try simp only [Act.put, List.setIfInBounds_toArray, List.set_cons_zero, List.set_cons_succ])
      refine wpAnyH_take (i := 5) (oi := { dst := some 9, op := _, type := _, pos := _, after := _, guard := _ }) (v := ?_) rfl (by kernel_rfl) (by kernel_rfl) (by kernel_rfl) (fun _ _ _ h => h) (Or.inl ⟨by rfl, ?_⟩) (by assumption) ?_
      rotate_left
      · (intro w hSw; (try dsimp only at hSw); (try obtain ⟨hSw1, hSw2⟩ := hSw); go_simp; (try with_reducible rfl))
      (try simp only [Act.put, List.setIfInBounds_toArray, List.set_cons_zero, List.set_cons_succ])
      refine wpAnyH_ready (rs := [6]) (by kernel_rfl) (by simp) ?_
      refine AllReadyH.cons (o := { dst := some 10, op := _, type := _, pos := _, after := _, guard := _ }) rfl (fun K hK => ?_) AllReadyH.nil
      go_simp
      refine (HW.out _ (by (repeat (first | (with_reducible exact Kept.refl _) | (with_reducible refine Kept.alloc ?_ _) | (with_reducible refine Kept.drew ?_) | (with_reducible refine Kept.drewN ?_ _) | (with_reducible refine Kept.trans ?_ (by assumption)))))).mono ?_
      rintro e w1 ⟨wx, rfl, _, _, k1⟩
      have K1 := hidMk (show Kept W w1 by (repeat (first | (with_reducible exact Kept.refl _) | (with_reducible refine Kept.alloc ?_ _) | (with_reducible refine Kept.drew ?_) | (with_reducible refine Kept.drewN ?_ _) | (with_reducible refine Kept.trans ?_ (by assumption)))))
      clear k1
      (try go_wp2_with fail)
      refine hK.out _ _ ?_ (fun hHeld => ?_)
      · first | (exact Kept.cellp (by first | exact K2.out | exact K1.out) q0) | (exact so d2 (by intro e; simp only [Addr.mk.injEq] at e; exact hne e.1.symm))
      clear hK K
      (try simp only [Act.put, List.setIfInBounds_toArray, List.set_cons_zero, List.set_cons_succ])
      refine wpAnyH_take (i := 7) (oi := { dst := some 11, op := _, type := _, pos := _, after := _, guard := _ }) (v := ?_) rfl (by kernel_rfl) (by kernel_rfl) (by kernel_rfl) (fun _ _ _ h => h) (Or.inl ⟨by rfl, ?_⟩) (by assumption) ?_
      rotate_left
      · (intro w hSw; (try dsimp only at hSw); (try obtain ⟨hSw1, hSw2⟩ := hSw); go_simp; (try with_reducible rfl))
      (try simp only [Act.put, List.setIfInBounds_toArray, List.set_cons_zero, List.set_cons_succ])
      refine wpAnyH_ready (rs := [8]) (by kernel_rfl) (by simp) ?_
      refine AllReadyH.cons (o := { dst := some 12, op := _, type := _, pos := _, after := _, guard := _ }) rfl (fun K hK => ?_) AllReadyH.nil
      go_simp
      refine (HI.out _ K1.out).mono ?_
      rintro e w2 ⟨rfl, k2⟩
      have S2 := hidMk (HS.out.keep (K1.out.trans k2))
      have K2 := hidMk (K1.out.trans k2)
      clear k2
      have x0 := S2.out.x 11 _ rfl
      have xf := S2.out.fx 11 (by omega)
      have d2 := S2.out.d
      have hne := S2.out.ne
      (try go_wp2_with fail)
      refine hK.out _ _ ?_ (fun hHeld => ?_)
      · first | (exact Kept.cellp (by first | exact K2.out | exact K1.out) q0) | (exact so d2 (by intro e; simp only [Addr.mk.injEq] at e; exact hne e.1.symm))
      clear hK K
      (try simp only [Act.put, List.setIfInBounds_toArray, List.set_cons_zero, List.set_cons_succ])
      refine wpAnyH_take (i := 9) (oi := { dst := some 13, op := _, type := _, pos := _, after := _, guard := _ }) (v := ?_) rfl (by kernel_rfl) (by kernel_rfl) (by kernel_rfl) (fun _ _ _ h => h) (Or.inl ⟨by rfl, ?_⟩) (by assumption) ?_
      rotate_left
      · (intro w hSw; (try dsimp only at hSw); (try obtain ⟨hSw1, hSw2⟩ := hSw); go_simp; (try with_reducible rfl))
      (try simp only [Act.put, List.setIfInBounds_toArray, List.set_cons_zero, List.set_cons_succ])
      refine wpAnyH_ready (rs := [10]) (by kernel_rfl) (by simp) ?_
      refine AllReadyH.cons (o := { dst := none, op := _, type := _, pos := _, after := _, guard := _ }) rfl (fun K hK => ?_) AllReadyH.nil
      go_simp
      refine hK.out _ _ ?_ (fun hHeld => ?_)
      · first | (exact Kept.cellp (by first | exact K2.out | exact K1.out) q0) | (exact so d2 (by intro e; simp only [Addr.mk.injEq] at e; exact hne e.1.symm))
      clear hK K
      (try simp only [Act.put, List.setIfInBounds_toArray, List.set_cons_zero, List.set_cons_succ])
      refine wpAnyH_done (by kernel_rfl) ?_ _
      have S3 := hidMk (S2.out.setX (by omega) HP.out)
      have x3 := S3.out.x 11 _ rfl
      simp only at x3
      have C3 := hidMk (((Chg.of_kept (S := Two pr px) K2.out).setCell (p := ⟨px, 11, none⟩) (.inl (.inr rfl)) (.int .i64 k)))
      have HQ := hidMk (HPY.out _ S3.out)
      clear x0 xf d2 hne
      generalize (w2.setCell ⟨px, 11, none⟩ (.int .i64 k)) = w3 at *
      go_wp2_with fail
      refine HQ.out.mono ?_
      rintro e w4 ⟨rfl, rfl⟩
      go_wp2_with fail
      go_end0
      exact ⟨rfl, S3.out.setAt (i + 1) (by show i + 1 ≤ L.length; omega), C3.out.setCell (p := ⟨pr, 2, none⟩) (.inl (.inl rfl)) _⟩
end
end Go.Proofs.YtpehinmckppjoaaGreatDoor
namespace Go.Proofs.YtpehinmckppjoaaGreatDoor
open Go.RowKit Go.Maps
set_option linter.unusedSimpArgs false
set_option linter.unusedVariables false

section
variable {w0 W : World} {pr px pd : Nat} {ra : Option Addr} {rc : Nat} {ms : List ByteArray} {ds : List Dm} {L : List ByteArray} {s : Nat × Cm}
set_option maxHeartbeats 4000000 in
set_option maxRecDepth 100000 in
theorem rd_choice (hX : RX w0 pr px pd ra rc ms ds L) (hS : RS w0 W pr px pd ra L.length rc s) (wa : Option Addr) (wn wc : Nat) (ws : List ByteArray) (hw : Ss W wa wn ws) :
    Calls Tryz.prog 172 #[.pointer (some ⟨pr, 0, none⟩), .pointer (some ⟨px, 10, none⟩), .slice wa wn wc] W (RdPost w0 W pr px pd ra L.length rc (choiceP L ws s)) := by
  have q1 := hS.ws
  have q2 := hS.at_
  have HS := hidMk hS
  unfold choiceP
  by_cases he : s.1 = L.length
  · rw [if_pos he]
    rw [he] at q2
    clear hX hS hw
    show Calls _ _ _ _ (fun e w' => e = .returned (.tuple #[]) ∧ RS w0 w' pr px pd ra L.length rc s ∧ Chg (Two pr px) W w')
    go_enter Tryz.func172, Tryz.ntmps172
    go_wp2_with fail
    go_quiet (fail)
    go_wp2_with fail
    exact bodyPost_ret (v := .tuple #[]) (results_none rfl _ _ _) rfl ⟨rfl, HS.out.keep ((Kept.refl _).drewN _), Chg.of_kept ((Kept.refl _).drewN _)⟩
  rw [if_neg he]
  have hle := hS.le
  have hne0 : ((s.1 : Int) == (L.length : Int)) = false := by simp; omega
  have hnd0 : decide ((s.1 : Int) = (L.length : Int)) = false := by simp; omega
  cases hn : nx L 1 s.1 with
  | none =>
    have HW := hidMk (show ∀ y, Kept W y → _ from fun y hy => rd_word_no hX (hS.keep hy) hn)
    clear hX hS hn hw
    show Calls _ _ _ _ (fun e w' => e = .panicked (flt s.1 6) ∧ Chg (Two pr px) W w')
    go_enter Tryz.func172, Tryz.ntmps172
    go_wp2_with fail
    go_quiet (fail)
    go_wp2_with fail
    refine (HW.out _ ((Kept.refl _).drewN _)).mono ?_
    rintro e w1 ⟨rfl, k1⟩
    go_wp2_with fail
    exact ⟨rfl, rfl, Chg.of_kept (((Kept.refl _).drewN _).trans k1)⟩
  | some t =>
    have HW := hidMk (show ∀ y, Kept W y → _ from fun y hy => rd_word_yes hX (hS.keep hy) hn)
    have hi := (nx_some hn).1
    have hbig := hX.big
    have HI := hidMk (show ∀ y, Kept W y → _ from fun y hy => slices_IndexS wa wn wc ws t y (hw.kept hy))
    have HFD := fun v0 v1 v2 v3 v4 w => (wd_field v0 v1 v2 v3 v4 w).1
    obtain ⟨i, x⟩ := s
    simp only at HS hi HW q2 hle hne0 hnd0 he ⊢
    have HPY := hidMk (fun (y : World) (hy : RS w0 y pr px pd ra L.length rc (i, { x with h := idxI ws t })) => rd_pass_yes pr i 6 y hy.at_ hy.fr (by omega))
    have HPN := hidMk (fun (y : World) (hy : RS w0 y pr px pd ra L.length rc (i, { x with h := idxI ws t })) => rd_pass_no pr i 6 y hy.at_)
    have HP := hidMk (show cmL { x with h := idxI ws t } = (cmL x).set 10 (.int .i64 (idxI ws t)) from rfl)
    clear hX hS hn hw
    generalize hk : idxI ws t = k at *
    clear hk
    by_cases hk0 : k < 0
    · rw [if_pos hk0]
      have hb0 : decide (0 ≤ k) = false := by simp; omega
      show Calls _ _ _ _ (fun e w' => e = .panicked (flt i 6) ∧ Chg (Two pr px) W w')
      go_enter Tryz.func172, Tryz.ntmps172
      go_wp2_with fail
      go_quiet (fail)
      go_wp2_with fail
      refine (HW.out _ ((Kept.refl _).drewN _)).mono ?_
      rintro e w1 ⟨wx, rfl, _, _, k1⟩
      have K1 := hidMk (((Kept.refl W).drewN _).trans k1)
      have S1 := hidMk (HS.out.keep K1.out)
      have x0 : w1.cell? ⟨px, 10, none⟩ = some (.int .i64 x.h) := S1.out.x 10 _ rfl
      have xf := S1.out.fx 10 (by omega)
      have S3 := hidMk (S1.out.setX (by omega) HP.out)
      have x3 := S3.out.x 10 _ rfl
      simp only at x3
      have C3 := hidMk (((Chg.of_kept (S := Two pr px) K1.out).setCell (p := ⟨px, 10, none⟩) (.inl (.inr rfl)) (.int .i64 k)))
      clear k1
      go_wp2_with (go_at_call 95; refine (HI.out _ K1.out).mono ?_; rintro e w2 ⟨rfl, rfl⟩)
      have HQ := hidMk (HPN.out _ S3.out)
      clear x0 xf
      generalize (w2.setCell ⟨px, 10, none⟩ (.int .i64 k)) = w3 at *
      go_wp2_with fail
      refine HQ.out.mono ?_
      rintro e w4 ⟨rfl, rfl⟩
      go_wp2_with fail
      exact ⟨rfl, rfl, C3.out⟩
    · rw [if_neg hk0]
      have hb0 : decide (0 ≤ k) = true := by simp; omega
      show Calls _ _ _ _ (fun e w' => e = .returned (.tuple #[]) ∧ RS w0 w' pr px pd ra L.length rc (i + 1, { x with h := k }) ∧ Chg (Two pr px) W w')
      go_enter Tryz.func172, Tryz.ntmps172
      go_wp2_with fail
      go_quiet (fail)
      go_wp2_with fail
      refine (HW.out _ ((Kept.refl _).drewN _)).mono ?_
      rintro e w1 ⟨wx, rfl, _, _, k1⟩
      have K1 := hidMk (((Kept.refl W).drewN _).trans k1)
      have S1 := hidMk (HS.out.keep K1.out)
      have x0 : w1.cell? ⟨px, 10, none⟩ = some (.int .i64 x.h) := S1.out.x 10 _ rfl
      have xf := S1.out.fx 10 (by omega)
      have S3 := hidMk (S1.out.setX (by omega) HP.out)
      have x3 := S3.out.x 10 _ rfl
      simp only at x3
      have C3 := hidMk (((Chg.of_kept (S := Two pr px) K1.out).setCell (p := ⟨px, 10, none⟩) (.inl (.inr rfl)) (.int .i64 k)))
      clear k1
      go_wp2_with (go_at_call 95; refine (HI.out _ K1.out).mono ?_; rintro e w2 ⟨rfl, rfl⟩)
      have HQ := hidMk (HPY.out _ S3.out)
      clear x0 xf
      generalize (w2.setCell ⟨px, 10, none⟩ (.int .i64 k)) = w3 at *
      go_wp2_with fail
      refine HQ.out.mono ?_
      rintro e w4 ⟨rfl, rfl⟩
      go_wp2_with fail
      go_end0
      exact ⟨rfl, S3.out.setAt (i + 1) (by show i + 1 ≤ L.length; omega), C3.out.setCell (p := ⟨pr, 2, none⟩) (.inl (.inl rfl)) _⟩
end
end Go.Proofs.YtpehinmckppjoaaGreatDoor
