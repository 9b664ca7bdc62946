/- parse's reader: a cell. · parse: names, for a reader. -/
import Derived.Test.YtpehinmckppjoaaGreatDoorWPs5B
namespace Go.Proofs.YtpehinmckppjoaaGreatDoor
open Go.RowKit Go.Maps
set_option linter.unusedSimpArgs false
set_option linter.unusedVariables false

theorem rdP_cell {t : ByteArray} (h : rdK t = 3) : rdP t = slP t ∧ 2 ≤ (slP t).length := by
  unfold rdK at h
  unfold rdP
  split at h
  · omega
  · rename_i h1
    split at h
    · omega
    · rename_i h2
      split at h
      · rename_i h3
        rw [if_neg h1, if_neg h2, if_pos h3]
        refine ⟨rfl, ?_⟩
        unfold cellB at h3
        simp only [Bool.and_eq_true, decide_eq_true_eq] at h3
        omega
      · omega
theorem ss_tail {w : World} {b o n : Nat} {l : List ByteArray} (h : Ss w (some ⟨b, o, none⟩) n l) (hn : 1 < n) : Ss w (some ⟨b, o + 1, none⟩) (n - 1) (l.drop 1) := by
  obtain ⟨b', o', e, hb, hc⟩ := h.cells (by omega)
  cases e
  refine ⟨by rw [List.length_drop, h.len], by have := h.big; omega, fun hp => ⟨b, o + 1, rfl, hb, fun i hi => ?_⟩⟩
  have := hc (1 + i) (by omega)
  rw [← Nat.add_assoc] at this
  rw [this, List.getD_eq_getElem?_getD, List.getD_eq_getElem?_getD, List.getElem?_drop]
theorem NW.set5 {w : World} {b : Nat} {a0 a1 a2 a3 a4 : Value} (c0 : w.cell? ⟨b, 0, none⟩ = some a0) (c1 : w.cell? ⟨b, 1, none⟩ = some a1) (c2 : w.cell? ⟨b, 2, none⟩ = some a2) (c3 : w.cell? ⟨b, 3, none⟩ = some a3) (c4 : w.cell? ⟨b, 4, none⟩ = some a4) (v0 v1 v2 v3 v4 : Value) : let W := ((((w.setCell ⟨b, 0, none⟩ v0).setCell ⟨b, 1, none⟩ v1).setCell ⟨b, 2, none⟩ v2).setCell ⟨b, 3, none⟩ v3).setCell ⟨b, 4, none⟩ v4; W.cell? ⟨b, 0, none⟩ = some v0 ∧ W.cell? ⟨b, 1, none⟩ = some v1 ∧ W.cell? ⟨b, 2, none⟩ = some v2 ∧ W.cell? ⟨b, 3, none⟩ = some v3 ∧ W.cell? ⟨b, 4, none⟩ = some v4 := by
  refine ⟨?_, ?_, ?_, ?_, ?_⟩
  · exact (so (so (so (so (World.cell?_setCell_same _ _ _ c0) (by simp)) (by simp)) (by simp)) (by simp))
  · exact (so (so (so (World.cell?_setCell_same _ _ _ (so c1 (by simp))) (by simp)) (by simp)) (by simp))
  · exact (so (so (World.cell?_setCell_same _ _ _ (so (so c2 (by simp)) (by simp))) (by simp)) (by simp))
  · exact (so (World.cell?_setCell_same _ _ _ (so (so (so c3 (by simp)) (by simp)) (by simp))) (by simp))
  · exact World.cell?_setCell_same _ _ _ (so (so (so (so c4 (by simp)) (by simp)) (by simp)) (by simp))
/-- A command's cell is filled. -/
theorem RS.setC {w0 W : World} {pr px pd : Nat} {ra : Option Addr} {rn rc : Nat} {s : Nat × Cm} (h : RS w0 W pr px pd ra rn rc s) (i0 i1 i2 i3 i4 : Int) : RS w0 (((((W.setCell ⟨px, 4, none⟩ (.int .i64 i0)).setCell ⟨px, 5, none⟩ (.int .i64 i1)).setCell ⟨px, 6, none⟩ (.int .i64 i2)).setCell ⟨px, 7, none⟩ (.int .i64 i3)).setCell ⟨px, 8, none⟩ (.int .i64 i4)) pr px pd ra rn rc (s.1, putC i0 i1 i2 i3 i4 s.2) := by
  have h0 := h.setX (x := { s.2 with c0 := i0 }) (o := 4) (v := .int .i64 i0) (by omega) rfl
  have h1 := h0.setX (x := { s.2 with c0 := i0, c1 := i1 }) (o := 5) (v := .int .i64 i1) (by omega) rfl
  have h2 := h1.setX (x := { s.2 with c0 := i0, c1 := i1, c2 := i2 }) (o := 6) (v := .int .i64 i2) (by omega) rfl
  have h3 := h2.setX (x := { s.2 with c0 := i0, c1 := i1, c2 := i2, c3 := i3 }) (o := 7) (v := .int .i64 i3) (by omega) rfl
  exact h3.setX (x := putC i0 i1 i2 i3 i4 s.2) (o := 8) (v := .int .i64 i4) (by omega) rfl
section
variable {w0 W : World} {pr px pd : Nat} {ra : Option Addr} {rc : Nat} {ms : List ByteArray} {ds : List Dm} {L : List ByteArray} {s : Nat × Cm}
set_option maxHeartbeats 4000000 in
set_option maxRecDepth 100000 in
theorem rd_cell (hX : RX w0 pr px pd ra rc ms ds L) (hS : RS w0 W pr px pd ra L.length rc s) :
    Calls Tryz.prog 171 #[.pointer (some ⟨pr, 0, none⟩), .pointer (some ⟨px, 4, none⟩)] W (RdPost w0 W pr px pd ra L.length rc (cellP ms ds L s)) := by
  have HS := hidMk hS
  unfold cellP
  cases hn : nx L 3 s.1 with
  | none =>
    have HW := hidMk (rd_word_no hX hS hn)
    clear hX hS hn
    show Calls _ _ _ _ (fun e w' => e = .panicked (flt s.1 6) ∧ Chg (Two pr px) W w')
    go_enter Tryz.func171, Tryz.ntmps171
    go_wp2_with fail
    refine HW.out.mono ?_
    rintro e w1 ⟨rfl, k1⟩
    go_wp2_with fail
    exact ⟨rfl, rfl, Chg.of_kept k1⟩
  | some t =>
    have HW := hidMk (rd_word_yes hX hS hn)
    obtain ⟨hi, htk, hk3⟩ := nx_some hn
    obtain ⟨hpp, hpl⟩ := rdP_cell hk3
    have hsz := hX.sz s.1
    rw [htk] at hsz
    have hbig := hX.big
    have HCC := hidMk (show ∀ y, Kept W y → ∀ (s0 : ByteArray) (xa : Option Addr) (xn xc : Nat) (xs : List ByteArray), Ss y xa xn xs → (∀ i, i < xs.length → (msA xs i).size ≤ maxLen) → Calls Tryz.prog 177 #[.pointer (some ⟨pd, 0, none⟩), .string s0, .slice xa xn xc] y (CellPost y ms ds s0 xs) from fun y hy s0 xa xn xc xs hx hz => by
      obtain ⟨yy, tp, ma, mc, lv, sc, dv, hD⟩ := hX.dp _ (chg_kept hS.kept hy)
      exact dims_Cell hD hX.ok.d4 s0 xa xn xc xs hx hz)
    have HFD := fun v0 v1 v2 v3 v4 w => (wd_field v0 v1 v2 v3 v4 w).2.2
    obtain ⟨i, x⟩ := s
    simp only at HS hi HW ⊢
    have HPY := hidMk (fun (y : World) (hy : RS w0 y pr px pd ra L.length rc (i, x)) => rd_pass_yes pr i 0 y hy.at_ hy.fr (by omega))
    have HPN := hidMk (fun (er : Int) (y : World) (hy : RS w0 y pr px pd ra L.length rc (i, x)) => rd_pass_no pr i er y hy.at_)
    have HXZ := hidMk (show ∀ j, j < ((slP t).drop 1).length → (msA ((slP t).drop 1) j).size ≤ maxLen from fun j hj => by
      have h1 : msA ((slP t).drop 1) j ∈ slP t := by
        unfold msA
        rw [List.getD_eq_getElem?_getD, List.getElem?_eq_getElem hj]
        exact List.mem_of_mem_drop (List.getElem_mem hj)
      have := slP_size t _ h1
      unfold maxLen
      omega)
    rw [hpp] at HW ⊢
    clear hX hS hn hpp hsz htk hk3
    generalize slP t = P at *
    obtain ⟨er0, her0⟩ : ∃ er0, cellE ms ds (P.getD 0 ByteArray.empty) (P.drop 1) = er0 := ⟨_, rfl⟩
    rw [her0]
    have HER := hidMk her0
    clear her0
    obtain ⟨R, hR⟩ : ∃ R : PR, (if er0 ≠ 0 then .error ((i : Int), er0) else .ok (i + 1, putC (idxI ms (P.getD 0 ByteArray.empty)) (atK ds (P.drop 1) ds.length 0) (atK ds (P.drop 1) ds.length 1) (atK ds (P.drop 1) ds.length 2) (atK ds (P.drop 1) ds.length 3) x)) = R := ⟨_, rfl⟩
    have HR := hidMk hR
    rw [hR]
    clear hR
    go_enter Tryz.func171, Tryz.ntmps171
    go_wp2_with fail
    refine HW.out.mono ?_
    rintro e w1 ⟨wx, rfl, hss, hmc, k1⟩
    have hwl := hss.len
    have K1 := hidMk k1
    have S1 := hidMk (HS.out.keep k1)
    obtain ⟨pb, po, hwa, hpbl, hpc⟩ := hss.cells (by omega)
    have qs := hpc 0 (by omega)
    rw [Nat.add_zero] at qs
    have HTL := hidMk (ss_tail (hwa ▸ hss) (by omega))
    have hm0 : 0 < wx.m := by omega
    have hm5 : 1 ≤ wx.m := by omega
    have hm1 : ¬ ((wx.m : Int) = 0) := by omega
    have hm2 : (0 : Int) < (wx.m : Int) := by omega
    have hm3 : (1 : Int) ≤ (wx.m : Int) := by omega
    have hm4 : (wx.m : Int) ≤ (wx.c : Int) := by omega
    have hc1 : ¬ (wx.c = 1) := by omega
    have q0 := S1.out.d
    have hq0l := S1.out.ltr
    generalize hs0 : P.getD 0 ByteArray.empty = s0 at *
    have HC := hidMk (show ∀ y, Kept w1 y → ∀ n' c', n' = wx.m - 1 → Calls Tryz.prog 177 #[.pointer (some ⟨pd, 0, none⟩), .string s0, .slice (some ⟨pb, po + 1, none⟩) n' c'] y (CellPost y ms ds s0 (P.drop 1)) from fun y hy n' c' hn' => by subst hn'; exact HCC.out y (K1.out.trans hy) s0 _ _ _ _ (HTL.out.kept hy) HXZ.out)
    rw [hwa]
    clear hss hpc k1 hs0
    go_wp2_with fail
    refine wp_region_held_drew (S := (fun w' => w'.cell? ⟨pr, 0, none⟩ = some (.pointer (some ⟨pd, 0, none⟩)) ∧ w'.cell? ⟨pb, po, none⟩ = some (.string s0))) (by kernel_rfl) ?_ (fun hHeld => ?_)
    · exact ⟨q0, qs⟩
    refine wpAnyH_take (i := 0) (oi := { dst := some 11, op := _, type := _, pos := _, after := _, guard := _ }) (v := ?_) rfl (by kernel_rfl) (by kernel_rfl) (by kernel_rfl) (fun _ _ _ h => h) (Or.inl ⟨by rfl, ?_⟩) (by assumption) ?_
    rotate_left
    · (intro w hSw; (try dsimp only at hSw); (try obtain ⟨hSw1, hSw2⟩ := hSw); go_simp; (try with_reducible rfl))
    (try simp only [Act.put, List.setIfInBounds_toArray, List.set_cons_zero, List.set_cons_succ])
    refine wpAnyH_take (i := 1) (oi := { dst := some 12, op := _, type := _, pos := _, after := _, guard := _ }) (v := ?_) rfl (by kernel_rfl) (by kernel_rfl) (by kernel_rfl) (fun _ _ _ h => h) (Or.inl ⟨by rfl, ?_⟩) (by assumption) ?_
    rotate_left
    · (intro w hSw; (try dsimp only at hSw); (try obtain ⟨hSw1, hSw2⟩ := hSw); go_simp; (try with_reducible rfl))
    (try simp only [Act.put, List.setIfInBounds_toArray, List.set_cons_zero, List.set_cons_succ])
    refine wpAnyH_take (i := 2) (oi := { dst := some 13, op := _, type := _, pos := _, after := _, guard := _ }) (v := ?_) rfl (by kernel_rfl) (by kernel_rfl) (by kernel_rfl) (fun _ _ _ h => h) (Or.inl ⟨by rfl, ?_⟩) (by assumption) ?_
    rotate_left
    · (intro w hSw; (try dsimp only at hSw); (try obtain ⟨hSw1, hSw2⟩ := hSw); go_simp; (try with_reducible rfl))
    (try simp only [Act.put, List.setIfInBounds_toArray, List.set_cons_zero, List.set_cons_succ])
    refine wpAnyH_take (i := 3) (oi := { dst := some 14, op := _, type := _, pos := _, after := _, guard := _ }) (v := ?_) rfl (by kernel_rfl) (by kernel_rfl) (by kernel_rfl) (fun _ _ _ h => h) (Or.inl ⟨by rfl, ?_⟩) (by assumption) ?_
    rotate_left
    · (intro w hSw; (try dsimp only at hSw); (try obtain ⟨hSw1, hSw2⟩ := hSw); go_simp; (try with_reducible rfl))
    (try simp only [Act.put, List.setIfInBounds_toArray, List.set_cons_zero, List.set_cons_succ])
    refine wpAnyH_take (i := 4) (oi := { dst := some 15, op := _, type := _, pos := _, after := _, guard := _ }) (v := ?_) rfl (by kernel_rfl) (by kernel_rfl) (by kernel_rfl) (fun _ _ _ h => h) (Or.inl ⟨by rfl, ?_⟩) (by assumption) ?_
    rotate_left
    · (intro w hSw; (try dsimp only at hSw); (try obtain ⟨hSw1, hSw2⟩ := hSw); go_simp; (try with_reducible rfl))
    (try simp only [Act.put, List.setIfInBounds_toArray, List.set_cons_zero, List.set_cons_succ])
    refine wpAnyH_take (i := 5) (oi := { dst := some 16, op := _, type := _, pos := _, after := _, guard := _ }) (v := ?_) rfl (by kernel_rfl) (by kernel_rfl) (by kernel_rfl) (fun _ _ _ h => h) (Or.inl ⟨by rfl, ?_⟩) (by assumption) ?_
    rotate_left
    · (intro w hSw; (try dsimp only at hSw); (try obtain ⟨hSw1, hSw2⟩ := hSw); go_simp; (try with_reducible rfl))
    (try simp only [Act.put, List.setIfInBounds_toArray, List.set_cons_zero, List.set_cons_succ])
    refine wpAnyH_take (i := 6) (oi := { dst := some 17, op := _, type := _, pos := _, after := _, guard := _ }) (v := ?_) rfl (by kernel_rfl) (by kernel_rfl) (by kernel_rfl) (fun _ _ _ h => h) (Or.inl ⟨by rfl, ?_⟩) (by assumption) ?_
    rotate_left
    · (intro w hSw; (try dsimp only at hSw); (try obtain ⟨hSw1, hSw2⟩ := hSw); go_simp; (try with_reducible rfl))
    (try simp only [Act.put, List.setIfInBounds_toArray, List.set_cons_zero, List.set_cons_succ])
    refine wpAnyH_take (i := 7) (oi := { dst := some 18, op := _, type := _, pos := _, after := _, guard := _ }) (v := ?_) rfl (by kernel_rfl) (by kernel_rfl) (by kernel_rfl) (fun _ _ _ h => h) (Or.inl ⟨by rfl, ?_⟩) (by assumption) ?_
    rotate_left
    · (intro w hSw; (try dsimp only at hSw); (try obtain ⟨hSw1, hSw2⟩ := hSw); go_simp; (try with_reducible rfl))
    (try simp only [Act.put, List.setIfInBounds_toArray, List.set_cons_zero, List.set_cons_succ])
    refine wpAnyH_take (i := 8) (oi := { dst := some 19, op := _, type := _, pos := _, after := _, guard := _ }) (v := ?_) rfl (by kernel_rfl) (by kernel_rfl) (by kernel_rfl) (fun _ _ _ h => h) (Or.inl ⟨by rfl, ?_⟩) (by assumption) ?_
    rotate_left
    · (intro w hSw; (try dsimp only at hSw); (try obtain ⟨hSw1, hSw2⟩ := hSw); go_simp; (try with_reducible rfl))
    (try simp only [Act.put, List.setIfInBounds_toArray, List.set_cons_zero, List.set_cons_succ])
    refine wpAnyH_ready (rs := [9, 13]) (by kernel_rfl) (by simp) ?_
    refine (AllReadyH.cons (o := { dst := some 20, op := _, type := _, pos := _, after := _, guard := _ }) rfl (fun K hK => ?_) (AllReadyH.cons (o := { dst := some 5, op := _, type := _, pos := _, after := _, guard := _ }) rfl (fun K hK => ?_) AllReadyH.nil))
    · go_simp
      refine (HC.out _ (by (repeat (first | (with_reducible exact Kept.refl _) | (with_reducible refine Kept.alloc ?_ _) | (with_reducible refine Kept.drew ?_) | (with_reducible refine Kept.drewN ?_ _) | (with_reducible refine Kept.trans ?_ (by assumption))))) _ _ (by omega)).mono ?_
      rintro e w2 ⟨r, er, rfl, hci, k2⟩
      obtain ⟨hE1, hE2, i0, i1, i2, i3, i4, rfl⟩ := cellIs_e hci
      have K2 := hidMk (show Kept w1 w2 by (repeat (first | (with_reducible exact Kept.refl _) | (with_reducible refine Kept.alloc ?_ _) | (with_reducible refine Kept.drew ?_) | (with_reducible refine Kept.drewN ?_ _) | (with_reducible refine Kept.trans ?_ (by assumption)))))
      have HE1 := hidMk hE1
      have HE2 := hidMk hE2
      clear k2 hci hE1 hE2
      (try go_wp2_with fail)
      refine hK.out _ _ ?_ (fun hHeld => ?_)
      · exact ⟨K2.out.cellp q0, K2.out.cellp qs⟩
      clear hK K
      (try simp only [Act.put, List.setIfInBounds_toArray, List.set_cons_zero, List.set_cons_succ])
      refine wpAnyH_take (i := 10) (oi := { dst := some 10, op := _, type := _, pos := _, after := _, guard := _ }) (v := ?_) rfl (by kernel_rfl) (by kernel_rfl) (by kernel_rfl) (fun _ _ _ h => h) (Or.inl ⟨by rfl, ?_⟩) (by assumption) ?_
      rotate_left
      · (intro w hSw; (try dsimp only at hSw); (try obtain ⟨hSw1, hSw2⟩ := hSw); go_simp; (try with_reducible rfl))
      (try simp only [Act.put, List.setIfInBounds_toArray, List.set_cons_zero, List.set_cons_succ])
      refine wpAnyH_take (i := 11) (oi := { dst := some 21, op := _, type := _, pos := _, after := _, guard := _ }) (v := ?_) rfl (by kernel_rfl) (by kernel_rfl) (by kernel_rfl) (fun _ _ _ h => h) (Or.inl ⟨by rfl, ?_⟩) (by assumption) ?_
      rotate_left
      · (intro w hSw; (try dsimp only at hSw); (try obtain ⟨hSw1, hSw2⟩ := hSw); go_simp; (try with_reducible rfl))
      (try simp only [Act.put, List.setIfInBounds_toArray, List.set_cons_zero, List.set_cons_succ])
      refine wpAnyH_take (i := 12) (oi := { dst := some 22, op := _, type := _, pos := _, after := _, guard := _ }) (v := ?_) rfl (by kernel_rfl) (by kernel_rfl) (by kernel_rfl) (fun _ _ _ h => h) (Or.inl ⟨by rfl, ?_⟩) (by assumption) ?_
      rotate_left
      · (intro w hSw; (try dsimp only at hSw); (try obtain ⟨hSw1, hSw2⟩ := hSw); go_simp; (try with_reducible rfl))
      (try simp only [Act.put, List.setIfInBounds_toArray, List.set_cons_zero, List.set_cons_succ])
      refine wpAnyH_ready (rs := [13]) (by kernel_rfl) (by simp) ?_
      refine (AllReadyH.cons (o := { dst := some 5, op := _, type := _, pos := _, after := _, guard := _ }) rfl (fun K hK => ?_) AllReadyH.nil)
      go_simp
      refine hK.out _ _ ?_ (fun hHeld => ?_)
      · exact ⟨Kept.cellp (K2.out.alloc _) q0, Kept.cellp (K2.out.alloc _) qs⟩
      clear hK K
      (try simp only [Act.put, List.setIfInBounds_toArray, List.set_cons_zero, List.set_cons_succ])
      refine wpAnyH_ready (rs := [14]) (by kernel_rfl) (by simp) ?_
      refine (AllReadyH.cons (o := { dst := none, op := _, type := _, pos := _, after := _, guard := _ }) rfl (fun K hK => ?_) AllReadyH.nil)
      go_simp
      refine hK.out _ _ ?_ (fun hHeld => ?_)
      · exact ⟨Kept.cellp (K2.out.alloc _) q0, Kept.cellp (K2.out.alloc _) qs⟩
      clear hK K
      (try simp only [Act.put, List.setIfInBounds_toArray, List.set_cons_zero, List.set_cons_succ])
      refine wpAnyH_take (i := 15) (oi := { dst := some 6, op := _, type := _, pos := _, after := _, guard := _ }) (v := ?_) rfl (by kernel_rfl) (by kernel_rfl) (by kernel_rfl) (fun _ _ _ h => h) (Or.inl ⟨by rfl, ?_⟩) (by assumption) ?_
      rotate_left
      · (intro w hSw; (try dsimp only at hSw); (try obtain ⟨hSw1, hSw2⟩ := hSw); go_simp; (try with_reducible rfl))
      (try simp only [Act.put, List.setIfInBounds_toArray, List.set_cons_zero, List.set_cons_succ])
      refine wpAnyH_done (by kernel_rfl) ?_ _
      have KE : Kept w1 (w2.alloc (.cells #[.int .i64 i0, .int .i64 i1, .int .i64 i2, .int .i64 i3, .int .i64 i4] 33)) := K2.out.alloc _
      have hgb : w1.heap.size ≤ w2.heap.size := K2.out.size
      have e0 : (w2.alloc (.cells #[.int .i64 i0, .int .i64 i1, .int .i64 i2, .int .i64 i3, .int .i64 i4] 33)).cell? ⟨w2.heap.size, 0, none⟩ = some (.int .i64 i0) := by simp
      have e1 : (w2.alloc (.cells #[.int .i64 i0, .int .i64 i1, .int .i64 i2, .int .i64 i3, .int .i64 i4] 33)).cell? ⟨w2.heap.size, 1, none⟩ = some (.int .i64 i1) := by simp
      have e2 : (w2.alloc (.cells #[.int .i64 i0, .int .i64 i1, .int .i64 i2, .int .i64 i3, .int .i64 i4] 33)).cell? ⟨w2.heap.size, 2, none⟩ = some (.int .i64 i2) := by simp
      have e3 : (w2.alloc (.cells #[.int .i64 i0, .int .i64 i1, .int .i64 i2, .int .i64 i3, .int .i64 i4] 33)).cell? ⟨w2.heap.size, 3, none⟩ = some (.int .i64 i3) := by simp
      have e4 : (w2.alloc (.cells #[.int .i64 i0, .int .i64 i1, .int .i64 i2, .int .i64 i3, .int .i64 i4] 33)).cell? ⟨w2.heap.size, 4, none⟩ = some (.int .i64 i4) := by simp
      clear hHeld
      generalize (w2.alloc (.cells #[.int .i64 i0, .int .i64 i1, .int .i64 i2, .int .i64 i3, .int .i64 i4] 33)) = w3 at *
      generalize hgg : w2.heap.size = gb at *
      have KE3 := hidMk (K1.out.trans KE)
      have S3 := hidMk (HS.out.keep (K1.out.trans KE))
      have hprg : pr ≠ gb := (by omega)
      clear KE hgg hgb q0 qs hpbl
      have hee : er = er0 := HE1.out.trans HER.out
      subst hee
      by_cases hz : er = 0
      · subst hz
        have hb0 : ((0 : Int) == 0) = true := rfl
        have HQ := hidMk (HPY.out _ S3.out)
        have hcv := HE2.out rfl
        unfold cellV at hcv
        simp only [Value.agg.injEq, Array.mk.injEq, List.cons.injEq, Value.int.injEq, true_and, and_true] at hcv
        obtain ⟨v0, v1, v2, v3, v4⟩ := hcv
        have HV := hidMk (show R = .ok (i + 1, putC i0 i1 i2 i3 i4 x) by rw [← HR.out, if_neg (by simp), v0, v1, v2, v3, v4])
        clear v0 v1 v2 v3 v4 HR HE1 HE2 HER
        go_wp2_with fail
        refine HQ.out.mono ?_
        rintro e w4 ⟨rfl, hw4⟩
        have S4 := hidMk (show RS w0 w4 pr px pd ra L.length rc (i + 1, x) by rw [hw4]; exact S3.out.setAt (i + 1) (by show i + 1 ≤ L.length; omega))
        have C4 := hidMk (show Chg (Two pr px) W w4 by rw [hw4]; exact (Chg.of_kept KE3.out).setCell (p := ⟨pr, 2, none⟩) (.inl (.inl rfl)) _)
        have j0 : w4.cell? ⟨gb, 0, none⟩ = some (.int .i64 i0) := by rw [hw4]; exact so e0 (by intro e; simp only [Addr.mk.injEq] at e; exact hprg e.1)
        have j1 : w4.cell? ⟨gb, 1, none⟩ = some (.int .i64 i1) := by rw [hw4]; exact so e1 (by intro e; simp only [Addr.mk.injEq] at e; exact hprg e.1)
        have j2 : w4.cell? ⟨gb, 2, none⟩ = some (.int .i64 i2) := by rw [hw4]; exact so e2 (by intro e; simp only [Addr.mk.injEq] at e; exact hprg e.1)
        have j3 : w4.cell? ⟨gb, 3, none⟩ = some (.int .i64 i3) := by rw [hw4]; exact so e3 (by intro e; simp only [Addr.mk.injEq] at e; exact hprg e.1)
        have j4 : w4.cell? ⟨gb, 4, none⟩ = some (.int .i64 i4) := by rw [hw4]; exact so e4 (by intro e; simp only [Addr.mk.injEq] at e; exact hprg e.1)
        clear hw4 e0 e1 e2 e3 e4
        have p0 := S4.out.x 4 _ rfl
        have p1 := S4.out.x 5 _ rfl
        have p2 := S4.out.x 6 _ rfl
        have p3 := S4.out.x 7 _ rfl
        have p4 := S4.out.x 8 _ rfl
        have z0 := S4.out.fx 4 (by omega)
        have z1 := S4.out.fx 5 (by omega)
        have z2 := S4.out.fx 6 (by omega)
        have z3 := S4.out.fx 7 (by omega)
        have z4 := S4.out.fx 8 (by omega)
        simp only at p0 p1 p2 p3 p4
        go_wp2_with fail
        go_end0
        rw [HV.out]
        exact ⟨rfl, S4.out.setC i0 i1 i2 i3 i4, ((((C4.out.setCell (p := ⟨px, 4, none⟩) (.inl (.inr rfl)) _).setCell (p := ⟨px, 5, none⟩) (.inl (.inr rfl)) _).setCell (p := ⟨px, 6, none⟩) (.inl (.inr rfl)) _).setCell (p := ⟨px, 7, none⟩) (.inl (.inr rfl)) _).setCell (p := ⟨px, 8, none⟩) (.inl (.inr rfl)) _⟩
      · have hb0 : (er == 0) = false := by simpa using hz
        have HQ := hidMk (HPN.out er _ S3.out)
        have HV := hidMk (show R = .error ((i : Int), er) by rw [← HR.out, if_pos hz])
        go_wp2_with fail
        refine HQ.out.mono ?_
        rintro e w4 ⟨rfl, rfl⟩
        go_wp2_with fail
        rw [HV.out]
        exact ⟨rfl, rfl, Chg.of_kept KE3.out⟩
    · go_simp
      refine hK.out _ _ ?_ (fun hHeld => ?_)
      · refine ⟨Kept.cellp ?_ q0, Kept.cellp ?_ qs⟩ <;> (repeat (first | (with_reducible exact Kept.refl _) | (with_reducible refine Kept.alloc ?_ _) | (with_reducible refine Kept.drew ?_) | (with_reducible refine Kept.drewN ?_ _) | (with_reducible refine Kept.trans ?_ (by assumption))))
      clear hK K
      (try simp only [Act.put, List.setIfInBounds_toArray, List.set_cons_zero, List.set_cons_succ])
      refine wpAnyH_ready (rs := [9]) (by kernel_rfl) (by simp) ?_
      refine (AllReadyH.cons (o := { dst := some 20, op := _, type := _, pos := _, after := _, guard := _ }) rfl (fun K hK => ?_) AllReadyH.nil)
      go_simp
      refine (HC.out _ (by (repeat (first | (with_reducible exact Kept.refl _) | (with_reducible refine Kept.alloc ?_ _) | (with_reducible refine Kept.drew ?_) | (with_reducible refine Kept.drewN ?_ _) | (with_reducible refine Kept.trans ?_ (by assumption))))) _ _ (by omega)).mono ?_
      rintro e w2 ⟨r, er, rfl, hci, k2⟩
      obtain ⟨hE1, hE2, i0, i1, i2, i3, i4, rfl⟩ := cellIs_e hci
      have K2 := hidMk (show Kept w1 w2 by (repeat (first | (with_reducible exact Kept.refl _) | (with_reducible refine Kept.alloc ?_ _) | (with_reducible refine Kept.drew ?_) | (with_reducible refine Kept.drewN ?_ _) | (with_reducible refine Kept.trans ?_ (by assumption)))))
      have hg : w1.heap.size < w2.heap.size := (by have := Below.size k2; simp at this; omega)
      have n0 : w2.cell? ⟨w1.heap.size, 0, none⟩ = some (.int .i64 0) := k2.cellp (by simp)
      have n1 : w2.cell? ⟨w1.heap.size, 1, none⟩ = some (.int .i64 0) := k2.cellp (by simp)
      have n2 : w2.cell? ⟨w1.heap.size, 2, none⟩ = some (.int .i64 0) := k2.cellp (by simp)
      have n3 : w2.cell? ⟨w1.heap.size, 3, none⟩ = some (.int .i64 0) := k2.cellp (by simp)
      have n4 : w2.cell? ⟨w1.heap.size, 4, none⟩ = some (.int .i64 0) := k2.cellp (by simp)
      have g0 : w2.frozen? ⟨w1.heap.size, 0, none⟩ = false := (k2.frozen (p := ⟨w1.heap.size, 0, none⟩) (by simp)).trans (by simp)
      have g1 : w2.frozen? ⟨w1.heap.size, 1, none⟩ = false := (k2.frozen (p := ⟨w1.heap.size, 1, none⟩) (by simp)).trans (by simp)
      have g2 : w2.frozen? ⟨w1.heap.size, 2, none⟩ = false := (k2.frozen (p := ⟨w1.heap.size, 2, none⟩) (by simp)).trans (by simp)
      have g3 : w2.frozen? ⟨w1.heap.size, 3, none⟩ = false := (k2.frozen (p := ⟨w1.heap.size, 3, none⟩) (by simp)).trans (by simp)
      have g4 : w2.frozen? ⟨w1.heap.size, 4, none⟩ = false := (k2.frozen (p := ⟨w1.heap.size, 4, none⟩) (by simp)).trans (by simp)
      have HE1 := hidMk hE1
      have HE2 := hidMk hE2
      clear k2 hci hE1 hE2
      (try go_wp2_with fail)
      refine hK.out _ _ ?_ (fun hHeld => ?_)
      · exact ⟨K2.out.cellp q0, K2.out.cellp qs⟩
      clear hK K
      (try simp only [Act.put, List.setIfInBounds_toArray, List.set_cons_zero, List.set_cons_succ])
      refine wpAnyH_take (i := 10) (oi := { dst := some 10, op := _, type := _, pos := _, after := _, guard := _ }) (v := ?_) rfl (by kernel_rfl) (by kernel_rfl) (by kernel_rfl) (fun _ _ _ h => h) (Or.inl ⟨by rfl, ?_⟩) (by assumption) ?_
      rotate_left
      · (intro w hSw; (try dsimp only at hSw); (try obtain ⟨hSw1, hSw2⟩ := hSw); go_simp; (try with_reducible rfl))
      (try simp only [Act.put, List.setIfInBounds_toArray, List.set_cons_zero, List.set_cons_succ])
      refine wpAnyH_take (i := 11) (oi := { dst := some 21, op := _, type := _, pos := _, after := _, guard := _ }) (v := ?_) rfl (by kernel_rfl) (by kernel_rfl) (by kernel_rfl) (fun _ _ _ h => h) (Or.inl ⟨by rfl, ?_⟩) (by assumption) ?_
      rotate_left
      · (intro w hSw; (try dsimp only at hSw); (try obtain ⟨hSw1, hSw2⟩ := hSw); go_simp; (try with_reducible rfl))
      (try simp only [Act.put, List.setIfInBounds_toArray, List.set_cons_zero, List.set_cons_succ])
      refine wpAnyH_take (i := 12) (oi := { dst := some 22, op := _, type := _, pos := _, after := _, guard := _ }) (v := ?_) rfl (by kernel_rfl) (by kernel_rfl) (by kernel_rfl) (fun _ _ _ h => h) (Or.inl ⟨by rfl, ?_⟩) (by assumption) ?_
      rotate_left
      · (intro w hSw; (try dsimp only at hSw); (try obtain ⟨hSw1, hSw2⟩ := hSw); go_simp; (try with_reducible rfl))
      (try simp only [Act.put, List.setIfInBounds_toArray, List.set_cons_zero, List.set_cons_succ])
      refine wpAnyH_ready (rs := [14]) (by kernel_rfl) (by simp) ?_
      refine (AllReadyH.cons (o := { dst := none, op := _, type := _, pos := _, after := _, guard := _ }) rfl (fun K hK => ?_) AllReadyH.nil)
      go_simp
      refine hK.out _ _ ?_ (fun hHeld => ?_)
      · exact ⟨Kept.cellp (set5_kept K2.out (Nat.le_refl _) _ _ _ _ _) q0, Kept.cellp (set5_kept K2.out (Nat.le_refl _) _ _ _ _ _) qs⟩
      clear hK K
      (try simp only [Act.put, List.setIfInBounds_toArray, List.set_cons_zero, List.set_cons_succ])
      refine wpAnyH_take (i := 15) (oi := { dst := some 6, op := _, type := _, pos := _, after := _, guard := _ }) (v := ?_) rfl (by kernel_rfl) (by kernel_rfl) (by kernel_rfl) (fun _ _ _ h => h) (Or.inl ⟨by rfl, ?_⟩) (by assumption) ?_
      rotate_left
      · (intro w hSw; (try dsimp only at hSw); (try obtain ⟨hSw1, hSw2⟩ := hSw); go_simp; (try with_reducible rfl))
      (try simp only [Act.put, List.setIfInBounds_toArray, List.set_cons_zero, List.set_cons_succ])
      refine wpAnyH_done (by kernel_rfl) ?_ _
      have KE : Kept w1 (((((w2.setCell ⟨w1.heap.size, 0, none⟩ (.int .i64 i0)).setCell ⟨w1.heap.size, 1, none⟩ (.int .i64 i1)).setCell ⟨w1.heap.size, 2, none⟩ (.int .i64 i2)).setCell ⟨w1.heap.size, 3, none⟩ (.int .i64 i3)).setCell ⟨w1.heap.size, 4, none⟩ (.int .i64 i4)) := set5_kept K2.out (Nat.le_refl _) _ _ _ _ _
      have hgb : w1.heap.size ≤ w1.heap.size := Nat.le_refl _
      obtain ⟨e0, e1, e2, e3, e4⟩ := NW.set5 (b := w1.heap.size) (w := w2) n0 n1 n2 n3 n4 (.int .i64 i0) (.int .i64 i1) (.int .i64 i2) (.int .i64 i3) (.int .i64 i4)
      clear n0 n1 n2 n3 n4 g0 g1 g2 g3 g4 hg
      clear hHeld
      generalize (((((w2.setCell ⟨w1.heap.size, 0, none⟩ (.int .i64 i0)).setCell ⟨w1.heap.size, 1, none⟩ (.int .i64 i1)).setCell ⟨w1.heap.size, 2, none⟩ (.int .i64 i2)).setCell ⟨w1.heap.size, 3, none⟩ (.int .i64 i3)).setCell ⟨w1.heap.size, 4, none⟩ (.int .i64 i4)) = w3 at *
      obtain ⟨gb, hgg⟩ : ∃ gb, gb = w1.heap.size := ⟨_, rfl⟩
      rw [← hgg] at e0 e1 e2 e3 e4
      rw [← hgg]
      have hgb : w1.heap.size ≤ gb := by omega
      have KE3 := hidMk (K1.out.trans KE)
      have S3 := hidMk (HS.out.keep (K1.out.trans KE))
      have hprg : pr ≠ gb := (by omega)
      clear KE hgg hgb q0 qs hpbl
      have hee : er = er0 := HE1.out.trans HER.out
      subst hee
      by_cases hz : er = 0
      · subst hz
        have hb0 : ((0 : Int) == 0) = true := rfl
        have HQ := hidMk (HPY.out _ S3.out)
        have hcv := HE2.out rfl
        unfold cellV at hcv
        simp only [Value.agg.injEq, Array.mk.injEq, List.cons.injEq, Value.int.injEq, true_and, and_true] at hcv
        obtain ⟨v0, v1, v2, v3, v4⟩ := hcv
        have HV := hidMk (show R = .ok (i + 1, putC i0 i1 i2 i3 i4 x) by rw [← HR.out, if_neg (by simp), v0, v1, v2, v3, v4])
        clear v0 v1 v2 v3 v4 HR HE1 HE2 HER
        go_wp2_with fail
        refine HQ.out.mono ?_
        rintro e w4 ⟨rfl, hw4⟩
        have S4 := hidMk (show RS w0 w4 pr px pd ra L.length rc (i + 1, x) by rw [hw4]; exact S3.out.setAt (i + 1) (by show i + 1 ≤ L.length; omega))
        have C4 := hidMk (show Chg (Two pr px) W w4 by rw [hw4]; exact (Chg.of_kept KE3.out).setCell (p := ⟨pr, 2, none⟩) (.inl (.inl rfl)) _)
        have j0 : w4.cell? ⟨gb, 0, none⟩ = some (.int .i64 i0) := by rw [hw4]; exact so e0 (by intro e; simp only [Addr.mk.injEq] at e; exact hprg e.1)
        have j1 : w4.cell? ⟨gb, 1, none⟩ = some (.int .i64 i1) := by rw [hw4]; exact so e1 (by intro e; simp only [Addr.mk.injEq] at e; exact hprg e.1)
        have j2 : w4.cell? ⟨gb, 2, none⟩ = some (.int .i64 i2) := by rw [hw4]; exact so e2 (by intro e; simp only [Addr.mk.injEq] at e; exact hprg e.1)
        have j3 : w4.cell? ⟨gb, 3, none⟩ = some (.int .i64 i3) := by rw [hw4]; exact so e3 (by intro e; simp only [Addr.mk.injEq] at e; exact hprg e.1)
        have j4 : w4.cell? ⟨gb, 4, none⟩ = some (.int .i64 i4) := by rw [hw4]; exact so e4 (by intro e; simp only [Addr.mk.injEq] at e; exact hprg e.1)
        clear hw4 e0 e1 e2 e3 e4
        have p0 := S4.out.x 4 _ rfl
        have p1 := S4.out.x 5 _ rfl
        have p2 := S4.out.x 6 _ rfl
        have p3 := S4.out.x 7 _ rfl
        have p4 := S4.out.x 8 _ rfl
        have z0 := S4.out.fx 4 (by omega)
        have z1 := S4.out.fx 5 (by omega)
        have z2 := S4.out.fx 6 (by omega)
        have z3 := S4.out.fx 7 (by omega)
        have z4 := S4.out.fx 8 (by omega)
        simp only at p0 p1 p2 p3 p4
        go_wp2_with fail
        go_end0
        rw [HV.out]
        exact ⟨rfl, S4.out.setC i0 i1 i2 i3 i4, ((((C4.out.setCell (p := ⟨px, 4, none⟩) (.inl (.inr rfl)) _).setCell (p := ⟨px, 5, none⟩) (.inl (.inr rfl)) _).setCell (p := ⟨px, 6, none⟩) (.inl (.inr rfl)) _).setCell (p := ⟨px, 7, none⟩) (.inl (.inr rfl)) _).setCell (p := ⟨px, 8, none⟩) (.inl (.inr rfl)) _⟩
      · have hb0 : (er == 0) = false := by simpa using hz
        have HQ := hidMk (HPN.out er _ S3.out)
        have HV := hidMk (show R = .error ((i : Int), er) by rw [← HR.out, if_pos hz])
        go_wp2_with fail
        refine HQ.out.mono ?_
        rintro e w4 ⟨rfl, rfl⟩
        go_wp2_with fail
        rw [HV.out]
        exact ⟨rfl, rfl, Chg.of_kept KE3.out⟩
end
end Go.Proofs.YtpehinmckppjoaaGreatDoor
namespace Go.Proofs.YtpehinmckppjoaaGreatDoor
open Go.RowKit Go.Maps
set_option linter.unusedSimpArgs false
set_option linter.unusedVariables false

def isNm (b : Int) : Prop := b = 117 ∨ b = 115 ∨ b = 111
theorem foldP_cons (ms : List ByteArray) (ds : List Dm) (L : List ByteArray) (b : Int) (bs : List Int) (s : Nat × Cm) : foldP ms ds L (b :: bs) s = match oneP ms ds L b s with
    | .error e => .error e
    | .ok s' => foldP ms ds L bs s' := rfl
theorem foldP_app (ms : List ByteArray) (ds : List Dm) (L : List ByteArray) : ∀ (az bs : List Int) (s : Nat × Cm), foldP ms ds L (az ++ bs) s = match foldP ms ds L az s with
    | .error e => .error e
    | .ok s' => foldP ms ds L bs s'
  | [], bs, s => rfl
  | a :: az, bs, s => by
    rw [List.cons_append, foldP_cons, foldP_cons]
    cases oneP ms ds L a s with
    | error e => rfl
    | ok s' => exact foldP_app ms ds L az bs s'
theorem oneP_name {ms : List ByteArray} {ds : List Dm} {L : List ByteArray} {b : Int} (h : isNm b) (s : Nat × Cm) : oneP ms ds L b s = nameP L b s := by
  unfold oneP; rw [if_pos (show b = 117 ∨ b = 115 ∨ b = 111 from h)]
/-- A reader, as the side that fields are told to. -/
def rdV (pr : Nat) : Value := .iface 62 (.pointer (some ⟨pr, 0, none⟩))
section
variable {w0 W : World} {pr px pd : Nat} {ra : Option Addr} {rc : Nat} {ms : List ByteArray} {ds : List Dm} {L : List ByteArray}
set_option maxHeartbeats 2000000 in
set_option maxRecDepth 100000 in
theorem rd_names (hX : RX w0 pr px pd ra rc ms ds L) {s : Nat × Cm} (hS : RS w0 W pr px pd ra L.length rc s) (bs : List Int) (hbl : bs.length ≤ 3) (hb : ∀ k, k < bs.length → isNm (bs.getD k 0)) (g c : Nat) (hg : g ≠ pr ∧ g ≠ px) (hc : ∀ k, k < bs.length → W.cell? ⟨g, k, none⟩ = some (.pointer (some ⟨px, offT (bs.getD k 0), none⟩))) :
    Calls Tryz.prog 50 #[rdV pr, .slice (some ⟨g, 0, none⟩) bs.length c] W (RdPost w0 W pr px pd ra L.length rc (foldP ms ds L bs s)) := by
  have HX := hidMk hX
  have HS := hidMk hS
  have HB := hidMk hb
  have HC := hidMk hc
  have HG := hidMk hg
  obtain ⟨R, hR⟩ : ∃ R, foldP ms ds L bs s = R := ⟨_, rfl⟩
  rw [hR]
  have HR := hidMk hR
  unfold rdV
  clear hX hS hb hc hg hR
  go_enter Tryz.func50, Tryz.ntmps50
  go_wp2_with fail
  go_loopg [8] bs.length (fun gg x wr => ∃ (k : Nat) (s' : Nat × Cm), k + gg = bs.length ∧ x = .int .i64 k ∧ Hid (RS w0 wr pr px pd ra L.length rc s') ∧ Hid (Chg (Two pr px) W wr) ∧ Hid (foldP ms ds L (bs.drop k) s' = R))
  case atStart => exact ⟨0, s, by omega, rfl, HS, hidMk (Chg.refl _ _), HR⟩
  case round =>
    obtain ⟨k, s', hkg, rfl, HS', HCh, HF⟩ := hrel
    have HKG := hidMk hkg
    by_cases hk : k < bs.length
    · have hk1 : (k : Int) < (bs.length : Int) := by omega
      have HK1 := hidMk (show 1 ≤ gk by omega)
      have c0 := HCh.out.cellp (HC.out k hk) (fun e => by
        rcases e with e | e
        · exact HG.out.1 e
        · exact HG.out.2 e)
      have hn := HB.out k hk
      have hd : bs.drop k = bs.getD k 0 :: bs.drop (k + 1) := by rw [List.drop_eq_getElem_cons hk, List.getD_eq_getElem?_getD, List.getElem?_eq_getElem hk]; rfl
      have HF2 := hidMk (show (match nameP L (bs.getD k 0) s' with | .error e => .error e | .ok s2 => foldP ms ds L (bs.drop (k + 1)) s2) = R by
        have h := HF.out
        rw [hd] at h
        unfold foldP at h
        rw [oneP_name hn] at h
        exact h)
      have HN := hidMk (rd_name HX.out HS'.out hn)
      clear hd hn hkg
      generalize bs.getD k 0 = b at *
      rcases hq : nameP L b s' with p | s2
      · rw [hq] at HN
        have hRR := HF2.out
        rw [hq] at hRR
        subst hRR
        clear hq HF2
        go_wp2_with fail
        refine HN.out.mono ?_
        rintro e w2 ⟨rfl, hc2⟩
        go_wp2_with fail
        exact ⟨rfl, rfl, HCh.out.thn hc2 (fun _ _ h => h)⟩
      · rw [hq] at HN
        have HF3 := hidMk (show foldP ms ds L (bs.drop (k + 1)) s2 = R by have h := HF2.out; rw [hq] at h; exact h)
        clear hq HF2
        go_wp2_with fail
        refine HN.out.mono ?_
        rintro e w2 ⟨rfl, hs2, hc2⟩
        have HS2 := hidMk hs2
        have HC2 := hidMk (HCh.out.thn hc2 (fun _ _ h => h))
        clear hs2 hc2
        go_wp2_with fail
        go_roundg (gk - 1)
        case measure => have := HKG.out; have := HK1.out; omega
        case rel => exact ⟨k + 1, s2, by have h1 := HKG.out; have h2 := HK1.out; omega, by go_num, HS2, HC2, HF3⟩
    · have hk1 : ¬ ((k : Int) < (bs.length : Int)) := by omega
      have hR2 := HF.out
      rw [List.drop_eq_nil_of_le (by omega)] at hR2
      unfold foldP at hR2
      subst hR2
      clear hkg
      go_wp2_with fail
      go_end0
      exact ⟨rfl, HS'.out, HCh.out⟩
end
end Go.Proofs.YtpehinmckppjoaaGreatDoor
