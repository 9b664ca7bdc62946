/- BlockSame: whether two files are alike. -/
import Derived.Test.YtcmhfmbpbbdemaaBj3
namespace Go.Proofs.Ytcmhfmbpbbdemaa
open Go.RowKit Go.Maps
set_option linter.unusedSimpArgs false
set_option linter.unusedVariables false

set_option maxHeartbeats 16000000 in
set_option maxRecDepth 100000 in
theorem law_BlockSame (a : Option Addr) (N c : Nat) (l : List Ab) (a2 : Option Addr) (N2 c2 : Nat) (l2 : List Ab) (w : World) (hs : Aq w a N l) (hs2 : Aq w a2 N2 l2) : Calls Try.prog 5 #[.slice a N c, .slice a2 N2 c2] w fun e w' => e = .returned (.bool true) ∧ Kept w w' := by
  have hbig := hs.big
  have hbig2 := hs2.big
  unfold maxLen at hbig hbig2
  have HS := hidMk hs
  have HS2 := hidMk hs2
  have HN := hidMk (bk_New 4 w)
  simp only [show (1 : Int) ≤ 4 ∧ (4 : Int) ≤ 4096 from by omega, if_true, and_self] at HN
  clear hs hs2
  obtain ⟨M, hM⟩ : ∃ M, M = if N ≤ 20 then N else 20 := ⟨_, rfl⟩
  have hM1 : M ≤ N := by rw [hM]; split <;> omega
  have hM2 : M ≤ 20 := by rw [hM]; split <;> omega
  have hM3 : M = N ∨ M = 20 := by rw [hM]; split <;> omega
  clear hM
  obtain ⟨M2, hM⟩ : ∃ M, M = if N2 ≤ 20 then N2 else 20 := ⟨_, rfl⟩
  have hM4 : M2 ≤ N2 := by rw [hM]; split <;> omega
  have hM5 : M2 ≤ 20 := by rw [hM]; split <;> omega
  have hM6 : M2 = N2 ∨ M2 = 20 := by rw [hM]; split <;> omega
  clear hM
  go_enter Try.func5, Try.ntmps5
  go_wp2_with fail
  refine HN.out.mono ?_
  rintro e w1 ⟨f, d, rfl, hf0, hd0, f1, q1⟩
  have F1 := hidMk (show Fl w1 f d 4 (news 4) from f1)
  have Q1 := hidMk q1
  clear f1 q1 HN
  go_wp2_with fail
  refine (show Calls Try.prog 12 #[.int .i64 4] w1 _ from bo_new (N := 4) F1.out Q1.out hf0 hd0 (by omega) (by omega)).mono ?_
  rintro e w2 ⟨B, r, v, gs, cs, rfl, b2⟩
  have HB0 := hidMk b2
  clear b2 F1 Q1 hf0 hd0
  go_wp2_with fail
  go_loopg [9] M (fun gg iv wr => ∃ (k : Nat) (s : Bf) (u y : Int), k + gg = M ∧ iv = .int .i64 (k : Int) ∧ Hid (Bo w wr f d 4 s B r v gs cs s u y) ∧ Hid (s.wr ≤ (k : Int)))
  case atStart => exact ⟨0, _, _, _, by omega, rfl, HB0, hidMk (Int.le_refl _)⟩
  case round =>
    obtain ⟨k, s, u, y, hkg, rfl, HB, HWRK⟩ := hrel
    have HKG := hidMk hkg
    by_cases hkM : k < M
    · have HWR := hidMk (show s.wr ≤ 61 by have := HWRK.out; omega)
      have hk1 : (k : Int) < (N : Int) := by omega
      have hk2 : (k : Int) < 20 := by omega
      have hk3 : k < N := by omega
      have hk0 : (0 : Int) ≤ (k : Int) := by omega
      obtain ⟨ab, ao, rfl, hab, _⟩ := HS.out.cells (by omega)
      obtain ⟨_, p0, p1, p2, p3⟩ := HS.out.at HB.out.kp hk3
      obtain ⟨sl, sb, si1, si2, si3⟩ := HS.out.sl k hk3
      have hab2 : ab < wr.heap.size := Nat.lt_of_lt_of_le hab HB.out.kp.size
      have HSL0 := hidMk sl
      have HIB := hidMk sb
      have HAD := hidMk (show ∀ ad, (abA l k).2.2.2.1.1 = some ad → 0 < (abA l k).2.2.2.1.2.1 → ad.block < w.heap.size from fun ad e hp => by
        obtain ⟨b', o', e', h', _⟩ := sl.cells hp
        rw [e] at e'; cases e'; exact h')
      clear sl sb si1 si2 si3 hkg p0 p2
      have hff := HB.out.hf
      have hdd := HB.out.hd
      have HABf := hidMk (show ¬ Of f d ab from fun e => by rcases e with e | e <;> omega)
      have HABr := hidMk (show ¬ RS r v 4 gs ab from fun e => by have h8 := (HB.out.rge _ e).1; have h9 := HB.out.hB; omega)
      have HSL := hidMk (HSL0.out.kept HB.out.kp)
      generalize hA : abA l k = A at *
      clear hA
      obtain ⟨xk, xn, xk2, ⟨xa, xm, xc⟩, xl⟩ := A
      dsimp only at *
      go_wp2_with fail
      refine wp_region_held_drew (S := (fun w9 => w9.cell? ⟨ab, ao + k * 4 + 1, none⟩ = some (.int .i64 xn) ∧ w9.cell? ⟨ab, ao + k * 4 + 3, none⟩ = some (.slice xa xm xc))) (by kernel_rfl) ?_ (fun hHeld => ?_)
      · exact ⟨p1, p3⟩
      refine wpAnyH_take (i := 0) (oi := { dst := some 37, op := _, type := _, pos := _, after := _, guard := _ }) (v := ?_) rfl (by kernel_rfl) (by kernel_rfl) (by kernel_rfl) (fun _ _ _ h => h) (Or.inl ⟨by rfl, ?_⟩) (by assumption) ?_
      rotate_left
      · (intro w9 hSw; (try dsimp only at hSw); (try obtain ⟨hSw1, hSw2⟩ := hSw); go_simp; (try with_reducible rfl))
      (try simp only [Act.put, List.setIfInBounds_toArray, List.set_cons_zero, List.set_cons_succ])
      refine wpAnyH_take (i := 1) (oi := { dst := some 38, op := _, type := _, pos := _, after := _, guard := _ }) (v := ?_) rfl (by kernel_rfl) (by kernel_rfl) (by kernel_rfl) (fun _ _ _ h => h) (Or.inl ⟨by rfl, ?_⟩) (by assumption) ?_
      rotate_left
      · (intro w9 hSw; (try dsimp only at hSw); (try obtain ⟨hSw1, hSw2⟩ := hSw); go_simp; (try with_reducible rfl))
      (try simp only [Act.put, List.setIfInBounds_toArray, List.set_cons_zero, List.set_cons_succ])
      refine wpAnyH_take (i := 2) (oi := { dst := some 39, op := _, type := _, pos := _, after := _, guard := _ }) (v := ?_) rfl (by kernel_rfl) (by kernel_rfl) (by kernel_rfl) (fun _ _ _ h => h) (Or.inl ⟨by rfl, ?_⟩) (by assumption) ?_
      rotate_left
      · (intro w9 hSw; (try dsimp only at hSw); (try obtain ⟨hSw1, hSw2⟩ := hSw); go_simp; (try with_reducible rfl))
      (try simp only [Act.put, List.setIfInBounds_toArray, List.set_cons_zero, List.set_cons_succ])
      refine wpAnyH_take (i := 3) (oi := { dst := some 40, op := _, type := _, pos := _, after := _, guard := _ }) (v := ?_) rfl (by kernel_rfl) (by kernel_rfl) (by kernel_rfl) (fun _ _ _ h => h) (Or.inl ⟨by rfl, ?_⟩) (by assumption) ?_
      rotate_left
      · (intro w9 hSw; (try dsimp only at hSw); (try obtain ⟨hSw1, hSw2⟩ := hSw); go_simp; (try with_reducible rfl))
      (try simp only [Act.put, List.setIfInBounds_toArray, List.set_cons_zero, List.set_cons_succ])
      refine wpAnyH_take (i := 4) (oi := { dst := some 41, op := _, type := _, pos := _, after := _, guard := _ }) (v := ?_) rfl (by kernel_rfl) (by kernel_rfl) (by kernel_rfl) (fun _ _ _ h => h) (Or.inl ⟨by rfl, ?_⟩) (by assumption) ?_
      rotate_left
      · (intro w9 hSw; (try dsimp only at hSw); (try obtain ⟨hSw1, hSw2⟩ := hSw); go_simp; (try with_reducible rfl))
      (try simp only [Act.put, List.setIfInBounds_toArray, List.set_cons_zero, List.set_cons_succ])
      refine wpAnyH_take (i := 5) (oi := { dst := some 42, op := _, type := _, pos := _, after := _, guard := _ }) (v := ?_) rfl (by kernel_rfl) (by kernel_rfl) (by kernel_rfl) (fun _ _ _ h => h) (Or.inl ⟨by rfl, ?_⟩) (by assumption) ?_
      rotate_left
      · (intro w9 hSw; (try dsimp only at hSw); (try obtain ⟨hSw1, hSw2⟩ := hSw); go_simp; (try with_reducible rfl))
      (try simp only [Act.put, List.setIfInBounds_toArray, List.set_cons_zero, List.set_cons_succ])
      refine wpAnyH_take (i := 6) (oi := { dst := some 43, op := _, type := _, pos := _, after := _, guard := _ }) (v := ?_) rfl (by kernel_rfl) (by kernel_rfl) (by kernel_rfl) (fun _ _ _ h => h) (Or.inl ⟨by rfl, ?_⟩) (by assumption) ?_
      rotate_left
      · (intro w9 hSw; (try dsimp only at hSw); (try obtain ⟨hSw1, hSw2⟩ := hSw); go_simp; (try with_reducible rfl))
      (try simp only [Act.put, List.setIfInBounds_toArray, List.set_cons_zero, List.set_cons_succ])
      refine wpAnyH_take (i := 7) (oi := { dst := some 44, op := _, type := _, pos := _, after := _, guard := _ }) (v := ?_) rfl (by kernel_rfl) (by kernel_rfl) (by kernel_rfl) (fun _ _ _ h => h) (Or.inl ⟨by rfl, ?_⟩) (by assumption) ?_
      rotate_left
      · (intro w9 hSw; (try dsimp only at hSw); (try obtain ⟨hSw1, hSw2⟩ := hSw); go_simp; (try with_reducible rfl))
      (try simp only [Act.put, List.setIfInBounds_toArray, List.set_cons_zero, List.set_cons_succ])
      refine wpAnyH_take (i := 8) (oi := { dst := some 45, op := _, type := _, pos := _, after := _, guard := _ }) (v := ?_) rfl (by kernel_rfl) (by kernel_rfl) (by kernel_rfl) (fun _ _ _ h => h) (Or.inl ⟨by rfl, ?_⟩) (by assumption) ?_
      rotate_left
      · (intro w9 hSw; (try dsimp only at hSw); (try obtain ⟨hSw1, hSw2⟩ := hSw); go_simp; (try with_reducible rfl))
      (try simp only [Act.put, List.setIfInBounds_toArray, List.set_cons_zero, List.set_cons_succ])
      refine wpAnyH_take (i := 9) (oi := { dst := some 46, op := _, type := _, pos := _, after := _, guard := _ }) (v := ?_) rfl (by kernel_rfl) (by kernel_rfl) (by kernel_rfl) (fun _ _ _ h => h) (Or.inl ⟨by rfl, ?_⟩) (by assumption) ?_
      rotate_left
      · (intro w9 hSw; (try dsimp only at hSw); (try obtain ⟨hSw1, hSw2⟩ := hSw); go_simp; (try with_reducible rfl))
      (try simp only [Act.put, List.setIfInBounds_toArray, List.set_cons_zero, List.set_cons_succ])
      refine wpAnyH_take (i := 10) (oi := { dst := some 47, op := _, type := _, pos := _, after := _, guard := _ }) (v := ?_) rfl (by kernel_rfl) (by kernel_rfl) (by kernel_rfl) (fun _ _ _ h => h) (Or.inl ⟨by rfl, ?_⟩) (by assumption) ?_
      rotate_left
      · (intro w9 hSw; (try dsimp only at hSw); (try obtain ⟨hSw1, hSw2⟩ := hSw); go_simp; (try with_reducible rfl))
      (try simp only [Act.put, List.setIfInBounds_toArray, List.set_cons_zero, List.set_cons_succ])
      refine wpAnyH_ready (rs := [11]) (by kernel_rfl) (by simp) ?_
      refine AllReadyH.cons (o := { dst := some 48, op := _, type := _, pos := _, after := _, guard := _ }) rfl (fun K hK => ?_) AllReadyH.nil
      go_simp
      refine (bo_WrP (HB.out.kept (Kept.refl _).drew) (by have := HWR.out; omega) xn xa xm xc xl (HSL.out.kept (Kept.refl _).drew) HIB.out).mono ?_
      rintro e w3 ⟨rfl, b3, c3⟩
      have HB3 := hidMk b3
      have HC3 := hidMk (show Chg (Of f d) wr w3 from (Chg.refl _ _).drew.trans c3)
      clear b3 c3
      (try go_wp2_with fail)
      refine hK.out _ _ ?_ (fun hHeld => ?_)
      · exact ⟨(HC3.out.cell (p := ⟨ab, ao + k * 4 + 1, none⟩) hab2 HABf.out).trans p1, (HC3.out.cell (p := ⟨ab, ao + k * 4 + 3, none⟩) hab2 HABf.out).trans p3⟩
      clear hK K
      (try simp only [Act.put, List.setIfInBounds_toArray, List.set_cons_zero, List.set_cons_succ])
      refine wpAnyH_done (by kernel_rfl) ?_ _
      replace p1 := (HC3.out.cell (p := ⟨ab, ao + k * 4 + 1, none⟩) hab2 HABf.out).trans p1
      replace p3 := (HC3.out.cell (p := ⟨ab, ao + k * 4 + 3, none⟩) hab2 HABf.out).trans p3
      have HSL3 := hidMk (HSL0.out.kept HB3.out.kp)
      go_wp2_with fail
      refine wp_region_held_drew (S := (fun w9 => w9.cell? ⟨ab, ao + k * 4 + 1, none⟩ = some (.int .i64 xn) ∧ w9.cell? ⟨ab, ao + k * 4 + 3, none⟩ = some (.slice xa xm xc))) (by kernel_rfl) ?_ (fun hHeld => ?_)
      · exact ⟨p1, p3⟩
      refine wpAnyH_take (i := 0) (oi := { dst := some 49, op := _, type := _, pos := _, after := _, guard := _ }) (v := ?_) rfl (by kernel_rfl) (by kernel_rfl) (by kernel_rfl) (fun _ _ _ h => h) (Or.inl ⟨by rfl, ?_⟩) (by assumption) ?_
      rotate_left
      · (intro w9 hSw; (try dsimp only at hSw); (try obtain ⟨hSw1, hSw2⟩ := hSw); go_simp; (try with_reducible rfl))
      (try simp only [Act.put, List.setIfInBounds_toArray, List.set_cons_zero, List.set_cons_succ])
      refine wpAnyH_take (i := 1) (oi := { dst := some 50, op := _, type := _, pos := _, after := _, guard := _ }) (v := ?_) rfl (by kernel_rfl) (by kernel_rfl) (by kernel_rfl) (fun _ _ _ h => h) (Or.inl ⟨by rfl, ?_⟩) (by assumption) ?_
      rotate_left
      · (intro w9 hSw; (try dsimp only at hSw); (try obtain ⟨hSw1, hSw2⟩ := hSw); go_simp; (try with_reducible rfl))
      (try simp only [Act.put, List.setIfInBounds_toArray, List.set_cons_zero, List.set_cons_succ])
      refine wpAnyH_take (i := 2) (oi := { dst := some 51, op := _, type := _, pos := _, after := _, guard := _ }) (v := ?_) rfl (by kernel_rfl) (by kernel_rfl) (by kernel_rfl) (fun _ _ _ h => h) (Or.inl ⟨by rfl, ?_⟩) (by assumption) ?_
      rotate_left
      · (intro w9 hSw; (try dsimp only at hSw); (try obtain ⟨hSw1, hSw2⟩ := hSw); go_simp; (try with_reducible rfl))
      (try simp only [Act.put, List.setIfInBounds_toArray, List.set_cons_zero, List.set_cons_succ])
      refine wpAnyH_take (i := 3) (oi := { dst := some 52, op := _, type := _, pos := _, after := _, guard := _ }) (v := ?_) rfl (by kernel_rfl) (by kernel_rfl) (by kernel_rfl) (fun _ _ _ h => h) (Or.inl ⟨by rfl, ?_⟩) (by assumption) ?_
      rotate_left
      · (intro w9 hSw; (try dsimp only at hSw); (try obtain ⟨hSw1, hSw2⟩ := hSw); go_simp; (try with_reducible rfl))
      (try simp only [Act.put, List.setIfInBounds_toArray, List.set_cons_zero, List.set_cons_succ])
      refine wpAnyH_take (i := 4) (oi := { dst := some 53, op := _, type := _, pos := _, after := _, guard := _ }) (v := ?_) rfl (by kernel_rfl) (by kernel_rfl) (by kernel_rfl) (fun _ _ _ h => h) (Or.inl ⟨by rfl, ?_⟩) (by assumption) ?_
      rotate_left
      · (intro w9 hSw; (try dsimp only at hSw); (try obtain ⟨hSw1, hSw2⟩ := hSw); go_simp; (try with_reducible rfl))
      (try simp only [Act.put, List.setIfInBounds_toArray, List.set_cons_zero, List.set_cons_succ])
      refine wpAnyH_take (i := 5) (oi := { dst := some 54, op := _, type := _, pos := _, after := _, guard := _ }) (v := ?_) rfl (by kernel_rfl) (by kernel_rfl) (by kernel_rfl) (fun _ _ _ h => h) (Or.inl ⟨by rfl, ?_⟩) (by assumption) ?_
      rotate_left
      · (intro w9 hSw; (try dsimp only at hSw); (try obtain ⟨hSw1, hSw2⟩ := hSw); go_simp; (try with_reducible rfl))
      (try simp only [Act.put, List.setIfInBounds_toArray, List.set_cons_zero, List.set_cons_succ])
      refine wpAnyH_take (i := 6) (oi := { dst := some 55, op := _, type := _, pos := _, after := _, guard := _ }) (v := ?_) rfl (by kernel_rfl) (by kernel_rfl) (by kernel_rfl) (fun _ _ _ h => h) (Or.inl ⟨by rfl, ?_⟩) (by assumption) ?_
      rotate_left
      · (intro w9 hSw; (try dsimp only at hSw); (try obtain ⟨hSw1, hSw2⟩ := hSw); go_simp; (try with_reducible rfl))
      (try simp only [Act.put, List.setIfInBounds_toArray, List.set_cons_zero, List.set_cons_succ])
      refine wpAnyH_take (i := 7) (oi := { dst := some 56, op := _, type := _, pos := _, after := _, guard := _ }) (v := ?_) rfl (by kernel_rfl) (by kernel_rfl) (by kernel_rfl) (fun _ _ _ h => h) (Or.inl ⟨by rfl, ?_⟩) (by assumption) ?_
      rotate_left
      · (intro w9 hSw; (try dsimp only at hSw); (try obtain ⟨hSw1, hSw2⟩ := hSw); go_simp; (try with_reducible rfl))
      (try simp only [Act.put, List.setIfInBounds_toArray, List.set_cons_zero, List.set_cons_succ])
      refine wpAnyH_take (i := 8) (oi := { dst := some 57, op := _, type := _, pos := _, after := _, guard := _ }) (v := ?_) rfl (by kernel_rfl) (by kernel_rfl) (by kernel_rfl) (fun _ _ _ h => h) (Or.inl ⟨by rfl, ?_⟩) (by assumption) ?_
      rotate_left
      · (intro w9 hSw; (try dsimp only at hSw); (try obtain ⟨hSw1, hSw2⟩ := hSw); go_simp; (try with_reducible rfl))
      (try simp only [Act.put, List.setIfInBounds_toArray, List.set_cons_zero, List.set_cons_succ])
      refine wpAnyH_take (i := 9) (oi := { dst := some 58, op := _, type := _, pos := _, after := _, guard := _ }) (v := ?_) rfl (by kernel_rfl) (by kernel_rfl) (by kernel_rfl) (fun _ _ _ h => h) (Or.inl ⟨by rfl, ?_⟩) (by assumption) ?_
      rotate_left
      · (intro w9 hSw; (try dsimp only at hSw); (try obtain ⟨hSw1, hSw2⟩ := hSw); go_simp; (try with_reducible rfl))
      (try simp only [Act.put, List.setIfInBounds_toArray, List.set_cons_zero, List.set_cons_succ])
      refine wpAnyH_take (i := 10) (oi := { dst := some 59, op := _, type := _, pos := _, after := _, guard := _ }) (v := ?_) rfl (by kernel_rfl) (by kernel_rfl) (by kernel_rfl) (fun _ _ _ h => h) (Or.inl ⟨by rfl, ?_⟩) (by assumption) ?_
      rotate_left
      · (intro w9 hSw; (try dsimp only at hSw); (try obtain ⟨hSw1, hSw2⟩ := hSw); go_simp; (try with_reducible rfl))
      (try simp only [Act.put, List.setIfInBounds_toArray, List.set_cons_zero, List.set_cons_succ])
      refine wpAnyH_ready (rs := [11]) (by kernel_rfl) (by simp) ?_
      refine AllReadyH.cons (o := { dst := some 60, op := _, type := _, pos := _, after := _, guard := _ }) rfl (fun K hK => ?_) AllReadyH.nil
      go_simp
      refine (bo_WrR (HB3.out.kept (Kept.refl _).drew) (by have := HWR.out; omega) xn xa xm xc xl (HSL3.out.kept (Kept.refl _).drew) HIB.out HAD.out).mono ?_
      rintro e w4 ⟨rfl, u4, y4, b4, c4⟩
      have HB4 := hidMk b4
      have HC4 := hidMk (show Chg (RS r v 4 gs) w3 w4 from (Chg.refl _ _).drew.trans c4)
      clear b4 c4
      (try go_wp2_with fail)
      refine hK.out _ _ ?_ (fun hHeld => ?_)
      · exact ⟨(HC4.out.cell (p := ⟨ab, ao + k * 4 + 1, none⟩) (Nat.lt_of_lt_of_le hab2 HC3.out.size) HABr.out).trans p1, (HC4.out.cell (p := ⟨ab, ao + k * 4 + 3, none⟩) (Nat.lt_of_lt_of_le hab2 HC3.out.size) HABr.out).trans p3⟩
      clear hK K
      (try simp only [Act.put, List.setIfInBounds_toArray, List.set_cons_zero, List.set_cons_succ])
      refine wpAnyH_done (by kernel_rfl) ?_ _
      go_wp2_with fail
      go_roundg (gk - 1)
      case measure => have := HKG.out; omega
      case rel => exact ⟨k + 1, _, u4, y4, by have := HKG.out; omega, by go_num, HB4, hidMk (wrS_wr2 HB.out.ok HWRK.out)⟩
    · have hkk : (N : Int) ≤ (k : Int) ∨ ((k : Int) < (N : Int) ∧ (20 : Int) ≤ (k : Int)) := by omega
      clear hkg
      rcases hkk with h9 | ⟨h8, h9⟩
      · skip
        go_wp2_with fail
        refine (bk_Copy HB.out.fl (by omega)).mono ?_
        rintro e w3 ⟨f2, d2, rfl, hf2, hd2, f3, k3⟩
        have F3 := hidMk f3
        have K3 := hidMk k3
        clear f3 k3
        go_wp2_with fail
        refine (bo_cpR HB.out K3.out F3.out hf2 hd2).mono ?_
        rintro e w4 ⟨v2, gs2, cs2, rfl, b4, k4⟩
        have HBc0 := hidMk b4
        have HBo0 := hidMk (HB.out.kept (K3.out.trans k4))
        have hsz3 := K3.out.size
        have hfl := HB.out.fl.lt
        have hdl := HB.out.fl.dt.lt
        have HRO := hidMk (show ∀ j, RS r v 4 gs j → j < wr.heap.size from fun j e => (HB.out.rge j e).2)
        have HW20 := hidMk (show s.wr ≤ 20 by have h1 := HWRK.out; have h2 := HKG.out; omega)
        obtain ⟨H0, hH0⟩ : ∃ H, H = wr.heap.size := ⟨_, rfl⟩
        obtain ⟨r2, hr2⟩ : ∃ r2, r2 = w3.heap.size := ⟨_, rfl⟩
        rw [← hH0] at HRO hf2 hd2 hfl hdl hsz3
        rw [← hr2] at HBc0 hsz3 ⊢
        clear b4 k4 hH0 hr2 F3 K3 HB HWRK HKG
        go_wp2_with fail
        go_loopg [12] M2 (fun gg iv wr => ∃ (k : Nat) (s2 : Bf) (u2 y2 : Int), k + gg = M2 ∧ iv = .int .i64 (k : Int) ∧ Hid (Bo w wr f d 4 s B r v gs cs s u y) ∧ Hid (Bo w wr f2 d2 4 s2 r2 r2 v2 gs2 cs2 s2 u2 y2) ∧ Hid (s2.wr ≤ (k : Int) + 20))
        case atStart => exact ⟨0, s, _, _, by omega, rfl, HBo0, HBc0, hidMk (by have := HW20.out; simpa using this)⟩
        case round =>
          obtain ⟨k, s2, u2, y2, hkg, rfl, HBo, HBc, HWRK⟩ := hrel
          have HKG := hidMk hkg
          have HWR := hidMk (show s2.wr ≤ 60 ∨ M2 ≤ k by have := HWRK.out; omega)
          by_cases hkM : k < M2
          · replace HWR := hidMk (show s2.wr ≤ 60 by have := HWRK.out; omega)
            have hk1 : (k : Int) < (N2 : Int) := by omega
            have hk2 : (k : Int) < 20 := by omega
            have hk3 : k < N2 := by omega
            have hk0 : (0 : Int) ≤ (k : Int) := by omega
            obtain ⟨ab, ao, rfl, hab, _⟩ := HS2.out.cells (by omega)
            obtain ⟨_, p0, p1, p2, p3⟩ := HS2.out.at HBc.out.kp hk3
            obtain ⟨sl, sb, si1, si2, si3⟩ := HS2.out.sl k hk3
            have hab2 : ab < wr.heap.size := Nat.lt_of_lt_of_le hab HBc.out.kp.size
            have HSL0 := hidMk sl
            have HIB := hidMk sb
            have HAD := hidMk (show ∀ ad, (abA l2 k).2.2.2.1.1 = some ad → 0 < (abA l2 k).2.2.2.1.2.1 → ad.block < w.heap.size from fun ad e hp => by
              obtain ⟨b', o', e', h', _⟩ := sl.cells hp
              rw [e] at e'; cases e'; exact h')
            clear sl sb si1 si2 si3 hkg p0 p2
            have hff := HBc.out.hf
            have hdd := HBc.out.hd
            have HABf := hidMk (show ¬ Of f2 d2 ab from fun e => by rcases e with e | e <;> omega)
            have HABr := hidMk (show ¬ RS r2 v2 4 gs2 ab from fun e => by have h8 := (HBc.out.rge _ e).1; have h9 := HBc.out.hB; omega)
            have HSL := hidMk (HSL0.out.kept HBc.out.kp)
            generalize hA : abA l2 k = A at *
            clear hA
            obtain ⟨xk, xn, xk2, ⟨xa, xm, xc⟩, xl⟩ := A
            dsimp only at *
            go_wp2_with fail
            refine wp_region_held_drew (S := (fun w9 => w9.cell? ⟨ab, ao + k * 4 + 1, none⟩ = some (.int .i64 xn) ∧ w9.cell? ⟨ab, ao + k * 4 + 3, none⟩ = some (.slice xa xm xc))) (by kernel_rfl) ?_ (fun hHeld => ?_)
            · exact ⟨p1, p3⟩
            refine wpAnyH_take (i := 0) (oi := { dst := some 75, op := _, type := _, pos := _, after := _, guard := _ }) (v := ?_) rfl (by kernel_rfl) (by kernel_rfl) (by kernel_rfl) (fun _ _ _ h => h) (Or.inl ⟨by rfl, ?_⟩) (by assumption) ?_
            rotate_left
            · (intro w9 hSw; (try dsimp only at hSw); (try obtain ⟨hSw1, hSw2⟩ := hSw); go_simp; (try with_reducible rfl))
            (try simp only [Act.put, List.setIfInBounds_toArray, List.set_cons_zero, List.set_cons_succ])
            refine wpAnyH_take (i := 1) (oi := { dst := some 76, op := _, type := _, pos := _, after := _, guard := _ }) (v := ?_) rfl (by kernel_rfl) (by kernel_rfl) (by kernel_rfl) (fun _ _ _ h => h) (Or.inl ⟨by rfl, ?_⟩) (by assumption) ?_
            rotate_left
            · (intro w9 hSw; (try dsimp only at hSw); (try obtain ⟨hSw1, hSw2⟩ := hSw); go_simp; (try with_reducible rfl))
            (try simp only [Act.put, List.setIfInBounds_toArray, List.set_cons_zero, List.set_cons_succ])
            refine wpAnyH_take (i := 2) (oi := { dst := some 77, op := _, type := _, pos := _, after := _, guard := _ }) (v := ?_) rfl (by kernel_rfl) (by kernel_rfl) (by kernel_rfl) (fun _ _ _ h => h) (Or.inl ⟨by rfl, ?_⟩) (by assumption) ?_
            rotate_left
            · (intro w9 hSw; (try dsimp only at hSw); (try obtain ⟨hSw1, hSw2⟩ := hSw); go_simp; (try with_reducible rfl))
            (try simp only [Act.put, List.setIfInBounds_toArray, List.set_cons_zero, List.set_cons_succ])
            refine wpAnyH_take (i := 3) (oi := { dst := some 78, op := _, type := _, pos := _, after := _, guard := _ }) (v := ?_) rfl (by kernel_rfl) (by kernel_rfl) (by kernel_rfl) (fun _ _ _ h => h) (Or.inl ⟨by rfl, ?_⟩) (by assumption) ?_
            rotate_left
            · (intro w9 hSw; (try dsimp only at hSw); (try obtain ⟨hSw1, hSw2⟩ := hSw); go_simp; (try with_reducible rfl))
            (try simp only [Act.put, List.setIfInBounds_toArray, List.set_cons_zero, List.set_cons_succ])
            refine wpAnyH_take (i := 4) (oi := { dst := some 79, op := _, type := _, pos := _, after := _, guard := _ }) (v := ?_) rfl (by kernel_rfl) (by kernel_rfl) (by kernel_rfl) (fun _ _ _ h => h) (Or.inl ⟨by rfl, ?_⟩) (by assumption) ?_
            rotate_left
            · (intro w9 hSw; (try dsimp only at hSw); (try obtain ⟨hSw1, hSw2⟩ := hSw); go_simp; (try with_reducible rfl))
            (try simp only [Act.put, List.setIfInBounds_toArray, List.set_cons_zero, List.set_cons_succ])
            refine wpAnyH_take (i := 5) (oi := { dst := some 80, op := _, type := _, pos := _, after := _, guard := _ }) (v := ?_) rfl (by kernel_rfl) (by kernel_rfl) (by kernel_rfl) (fun _ _ _ h => h) (Or.inl ⟨by rfl, ?_⟩) (by assumption) ?_
            rotate_left
            · (intro w9 hSw; (try dsimp only at hSw); (try obtain ⟨hSw1, hSw2⟩ := hSw); go_simp; (try with_reducible rfl))
            (try simp only [Act.put, List.setIfInBounds_toArray, List.set_cons_zero, List.set_cons_succ])
            refine wpAnyH_take (i := 6) (oi := { dst := some 81, op := _, type := _, pos := _, after := _, guard := _ }) (v := ?_) rfl (by kernel_rfl) (by kernel_rfl) (by kernel_rfl) (fun _ _ _ h => h) (Or.inl ⟨by rfl, ?_⟩) (by assumption) ?_
            rotate_left
            · (intro w9 hSw; (try dsimp only at hSw); (try obtain ⟨hSw1, hSw2⟩ := hSw); go_simp; (try with_reducible rfl))
            (try simp only [Act.put, List.setIfInBounds_toArray, List.set_cons_zero, List.set_cons_succ])
            refine wpAnyH_take (i := 7) (oi := { dst := some 82, op := _, type := _, pos := _, after := _, guard := _ }) (v := ?_) rfl (by kernel_rfl) (by kernel_rfl) (by kernel_rfl) (fun _ _ _ h => h) (Or.inl ⟨by rfl, ?_⟩) (by assumption) ?_
            rotate_left
            · (intro w9 hSw; (try dsimp only at hSw); (try obtain ⟨hSw1, hSw2⟩ := hSw); go_simp; (try with_reducible rfl))
            (try simp only [Act.put, List.setIfInBounds_toArray, List.set_cons_zero, List.set_cons_succ])
            refine wpAnyH_take (i := 8) (oi := { dst := some 83, op := _, type := _, pos := _, after := _, guard := _ }) (v := ?_) rfl (by kernel_rfl) (by kernel_rfl) (by kernel_rfl) (fun _ _ _ h => h) (Or.inl ⟨by rfl, ?_⟩) (by assumption) ?_
            rotate_left
            · (intro w9 hSw; (try dsimp only at hSw); (try obtain ⟨hSw1, hSw2⟩ := hSw); go_simp; (try with_reducible rfl))
            (try simp only [Act.put, List.setIfInBounds_toArray, List.set_cons_zero, List.set_cons_succ])
            refine wpAnyH_take (i := 9) (oi := { dst := some 84, op := _, type := _, pos := _, after := _, guard := _ }) (v := ?_) rfl (by kernel_rfl) (by kernel_rfl) (by kernel_rfl) (fun _ _ _ h => h) (Or.inl ⟨by rfl, ?_⟩) (by assumption) ?_
            rotate_left
            · (intro w9 hSw; (try dsimp only at hSw); (try obtain ⟨hSw1, hSw2⟩ := hSw); go_simp; (try with_reducible rfl))
            (try simp only [Act.put, List.setIfInBounds_toArray, List.set_cons_zero, List.set_cons_succ])
            refine wpAnyH_take (i := 10) (oi := { dst := some 85, op := _, type := _, pos := _, after := _, guard := _ }) (v := ?_) rfl (by kernel_rfl) (by kernel_rfl) (by kernel_rfl) (fun _ _ _ h => h) (Or.inl ⟨by rfl, ?_⟩) (by assumption) ?_
            rotate_left
            · (intro w9 hSw; (try dsimp only at hSw); (try obtain ⟨hSw1, hSw2⟩ := hSw); go_simp; (try with_reducible rfl))
            (try simp only [Act.put, List.setIfInBounds_toArray, List.set_cons_zero, List.set_cons_succ])
            refine wpAnyH_ready (rs := [11]) (by kernel_rfl) (by simp) ?_
            refine AllReadyH.cons (o := { dst := some 86, op := _, type := _, pos := _, after := _, guard := _ }) rfl (fun K hK => ?_) AllReadyH.nil
            go_simp
            refine (bo_WrP (HBc.out.kept (Kept.refl _).drew) (by have := HWR.out; omega) xn xa xm xc xl (HSL.out.kept (Kept.refl _).drew) HIB.out).mono ?_
            rintro e w3 ⟨rfl, b3, c3⟩
            have HB3 := hidMk b3
            have HC3 := hidMk (show Chg (Of f2 d2) wr w3 from (Chg.refl _ _).drew.trans c3)
            clear b3 c3
            (try go_wp2_with fail)
            refine hK.out _ _ ?_ (fun hHeld => ?_)
            · exact ⟨(HC3.out.cell (p := ⟨ab, ao + k * 4 + 1, none⟩) hab2 HABf.out).trans p1, (HC3.out.cell (p := ⟨ab, ao + k * 4 + 3, none⟩) hab2 HABf.out).trans p3⟩
            clear hK K
            (try simp only [Act.put, List.setIfInBounds_toArray, List.set_cons_zero, List.set_cons_succ])
            refine wpAnyH_done (by kernel_rfl) ?_ _
            replace p1 := (HC3.out.cell (p := ⟨ab, ao + k * 4 + 1, none⟩) hab2 HABf.out).trans p1
            replace p3 := (HC3.out.cell (p := ⟨ab, ao + k * 4 + 3, none⟩) hab2 HABf.out).trans p3
            have HSL3 := hidMk (HSL0.out.kept HB3.out.kp)
            go_wp2_with fail
            refine wp_region_held_drew (S := (fun w9 => w9.cell? ⟨ab, ao + k * 4 + 1, none⟩ = some (.int .i64 xn) ∧ w9.cell? ⟨ab, ao + k * 4 + 3, none⟩ = some (.slice xa xm xc))) (by kernel_rfl) ?_ (fun hHeld => ?_)
            · exact ⟨p1, p3⟩
            refine wpAnyH_take (i := 0) (oi := { dst := some 87, op := _, type := _, pos := _, after := _, guard := _ }) (v := ?_) rfl (by kernel_rfl) (by kernel_rfl) (by kernel_rfl) (fun _ _ _ h => h) (Or.inl ⟨by rfl, ?_⟩) (by assumption) ?_
            rotate_left
            · (intro w9 hSw; (try dsimp only at hSw); (try obtain ⟨hSw1, hSw2⟩ := hSw); go_simp; (try with_reducible rfl))
            (try simp only [Act.put, List.setIfInBounds_toArray, List.set_cons_zero, List.set_cons_succ])
            refine wpAnyH_take (i := 1) (oi := { dst := some 88, op := _, type := _, pos := _, after := _, guard := _ }) (v := ?_) rfl (by kernel_rfl) (by kernel_rfl) (by kernel_rfl) (fun _ _ _ h => h) (Or.inl ⟨by rfl, ?_⟩) (by assumption) ?_
            rotate_left
            · (intro w9 hSw; (try dsimp only at hSw); (try obtain ⟨hSw1, hSw2⟩ := hSw); go_simp; (try with_reducible rfl))
            (try simp only [Act.put, List.setIfInBounds_toArray, List.set_cons_zero, List.set_cons_succ])
            refine wpAnyH_take (i := 2) (oi := { dst := some 89, op := _, type := _, pos := _, after := _, guard := _ }) (v := ?_) rfl (by kernel_rfl) (by kernel_rfl) (by kernel_rfl) (fun _ _ _ h => h) (Or.inl ⟨by rfl, ?_⟩) (by assumption) ?_
            rotate_left
            · (intro w9 hSw; (try dsimp only at hSw); (try obtain ⟨hSw1, hSw2⟩ := hSw); go_simp; (try with_reducible rfl))
            (try simp only [Act.put, List.setIfInBounds_toArray, List.set_cons_zero, List.set_cons_succ])
            refine wpAnyH_take (i := 3) (oi := { dst := some 90, op := _, type := _, pos := _, after := _, guard := _ }) (v := ?_) rfl (by kernel_rfl) (by kernel_rfl) (by kernel_rfl) (fun _ _ _ h => h) (Or.inl ⟨by rfl, ?_⟩) (by assumption) ?_
            rotate_left
            · (intro w9 hSw; (try dsimp only at hSw); (try obtain ⟨hSw1, hSw2⟩ := hSw); go_simp; (try with_reducible rfl))
            (try simp only [Act.put, List.setIfInBounds_toArray, List.set_cons_zero, List.set_cons_succ])
            refine wpAnyH_take (i := 4) (oi := { dst := some 91, op := _, type := _, pos := _, after := _, guard := _ }) (v := ?_) rfl (by kernel_rfl) (by kernel_rfl) (by kernel_rfl) (fun _ _ _ h => h) (Or.inl ⟨by rfl, ?_⟩) (by assumption) ?_
            rotate_left
            · (intro w9 hSw; (try dsimp only at hSw); (try obtain ⟨hSw1, hSw2⟩ := hSw); go_simp; (try with_reducible rfl))
            (try simp only [Act.put, List.setIfInBounds_toArray, List.set_cons_zero, List.set_cons_succ])
            refine wpAnyH_take (i := 5) (oi := { dst := some 92, op := _, type := _, pos := _, after := _, guard := _ }) (v := ?_) rfl (by kernel_rfl) (by kernel_rfl) (by kernel_rfl) (fun _ _ _ h => h) (Or.inl ⟨by rfl, ?_⟩) (by assumption) ?_
            rotate_left
            · (intro w9 hSw; (try dsimp only at hSw); (try obtain ⟨hSw1, hSw2⟩ := hSw); go_simp; (try with_reducible rfl))
            (try simp only [Act.put, List.setIfInBounds_toArray, List.set_cons_zero, List.set_cons_succ])
            refine wpAnyH_take (i := 6) (oi := { dst := some 93, op := _, type := _, pos := _, after := _, guard := _ }) (v := ?_) rfl (by kernel_rfl) (by kernel_rfl) (by kernel_rfl) (fun _ _ _ h => h) (Or.inl ⟨by rfl, ?_⟩) (by assumption) ?_
            rotate_left
            · (intro w9 hSw; (try dsimp only at hSw); (try obtain ⟨hSw1, hSw2⟩ := hSw); go_simp; (try with_reducible rfl))
            (try simp only [Act.put, List.setIfInBounds_toArray, List.set_cons_zero, List.set_cons_succ])
            refine wpAnyH_take (i := 7) (oi := { dst := some 94, op := _, type := _, pos := _, after := _, guard := _ }) (v := ?_) rfl (by kernel_rfl) (by kernel_rfl) (by kernel_rfl) (fun _ _ _ h => h) (Or.inl ⟨by rfl, ?_⟩) (by assumption) ?_
            rotate_left
            · (intro w9 hSw; (try dsimp only at hSw); (try obtain ⟨hSw1, hSw2⟩ := hSw); go_simp; (try with_reducible rfl))
            (try simp only [Act.put, List.setIfInBounds_toArray, List.set_cons_zero, List.set_cons_succ])
            refine wpAnyH_take (i := 8) (oi := { dst := some 95, op := _, type := _, pos := _, after := _, guard := _ }) (v := ?_) rfl (by kernel_rfl) (by kernel_rfl) (by kernel_rfl) (fun _ _ _ h => h) (Or.inl ⟨by rfl, ?_⟩) (by assumption) ?_
            rotate_left
            · (intro w9 hSw; (try dsimp only at hSw); (try obtain ⟨hSw1, hSw2⟩ := hSw); go_simp; (try with_reducible rfl))
            (try simp only [Act.put, List.setIfInBounds_toArray, List.set_cons_zero, List.set_cons_succ])
            refine wpAnyH_take (i := 9) (oi := { dst := some 96, op := _, type := _, pos := _, after := _, guard := _ }) (v := ?_) rfl (by kernel_rfl) (by kernel_rfl) (by kernel_rfl) (fun _ _ _ h => h) (Or.inl ⟨by rfl, ?_⟩) (by assumption) ?_
            rotate_left
            · (intro w9 hSw; (try dsimp only at hSw); (try obtain ⟨hSw1, hSw2⟩ := hSw); go_simp; (try with_reducible rfl))
            (try simp only [Act.put, List.setIfInBounds_toArray, List.set_cons_zero, List.set_cons_succ])
            refine wpAnyH_take (i := 10) (oi := { dst := some 97, op := _, type := _, pos := _, after := _, guard := _ }) (v := ?_) rfl (by kernel_rfl) (by kernel_rfl) (by kernel_rfl) (fun _ _ _ h => h) (Or.inl ⟨by rfl, ?_⟩) (by assumption) ?_
            rotate_left
            · (intro w9 hSw; (try dsimp only at hSw); (try obtain ⟨hSw1, hSw2⟩ := hSw); go_simp; (try with_reducible rfl))
            (try simp only [Act.put, List.setIfInBounds_toArray, List.set_cons_zero, List.set_cons_succ])
            refine wpAnyH_ready (rs := [11]) (by kernel_rfl) (by simp) ?_
            refine AllReadyH.cons (o := { dst := some 98, op := _, type := _, pos := _, after := _, guard := _ }) rfl (fun K hK => ?_) AllReadyH.nil
            go_simp
            refine (bo_WrR (HB3.out.kept (Kept.refl _).drew) (by have := HWR.out; omega) xn xa xm xc xl (HSL3.out.kept (Kept.refl _).drew) HIB.out HAD.out).mono ?_
            rintro e w4 ⟨rfl, u4, y4, b4, c4⟩
            have HB4 := hidMk b4
            have HC4 := hidMk (show Chg (RS r2 v2 4 gs2) w3 w4 from (Chg.refl _ _).drew.trans c4)
            clear b4 c4
            (try go_wp2_with fail)
            refine hK.out _ _ ?_ (fun hHeld => ?_)
            · exact ⟨(HC4.out.cell (p := ⟨ab, ao + k * 4 + 1, none⟩) (Nat.lt_of_lt_of_le hab2 HC3.out.size) HABr.out).trans p1, (HC4.out.cell (p := ⟨ab, ao + k * 4 + 3, none⟩) (Nat.lt_of_lt_of_le hab2 HC3.out.size) HABr.out).trans p3⟩
            clear hK K
            (try simp only [Act.put, List.setIfInBounds_toArray, List.set_cons_zero, List.set_cons_succ])
            refine wpAnyH_done (by kernel_rfl) ?_ _
            go_wp2_with fail
            go_roundg (gk - 1)
            case measure => have := HKG.out; omega
            case rel => 
              have h8 := HBo.out.chg HC3.out (fun e => by rcases e with e | e <;> omega) (fun e => by rcases e with e | e <;> omega) (fun j e e2 => by have := HRO.out j e; rcases e2 with e2 | e2 <;> omega) (Chg.kept HBo.out.kp HC3.out (fun j e => by rcases e with e | e <;> omega))
              have h9 := h8.chg HC4.out (fun e => by have := (HBc.out.rge _ e).1; omega) (fun e => by have := (HBc.out.rge _ e).1; omega) (fun j e e2 => by have := HRO.out j e; have := (HBc.out.rge _ e2).1; omega) (Chg.kept h8.kp HC4.out (fun j e => by have := (HBc.out.rge _ e).1; have := HBc.out.hB; omega))
              exact ⟨k + 1, _, u4, y4, by have := HKG.out; omega, by go_num, hidMk h9, HB4, hidMk (by have h7 := wrS_wr2 (N := 4) (n := xn) (l := xl) HBc.out.ok HWRK.out; omega)⟩
          · have hkk : (N2 : Int) ≤ (k : Int) ∨ ((k : Int) < (N2 : Int) ∧ (20 : Int) ≤ (k : Int)) := by omega
            obtain ⟨w5, hw5⟩ : ∃ w5, w5 = wr := ⟨_, rfl⟩
            rw [← hw5] at HBo HBc ⊢
            clear hw5 HWRK HWR HKG hkg
            rcases hkk with h9 | ⟨h8, h9⟩
            · skip
              go_wp2_with fail
              go_loopg [13, 14] 4 (fun gg sv iv wr => ∃ k : Nat, k + gg = 4 ∧ iv = .int .i64 (k : Int) ∧ sv = .bool (decide (∀ j, j < k → blk s.F j = blk s2.F j)) ∧ Hid (Kept w5 wr))
              case atStart => exact ⟨0, by omega, rfl, by rw [decide_eq_true (fun j hj => absurd hj (by omega))], hidMk ((Kept.refl _))⟩
              case round =>
                obtain ⟨k, hkg, rfl, rfl, HK⟩ := hrel
                have HKG := hidMk hkg
                obtain ⟨g1, cap1, e1, _, _, hc1⟩ := HBo.out.rf.rb.cell (by omega)
                obtain ⟨g2, cap2, e2, _, _, hc2⟩ := HBc.out.rf.rb.cell (by omega)
                have zr1 := HK.out.cellq HBo.out.rf.c0
                have zr2 := HK.out.cellq HBc.out.rf.c0
                rw [e1] at zr1
                rw [e2] at zr2
                by_cases hk : k < 4
                · have hk' : (k : Int) < 4 := by omega
                  have zg1 := HK.out.cellq (hc1 k hk)
                  have zg2 := HK.out.cellq (hc2 k hk)
                  obtain ⟨hd1, hl1, _⟩ := HBo.out.rf.rb.row k hk
                  obtain ⟨hd2, hl2, _⟩ := HBc.out.rf.rb.row k hk
                  have HX1 := hidMk (show ∀ x ∈ blk s.F k, isB x from fun x hx => HBo.out.fl.isb x (List.mem_of_mem_drop (List.mem_of_mem_take hx)))
                  have HX2 := hidMk (show ∀ x ∈ blk s2.F k, isB x from fun x hx => HBc.out.fl.isb x (List.mem_of_mem_drop (List.mem_of_mem_take hx)))
                  have HT1 := hidMk (show ∀ W, Kept wr W → (convert 32 9 (.slice (some ⟨gs k, 0, none⟩) 32 (cs k))).run Try.prog W = .ok (.string (str (blk s.F k))) W from fun W q => run_string_sl (c := cs k) ((dt_row hd1 hl1).kept (HK.out.trans q)) HX1.out)
                  have HT2 := hidMk (show ∀ W, Kept wr W → (convert 32 9 (.slice (some ⟨gs2 k, 0, none⟩) 32 (cs2 k))).run Try.prog W = .ok (.string (str (blk s2.F k))) W from fun W q => run_string_sl (c := cs2 k) ((dt_row hd2 hl2).kept (HK.out.trans q)) HX2.out)
                  have HNX := hidMk (all_next (fun j => blk s.F j) (fun j => blk s2.F j) k)
                  clear hkg hc1 hc2 hd1 hd2 hl1 hl2
                  by_cases hP : ∀ j, j < k → blk s.F j = blk s2.F j
                  · rw [decide_eq_true hP]
                    have HQ := hidMk (HNX.out.1 hP)
                    clear hP HNX
                    by_cases hE : blk s.F k = blk s2.F k
                    · have HD := hidMk (show decide (∀ j, j < k + 1 → blk s.F j = blk s2.F j) = true by rw [HQ.out]; exact decide_eq_true hE)
                      rw [← hE] at HT2
                      clear hE
                      go_wp2_with fail
                      refine wp_region_held_drew (S := (fun w9 => Kept wr w9)) (by kernel_rfl) ?_ (fun hHeld => ?_)
                      · exact (Kept.refl wr).drew
                      refine wpAnyH_take (i := 0) (oi := { dst := some 108, op := _, type := _, pos := _, after := _, guard := _ }) (v := ?_) rfl (by kernel_rfl) (by kernel_rfl) (by kernel_rfl) (fun _ _ _ h => h) (Or.inl ⟨by rfl, ?_⟩) (by assumption) ?_
                      rotate_left
                      · (intro w9 hSw; go_simp; (try with_reducible rfl))
                      (try simp only [Act.put, List.setIfInBounds_toArray, List.set_cons_zero, List.set_cons_succ])
                      refine wpAnyH_take (i := 1) (oi := { dst := some 109, op := _, type := _, pos := _, after := _, guard := _ }) (v := ?_) rfl (by kernel_rfl) (by kernel_rfl) (by kernel_rfl) (fun _ _ _ h => h) (Or.inl ⟨by rfl, ?_⟩) (by assumption) ?_
                      rotate_left
                      · (intro w9 hSw; go_simp; (try with_reducible rfl))
                      (try simp only [Act.put, List.setIfInBounds_toArray, List.set_cons_zero, List.set_cons_succ])
                      refine wpAnyH_take (i := 2) (oi := { dst := some 110, op := _, type := _, pos := _, after := _, guard := _ }) (v := ?_) rfl (by kernel_rfl) (by kernel_rfl) (by kernel_rfl) (fun _ _ _ h => h) (Or.inl ⟨by rfl, ?_⟩) (by assumption) ?_
                      rotate_left
                      · (intro w9 hSw; go_simp; (try with_reducible rfl))
                      (try simp only [Act.put, List.setIfInBounds_toArray, List.set_cons_zero, List.set_cons_succ])
                      refine wpAnyH_take (i := 3) (oi := { dst := some 111, op := _, type := _, pos := _, after := _, guard := _ }) (v := ?_) rfl (by kernel_rfl) (by kernel_rfl) (by kernel_rfl) (fun _ _ _ h => h) (Or.inl ⟨by rfl, ?_⟩) (by assumption) ?_
                      rotate_left
                      · (intro w9 hSw; go_simp; (try with_reducible rfl))
                      (try simp only [Act.put, List.setIfInBounds_toArray, List.set_cons_zero, List.set_cons_succ])
                      refine wpAnyH_take (i := 4) (oi := { dst := some 112, op := _, type := _, pos := _, after := _, guard := _ }) (v := ?_) rfl (by kernel_rfl) (by kernel_rfl) (by kernel_rfl) (fun _ _ _ h => h) (Or.inl ⟨by rfl, ?_⟩) (by assumption) ?_
                      rotate_left
                      · (intro w9 hSw; go_simp; (try with_reducible rfl))
                      (try simp only [Act.put, List.setIfInBounds_toArray, List.set_cons_zero, List.set_cons_succ])
                      refine wpAnyH_take (i := 5) (oi := { dst := some 113, op := _, type := _, pos := _, after := _, guard := _ }) (v := ?_) rfl (by kernel_rfl) (by kernel_rfl) (by kernel_rfl) (fun _ _ _ h => h) (Or.inl ⟨by rfl, ?_⟩) (by assumption) ?_
                      rotate_left
                      · (intro w9 hSw; have q9 := hSw.cellq zr1; go_simp; (try with_reducible rfl))
                      (try simp only [Act.put, List.setIfInBounds_toArray, List.set_cons_zero, List.set_cons_succ])
                      refine wpAnyH_take (i := 6) (oi := { dst := some 114, op := _, type := _, pos := _, after := _, guard := _ }) (v := ?_) rfl (by kernel_rfl) (by kernel_rfl) (by kernel_rfl) (fun _ _ _ h => h) (Or.inl ⟨by rfl, ?_⟩) (by assumption) ?_
                      rotate_left
                      · (intro w9 hSw; go_simp; (try with_reducible rfl))
                      (try simp only [Act.put, List.setIfInBounds_toArray, List.set_cons_zero, List.set_cons_succ])
                      refine wpAnyH_take (i := 7) (oi := { dst := some 115, op := _, type := _, pos := _, after := _, guard := _ }) (v := ?_) rfl (by kernel_rfl) (by kernel_rfl) (by kernel_rfl) (fun _ _ _ h => h) (Or.inl ⟨by rfl, ?_⟩) (by assumption) ?_
                      rotate_left
                      · (intro w9 hSw; go_simp; (try with_reducible rfl))
                      (try simp only [Act.put, List.setIfInBounds_toArray, List.set_cons_zero, List.set_cons_succ])
                      refine wpAnyH_take (i := 8) (oi := { dst := some 116, op := _, type := _, pos := _, after := _, guard := _ }) (v := ?_) rfl (by kernel_rfl) (by kernel_rfl) (by kernel_rfl) (fun _ _ _ h => h) (Or.inl ⟨by rfl, ?_⟩) (by assumption) ?_
                      rotate_left
                      · (intro w9 hSw; have q9 := hSw.cellq zg1; go_simp; (try with_reducible rfl))
                      (try simp only [Act.put, List.setIfInBounds_toArray, List.set_cons_zero, List.set_cons_succ])
                      refine wpAnyH_take (i := 9) (oi := { dst := some 117, op := _, type := _, pos := _, after := _, guard := _ }) (v := ?_) rfl (by kernel_rfl) (by kernel_rfl) (by kernel_rfl) (fun _ _ _ h => h) (Or.inl ⟨by rfl, ?_⟩) (by assumption) ?_
                      rotate_left
                      · (intro w9 hSw; have q9 := HT1.out w9 hSw; go_simp; (try with_reducible rfl))
                      (try simp only [Act.put, List.setIfInBounds_toArray, List.set_cons_zero, List.set_cons_succ])
                      refine wpAnyH_take (i := 10) (oi := { dst := some 118, op := _, type := _, pos := _, after := _, guard := _ }) (v := ?_) rfl (by kernel_rfl) (by kernel_rfl) (by kernel_rfl) (fun _ _ _ h => h) (Or.inl ⟨by rfl, ?_⟩) (by assumption) ?_
                      rotate_left
                      · (intro w9 hSw; go_simp; (try with_reducible rfl))
                      (try simp only [Act.put, List.setIfInBounds_toArray, List.set_cons_zero, List.set_cons_succ])
                      refine wpAnyH_take (i := 11) (oi := { dst := some 119, op := _, type := _, pos := _, after := _, guard := _ }) (v := ?_) rfl (by kernel_rfl) (by kernel_rfl) (by kernel_rfl) (fun _ _ _ h => h) (Or.inl ⟨by rfl, ?_⟩) (by assumption) ?_
                      rotate_left
                      · (intro w9 hSw; go_simp; (try with_reducible rfl))
                      (try simp only [Act.put, List.setIfInBounds_toArray, List.set_cons_zero, List.set_cons_succ])
                      refine wpAnyH_take (i := 12) (oi := { dst := some 120, op := _, type := _, pos := _, after := _, guard := _ }) (v := ?_) rfl (by kernel_rfl) (by kernel_rfl) (by kernel_rfl) (fun _ _ _ h => h) (Or.inl ⟨by rfl, ?_⟩) (by assumption) ?_
                      rotate_left
                      · (intro w9 hSw; go_simp; (try with_reducible rfl))
                      (try simp only [Act.put, List.setIfInBounds_toArray, List.set_cons_zero, List.set_cons_succ])
                      refine wpAnyH_take (i := 13) (oi := { dst := some 121, op := _, type := _, pos := _, after := _, guard := _ }) (v := ?_) rfl (by kernel_rfl) (by kernel_rfl) (by kernel_rfl) (fun _ _ _ h => h) (Or.inl ⟨by rfl, ?_⟩) (by assumption) ?_
                      rotate_left
                      · (intro w9 hSw; have q9 := hSw.cellq zr2; go_simp; (try with_reducible rfl))
                      (try simp only [Act.put, List.setIfInBounds_toArray, List.set_cons_zero, List.set_cons_succ])
                      refine wpAnyH_take (i := 14) (oi := { dst := some 122, op := _, type := _, pos := _, after := _, guard := _ }) (v := ?_) rfl (by kernel_rfl) (by kernel_rfl) (by kernel_rfl) (fun _ _ _ h => h) (Or.inl ⟨by rfl, ?_⟩) (by assumption) ?_
                      rotate_left
                      · (intro w9 hSw; go_simp; (try with_reducible rfl))
                      (try simp only [Act.put, List.setIfInBounds_toArray, List.set_cons_zero, List.set_cons_succ])
                      refine wpAnyH_take (i := 15) (oi := { dst := some 123, op := _, type := _, pos := _, after := _, guard := _ }) (v := ?_) rfl (by kernel_rfl) (by kernel_rfl) (by kernel_rfl) (fun _ _ _ h => h) (Or.inl ⟨by rfl, ?_⟩) (by assumption) ?_
                      rotate_left
                      · (intro w9 hSw; go_simp; (try with_reducible rfl))
                      (try simp only [Act.put, List.setIfInBounds_toArray, List.set_cons_zero, List.set_cons_succ])
                      refine wpAnyH_take (i := 16) (oi := { dst := some 124, op := _, type := _, pos := _, after := _, guard := _ }) (v := ?_) rfl (by kernel_rfl) (by kernel_rfl) (by kernel_rfl) (fun _ _ _ h => h) (Or.inl ⟨by rfl, ?_⟩) (by assumption) ?_
                      rotate_left
                      · (intro w9 hSw; have q9 := hSw.cellq zg2; go_simp; (try with_reducible rfl))
                      (try simp only [Act.put, List.setIfInBounds_toArray, List.set_cons_zero, List.set_cons_succ])
                      refine wpAnyH_take (i := 17) (oi := { dst := some 125, op := _, type := _, pos := _, after := _, guard := _ }) (v := ?_) rfl (by kernel_rfl) (by kernel_rfl) (by kernel_rfl) (fun _ _ _ h => h) (Or.inl ⟨by rfl, ?_⟩) (by assumption) ?_
                      rotate_left
                      · (intro w9 hSw; have q9 := HT2.out w9 hSw; go_simp; (try with_reducible rfl))
                      (try simp only [Act.put, List.setIfInBounds_toArray, List.set_cons_zero, List.set_cons_succ])
                      refine wpAnyH_take (i := 18) (oi := { dst := some 126, op := _, type := _, pos := _, after := _, guard := _ }) (v := ?_) rfl (by kernel_rfl) (by kernel_rfl) (by kernel_rfl) (fun _ _ _ h => h) (Or.inl ⟨by rfl, ?_⟩) (by assumption) ?_
                      rotate_left
                      · (intro w9 hSw; go_simp; (try with_reducible rfl))
                      (try simp only [Act.put, List.setIfInBounds_toArray, List.set_cons_zero, List.set_cons_succ])
                      refine wpAnyH_take (i := 19) (oi := { dst := some 127, op := _, type := _, pos := _, after := _, guard := _ }) (v := ?_) rfl (by kernel_rfl) (by kernel_rfl) (by kernel_rfl) (fun _ _ _ h => h) (Or.inl ⟨by rfl, ?_⟩) (by assumption) ?_
                      rotate_left
                      · (intro w9 hSw; go_simp; (try with_reducible rfl))
                      (try simp only [Act.put, List.setIfInBounds_toArray, List.set_cons_zero, List.set_cons_succ])
                      refine wpAnyH_take (i := 20) (oi := { dst := some 13, op := _, type := _, pos := _, after := _, guard := _ }) (v := ?_) rfl (by kernel_rfl) (by kernel_rfl) (by kernel_rfl) (fun _ _ _ h => h) (Or.inl ⟨by rfl, ?_⟩) (by assumption) ?_
                      rotate_left
                      · (intro w9 hSw; go_simp; (try with_reducible rfl))
                      (try simp only [Act.put, List.setIfInBounds_toArray, List.set_cons_zero, List.set_cons_succ])
                      refine wpAnyH_done (by kernel_rfl) ?_ _
                      go_wp2_with fail
                      go_roundg (gk - 1)
                      case measure => have := HKG.out; omega
                      case rel => exact ⟨k + 1, by have := HKG.out; omega, by go_num, by rw [HD.out], hidMk (HK.out.trans hHeld)⟩
                    · have HD := hidMk (show decide (∀ j, j < k + 1 → blk s.F j = blk s2.F j) = false by rw [HQ.out]; exact decide_eq_false hE)
                      have hne : str (blk s.F k) ≠ str (blk s2.F k) := fun e => hE (by rw [← byt_str HX1.out, ← byt_str HX2.out, e])
                      have hq1 : ((str (blk s.F k)).toList == (str (blk s2.F k)).toList) = false := by
                        rw [← beq_toListBytes]
                        exact ba_ne hne
                      have hq2 : (str (blk s.F k) == str (blk s2.F k)) = false := ba_ne hne
                      clear hE hne
                      generalize str (blk s.F k) = S1 at *
                      generalize str (blk s2.F k) = S2 at *
                      go_wp2_with fail
                      refine wp_region_held_drew (S := (fun w9 => Kept wr w9)) (by kernel_rfl) ?_ (fun hHeld => ?_)
                      · exact (Kept.refl wr).drew
                      refine wpAnyH_take (i := 0) (oi := { dst := some 108, op := _, type := _, pos := _, after := _, guard := _ }) (v := ?_) rfl (by kernel_rfl) (by kernel_rfl) (by kernel_rfl) (fun _ _ _ h => h) (Or.inl ⟨by rfl, ?_⟩) (by assumption) ?_
                      rotate_left
                      · (intro w9 hSw; go_simp; (try with_reducible rfl))
                      (try simp only [Act.put, List.setIfInBounds_toArray, List.set_cons_zero, List.set_cons_succ])
                      refine wpAnyH_take (i := 1) (oi := { dst := some 109, op := _, type := _, pos := _, after := _, guard := _ }) (v := ?_) rfl (by kernel_rfl) (by kernel_rfl) (by kernel_rfl) (fun _ _ _ h => h) (Or.inl ⟨by rfl, ?_⟩) (by assumption) ?_
                      rotate_left
                      · (intro w9 hSw; go_simp; (try with_reducible rfl))
                      (try simp only [Act.put, List.setIfInBounds_toArray, List.set_cons_zero, List.set_cons_succ])
                      refine wpAnyH_take (i := 2) (oi := { dst := some 110, op := _, type := _, pos := _, after := _, guard := _ }) (v := ?_) rfl (by kernel_rfl) (by kernel_rfl) (by kernel_rfl) (fun _ _ _ h => h) (Or.inl ⟨by rfl, ?_⟩) (by assumption) ?_
                      rotate_left
                      · (intro w9 hSw; go_simp; (try with_reducible rfl))
                      (try simp only [Act.put, List.setIfInBounds_toArray, List.set_cons_zero, List.set_cons_succ])
                      refine wpAnyH_take (i := 3) (oi := { dst := some 111, op := _, type := _, pos := _, after := _, guard := _ }) (v := ?_) rfl (by kernel_rfl) (by kernel_rfl) (by kernel_rfl) (fun _ _ _ h => h) (Or.inl ⟨by rfl, ?_⟩) (by assumption) ?_
                      rotate_left
                      · (intro w9 hSw; go_simp; (try with_reducible rfl))
                      (try simp only [Act.put, List.setIfInBounds_toArray, List.set_cons_zero, List.set_cons_succ])
                      refine wpAnyH_take (i := 4) (oi := { dst := some 112, op := _, type := _, pos := _, after := _, guard := _ }) (v := ?_) rfl (by kernel_rfl) (by kernel_rfl) (by kernel_rfl) (fun _ _ _ h => h) (Or.inl ⟨by rfl, ?_⟩) (by assumption) ?_
                      rotate_left
                      · (intro w9 hSw; go_simp; (try with_reducible rfl))
                      (try simp only [Act.put, List.setIfInBounds_toArray, List.set_cons_zero, List.set_cons_succ])
                      refine wpAnyH_take (i := 5) (oi := { dst := some 113, op := _, type := _, pos := _, after := _, guard := _ }) (v := ?_) rfl (by kernel_rfl) (by kernel_rfl) (by kernel_rfl) (fun _ _ _ h => h) (Or.inl ⟨by rfl, ?_⟩) (by assumption) ?_
                      rotate_left
                      · (intro w9 hSw; have q9 := hSw.cellq zr1; go_simp; (try with_reducible rfl))
                      (try simp only [Act.put, List.setIfInBounds_toArray, List.set_cons_zero, List.set_cons_succ])
                      refine wpAnyH_take (i := 6) (oi := { dst := some 114, op := _, type := _, pos := _, after := _, guard := _ }) (v := ?_) rfl (by kernel_rfl) (by kernel_rfl) (by kernel_rfl) (fun _ _ _ h => h) (Or.inl ⟨by rfl, ?_⟩) (by assumption) ?_
                      rotate_left
                      · (intro w9 hSw; go_simp; (try with_reducible rfl))
                      (try simp only [Act.put, List.setIfInBounds_toArray, List.set_cons_zero, List.set_cons_succ])
                      refine wpAnyH_take (i := 7) (oi := { dst := some 115, op := _, type := _, pos := _, after := _, guard := _ }) (v := ?_) rfl (by kernel_rfl) (by kernel_rfl) (by kernel_rfl) (fun _ _ _ h => h) (Or.inl ⟨by rfl, ?_⟩) (by assumption) ?_
                      rotate_left
                      · (intro w9 hSw; go_simp; (try with_reducible rfl))
                      (try simp only [Act.put, List.setIfInBounds_toArray, List.set_cons_zero, List.set_cons_succ])
                      refine wpAnyH_take (i := 8) (oi := { dst := some 116, op := _, type := _, pos := _, after := _, guard := _ }) (v := ?_) rfl (by kernel_rfl) (by kernel_rfl) (by kernel_rfl) (fun _ _ _ h => h) (Or.inl ⟨by rfl, ?_⟩) (by assumption) ?_
                      rotate_left
                      · (intro w9 hSw; have q9 := hSw.cellq zg1; go_simp; (try with_reducible rfl))
                      (try simp only [Act.put, List.setIfInBounds_toArray, List.set_cons_zero, List.set_cons_succ])
                      refine wpAnyH_take (i := 9) (oi := { dst := some 117, op := _, type := _, pos := _, after := _, guard := _ }) (v := ?_) rfl (by kernel_rfl) (by kernel_rfl) (by kernel_rfl) (fun _ _ _ h => h) (Or.inl ⟨by rfl, ?_⟩) (by assumption) ?_
                      rotate_left
                      · (intro w9 hSw; have q9 := HT1.out w9 hSw; go_simp; (try with_reducible rfl))
                      (try simp only [Act.put, List.setIfInBounds_toArray, List.set_cons_zero, List.set_cons_succ])
                      refine wpAnyH_take (i := 10) (oi := { dst := some 118, op := _, type := _, pos := _, after := _, guard := _ }) (v := ?_) rfl (by kernel_rfl) (by kernel_rfl) (by kernel_rfl) (fun _ _ _ h => h) (Or.inl ⟨by rfl, ?_⟩) (by assumption) ?_
                      rotate_left
                      · (intro w9 hSw; go_simp; (try with_reducible rfl))
                      (try simp only [Act.put, List.setIfInBounds_toArray, List.set_cons_zero, List.set_cons_succ])
                      refine wpAnyH_take (i := 11) (oi := { dst := some 119, op := _, type := _, pos := _, after := _, guard := _ }) (v := ?_) rfl (by kernel_rfl) (by kernel_rfl) (by kernel_rfl) (fun _ _ _ h => h) (Or.inl ⟨by rfl, ?_⟩) (by assumption) ?_
                      rotate_left
                      · (intro w9 hSw; go_simp; (try with_reducible rfl))
                      (try simp only [Act.put, List.setIfInBounds_toArray, List.set_cons_zero, List.set_cons_succ])
                      refine wpAnyH_take (i := 12) (oi := { dst := some 120, op := _, type := _, pos := _, after := _, guard := _ }) (v := ?_) rfl (by kernel_rfl) (by kernel_rfl) (by kernel_rfl) (fun _ _ _ h => h) (Or.inl ⟨by rfl, ?_⟩) (by assumption) ?_
                      rotate_left
                      · (intro w9 hSw; go_simp; (try with_reducible rfl))
                      (try simp only [Act.put, List.setIfInBounds_toArray, List.set_cons_zero, List.set_cons_succ])
                      refine wpAnyH_take (i := 13) (oi := { dst := some 121, op := _, type := _, pos := _, after := _, guard := _ }) (v := ?_) rfl (by kernel_rfl) (by kernel_rfl) (by kernel_rfl) (fun _ _ _ h => h) (Or.inl ⟨by rfl, ?_⟩) (by assumption) ?_
                      rotate_left
                      · (intro w9 hSw; have q9 := hSw.cellq zr2; go_simp; (try with_reducible rfl))
                      (try simp only [Act.put, List.setIfInBounds_toArray, List.set_cons_zero, List.set_cons_succ])
                      refine wpAnyH_take (i := 14) (oi := { dst := some 122, op := _, type := _, pos := _, after := _, guard := _ }) (v := ?_) rfl (by kernel_rfl) (by kernel_rfl) (by kernel_rfl) (fun _ _ _ h => h) (Or.inl ⟨by rfl, ?_⟩) (by assumption) ?_
                      rotate_left
                      · (intro w9 hSw; go_simp; (try with_reducible rfl))
                      (try simp only [Act.put, List.setIfInBounds_toArray, List.set_cons_zero, List.set_cons_succ])
                      refine wpAnyH_take (i := 15) (oi := { dst := some 123, op := _, type := _, pos := _, after := _, guard := _ }) (v := ?_) rfl (by kernel_rfl) (by kernel_rfl) (by kernel_rfl) (fun _ _ _ h => h) (Or.inl ⟨by rfl, ?_⟩) (by assumption) ?_
                      rotate_left
                      · (intro w9 hSw; go_simp; (try with_reducible rfl))
                      (try simp only [Act.put, List.setIfInBounds_toArray, List.set_cons_zero, List.set_cons_succ])
                      refine wpAnyH_take (i := 16) (oi := { dst := some 124, op := _, type := _, pos := _, after := _, guard := _ }) (v := ?_) rfl (by kernel_rfl) (by kernel_rfl) (by kernel_rfl) (fun _ _ _ h => h) (Or.inl ⟨by rfl, ?_⟩) (by assumption) ?_
                      rotate_left
                      · (intro w9 hSw; have q9 := hSw.cellq zg2; go_simp; (try with_reducible rfl))
                      (try simp only [Act.put, List.setIfInBounds_toArray, List.set_cons_zero, List.set_cons_succ])
                      refine wpAnyH_take (i := 17) (oi := { dst := some 125, op := _, type := _, pos := _, after := _, guard := _ }) (v := ?_) rfl (by kernel_rfl) (by kernel_rfl) (by kernel_rfl) (fun _ _ _ h => h) (Or.inl ⟨by rfl, ?_⟩) (by assumption) ?_
                      rotate_left
                      · (intro w9 hSw; have q9 := HT2.out w9 hSw; go_simp; (try with_reducible rfl))
                      (try simp only [Act.put, List.setIfInBounds_toArray, List.set_cons_zero, List.set_cons_succ])
                      refine wpAnyH_take (i := 18) (oi := { dst := some 126, op := _, type := _, pos := _, after := _, guard := _ }) (v := ?_) rfl (by kernel_rfl) (by kernel_rfl) (by kernel_rfl) (fun _ _ _ h => h) (Or.inl ⟨by rfl, ?_⟩) (by assumption) ?_
                      rotate_left
                      · (intro w9 hSw; go_simp; (try with_reducible rfl))
                      (try simp only [Act.put, List.setIfInBounds_toArray, List.set_cons_zero, List.set_cons_succ])
                      refine wpAnyH_take (i := 19) (oi := { dst := some 127, op := _, type := _, pos := _, after := _, guard := _ }) (v := ?_) rfl (by kernel_rfl) (by kernel_rfl) (by kernel_rfl) (fun _ _ _ h => h) (Or.inl ⟨by rfl, ?_⟩) (by assumption) ?_
                      rotate_left
                      · (intro w9 hSw; go_simp; (try with_reducible rfl))
                      (try simp only [Act.put, List.setIfInBounds_toArray, List.set_cons_zero, List.set_cons_succ])
                      refine wpAnyH_take (i := 20) (oi := { dst := some 13, op := _, type := _, pos := _, after := _, guard := _ }) (v := ?_) rfl (by kernel_rfl) (by kernel_rfl) (by kernel_rfl) (fun _ _ _ h => h) (Or.inl ⟨by rfl, ?_⟩) (by assumption) ?_
                      rotate_left
                      · (intro w9 hSw; go_simp; (try with_reducible rfl))
                      (try simp only [Act.put, List.setIfInBounds_toArray, List.set_cons_zero, List.set_cons_succ])
                      refine wpAnyH_done (by kernel_rfl) ?_ _
                      go_wp2_with fail
                      go_roundg (gk - 1)
                      case measure => have := HKG.out; omega
                      case rel => exact ⟨k + 1, by have := HKG.out; omega, by go_num, by rw [HD.out], hidMk (HK.out.trans hHeld)⟩
                  · rw [decide_eq_false hP]
                    have HD := hidMk (show decide (∀ j, j < k + 1 → blk s.F j = blk s2.F j) = false from HNX.out.2 hP)
                    clear hP HNX HT1 HT2
                    go_wp2_with fail
                    go_quiet (fail)
                    go_wp2_with fail
                    go_roundg (gk - 1)
                    case measure => have := HKG.out; omega
                    case rel => exact ⟨k + 1, by have := HKG.out; omega, by go_num, by rw [HD.out], hidMk (HK.out.drewN _)⟩
                · have hk4 : k = 4 := by omega
                  go_wp2_with fail
                  refine (show Calls Try.prog 9 #[.int .i64 3] wr _ from bk_New 3 wr).mono ?_
                  intro e w6 h6
                  rw [if_pos (by omega)] at h6
                  obtain ⟨fo, d_o, rfl, _, _, f6, k6⟩ := h6
                  have FO := hidMk (show Fl w6 fo d_o 3 (news 3) from f6)
                  have K6 := hidMk (HK.out.trans k6)
                  have HBA := hidMk (HBo.out.kept K6.out)
                  have HBB := hidMk (HBc.out.kept K6.out)
                  clear f6 k6
                  have HS1 := hidMk (show ∀ W, Kept w6 W → Calls Try.prog 24 #[.pointer (some ⟨f, 0, none⟩), .pointer (some ⟨f2, 0, none⟩)] W fun e w' => e = .returned (.bool (decide (s.F = s2.F))) ∧ Kept W w' from fun W q => bk_Same (HBA.out.fl.kept q) (HBB.out.fl.kept q))
                  have HS2 := hidMk (show ∀ W, Kept w6 W → Calls Try.prog 24 #[.pointer (some ⟨f2, 0, none⟩), .pointer (some ⟨f, 0, none⟩)] W fun e w' => e = .returned (.bool (decide (s.F = s2.F))) ∧ Kept W w' from fun W q => by rw [show decide (s.F = s2.F) = decide (s2.F = s.F) by rw [decide_eq_decide]; exact ⟨Eq.symm, Eq.symm⟩]; exact bk_Same (HBB.out.fl.kept q) (HBA.out.fl.kept q))
                  have HS3 := hidMk (show ∀ W, Kept w6 W → Calls Try.prog 24 #[.pointer (some ⟨f, 0, none⟩), .pointer (some ⟨f, 0, none⟩)] W fun e w' => e = .returned (.bool true) ∧ Kept W w' from fun W q => by have h9 := bk_Same (HBA.out.fl.kept q) (HBA.out.fl.kept q); rw [decide_eq_true rfl] at h9; exact h9)
                  have HS4 := hidMk (show ∀ W, Kept w6 W → Calls Try.prog 24 #[.pointer (some ⟨f, 0, none⟩), .pointer (some ⟨fo, 0, none⟩)] W fun e w' => e = .returned (.bool false) ∧ Kept W w' from fun W q => by have h9 := bk_Same (HBA.out.fl.kept q) (FO.out.kept q); rw [decide_eq_false (fun e => by have h1 := HBA.out.fl.len; rw [e] at h1; simp [news] at h1)] at h9; exact h9)
                  rw [all_blk hk4 HBA.out.fl.len HBB.out.fl.len]
                  clear HBo HBc HK
                  generalize decide (s.F = s2.F) = E at *
                  cases E with
                  | true =>
                    go_wp2_with fail
                    refine (HS1.out _ (Kept.refl _)).mono ?_
                    rintro e x1 ⟨rfl, j1⟩
                    go_wp2_with fail
                    refine (HS2.out _ j1).mono ?_
                    rintro e x2 ⟨rfl, j2⟩
                    have J2 := hidMk (j1.trans j2)
                    go_wp2_with fail
                    refine (HS3.out _ J2.out).mono ?_
                    rintro e x3 ⟨rfl, j3⟩
                    have J3 := hidMk (J2.out.trans j3)
                    go_wp2_with fail
                    refine (HS4.out _ J3.out).mono ?_
                    rintro e x4 ⟨rfl, j4⟩
                    have J4 := hidMk (J3.out.trans j4)
                    go_wp2_with fail
                    refine (law23_alike (HBA.out.kept J4.out)).mono ?_
                    rintro e x5 ⟨rfl, j5⟩
                    have J5 := hidMk (J4.out.trans j5)
                    go_wp2_with fail
                    refine (law23_alike (HBB.out.kept J5.out)).mono ?_
                    rintro e x6 ⟨rfl, j6⟩
                    have J6 := hidMk (J5.out.trans j6)
                    go_wp2_with (go_at_call 10; refine (law23_known _).mono ?_; rintro e x7 ⟨rfl, j7⟩)
                    go_ret
                    exact ⟨rfl, (HBA.out.kp.trans J6.out).trans j7⟩
                  | false =>
                    go_wp2_with fail
                    refine (HS1.out _ (Kept.refl _)).mono ?_
                    rintro e x1 ⟨rfl, j1⟩
                    go_wp2_with fail
                    refine (HS2.out _ j1).mono ?_
                    rintro e x2 ⟨rfl, j2⟩
                    have J2 := hidMk (j1.trans j2)
                    go_wp2_with fail
                    refine (HS3.out _ J2.out).mono ?_
                    rintro e x3 ⟨rfl, j3⟩
                    have J3 := hidMk (J2.out.trans j3)
                    go_wp2_with fail
                    refine (HS4.out _ J3.out).mono ?_
                    rintro e x4 ⟨rfl, j4⟩
                    have J4 := hidMk (J3.out.trans j4)
                    go_wp2_with fail
                    refine (law23_alike (HBA.out.kept J4.out)).mono ?_
                    rintro e x5 ⟨rfl, j5⟩
                    have J5 := hidMk (J4.out.trans j5)
                    go_wp2_with fail
                    refine (law23_alike (HBB.out.kept J5.out)).mono ?_
                    rintro e x6 ⟨rfl, j6⟩
                    have J6 := hidMk (J5.out.trans j6)
                    go_wp2_with (go_at_call 10; refine (law23_known _).mono ?_; rintro e x7 ⟨rfl, j7⟩)
                    go_ret
                    exact ⟨rfl, (HBA.out.kp.trans J6.out).trans j7⟩
            · skip
              go_wp2_with fail
              go_loopg [13, 14] 4 (fun gg sv iv wr => ∃ k : Nat, k + gg = 4 ∧ iv = .int .i64 (k : Int) ∧ sv = .bool (decide (∀ j, j < k → blk s.F j = blk s2.F j)) ∧ Hid (Kept w5 wr))
              case atStart => exact ⟨0, by omega, rfl, by rw [decide_eq_true (fun j hj => absurd hj (by omega))], hidMk ((Kept.refl _))⟩
              case round =>
                obtain ⟨k, hkg, rfl, rfl, HK⟩ := hrel
                have HKG := hidMk hkg
                obtain ⟨g1, cap1, e1, _, _, hc1⟩ := HBo.out.rf.rb.cell (by omega)
                obtain ⟨g2, cap2, e2, _, _, hc2⟩ := HBc.out.rf.rb.cell (by omega)
                have zr1 := HK.out.cellq HBo.out.rf.c0
                have zr2 := HK.out.cellq HBc.out.rf.c0
                rw [e1] at zr1
                rw [e2] at zr2
                by_cases hk : k < 4
                · have hk' : (k : Int) < 4 := by omega
                  have zg1 := HK.out.cellq (hc1 k hk)
                  have zg2 := HK.out.cellq (hc2 k hk)
                  obtain ⟨hd1, hl1, _⟩ := HBo.out.rf.rb.row k hk
                  obtain ⟨hd2, hl2, _⟩ := HBc.out.rf.rb.row k hk
                  have HX1 := hidMk (show ∀ x ∈ blk s.F k, isB x from fun x hx => HBo.out.fl.isb x (List.mem_of_mem_drop (List.mem_of_mem_take hx)))
                  have HX2 := hidMk (show ∀ x ∈ blk s2.F k, isB x from fun x hx => HBc.out.fl.isb x (List.mem_of_mem_drop (List.mem_of_mem_take hx)))
                  have HT1 := hidMk (show ∀ W, Kept wr W → (convert 32 9 (.slice (some ⟨gs k, 0, none⟩) 32 (cs k))).run Try.prog W = .ok (.string (str (blk s.F k))) W from fun W q => run_string_sl (c := cs k) ((dt_row hd1 hl1).kept (HK.out.trans q)) HX1.out)
                  have HT2 := hidMk (show ∀ W, Kept wr W → (convert 32 9 (.slice (some ⟨gs2 k, 0, none⟩) 32 (cs2 k))).run Try.prog W = .ok (.string (str (blk s2.F k))) W from fun W q => run_string_sl (c := cs2 k) ((dt_row hd2 hl2).kept (HK.out.trans q)) HX2.out)
                  have HNX := hidMk (all_next (fun j => blk s.F j) (fun j => blk s2.F j) k)
                  clear hkg hc1 hc2 hd1 hd2 hl1 hl2
                  by_cases hP : ∀ j, j < k → blk s.F j = blk s2.F j
                  · rw [decide_eq_true hP]
                    have HQ := hidMk (HNX.out.1 hP)
                    clear hP HNX
                    by_cases hE : blk s.F k = blk s2.F k
                    · have HD := hidMk (show decide (∀ j, j < k + 1 → blk s.F j = blk s2.F j) = true by rw [HQ.out]; exact decide_eq_true hE)
                      rw [← hE] at HT2
                      clear hE
                      go_wp2_with fail
                      refine wp_region_held_drew (S := (fun w9 => Kept wr w9)) (by kernel_rfl) ?_ (fun hHeld => ?_)
                      · exact (Kept.refl wr).drew
                      refine wpAnyH_take (i := 0) (oi := { dst := some 108, op := _, type := _, pos := _, after := _, guard := _ }) (v := ?_) rfl (by kernel_rfl) (by kernel_rfl) (by kernel_rfl) (fun _ _ _ h => h) (Or.inl ⟨by rfl, ?_⟩) (by assumption) ?_
                      rotate_left
                      · (intro w9 hSw; go_simp; (try with_reducible rfl))
                      (try simp only [Act.put, List.setIfInBounds_toArray, List.set_cons_zero, List.set_cons_succ])
                      refine wpAnyH_take (i := 1) (oi := { dst := some 109, op := _, type := _, pos := _, after := _, guard := _ }) (v := ?_) rfl (by kernel_rfl) (by kernel_rfl) (by kernel_rfl) (fun _ _ _ h => h) (Or.inl ⟨by rfl, ?_⟩) (by assumption) ?_
                      rotate_left
                      · (intro w9 hSw; go_simp; (try with_reducible rfl))
                      (try simp only [Act.put, List.setIfInBounds_toArray, List.set_cons_zero, List.set_cons_succ])
                      refine wpAnyH_take (i := 2) (oi := { dst := some 110, op := _, type := _, pos := _, after := _, guard := _ }) (v := ?_) rfl (by kernel_rfl) (by kernel_rfl) (by kernel_rfl) (fun _ _ _ h => h) (Or.inl ⟨by rfl, ?_⟩) (by assumption) ?_
                      rotate_left
                      · (intro w9 hSw; go_simp; (try with_reducible rfl))
                      (try simp only [Act.put, List.setIfInBounds_toArray, List.set_cons_zero, List.set_cons_succ])
                      refine wpAnyH_take (i := 3) (oi := { dst := some 111, op := _, type := _, pos := _, after := _, guard := _ }) (v := ?_) rfl (by kernel_rfl) (by kernel_rfl) (by kernel_rfl) (fun _ _ _ h => h) (Or.inl ⟨by rfl, ?_⟩) (by assumption) ?_
                      rotate_left
                      · (intro w9 hSw; go_simp; (try with_reducible rfl))
                      (try simp only [Act.put, List.setIfInBounds_toArray, List.set_cons_zero, List.set_cons_succ])
                      refine wpAnyH_take (i := 4) (oi := { dst := some 112, op := _, type := _, pos := _, after := _, guard := _ }) (v := ?_) rfl (by kernel_rfl) (by kernel_rfl) (by kernel_rfl) (fun _ _ _ h => h) (Or.inl ⟨by rfl, ?_⟩) (by assumption) ?_
                      rotate_left
                      · (intro w9 hSw; go_simp; (try with_reducible rfl))
                      (try simp only [Act.put, List.setIfInBounds_toArray, List.set_cons_zero, List.set_cons_succ])
                      refine wpAnyH_take (i := 5) (oi := { dst := some 113, op := _, type := _, pos := _, after := _, guard := _ }) (v := ?_) rfl (by kernel_rfl) (by kernel_rfl) (by kernel_rfl) (fun _ _ _ h => h) (Or.inl ⟨by rfl, ?_⟩) (by assumption) ?_
                      rotate_left
                      · (intro w9 hSw; have q9 := hSw.cellq zr1; go_simp; (try with_reducible rfl))
                      (try simp only [Act.put, List.setIfInBounds_toArray, List.set_cons_zero, List.set_cons_succ])
                      refine wpAnyH_take (i := 6) (oi := { dst := some 114, op := _, type := _, pos := _, after := _, guard := _ }) (v := ?_) rfl (by kernel_rfl) (by kernel_rfl) (by kernel_rfl) (fun _ _ _ h => h) (Or.inl ⟨by rfl, ?_⟩) (by assumption) ?_
                      rotate_left
                      · (intro w9 hSw; go_simp; (try with_reducible rfl))
                      (try simp only [Act.put, List.setIfInBounds_toArray, List.set_cons_zero, List.set_cons_succ])
                      refine wpAnyH_take (i := 7) (oi := { dst := some 115, op := _, type := _, pos := _, after := _, guard := _ }) (v := ?_) rfl (by kernel_rfl) (by kernel_rfl) (by kernel_rfl) (fun _ _ _ h => h) (Or.inl ⟨by rfl, ?_⟩) (by assumption) ?_
                      rotate_left
                      · (intro w9 hSw; go_simp; (try with_reducible rfl))
                      (try simp only [Act.put, List.setIfInBounds_toArray, List.set_cons_zero, List.set_cons_succ])
                      refine wpAnyH_take (i := 8) (oi := { dst := some 116, op := _, type := _, pos := _, after := _, guard := _ }) (v := ?_) rfl (by kernel_rfl) (by kernel_rfl) (by kernel_rfl) (fun _ _ _ h => h) (Or.inl ⟨by rfl, ?_⟩) (by assumption) ?_
                      rotate_left
                      · (intro w9 hSw; have q9 := hSw.cellq zg1; go_simp; (try with_reducible rfl))
                      (try simp only [Act.put, List.setIfInBounds_toArray, List.set_cons_zero, List.set_cons_succ])
                      refine wpAnyH_take (i := 9) (oi := { dst := some 117, op := _, type := _, pos := _, after := _, guard := _ }) (v := ?_) rfl (by kernel_rfl) (by kernel_rfl) (by kernel_rfl) (fun _ _ _ h => h) (Or.inl ⟨by rfl, ?_⟩) (by assumption) ?_
                      rotate_left
                      · (intro w9 hSw; have q9 := HT1.out w9 hSw; go_simp; (try with_reducible rfl))
                      (try simp only [Act.put, List.setIfInBounds_toArray, List.set_cons_zero, List.set_cons_succ])
                      refine wpAnyH_take (i := 10) (oi := { dst := some 118, op := _, type := _, pos := _, after := _, guard := _ }) (v := ?_) rfl (by kernel_rfl) (by kernel_rfl) (by kernel_rfl) (fun _ _ _ h => h) (Or.inl ⟨by rfl, ?_⟩) (by assumption) ?_
                      rotate_left
                      · (intro w9 hSw; go_simp; (try with_reducible rfl))
                      (try simp only [Act.put, List.setIfInBounds_toArray, List.set_cons_zero, List.set_cons_succ])
                      refine wpAnyH_take (i := 11) (oi := { dst := some 119, op := _, type := _, pos := _, after := _, guard := _ }) (v := ?_) rfl (by kernel_rfl) (by kernel_rfl) (by kernel_rfl) (fun _ _ _ h => h) (Or.inl ⟨by rfl, ?_⟩) (by assumption) ?_
                      rotate_left
                      · (intro w9 hSw; go_simp; (try with_reducible rfl))
                      (try simp only [Act.put, List.setIfInBounds_toArray, List.set_cons_zero, List.set_cons_succ])
                      refine wpAnyH_take (i := 12) (oi := { dst := some 120, op := _, type := _, pos := _, after := _, guard := _ }) (v := ?_) rfl (by kernel_rfl) (by kernel_rfl) (by kernel_rfl) (fun _ _ _ h => h) (Or.inl ⟨by rfl, ?_⟩) (by assumption) ?_
                      rotate_left
                      · (intro w9 hSw; go_simp; (try with_reducible rfl))
                      (try simp only [Act.put, List.setIfInBounds_toArray, List.set_cons_zero, List.set_cons_succ])
                      refine wpAnyH_take (i := 13) (oi := { dst := some 121, op := _, type := _, pos := _, after := _, guard := _ }) (v := ?_) rfl (by kernel_rfl) (by kernel_rfl) (by kernel_rfl) (fun _ _ _ h => h) (Or.inl ⟨by rfl, ?_⟩) (by assumption) ?_
                      rotate_left
                      · (intro w9 hSw; have q9 := hSw.cellq zr2; go_simp; (try with_reducible rfl))
                      (try simp only [Act.put, List.setIfInBounds_toArray, List.set_cons_zero, List.set_cons_succ])
                      refine wpAnyH_take (i := 14) (oi := { dst := some 122, op := _, type := _, pos := _, after := _, guard := _ }) (v := ?_) rfl (by kernel_rfl) (by kernel_rfl) (by kernel_rfl) (fun _ _ _ h => h) (Or.inl ⟨by rfl, ?_⟩) (by assumption) ?_
                      rotate_left
                      · (intro w9 hSw; go_simp; (try with_reducible rfl))
                      (try simp only [Act.put, List.setIfInBounds_toArray, List.set_cons_zero, List.set_cons_succ])
                      refine wpAnyH_take (i := 15) (oi := { dst := some 123, op := _, type := _, pos := _, after := _, guard := _ }) (v := ?_) rfl (by kernel_rfl) (by kernel_rfl) (by kernel_rfl) (fun _ _ _ h => h) (Or.inl ⟨by rfl, ?_⟩) (by assumption) ?_
                      rotate_left
                      · (intro w9 hSw; go_simp; (try with_reducible rfl))
                      (try simp only [Act.put, List.setIfInBounds_toArray, List.set_cons_zero, List.set_cons_succ])
                      refine wpAnyH_take (i := 16) (oi := { dst := some 124, op := _, type := _, pos := _, after := _, guard := _ }) (v := ?_) rfl (by kernel_rfl) (by kernel_rfl) (by kernel_rfl) (fun _ _ _ h => h) (Or.inl ⟨by rfl, ?_⟩) (by assumption) ?_
                      rotate_left
                      · (intro w9 hSw; have q9 := hSw.cellq zg2; go_simp; (try with_reducible rfl))
                      (try simp only [Act.put, List.setIfInBounds_toArray, List.set_cons_zero, List.set_cons_succ])
                      refine wpAnyH_take (i := 17) (oi := { dst := some 125, op := _, type := _, pos := _, after := _, guard := _ }) (v := ?_) rfl (by kernel_rfl) (by kernel_rfl) (by kernel_rfl) (fun _ _ _ h => h) (Or.inl ⟨by rfl, ?_⟩) (by assumption) ?_
                      rotate_left
                      · (intro w9 hSw; have q9 := HT2.out w9 hSw; go_simp; (try with_reducible rfl))
                      (try simp only [Act.put, List.setIfInBounds_toArray, List.set_cons_zero, List.set_cons_succ])
                      refine wpAnyH_take (i := 18) (oi := { dst := some 126, op := _, type := _, pos := _, after := _, guard := _ }) (v := ?_) rfl (by kernel_rfl) (by kernel_rfl) (by kernel_rfl) (fun _ _ _ h => h) (Or.inl ⟨by rfl, ?_⟩) (by assumption) ?_
                      rotate_left
                      · (intro w9 hSw; go_simp; (try with_reducible rfl))
                      (try simp only [Act.put, List.setIfInBounds_toArray, List.set_cons_zero, List.set_cons_succ])
                      refine wpAnyH_take (i := 19) (oi := { dst := some 127, op := _, type := _, pos := _, after := _, guard := _ }) (v := ?_) rfl (by kernel_rfl) (by kernel_rfl) (by kernel_rfl) (fun _ _ _ h => h) (Or.inl ⟨by rfl, ?_⟩) (by assumption) ?_
                      rotate_left
                      · (intro w9 hSw; go_simp; (try with_reducible rfl))
                      (try simp only [Act.put, List.setIfInBounds_toArray, List.set_cons_zero, List.set_cons_succ])
                      refine wpAnyH_take (i := 20) (oi := { dst := some 13, op := _, type := _, pos := _, after := _, guard := _ }) (v := ?_) rfl (by kernel_rfl) (by kernel_rfl) (by kernel_rfl) (fun _ _ _ h => h) (Or.inl ⟨by rfl, ?_⟩) (by assumption) ?_
                      rotate_left
                      · (intro w9 hSw; go_simp; (try with_reducible rfl))
                      (try simp only [Act.put, List.setIfInBounds_toArray, List.set_cons_zero, List.set_cons_succ])
                      refine wpAnyH_done (by kernel_rfl) ?_ _
                      go_wp2_with fail
                      go_roundg (gk - 1)
                      case measure => have := HKG.out; omega
                      case rel => exact ⟨k + 1, by have := HKG.out; omega, by go_num, by rw [HD.out], hidMk (HK.out.trans hHeld)⟩
                    · have HD := hidMk (show decide (∀ j, j < k + 1 → blk s.F j = blk s2.F j) = false by rw [HQ.out]; exact decide_eq_false hE)
                      have hne : str (blk s.F k) ≠ str (blk s2.F k) := fun e => hE (by rw [← byt_str HX1.out, ← byt_str HX2.out, e])
                      have hq1 : ((str (blk s.F k)).toList == (str (blk s2.F k)).toList) = false := by
                        rw [← beq_toListBytes]
                        exact ba_ne hne
                      have hq2 : (str (blk s.F k) == str (blk s2.F k)) = false := ba_ne hne
                      clear hE hne
                      generalize str (blk s.F k) = S1 at *
                      generalize str (blk s2.F k) = S2 at *
                      go_wp2_with fail
                      refine wp_region_held_drew (S := (fun w9 => Kept wr w9)) (by kernel_rfl) ?_ (fun hHeld => ?_)
                      · exact (Kept.refl wr).drew
                      refine wpAnyH_take (i := 0) (oi := { dst := some 108, op := _, type := _, pos := _, after := _, guard := _ }) (v := ?_) rfl (by kernel_rfl) (by kernel_rfl) (by kernel_rfl) (fun _ _ _ h => h) (Or.inl ⟨by rfl, ?_⟩) (by assumption) ?_
                      rotate_left
                      · (intro w9 hSw; go_simp; (try with_reducible rfl))
                      (try simp only [Act.put, List.setIfInBounds_toArray, List.set_cons_zero, List.set_cons_succ])
                      refine wpAnyH_take (i := 1) (oi := { dst := some 109, op := _, type := _, pos := _, after := _, guard := _ }) (v := ?_) rfl (by kernel_rfl) (by kernel_rfl) (by kernel_rfl) (fun _ _ _ h => h) (Or.inl ⟨by rfl, ?_⟩) (by assumption) ?_
                      rotate_left
                      · (intro w9 hSw; go_simp; (try with_reducible rfl))
                      (try simp only [Act.put, List.setIfInBounds_toArray, List.set_cons_zero, List.set_cons_succ])
                      refine wpAnyH_take (i := 2) (oi := { dst := some 110, op := _, type := _, pos := _, after := _, guard := _ }) (v := ?_) rfl (by kernel_rfl) (by kernel_rfl) (by kernel_rfl) (fun _ _ _ h => h) (Or.inl ⟨by rfl, ?_⟩) (by assumption) ?_
                      rotate_left
                      · (intro w9 hSw; go_simp; (try with_reducible rfl))
                      (try simp only [Act.put, List.setIfInBounds_toArray, List.set_cons_zero, List.set_cons_succ])
                      refine wpAnyH_take (i := 3) (oi := { dst := some 111, op := _, type := _, pos := _, after := _, guard := _ }) (v := ?_) rfl (by kernel_rfl) (by kernel_rfl) (by kernel_rfl) (fun _ _ _ h => h) (Or.inl ⟨by rfl, ?_⟩) (by assumption) ?_
                      rotate_left
                      · (intro w9 hSw; go_simp; (try with_reducible rfl))
                      (try simp only [Act.put, List.setIfInBounds_toArray, List.set_cons_zero, List.set_cons_succ])
                      refine wpAnyH_take (i := 4) (oi := { dst := some 112, op := _, type := _, pos := _, after := _, guard := _ }) (v := ?_) rfl (by kernel_rfl) (by kernel_rfl) (by kernel_rfl) (fun _ _ _ h => h) (Or.inl ⟨by rfl, ?_⟩) (by assumption) ?_
                      rotate_left
                      · (intro w9 hSw; go_simp; (try with_reducible rfl))
                      (try simp only [Act.put, List.setIfInBounds_toArray, List.set_cons_zero, List.set_cons_succ])
                      refine wpAnyH_take (i := 5) (oi := { dst := some 113, op := _, type := _, pos := _, after := _, guard := _ }) (v := ?_) rfl (by kernel_rfl) (by kernel_rfl) (by kernel_rfl) (fun _ _ _ h => h) (Or.inl ⟨by rfl, ?_⟩) (by assumption) ?_
                      rotate_left
                      · (intro w9 hSw; have q9 := hSw.cellq zr1; go_simp; (try with_reducible rfl))
                      (try simp only [Act.put, List.setIfInBounds_toArray, List.set_cons_zero, List.set_cons_succ])
                      refine wpAnyH_take (i := 6) (oi := { dst := some 114, op := _, type := _, pos := _, after := _, guard := _ }) (v := ?_) rfl (by kernel_rfl) (by kernel_rfl) (by kernel_rfl) (fun _ _ _ h => h) (Or.inl ⟨by rfl, ?_⟩) (by assumption) ?_
                      rotate_left
                      · (intro w9 hSw; go_simp; (try with_reducible rfl))
                      (try simp only [Act.put, List.setIfInBounds_toArray, List.set_cons_zero, List.set_cons_succ])
                      refine wpAnyH_take (i := 7) (oi := { dst := some 115, op := _, type := _, pos := _, after := _, guard := _ }) (v := ?_) rfl (by kernel_rfl) (by kernel_rfl) (by kernel_rfl) (fun _ _ _ h => h) (Or.inl ⟨by rfl, ?_⟩) (by assumption) ?_
                      rotate_left
                      · (intro w9 hSw; go_simp; (try with_reducible rfl))
                      (try simp only [Act.put, List.setIfInBounds_toArray, List.set_cons_zero, List.set_cons_succ])
                      refine wpAnyH_take (i := 8) (oi := { dst := some 116, op := _, type := _, pos := _, after := _, guard := _ }) (v := ?_) rfl (by kernel_rfl) (by kernel_rfl) (by kernel_rfl) (fun _ _ _ h => h) (Or.inl ⟨by rfl, ?_⟩) (by assumption) ?_
                      rotate_left
                      · (intro w9 hSw; have q9 := hSw.cellq zg1; go_simp; (try with_reducible rfl))
                      (try simp only [Act.put, List.setIfInBounds_toArray, List.set_cons_zero, List.set_cons_succ])
                      refine wpAnyH_take (i := 9) (oi := { dst := some 117, op := _, type := _, pos := _, after := _, guard := _ }) (v := ?_) rfl (by kernel_rfl) (by kernel_rfl) (by kernel_rfl) (fun _ _ _ h => h) (Or.inl ⟨by rfl, ?_⟩) (by assumption) ?_
                      rotate_left
                      · (intro w9 hSw; have q9 := HT1.out w9 hSw; go_simp; (try with_reducible rfl))
                      (try simp only [Act.put, List.setIfInBounds_toArray, List.set_cons_zero, List.set_cons_succ])
                      refine wpAnyH_take (i := 10) (oi := { dst := some 118, op := _, type := _, pos := _, after := _, guard := _ }) (v := ?_) rfl (by kernel_rfl) (by kernel_rfl) (by kernel_rfl) (fun _ _ _ h => h) (Or.inl ⟨by rfl, ?_⟩) (by assumption) ?_
                      rotate_left
                      · (intro w9 hSw; go_simp; (try with_reducible rfl))
                      (try simp only [Act.put, List.setIfInBounds_toArray, List.set_cons_zero, List.set_cons_succ])
                      refine wpAnyH_take (i := 11) (oi := { dst := some 119, op := _, type := _, pos := _, after := _, guard := _ }) (v := ?_) rfl (by kernel_rfl) (by kernel_rfl) (by kernel_rfl) (fun _ _ _ h => h) (Or.inl ⟨by rfl, ?_⟩) (by assumption) ?_
                      rotate_left
                      · (intro w9 hSw; go_simp; (try with_reducible rfl))
                      (try simp only [Act.put, List.setIfInBounds_toArray, List.set_cons_zero, List.set_cons_succ])
                      refine wpAnyH_take (i := 12) (oi := { dst := some 120, op := _, type := _, pos := _, after := _, guard := _ }) (v := ?_) rfl (by kernel_rfl) (by kernel_rfl) (by kernel_rfl) (fun _ _ _ h => h) (Or.inl ⟨by rfl, ?_⟩) (by assumption) ?_
                      rotate_left
                      · (intro w9 hSw; go_simp; (try with_reducible rfl))
                      (try simp only [Act.put, List.setIfInBounds_toArray, List.set_cons_zero, List.set_cons_succ])
                      refine wpAnyH_take (i := 13) (oi := { dst := some 121, op := _, type := _, pos := _, after := _, guard := _ }) (v := ?_) rfl (by kernel_rfl) (by kernel_rfl) (by kernel_rfl) (fun _ _ _ h => h) (Or.inl ⟨by rfl, ?_⟩) (by assumption) ?_
                      rotate_left
                      · (intro w9 hSw; have q9 := hSw.cellq zr2; go_simp; (try with_reducible rfl))
                      (try simp only [Act.put, List.setIfInBounds_toArray, List.set_cons_zero, List.set_cons_succ])
                      refine wpAnyH_take (i := 14) (oi := { dst := some 122, op := _, type := _, pos := _, after := _, guard := _ }) (v := ?_) rfl (by kernel_rfl) (by kernel_rfl) (by kernel_rfl) (fun _ _ _ h => h) (Or.inl ⟨by rfl, ?_⟩) (by assumption) ?_
                      rotate_left
                      · (intro w9 hSw; go_simp; (try with_reducible rfl))
                      (try simp only [Act.put, List.setIfInBounds_toArray, List.set_cons_zero, List.set_cons_succ])
                      refine wpAnyH_take (i := 15) (oi := { dst := some 123, op := _, type := _, pos := _, after := _, guard := _ }) (v := ?_) rfl (by kernel_rfl) (by kernel_rfl) (by kernel_rfl) (fun _ _ _ h => h) (Or.inl ⟨by rfl, ?_⟩) (by assumption) ?_
                      rotate_left
                      · (intro w9 hSw; go_simp; (try with_reducible rfl))
                      (try simp only [Act.put, List.setIfInBounds_toArray, List.set_cons_zero, List.set_cons_succ])
                      refine wpAnyH_take (i := 16) (oi := { dst := some 124, op := _, type := _, pos := _, after := _, guard := _ }) (v := ?_) rfl (by kernel_rfl) (by kernel_rfl) (by kernel_rfl) (fun _ _ _ h => h) (Or.inl ⟨by rfl, ?_⟩) (by assumption) ?_
                      rotate_left
                      · (intro w9 hSw; have q9 := hSw.cellq zg2; go_simp; (try with_reducible rfl))
                      (try simp only [Act.put, List.setIfInBounds_toArray, List.set_cons_zero, List.set_cons_succ])
                      refine wpAnyH_take (i := 17) (oi := { dst := some 125, op := _, type := _, pos := _, after := _, guard := _ }) (v := ?_) rfl (by kernel_rfl) (by kernel_rfl) (by kernel_rfl) (fun _ _ _ h => h) (Or.inl ⟨by rfl, ?_⟩) (by assumption) ?_
                      rotate_left
                      · (intro w9 hSw; have q9 := HT2.out w9 hSw; go_simp; (try with_reducible rfl))
                      (try simp only [Act.put, List.setIfInBounds_toArray, List.set_cons_zero, List.set_cons_succ])
                      refine wpAnyH_take (i := 18) (oi := { dst := some 126, op := _, type := _, pos := _, after := _, guard := _ }) (v := ?_) rfl (by kernel_rfl) (by kernel_rfl) (by kernel_rfl) (fun _ _ _ h => h) (Or.inl ⟨by rfl, ?_⟩) (by assumption) ?_
                      rotate_left
                      · (intro w9 hSw; go_simp; (try with_reducible rfl))
                      (try simp only [Act.put, List.setIfInBounds_toArray, List.set_cons_zero, List.set_cons_succ])
                      refine wpAnyH_take (i := 19) (oi := { dst := some 127, op := _, type := _, pos := _, after := _, guard := _ }) (v := ?_) rfl (by kernel_rfl) (by kernel_rfl) (by kernel_rfl) (fun _ _ _ h => h) (Or.inl ⟨by rfl, ?_⟩) (by assumption) ?_
                      rotate_left
                      · (intro w9 hSw; go_simp; (try with_reducible rfl))
                      (try simp only [Act.put, List.setIfInBounds_toArray, List.set_cons_zero, List.set_cons_succ])
                      refine wpAnyH_take (i := 20) (oi := { dst := some 13, op := _, type := _, pos := _, after := _, guard := _ }) (v := ?_) rfl (by kernel_rfl) (by kernel_rfl) (by kernel_rfl) (fun _ _ _ h => h) (Or.inl ⟨by rfl, ?_⟩) (by assumption) ?_
                      rotate_left
                      · (intro w9 hSw; go_simp; (try with_reducible rfl))
                      (try simp only [Act.put, List.setIfInBounds_toArray, List.set_cons_zero, List.set_cons_succ])
                      refine wpAnyH_done (by kernel_rfl) ?_ _
                      go_wp2_with fail
                      go_roundg (gk - 1)
                      case measure => have := HKG.out; omega
                      case rel => exact ⟨k + 1, by have := HKG.out; omega, by go_num, by rw [HD.out], hidMk (HK.out.trans hHeld)⟩
                  · rw [decide_eq_false hP]
                    have HD := hidMk (show decide (∀ j, j < k + 1 → blk s.F j = blk s2.F j) = false from HNX.out.2 hP)
                    clear hP HNX HT1 HT2
                    go_wp2_with fail
                    go_quiet (fail)
                    go_wp2_with fail
                    go_roundg (gk - 1)
                    case measure => have := HKG.out; omega
                    case rel => exact ⟨k + 1, by have := HKG.out; omega, by go_num, by rw [HD.out], hidMk (HK.out.drewN _)⟩
                · have hk4 : k = 4 := by omega
                  go_wp2_with fail
                  refine (show Calls Try.prog 9 #[.int .i64 3] wr _ from bk_New 3 wr).mono ?_
                  intro e w6 h6
                  rw [if_pos (by omega)] at h6
                  obtain ⟨fo, d_o, rfl, _, _, f6, k6⟩ := h6
                  have FO := hidMk (show Fl w6 fo d_o 3 (news 3) from f6)
                  have K6 := hidMk (HK.out.trans k6)
                  have HBA := hidMk (HBo.out.kept K6.out)
                  have HBB := hidMk (HBc.out.kept K6.out)
                  clear f6 k6
                  have HS1 := hidMk (show ∀ W, Kept w6 W → Calls Try.prog 24 #[.pointer (some ⟨f, 0, none⟩), .pointer (some ⟨f2, 0, none⟩)] W fun e w' => e = .returned (.bool (decide (s.F = s2.F))) ∧ Kept W w' from fun W q => bk_Same (HBA.out.fl.kept q) (HBB.out.fl.kept q))
                  have HS2 := hidMk (show ∀ W, Kept w6 W → Calls Try.prog 24 #[.pointer (some ⟨f2, 0, none⟩), .pointer (some ⟨f, 0, none⟩)] W fun e w' => e = .returned (.bool (decide (s.F = s2.F))) ∧ Kept W w' from fun W q => by rw [show decide (s.F = s2.F) = decide (s2.F = s.F) by rw [decide_eq_decide]; exact ⟨Eq.symm, Eq.symm⟩]; exact bk_Same (HBB.out.fl.kept q) (HBA.out.fl.kept q))
                  have HS3 := hidMk (show ∀ W, Kept w6 W → Calls Try.prog 24 #[.pointer (some ⟨f, 0, none⟩), .pointer (some ⟨f, 0, none⟩)] W fun e w' => e = .returned (.bool true) ∧ Kept W w' from fun W q => by have h9 := bk_Same (HBA.out.fl.kept q) (HBA.out.fl.kept q); rw [decide_eq_true rfl] at h9; exact h9)
                  have HS4 := hidMk (show ∀ W, Kept w6 W → Calls Try.prog 24 #[.pointer (some ⟨f, 0, none⟩), .pointer (some ⟨fo, 0, none⟩)] W fun e w' => e = .returned (.bool false) ∧ Kept W w' from fun W q => by have h9 := bk_Same (HBA.out.fl.kept q) (FO.out.kept q); rw [decide_eq_false (fun e => by have h1 := HBA.out.fl.len; rw [e] at h1; simp [news] at h1)] at h9; exact h9)
                  rw [all_blk hk4 HBA.out.fl.len HBB.out.fl.len]
                  clear HBo HBc HK
                  generalize decide (s.F = s2.F) = E at *
                  cases E with
                  | true =>
                    go_wp2_with fail
                    refine (HS1.out _ (Kept.refl _)).mono ?_
                    rintro e x1 ⟨rfl, j1⟩
                    go_wp2_with fail
                    refine (HS2.out _ j1).mono ?_
                    rintro e x2 ⟨rfl, j2⟩
                    have J2 := hidMk (j1.trans j2)
                    go_wp2_with fail
                    refine (HS3.out _ J2.out).mono ?_
                    rintro e x3 ⟨rfl, j3⟩
                    have J3 := hidMk (J2.out.trans j3)
                    go_wp2_with fail
                    refine (HS4.out _ J3.out).mono ?_
                    rintro e x4 ⟨rfl, j4⟩
                    have J4 := hidMk (J3.out.trans j4)
                    go_wp2_with fail
                    refine (law23_alike (HBA.out.kept J4.out)).mono ?_
                    rintro e x5 ⟨rfl, j5⟩
                    have J5 := hidMk (J4.out.trans j5)
                    go_wp2_with fail
                    refine (law23_alike (HBB.out.kept J5.out)).mono ?_
                    rintro e x6 ⟨rfl, j6⟩
                    have J6 := hidMk (J5.out.trans j6)
                    go_wp2_with (go_at_call 10; refine (law23_known _).mono ?_; rintro e x7 ⟨rfl, j7⟩)
                    go_ret
                    exact ⟨rfl, (HBA.out.kp.trans J6.out).trans j7⟩
                  | false =>
                    go_wp2_with fail
                    refine (HS1.out _ (Kept.refl _)).mono ?_
                    rintro e x1 ⟨rfl, j1⟩
                    go_wp2_with fail
                    refine (HS2.out _ j1).mono ?_
                    rintro e x2 ⟨rfl, j2⟩
                    have J2 := hidMk (j1.trans j2)
                    go_wp2_with fail
                    refine (HS3.out _ J2.out).mono ?_
                    rintro e x3 ⟨rfl, j3⟩
                    have J3 := hidMk (J2.out.trans j3)
                    go_wp2_with fail
                    refine (HS4.out _ J3.out).mono ?_
                    rintro e x4 ⟨rfl, j4⟩
                    have J4 := hidMk (J3.out.trans j4)
                    go_wp2_with fail
                    refine (law23_alike (HBA.out.kept J4.out)).mono ?_
                    rintro e x5 ⟨rfl, j5⟩
                    have J5 := hidMk (J4.out.trans j5)
                    go_wp2_with fail
                    refine (law23_alike (HBB.out.kept J5.out)).mono ?_
                    rintro e x6 ⟨rfl, j6⟩
                    have J6 := hidMk (J5.out.trans j6)
                    go_wp2_with (go_at_call 10; refine (law23_known _).mono ?_; rintro e x7 ⟨rfl, j7⟩)
                    go_ret
                    exact ⟨rfl, (HBA.out.kp.trans J6.out).trans j7⟩
      · skip
        go_wp2_with fail
        refine (bk_Copy HB.out.fl (by omega)).mono ?_
        rintro e w3 ⟨f2, d2, rfl, hf2, hd2, f3, k3⟩
        have F3 := hidMk f3
        have K3 := hidMk k3
        clear f3 k3
        go_wp2_with fail
        refine (bo_cpR HB.out K3.out F3.out hf2 hd2).mono ?_
        rintro e w4 ⟨v2, gs2, cs2, rfl, b4, k4⟩
        have HBc0 := hidMk b4
        have HBo0 := hidMk (HB.out.kept (K3.out.trans k4))
        have hsz3 := K3.out.size
        have hfl := HB.out.fl.lt
        have hdl := HB.out.fl.dt.lt
        have HRO := hidMk (show ∀ j, RS r v 4 gs j → j < wr.heap.size from fun j e => (HB.out.rge j e).2)
        have HW20 := hidMk (show s.wr ≤ 20 by have h1 := HWRK.out; have h2 := HKG.out; omega)
        obtain ⟨H0, hH0⟩ : ∃ H, H = wr.heap.size := ⟨_, rfl⟩
        obtain ⟨r2, hr2⟩ : ∃ r2, r2 = w3.heap.size := ⟨_, rfl⟩
        rw [← hH0] at HRO hf2 hd2 hfl hdl hsz3
        rw [← hr2] at HBc0 hsz3 ⊢
        clear b4 k4 hH0 hr2 F3 K3 HB HWRK HKG
        go_wp2_with fail
        go_loopg [12] M2 (fun gg iv wr => ∃ (k : Nat) (s2 : Bf) (u2 y2 : Int), k + gg = M2 ∧ iv = .int .i64 (k : Int) ∧ Hid (Bo w wr f d 4 s B r v gs cs s u y) ∧ Hid (Bo w wr f2 d2 4 s2 r2 r2 v2 gs2 cs2 s2 u2 y2) ∧ Hid (s2.wr ≤ (k : Int) + 20))
        case atStart => exact ⟨0, s, _, _, by omega, rfl, HBo0, HBc0, hidMk (by have := HW20.out; simpa using this)⟩
        case round =>
          obtain ⟨k, s2, u2, y2, hkg, rfl, HBo, HBc, HWRK⟩ := hrel
          have HKG := hidMk hkg
          have HWR := hidMk (show s2.wr ≤ 60 ∨ M2 ≤ k by have := HWRK.out; omega)
          by_cases hkM : k < M2
          · replace HWR := hidMk (show s2.wr ≤ 60 by have := HWRK.out; omega)
            have hk1 : (k : Int) < (N2 : Int) := by omega
            have hk2 : (k : Int) < 20 := by omega
            have hk3 : k < N2 := by omega
            have hk0 : (0 : Int) ≤ (k : Int) := by omega
            obtain ⟨ab, ao, rfl, hab, _⟩ := HS2.out.cells (by omega)
            obtain ⟨_, p0, p1, p2, p3⟩ := HS2.out.at HBc.out.kp hk3
            obtain ⟨sl, sb, si1, si2, si3⟩ := HS2.out.sl k hk3
            have hab2 : ab < wr.heap.size := Nat.lt_of_lt_of_le hab HBc.out.kp.size
            have HSL0 := hidMk sl
            have HIB := hidMk sb
            have HAD := hidMk (show ∀ ad, (abA l2 k).2.2.2.1.1 = some ad → 0 < (abA l2 k).2.2.2.1.2.1 → ad.block < w.heap.size from fun ad e hp => by
              obtain ⟨b', o', e', h', _⟩ := sl.cells hp
              rw [e] at e'; cases e'; exact h')
            clear sl sb si1 si2 si3 hkg p0 p2
            have hff := HBc.out.hf
            have hdd := HBc.out.hd
            have HABf := hidMk (show ¬ Of f2 d2 ab from fun e => by rcases e with e | e <;> omega)
            have HABr := hidMk (show ¬ RS r2 v2 4 gs2 ab from fun e => by have h8 := (HBc.out.rge _ e).1; have h9 := HBc.out.hB; omega)
            have HSL := hidMk (HSL0.out.kept HBc.out.kp)
            generalize hA : abA l2 k = A at *
            clear hA
            obtain ⟨xk, xn, xk2, ⟨xa, xm, xc⟩, xl⟩ := A
            dsimp only at *
            go_wp2_with fail
            refine wp_region_held_drew (S := (fun w9 => w9.cell? ⟨ab, ao + k * 4 + 1, none⟩ = some (.int .i64 xn) ∧ w9.cell? ⟨ab, ao + k * 4 + 3, none⟩ = some (.slice xa xm xc))) (by kernel_rfl) ?_ (fun hHeld => ?_)
            · exact ⟨p1, p3⟩
            refine wpAnyH_take (i := 0) (oi := { dst := some 75, op := _, type := _, pos := _, after := _, guard := _ }) (v := ?_) rfl (by kernel_rfl) (by kernel_rfl) (by kernel_rfl) (fun _ _ _ h => h) (Or.inl ⟨by rfl, ?_⟩) (by assumption) ?_
            rotate_left
            · (intro w9 hSw; (try dsimp only at hSw); (try obtain ⟨hSw1, hSw2⟩ := hSw); go_simp; (try with_reducible rfl))
            (try simp only [Act.put, List.setIfInBounds_toArray, List.set_cons_zero, List.set_cons_succ])
            refine wpAnyH_take (i := 1) (oi := { dst := some 76, op := _, type := _, pos := _, after := _, guard := _ }) (v := ?_) rfl (by kernel_rfl) (by kernel_rfl) (by kernel_rfl) (fun _ _ _ h => h) (Or.inl ⟨by rfl, ?_⟩) (by assumption) ?_
            rotate_left
            · (intro w9 hSw; (try dsimp only at hSw); (try obtain ⟨hSw1, hSw2⟩ := hSw); go_simp; (try with_reducible rfl))
            (try simp only [Act.put, List.setIfInBounds_toArray, List.set_cons_zero, List.set_cons_succ])
            refine wpAnyH_take (i := 2) (oi := { dst := some 77, op := _, type := _, pos := _, after := _, guard := _ }) (v := ?_) rfl (by kernel_rfl) (by kernel_rfl) (by kernel_rfl) (fun _ _ _ h => h) (Or.inl ⟨by rfl, ?_⟩) (by assumption) ?_
            rotate_left
            · (intro w9 hSw; (try dsimp only at hSw); (try obtain ⟨hSw1, hSw2⟩ := hSw); go_simp; (try with_reducible rfl))
            (try simp only [Act.put, List.setIfInBounds_toArray, List.set_cons_zero, List.set_cons_succ])
            refine wpAnyH_take (i := 3) (oi := { dst := some 78, op := _, type := _, pos := _, after := _, guard := _ }) (v := ?_) rfl (by kernel_rfl) (by kernel_rfl) (by kernel_rfl) (fun _ _ _ h => h) (Or.inl ⟨by rfl, ?_⟩) (by assumption) ?_
            rotate_left
            · (intro w9 hSw; (try dsimp only at hSw); (try obtain ⟨hSw1, hSw2⟩ := hSw); go_simp; (try with_reducible rfl))
            (try simp only [Act.put, List.setIfInBounds_toArray, List.set_cons_zero, List.set_cons_succ])
            refine wpAnyH_take (i := 4) (oi := { dst := some 79, op := _, type := _, pos := _, after := _, guard := _ }) (v := ?_) rfl (by kernel_rfl) (by kernel_rfl) (by kernel_rfl) (fun _ _ _ h => h) (Or.inl ⟨by rfl, ?_⟩) (by assumption) ?_
            rotate_left
            · (intro w9 hSw; (try dsimp only at hSw); (try obtain ⟨hSw1, hSw2⟩ := hSw); go_simp; (try with_reducible rfl))
            (try simp only [Act.put, List.setIfInBounds_toArray, List.set_cons_zero, List.set_cons_succ])
            refine wpAnyH_take (i := 5) (oi := { dst := some 80, op := _, type := _, pos := _, after := _, guard := _ }) (v := ?_) rfl (by kernel_rfl) (by kernel_rfl) (by kernel_rfl) (fun _ _ _ h => h) (Or.inl ⟨by rfl, ?_⟩) (by assumption) ?_
            rotate_left
            · (intro w9 hSw; (try dsimp only at hSw); (try obtain ⟨hSw1, hSw2⟩ := hSw); go_simp; (try with_reducible rfl))
            (try simp only [Act.put, List.setIfInBounds_toArray, List.set_cons_zero, List.set_cons_succ])
            refine wpAnyH_take (i := 6) (oi := { dst := some 81, op := _, type := _, pos := _, after := _, guard := _ }) (v := ?_) rfl (by kernel_rfl) (by kernel_rfl) (by kernel_rfl) (fun _ _ _ h => h) (Or.inl ⟨by rfl, ?_⟩) (by assumption) ?_
            rotate_left
            · (intro w9 hSw; (try dsimp only at hSw); (try obtain ⟨hSw1, hSw2⟩ := hSw); go_simp; (try with_reducible rfl))
            (try simp only [Act.put, List.setIfInBounds_toArray, List.set_cons_zero, List.set_cons_succ])
            refine wpAnyH_take (i := 7) (oi := { dst := some 82, op := _, type := _, pos := _, after := _, guard := _ }) (v := ?_) rfl (by kernel_rfl) (by kernel_rfl) (by kernel_rfl) (fun _ _ _ h => h) (Or.inl ⟨by rfl, ?_⟩) (by assumption) ?_
            rotate_left
            · (intro w9 hSw; (try dsimp only at hSw); (try obtain ⟨hSw1, hSw2⟩ := hSw); go_simp; (try with_reducible rfl))
            (try simp only [Act.put, List.setIfInBounds_toArray, List.set_cons_zero, List.set_cons_succ])
            refine wpAnyH_take (i := 8) (oi := { dst := some 83, op := _, type := _, pos := _, after := _, guard := _ }) (v := ?_) rfl (by kernel_rfl) (by kernel_rfl) (by kernel_rfl) (fun _ _ _ h => h) (Or.inl ⟨by rfl, ?_⟩) (by assumption) ?_
            rotate_left
            · (intro w9 hSw; (try dsimp only at hSw); (try obtain ⟨hSw1, hSw2⟩ := hSw); go_simp; (try with_reducible rfl))
            (try simp only [Act.put, List.setIfInBounds_toArray, List.set_cons_zero, List.set_cons_succ])
            refine wpAnyH_take (i := 9) (oi := { dst := some 84, op := _, type := _, pos := _, after := _, guard := _ }) (v := ?_) rfl (by kernel_rfl) (by kernel_rfl) (by kernel_rfl) (fun _ _ _ h => h) (Or.inl ⟨by rfl, ?_⟩) (by assumption) ?_
            rotate_left
            · (intro w9 hSw; (try dsimp only at hSw); (try obtain ⟨hSw1, hSw2⟩ := hSw); go_simp; (try with_reducible rfl))
            (try simp only [Act.put, List.setIfInBounds_toArray, List.set_cons_zero, List.set_cons_succ])
            refine wpAnyH_take (i := 10) (oi := { dst := some 85, op := _, type := _, pos := _, after := _, guard := _ }) (v := ?_) rfl (by kernel_rfl) (by kernel_rfl) (by kernel_rfl) (fun _ _ _ h => h) (Or.inl ⟨by rfl, ?_⟩) (by assumption) ?_
            rotate_left
            · (intro w9 hSw; (try dsimp only at hSw); (try obtain ⟨hSw1, hSw2⟩ := hSw); go_simp; (try with_reducible rfl))
            (try simp only [Act.put, List.setIfInBounds_toArray, List.set_cons_zero, List.set_cons_succ])
            refine wpAnyH_ready (rs := [11]) (by kernel_rfl) (by simp) ?_
            refine AllReadyH.cons (o := { dst := some 86, op := _, type := _, pos := _, after := _, guard := _ }) rfl (fun K hK => ?_) AllReadyH.nil
            go_simp
            refine (bo_WrP (HBc.out.kept (Kept.refl _).drew) (by have := HWR.out; omega) xn xa xm xc xl (HSL.out.kept (Kept.refl _).drew) HIB.out).mono ?_
            rintro e w3 ⟨rfl, b3, c3⟩
            have HB3 := hidMk b3
            have HC3 := hidMk (show Chg (Of f2 d2) wr w3 from (Chg.refl _ _).drew.trans c3)
            clear b3 c3
            (try go_wp2_with fail)
            refine hK.out _ _ ?_ (fun hHeld => ?_)
            · exact ⟨(HC3.out.cell (p := ⟨ab, ao + k * 4 + 1, none⟩) hab2 HABf.out).trans p1, (HC3.out.cell (p := ⟨ab, ao + k * 4 + 3, none⟩) hab2 HABf.out).trans p3⟩
            clear hK K
            (try simp only [Act.put, List.setIfInBounds_toArray, List.set_cons_zero, List.set_cons_succ])
            refine wpAnyH_done (by kernel_rfl) ?_ _
            replace p1 := (HC3.out.cell (p := ⟨ab, ao + k * 4 + 1, none⟩) hab2 HABf.out).trans p1
            replace p3 := (HC3.out.cell (p := ⟨ab, ao + k * 4 + 3, none⟩) hab2 HABf.out).trans p3
            have HSL3 := hidMk (HSL0.out.kept HB3.out.kp)
            go_wp2_with fail
            refine wp_region_held_drew (S := (fun w9 => w9.cell? ⟨ab, ao + k * 4 + 1, none⟩ = some (.int .i64 xn) ∧ w9.cell? ⟨ab, ao + k * 4 + 3, none⟩ = some (.slice xa xm xc))) (by kernel_rfl) ?_ (fun hHeld => ?_)
            · exact ⟨p1, p3⟩
            refine wpAnyH_take (i := 0) (oi := { dst := some 87, op := _, type := _, pos := _, after := _, guard := _ }) (v := ?_) rfl (by kernel_rfl) (by kernel_rfl) (by kernel_rfl) (fun _ _ _ h => h) (Or.inl ⟨by rfl, ?_⟩) (by assumption) ?_
            rotate_left
            · (intro w9 hSw; (try dsimp only at hSw); (try obtain ⟨hSw1, hSw2⟩ := hSw); go_simp; (try with_reducible rfl))
            (try simp only [Act.put, List.setIfInBounds_toArray, List.set_cons_zero, List.set_cons_succ])
            refine wpAnyH_take (i := 1) (oi := { dst := some 88, op := _, type := _, pos := _, after := _, guard := _ }) (v := ?_) rfl (by kernel_rfl) (by kernel_rfl) (by kernel_rfl) (fun _ _ _ h => h) (Or.inl ⟨by rfl, ?_⟩) (by assumption) ?_
            rotate_left
            · (intro w9 hSw; (try dsimp only at hSw); (try obtain ⟨hSw1, hSw2⟩ := hSw); go_simp; (try with_reducible rfl))
            (try simp only [Act.put, List.setIfInBounds_toArray, List.set_cons_zero, List.set_cons_succ])
            refine wpAnyH_take (i := 2) (oi := { dst := some 89, op := _, type := _, pos := _, after := _, guard := _ }) (v := ?_) rfl (by kernel_rfl) (by kernel_rfl) (by kernel_rfl) (fun _ _ _ h => h) (Or.inl ⟨by rfl, ?_⟩) (by assumption) ?_
            rotate_left
            · (intro w9 hSw; (try dsimp only at hSw); (try obtain ⟨hSw1, hSw2⟩ := hSw); go_simp; (try with_reducible rfl))
            (try simp only [Act.put, List.setIfInBounds_toArray, List.set_cons_zero, List.set_cons_succ])
            refine wpAnyH_take (i := 3) (oi := { dst := some 90, op := _, type := _, pos := _, after := _, guard := _ }) (v := ?_) rfl (by kernel_rfl) (by kernel_rfl) (by kernel_rfl) (fun _ _ _ h => h) (Or.inl ⟨by rfl, ?_⟩) (by assumption) ?_
            rotate_left
            · (intro w9 hSw; (try dsimp only at hSw); (try obtain ⟨hSw1, hSw2⟩ := hSw); go_simp; (try with_reducible rfl))
            (try simp only [Act.put, List.setIfInBounds_toArray, List.set_cons_zero, List.set_cons_succ])
            refine wpAnyH_take (i := 4) (oi := { dst := some 91, op := _, type := _, pos := _, after := _, guard := _ }) (v := ?_) rfl (by kernel_rfl) (by kernel_rfl) (by kernel_rfl) (fun _ _ _ h => h) (Or.inl ⟨by rfl, ?_⟩) (by assumption) ?_
            rotate_left
            · (intro w9 hSw; (try dsimp only at hSw); (try obtain ⟨hSw1, hSw2⟩ := hSw); go_simp; (try with_reducible rfl))
            (try simp only [Act.put, List.setIfInBounds_toArray, List.set_cons_zero, List.set_cons_succ])
            refine wpAnyH_take (i := 5) (oi := { dst := some 92, op := _, type := _, pos := _, after := _, guard := _ }) (v := ?_) rfl (by kernel_rfl) (by kernel_rfl) (by kernel_rfl) (fun _ _ _ h => h) (Or.inl ⟨by rfl, ?_⟩) (by assumption) ?_
            rotate_left
            · (intro w9 hSw; (try dsimp only at hSw); (try obtain ⟨hSw1, hSw2⟩ := hSw); go_simp; (try with_reducible rfl))
            (try simp only [Act.put, List.setIfInBounds_toArray, List.set_cons_zero, List.set_cons_succ])
            refine wpAnyH_take (i := 6) (oi := { dst := some 93, op := _, type := _, pos := _, after := _, guard := _ }) (v := ?_) rfl (by kernel_rfl) (by kernel_rfl) (by kernel_rfl) (fun _ _ _ h => h) (Or.inl ⟨by rfl, ?_⟩) (by assumption) ?_
            rotate_left
            · (intro w9 hSw; (try dsimp only at hSw); (try obtain ⟨hSw1, hSw2⟩ := hSw); go_simp; (try with_reducible rfl))
            (try simp only [Act.put, List.setIfInBounds_toArray, List.set_cons_zero, List.set_cons_succ])
            refine wpAnyH_take (i := 7) (oi := { dst := some 94, op := _, type := _, pos := _, after := _, guard := _ }) (v := ?_) rfl (by kernel_rfl) (by kernel_rfl) (by kernel_rfl) (fun _ _ _ h => h) (Or.inl ⟨by rfl, ?_⟩) (by assumption) ?_
            rotate_left
            · (intro w9 hSw; (try dsimp only at hSw); (try obtain ⟨hSw1, hSw2⟩ := hSw); go_simp; (try with_reducible rfl))
            (try simp only [Act.put, List.setIfInBounds_toArray, List.set_cons_zero, List.set_cons_succ])
            refine wpAnyH_take (i := 8) (oi := { dst := some 95, op := _, type := _, pos := _, after := _, guard := _ }) (v := ?_) rfl (by kernel_rfl) (by kernel_rfl) (by kernel_rfl) (fun _ _ _ h => h) (Or.inl ⟨by rfl, ?_⟩) (by assumption) ?_
            rotate_left
            · (intro w9 hSw; (try dsimp only at hSw); (try obtain ⟨hSw1, hSw2⟩ := hSw); go_simp; (try with_reducible rfl))
            (try simp only [Act.put, List.setIfInBounds_toArray, List.set_cons_zero, List.set_cons_succ])
            refine wpAnyH_take (i := 9) (oi := { dst := some 96, op := _, type := _, pos := _, after := _, guard := _ }) (v := ?_) rfl (by kernel_rfl) (by kernel_rfl) (by kernel_rfl) (fun _ _ _ h => h) (Or.inl ⟨by rfl, ?_⟩) (by assumption) ?_
            rotate_left
            · (intro w9 hSw; (try dsimp only at hSw); (try obtain ⟨hSw1, hSw2⟩ := hSw); go_simp; (try with_reducible rfl))
            (try simp only [Act.put, List.setIfInBounds_toArray, List.set_cons_zero, List.set_cons_succ])
            refine wpAnyH_take (i := 10) (oi := { dst := some 97, op := _, type := _, pos := _, after := _, guard := _ }) (v := ?_) rfl (by kernel_rfl) (by kernel_rfl) (by kernel_rfl) (fun _ _ _ h => h) (Or.inl ⟨by rfl, ?_⟩) (by assumption) ?_
            rotate_left
            · (intro w9 hSw; (try dsimp only at hSw); (try obtain ⟨hSw1, hSw2⟩ := hSw); go_simp; (try with_reducible rfl))
            (try simp only [Act.put, List.setIfInBounds_toArray, List.set_cons_zero, List.set_cons_succ])
            refine wpAnyH_ready (rs := [11]) (by kernel_rfl) (by simp) ?_
            refine AllReadyH.cons (o := { dst := some 98, op := _, type := _, pos := _, after := _, guard := _ }) rfl (fun K hK => ?_) AllReadyH.nil
            go_simp
            refine (bo_WrR (HB3.out.kept (Kept.refl _).drew) (by have := HWR.out; omega) xn xa xm xc xl (HSL3.out.kept (Kept.refl _).drew) HIB.out HAD.out).mono ?_
            rintro e w4 ⟨rfl, u4, y4, b4, c4⟩
            have HB4 := hidMk b4
            have HC4 := hidMk (show Chg (RS r2 v2 4 gs2) w3 w4 from (Chg.refl _ _).drew.trans c4)
            clear b4 c4
            (try go_wp2_with fail)
            refine hK.out _ _ ?_ (fun hHeld => ?_)
            · exact ⟨(HC4.out.cell (p := ⟨ab, ao + k * 4 + 1, none⟩) (Nat.lt_of_lt_of_le hab2 HC3.out.size) HABr.out).trans p1, (HC4.out.cell (p := ⟨ab, ao + k * 4 + 3, none⟩) (Nat.lt_of_lt_of_le hab2 HC3.out.size) HABr.out).trans p3⟩
            clear hK K
            (try simp only [Act.put, List.setIfInBounds_toArray, List.set_cons_zero, List.set_cons_succ])
            refine wpAnyH_done (by kernel_rfl) ?_ _
            go_wp2_with fail
            go_roundg (gk - 1)
            case measure => have := HKG.out; omega
            case rel => 
              have h8 := HBo.out.chg HC3.out (fun e => by rcases e with e | e <;> omega) (fun e => by rcases e with e | e <;> omega) (fun j e e2 => by have := HRO.out j e; rcases e2 with e2 | e2 <;> omega) (Chg.kept HBo.out.kp HC3.out (fun j e => by rcases e with e | e <;> omega))
              have h9 := h8.chg HC4.out (fun e => by have := (HBc.out.rge _ e).1; omega) (fun e => by have := (HBc.out.rge _ e).1; omega) (fun j e e2 => by have := HRO.out j e; have := (HBc.out.rge _ e2).1; omega) (Chg.kept h8.kp HC4.out (fun j e => by have := (HBc.out.rge _ e).1; have := HBc.out.hB; omega))
              exact ⟨k + 1, _, u4, y4, by have := HKG.out; omega, by go_num, hidMk h9, HB4, hidMk (by have h7 := wrS_wr2 (N := 4) (n := xn) (l := xl) HBc.out.ok HWRK.out; omega)⟩
          · have hkk : (N2 : Int) ≤ (k : Int) ∨ ((k : Int) < (N2 : Int) ∧ (20 : Int) ≤ (k : Int)) := by omega
            obtain ⟨w5, hw5⟩ : ∃ w5, w5 = wr := ⟨_, rfl⟩
            rw [← hw5] at HBo HBc ⊢
            clear hw5 HWRK HWR HKG hkg
            rcases hkk with h9 | ⟨h8, h9⟩
            · skip
              go_wp2_with fail
              go_loopg [13, 14] 4 (fun gg sv iv wr => ∃ k : Nat, k + gg = 4 ∧ iv = .int .i64 (k : Int) ∧ sv = .bool (decide (∀ j, j < k → blk s.F j = blk s2.F j)) ∧ Hid (Kept w5 wr))
              case atStart => exact ⟨0, by omega, rfl, by rw [decide_eq_true (fun j hj => absurd hj (by omega))], hidMk ((Kept.refl _))⟩
              case round =>
                obtain ⟨k, hkg, rfl, rfl, HK⟩ := hrel
                have HKG := hidMk hkg
                obtain ⟨g1, cap1, e1, _, _, hc1⟩ := HBo.out.rf.rb.cell (by omega)
                obtain ⟨g2, cap2, e2, _, _, hc2⟩ := HBc.out.rf.rb.cell (by omega)
                have zr1 := HK.out.cellq HBo.out.rf.c0
                have zr2 := HK.out.cellq HBc.out.rf.c0
                rw [e1] at zr1
                rw [e2] at zr2
                by_cases hk : k < 4
                · have hk' : (k : Int) < 4 := by omega
                  have zg1 := HK.out.cellq (hc1 k hk)
                  have zg2 := HK.out.cellq (hc2 k hk)
                  obtain ⟨hd1, hl1, _⟩ := HBo.out.rf.rb.row k hk
                  obtain ⟨hd2, hl2, _⟩ := HBc.out.rf.rb.row k hk
                  have HX1 := hidMk (show ∀ x ∈ blk s.F k, isB x from fun x hx => HBo.out.fl.isb x (List.mem_of_mem_drop (List.mem_of_mem_take hx)))
                  have HX2 := hidMk (show ∀ x ∈ blk s2.F k, isB x from fun x hx => HBc.out.fl.isb x (List.mem_of_mem_drop (List.mem_of_mem_take hx)))
                  have HT1 := hidMk (show ∀ W, Kept wr W → (convert 32 9 (.slice (some ⟨gs k, 0, none⟩) 32 (cs k))).run Try.prog W = .ok (.string (str (blk s.F k))) W from fun W q => run_string_sl (c := cs k) ((dt_row hd1 hl1).kept (HK.out.trans q)) HX1.out)
                  have HT2 := hidMk (show ∀ W, Kept wr W → (convert 32 9 (.slice (some ⟨gs2 k, 0, none⟩) 32 (cs2 k))).run Try.prog W = .ok (.string (str (blk s2.F k))) W from fun W q => run_string_sl (c := cs2 k) ((dt_row hd2 hl2).kept (HK.out.trans q)) HX2.out)
                  have HNX := hidMk (all_next (fun j => blk s.F j) (fun j => blk s2.F j) k)
                  clear hkg hc1 hc2 hd1 hd2 hl1 hl2
                  by_cases hP : ∀ j, j < k → blk s.F j = blk s2.F j
                  · rw [decide_eq_true hP]
                    have HQ := hidMk (HNX.out.1 hP)
                    clear hP HNX
                    by_cases hE : blk s.F k = blk s2.F k
                    · have HD := hidMk (show decide (∀ j, j < k + 1 → blk s.F j = blk s2.F j) = true by rw [HQ.out]; exact decide_eq_true hE)
                      rw [← hE] at HT2
                      clear hE
                      go_wp2_with fail
                      refine wp_region_held_drew (S := (fun w9 => Kept wr w9)) (by kernel_rfl) ?_ (fun hHeld => ?_)
                      · exact (Kept.refl wr).drew
                      refine wpAnyH_take (i := 0) (oi := { dst := some 108, op := _, type := _, pos := _, after := _, guard := _ }) (v := ?_) rfl (by kernel_rfl) (by kernel_rfl) (by kernel_rfl) (fun _ _ _ h => h) (Or.inl ⟨by rfl, ?_⟩) (by assumption) ?_
                      rotate_left
                      · (intro w9 hSw; go_simp; (try with_reducible rfl))
                      (try simp only [Act.put, List.setIfInBounds_toArray, List.set_cons_zero, List.set_cons_succ])
                      refine wpAnyH_take (i := 1) (oi := { dst := some 109, op := _, type := _, pos := _, after := _, guard := _ }) (v := ?_) rfl (by kernel_rfl) (by kernel_rfl) (by kernel_rfl) (fun _ _ _ h => h) (Or.inl ⟨by rfl, ?_⟩) (by assumption) ?_
                      rotate_left
                      · (intro w9 hSw; go_simp; (try with_reducible rfl))
                      (try simp only [Act.put, List.setIfInBounds_toArray, List.set_cons_zero, List.set_cons_succ])
                      refine wpAnyH_take (i := 2) (oi := { dst := some 110, op := _, type := _, pos := _, after := _, guard := _ }) (v := ?_) rfl (by kernel_rfl) (by kernel_rfl) (by kernel_rfl) (fun _ _ _ h => h) (Or.inl ⟨by rfl, ?_⟩) (by assumption) ?_
                      rotate_left
                      · (intro w9 hSw; go_simp; (try with_reducible rfl))
                      (try simp only [Act.put, List.setIfInBounds_toArray, List.set_cons_zero, List.set_cons_succ])
                      refine wpAnyH_take (i := 3) (oi := { dst := some 111, op := _, type := _, pos := _, after := _, guard := _ }) (v := ?_) rfl (by kernel_rfl) (by kernel_rfl) (by kernel_rfl) (fun _ _ _ h => h) (Or.inl ⟨by rfl, ?_⟩) (by assumption) ?_
                      rotate_left
                      · (intro w9 hSw; go_simp; (try with_reducible rfl))
                      (try simp only [Act.put, List.setIfInBounds_toArray, List.set_cons_zero, List.set_cons_succ])
                      refine wpAnyH_take (i := 4) (oi := { dst := some 112, op := _, type := _, pos := _, after := _, guard := _ }) (v := ?_) rfl (by kernel_rfl) (by kernel_rfl) (by kernel_rfl) (fun _ _ _ h => h) (Or.inl ⟨by rfl, ?_⟩) (by assumption) ?_
                      rotate_left
                      · (intro w9 hSw; go_simp; (try with_reducible rfl))
                      (try simp only [Act.put, List.setIfInBounds_toArray, List.set_cons_zero, List.set_cons_succ])
                      refine wpAnyH_take (i := 5) (oi := { dst := some 113, op := _, type := _, pos := _, after := _, guard := _ }) (v := ?_) rfl (by kernel_rfl) (by kernel_rfl) (by kernel_rfl) (fun _ _ _ h => h) (Or.inl ⟨by rfl, ?_⟩) (by assumption) ?_
                      rotate_left
                      · (intro w9 hSw; have q9 := hSw.cellq zr1; go_simp; (try with_reducible rfl))
                      (try simp only [Act.put, List.setIfInBounds_toArray, List.set_cons_zero, List.set_cons_succ])
                      refine wpAnyH_take (i := 6) (oi := { dst := some 114, op := _, type := _, pos := _, after := _, guard := _ }) (v := ?_) rfl (by kernel_rfl) (by kernel_rfl) (by kernel_rfl) (fun _ _ _ h => h) (Or.inl ⟨by rfl, ?_⟩) (by assumption) ?_
                      rotate_left
                      · (intro w9 hSw; go_simp; (try with_reducible rfl))
                      (try simp only [Act.put, List.setIfInBounds_toArray, List.set_cons_zero, List.set_cons_succ])
                      refine wpAnyH_take (i := 7) (oi := { dst := some 115, op := _, type := _, pos := _, after := _, guard := _ }) (v := ?_) rfl (by kernel_rfl) (by kernel_rfl) (by kernel_rfl) (fun _ _ _ h => h) (Or.inl ⟨by rfl, ?_⟩) (by assumption) ?_
                      rotate_left
                      · (intro w9 hSw; go_simp; (try with_reducible rfl))
                      (try simp only [Act.put, List.setIfInBounds_toArray, List.set_cons_zero, List.set_cons_succ])
                      refine wpAnyH_take (i := 8) (oi := { dst := some 116, op := _, type := _, pos := _, after := _, guard := _ }) (v := ?_) rfl (by kernel_rfl) (by kernel_rfl) (by kernel_rfl) (fun _ _ _ h => h) (Or.inl ⟨by rfl, ?_⟩) (by assumption) ?_
                      rotate_left
                      · (intro w9 hSw; have q9 := hSw.cellq zg1; go_simp; (try with_reducible rfl))
                      (try simp only [Act.put, List.setIfInBounds_toArray, List.set_cons_zero, List.set_cons_succ])
                      refine wpAnyH_take (i := 9) (oi := { dst := some 117, op := _, type := _, pos := _, after := _, guard := _ }) (v := ?_) rfl (by kernel_rfl) (by kernel_rfl) (by kernel_rfl) (fun _ _ _ h => h) (Or.inl ⟨by rfl, ?_⟩) (by assumption) ?_
                      rotate_left
                      · (intro w9 hSw; have q9 := HT1.out w9 hSw; go_simp; (try with_reducible rfl))
                      (try simp only [Act.put, List.setIfInBounds_toArray, List.set_cons_zero, List.set_cons_succ])
                      refine wpAnyH_take (i := 10) (oi := { dst := some 118, op := _, type := _, pos := _, after := _, guard := _ }) (v := ?_) rfl (by kernel_rfl) (by kernel_rfl) (by kernel_rfl) (fun _ _ _ h => h) (Or.inl ⟨by rfl, ?_⟩) (by assumption) ?_
                      rotate_left
                      · (intro w9 hSw; go_simp; (try with_reducible rfl))
                      (try simp only [Act.put, List.setIfInBounds_toArray, List.set_cons_zero, List.set_cons_succ])
                      refine wpAnyH_take (i := 11) (oi := { dst := some 119, op := _, type := _, pos := _, after := _, guard := _ }) (v := ?_) rfl (by kernel_rfl) (by kernel_rfl) (by kernel_rfl) (fun _ _ _ h => h) (Or.inl ⟨by rfl, ?_⟩) (by assumption) ?_
                      rotate_left
                      · (intro w9 hSw; go_simp; (try with_reducible rfl))
                      (try simp only [Act.put, List.setIfInBounds_toArray, List.set_cons_zero, List.set_cons_succ])
                      refine wpAnyH_take (i := 12) (oi := { dst := some 120, op := _, type := _, pos := _, after := _, guard := _ }) (v := ?_) rfl (by kernel_rfl) (by kernel_rfl) (by kernel_rfl) (fun _ _ _ h => h) (Or.inl ⟨by rfl, ?_⟩) (by assumption) ?_
                      rotate_left
                      · (intro w9 hSw; go_simp; (try with_reducible rfl))
                      (try simp only [Act.put, List.setIfInBounds_toArray, List.set_cons_zero, List.set_cons_succ])
                      refine wpAnyH_take (i := 13) (oi := { dst := some 121, op := _, type := _, pos := _, after := _, guard := _ }) (v := ?_) rfl (by kernel_rfl) (by kernel_rfl) (by kernel_rfl) (fun _ _ _ h => h) (Or.inl ⟨by rfl, ?_⟩) (by assumption) ?_
                      rotate_left
                      · (intro w9 hSw; have q9 := hSw.cellq zr2; go_simp; (try with_reducible rfl))
                      (try simp only [Act.put, List.setIfInBounds_toArray, List.set_cons_zero, List.set_cons_succ])
                      refine wpAnyH_take (i := 14) (oi := { dst := some 122, op := _, type := _, pos := _, after := _, guard := _ }) (v := ?_) rfl (by kernel_rfl) (by kernel_rfl) (by kernel_rfl) (fun _ _ _ h => h) (Or.inl ⟨by rfl, ?_⟩) (by assumption) ?_
                      rotate_left
                      · (intro w9 hSw; go_simp; (try with_reducible rfl))
                      (try simp only [Act.put, List.setIfInBounds_toArray, List.set_cons_zero, List.set_cons_succ])
                      refine wpAnyH_take (i := 15) (oi := { dst := some 123, op := _, type := _, pos := _, after := _, guard := _ }) (v := ?_) rfl (by kernel_rfl) (by kernel_rfl) (by kernel_rfl) (fun _ _ _ h => h) (Or.inl ⟨by rfl, ?_⟩) (by assumption) ?_
                      rotate_left
                      · (intro w9 hSw; go_simp; (try with_reducible rfl))
                      (try simp only [Act.put, List.setIfInBounds_toArray, List.set_cons_zero, List.set_cons_succ])
                      refine wpAnyH_take (i := 16) (oi := { dst := some 124, op := _, type := _, pos := _, after := _, guard := _ }) (v := ?_) rfl (by kernel_rfl) (by kernel_rfl) (by kernel_rfl) (fun _ _ _ h => h) (Or.inl ⟨by rfl, ?_⟩) (by assumption) ?_
                      rotate_left
                      · (intro w9 hSw; have q9 := hSw.cellq zg2; go_simp; (try with_reducible rfl))
                      (try simp only [Act.put, List.setIfInBounds_toArray, List.set_cons_zero, List.set_cons_succ])
                      refine wpAnyH_take (i := 17) (oi := { dst := some 125, op := _, type := _, pos := _, after := _, guard := _ }) (v := ?_) rfl (by kernel_rfl) (by kernel_rfl) (by kernel_rfl) (fun _ _ _ h => h) (Or.inl ⟨by rfl, ?_⟩) (by assumption) ?_
                      rotate_left
                      · (intro w9 hSw; have q9 := HT2.out w9 hSw; go_simp; (try with_reducible rfl))
                      (try simp only [Act.put, List.setIfInBounds_toArray, List.set_cons_zero, List.set_cons_succ])
                      refine wpAnyH_take (i := 18) (oi := { dst := some 126, op := _, type := _, pos := _, after := _, guard := _ }) (v := ?_) rfl (by kernel_rfl) (by kernel_rfl) (by kernel_rfl) (fun _ _ _ h => h) (Or.inl ⟨by rfl, ?_⟩) (by assumption) ?_
                      rotate_left
                      · (intro w9 hSw; go_simp; (try with_reducible rfl))
                      (try simp only [Act.put, List.setIfInBounds_toArray, List.set_cons_zero, List.set_cons_succ])
                      refine wpAnyH_take (i := 19) (oi := { dst := some 127, op := _, type := _, pos := _, after := _, guard := _ }) (v := ?_) rfl (by kernel_rfl) (by kernel_rfl) (by kernel_rfl) (fun _ _ _ h => h) (Or.inl ⟨by rfl, ?_⟩) (by assumption) ?_
                      rotate_left
                      · (intro w9 hSw; go_simp; (try with_reducible rfl))
                      (try simp only [Act.put, List.setIfInBounds_toArray, List.set_cons_zero, List.set_cons_succ])
                      refine wpAnyH_take (i := 20) (oi := { dst := some 13, op := _, type := _, pos := _, after := _, guard := _ }) (v := ?_) rfl (by kernel_rfl) (by kernel_rfl) (by kernel_rfl) (fun _ _ _ h => h) (Or.inl ⟨by rfl, ?_⟩) (by assumption) ?_
                      rotate_left
                      · (intro w9 hSw; go_simp; (try with_reducible rfl))
                      (try simp only [Act.put, List.setIfInBounds_toArray, List.set_cons_zero, List.set_cons_succ])
                      refine wpAnyH_done (by kernel_rfl) ?_ _
                      go_wp2_with fail
                      go_roundg (gk - 1)
                      case measure => have := HKG.out; omega
                      case rel => exact ⟨k + 1, by have := HKG.out; omega, by go_num, by rw [HD.out], hidMk (HK.out.trans hHeld)⟩
                    · have HD := hidMk (show decide (∀ j, j < k + 1 → blk s.F j = blk s2.F j) = false by rw [HQ.out]; exact decide_eq_false hE)
                      have hne : str (blk s.F k) ≠ str (blk s2.F k) := fun e => hE (by rw [← byt_str HX1.out, ← byt_str HX2.out, e])
                      have hq1 : ((str (blk s.F k)).toList == (str (blk s2.F k)).toList) = false := by
                        rw [← beq_toListBytes]
                        exact ba_ne hne
                      have hq2 : (str (blk s.F k) == str (blk s2.F k)) = false := ba_ne hne
                      clear hE hne
                      generalize str (blk s.F k) = S1 at *
                      generalize str (blk s2.F k) = S2 at *
                      go_wp2_with fail
                      refine wp_region_held_drew (S := (fun w9 => Kept wr w9)) (by kernel_rfl) ?_ (fun hHeld => ?_)
                      · exact (Kept.refl wr).drew
                      refine wpAnyH_take (i := 0) (oi := { dst := some 108, op := _, type := _, pos := _, after := _, guard := _ }) (v := ?_) rfl (by kernel_rfl) (by kernel_rfl) (by kernel_rfl) (fun _ _ _ h => h) (Or.inl ⟨by rfl, ?_⟩) (by assumption) ?_
                      rotate_left
                      · (intro w9 hSw; go_simp; (try with_reducible rfl))
                      (try simp only [Act.put, List.setIfInBounds_toArray, List.set_cons_zero, List.set_cons_succ])
                      refine wpAnyH_take (i := 1) (oi := { dst := some 109, op := _, type := _, pos := _, after := _, guard := _ }) (v := ?_) rfl (by kernel_rfl) (by kernel_rfl) (by kernel_rfl) (fun _ _ _ h => h) (Or.inl ⟨by rfl, ?_⟩) (by assumption) ?_
                      rotate_left
                      · (intro w9 hSw; go_simp; (try with_reducible rfl))
                      (try simp only [Act.put, List.setIfInBounds_toArray, List.set_cons_zero, List.set_cons_succ])
                      refine wpAnyH_take (i := 2) (oi := { dst := some 110, op := _, type := _, pos := _, after := _, guard := _ }) (v := ?_) rfl (by kernel_rfl) (by kernel_rfl) (by kernel_rfl) (fun _ _ _ h => h) (Or.inl ⟨by rfl, ?_⟩) (by assumption) ?_
                      rotate_left
                      · (intro w9 hSw; go_simp; (try with_reducible rfl))
                      (try simp only [Act.put, List.setIfInBounds_toArray, List.set_cons_zero, List.set_cons_succ])
                      refine wpAnyH_take (i := 3) (oi := { dst := some 111, op := _, type := _, pos := _, after := _, guard := _ }) (v := ?_) rfl (by kernel_rfl) (by kernel_rfl) (by kernel_rfl) (fun _ _ _ h => h) (Or.inl ⟨by rfl, ?_⟩) (by assumption) ?_
                      rotate_left
                      · (intro w9 hSw; go_simp; (try with_reducible rfl))
                      (try simp only [Act.put, List.setIfInBounds_toArray, List.set_cons_zero, List.set_cons_succ])
                      refine wpAnyH_take (i := 4) (oi := { dst := some 112, op := _, type := _, pos := _, after := _, guard := _ }) (v := ?_) rfl (by kernel_rfl) (by kernel_rfl) (by kernel_rfl) (fun _ _ _ h => h) (Or.inl ⟨by rfl, ?_⟩) (by assumption) ?_
                      rotate_left
                      · (intro w9 hSw; go_simp; (try with_reducible rfl))
                      (try simp only [Act.put, List.setIfInBounds_toArray, List.set_cons_zero, List.set_cons_succ])
                      refine wpAnyH_take (i := 5) (oi := { dst := some 113, op := _, type := _, pos := _, after := _, guard := _ }) (v := ?_) rfl (by kernel_rfl) (by kernel_rfl) (by kernel_rfl) (fun _ _ _ h => h) (Or.inl ⟨by rfl, ?_⟩) (by assumption) ?_
                      rotate_left
                      · (intro w9 hSw; have q9 := hSw.cellq zr1; go_simp; (try with_reducible rfl))
                      (try simp only [Act.put, List.setIfInBounds_toArray, List.set_cons_zero, List.set_cons_succ])
                      refine wpAnyH_take (i := 6) (oi := { dst := some 114, op := _, type := _, pos := _, after := _, guard := _ }) (v := ?_) rfl (by kernel_rfl) (by kernel_rfl) (by kernel_rfl) (fun _ _ _ h => h) (Or.inl ⟨by rfl, ?_⟩) (by assumption) ?_
                      rotate_left
                      · (intro w9 hSw; go_simp; (try with_reducible rfl))
                      (try simp only [Act.put, List.setIfInBounds_toArray, List.set_cons_zero, List.set_cons_succ])
                      refine wpAnyH_take (i := 7) (oi := { dst := some 115, op := _, type := _, pos := _, after := _, guard := _ }) (v := ?_) rfl (by kernel_rfl) (by kernel_rfl) (by kernel_rfl) (fun _ _ _ h => h) (Or.inl ⟨by rfl, ?_⟩) (by assumption) ?_
                      rotate_left
                      · (intro w9 hSw; go_simp; (try with_reducible rfl))
                      (try simp only [Act.put, List.setIfInBounds_toArray, List.set_cons_zero, List.set_cons_succ])
                      refine wpAnyH_take (i := 8) (oi := { dst := some 116, op := _, type := _, pos := _, after := _, guard := _ }) (v := ?_) rfl (by kernel_rfl) (by kernel_rfl) (by kernel_rfl) (fun _ _ _ h => h) (Or.inl ⟨by rfl, ?_⟩) (by assumption) ?_
                      rotate_left
                      · (intro w9 hSw; have q9 := hSw.cellq zg1; go_simp; (try with_reducible rfl))
                      (try simp only [Act.put, List.setIfInBounds_toArray, List.set_cons_zero, List.set_cons_succ])
                      refine wpAnyH_take (i := 9) (oi := { dst := some 117, op := _, type := _, pos := _, after := _, guard := _ }) (v := ?_) rfl (by kernel_rfl) (by kernel_rfl) (by kernel_rfl) (fun _ _ _ h => h) (Or.inl ⟨by rfl, ?_⟩) (by assumption) ?_
                      rotate_left
                      · (intro w9 hSw; have q9 := HT1.out w9 hSw; go_simp; (try with_reducible rfl))
                      (try simp only [Act.put, List.setIfInBounds_toArray, List.set_cons_zero, List.set_cons_succ])
                      refine wpAnyH_take (i := 10) (oi := { dst := some 118, op := _, type := _, pos := _, after := _, guard := _ }) (v := ?_) rfl (by kernel_rfl) (by kernel_rfl) (by kernel_rfl) (fun _ _ _ h => h) (Or.inl ⟨by rfl, ?_⟩) (by assumption) ?_
                      rotate_left
                      · (intro w9 hSw; go_simp; (try with_reducible rfl))
                      (try simp only [Act.put, List.setIfInBounds_toArray, List.set_cons_zero, List.set_cons_succ])
                      refine wpAnyH_take (i := 11) (oi := { dst := some 119, op := _, type := _, pos := _, after := _, guard := _ }) (v := ?_) rfl (by kernel_rfl) (by kernel_rfl) (by kernel_rfl) (fun _ _ _ h => h) (Or.inl ⟨by rfl, ?_⟩) (by assumption) ?_
                      rotate_left
                      · (intro w9 hSw; go_simp; (try with_reducible rfl))
                      (try simp only [Act.put, List.setIfInBounds_toArray, List.set_cons_zero, List.set_cons_succ])
                      refine wpAnyH_take (i := 12) (oi := { dst := some 120, op := _, type := _, pos := _, after := _, guard := _ }) (v := ?_) rfl (by kernel_rfl) (by kernel_rfl) (by kernel_rfl) (fun _ _ _ h => h) (Or.inl ⟨by rfl, ?_⟩) (by assumption) ?_
                      rotate_left
                      · (intro w9 hSw; go_simp; (try with_reducible rfl))
                      (try simp only [Act.put, List.setIfInBounds_toArray, List.set_cons_zero, List.set_cons_succ])
                      refine wpAnyH_take (i := 13) (oi := { dst := some 121, op := _, type := _, pos := _, after := _, guard := _ }) (v := ?_) rfl (by kernel_rfl) (by kernel_rfl) (by kernel_rfl) (fun _ _ _ h => h) (Or.inl ⟨by rfl, ?_⟩) (by assumption) ?_
                      rotate_left
                      · (intro w9 hSw; have q9 := hSw.cellq zr2; go_simp; (try with_reducible rfl))
                      (try simp only [Act.put, List.setIfInBounds_toArray, List.set_cons_zero, List.set_cons_succ])
                      refine wpAnyH_take (i := 14) (oi := { dst := some 122, op := _, type := _, pos := _, after := _, guard := _ }) (v := ?_) rfl (by kernel_rfl) (by kernel_rfl) (by kernel_rfl) (fun _ _ _ h => h) (Or.inl ⟨by rfl, ?_⟩) (by assumption) ?_
                      rotate_left
                      · (intro w9 hSw; go_simp; (try with_reducible rfl))
                      (try simp only [Act.put, List.setIfInBounds_toArray, List.set_cons_zero, List.set_cons_succ])
                      refine wpAnyH_take (i := 15) (oi := { dst := some 123, op := _, type := _, pos := _, after := _, guard := _ }) (v := ?_) rfl (by kernel_rfl) (by kernel_rfl) (by kernel_rfl) (fun _ _ _ h => h) (Or.inl ⟨by rfl, ?_⟩) (by assumption) ?_
                      rotate_left
                      · (intro w9 hSw; go_simp; (try with_reducible rfl))
                      (try simp only [Act.put, List.setIfInBounds_toArray, List.set_cons_zero, List.set_cons_succ])
                      refine wpAnyH_take (i := 16) (oi := { dst := some 124, op := _, type := _, pos := _, after := _, guard := _ }) (v := ?_) rfl (by kernel_rfl) (by kernel_rfl) (by kernel_rfl) (fun _ _ _ h => h) (Or.inl ⟨by rfl, ?_⟩) (by assumption) ?_
                      rotate_left
                      · (intro w9 hSw; have q9 := hSw.cellq zg2; go_simp; (try with_reducible rfl))
                      (try simp only [Act.put, List.setIfInBounds_toArray, List.set_cons_zero, List.set_cons_succ])
                      refine wpAnyH_take (i := 17) (oi := { dst := some 125, op := _, type := _, pos := _, after := _, guard := _ }) (v := ?_) rfl (by kernel_rfl) (by kernel_rfl) (by kernel_rfl) (fun _ _ _ h => h) (Or.inl ⟨by rfl, ?_⟩) (by assumption) ?_
                      rotate_left
                      · (intro w9 hSw; have q9 := HT2.out w9 hSw; go_simp; (try with_reducible rfl))
                      (try simp only [Act.put, List.setIfInBounds_toArray, List.set_cons_zero, List.set_cons_succ])
                      refine wpAnyH_take (i := 18) (oi := { dst := some 126, op := _, type := _, pos := _, after := _, guard := _ }) (v := ?_) rfl (by kernel_rfl) (by kernel_rfl) (by kernel_rfl) (fun _ _ _ h => h) (Or.inl ⟨by rfl, ?_⟩) (by assumption) ?_
                      rotate_left
                      · (intro w9 hSw; go_simp; (try with_reducible rfl))
                      (try simp only [Act.put, List.setIfInBounds_toArray, List.set_cons_zero, List.set_cons_succ])
                      refine wpAnyH_take (i := 19) (oi := { dst := some 127, op := _, type := _, pos := _, after := _, guard := _ }) (v := ?_) rfl (by kernel_rfl) (by kernel_rfl) (by kernel_rfl) (fun _ _ _ h => h) (Or.inl ⟨by rfl, ?_⟩) (by assumption) ?_
                      rotate_left
                      · (intro w9 hSw; go_simp; (try with_reducible rfl))
                      (try simp only [Act.put, List.setIfInBounds_toArray, List.set_cons_zero, List.set_cons_succ])
                      refine wpAnyH_take (i := 20) (oi := { dst := some 13, op := _, type := _, pos := _, after := _, guard := _ }) (v := ?_) rfl (by kernel_rfl) (by kernel_rfl) (by kernel_rfl) (fun _ _ _ h => h) (Or.inl ⟨by rfl, ?_⟩) (by assumption) ?_
                      rotate_left
                      · (intro w9 hSw; go_simp; (try with_reducible rfl))
                      (try simp only [Act.put, List.setIfInBounds_toArray, List.set_cons_zero, List.set_cons_succ])
                      refine wpAnyH_done (by kernel_rfl) ?_ _
                      go_wp2_with fail
                      go_roundg (gk - 1)
                      case measure => have := HKG.out; omega
                      case rel => exact ⟨k + 1, by have := HKG.out; omega, by go_num, by rw [HD.out], hidMk (HK.out.trans hHeld)⟩
                  · rw [decide_eq_false hP]
                    have HD := hidMk (show decide (∀ j, j < k + 1 → blk s.F j = blk s2.F j) = false from HNX.out.2 hP)
                    clear hP HNX HT1 HT2
                    go_wp2_with fail
                    go_quiet (fail)
                    go_wp2_with fail
                    go_roundg (gk - 1)
                    case measure => have := HKG.out; omega
                    case rel => exact ⟨k + 1, by have := HKG.out; omega, by go_num, by rw [HD.out], hidMk (HK.out.drewN _)⟩
                · have hk4 : k = 4 := by omega
                  go_wp2_with fail
                  refine (show Calls Try.prog 9 #[.int .i64 3] wr _ from bk_New 3 wr).mono ?_
                  intro e w6 h6
                  rw [if_pos (by omega)] at h6
                  obtain ⟨fo, d_o, rfl, _, _, f6, k6⟩ := h6
                  have FO := hidMk (show Fl w6 fo d_o 3 (news 3) from f6)
                  have K6 := hidMk (HK.out.trans k6)
                  have HBA := hidMk (HBo.out.kept K6.out)
                  have HBB := hidMk (HBc.out.kept K6.out)
                  clear f6 k6
                  have HS1 := hidMk (show ∀ W, Kept w6 W → Calls Try.prog 24 #[.pointer (some ⟨f, 0, none⟩), .pointer (some ⟨f2, 0, none⟩)] W fun e w' => e = .returned (.bool (decide (s.F = s2.F))) ∧ Kept W w' from fun W q => bk_Same (HBA.out.fl.kept q) (HBB.out.fl.kept q))
                  have HS2 := hidMk (show ∀ W, Kept w6 W → Calls Try.prog 24 #[.pointer (some ⟨f2, 0, none⟩), .pointer (some ⟨f, 0, none⟩)] W fun e w' => e = .returned (.bool (decide (s.F = s2.F))) ∧ Kept W w' from fun W q => by rw [show decide (s.F = s2.F) = decide (s2.F = s.F) by rw [decide_eq_decide]; exact ⟨Eq.symm, Eq.symm⟩]; exact bk_Same (HBB.out.fl.kept q) (HBA.out.fl.kept q))
                  have HS3 := hidMk (show ∀ W, Kept w6 W → Calls Try.prog 24 #[.pointer (some ⟨f, 0, none⟩), .pointer (some ⟨f, 0, none⟩)] W fun e w' => e = .returned (.bool true) ∧ Kept W w' from fun W q => by have h9 := bk_Same (HBA.out.fl.kept q) (HBA.out.fl.kept q); rw [decide_eq_true rfl] at h9; exact h9)
                  have HS4 := hidMk (show ∀ W, Kept w6 W → Calls Try.prog 24 #[.pointer (some ⟨f, 0, none⟩), .pointer (some ⟨fo, 0, none⟩)] W fun e w' => e = .returned (.bool false) ∧ Kept W w' from fun W q => by have h9 := bk_Same (HBA.out.fl.kept q) (FO.out.kept q); rw [decide_eq_false (fun e => by have h1 := HBA.out.fl.len; rw [e] at h1; simp [news] at h1)] at h9; exact h9)
                  rw [all_blk hk4 HBA.out.fl.len HBB.out.fl.len]
                  clear HBo HBc HK
                  generalize decide (s.F = s2.F) = E at *
                  cases E with
                  | true =>
                    go_wp2_with fail
                    refine (HS1.out _ (Kept.refl _)).mono ?_
                    rintro e x1 ⟨rfl, j1⟩
                    go_wp2_with fail
                    refine (HS2.out _ j1).mono ?_
                    rintro e x2 ⟨rfl, j2⟩
                    have J2 := hidMk (j1.trans j2)
                    go_wp2_with fail
                    refine (HS3.out _ J2.out).mono ?_
                    rintro e x3 ⟨rfl, j3⟩
                    have J3 := hidMk (J2.out.trans j3)
                    go_wp2_with fail
                    refine (HS4.out _ J3.out).mono ?_
                    rintro e x4 ⟨rfl, j4⟩
                    have J4 := hidMk (J3.out.trans j4)
                    go_wp2_with fail
                    refine (law23_alike (HBA.out.kept J4.out)).mono ?_
                    rintro e x5 ⟨rfl, j5⟩
                    have J5 := hidMk (J4.out.trans j5)
                    go_wp2_with fail
                    refine (law23_alike (HBB.out.kept J5.out)).mono ?_
                    rintro e x6 ⟨rfl, j6⟩
                    have J6 := hidMk (J5.out.trans j6)
                    go_wp2_with (go_at_call 10; refine (law23_known _).mono ?_; rintro e x7 ⟨rfl, j7⟩)
                    go_ret
                    exact ⟨rfl, (HBA.out.kp.trans J6.out).trans j7⟩
                  | false =>
                    go_wp2_with fail
                    refine (HS1.out _ (Kept.refl _)).mono ?_
                    rintro e x1 ⟨rfl, j1⟩
                    go_wp2_with fail
                    refine (HS2.out _ j1).mono ?_
                    rintro e x2 ⟨rfl, j2⟩
                    have J2 := hidMk (j1.trans j2)
                    go_wp2_with fail
                    refine (HS3.out _ J2.out).mono ?_
                    rintro e x3 ⟨rfl, j3⟩
                    have J3 := hidMk (J2.out.trans j3)
                    go_wp2_with fail
                    refine (HS4.out _ J3.out).mono ?_
                    rintro e x4 ⟨rfl, j4⟩
                    have J4 := hidMk (J3.out.trans j4)
                    go_wp2_with fail
                    refine (law23_alike (HBA.out.kept J4.out)).mono ?_
                    rintro e x5 ⟨rfl, j5⟩
                    have J5 := hidMk (J4.out.trans j5)
                    go_wp2_with fail
                    refine (law23_alike (HBB.out.kept J5.out)).mono ?_
                    rintro e x6 ⟨rfl, j6⟩
                    have J6 := hidMk (J5.out.trans j6)
                    go_wp2_with (go_at_call 10; refine (law23_known _).mono ?_; rintro e x7 ⟨rfl, j7⟩)
                    go_ret
                    exact ⟨rfl, (HBA.out.kp.trans J6.out).trans j7⟩
            · skip
              go_wp2_with fail
              go_loopg [13, 14] 4 (fun gg sv iv wr => ∃ k : Nat, k + gg = 4 ∧ iv = .int .i64 (k : Int) ∧ sv = .bool (decide (∀ j, j < k → blk s.F j = blk s2.F j)) ∧ Hid (Kept w5 wr))
              case atStart => exact ⟨0, by omega, rfl, by rw [decide_eq_true (fun j hj => absurd hj (by omega))], hidMk ((Kept.refl _))⟩
              case round =>
                obtain ⟨k, hkg, rfl, rfl, HK⟩ := hrel
                have HKG := hidMk hkg
                obtain ⟨g1, cap1, e1, _, _, hc1⟩ := HBo.out.rf.rb.cell (by omega)
                obtain ⟨g2, cap2, e2, _, _, hc2⟩ := HBc.out.rf.rb.cell (by omega)
                have zr1 := HK.out.cellq HBo.out.rf.c0
                have zr2 := HK.out.cellq HBc.out.rf.c0
                rw [e1] at zr1
                rw [e2] at zr2
                by_cases hk : k < 4
                · have hk' : (k : Int) < 4 := by omega
                  have zg1 := HK.out.cellq (hc1 k hk)
                  have zg2 := HK.out.cellq (hc2 k hk)
                  obtain ⟨hd1, hl1, _⟩ := HBo.out.rf.rb.row k hk
                  obtain ⟨hd2, hl2, _⟩ := HBc.out.rf.rb.row k hk
                  have HX1 := hidMk (show ∀ x ∈ blk s.F k, isB x from fun x hx => HBo.out.fl.isb x (List.mem_of_mem_drop (List.mem_of_mem_take hx)))
                  have HX2 := hidMk (show ∀ x ∈ blk s2.F k, isB x from fun x hx => HBc.out.fl.isb x (List.mem_of_mem_drop (List.mem_of_mem_take hx)))
                  have HT1 := hidMk (show ∀ W, Kept wr W → (convert 32 9 (.slice (some ⟨gs k, 0, none⟩) 32 (cs k))).run Try.prog W = .ok (.string (str (blk s.F k))) W from fun W q => run_string_sl (c := cs k) ((dt_row hd1 hl1).kept (HK.out.trans q)) HX1.out)
                  have HT2 := hidMk (show ∀ W, Kept wr W → (convert 32 9 (.slice (some ⟨gs2 k, 0, none⟩) 32 (cs2 k))).run Try.prog W = .ok (.string (str (blk s2.F k))) W from fun W q => run_string_sl (c := cs2 k) ((dt_row hd2 hl2).kept (HK.out.trans q)) HX2.out)
                  have HNX := hidMk (all_next (fun j => blk s.F j) (fun j => blk s2.F j) k)
                  clear hkg hc1 hc2 hd1 hd2 hl1 hl2
                  by_cases hP : ∀ j, j < k → blk s.F j = blk s2.F j
                  · rw [decide_eq_true hP]
                    have HQ := hidMk (HNX.out.1 hP)
                    clear hP HNX
                    by_cases hE : blk s.F k = blk s2.F k
                    · have HD := hidMk (show decide (∀ j, j < k + 1 → blk s.F j = blk s2.F j) = true by rw [HQ.out]; exact decide_eq_true hE)
                      rw [← hE] at HT2
                      clear hE
                      go_wp2_with fail
                      refine wp_region_held_drew (S := (fun w9 => Kept wr w9)) (by kernel_rfl) ?_ (fun hHeld => ?_)
                      · exact (Kept.refl wr).drew
                      refine wpAnyH_take (i := 0) (oi := { dst := some 108, op := _, type := _, pos := _, after := _, guard := _ }) (v := ?_) rfl (by kernel_rfl) (by kernel_rfl) (by kernel_rfl) (fun _ _ _ h => h) (Or.inl ⟨by rfl, ?_⟩) (by assumption) ?_
                      rotate_left
                      · (intro w9 hSw; go_simp; (try with_reducible rfl))
                      (try simp only [Act.put, List.setIfInBounds_toArray, List.set_cons_zero, List.set_cons_succ])
                      refine wpAnyH_take (i := 1) (oi := { dst := some 109, op := _, type := _, pos := _, after := _, guard := _ }) (v := ?_) rfl (by kernel_rfl) (by kernel_rfl) (by kernel_rfl) (fun _ _ _ h => h) (Or.inl ⟨by rfl, ?_⟩) (by assumption) ?_
                      rotate_left
                      · (intro w9 hSw; go_simp; (try with_reducible rfl))
                      (try simp only [Act.put, List.setIfInBounds_toArray, List.set_cons_zero, List.set_cons_succ])
                      refine wpAnyH_take (i := 2) (oi := { dst := some 110, op := _, type := _, pos := _, after := _, guard := _ }) (v := ?_) rfl (by kernel_rfl) (by kernel_rfl) (by kernel_rfl) (fun _ _ _ h => h) (Or.inl ⟨by rfl, ?_⟩) (by assumption) ?_
                      rotate_left
                      · (intro w9 hSw; go_simp; (try with_reducible rfl))
                      (try simp only [Act.put, List.setIfInBounds_toArray, List.set_cons_zero, List.set_cons_succ])
                      refine wpAnyH_take (i := 3) (oi := { dst := some 111, op := _, type := _, pos := _, after := _, guard := _ }) (v := ?_) rfl (by kernel_rfl) (by kernel_rfl) (by kernel_rfl) (fun _ _ _ h => h) (Or.inl ⟨by rfl, ?_⟩) (by assumption) ?_
                      rotate_left
                      · (intro w9 hSw; go_simp; (try with_reducible rfl))
                      (try simp only [Act.put, List.setIfInBounds_toArray, List.set_cons_zero, List.set_cons_succ])
                      refine wpAnyH_take (i := 4) (oi := { dst := some 112, op := _, type := _, pos := _, after := _, guard := _ }) (v := ?_) rfl (by kernel_rfl) (by kernel_rfl) (by kernel_rfl) (fun _ _ _ h => h) (Or.inl ⟨by rfl, ?_⟩) (by assumption) ?_
                      rotate_left
                      · (intro w9 hSw; go_simp; (try with_reducible rfl))
                      (try simp only [Act.put, List.setIfInBounds_toArray, List.set_cons_zero, List.set_cons_succ])
                      refine wpAnyH_take (i := 5) (oi := { dst := some 113, op := _, type := _, pos := _, after := _, guard := _ }) (v := ?_) rfl (by kernel_rfl) (by kernel_rfl) (by kernel_rfl) (fun _ _ _ h => h) (Or.inl ⟨by rfl, ?_⟩) (by assumption) ?_
                      rotate_left
                      · (intro w9 hSw; have q9 := hSw.cellq zr1; go_simp; (try with_reducible rfl))
                      (try simp only [Act.put, List.setIfInBounds_toArray, List.set_cons_zero, List.set_cons_succ])
                      refine wpAnyH_take (i := 6) (oi := { dst := some 114, op := _, type := _, pos := _, after := _, guard := _ }) (v := ?_) rfl (by kernel_rfl) (by kernel_rfl) (by kernel_rfl) (fun _ _ _ h => h) (Or.inl ⟨by rfl, ?_⟩) (by assumption) ?_
                      rotate_left
                      · (intro w9 hSw; go_simp; (try with_reducible rfl))
                      (try simp only [Act.put, List.setIfInBounds_toArray, List.set_cons_zero, List.set_cons_succ])
                      refine wpAnyH_take (i := 7) (oi := { dst := some 115, op := _, type := _, pos := _, after := _, guard := _ }) (v := ?_) rfl (by kernel_rfl) (by kernel_rfl) (by kernel_rfl) (fun _ _ _ h => h) (Or.inl ⟨by rfl, ?_⟩) (by assumption) ?_
                      rotate_left
                      · (intro w9 hSw; go_simp; (try with_reducible rfl))
                      (try simp only [Act.put, List.setIfInBounds_toArray, List.set_cons_zero, List.set_cons_succ])
                      refine wpAnyH_take (i := 8) (oi := { dst := some 116, op := _, type := _, pos := _, after := _, guard := _ }) (v := ?_) rfl (by kernel_rfl) (by kernel_rfl) (by kernel_rfl) (fun _ _ _ h => h) (Or.inl ⟨by rfl, ?_⟩) (by assumption) ?_
                      rotate_left
                      · (intro w9 hSw; have q9 := hSw.cellq zg1; go_simp; (try with_reducible rfl))
                      (try simp only [Act.put, List.setIfInBounds_toArray, List.set_cons_zero, List.set_cons_succ])
                      refine wpAnyH_take (i := 9) (oi := { dst := some 117, op := _, type := _, pos := _, after := _, guard := _ }) (v := ?_) rfl (by kernel_rfl) (by kernel_rfl) (by kernel_rfl) (fun _ _ _ h => h) (Or.inl ⟨by rfl, ?_⟩) (by assumption) ?_
                      rotate_left
                      · (intro w9 hSw; have q9 := HT1.out w9 hSw; go_simp; (try with_reducible rfl))
                      (try simp only [Act.put, List.setIfInBounds_toArray, List.set_cons_zero, List.set_cons_succ])
                      refine wpAnyH_take (i := 10) (oi := { dst := some 118, op := _, type := _, pos := _, after := _, guard := _ }) (v := ?_) rfl (by kernel_rfl) (by kernel_rfl) (by kernel_rfl) (fun _ _ _ h => h) (Or.inl ⟨by rfl, ?_⟩) (by assumption) ?_
                      rotate_left
                      · (intro w9 hSw; go_simp; (try with_reducible rfl))
                      (try simp only [Act.put, List.setIfInBounds_toArray, List.set_cons_zero, List.set_cons_succ])
                      refine wpAnyH_take (i := 11) (oi := { dst := some 119, op := _, type := _, pos := _, after := _, guard := _ }) (v := ?_) rfl (by kernel_rfl) (by kernel_rfl) (by kernel_rfl) (fun _ _ _ h => h) (Or.inl ⟨by rfl, ?_⟩) (by assumption) ?_
                      rotate_left
                      · (intro w9 hSw; go_simp; (try with_reducible rfl))
                      (try simp only [Act.put, List.setIfInBounds_toArray, List.set_cons_zero, List.set_cons_succ])
                      refine wpAnyH_take (i := 12) (oi := { dst := some 120, op := _, type := _, pos := _, after := _, guard := _ }) (v := ?_) rfl (by kernel_rfl) (by kernel_rfl) (by kernel_rfl) (fun _ _ _ h => h) (Or.inl ⟨by rfl, ?_⟩) (by assumption) ?_
                      rotate_left
                      · (intro w9 hSw; go_simp; (try with_reducible rfl))
                      (try simp only [Act.put, List.setIfInBounds_toArray, List.set_cons_zero, List.set_cons_succ])
                      refine wpAnyH_take (i := 13) (oi := { dst := some 121, op := _, type := _, pos := _, after := _, guard := _ }) (v := ?_) rfl (by kernel_rfl) (by kernel_rfl) (by kernel_rfl) (fun _ _ _ h => h) (Or.inl ⟨by rfl, ?_⟩) (by assumption) ?_
                      rotate_left
                      · (intro w9 hSw; have q9 := hSw.cellq zr2; go_simp; (try with_reducible rfl))
                      (try simp only [Act.put, List.setIfInBounds_toArray, List.set_cons_zero, List.set_cons_succ])
                      refine wpAnyH_take (i := 14) (oi := { dst := some 122, op := _, type := _, pos := _, after := _, guard := _ }) (v := ?_) rfl (by kernel_rfl) (by kernel_rfl) (by kernel_rfl) (fun _ _ _ h => h) (Or.inl ⟨by rfl, ?_⟩) (by assumption) ?_
                      rotate_left
                      · (intro w9 hSw; go_simp; (try with_reducible rfl))
                      (try simp only [Act.put, List.setIfInBounds_toArray, List.set_cons_zero, List.set_cons_succ])
                      refine wpAnyH_take (i := 15) (oi := { dst := some 123, op := _, type := _, pos := _, after := _, guard := _ }) (v := ?_) rfl (by kernel_rfl) (by kernel_rfl) (by kernel_rfl) (fun _ _ _ h => h) (Or.inl ⟨by rfl, ?_⟩) (by assumption) ?_
                      rotate_left
                      · (intro w9 hSw; go_simp; (try with_reducible rfl))
                      (try simp only [Act.put, List.setIfInBounds_toArray, List.set_cons_zero, List.set_cons_succ])
                      refine wpAnyH_take (i := 16) (oi := { dst := some 124, op := _, type := _, pos := _, after := _, guard := _ }) (v := ?_) rfl (by kernel_rfl) (by kernel_rfl) (by kernel_rfl) (fun _ _ _ h => h) (Or.inl ⟨by rfl, ?_⟩) (by assumption) ?_
                      rotate_left
                      · (intro w9 hSw; have q9 := hSw.cellq zg2; go_simp; (try with_reducible rfl))
                      (try simp only [Act.put, List.setIfInBounds_toArray, List.set_cons_zero, List.set_cons_succ])
                      refine wpAnyH_take (i := 17) (oi := { dst := some 125, op := _, type := _, pos := _, after := _, guard := _ }) (v := ?_) rfl (by kernel_rfl) (by kernel_rfl) (by kernel_rfl) (fun _ _ _ h => h) (Or.inl ⟨by rfl, ?_⟩) (by assumption) ?_
                      rotate_left
                      · (intro w9 hSw; have q9 := HT2.out w9 hSw; go_simp; (try with_reducible rfl))
                      (try simp only [Act.put, List.setIfInBounds_toArray, List.set_cons_zero, List.set_cons_succ])
                      refine wpAnyH_take (i := 18) (oi := { dst := some 126, op := _, type := _, pos := _, after := _, guard := _ }) (v := ?_) rfl (by kernel_rfl) (by kernel_rfl) (by kernel_rfl) (fun _ _ _ h => h) (Or.inl ⟨by rfl, ?_⟩) (by assumption) ?_
                      rotate_left
                      · (intro w9 hSw; go_simp; (try with_reducible rfl))
                      (try simp only [Act.put, List.setIfInBounds_toArray, List.set_cons_zero, List.set_cons_succ])
                      refine wpAnyH_take (i := 19) (oi := { dst := some 127, op := _, type := _, pos := _, after := _, guard := _ }) (v := ?_) rfl (by kernel_rfl) (by kernel_rfl) (by kernel_rfl) (fun _ _ _ h => h) (Or.inl ⟨by rfl, ?_⟩) (by assumption) ?_
                      rotate_left
                      · (intro w9 hSw; go_simp; (try with_reducible rfl))
                      (try simp only [Act.put, List.setIfInBounds_toArray, List.set_cons_zero, List.set_cons_succ])
                      refine wpAnyH_take (i := 20) (oi := { dst := some 13, op := _, type := _, pos := _, after := _, guard := _ }) (v := ?_) rfl (by kernel_rfl) (by kernel_rfl) (by kernel_rfl) (fun _ _ _ h => h) (Or.inl ⟨by rfl, ?_⟩) (by assumption) ?_
                      rotate_left
                      · (intro w9 hSw; go_simp; (try with_reducible rfl))
                      (try simp only [Act.put, List.setIfInBounds_toArray, List.set_cons_zero, List.set_cons_succ])
                      refine wpAnyH_done (by kernel_rfl) ?_ _
                      go_wp2_with fail
                      go_roundg (gk - 1)
                      case measure => have := HKG.out; omega
                      case rel => exact ⟨k + 1, by have := HKG.out; omega, by go_num, by rw [HD.out], hidMk (HK.out.trans hHeld)⟩
                    · have HD := hidMk (show decide (∀ j, j < k + 1 → blk s.F j = blk s2.F j) = false by rw [HQ.out]; exact decide_eq_false hE)
                      have hne : str (blk s.F k) ≠ str (blk s2.F k) := fun e => hE (by rw [← byt_str HX1.out, ← byt_str HX2.out, e])
                      have hq1 : ((str (blk s.F k)).toList == (str (blk s2.F k)).toList) = false := by
                        rw [← beq_toListBytes]
                        exact ba_ne hne
                      have hq2 : (str (blk s.F k) == str (blk s2.F k)) = false := ba_ne hne
                      clear hE hne
                      generalize str (blk s.F k) = S1 at *
                      generalize str (blk s2.F k) = S2 at *
                      go_wp2_with fail
                      refine wp_region_held_drew (S := (fun w9 => Kept wr w9)) (by kernel_rfl) ?_ (fun hHeld => ?_)
                      · exact (Kept.refl wr).drew
                      refine wpAnyH_take (i := 0) (oi := { dst := some 108, op := _, type := _, pos := _, after := _, guard := _ }) (v := ?_) rfl (by kernel_rfl) (by kernel_rfl) (by kernel_rfl) (fun _ _ _ h => h) (Or.inl ⟨by rfl, ?_⟩) (by assumption) ?_
                      rotate_left
                      · (intro w9 hSw; go_simp; (try with_reducible rfl))
                      (try simp only [Act.put, List.setIfInBounds_toArray, List.set_cons_zero, List.set_cons_succ])
                      refine wpAnyH_take (i := 1) (oi := { dst := some 109, op := _, type := _, pos := _, after := _, guard := _ }) (v := ?_) rfl (by kernel_rfl) (by kernel_rfl) (by kernel_rfl) (fun _ _ _ h => h) (Or.inl ⟨by rfl, ?_⟩) (by assumption) ?_
                      rotate_left
                      · (intro w9 hSw; go_simp; (try with_reducible rfl))
                      (try simp only [Act.put, List.setIfInBounds_toArray, List.set_cons_zero, List.set_cons_succ])
                      refine wpAnyH_take (i := 2) (oi := { dst := some 110, op := _, type := _, pos := _, after := _, guard := _ }) (v := ?_) rfl (by kernel_rfl) (by kernel_rfl) (by kernel_rfl) (fun _ _ _ h => h) (Or.inl ⟨by rfl, ?_⟩) (by assumption) ?_
                      rotate_left
                      · (intro w9 hSw; go_simp; (try with_reducible rfl))
                      (try simp only [Act.put, List.setIfInBounds_toArray, List.set_cons_zero, List.set_cons_succ])
                      refine wpAnyH_take (i := 3) (oi := { dst := some 111, op := _, type := _, pos := _, after := _, guard := _ }) (v := ?_) rfl (by kernel_rfl) (by kernel_rfl) (by kernel_rfl) (fun _ _ _ h => h) (Or.inl ⟨by rfl, ?_⟩) (by assumption) ?_
                      rotate_left
                      · (intro w9 hSw; go_simp; (try with_reducible rfl))
                      (try simp only [Act.put, List.setIfInBounds_toArray, List.set_cons_zero, List.set_cons_succ])
                      refine wpAnyH_take (i := 4) (oi := { dst := some 112, op := _, type := _, pos := _, after := _, guard := _ }) (v := ?_) rfl (by kernel_rfl) (by kernel_rfl) (by kernel_rfl) (fun _ _ _ h => h) (Or.inl ⟨by rfl, ?_⟩) (by assumption) ?_
                      rotate_left
                      · (intro w9 hSw; go_simp; (try with_reducible rfl))
                      (try simp only [Act.put, List.setIfInBounds_toArray, List.set_cons_zero, List.set_cons_succ])
                      refine wpAnyH_take (i := 5) (oi := { dst := some 113, op := _, type := _, pos := _, after := _, guard := _ }) (v := ?_) rfl (by kernel_rfl) (by kernel_rfl) (by kernel_rfl) (fun _ _ _ h => h) (Or.inl ⟨by rfl, ?_⟩) (by assumption) ?_
                      rotate_left
                      · (intro w9 hSw; have q9 := hSw.cellq zr1; go_simp; (try with_reducible rfl))
                      (try simp only [Act.put, List.setIfInBounds_toArray, List.set_cons_zero, List.set_cons_succ])
                      refine wpAnyH_take (i := 6) (oi := { dst := some 114, op := _, type := _, pos := _, after := _, guard := _ }) (v := ?_) rfl (by kernel_rfl) (by kernel_rfl) (by kernel_rfl) (fun _ _ _ h => h) (Or.inl ⟨by rfl, ?_⟩) (by assumption) ?_
                      rotate_left
                      · (intro w9 hSw; go_simp; (try with_reducible rfl))
                      (try simp only [Act.put, List.setIfInBounds_toArray, List.set_cons_zero, List.set_cons_succ])
                      refine wpAnyH_take (i := 7) (oi := { dst := some 115, op := _, type := _, pos := _, after := _, guard := _ }) (v := ?_) rfl (by kernel_rfl) (by kernel_rfl) (by kernel_rfl) (fun _ _ _ h => h) (Or.inl ⟨by rfl, ?_⟩) (by assumption) ?_
                      rotate_left
                      · (intro w9 hSw; go_simp; (try with_reducible rfl))
                      (try simp only [Act.put, List.setIfInBounds_toArray, List.set_cons_zero, List.set_cons_succ])
                      refine wpAnyH_take (i := 8) (oi := { dst := some 116, op := _, type := _, pos := _, after := _, guard := _ }) (v := ?_) rfl (by kernel_rfl) (by kernel_rfl) (by kernel_rfl) (fun _ _ _ h => h) (Or.inl ⟨by rfl, ?_⟩) (by assumption) ?_
                      rotate_left
                      · (intro w9 hSw; have q9 := hSw.cellq zg1; go_simp; (try with_reducible rfl))
                      (try simp only [Act.put, List.setIfInBounds_toArray, List.set_cons_zero, List.set_cons_succ])
                      refine wpAnyH_take (i := 9) (oi := { dst := some 117, op := _, type := _, pos := _, after := _, guard := _ }) (v := ?_) rfl (by kernel_rfl) (by kernel_rfl) (by kernel_rfl) (fun _ _ _ h => h) (Or.inl ⟨by rfl, ?_⟩) (by assumption) ?_
                      rotate_left
                      · (intro w9 hSw; have q9 := HT1.out w9 hSw; go_simp; (try with_reducible rfl))
                      (try simp only [Act.put, List.setIfInBounds_toArray, List.set_cons_zero, List.set_cons_succ])
                      refine wpAnyH_take (i := 10) (oi := { dst := some 118, op := _, type := _, pos := _, after := _, guard := _ }) (v := ?_) rfl (by kernel_rfl) (by kernel_rfl) (by kernel_rfl) (fun _ _ _ h => h) (Or.inl ⟨by rfl, ?_⟩) (by assumption) ?_
                      rotate_left
                      · (intro w9 hSw; go_simp; (try with_reducible rfl))
                      (try simp only [Act.put, List.setIfInBounds_toArray, List.set_cons_zero, List.set_cons_succ])
                      refine wpAnyH_take (i := 11) (oi := { dst := some 119, op := _, type := _, pos := _, after := _, guard := _ }) (v := ?_) rfl (by kernel_rfl) (by kernel_rfl) (by kernel_rfl) (fun _ _ _ h => h) (Or.inl ⟨by rfl, ?_⟩) (by assumption) ?_
                      rotate_left
                      · (intro w9 hSw; go_simp; (try with_reducible rfl))
                      (try simp only [Act.put, List.setIfInBounds_toArray, List.set_cons_zero, List.set_cons_succ])
                      refine wpAnyH_take (i := 12) (oi := { dst := some 120, op := _, type := _, pos := _, after := _, guard := _ }) (v := ?_) rfl (by kernel_rfl) (by kernel_rfl) (by kernel_rfl) (fun _ _ _ h => h) (Or.inl ⟨by rfl, ?_⟩) (by assumption) ?_
                      rotate_left
                      · (intro w9 hSw; go_simp; (try with_reducible rfl))
                      (try simp only [Act.put, List.setIfInBounds_toArray, List.set_cons_zero, List.set_cons_succ])
                      refine wpAnyH_take (i := 13) (oi := { dst := some 121, op := _, type := _, pos := _, after := _, guard := _ }) (v := ?_) rfl (by kernel_rfl) (by kernel_rfl) (by kernel_rfl) (fun _ _ _ h => h) (Or.inl ⟨by rfl, ?_⟩) (by assumption) ?_
                      rotate_left
                      · (intro w9 hSw; have q9 := hSw.cellq zr2; go_simp; (try with_reducible rfl))
                      (try simp only [Act.put, List.setIfInBounds_toArray, List.set_cons_zero, List.set_cons_succ])
                      refine wpAnyH_take (i := 14) (oi := { dst := some 122, op := _, type := _, pos := _, after := _, guard := _ }) (v := ?_) rfl (by kernel_rfl) (by kernel_rfl) (by kernel_rfl) (fun _ _ _ h => h) (Or.inl ⟨by rfl, ?_⟩) (by assumption) ?_
                      rotate_left
                      · (intro w9 hSw; go_simp; (try with_reducible rfl))
                      (try simp only [Act.put, List.setIfInBounds_toArray, List.set_cons_zero, List.set_cons_succ])
                      refine wpAnyH_take (i := 15) (oi := { dst := some 123, op := _, type := _, pos := _, after := _, guard := _ }) (v := ?_) rfl (by kernel_rfl) (by kernel_rfl) (by kernel_rfl) (fun _ _ _ h => h) (Or.inl ⟨by rfl, ?_⟩) (by assumption) ?_
                      rotate_left
                      · (intro w9 hSw; go_simp; (try with_reducible rfl))
                      (try simp only [Act.put, List.setIfInBounds_toArray, List.set_cons_zero, List.set_cons_succ])
                      refine wpAnyH_take (i := 16) (oi := { dst := some 124, op := _, type := _, pos := _, after := _, guard := _ }) (v := ?_) rfl (by kernel_rfl) (by kernel_rfl) (by kernel_rfl) (fun _ _ _ h => h) (Or.inl ⟨by rfl, ?_⟩) (by assumption) ?_
                      rotate_left
                      · (intro w9 hSw; have q9 := hSw.cellq zg2; go_simp; (try with_reducible rfl))
                      (try simp only [Act.put, List.setIfInBounds_toArray, List.set_cons_zero, List.set_cons_succ])
                      refine wpAnyH_take (i := 17) (oi := { dst := some 125, op := _, type := _, pos := _, after := _, guard := _ }) (v := ?_) rfl (by kernel_rfl) (by kernel_rfl) (by kernel_rfl) (fun _ _ _ h => h) (Or.inl ⟨by rfl, ?_⟩) (by assumption) ?_
                      rotate_left
                      · (intro w9 hSw; have q9 := HT2.out w9 hSw; go_simp; (try with_reducible rfl))
                      (try simp only [Act.put, List.setIfInBounds_toArray, List.set_cons_zero, List.set_cons_succ])
                      refine wpAnyH_take (i := 18) (oi := { dst := some 126, op := _, type := _, pos := _, after := _, guard := _ }) (v := ?_) rfl (by kernel_rfl) (by kernel_rfl) (by kernel_rfl) (fun _ _ _ h => h) (Or.inl ⟨by rfl, ?_⟩) (by assumption) ?_
                      rotate_left
                      · (intro w9 hSw; go_simp; (try with_reducible rfl))
                      (try simp only [Act.put, List.setIfInBounds_toArray, List.set_cons_zero, List.set_cons_succ])
                      refine wpAnyH_take (i := 19) (oi := { dst := some 127, op := _, type := _, pos := _, after := _, guard := _ }) (v := ?_) rfl (by kernel_rfl) (by kernel_rfl) (by kernel_rfl) (fun _ _ _ h => h) (Or.inl ⟨by rfl, ?_⟩) (by assumption) ?_
                      rotate_left
                      · (intro w9 hSw; go_simp; (try with_reducible rfl))
                      (try simp only [Act.put, List.setIfInBounds_toArray, List.set_cons_zero, List.set_cons_succ])
                      refine wpAnyH_take (i := 20) (oi := { dst := some 13, op := _, type := _, pos := _, after := _, guard := _ }) (v := ?_) rfl (by kernel_rfl) (by kernel_rfl) (by kernel_rfl) (fun _ _ _ h => h) (Or.inl ⟨by rfl, ?_⟩) (by assumption) ?_
                      rotate_left
                      · (intro w9 hSw; go_simp; (try with_reducible rfl))
                      (try simp only [Act.put, List.setIfInBounds_toArray, List.set_cons_zero, List.set_cons_succ])
                      refine wpAnyH_done (by kernel_rfl) ?_ _
                      go_wp2_with fail
                      go_roundg (gk - 1)
                      case measure => have := HKG.out; omega
                      case rel => exact ⟨k + 1, by have := HKG.out; omega, by go_num, by rw [HD.out], hidMk (HK.out.trans hHeld)⟩
                  · rw [decide_eq_false hP]
                    have HD := hidMk (show decide (∀ j, j < k + 1 → blk s.F j = blk s2.F j) = false from HNX.out.2 hP)
                    clear hP HNX HT1 HT2
                    go_wp2_with fail
                    go_quiet (fail)
                    go_wp2_with fail
                    go_roundg (gk - 1)
                    case measure => have := HKG.out; omega
                    case rel => exact ⟨k + 1, by have := HKG.out; omega, by go_num, by rw [HD.out], hidMk (HK.out.drewN _)⟩
                · have hk4 : k = 4 := by omega
                  go_wp2_with fail
                  refine (show Calls Try.prog 9 #[.int .i64 3] wr _ from bk_New 3 wr).mono ?_
                  intro e w6 h6
                  rw [if_pos (by omega)] at h6
                  obtain ⟨fo, d_o, rfl, _, _, f6, k6⟩ := h6
                  have FO := hidMk (show Fl w6 fo d_o 3 (news 3) from f6)
                  have K6 := hidMk (HK.out.trans k6)
                  have HBA := hidMk (HBo.out.kept K6.out)
                  have HBB := hidMk (HBc.out.kept K6.out)
                  clear f6 k6
                  have HS1 := hidMk (show ∀ W, Kept w6 W → Calls Try.prog 24 #[.pointer (some ⟨f, 0, none⟩), .pointer (some ⟨f2, 0, none⟩)] W fun e w' => e = .returned (.bool (decide (s.F = s2.F))) ∧ Kept W w' from fun W q => bk_Same (HBA.out.fl.kept q) (HBB.out.fl.kept q))
                  have HS2 := hidMk (show ∀ W, Kept w6 W → Calls Try.prog 24 #[.pointer (some ⟨f2, 0, none⟩), .pointer (some ⟨f, 0, none⟩)] W fun e w' => e = .returned (.bool (decide (s.F = s2.F))) ∧ Kept W w' from fun W q => by rw [show decide (s.F = s2.F) = decide (s2.F = s.F) by rw [decide_eq_decide]; exact ⟨Eq.symm, Eq.symm⟩]; exact bk_Same (HBB.out.fl.kept q) (HBA.out.fl.kept q))
                  have HS3 := hidMk (show ∀ W, Kept w6 W → Calls Try.prog 24 #[.pointer (some ⟨f, 0, none⟩), .pointer (some ⟨f, 0, none⟩)] W fun e w' => e = .returned (.bool true) ∧ Kept W w' from fun W q => by have h9 := bk_Same (HBA.out.fl.kept q) (HBA.out.fl.kept q); rw [decide_eq_true rfl] at h9; exact h9)
                  have HS4 := hidMk (show ∀ W, Kept w6 W → Calls Try.prog 24 #[.pointer (some ⟨f, 0, none⟩), .pointer (some ⟨fo, 0, none⟩)] W fun e w' => e = .returned (.bool false) ∧ Kept W w' from fun W q => by have h9 := bk_Same (HBA.out.fl.kept q) (FO.out.kept q); rw [decide_eq_false (fun e => by have h1 := HBA.out.fl.len; rw [e] at h1; simp [news] at h1)] at h9; exact h9)
                  rw [all_blk hk4 HBA.out.fl.len HBB.out.fl.len]
                  clear HBo HBc HK
                  generalize decide (s.F = s2.F) = E at *
                  cases E with
                  | true =>
                    go_wp2_with fail
                    refine (HS1.out _ (Kept.refl _)).mono ?_
                    rintro e x1 ⟨rfl, j1⟩
                    go_wp2_with fail
                    refine (HS2.out _ j1).mono ?_
                    rintro e x2 ⟨rfl, j2⟩
                    have J2 := hidMk (j1.trans j2)
                    go_wp2_with fail
                    refine (HS3.out _ J2.out).mono ?_
                    rintro e x3 ⟨rfl, j3⟩
                    have J3 := hidMk (J2.out.trans j3)
                    go_wp2_with fail
                    refine (HS4.out _ J3.out).mono ?_
                    rintro e x4 ⟨rfl, j4⟩
                    have J4 := hidMk (J3.out.trans j4)
                    go_wp2_with fail
                    refine (law23_alike (HBA.out.kept J4.out)).mono ?_
                    rintro e x5 ⟨rfl, j5⟩
                    have J5 := hidMk (J4.out.trans j5)
                    go_wp2_with fail
                    refine (law23_alike (HBB.out.kept J5.out)).mono ?_
                    rintro e x6 ⟨rfl, j6⟩
                    have J6 := hidMk (J5.out.trans j6)
                    go_wp2_with (go_at_call 10; refine (law23_known _).mono ?_; rintro e x7 ⟨rfl, j7⟩)
                    go_ret
                    exact ⟨rfl, (HBA.out.kp.trans J6.out).trans j7⟩
                  | false =>
                    go_wp2_with fail
                    refine (HS1.out _ (Kept.refl _)).mono ?_
                    rintro e x1 ⟨rfl, j1⟩
                    go_wp2_with fail
                    refine (HS2.out _ j1).mono ?_
                    rintro e x2 ⟨rfl, j2⟩
                    have J2 := hidMk (j1.trans j2)
                    go_wp2_with fail
                    refine (HS3.out _ J2.out).mono ?_
                    rintro e x3 ⟨rfl, j3⟩
                    have J3 := hidMk (J2.out.trans j3)
                    go_wp2_with fail
                    refine (HS4.out _ J3.out).mono ?_
                    rintro e x4 ⟨rfl, j4⟩
                    have J4 := hidMk (J3.out.trans j4)
                    go_wp2_with fail
                    refine (law23_alike (HBA.out.kept J4.out)).mono ?_
                    rintro e x5 ⟨rfl, j5⟩
                    have J5 := hidMk (J4.out.trans j5)
                    go_wp2_with fail
                    refine (law23_alike (HBB.out.kept J5.out)).mono ?_
                    rintro e x6 ⟨rfl, j6⟩
                    have J6 := hidMk (J5.out.trans j6)
                    go_wp2_with (go_at_call 10; refine (law23_known _).mono ?_; rintro e x7 ⟨rfl, j7⟩)
                    go_ret
                    exact ⟨rfl, (HBA.out.kp.trans J6.out).trans j7⟩
end Go.Proofs.Ytcmhfmbpbbdemaa
