/- BlockPlays: a file that is played with. -/
import Derived.Test.YtcmhfmbpbbdemaaBj2
namespace Go.Proofs.Ytcmhfmbpbbdemaa
open Go.RowKit Go.Maps
set_option linter.unusedSimpArgs false
set_option linter.unusedVariables false

theorem wrS_wr {s : Bf} {N : Nat} {n : Int} {l : List Int} {k : Int} (h : Ok s) (hk : s.wr ≤ k) : (wrS s N n l).wr ≤ k + 1 := by have := (wrS_ok (N := N) (n := n) (l := l) h).2; omega
set_option maxHeartbeats 16000000 in
set_option maxRecDepth 100000 in
theorem law_BlockPlays (bl : Int) (a : Option Addr) (N c : Nat) (l : List Ab) (w : World) (hs : Aq w a N l) : Calls Try.prog 3 #[.int .i64 bl, .slice a N c] w fun e w' => e = .returned (.bool true) ∧ Kept w w' := by
  have hbig := hs.big
  unfold maxLen at hbig
  have HS := hidMk hs
  have HN := hidMk (bk_New bl w)
  clear hs
  by_cases hbl : 1 ≤ bl ∧ bl ≤ 4096
  case neg =>
    simp only [if_neg hbl] at HN
    rcases (by omega : bl < 1 ∨ (1 ≤ bl ∧ 4096 < bl)) with h1 | ⟨h1, h2⟩
    all_goals
      clear hbl
      go_enter Try.func3, Try.ntmps3
      go_wp2_with (first | (go_at_call 9; refine HN.out.mono ?_; rintro e w1 ⟨rfl, rfl⟩) | (go_at_call 10; refine (law23_known _).mono ?_; rintro e w6 ⟨rfl, k6⟩))
      go_ret
      exact ⟨rfl, k6⟩
  simp only [if_pos hbl] at HN
  obtain ⟨nb, rfl⟩ : ∃ nb : Nat, bl = nb := ⟨bl.toNat, by omega⟩
  rw [Int.toNat_natCast] at HN
  have hn1 : (1 : Int) ≤ (nb : Int) := by omega
  have hn2 : (nb : Int) ≤ 4096 := by omega
  clear hbl
  by_cases h12 : 12 < nb
  · have h12' : (12 : Int) < (nb : Int) := by omega
    go_enter Try.func3, Try.ntmps3
    go_wp2_with fail
    refine HN.out.mono ?_
    rintro e w1 ⟨f, d, rfl, hf, hd, f1, q1⟩
    have F1 := hidMk f1
    have Q1 := hidMk q1
    clear f1 q1
    go_wp2_with (first | (go_at_call 11; refine (bk_Size F1.out).mono ?_; rintro e w2 ⟨rfl, hw2⟩; rw [hw2]; clear hw2 w2) | (go_at_call 10; refine (law23_known _).mono ?_; rintro e w6 ⟨rfl, k6⟩))
    go_ret
    exact ⟨rfl, Q1.out.trans k6⟩
  have h12' : (nb : Int) ≤ 12 := by omega
  obtain ⟨M, hM⟩ : ∃ M, M = if N ≤ 60 then N else 60 := ⟨_, rfl⟩
  have hM1 : M ≤ N := by rw [hM]; split <;> omega
  have hM2 : M ≤ 60 := by rw [hM]; split <;> omega
  have hM3 : M = N ∨ M = 60 := by rw [hM]; split <;> omega
  clear hM
  go_enter Try.func3, Try.ntmps3
  go_wp2_with fail
  refine HN.out.mono ?_
  rintro e w1 ⟨f0, d0, rfl, hf0, hd0, f1, q1⟩
  have F1 := hidMk f1
  have Q1 := hidMk q1
  clear f1 q1 HN
  go_wp2_with fail
  refine (bo_new F1.out Q1.out hf0 hd0 (by omega) (by omega)).mono ?_
  rintro e w2 ⟨B0, r0, v0, gs0, cs0, rfl, b2⟩
  have HB0 := hidMk b2
  clear b2 F1 Q1 hf0 hd0
  go_wp2_with fail
  go_loopg [5, 7, 9] M (fun gg fv rv iv wr => ∃ (k f d : Nat) (s : Bf) (B r : Nat) (v : Value) (gs cs : Nat → Nat) (u y : Int), k + gg = M ∧ iv = .int .i64 (k : Int) ∧ fv = .pointer (some ⟨f, 0, none⟩) ∧ rv = .pointer (some ⟨r, 0, none⟩) ∧ Hid (Bo w wr f d nb s B r v gs cs s u y) ∧ Hid (s.wr ≤ (k : Int)))
  case atStart => exact ⟨0, _, _, _, _, _, _, _, _, _, _, by omega, rfl, rfl, rfl, HB0, hidMk (Int.le_refl _)⟩
  case round =>
    obtain ⟨k, f, d, s, B, r, v, gs, cs, u, y, hkg, rfl, rfl, rfl, HB, HWRK⟩ := hrel
    have HKG := hidMk hkg
    obtain ⟨gi, hgi⟩ : ∃ gi, gi = gk := ⟨_, rfl⟩
    subst hgi
    by_cases hkM : k < M
    · have hk1 : (k : Int) < (N : Int) := by omega
      have hk2 : (k : Int) < 60 := by omega
      have hk3 : k < N := by omega
      have hk0 : (0 : Int) ≤ (k : Int) := by omega
      obtain ⟨ab, ao, rfl, hab, _⟩ := HS.out.cells (by omega)
      obtain ⟨_, p0, p1, p2, p3⟩ := HS.out.at HB.out.kp hk3
      obtain ⟨sl, sb, si1, si2, si3⟩ := HS.out.sl k hk3
      have hab2 : ab < wr.heap.size := Nat.lt_of_lt_of_le hab HB.out.kp.size
      have HSL0 := hidMk sl
      have HIB := hidMk sb
      have HI2 := hidMk si2
      have HWR := hidMk (show s.wr ≤ 61 by have := HWRK.out; omega)
      clear sb si1 si2 si3 hkg
      have HAD := hidMk (show ∀ ad, (abA l k).2.2.2.1.1 = some ad → 0 < (abA l k).2.2.2.1.2.1 → ad.block < w.heap.size from fun ad e hp => by
        obtain ⟨b', o', e', h', _⟩ := sl.cells hp
        rw [e] at e'; cases e'; exact h')
      clear sl
      generalize hA : abA l k = A at *
      clear hA
      obtain ⟨xk, xn, xk2, ⟨xa, xm, xc⟩, xl⟩ := A
      dsimp only at *
      obtain ⟨W1, hW1⟩ : ∃ W, W = wr.alloc (.cells #[.int .i64 xk, .int .i64 xn, .int .i64 xk2, .slice xa xm xc] 34) := ⟨_, rfl⟩
      have HW1 := hidMk hW1
      have HK1 := hidMk (show Kept wr W1 by rw [hW1]; exact (Kept.refl _).alloc _)
      have HB1 := hidMk (HB.out.kept HK1.out)
      have HQ := hidMk (show W1.heap.size = wr.heap.size + 1 ∧ W1.cell? ⟨wr.heap.size, 0, none⟩ = some (.int .i64 xk) ∧ W1.cell? ⟨wr.heap.size, 1, none⟩ = some (.int .i64 xn) ∧ W1.cell? ⟨wr.heap.size, 2, none⟩ = some (.int .i64 xk2) ∧ W1.cell? ⟨wr.heap.size, 3, none⟩ = some (.slice xa xm xc) by rw [hW1]; simp)
      have HSL := hidMk (HSL0.out.kept HB1.out.kp)
      have hfl := HB.out.fl.lt
      have hdl := HB.out.fl.dt.lt
      have HAGf := hidMk (show ¬ Of f d wr.heap.size from fun e => by rcases e with e | e <;> omega)
      have HAGr := hidMk (show ¬ RS r v nb gs wr.heap.size from fun e => by have := (HB.out.rge _ e).2; omega)
      clear hW1
      by_cases hz0 : xk.tmod 5 = 0
      · have hz0' : (xk.tmod 5 == 0) = true := by simpa using hz0
        go_wp2_with fail
        rw [← HW1.out]
        obtain ⟨hagl', q0, q1, q2, q3⟩ := HQ.out
        have hagl : wr.heap.size < W1.heap.size := by omega
        clear HW1 p0 p1 p2 p3
        refine wp_region_held_drew (S := (fun w9 => w9.cell? ⟨wr.heap.size, 1, none⟩ = some (.int .i64 xn) ∧ w9.cell? ⟨wr.heap.size, 3, none⟩ = some (.slice xa xm xc))) (by kernel_rfl) ?_ (fun hHeld => ?_)
        · exact ⟨q1, q3⟩
        refine wpAnyH_take (i := 0) (oi := { dst := some 87, op := _, type := _, pos := _, after := _, guard := _ }) (v := ?_) rfl (by kernel_rfl) (by kernel_rfl) (by kernel_rfl) (fun _ _ _ h => h) (Or.inl ⟨by rfl, ?_⟩) (by assumption) ?_
        rotate_left
        · (intro w9 hSw; (try dsimp only at hSw); (try obtain ⟨hSw1, hSw2⟩ := hSw); go_simp; (try with_reducible rfl))
        (try simp only [Act.put, List.setIfInBounds_toArray, List.set_cons_zero, List.set_cons_succ])
        refine wpAnyH_take (i := 1) (oi := { dst := some 88, op := _, type := _, pos := _, after := _, guard := _ }) (v := ?_) rfl (by kernel_rfl) (by kernel_rfl) (by kernel_rfl) (fun _ _ _ h => h) (Or.inl ⟨by rfl, ?_⟩) (by assumption) ?_
        rotate_left
        · (intro w9 hSw; (try dsimp only at hSw); (try obtain ⟨hSw1, hSw2⟩ := hSw); go_simp; (try with_reducible rfl))
        (try simp only [Act.put, List.setIfInBounds_toArray, List.set_cons_zero, List.set_cons_succ])
        refine wpAnyH_take (i := 2) (oi := { dst := some 89, op := _, type := _, pos := _, after := _, guard := _ }) (v := ?_) rfl (by kernel_rfl) (by kernel_rfl) (by kernel_rfl) (fun _ _ _ h => h) (Or.inl ⟨by rfl, ?_⟩) (by assumption) ?_
        rotate_left
        · (intro w9 hSw; (try dsimp only at hSw); (try obtain ⟨hSw1, hSw2⟩ := hSw); go_simp; (try with_reducible rfl))
        (try simp only [Act.put, List.setIfInBounds_toArray, List.set_cons_zero, List.set_cons_succ])
        refine wpAnyH_take (i := 3) (oi := { dst := some 90, op := _, type := _, pos := _, after := _, guard := _ }) (v := ?_) rfl (by kernel_rfl) (by kernel_rfl) (by kernel_rfl) (fun _ _ _ h => h) (Or.inl ⟨by rfl, ?_⟩) (by assumption) ?_
        rotate_left
        · (intro w9 hSw; (try dsimp only at hSw); (try obtain ⟨hSw1, hSw2⟩ := hSw); go_simp; (try with_reducible rfl))
        (try simp only [Act.put, List.setIfInBounds_toArray, List.set_cons_zero, List.set_cons_succ])
        refine wpAnyH_take (i := 4) (oi := { dst := some 91, op := _, type := _, pos := _, after := _, guard := _ }) (v := ?_) rfl (by kernel_rfl) (by kernel_rfl) (by kernel_rfl) (fun _ _ _ h => h) (Or.inl ⟨by rfl, ?_⟩) (by assumption) ?_
        rotate_left
        · (intro w9 hSw; (try dsimp only at hSw); (try obtain ⟨hSw1, hSw2⟩ := hSw); go_simp; (try with_reducible rfl))
        (try simp only [Act.put, List.setIfInBounds_toArray, List.set_cons_zero, List.set_cons_succ])
        refine wpAnyH_take (i := 6) (oi := { dst := some 93, op := _, type := _, pos := _, after := _, guard := _ }) (v := ?_) rfl (by kernel_rfl) (by kernel_rfl) (by kernel_rfl) (fun _ _ _ h => h) (Or.inl ⟨by rfl, ?_⟩) (by assumption) ?_
        rotate_left
        · (intro w9 hSw; (try dsimp only at hSw); (try obtain ⟨hSw1, hSw2⟩ := hSw); go_simp; (try with_reducible rfl))
        (try simp only [Act.put, List.setIfInBounds_toArray, List.set_cons_zero, List.set_cons_succ])
        refine wpAnyH_take (i := 7) (oi := { dst := some 94, op := _, type := _, pos := _, after := _, guard := _ }) (v := ?_) rfl (by kernel_rfl) (by kernel_rfl) (by kernel_rfl) (fun _ _ _ h => h) (Or.inl ⟨by rfl, ?_⟩) (by assumption) ?_
        rotate_left
        · (intro w9 hSw; (try dsimp only at hSw); (try obtain ⟨hSw1, hSw2⟩ := hSw); go_simp; (try with_reducible rfl))
        (try simp only [Act.put, List.setIfInBounds_toArray, List.set_cons_zero, List.set_cons_succ])
        refine wpAnyH_take (i := 8) (oi := { dst := some 95, op := _, type := _, pos := _, after := _, guard := _ }) (v := ?_) rfl (by kernel_rfl) (by kernel_rfl) (by kernel_rfl) (fun _ _ _ h => h) (Or.inl ⟨by rfl, ?_⟩) (by assumption) ?_
        rotate_left
        · (intro w9 hSw; (try dsimp only at hSw); (try obtain ⟨hSw1, hSw2⟩ := hSw); go_simp; (try with_reducible rfl))
        (try simp only [Act.put, List.setIfInBounds_toArray, List.set_cons_zero, List.set_cons_succ])
        refine wpAnyH_take (i := 9) (oi := { dst := some 96, op := _, type := _, pos := _, after := _, guard := _ }) (v := ?_) rfl (by kernel_rfl) (by kernel_rfl) (by kernel_rfl) (fun _ _ _ h => h) (Or.inl ⟨by rfl, ?_⟩) (by assumption) ?_
        rotate_left
        · (intro w9 hSw; (try dsimp only at hSw); (try obtain ⟨hSw1, hSw2⟩ := hSw); go_simp; (try with_reducible rfl))
        (try simp only [Act.put, List.setIfInBounds_toArray, List.set_cons_zero, List.set_cons_succ])
        refine wpAnyH_take (i := 10) (oi := { dst := some 97, op := _, type := _, pos := _, after := _, guard := _ }) (v := ?_) rfl (by kernel_rfl) (by kernel_rfl) (by kernel_rfl) (fun _ _ _ h => h) (Or.inl ⟨by rfl, ?_⟩) (by assumption) ?_
        rotate_left
        · (intro w9 hSw; (try dsimp only at hSw); (try obtain ⟨hSw1, hSw2⟩ := hSw); go_simp; (try with_reducible rfl))
        (try simp only [Act.put, List.setIfInBounds_toArray, List.set_cons_zero, List.set_cons_succ])
        refine wpAnyH_ready (rs := [5]) (by kernel_rfl) (by simp) ?_
        refine AllReadyH.cons (o := { dst := some 92, op := _, type := _, pos := _, after := _, guard := _ }) rfl (fun K hK => ?_) AllReadyH.nil
        go_simp
        refine (bo_WrP (HB1.out.kept (Kept.refl _).drew) (by have := HWR.out; omega) xn xa xm xc xl (HSL.out.kept (Kept.refl _).drew) HIB.out).mono ?_
        rintro e w3 ⟨rfl, b3, c3⟩
        have HB3 := hidMk b3
        have HC3 := hidMk (show Chg (Of f d) W1 w3 from (Chg.refl _ _).drew.trans c3)
        clear b3 c3
        (try go_wp2_with fail)
        refine hK.out _ _ ?_ (fun hHeld => ?_)
        · first | (exact ⟨(HC4.out.cell (p := ⟨wr.heap.size, 1, none⟩) (Nat.lt_of_lt_of_le hagl HC3.out.size) HAGr.out).trans ((HC3.out.cell (p := ⟨wr.heap.size, 1, none⟩) hagl HAGf.out).trans q1), (HC4.out.cell (p := ⟨wr.heap.size, 3, none⟩) (Nat.lt_of_lt_of_le hagl HC3.out.size) HAGr.out).trans ((HC3.out.cell (p := ⟨wr.heap.size, 3, none⟩) hagl HAGf.out).trans q3)⟩) | (exact ⟨(HC3.out.cell (p := ⟨wr.heap.size, 1, none⟩) hagl HAGf.out).trans q1, (HC3.out.cell (p := ⟨wr.heap.size, 3, none⟩) hagl HAGf.out).trans q3⟩)
        clear hK K
        (try simp only [Act.put, List.setIfInBounds_toArray, List.set_cons_zero, List.set_cons_succ])
        refine wpAnyH_ready (rs := [11]) (by kernel_rfl) (by simp) ?_
        refine AllReadyH.cons (o := { dst := some 98, op := _, type := _, pos := _, after := _, guard := _ }) rfl (fun K hK => ?_) AllReadyH.nil
        go_simp
        refine (bo_WrR HB3.out (by have := HWR.out; omega) xn xa xm xc xl (HSL0.out.kept HB3.out.kp) HIB.out HAD.out).mono ?_
        rintro e w4 ⟨rfl, u4, y4, b4, c4⟩
        have HB4 := hidMk b4
        have HC4 := hidMk c4
        clear b4 c4
        (try go_wp2_with fail)
        refine hK.out _ _ ?_ (fun hHeld => ?_)
        · first | (exact ⟨(HC4.out.cell (p := ⟨wr.heap.size, 1, none⟩) (Nat.lt_of_lt_of_le hagl HC3.out.size) HAGr.out).trans ((HC3.out.cell (p := ⟨wr.heap.size, 1, none⟩) hagl HAGf.out).trans q1), (HC4.out.cell (p := ⟨wr.heap.size, 3, none⟩) (Nat.lt_of_lt_of_le hagl HC3.out.size) HAGr.out).trans ((HC3.out.cell (p := ⟨wr.heap.size, 3, none⟩) hagl HAGf.out).trans q3)⟩) | (exact ⟨(HC3.out.cell (p := ⟨wr.heap.size, 1, none⟩) hagl HAGf.out).trans q1, (HC3.out.cell (p := ⟨wr.heap.size, 3, none⟩) hagl HAGf.out).trans q3⟩)
        clear hK K
        (try simp only [Act.put, List.setIfInBounds_toArray, List.set_cons_zero, List.set_cons_succ])
        refine wpAnyH_take (i := 12) (oi := { dst := some 99, op := _, type := _, pos := _, after := _, guard := _ }) (v := ?_) rfl (by kernel_rfl) (by kernel_rfl) (by kernel_rfl) (fun _ _ _ h => h) (Or.inl ⟨by rfl, ?_⟩) (by assumption) ?_
        rotate_left
        · (intro w9 hSw; (try dsimp only at hSw); (try obtain ⟨hSw1, hSw2⟩ := hSw); go_simp; (try with_reducible rfl))
        (try simp only [Act.put, List.setIfInBounds_toArray, List.set_cons_zero, List.set_cons_succ])
        refine wpAnyH_done (by kernel_rfl) ?_ _
        go_wp2_with fail
        refine (law23_alike HB4.out).mono ?_
        rintro e w9 ⟨rfl, k9⟩
        have K9 := hidMk k9
        clear k9
        go_wp2_with fail
        go_roundg (gi - 1)
        case measure => have := HKG.out; omega
        case rel => exact ⟨k + 1, _, _, _, _, _, _, _, _, _, _, by have := HKG.out; omega, by go_num, rfl, rfl, hidMk ((HB4.out).kept K9.out), hidMk (wrS_wr HB.out.ok HWRK.out)⟩
      have hz0' : (xk.tmod 5 == 0) = false := by simpa using hz0
      by_cases hz1 : xk.tmod 5 = 1
      · have hz1' : (xk.tmod 5 == 1) = true := by simpa using hz1
        go_wp2_with fail
        rw [← HW1.out]
        obtain ⟨hagl', q0, q1, q2, q3⟩ := HQ.out
        have hagl : wr.heap.size < W1.heap.size := by omega
        clear HW1 p0 p1 p2 p3
        obtain ⟨X, hX⟩ : ∃ X, X = if bad s nb xn = 0 then blk s.F xn.toNat else [] := ⟨_, rfl⟩
        have HXB := hidMk (show ∀ x ∈ X, isB x by
          rw [hX]
          split
          · exact fun x hx => HB.out.fl.isb x (List.mem_of_mem_drop (List.mem_of_mem_take hx))
          · simp)
        have HXL := hidMk (show X.length ≤ 32 by
          rw [hX]
          split
          · simp [blk]; omega
          · simp)
        have HRR := hidMk (show ∀ W, Kept W1 W → Calls Try.prog 16 #[.pointer (some ⟨r, 0, none⟩), .int .i64 xn] W fun e w' => ∃ z, e = .returned (.tuple #[z, .int .i64 (bad s nb xn)]) ∧ Owned W w' z X ∧ Kept W w' from fun W q => by rw [hX]; exact r23_Read (HB1.out.rf.kept q) HB.out.n0 (by have := HB.out.n1; omega) xn)
        have HRP := hidMk (show Calls Try.prog 15 #[.pointer (some ⟨f, 0, none⟩), .int .i64 xn] W1 fun e w' => ∃ v, e = .returned (.tuple #[v, .int .i64 (bad s nb xn)]) ∧ Owned W1 w' v X ∧ Kept W1 w' from by rw [hX]; exact bk_Read HB1.out.fl xn)
        clear hX
        generalize bad s nb xn = bd at *
        refine HRP.out.mono ?_
        rintro e w3 ⟨v3, rfl, o3, k3⟩
        have hxl := HXL.out
        obtain ⟨a3, c3, rfl, s3, _, _⟩ := owned_sl o3 (by unfold maxLen; omega)
        have q1' := k3.cellq q1
        have O3 := hidMk o3
        have K3 := hidMk k3
        clear o3 k3 q0 q1 q2 q3
        obtain ⟨nX, hnX⟩ : ∃ nX, nX = X.length := ⟨_, rfl⟩
        rw [← hnX] at O3 s3 hxl ⊢
        have HNX := hidMk hnX.symm
        have S3 := hidMk s3
        clear s3 HXL HRP
        go_wp2_with fail
        refine (HRR.out _ K3.out).mono ?_
        rintro e w4 ⟨v4, rfl, o4, k4⟩
        obtain ⟨a4, c4, rfl, s4, _, _⟩ := owned_sl o4 (by rw [← hnX]; unfold maxLen; omega)
        rw [← hnX] at s4 ⊢
        have t1 := run_string_sl (c := c3) (S3.out.kept k4) HXB.out
        have t2 := run_string_sl (c := c4) s4 HXB.out
        have HO4 := hidMk (show Owned W1 w4 (.slice a3 nX c3) X from O3.out.kept k4)
        have HB4 := hidMk (HB1.out.kept (K3.out.trans k4))
        clear o4 s4 k4 q1' hnX S3 O3 HRR
        go_wp2_with fail
        clear t1 t2
        go_loopg [15] nX (fun g2 jv wq => ∃ (j : Nat) (m' : List Int), j + g2 = nX ∧ jv = .int .i64 (j : Int) ∧ m'.length = nX ∧ Hid (wq.ownsRow W1.heap.size 5 1 (.slice a3 nX c3) nX (m'.map (Value.int .u8))) ∧ Hid (Bo w wq f d nb s B r v gs cs s u y))
        case atStart => exact ⟨0, X, by omega, rfl, HNX.out, hidMk (by have h9 := HO4.out; unfold Owned at h9; rw [HNX.out] at h9; exact h9), HB4⟩
        case round =>
          obtain ⟨j, m', hjg, rfl, hml, HO, HBQ⟩ := hrel
          have HJG := hidMk hjg
          by_cases hj : j < nX
          · have hj' : (j : Int) < (nX : Int) := by omega
            obtain ⟨gx, rfl, hgx⟩ : ∃ gx, a3 = some ⟨gx, 0, none⟩ ∧ W1.heap.size ≤ gx := by
              rcases HO.out.2 with ⟨_, e⟩ | ⟨g, cap, cur, e, hb, _⟩
              · omega
              · cases e; exact ⟨g, rfl, hb⟩
            have hcell := HO.out.cellAt j (by omega)
            have hfr := HO.out.frozenAt j
            have HST := hidMk (HO.out.stored j (.int .u8 255))
            rw [List.getElem?_map, List.getElem?_eq_getElem (by omega)] at hcell
            simp only [Option.map_some] at hcell
            generalize m'[j] = xo at *
            clear hjg
            go_wp2_with fail
            go_roundg (gk - 1)
            case measure => have := HJG.out; omega
            case rel =>
              refine ⟨j + 1, m'.set j 255, by have := HJG.out; omega, by go_num, by simpa using hml, hidMk (by rw [List.map_set]; exact HST.out.1), hidMk ?_⟩
              have hks := HK1.out.size
              refine HBQ.out.chg (S := fun q => q = gx) ((Chg.refl _ _).own _ _) (by omega) (by omega) (fun q e e2 => by have h8 := (HB1.out.rge q e).2; omega) (HBQ.out.kp.setCell (by have := HB1.out.kp.size; show w.heap.size ≤ gx; omega) _)
          · have hjn : j = nX := by omega
            subst hjn
            go_wp2_with fail
            refine (law23_alike HBQ.out).mono ?_
            rintro e w9 ⟨rfl, k9⟩
            have K9 := hidMk k9
            clear k9
            go_wp2_with fail
            go_roundg (gi - 1)
            case measure => have := HKG.out; omega
            case rel => exact ⟨k + 1, _, _, _, _, _, _, _, _, _, _, by have := HKG.out; omega, by go_num, rfl, rfl, hidMk ((HBQ.out).kept K9.out), hidMk (by have := HWRK.out; omega)⟩
      have hz1' : (xk.tmod 5 == 1) = false := by simpa using hz1
      by_cases hz2 : xk.tmod 5 = 2
      · have hz2' : (xk.tmod 5 == 2) = true := by simpa using hz2
        go_wp2_with fail
        rw [← HW1.out]
        obtain ⟨hagl', q0, q1, q2, q3⟩ := HQ.out
        have hagl : wr.heap.size < W1.heap.size := by omega
        clear HW1 p0 p1 p2 p3
        refine wp_region_held_drew (S := (fun w9 => w9.cell? ⟨wr.heap.size, 1, none⟩ = some (.int .i64 xn) ∧ w9.cell? ⟨wr.heap.size, 2, none⟩ = some (.int .i64 xk2))) (by kernel_rfl) ?_ (fun hHeld => ?_)
        · exact ⟨q1, q2⟩
        refine wpAnyH_take (i := 0) (oi := { dst := some 137, op := _, type := _, pos := _, after := _, guard := _ }) (v := ?_) rfl (by kernel_rfl) (by kernel_rfl) (by kernel_rfl) (fun _ _ _ h => h) (Or.inl ⟨by rfl, ?_⟩) (by assumption) ?_
        rotate_left
        · (intro w9 hSw; (try dsimp only at hSw); (try obtain ⟨hSw1, hSw2⟩ := hSw); go_simp; (try with_reducible rfl))
        (try simp only [Act.put, List.setIfInBounds_toArray, List.set_cons_zero, List.set_cons_succ])
        refine wpAnyH_take (i := 1) (oi := { dst := some 138, op := _, type := _, pos := _, after := _, guard := _ }) (v := ?_) rfl (by kernel_rfl) (by kernel_rfl) (by kernel_rfl) (fun _ _ _ h => h) (Or.inl ⟨by rfl, ?_⟩) (by assumption) ?_
        rotate_left
        · (intro w9 hSw; (try dsimp only at hSw); (try obtain ⟨hSw1, hSw2⟩ := hSw); go_simp; (try with_reducible rfl))
        (try simp only [Act.put, List.setIfInBounds_toArray, List.set_cons_zero, List.set_cons_succ])
        refine wpAnyH_take (i := 2) (oi := { dst := some 139, op := _, type := _, pos := _, after := _, guard := _ }) (v := ?_) rfl (by kernel_rfl) (by kernel_rfl) (by kernel_rfl) (fun _ _ _ h => h) (Or.inl ⟨by rfl, ?_⟩) (by assumption) ?_
        rotate_left
        · (intro w9 hSw; (try dsimp only at hSw); (try obtain ⟨hSw1, hSw2⟩ := hSw); go_simp; (try with_reducible rfl))
        (try simp only [Act.put, List.setIfInBounds_toArray, List.set_cons_zero, List.set_cons_succ])
        refine wpAnyH_take (i := 3) (oi := { dst := some 140, op := _, type := _, pos := _, after := _, guard := _ }) (v := ?_) rfl (by kernel_rfl) (by kernel_rfl) (by kernel_rfl) (fun _ _ _ h => h) (Or.inl ⟨by rfl, ?_⟩) (by assumption) ?_
        rotate_left
        · (intro w9 hSw; (try dsimp only at hSw); (try obtain ⟨hSw1, hSw2⟩ := hSw); go_simp; (try with_reducible rfl))
        (try simp only [Act.put, List.setIfInBounds_toArray, List.set_cons_zero, List.set_cons_succ])
        refine wpAnyH_take (i := 4) (oi := { dst := some 141, op := _, type := _, pos := _, after := _, guard := _ }) (v := ?_) rfl (by kernel_rfl) (by kernel_rfl) (by kernel_rfl) (fun _ _ _ h => h) (Or.inl ⟨by rfl, ?_⟩) (by assumption) ?_
        rotate_left
        · (intro w9 hSw; (try dsimp only at hSw); (try obtain ⟨hSw1, hSw2⟩ := hSw); go_simp; (try with_reducible rfl))
        (try simp only [Act.put, List.setIfInBounds_toArray, List.set_cons_zero, List.set_cons_succ])
        refine wpAnyH_take (i := 6) (oi := { dst := some 143, op := _, type := _, pos := _, after := _, guard := _ }) (v := ?_) rfl (by kernel_rfl) (by kernel_rfl) (by kernel_rfl) (fun _ _ _ h => h) (Or.inl ⟨by rfl, ?_⟩) (by assumption) ?_
        rotate_left
        · (intro w9 hSw; (try dsimp only at hSw); (try obtain ⟨hSw1, hSw2⟩ := hSw); go_simp; (try with_reducible rfl))
        (try simp only [Act.put, List.setIfInBounds_toArray, List.set_cons_zero, List.set_cons_succ])
        refine wpAnyH_take (i := 7) (oi := { dst := some 144, op := _, type := _, pos := _, after := _, guard := _ }) (v := ?_) rfl (by kernel_rfl) (by kernel_rfl) (by kernel_rfl) (fun _ _ _ h => h) (Or.inl ⟨by rfl, ?_⟩) (by assumption) ?_
        rotate_left
        · (intro w9 hSw; (try dsimp only at hSw); (try obtain ⟨hSw1, hSw2⟩ := hSw); go_simp; (try with_reducible rfl))
        (try simp only [Act.put, List.setIfInBounds_toArray, List.set_cons_zero, List.set_cons_succ])
        refine wpAnyH_take (i := 8) (oi := { dst := some 145, op := _, type := _, pos := _, after := _, guard := _ }) (v := ?_) rfl (by kernel_rfl) (by kernel_rfl) (by kernel_rfl) (fun _ _ _ h => h) (Or.inl ⟨by rfl, ?_⟩) (by assumption) ?_
        rotate_left
        · (intro w9 hSw; (try dsimp only at hSw); (try obtain ⟨hSw1, hSw2⟩ := hSw); go_simp; (try with_reducible rfl))
        (try simp only [Act.put, List.setIfInBounds_toArray, List.set_cons_zero, List.set_cons_succ])
        refine wpAnyH_take (i := 9) (oi := { dst := some 146, op := _, type := _, pos := _, after := _, guard := _ }) (v := ?_) rfl (by kernel_rfl) (by kernel_rfl) (by kernel_rfl) (fun _ _ _ h => h) (Or.inl ⟨by rfl, ?_⟩) (by assumption) ?_
        rotate_left
        · (intro w9 hSw; (try dsimp only at hSw); (try obtain ⟨hSw1, hSw2⟩ := hSw); go_simp; (try with_reducible rfl))
        (try simp only [Act.put, List.setIfInBounds_toArray, List.set_cons_zero, List.set_cons_succ])
        refine wpAnyH_take (i := 10) (oi := { dst := some 147, op := _, type := _, pos := _, after := _, guard := _ }) (v := ?_) rfl (by kernel_rfl) (by kernel_rfl) (by kernel_rfl) (fun _ _ _ h => h) (Or.inl ⟨by rfl, ?_⟩) (by assumption) ?_
        rotate_left
        · (intro w9 hSw; (try dsimp only at hSw); (try obtain ⟨hSw1, hSw2⟩ := hSw); go_simp; (try with_reducible rfl))
        (try simp only [Act.put, List.setIfInBounds_toArray, List.set_cons_zero, List.set_cons_succ])
        refine wpAnyH_ready (rs := [5]) (by kernel_rfl) (by simp) ?_
        refine AllReadyH.cons (o := { dst := some 142, op := _, type := _, pos := _, after := _, guard := _ }) rfl (fun K hK => ?_) AllReadyH.nil
        go_simp
        refine (bo_StP (HB1.out.kept (Kept.refl _).drew) xn xk2 HI2.out).mono ?_
        rintro e w3 ⟨rfl, b3, c3⟩
        have HB3 := hidMk b3
        have HC3 := hidMk (show Chg (Of f d) W1 w3 from (Chg.refl _ _).drew.trans c3)
        clear b3 c3
        (try go_wp2_with fail)
        refine hK.out _ _ ?_ (fun hHeld => ?_)
        · first | (exact ⟨(HC4.out.cell (p := ⟨wr.heap.size, 1, none⟩) (Nat.lt_of_lt_of_le hagl HC3.out.size) HAGr.out).trans ((HC3.out.cell (p := ⟨wr.heap.size, 1, none⟩) hagl HAGf.out).trans q1), (HC4.out.cell (p := ⟨wr.heap.size, 2, none⟩) (Nat.lt_of_lt_of_le hagl HC3.out.size) HAGr.out).trans ((HC3.out.cell (p := ⟨wr.heap.size, 2, none⟩) hagl HAGf.out).trans q2)⟩) | (exact ⟨(HC3.out.cell (p := ⟨wr.heap.size, 1, none⟩) hagl HAGf.out).trans q1, (HC3.out.cell (p := ⟨wr.heap.size, 2, none⟩) hagl HAGf.out).trans q2⟩)
        clear hK K
        (try simp only [Act.put, List.setIfInBounds_toArray, List.set_cons_zero, List.set_cons_succ])
        refine wpAnyH_ready (rs := [11]) (by kernel_rfl) (by simp) ?_
        refine AllReadyH.cons (o := { dst := some 148, op := _, type := _, pos := _, after := _, guard := _ }) rfl (fun K hK => ?_) AllReadyH.nil
        go_simp
        refine (bo_StR HB3.out xn xk2 HI2.out).mono ?_
        rintro e w4 ⟨rfl, u4, y4, b4, c4⟩
        have HB4 := hidMk b4
        have HC4 := hidMk c4
        clear b4 c4
        (try go_wp2_with fail)
        refine hK.out _ _ ?_ (fun hHeld => ?_)
        · first | (exact ⟨(HC4.out.cell (p := ⟨wr.heap.size, 1, none⟩) (Nat.lt_of_lt_of_le hagl HC3.out.size) HAGr.out).trans ((HC3.out.cell (p := ⟨wr.heap.size, 1, none⟩) hagl HAGf.out).trans q1), (HC4.out.cell (p := ⟨wr.heap.size, 2, none⟩) (Nat.lt_of_lt_of_le hagl HC3.out.size) HAGr.out).trans ((HC3.out.cell (p := ⟨wr.heap.size, 2, none⟩) hagl HAGf.out).trans q2)⟩) | (exact ⟨(HC3.out.cell (p := ⟨wr.heap.size, 1, none⟩) hagl HAGf.out).trans q1, (HC3.out.cell (p := ⟨wr.heap.size, 2, none⟩) hagl HAGf.out).trans q2⟩)
        clear hK K
        (try simp only [Act.put, List.setIfInBounds_toArray, List.set_cons_zero, List.set_cons_succ])
        refine wpAnyH_take (i := 12) (oi := { dst := some 149, op := _, type := _, pos := _, after := _, guard := _ }) (v := ?_) rfl (by kernel_rfl) (by kernel_rfl) (by kernel_rfl) (fun _ _ _ h => h) (Or.inl ⟨by rfl, ?_⟩) (by assumption) ?_
        rotate_left
        · (intro w9 hSw; (try dsimp only at hSw); (try obtain ⟨hSw1, hSw2⟩ := hSw); go_simp; (try with_reducible rfl))
        (try simp only [Act.put, List.setIfInBounds_toArray, List.set_cons_zero, List.set_cons_succ])
        refine wpAnyH_done (by kernel_rfl) ?_ _
        go_wp2_with fail
        refine (law23_alike HB4.out).mono ?_
        rintro e w9 ⟨rfl, k9⟩
        have K9 := hidMk k9
        clear k9
        go_wp2_with fail
        go_roundg (gi - 1)
        case measure => have := HKG.out; omega
        case rel => exact ⟨k + 1, _, _, _, _, _, _, _, _, _, _, by have := HKG.out; omega, by go_num, rfl, rfl, hidMk ((HB4.out).kept K9.out), hidMk (by rw [(stS_ok HB.out.ok HI2.out).2.1]; have := HWRK.out; omega)⟩
      have hz2' : (xk.tmod 5 == 2) = false := by simpa using hz2
      by_cases hz3 : xk.tmod 5 = 3
      · have hz3' : (xk.tmod 5 == 3) = true := by simpa using hz3
        go_wp2_with fail
        rw [← HW1.out]
        clear HW1 p0 p1 p2 p3
        refine (bo_UpR HB1.out).mono ?_
        rintro e w3 ⟨rfl, u3, y3, b3⟩
        have HB3 := hidMk b3
        clear b3
        go_wp2_with fail
        refine (bo_UpP HB3.out).mono ?_
        rintro e w4 ⟨rfl, b4⟩
        have HB4 := hidMk b4
        clear b4
        go_wp2_with fail
        refine (law23_alike HB4.out).mono ?_
        rintro e w9 ⟨rfl, k9⟩
        have K9 := hidMk k9
        clear k9
        go_wp2_with fail
        go_roundg (gi - 1)
        case measure => have := HKG.out; omega
        case rel => exact ⟨k + 1, _, _, _, _, _, _, _, _, _, _, by have := HKG.out; omega, by go_num, rfl, rfl, hidMk ((HB4.out).kept K9.out), hidMk (by show s.wr ≤ _; have := HWRK.out; omega)⟩
      have hz3' : (xk.tmod 5 == 3) = false := by simpa using hz3
      go_wp2_with fail
      rw [← HW1.out]
      clear HW1 p0 p1 p2 p3
      refine (bk_Copy HB1.out.fl HB.out.n0).mono ?_
      rintro e w3 ⟨f', d', rfl, hf', hd', f3, k3⟩
      have F3 := hidMk f3
      have K3 := hidMk k3
      clear f3 k3
      go_wp2_with fail
      refine (bo_cpR HB1.out K3.out F3.out hf' hd').mono ?_
      rintro e w4 ⟨v4, gs4, cs4, rfl, b4, k4⟩
      have HB4 := hidMk b4
      have FO4 := hidMk (HB1.out.fl.kept (K3.out.trans k4))
      have hsz3 := K3.out.size
      have hsz1 := HK1.out.size
      clear b4 k4
      go_wp2_with fail
      refine (bk_Up FO4.out).mono ?_
      rintro e w5 ⟨rfl, f5, c5⟩
      have FO5 := hidMk f5
      have HRG := hidMk (show ∀ j, RS w3.heap.size v4 nb gs4 j → w3.heap.size ≤ j from fun j e => (HB4.out.rge j e).1)
      have HB5 := hidMk (HB4.out.chg c5 (fun e => by omega) (fun e => by omega) (fun j e e2 => by have := HRG.out j e; omega) (Chg.kept HB4.out.kp c5 (fun j e => by have := HB.out.hf; omega)))
      clear f5 c5
      go_wp2_with fail
      rw [Lib.run_convert_bytes_const w5 _ _ _ 5 5 Try.underlying32 Try.underlying5]
      go_wp2_with fail
      have HL6 := hidMk (sl_lit w5 [111, 116, 104, 101, 114] 5 (5, 6) (by decide))
      have K6 := hidMk (((Kept.refl w5).alloc (.cells (bv [111, 116, 104, 101, 114]).toArray 5 (5, 6))))
      have HB6 := hidMk (HB5.out.kept K6.out)
      have FO6 := hidMk (FO5.out.kept K6.out)
      refine (bk_Write (s := upS s) (l := [111, 116, 104, 101, 114]) FO6.out (upS_ok HB.out.ok) (by have := HWR.out; show s.wr < 1000000; omega) 0 _ 5 5 HL6.out (by intro x hx; simp at hx; unfold isB; omega)).mono ?_
      rintro e w7 ⟨rfl, _, c7⟩
      have HB7 := hidMk (HB6.out.chg c7 (fun e => by rcases e with e | e <;> omega) (fun e => by rcases e with e | e <;> omega) (fun j e e2 => by have := HRG.out j e; rcases e2 with e2 | e2 <;> omega) (Chg.kept HB6.out.kp c7 (fun j e => by have h8 := HB.out.hf; have h9 := HB.out.hd; rcases e with e | e <;> omega)))
      clear c7 HL6 K6 FO6 FO5 FO4 F3
      generalize wrE (upS s) nb 0 5 = ee at *
      go_wp2_with fail
      refine (law23_alike HB7.out).mono ?_
      rintro e w9 ⟨rfl, k9⟩
      have K9 := hidMk k9
      clear k9
      go_wp2_with fail
      go_roundg (gi - 1)
      case measure => have := HKG.out; omega
      case rel => exact ⟨k + 1, _, _, _, _, _, _, _, _, _, _, by have := HKG.out; omega, by go_num, rfl, rfl, hidMk ((HB7.out).kept K9.out), hidMk (by have := HWRK.out; omega)⟩
    · have hkk : (N : Int) ≤ (k : Int) ∨ ((k : Int) < (N : Int) ∧ (60 : Int) ≤ (k : Int)) := by omega
      rcases hkk with h9 | ⟨h8, h9⟩
      all_goals
        go_wp2_with (go_at_call 10; refine (law23_known _).mono ?_; rintro e w7 ⟨rfl, k7⟩)
        go_ret
        exact ⟨rfl, HB.out.kp.trans k7⟩
end Go.Proofs.Ytcmhfmbpbbdemaa
