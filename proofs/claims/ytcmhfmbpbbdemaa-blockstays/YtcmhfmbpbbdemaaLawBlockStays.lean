/- BlockStays: blocks that are not written are as they were. -/
import Derived.Test.YtcmhfmbpbbdemaaBk4
namespace Go.Proofs.Ytcmhfmbpbbdemaa
open Go.RowKit Go.Maps
set_option linter.unusedSimpArgs false
set_option linter.unusedVariables false

theorem Sl.drew {k : IntKind} {w : World} {a : Option Addr} {n : Nat} {l : List Int} (h : Sl k w a n l) : Sl k w.drew a n l := h.kept ((Kept.refl _).drew)
/-- What the play keeps. -/
structure Sy (w wr : World) (f d g i k : Nat) (s : Bf) (X : List Int) : Prop where
  fl : Fl wr f d 6 s
  ok : Ok s
  wr_ : s.wr ≤ k + 1
  bl : blk s.F i = X
  kp : Kept w wr
  sl : Sl .u8 wr (some ⟨g, 0, none⟩) 32 X
theorem Sy.go {w wr w' : World} {f d g i k : Nat} {s s' : Bf} {X : List Int} (h : Sy w wr f d g i k s X) (F' : Fl w' f d 6 s') (o : Ok s') (q : s'.wr ≤ s.wr + 1) (b : blk s'.F i = blk s.F i) (c : Chg (Of f d) wr w') (hf : w.heap.size ≤ f) (hd : w.heap.size ≤ d) (hg : ¬ Of f d g) : Sy w w' f d g i (k + 1) s' X :=
  ⟨F', o, by have := h.wr_; omega, b.trans h.bl, Fl.down h.kp c hf hd, h.sl.chgB c (fun ad e => by cases e; exact hg)⟩

set_option maxHeartbeats 8000000 in
set_option maxRecDepth 100000 in
theorem law_BlockStays (a : Option Addr) (N c : Nat) (l : List Ab) (n : Int) (w : World) (hs : Aq w a N l) : Calls Try.prog 4 #[.slice a N c, .int .i64 n] w fun e w' => e = .returned (.bool true) ∧ Kept w w' := by
  have hbig := hs.big
  unfold maxLen at hbig
  have HS := hidMk hs
  have HN := hidMk (bk_New 6 w)
  simp only [show (1 : Int) ≤ 6 ∧ (6 : Int) ≤ 4096 from by omega, if_true, and_self] at HN
  clear hs
  by_cases hn : n < 0 ∨ 5 < n
  · by_cases hn0 : n < 0
    · clear hn
      go_enter Try.func4, Try.ntmps4
      go_wp2_with fail
      refine HN.out.mono ?_
      rintro e w1 ⟨f, d, rfl, hf, hd, f1, q1⟩
      go_wp2_with (go_at_call 10; refine (law23_known _).mono ?_; rintro e w6 ⟨rfl, k6⟩)
      go_ret
      exact ⟨rfl, q1.trans k6⟩
    · have hn1 : 5 < n := by omega
      have hn2 : 0 ≤ n := by omega
      clear hn hn0
      go_enter Try.func4, Try.ntmps4
      go_wp2_with fail
      refine HN.out.mono ?_
      rintro e w1 ⟨f, d, rfl, hf, hd, f1, q1⟩
      go_wp2_with (go_at_call 10; refine (law23_known _).mono ?_; rintro e w6 ⟨rfl, k6⟩)
      go_ret
      exact ⟨rfl, q1.trans k6⟩
  obtain ⟨i, rfl⟩ : ∃ i : Nat, n = i := ⟨n.toNat, by omega⟩
  have hi : i < 6 := by omega
  have hi' : (i : Int) ≤ 5 := by omega
  clear hn
  obtain ⟨M, hM⟩ : ∃ M, M = if N ≤ 40 then N else 40 := ⟨_, rfl⟩
  have hM1 : M ≤ N := by rw [hM]; split <;> omega
  have hM2 : M ≤ 40 := by rw [hM]; split <;> omega
  have hM3 : M = N ∨ M = 40 := by rw [hM]; split <;> omega
  clear hM
  go_enter Try.func4, Try.ntmps4
  go_wp2_with fail
  refine HN.out.mono ?_
  rintro e w1 ⟨f, d, rfl, hf, hd, f1, q1⟩
  have F1 := hidMk (show Fl w1 f d 6 (news 6) from f1)
  have Q1 := hidMk q1
  clear f1 q1 HN
  go_wp2_with fail
  rw [Lib.run_convert_bytes_const w1 _ _ _ 3 3 Try.underlying32 Try.underlying5]
  go_wp2_with fail
  have HL2 := hidMk (sl_lit w1 [111, 119, 110] 5 (3, 4) (by decide))
  have K2 := hidMk (((Kept.refl w1).alloc (.cells (bv [111, 119, 110]).toArray 5 (3, 4))))
  have F2 := hidMk (F1.out.kept K2.out)
  have Q2 := hidMk (Q1.out.trans K2.out)
  refine (bk_Write (s := news 6) (N := 6) (l := [111, 119, 110]) F2.out (new_ok 6) (show (0 : Int) < 1000000 by omega) i _ 3 3 HL2.out (by intro x hx; simp at hx; unfold isB; omega)).mono ?_
  rintro e w3 ⟨rfl, f3, q3⟩
  have hb0 : bad (news 6) 6 i = 0 := by
    unfold bad news
    rw [if_neg (by simp), if_neg (by omega)]
  have F3 := hidMk f3
  have Q3 := hidMk (Fl.down Q2.out q3 hf hd)
  have HO3 := hidMk (wrS_ok (N := 6) (n := (i : Int)) (l := [111, 119, 110]) (new_ok 6))
  have hoff : (wrS (news 6) 6 i [111, 119, 110]).off = false := by
    unfold wrS
    rw [if_neg (by simp [hb0]), if_neg (by decide), if_neg (by decide)]
    rfl
  clear f3 q3 F1 Q1 K2 F2 HL2 Q2
  have hE : wrE (news 6) 6 i 3 = 0 := by
    unfold wrE
    rw [if_neg (by simp [hb0]), if_neg (by decide), if_neg (by decide)]
  rw [hE]
  generalize wrS (news 6) 6 i [111, 119, 110] = s3 at *
  clear hE hb0
  go_wp2_with fail
  refine (bk_Read F3.out i).mono ?_
  rintro e w4 ⟨v4, rfl, o4, q4⟩
  have hb4 : bad s3 6 i = 0 := by
    unfold bad
    rw [hoff, if_neg (by simp), if_neg (by omega)]
  rw [hb4, if_pos rfl, Int.toNat_natCast] at o4
  rw [hb4]
  have hbl := blk_len F3.out.len hi
  obtain ⟨g, c4, rfl, hg1, hg2⟩ := owned_at o4 (by omega)
  have S4 := hidMk (owned_slx o4 rfl (by unfold maxLen; omega))
  rw [hbl] at S4 ⊢
  have HXB := hidMk (show ∀ x ∈ blk s3.F i, isB x from fun x hx => F3.out.isb x (List.mem_of_mem_drop (List.mem_of_mem_take hx)))
  have hfl := F3.out.lt
  have hdl := F3.out.dt.lt
  have HGO := hidMk (show ¬ Of f d g from fun e => by rcases e with e | e <;> omega)
  have HY4 := hidMk (show Sy w w4 f d g i 0 s3 (blk s3.F i) from ⟨F3.out.kept q4, HO3.out.1, by have := HO3.out.2; change s3.wr ≤ (0 : Int) + 1 at this; simpa using this, rfl, Q3.out.trans q4, S4.out⟩)
  clear o4 q4 S4 F3 Q3 HO3 hoff hb4 hbl
  generalize blk s3.F i = X at *
  go_wp2_with fail
  go_loopg [9] M (fun gg iv wr => ∃ (k : Nat) (s : Bf), k + gg = M ∧ iv = .int .i64 (k : Int) ∧ Hid (Sy w wr f d g i k s X))
  case atStart => exact ⟨0, s3, by omega, rfl, HY4⟩
  case round =>
    obtain ⟨k, s, hkg, rfl, HY⟩ := hrel
    have HKG := hidMk hkg
    by_cases hkM : k < M
    · have hk1 : (k : Int) < (N : Int) := by omega
      have hk2 : (k : Int) < 40 := by omega
      have hk3 : k < N := by omega
      have hk0 : (0 : Int) ≤ (k : Int) := by omega
      obtain ⟨ab, ao, rfl, hab, _⟩ := HS.out.cells (by omega)
      obtain ⟨_, p0, p1, p2, p3⟩ := HS.out.at HY.out.kp hk3
      obtain ⟨sl, sb, si1, si2, si3⟩ := HS.out.sl k hk3
      have HSL := hidMk (sl.kept HY.out.kp)
      have HIB := hidMk sb
      have HI2 := hidMk si2
      have HFL := hidMk HY.out.fl
      have HOK := hidMk HY.out.ok
      have HWR := hidMk (show s.wr ≤ 41 by have := HY.out.wr_; omega)
      have hab2 : ab < wr.heap.size := Nat.lt_of_lt_of_le hab HY.out.kp.size
      have HAB := hidMk (show ¬ Of f d ab from fun e => by rcases e with e | e <;> omega)
      clear sl sb si1 si2 si3 hkg
      generalize hA : abA l k = A at *
      clear hA
      obtain ⟨xk, xn, xk2, ⟨xa, xm, xc⟩, xl⟩ := A
      dsimp only at *
      by_cases hq0 : xk.tmod 3 = 0
      · have hq0' : (xk.tmod 3 == 0) = true := by simpa using hq0
        by_cases hne : xn = (i : Int)
        · subst hne
          go_wp2_with fail
          go_roundg (gk - 1)
          case measure => have := HKG.out; omega
          case rel => exact ⟨k + 1, s, by have := HKG.out; omega, by go_num, hidMk (HY.out.go HFL.out HOK.out (by omega) rfl (Chg.refl _ _) hf hd HGO.out)⟩
        · have hne' : (xn == (i : Int)) = false := by simpa using hne
          go_wp2_with fail
          refine wp_region_held_drew (S := (fun w9 => w9.cell? ⟨ab, ao + k * 4 + 1, none⟩ = some (.int .i64 xn) ∧ w9.cell? ⟨ab, ao + k * 4 + 3, none⟩ = some (.slice xa xm xc))) (by kernel_rfl) ?_ (fun hHeld => ?_)
          · exact ⟨p1, p3⟩
          refine wpAnyH_take (i := 0) (oi := { dst := some 71, op := _, type := _, pos := _, after := _, guard := _ }) (v := ?_) rfl (by kernel_rfl) (by kernel_rfl) (by kernel_rfl) (fun _ _ _ h => h) (Or.inl ⟨by rfl, ?_⟩) (by assumption) ?_
          rotate_left
          · (intro w hSw; (try dsimp only at hSw); (try obtain ⟨hSw1, hSw2⟩ := hSw); go_simp; (try with_reducible rfl))
          (try simp only [Act.put, List.setIfInBounds_toArray, List.set_cons_zero, List.set_cons_succ])
          refine wpAnyH_take (i := 1) (oi := { dst := some 72, op := _, type := _, pos := _, after := _, guard := _ }) (v := ?_) rfl (by kernel_rfl) (by kernel_rfl) (by kernel_rfl) (fun _ _ _ h => h) (Or.inl ⟨by rfl, ?_⟩) (by assumption) ?_
          rotate_left
          · (intro w hSw; (try dsimp only at hSw); (try obtain ⟨hSw1, hSw2⟩ := hSw); go_simp; (try with_reducible rfl))
          (try simp only [Act.put, List.setIfInBounds_toArray, List.set_cons_zero, List.set_cons_succ])
          refine wpAnyH_take (i := 2) (oi := { dst := some 73, op := _, type := _, pos := _, after := _, guard := _ }) (v := ?_) rfl (by kernel_rfl) (by kernel_rfl) (by kernel_rfl) (fun _ _ _ h => h) (Or.inl ⟨by rfl, ?_⟩) (by assumption) ?_
          rotate_left
          · (intro w hSw; (try dsimp only at hSw); (try obtain ⟨hSw1, hSw2⟩ := hSw); go_simp; (try with_reducible rfl))
          (try simp only [Act.put, List.setIfInBounds_toArray, List.set_cons_zero, List.set_cons_succ])
          refine wpAnyH_take (i := 3) (oi := { dst := some 74, op := _, type := _, pos := _, after := _, guard := _ }) (v := ?_) rfl (by kernel_rfl) (by kernel_rfl) (by kernel_rfl) (fun _ _ _ h => h) (Or.inl ⟨by rfl, ?_⟩) (by assumption) ?_
          rotate_left
          · (intro w hSw; (try dsimp only at hSw); (try obtain ⟨hSw1, hSw2⟩ := hSw); go_simp; (try with_reducible rfl))
          (try simp only [Act.put, List.setIfInBounds_toArray, List.set_cons_zero, List.set_cons_succ])
          refine wpAnyH_take (i := 4) (oi := { dst := some 75, op := _, type := _, pos := _, after := _, guard := _ }) (v := ?_) rfl (by kernel_rfl) (by kernel_rfl) (by kernel_rfl) (fun _ _ _ h => h) (Or.inl ⟨by rfl, ?_⟩) (by assumption) ?_
          rotate_left
          · (intro w hSw; (try dsimp only at hSw); (try obtain ⟨hSw1, hSw2⟩ := hSw); go_simp; (try with_reducible rfl))
          (try simp only [Act.put, List.setIfInBounds_toArray, List.set_cons_zero, List.set_cons_succ])
          refine wpAnyH_take (i := 5) (oi := { dst := some 76, op := _, type := _, pos := _, after := _, guard := _ }) (v := ?_) rfl (by kernel_rfl) (by kernel_rfl) (by kernel_rfl) (fun _ _ _ h => h) (Or.inl ⟨by rfl, ?_⟩) (by assumption) ?_
          rotate_left
          · (intro w hSw; (try dsimp only at hSw); (try obtain ⟨hSw1, hSw2⟩ := hSw); go_simp; (try with_reducible rfl))
          (try simp only [Act.put, List.setIfInBounds_toArray, List.set_cons_zero, List.set_cons_succ])
          refine wpAnyH_take (i := 6) (oi := { dst := some 77, op := _, type := _, pos := _, after := _, guard := _ }) (v := ?_) rfl (by kernel_rfl) (by kernel_rfl) (by kernel_rfl) (fun _ _ _ h => h) (Or.inl ⟨by rfl, ?_⟩) (by assumption) ?_
          rotate_left
          · (intro w hSw; (try dsimp only at hSw); (try obtain ⟨hSw1, hSw2⟩ := hSw); go_simp; (try with_reducible rfl))
          (try simp only [Act.put, List.setIfInBounds_toArray, List.set_cons_zero, List.set_cons_succ])
          refine wpAnyH_take (i := 7) (oi := { dst := some 78, op := _, type := _, pos := _, after := _, guard := _ }) (v := ?_) rfl (by kernel_rfl) (by kernel_rfl) (by kernel_rfl) (fun _ _ _ h => h) (Or.inl ⟨by rfl, ?_⟩) (by assumption) ?_
          rotate_left
          · (intro w hSw; (try dsimp only at hSw); (try obtain ⟨hSw1, hSw2⟩ := hSw); go_simp; (try with_reducible rfl))
          (try simp only [Act.put, List.setIfInBounds_toArray, List.set_cons_zero, List.set_cons_succ])
          refine wpAnyH_take (i := 8) (oi := { dst := some 79, op := _, type := _, pos := _, after := _, guard := _ }) (v := ?_) rfl (by kernel_rfl) (by kernel_rfl) (by kernel_rfl) (fun _ _ _ h => h) (Or.inl ⟨by rfl, ?_⟩) (by assumption) ?_
          rotate_left
          · (intro w hSw; (try dsimp only at hSw); (try obtain ⟨hSw1, hSw2⟩ := hSw); go_simp; (try with_reducible rfl))
          (try simp only [Act.put, List.setIfInBounds_toArray, List.set_cons_zero, List.set_cons_succ])
          refine wpAnyH_take (i := 9) (oi := { dst := some 80, op := _, type := _, pos := _, after := _, guard := _ }) (v := ?_) rfl (by kernel_rfl) (by kernel_rfl) (by kernel_rfl) (fun _ _ _ h => h) (Or.inl ⟨by rfl, ?_⟩) (by assumption) ?_
          rotate_left
          · (intro w hSw; (try dsimp only at hSw); (try obtain ⟨hSw1, hSw2⟩ := hSw); go_simp; (try with_reducible rfl))
          (try simp only [Act.put, List.setIfInBounds_toArray, List.set_cons_zero, List.set_cons_succ])
          refine wpAnyH_take (i := 10) (oi := { dst := some 81, op := _, type := _, pos := _, after := _, guard := _ }) (v := ?_) rfl (by kernel_rfl) (by kernel_rfl) (by kernel_rfl) (fun _ _ _ h => h) (Or.inl ⟨by rfl, ?_⟩) (by assumption) ?_
          rotate_left
          · (intro w hSw; (try dsimp only at hSw); (try obtain ⟨hSw1, hSw2⟩ := hSw); go_simp; (try with_reducible rfl))
          (try simp only [Act.put, List.setIfInBounds_toArray, List.set_cons_zero, List.set_cons_succ])
          refine wpAnyH_ready (rs := [11]) (by kernel_rfl) (by simp) ?_
          refine AllReadyH.cons (o := { dst := some 82, op := _, type := _, pos := _, after := _, guard := _ }) rfl (fun K hK => ?_) AllReadyH.nil
          go_simp
          refine (bk_Write HFL.out.drew HOK.out (by have := HWR.out; omega) xn xa xm xc xl HSL.out.drew HIB.out).mono ?_
          rintro e w3 ⟨rfl, f3, g3⟩
          have HF3 := hidMk f3
          have HG3 := hidMk g3
          clear f3 g3
          (try go_wp2_with fail)
          refine hK.out _ _ ?_ (fun hHeld => ?_)
          · exact ⟨(HG3.out.cell (p := ⟨ab, ao + k * 4 + 1, none⟩) (by show ab < _; exact hab2) HAB.out).trans p1, (HG3.out.cell (p := ⟨ab, ao + k * 4 + 3, none⟩) (by show ab < _; exact hab2) HAB.out).trans p3⟩
          clear hK K
          (try simp only [Act.put, List.setIfInBounds_toArray, List.set_cons_zero, List.set_cons_succ])
          refine wpAnyH_done (by kernel_rfl) ?_ _
          go_wp2_with fail
          go_roundg (gk - 1)
          case measure => have := HKG.out; omega
          case rel => exact ⟨k + 1, _, by have := HKG.out; omega, by go_num, hidMk (HY.out.go HF3.out (wrS_ok HOK.out).1 (wrS_ok HOK.out).2 (wrS_blk HFL.out.len hi hne) ((Chg.refl _ _).drew.trans HG3.out) hf hd HGO.out)⟩
      · have hq0' : (xk.tmod 3 == 0) = false := by simpa using hq0
        by_cases hq1 : xk.tmod 3 = 1
        · have hq1' : (xk.tmod 3 == 1) = true := by simpa using hq1
          go_wp2_with fail
          refine wp_region_held_drew (S := (fun w9 => w9.cell? ⟨ab, ao + k * 4 + 1, none⟩ = some (.int .i64 xn) ∧ w9.cell? ⟨ab, ao + k * 4 + 2, none⟩ = some (.int .i64 xk2))) (by kernel_rfl) ?_ (fun hHeld => ?_)
          · exact ⟨p1, p2⟩
          refine wpAnyH_take (i := 0) (oi := { dst := some 85, op := _, type := _, pos := _, after := _, guard := _ }) (v := ?_) rfl (by kernel_rfl) (by kernel_rfl) (by kernel_rfl) (fun _ _ _ h => h) (Or.inl ⟨by rfl, ?_⟩) (by assumption) ?_
          rotate_left
          · (intro w hSw; (try dsimp only at hSw); (try obtain ⟨hSw1, hSw2⟩ := hSw); go_simp; (try with_reducible rfl))
          (try simp only [Act.put, List.setIfInBounds_toArray, List.set_cons_zero, List.set_cons_succ])
          refine wpAnyH_take (i := 1) (oi := { dst := some 86, op := _, type := _, pos := _, after := _, guard := _ }) (v := ?_) rfl (by kernel_rfl) (by kernel_rfl) (by kernel_rfl) (fun _ _ _ h => h) (Or.inl ⟨by rfl, ?_⟩) (by assumption) ?_
          rotate_left
          · (intro w hSw; (try dsimp only at hSw); (try obtain ⟨hSw1, hSw2⟩ := hSw); go_simp; (try with_reducible rfl))
          (try simp only [Act.put, List.setIfInBounds_toArray, List.set_cons_zero, List.set_cons_succ])
          refine wpAnyH_take (i := 2) (oi := { dst := some 87, op := _, type := _, pos := _, after := _, guard := _ }) (v := ?_) rfl (by kernel_rfl) (by kernel_rfl) (by kernel_rfl) (fun _ _ _ h => h) (Or.inl ⟨by rfl, ?_⟩) (by assumption) ?_
          rotate_left
          · (intro w hSw; (try dsimp only at hSw); (try obtain ⟨hSw1, hSw2⟩ := hSw); go_simp; (try with_reducible rfl))
          (try simp only [Act.put, List.setIfInBounds_toArray, List.set_cons_zero, List.set_cons_succ])
          refine wpAnyH_take (i := 3) (oi := { dst := some 88, op := _, type := _, pos := _, after := _, guard := _ }) (v := ?_) rfl (by kernel_rfl) (by kernel_rfl) (by kernel_rfl) (fun _ _ _ h => h) (Or.inl ⟨by rfl, ?_⟩) (by assumption) ?_
          rotate_left
          · (intro w hSw; (try dsimp only at hSw); (try obtain ⟨hSw1, hSw2⟩ := hSw); go_simp; (try with_reducible rfl))
          (try simp only [Act.put, List.setIfInBounds_toArray, List.set_cons_zero, List.set_cons_succ])
          refine wpAnyH_take (i := 4) (oi := { dst := some 89, op := _, type := _, pos := _, after := _, guard := _ }) (v := ?_) rfl (by kernel_rfl) (by kernel_rfl) (by kernel_rfl) (fun _ _ _ h => h) (Or.inl ⟨by rfl, ?_⟩) (by assumption) ?_
          rotate_left
          · (intro w hSw; (try dsimp only at hSw); (try obtain ⟨hSw1, hSw2⟩ := hSw); go_simp; (try with_reducible rfl))
          (try simp only [Act.put, List.setIfInBounds_toArray, List.set_cons_zero, List.set_cons_succ])
          refine wpAnyH_take (i := 5) (oi := { dst := some 90, op := _, type := _, pos := _, after := _, guard := _ }) (v := ?_) rfl (by kernel_rfl) (by kernel_rfl) (by kernel_rfl) (fun _ _ _ h => h) (Or.inl ⟨by rfl, ?_⟩) (by assumption) ?_
          rotate_left
          · (intro w hSw; (try dsimp only at hSw); (try obtain ⟨hSw1, hSw2⟩ := hSw); go_simp; (try with_reducible rfl))
          (try simp only [Act.put, List.setIfInBounds_toArray, List.set_cons_zero, List.set_cons_succ])
          refine wpAnyH_take (i := 6) (oi := { dst := some 91, op := _, type := _, pos := _, after := _, guard := _ }) (v := ?_) rfl (by kernel_rfl) (by kernel_rfl) (by kernel_rfl) (fun _ _ _ h => h) (Or.inl ⟨by rfl, ?_⟩) (by assumption) ?_
          rotate_left
          · (intro w hSw; (try dsimp only at hSw); (try obtain ⟨hSw1, hSw2⟩ := hSw); go_simp; (try with_reducible rfl))
          (try simp only [Act.put, List.setIfInBounds_toArray, List.set_cons_zero, List.set_cons_succ])
          refine wpAnyH_take (i := 7) (oi := { dst := some 92, op := _, type := _, pos := _, after := _, guard := _ }) (v := ?_) rfl (by kernel_rfl) (by kernel_rfl) (by kernel_rfl) (fun _ _ _ h => h) (Or.inl ⟨by rfl, ?_⟩) (by assumption) ?_
          rotate_left
          · (intro w hSw; (try dsimp only at hSw); (try obtain ⟨hSw1, hSw2⟩ := hSw); go_simp; (try with_reducible rfl))
          (try simp only [Act.put, List.setIfInBounds_toArray, List.set_cons_zero, List.set_cons_succ])
          refine wpAnyH_take (i := 8) (oi := { dst := some 93, op := _, type := _, pos := _, after := _, guard := _ }) (v := ?_) rfl (by kernel_rfl) (by kernel_rfl) (by kernel_rfl) (fun _ _ _ h => h) (Or.inl ⟨by rfl, ?_⟩) (by assumption) ?_
          rotate_left
          · (intro w hSw; (try dsimp only at hSw); (try obtain ⟨hSw1, hSw2⟩ := hSw); go_simp; (try with_reducible rfl))
          (try simp only [Act.put, List.setIfInBounds_toArray, List.set_cons_zero, List.set_cons_succ])
          refine wpAnyH_take (i := 9) (oi := { dst := some 94, op := _, type := _, pos := _, after := _, guard := _ }) (v := ?_) rfl (by kernel_rfl) (by kernel_rfl) (by kernel_rfl) (fun _ _ _ h => h) (Or.inl ⟨by rfl, ?_⟩) (by assumption) ?_
          rotate_left
          · (intro w hSw; (try dsimp only at hSw); (try obtain ⟨hSw1, hSw2⟩ := hSw); go_simp; (try with_reducible rfl))
          (try simp only [Act.put, List.setIfInBounds_toArray, List.set_cons_zero, List.set_cons_succ])
          refine wpAnyH_take (i := 10) (oi := { dst := some 95, op := _, type := _, pos := _, after := _, guard := _ }) (v := ?_) rfl (by kernel_rfl) (by kernel_rfl) (by kernel_rfl) (fun _ _ _ h => h) (Or.inl ⟨by rfl, ?_⟩) (by assumption) ?_
          rotate_left
          · (intro w hSw; (try dsimp only at hSw); (try obtain ⟨hSw1, hSw2⟩ := hSw); go_simp; (try with_reducible rfl))
          (try simp only [Act.put, List.setIfInBounds_toArray, List.set_cons_zero, List.set_cons_succ])
          refine wpAnyH_ready (rs := [11]) (by kernel_rfl) (by simp) ?_
          refine AllReadyH.cons (o := { dst := some 96, op := _, type := _, pos := _, after := _, guard := _ }) rfl (fun K hK => ?_) AllReadyH.nil
          go_simp
          refine (bk_Stop HFL.out.drew xn xk2).mono ?_
          rintro e w3 ⟨rfl, f3, g3⟩
          have HF3 := hidMk f3
          have HG3 := hidMk g3
          clear f3 g3
          (try go_wp2_with fail)
          refine hK.out _ _ ?_ (fun hHeld => ?_)
          · exact ⟨(HG3.out.cell (p := ⟨ab, ao + k * 4 + 1, none⟩) (by show ab < _; exact hab2) (fun e => HAB.out (.inl e))).trans p1, (HG3.out.cell (p := ⟨ab, ao + k * 4 + 2, none⟩) (by show ab < _; exact hab2) (fun e => HAB.out (.inl e))).trans p2⟩
          clear hK K
          (try simp only [Act.put, List.setIfInBounds_toArray, List.set_cons_zero, List.set_cons_succ])
          refine wpAnyH_done (by kernel_rfl) ?_ _
          go_wp2_with fail
          go_roundg (gk - 1)
          case measure => have := HKG.out; omega
          case rel => exact ⟨k + 1, _, by have := HKG.out; omega, by go_num, hidMk (HY.out.go HF3.out (stS_ok HOK.out HI2.out).1 (by rw [(stS_ok HOK.out HI2.out).2.1]; omega) (by rw [(stS_ok HOK.out HI2.out).2.2]) ((Chg.refl _ _).drew.trans (HG3.out.mono (fun j _ e => .inl e))) hf hd HGO.out)⟩
        · have hq1' : (xk.tmod 3 == 1) = false := by simpa using hq1
          go_wp2_with fail
          refine (bk_Up HFL.out).mono ?_
          rintro e w3 ⟨rfl, f3, g3⟩
          have HF3 := hidMk f3
          have HG3 := hidMk g3
          clear f3 g3
          go_wp2_with fail
          go_roundg (gk - 1)
          case measure => have := HKG.out; omega
          case rel => exact ⟨k + 1, _, by have := HKG.out; omega, by go_num, hidMk (HY.out.go HF3.out (upS_ok HOK.out) (by show s.wr ≤ s.wr + 1; omega) rfl (HG3.out.mono (fun j _ e => .inl e)) hf hd HGO.out)⟩
    · have hk : k = M := by omega
      have hkk : ¬ ((k : Int) < (N : Int)) ∨ ¬ ((k : Int) < 40) := by omega
      have HX := hidMk HY.out.bl
      by_cases hk1 : (k : Int) < (N : Int)
      · have hk2 : ¬ ((k : Int) < 40) := by omega
        have hk2 : (40 : Int) ≤ (k : Int) := by omega
        clear hkk
        go_wp2_with fail
        refine (bk_Up HY.out.fl).mono ?_
        rintro e w5 ⟨rfl, f5, g5⟩
        have F5 := hidMk f5
        have G5 := hidMk (g5.mono (S' := Of f d) (fun j _ e => .inl e))
        have Q5 := hidMk (Fl.down HY.out.kp G5.out hf hd)
        have S5 := hidMk (HY.out.sl.chgB G5.out (fun ad e => by cases e; exact HGO.out))
        clear f5 g5
        go_wp2_with fail
        refine (bk_Read F5.out i).mono ?_
        rintro e w6 ⟨v6, rfl, o6, q6⟩
        have hb6 : bad (upS s) 6 i = 0 := by
          unfold bad upS
          rw [if_neg (by simp), if_neg (by omega)]
        rw [hb6, if_pos rfl, Int.toNat_natCast, show blk (upS s).F i = X from HX.out] at o6
        rw [hb6]
        obtain ⟨a6, c6, rfl, s6, _, _⟩ := owned_sl o6 (by have := HY.out.sl.len; rw [this]; unfold maxLen; omega)
        rw [HY.out.sl.len] at s6 ⊢
        have t1 := run_string_sl (c := c6) s6 HXB.out
        have t2 := run_string_sl (c := c4) (S5.out.kept q6) HXB.out
        have Q6 := hidMk (Q5.out.trans q6)
        clear o6 s6 q6
        go_wp2_with (go_at_call 10; refine (law23_known _).mono ?_; rintro e w7 ⟨rfl, k7⟩)
        go_ret
        exact ⟨rfl, Q6.out.trans k7⟩
      · have hk2 : (N : Int) ≤ (k : Int) := by omega
        clear hkk
        go_wp2_with fail
        refine (bk_Up HY.out.fl).mono ?_
        rintro e w5 ⟨rfl, f5, g5⟩
        have F5 := hidMk f5
        have G5 := hidMk (g5.mono (S' := Of f d) (fun j _ e => .inl e))
        have Q5 := hidMk (Fl.down HY.out.kp G5.out hf hd)
        have S5 := hidMk (HY.out.sl.chgB G5.out (fun ad e => by cases e; exact HGO.out))
        clear f5 g5
        go_wp2_with fail
        refine (bk_Read F5.out i).mono ?_
        rintro e w6 ⟨v6, rfl, o6, q6⟩
        have hb6 : bad (upS s) 6 i = 0 := by
          unfold bad upS
          rw [if_neg (by simp), if_neg (by omega)]
        rw [hb6, if_pos rfl, Int.toNat_natCast, show blk (upS s).F i = X from HX.out] at o6
        rw [hb6]
        obtain ⟨a6, c6, rfl, s6, _, _⟩ := owned_sl o6 (by have := HY.out.sl.len; rw [this]; unfold maxLen; omega)
        rw [HY.out.sl.len] at s6 ⊢
        have t1 := run_string_sl (c := c6) s6 HXB.out
        have t2 := run_string_sl (c := c4) (S5.out.kept q6) HXB.out
        have Q6 := hidMk (Q5.out.trans q6)
        clear o6 s6 q6
        go_wp2_with (go_at_call 10; refine (law23_known _).mono ?_; rintro e w7 ⟨rfl, k7⟩)
        go_ret
        exact ⟨rfl, Q6.out.trans k7⟩
end Go.Proofs.Ytcmhfmbpbbdemaa
