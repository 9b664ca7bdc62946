/- Both files: alike, copies. -/
import Derived.Test.YtcmhfmbpbbdemaaBj1
namespace Go.Proofs.Ytcmhfmbpbbdemaa
open Go.RowKit Go.Maps
set_option linter.unusedSimpArgs false
set_option linter.unusedVariables false

section
variable {w0 w W : World} {f d N : Nat} {s : Bf} {B r : Nat} {v : Value} {gs cs : Nat → Nat} {t : Bf} {u y : Int}
theorem Bo.chg {S : Nat → Prop} (h : Bo w0 w f d N s B r v gs cs t u y) (c : Chg S w W) (hf : ¬ S f) (hd : ¬ S d) (hr : ∀ j, RS r v N gs j → ¬ S j) (k : Kept w0 W) : Bo w0 W f d N s B r v gs cs t u y :=
  ⟨h.fl.chg c hf hd, h.rf.chg c hr, h.ok, h.okt, h.rel, h.tl, h.tb, h.af, h.ad, k, h.hB, h.hf, h.hd, h.n0, h.n1⟩
theorem dt_row {g : Nat} {X : List Int} (h : Dt w g X) (hl : X.length = 32) : Sl .u8 w (some ⟨g, 0, none⟩) 32 X := by
  have := h.sl 0 32 (by omega) (by unfold maxLen; omega)
  rwa [List.drop_zero, List.take_of_length_le (by omega)] at this
set_option maxHeartbeats 8000000 in
set_option maxRecDepth 100000 in
theorem law23_alike (h : Bo w0 w f d N s B r v gs cs s u y) : Calls Try.prog 23 #[.pointer (some ⟨f, 0, none⟩), .pointer (some ⟨r, 0, none⟩)] w fun e w' => e = .returned (.bool true) ∧ Kept w w' := by
  obtain ⟨g, cap, hv, hg1, hg2, hcs⟩ := h.rf.rb.cell h.n0
  subst hv
  have H := hidMk h
  have HCS := hidMk hcs
  have c0 := h.rf.c0
  have c1 := h.rf.c1
  have c4 := h.rf.c4
  have HC0 := hidMk c0
  have hN0 := h.n0
  have hN1 := h.n1
  have HSZ := hidMk (show ∀ W, Kept w W → Calls Try.prog 11 #[.pointer (some ⟨f, 0, none⟩)] W fun e w' => e = .returned (.int .i64 N) ∧ w' = W from fun W k => bk_Size (h.fl.kept k))
  have HOF := hidMk (show ∀ W, Kept w W → Calls Try.prog 25 #[.pointer (some ⟨f, 0, none⟩)] W fun e w' => e = .returned (.bool s.off) ∧ w' = W from fun W k => bk_Off (h.fl.kept k))
  have HWR := hidMk (show ∀ W, Kept w W → Calls Try.prog 26 #[.pointer (some ⟨f, 0, none⟩)] W fun e w' => e = .returned (.int .i64 s.wr) ∧ w' = W from fun W k => bk_Writes (h.fl.kept k))
  have HRD := hidMk (show ∀ W, Kept w W → ∀ n : Int, Calls Try.prog 15 #[.pointer (some ⟨f, 0, none⟩), .int .i64 n] W fun e w' => ∃ v, e = .returned (.tuple #[v, .int .i64 (bad s N n)]) ∧ Owned W w' v (if bad s N n = 0 then blk s.F n.toNat else []) ∧ Kept W w' from fun W k n => bk_Read (h.fl.kept k) n)
  have q1 : ((N : Int) != (N : Int)) = false := by simp
  have q2 : (s.wr != s.wr) = false := by simp
  have HOFF := hidMk (show s.off = false → ∀ k : Nat, k < N → bad s N k = 0 from fun e k hk => by unfold bad; rw [e, if_neg (by simp), if_neg (by omega)])
  clear h hcs
  cases ho : s.off with
  | true =>
    rw [ho] at c1 HOF
    clear ho HOFF
    generalize s.wr = sw at *
    go_enter Try.func23, Try.ntmps23
    go_wp2_with fail
    go_quiet ((first | (go_at_call 11; exact Calls.quiet_of_same (HSZ.out _ ((Kept.refl _).drewN _))) | (go_at_call 25; exact Calls.quiet_of_same (HOF.out _ ((Kept.refl _).drewN _))) | (go_at_call 26; exact Calls.quiet_of_same (HWR.out _ ((Kept.refl _).drewN _)))))
    go_wp2_with fail
    go_ret
    exact ⟨rfl, (Kept.refl _).drewN _⟩
  | false =>
    rw [ho] at c1 HOF
    have HBZ := hidMk (HOFF.out ho)
    clear ho HOFF
    generalize s.wr = sw at *
    go_enter Try.func23, Try.ntmps23
    go_wp2_with fail
    go_quiet ((first | (go_at_call 11; exact Calls.quiet_of_same (HSZ.out _ ((Kept.refl _).drewN _))) | (go_at_call 25; exact Calls.quiet_of_same (HOF.out _ ((Kept.refl _).drewN _))) | (go_at_call 26; exact Calls.quiet_of_same (HWR.out _ ((Kept.refl _).drewN _)))))
    go_wp2_with fail
    go_loopg [5] N (fun gg iv wr => ∃ k : Nat, k + gg = N ∧ iv = .int .i64 (k : Int) ∧ Hid (Kept w wr))
    case atStart => exact ⟨0, by omega, rfl, hidMk ((Kept.refl _).drewN _)⟩
    case round =>
      obtain ⟨k, hkg, rfl, HK⟩ := hrel
      have HKG := hidMk hkg
      have z0 := HK.out.cellq HC0.out
      by_cases hk : k < N
      · have hk' : (k : Int) < (N : Int) := by omega
        have zk := HK.out.cellq (HCS.out k hk)
        obtain ⟨hd2, hl2, _⟩ := H.out.rf.rb.row k hk
        have HROW := hidMk (dt_row hd2 hl2)
        have HXB := hidMk (show ∀ x ∈ blk s.F k, isB x from fun x hx => H.out.fl.isb x (List.mem_of_mem_drop (List.mem_of_mem_take hx)))
        clear hkg hd2
        go_wp2_with fail
        refine (HRD.out _ HK.out k).mono ?_
        rintro e w2 ⟨v2, rfl, o2, k2⟩
        rw [HBZ.out k hk, if_pos rfl, Int.toNat_natCast] at o2
        rw [HBZ.out k hk]
        obtain ⟨a2, c2, rfl, s2, _, _⟩ := owned_sl o2 (by rw [hl2]; unfold maxLen; omega)
        rw [hl2] at s2 ⊢
        have HT1 := hidMk (show ∀ W, Kept w2 W → (convert 32 9 (.slice a2 32 c2)).run Try.prog W = .ok (.string (str (blk s.F k))) W from fun W q => run_string_sl (c := c2) (s2.kept q) HXB.out)
        have HT2 := hidMk (show ∀ W, Kept w2 W → (convert 32 9 (.slice (some ⟨gs k, 0, none⟩) 32 (cs k))).run Try.prog W = .ok (.string (str (blk s.F k))) W from fun W q => run_string_sl (c := cs k) (HROW.out.kept ((HK.out.trans k2).trans q)) HXB.out)
        have zr := k2.cellq z0
        have zg := k2.cellq zk
        have K2 := hidMk (HK.out.trans k2)
        clear o2 s2 k2 z0 zk hl2
        go_wp2_with fail
        refine wp_region_held_drew (S := (fun w9 => Kept w2 w9)) (by kernel_rfl) ?_ (fun hHeld => ?_)
        · exact (Kept.refl w2).drew
        refine wpAnyH_take (i := 0) (oi := { dst := some 53, op := _, type := _, pos := _, after := _, guard := _ }) (v := ?_) rfl (by kernel_rfl) (by kernel_rfl) (by kernel_rfl) (fun _ _ _ h => h) (Or.inl ⟨by rfl, ?_⟩) (by assumption) ?_
        rotate_left
        · (intro w9 hSw; go_simp; (try with_reducible rfl))
        (try simp only [Act.put, List.setIfInBounds_toArray, List.set_cons_zero, List.set_cons_succ])
        refine wpAnyH_take (i := 1) (oi := { dst := some 54, op := _, type := _, pos := _, after := _, guard := _ }) (v := ?_) rfl (by kernel_rfl) (by kernel_rfl) (by kernel_rfl) (fun _ _ _ h => h) (Or.inl ⟨by rfl, ?_⟩) (by assumption) ?_
        rotate_left
        · (intro w9 hSw; have q9 := HT1.out w9 hSw; go_simp; (try with_reducible rfl))
        (try simp only [Act.put, List.setIfInBounds_toArray, List.set_cons_zero, List.set_cons_succ])
        refine wpAnyH_take (i := 2) (oi := { dst := some 55, op := _, type := _, pos := _, after := _, guard := _ }) (v := ?_) rfl (by kernel_rfl) (by kernel_rfl) (by kernel_rfl) (fun _ _ _ h => h) (Or.inl ⟨by rfl, ?_⟩) (by assumption) ?_
        rotate_left
        · (intro w9 hSw; go_simp; (try with_reducible rfl))
        (try simp only [Act.put, List.setIfInBounds_toArray, List.set_cons_zero, List.set_cons_succ])
        refine wpAnyH_take (i := 3) (oi := { dst := some 56, op := _, type := _, pos := _, after := _, guard := _ }) (v := ?_) rfl (by kernel_rfl) (by kernel_rfl) (by kernel_rfl) (fun _ _ _ h => h) (Or.inl ⟨by rfl, ?_⟩) (by assumption) ?_
        rotate_left
        · (intro w9 hSw; go_simp; (try with_reducible rfl))
        (try simp only [Act.put, List.setIfInBounds_toArray, List.set_cons_zero, List.set_cons_succ])
        refine wpAnyH_take (i := 4) (oi := { dst := some 57, op := _, type := _, pos := _, after := _, guard := _ }) (v := ?_) rfl (by kernel_rfl) (by kernel_rfl) (by kernel_rfl) (fun _ _ _ h => h) (Or.inl ⟨by rfl, ?_⟩) (by assumption) ?_
        rotate_left
        · (intro w9 hSw; go_simp; (try with_reducible rfl))
        (try simp only [Act.put, List.setIfInBounds_toArray, List.set_cons_zero, List.set_cons_succ])
        refine wpAnyH_take (i := 5) (oi := { dst := some 58, op := _, type := _, pos := _, after := _, guard := _ }) (v := ?_) rfl (by kernel_rfl) (by kernel_rfl) (by kernel_rfl) (fun _ _ _ h => h) (Or.inl ⟨by rfl, ?_⟩) (by assumption) ?_
        rotate_left
        · (intro w9 hSw; have q9 := hSw.cellq zr; go_simp; (try with_reducible rfl))
        (try simp only [Act.put, List.setIfInBounds_toArray, List.set_cons_zero, List.set_cons_succ])
        refine wpAnyH_take (i := 6) (oi := { dst := some 59, op := _, type := _, pos := _, after := _, guard := _ }) (v := ?_) rfl (by kernel_rfl) (by kernel_rfl) (by kernel_rfl) (fun _ _ _ h => h) (Or.inl ⟨by rfl, ?_⟩) (by assumption) ?_
        rotate_left
        · (intro w9 hSw; go_simp; (try with_reducible rfl))
        (try simp only [Act.put, List.setIfInBounds_toArray, List.set_cons_zero, List.set_cons_succ])
        refine wpAnyH_take (i := 7) (oi := { dst := some 60, op := _, type := _, pos := _, after := _, guard := _ }) (v := ?_) rfl (by kernel_rfl) (by kernel_rfl) (by kernel_rfl) (fun _ _ _ h => h) (Or.inl ⟨by rfl, ?_⟩) (by assumption) ?_
        rotate_left
        · (intro w9 hSw; go_simp; (try with_reducible rfl))
        (try simp only [Act.put, List.setIfInBounds_toArray, List.set_cons_zero, List.set_cons_succ])
        refine wpAnyH_take (i := 8) (oi := { dst := some 61, op := _, type := _, pos := _, after := _, guard := _ }) (v := ?_) rfl (by kernel_rfl) (by kernel_rfl) (by kernel_rfl) (fun _ _ _ h => h) (Or.inl ⟨by rfl, ?_⟩) (by assumption) ?_
        rotate_left
        · (intro w9 hSw; have q9 := hSw.cellq zg; go_simp; (try with_reducible rfl))
        (try simp only [Act.put, List.setIfInBounds_toArray, List.set_cons_zero, List.set_cons_succ])
        refine wpAnyH_take (i := 9) (oi := { dst := some 62, op := _, type := _, pos := _, after := _, guard := _ }) (v := ?_) rfl (by kernel_rfl) (by kernel_rfl) (by kernel_rfl) (fun _ _ _ h => h) (Or.inl ⟨by rfl, ?_⟩) (by assumption) ?_
        rotate_left
        · (intro w9 hSw; have q9 := HT2.out w9 hSw; go_simp; (try with_reducible rfl))
        (try simp only [Act.put, List.setIfInBounds_toArray, List.set_cons_zero, List.set_cons_succ])
        refine wpAnyH_take (i := 10) (oi := { dst := some 63, op := _, type := _, pos := _, after := _, guard := _ }) (v := ?_) rfl (by kernel_rfl) (by kernel_rfl) (by kernel_rfl) (fun _ _ _ h => h) (Or.inl ⟨by rfl, ?_⟩) (by assumption) ?_
        rotate_left
        · (intro w9 hSw; go_simp; (try with_reducible rfl))
        (try simp only [Act.put, List.setIfInBounds_toArray, List.set_cons_zero, List.set_cons_succ])
        refine wpAnyH_take (i := 11) (oi := { dst := some 64, op := _, type := _, pos := _, after := _, guard := _ }) (v := ?_) rfl (by kernel_rfl) (by kernel_rfl) (by kernel_rfl) (fun _ _ _ h => h) (Or.inl ⟨by rfl, ?_⟩) (by assumption) ?_
        rotate_left
        · (intro w9 hSw; go_simp; (try with_reducible rfl))
        (try simp only [Act.put, List.setIfInBounds_toArray, List.set_cons_zero, List.set_cons_succ])
        refine wpAnyH_take (i := 12) (oi := { dst := some 65, op := _, type := _, pos := _, after := _, guard := _ }) (v := ?_) rfl (by kernel_rfl) (by kernel_rfl) (by kernel_rfl) (fun _ _ _ h => h) (Or.inl ⟨by rfl, ?_⟩) (by assumption) ?_
        rotate_left
        · (intro w9 hSw; go_simp; (try with_reducible rfl))
        (try simp only [Act.put, List.setIfInBounds_toArray, List.set_cons_zero, List.set_cons_succ])
        refine wpAnyH_take (i := 13) (oi := { dst := some 66, op := _, type := _, pos := _, after := _, guard := _ }) (v := ?_) rfl (by kernel_rfl) (by kernel_rfl) (by kernel_rfl) (fun _ _ _ h => h) (Or.inl ⟨by rfl, ?_⟩) (by assumption) ?_
        rotate_left
        · (intro w9 hSw; go_simp; (try with_reducible rfl))
        (try simp only [Act.put, List.setIfInBounds_toArray, List.set_cons_zero, List.set_cons_succ])
        refine wpAnyH_take (i := 14) (oi := { dst := some 67, op := _, type := _, pos := _, after := _, guard := _ }) (v := ?_) rfl (by kernel_rfl) (by kernel_rfl) (by kernel_rfl) (fun _ _ _ h => h) (Or.inl ⟨by rfl, ?_⟩) (by assumption) ?_
        rotate_left
        · (intro w9 hSw; go_simp; (try with_reducible rfl))
        (try simp only [Act.put, List.setIfInBounds_toArray, List.set_cons_zero, List.set_cons_succ])
        refine wpAnyH_done (by kernel_rfl) ?_ _
        go_wp2_with fail
        go_roundg (gk - 1)
        case measure => have := HKG.out; omega
        case rel => exact ⟨k + 1, by have := HKG.out; omega, by go_num, hidMk (K2.out.trans hHeld)⟩
      · have hkN : k = N := by omega
        subst hkN
        go_wp2_with fail
        go_ret
        exact ⟨rfl, HK.out⟩
/-- Both copied: the copies are as they are, and apart. -/
theorem bo_cpR (h : Bo w0 w f d N s B r v gs cs t u y) {f' d' : Nat} (k : Kept w W) (F' : Fl W f' d' N s) (hf : w.heap.size ≤ f') (hd : w.heap.size ≤ d') : Calls Try.prog 22 #[.pointer (some ⟨r, 0, none⟩)] W fun e w' => ∃ v2 gs2 cs2, e = .returned (.pointer (some ⟨W.heap.size, 0, none⟩)) ∧ Bo w0 w' f' d' N s W.heap.size W.heap.size v2 gs2 cs2 t u y ∧ Kept W w' := by
  refine (r23_Copy (h.rf.kept k) h.n0 h.n1).mono fun e w' q => ?_
  obtain ⟨v2, gs2, cs2, rfl, hR, k2⟩ := q
  have h3 := F'.lt
  have h4 := F'.dt.lt
  have hge : ∀ j, RS W.heap.size v2 N gs2 j → W.heap.size ≤ j := fun j e => by
    rcases e with e | e | ⟨i, hi, e⟩
    · omega
    · exact (hR.rb.olt j e).1
    · subst e; exact (hR.rb.row i hi).2.2
  have h5 := h.kp.size
  refine ⟨v2, gs2, cs2, rfl, ⟨F'.kept k2, hR, h.ok, h.okt, h.rel, h.tl, h.tb, fun e => by have := hge _ e; omega, fun e => by have := hge _ e; omega, (h.kp.trans k).trans k2, (h.kp.trans k).size, by omega, by omega, h.n0, h.n1⟩, k2⟩
end
end Go.Proofs.Ytcmhfmbpbbdemaa
