/- parse: the first words; a kind. · parse's reader: the first word, the end; what is caught. · parse.Parse: its body, what is caught of it. -/
import Derived.Test.YtpehinmckppjoaaGreatDoorWPs9
import Derived.Deep.MidRow
import Derived.Defers
import Derived.Recover
import Derived.Laws.Pointers
namespace Go.Proofs.YtpehinmckppjoaaGreatDoor
open Go.RowKit Go.Maps
set_option linter.unusedSimpArgs false
set_option linter.unusedVariables false

/-- The kinds' first words in memory. -/
def FV (w : World) : Prop := ∀ i, i < 19 → w.cell? ⟨0, i, none⟩ = some (.string (kwL.getD i ByteArray.empty))
theorem FV.kept {w w' : World} (h : FV w) (k : Kept w w') : FV w' := fun i hi => k.cellp (h i hi)
def kwV : List Value := kwL.map Value.string
theorem kw_index (k : Nat) (hk : k < 19) (w : World) : (Instr.index 81 (.agg kwV.toArray) (.int .i64 k)).run Tryz.prog w = .ok (.string (kwL.getD k ByteArray.empty)) w := by
  rcases (by omega : k = 0 ∨ k = 1 ∨ k = 2 ∨ k = 3 ∨ k = 4 ∨ k = 5 ∨ k = 6 ∨ k = 7 ∨ k = 8 ∨ k = 9 ∨ k = 10 ∨ k = 11 ∨ k = 12 ∨ k = 13 ∨ k = 14 ∨ k = 15 ∨ k = 16 ∨ k = 17 ∨ k = 18) with rfl | rfl | rfl | rfl | rfl | rfl | rfl | rfl | rfl | rfl | rfl | rfl | rfl | rfl | rfl | rfl | rfl | rfl | rfl <;> kernel_rfl
theorem kw_range {w : World} (h : FV w) : w.rangeAt 0 0 kwV := fun j v hj => by
  have hjl : j < 19 := by
    have := (List.getElem?_eq_some_iff.1 hj).1
    simpa [kwV, kwL] using this
  rw [Nat.zero_add, h j hjl, ← hj]
  unfold kwV
  rw [List.getElem?_map, List.getD_eq_getElem?_getD, List.getElem?_eq_getElem (by simpa [kwL] using hjl)]
  rfl
theorem kw_type : Tryz.prog.underlying 81 = some (.array 19 9) ∧ (Tryz.prog.info? 81).map (·.size) = some kwV.length := ⟨by kernel_rfl, by kernel_rfl⟩
theorem kindI_at {t : ByteArray} {k : Nat} (hk : k < 19) (he : kwL.getD k ByteArray.empty = t) (h : ∀ j, j < k → kwL.getD j ByteArray.empty ≠ t) : kindI t = k := by
  have e := idxS_at (l := kwL) (s := t) (k := k) hk he h
  unfold idxI at e
  unfold kindI
  have : kwL.length = 19 := rfl
  rw [this] at e
  split at e
  · rename_i h1; rw [if_pos h1]; exact e
  · omega
theorem kindI_no {t : ByteArray} (h : ∀ j, j < 19 → kwL.getD j ByteArray.empty ≠ t) : kindI t = 0 := by
  have e := idxS_no (l := kwL) (s := t) h
  unfold idxI at e
  unfold kindI
  have : kwL.length = 19 := rfl
  rw [this] at e
  split at e
  · omega
  · rename_i h1; rw [if_neg h1]
set_option maxHeartbeats 2000000 in
set_option maxRecDepth 100000 in
theorem ps_Kind (W : World) (h : FV W) (t : ByteArray) : Calls Tryz.prog 13 #[.string t] W fun e w' => e = .returned (.int .i64 (kindI t)) ∧ w' = W := by
  have HLD := hidMk (kw_range h)
  have HTY := hidMk kw_type
  have hix := kw_index
  generalize kwV = cs at HLD HTY hix
  clear h
  go_enter Tryz.func13, Tryz.ntmps13
  go_wp2_with (refine wpList_load_mid rfl 81 _ rfl 0 0 rfl cs (.array 19 9) HLD.out HTY.out.1 rfl HTY.out.2 ?_)
  go_loopg [6] 19 (fun gg x wr => ∃ k : Nat, k + gg = 19 ∧ x = .int .i64 k ∧ wr = W ∧ Hid (∀ j, j < k → kwL.getD j ByteArray.empty ≠ t))
  case atStart => exact ⟨0, by omega, rfl, rfl, hidMk (fun j hj => by omega)⟩
  case round =>
    obtain ⟨k, hkg, rfl, rfl, HN⟩ := hrel
    have HKG := hidMk hkg
    by_cases hk : k < 19
    · have hk1 : (k : Int) < 19 := by omega
      have hx := hix k hk wr
      have HIX := hidMk hix
      clear hix hkg
      by_cases he : kwL.getD k ByteArray.empty = t
      · have HKI := hidMk (kindI_at hk he HN.out)
        rw [he] at hx
        clear he
        go_wp2_with fail
        rw [HKI.out]
        go_ret
        exact ⟨rfl, rfl⟩
      · have hb := bytes_neD he
        have HN2 := hidMk (show ∀ j, j < k + 1 → kwL.getD j ByteArray.empty ≠ t from fun j hj => by
          by_cases e : j = k
          · rw [e]; exact he
          · exact HN.out j (by omega))
        have HK1 := hidMk (show 1 ≤ gk by have := HKG.out; omega)
        clear he
        generalize kwL.getD k ByteArray.empty = u at *
        go_wp2_with fail
        go_roundg (gk - 1)
        case measure => have := HK1.out; omega
        case rel => exact ⟨k + 1, by have := HKG.out; have := HK1.out; omega, by go_num, rfl, HN2⟩
    · have hk1 : ¬ ((k : Int) < 19) := by omega
      have HKI := hidMk (kindI_no (t := t) (fun j hj => HN.out j (by omega)))
      clear hkg
      go_wp2_with fail
      rw [HKI.out]
      go_ret
      exact ⟨rfl, rfl⟩
end Go.Proofs.YtpehinmckppjoaaGreatDoor
namespace Go.Proofs.YtpehinmckppjoaaGreatDoor
open Go.RowKit Go.Maps
set_option linter.unusedSimpArgs false
set_option linter.unusedVariables false

section
variable {w0 W : World} {pr px pd : Nat} {ra : Option Addr} {rc : Nat} {ms : List ByteArray} {ds : List Dm} {L : List ByteArray} {s : Nat × Cm}
set_option maxHeartbeats 2000000 in
set_option maxRecDepth 100000 in
theorem rd_end (hX : RX w0 pr px pd ra rc ms ds L) (hS : RS w0 W pr px pd ra L.length rc s) :
    Calls Tryz.prog 27 #[.pointer (some ⟨pr, 0, none⟩)] W (RdPost w0 W pr px pd ra L.length rc (if s.1 < L.length then .error (s.1, 6) else .ok s)) := by
  have HS := hidMk hS
  have q1 := hS.ws
  have q2 := hS.at_
  have HF := hidMk (fun (y : World) (h : Kept W y) => rd_fail pr s.1 6 y (h.cellp q2))
  by_cases h : s.1 < L.length
  · rw [if_pos h]
    have h1 : decide ((s.1 : Int) < (L.length : Int)) = true := by simp; omega
    have h2 : (s.1 : Int) < (L.length : Int) := by omega
    clear hX hS
    show Calls _ _ _ _ (fun e w' => e = .panicked (flt s.1 6) ∧ Chg (Two pr px) W w')
    go_enter Tryz.func27, Tryz.ntmps27
    go_wp2_with fail
    go_quiet (fail)
    go_wp2_with fail
    refine (HF.out _ ((Kept.refl _).drewN _)).mono ?_
    rintro e w1 ⟨rfl, rfl⟩
    go_wp2_with fail
    exact ⟨rfl, rfl, Chg.of_kept ((Kept.refl _).drewN _)⟩
  · rw [if_neg h]
    have h1 : decide ((s.1 : Int) < (L.length : Int)) = false := by simp; omega
    have h2 : ¬ (s.1 : Int) < (L.length : Int) := by omega
    clear hX hS
    show Calls _ _ _ _ (fun e w' => e = .returned (.tuple #[]) ∧ RS w0 w' pr px pd ra L.length rc s ∧ Chg (Two pr px) W w')
    go_enter Tryz.func27, Tryz.ntmps27
    go_wp2_with fail
    go_quiet (fail)
    go_wp2_with fail
    go_end0
    exact ⟨rfl, HS.out.keep ((Kept.refl _).drewN _), Chg.of_kept ((Kept.refl _).drewN _)⟩
/-- What the first word does. -/
def FstPost (w0 W : World) (pr px pd : Nat) (ra : Option Addr) (rn rc : Nat) (s : Nat × Cm) (r : Option Int) (e : Ending) (w' : World) : Prop := match r with
  | none => e = .panicked (flt s.1 6) ∧ Chg (Two pr px) W w'
  | some k => e = .returned (.int .i64 k) ∧ RS w0 w' pr px pd ra rn rc (s.1 + 1, s.2) ∧ Chg (Two pr px) W w'
def fstK (L : List ByteArray) (i : Nat) : Option Int := match nx L 1 i with
  | none => none
  | some t => if kindI t = 0 then none else some (kindI t)
set_option maxHeartbeats 2000000 in
set_option maxRecDepth 100000 in
theorem rd_first (hX : RX w0 pr px pd ra rc ms ds L) (hV : ∀ y, Chg (Two pr px) w0 y → FV y) (hS : RS w0 W pr px pd ra L.length rc s) :
    Calls Tryz.prog 25 #[.pointer (some ⟨pr, 0, none⟩)] W (FstPost w0 W pr px pd ra L.length rc s (fstK L s.1)) := by
  have HS := hidMk hS
  unfold fstK
  cases hn : nx L 1 s.1 with
  | none =>
    have HW := hidMk (rd_word_no hX hS hn)
    clear hX hS hn
    show Calls _ _ _ _ (fun e w' => e = .panicked (flt s.1 6) ∧ Chg (Two pr px) W w')
    go_enter Tryz.func25, Tryz.ntmps25
    go_wp2_with fail
    refine HW.out.mono ?_
    rintro e w1 ⟨rfl, k1⟩
    go_wp2_with fail
    exact ⟨rfl, rfl, Chg.of_kept k1⟩
  | some t =>
    have HW := hidMk (rd_word_yes hX hS hn)
    have hi := (nx_some hn).1
    have hbig := hX.big
    have HFD := fun v0 v1 v2 v3 v4 w => (wd_field v0 v1 v2 v3 v4 w).1
    have HK := hidMk (show ∀ y, Kept W y → _ from fun y hy => ps_Kind y (hV y (chg_kept hS.kept hy)) t)
    have HPY := hidMk (fun (y : World) (hy : RS w0 y pr px pd ra L.length rc s) => rd_pass_yes pr s.1 6 y hy.at_ hy.fr (by omega))
    have HPN := hidMk (fun (y : World) (hy : RS w0 y pr px pd ra L.length rc s) => rd_pass_no pr s.1 6 y hy.at_)
    clear hX hS hn hV
    obtain ⟨k, hkk⟩ : ∃ k, kindI t = k := ⟨_, rfl⟩
    simp only [hkk] at HK ⊢
    clear hkk
    by_cases hk : k = 0
    · have hkb : (k != 0) = false := by simpa using hk
      simp only [if_pos hk]
      show Calls _ _ _ _ (fun e w' => e = .panicked (flt s.1 6) ∧ Chg (Two pr px) W w')
      go_enter Tryz.func25, Tryz.ntmps25
      go_wp2_with fail
      refine HW.out.mono ?_
      rintro e w1 ⟨wx, rfl, _, _, k1⟩
      have K1 := hidMk k1
      have HQ := hidMk (HPN.out w1 (HS.out.keep k1))
      clear k1
      go_wp2_with fail
      refine (HK.out _ K1.out).mono ?_
      rintro e w2 ⟨rfl, rfl⟩
      go_wp2_with fail
      refine HQ.out.mono ?_
      rintro e w3 ⟨rfl, rfl⟩
      go_wp2_with fail
      exact ⟨rfl, rfl, Chg.of_kept K1.out⟩
    · have hkb : (k != 0) = true := by simpa using hk
      simp only [if_neg hk]
      show Calls _ _ _ _ (fun e w' => e = .returned (.int .i64 k) ∧ RS w0 w' pr px pd ra L.length rc (s.1 + 1, s.2) ∧ Chg (Two pr px) W w')
      go_enter Tryz.func25, Tryz.ntmps25
      go_wp2_with fail
      refine HW.out.mono ?_
      rintro e w1 ⟨wx, rfl, _, _, k1⟩
      have K1 := hidMk k1
      have HQ := hidMk (HPY.out w1 (HS.out.keep k1))
      have HSS := hidMk ((HS.out.keep k1).setAt (s.1 + 1) (by omega))
      clear k1
      go_wp2_with fail
      refine (HK.out _ K1.out).mono ?_
      rintro e w2 ⟨rfl, rfl⟩
      go_wp2_with fail
      refine HQ.out.mono ?_
      rintro e w3 ⟨rfl, rfl⟩
      go_wp2_with fail
      go_ret
      exact ⟨rfl, HSS.out, (Chg.of_kept K1.out).setCell (p := ⟨pr, 2, none⟩) (.inl (.inl rfl)) _⟩
/-- The fields of any kind. -/
theorem rd_fields (hX : RX w0 pr px pd ra rc ms ds L) (hS : RS w0 W pr px pd ra L.length rc s) (hk : 1 ≤ s.2.k ∧ s.2.k ≤ 18) :
    Calls Tryz.prog 26 #[rdV pr, .pointer (some ⟨px, 0, none⟩)] W (RdPost w0 W pr px pd ra L.length rc (foldP ms ds L (shapeL s.2.k) s)) := by
  rcases (by omega : s.2.k = 1 ∨ s.2.k = 2 ∨ s.2.k = 3 ∨ s.2.k = 4 ∨ s.2.k = 5 ∨ s.2.k = 6 ∨ s.2.k = 7 ∨ s.2.k = 8 ∨ s.2.k = 9 ∨ s.2.k = 10 ∨ s.2.k = 11 ∨ s.2.k = 12 ∨ s.2.k = 13 ∨ s.2.k = 14 ∨ s.2.k = 15 ∨ s.2.k = 16 ∨ s.2.k = 17 ∨ s.2.k = 18) with h | h | h | h | h | h | h | h | h | h | h | h | h | h | h | h | h | h
  · rw [h]; exact rd_fields_1 hX hS h
  · rw [h]; exact rd_fields_2 hX hS (by omega)
  · rw [h]; exact rd_fields_2 hX hS (by omega)
  · rw [h]; exact rd_fields_4 hX hS (by omega)
  · rw [h]; exact rd_fields_4 hX hS (by omega)
  · rw [h]; exact rd_fields_6 hX hS (by omega)
  · rw [h]; exact rd_fields_6 hX hS (by omega)
  · rw [h]; exact rd_fields_8 hX hS (by omega)
  · rw [h]; exact rd_fields_6 hX hS (by omega)
  · rw [h]; exact rd_fields_10 hX hS h
  · rw [h]; exact rd_fields_2 hX hS (by omega)
  · rw [h]; exact rd_fields_4 hX hS (by omega)
  · rw [h]; exact rd_fields_8 hX hS (by omega)
  · rw [h]; exact rd_fields_6 hX hS (by omega)
  · rw [h]; exact rd_fields_6 hX hS (by omega)
  · rw [h]; exact rd_fields_16 hX hS h
  · rw [h]; exact rd_fields_17 hX hS h
  · rw [h]; exact rd_fields_18 hX hS h
end
theorem catch_flt (g : Nat) (a y : Int) (older : List PanicEntry) (w : World) (h0 : w.cell? ⟨g, 0, none⟩ = some (.int .i64 0)) (h1 : w.cell? ⟨g, 1, none⟩ = some (.int .i64 0)) (f0 : w.frozen? ⟨g, 0, none⟩ = false) (f1 : w.frozen? ⟨g, 1, none⟩ = false) :
    CallsD Tryz.prog 47 #[.pointer (some ⟨g, 0, none⟩)] (.panicking ({ v := .iface 68 (.agg #[.int .i64 a, .int .i64 y]), recovered := false } :: older)) w fun e u' w' =>
      e = .returned (.tuple #[]) ∧ u' = .panicking ({ v := .iface 68 (.agg #[.int .i64 a, .int .i64 y]), recovered := true } :: older) ∧ w' = (w.setCell ⟨g, 0, none⟩ (.int .i64 a)).setCell ⟨g, 1, none⟩ (.int .i64 y) := by
  have hta : ∀ n w, (Instr.typeAssert (.iface 68 (.agg #[.int .i64 a, .int .i64 y])) n 68 false).run Tryz.prog w = .ok (.agg #[.int .i64 a, .int .i64 y]) w := fun n w => by kernel_rfl
  refine callsD_of_wpS Tryz.func47 rfl fun c₀ cs hu => ?_
  apply wpS_seq
  apply wpS_region
  simp [wpOpsS, go_sem, recoverD, hu, Tryz.ntmps47, Exit.thenS]
  apply wpS_seq
  apply wpS_region
  simp [wpOpsS, go_sem, Array.replicate, Exit.thenS]
  refine wpS_cond (t := true) (by simp [Act.eval, Array.replicate]) ?_
  simp only [if_true]
  apply wpS_region
  simp [wpOpsS, go_sem, hta, h0, h1, f0, f1, bodyPostS, results, Tryz.results47]
theorem catch_idle (p : Addr) (w : World) :
    CallsD Tryz.prog 47 #[.pointer (some p)] .returning w fun e u' w' => e = .returned (.tuple #[]) ∧ u' = .returning ∧ w' = w := by
  refine callsD_of_wpS Tryz.func47 rfl fun c₀ cs hu => ?_
  apply wpS_seq
  apply wpS_region
  simp [wpOpsS, go_sem, recoverD, hu, Tryz.ntmps47, Exit.thenS]
  apply wpS_seq
  apply wpS_region
  simp [wpOpsS, go_sem, Array.replicate, Exit.thenS]
  refine wpS_cond (t := false) (by simp [Act.eval, Array.replicate]) ?_
  simp only [Bool.false_eq_true, if_false]
  refine wpS_of_wp (wp_skip ?_)
  cases c₀
  simp_all [bodyPostS, results, Tryz.results47]
end Go.Proofs.YtpehinmckppjoaaGreatDoor
namespace Go.Proofs.YtpehinmckppjoaaGreatDoor
open Go.RowKit Go.Maps
set_option linter.unusedSimpArgs false
set_option linter.unusedVariables false

/-- A line's command, or the word that can not stand and why. -/
def parseB (ms : List ByteArray) (ds : List Dm) (L : List ByteArray) : PR := match fstK L 0 with
  | none => .error (0, 6)
  | some k => bdP (foldP ms ds L (shapeL k) (1, { cm0 with k := k })) (fun s => if s.1 < L.length then .error (s.1, 6) else .ok s)
theorem parseB_eq (ms : List ByteArray) (ds : List Dm) (L : List ByteArray) : parseP ms ds L = match parseB ms ds L with
    | .error e => (cm0, e.1, e.2)
    | .ok s => (s.2, 0, 0) := by
  unfold parseP parseB fstK
  cases nx L 1 0 with
  | none => rfl
  | some t =>
    simp only
    split
    · rfl
    · simp only
      cases foldP ms ds L (shapeL (kindI t)) (1, { cm0 with k := kindI t }) with
      | error e => rfl
      | ok s =>
        simp only [bdP]
        split <;> rfl
theorem kindI_le (t : ByteArray) : 0 ≤ kindI t ∧ kindI t ≤ 18 := by
  unfold kindI
  split <;> omega
theorem fstK_le {L : List ByteArray} {i : Nat} {k : Int} (h : fstK L i = some k) : 1 ≤ k ∧ k ≤ 18 := by
  unfold fstK at h
  cases hn : nx L 1 i with
  | none => rw [hn] at h; cases h
  | some t =>
    rw [hn] at h
    simp only at h
    split at h
    · cases h
    · cases h
      have := kindI_le t
      omega
theorem RS.chg {w0 W W' : World} {pr px pd : Nat} {ra : Option Addr} {rn rc : Nat} {s : Nat × Cm} (h : RS w0 W pr px pd ra rn rc s) {S : Nat → Prop} (k : Chg S W W') (hr : ¬ S pr) (hx : ¬ S px) (h0 : ∀ j, S j → w0.heap.size ≤ j) : RS w0 W' pr px pd ra rn rc s :=
  ⟨h.kept.thn k (fun j hj e => absurd (h0 j e) (by omega)), h.ne, k.cellp h.d hr, k.cellp h.ws hr, k.cellp h.at_ hr, (k.frozen (p := ⟨pr, 2, none⟩) h.ltr hr).trans h.fr, fun j u hu => k.cellp (h.x j u hu) hx, fun j hj => (k.frozen (p := ⟨px, j, none⟩) h.ltx hx).trans (h.fx j hj), h.le⟩
section
variable {w0 W : World} {pr px pd : Nat} {ra : Option Addr} {rc : Nat} {ms : List ByteArray} {ds : List Dm} {L : List ByteArray}
set_option maxHeartbeats 2000000 in
set_option maxRecDepth 100000 in
theorem rd_body (hX : RX w0 pr px pd ra rc ms ds L) (hV : ∀ y, Chg (Two pr px) w0 y → FV y) (hS : RS w0 W pr px pd ra L.length rc (0, cm0)) (pc : Nat) (hpc : pc ≠ pr ∧ pc ≠ px) (hc : W.cell? ⟨pc, 0, none⟩ = some (.pointer (some ⟨pr, 0, none⟩))) :
    Calls Tryz.prog 24 #[.pointer (some ⟨pc, 0, none⟩), .pointer (some ⟨px, 0, none⟩)] W (RdPost w0 W pr px pd ra L.length rc (parseB ms ds L)) := by
  have HX := hidMk hX
  have HF := hidMk (rd_first hX hV hS)
  have hnS : ¬ Two pr px pc := fun e => by
    rcases e with e | e
    · exact hpc.1 e
    · exact hpc.2 e
  have HNS := hidMk hnS
  obtain ⟨R, hR⟩ : ∃ R, parseB ms ds L = R := ⟨_, rfl⟩
  rw [hR]
  unfold parseB at hR
  clear hX hV hS hpc hnS
  cases hk : fstK L 0 with
  | none =>
    rw [hk] at hR
    simp only [hk] at HF
    subst hR
    show Calls _ _ _ _ (fun e w' => e = .panicked (flt 0 6) ∧ Chg (Two pr px) W w')
    go_enter Tryz.func24, Tryz.ntmps24
    go_wp2_with fail
    refine HF.out.mono ?_
    rintro e w1 ⟨rfl, c1⟩
    go_wp2_with fail
    exact ⟨rfl, rfl, c1⟩
  | some k =>
    have HK := hidMk (fstK_le hk)
    simp only [hk] at HF hR
    have HR := hidMk hR
    clear hk hR
    go_enter Tryz.func24, Tryz.ntmps24
    go_wp2_with fail
    refine HF.out.mono ?_
    rintro e w1 ⟨rfl, s1, c1⟩
    have S1 := hidMk s1
    have C1 := hidMk c1
    have x0 : w1.cell? ⟨px, 0, none⟩ = some (.int .i64 0) := s1.x 0 _ rfl
    have xf := s1.fx 0 (by omega)
    have e1 := c1.cellp hc HNS.out
    have S2 := hidMk (s1.setX (x := { cm0 with k := k }) (o := 0) (v := .int .i64 k) (by omega) rfl)
    have C2 := hidMk (c1.setCell (p := ⟨px, 0, none⟩) (.inl (.inr rfl)) (.int .i64 k))
    have e2 := C2.out.cellp hc HNS.out
    clear s1 c1 HF
    have HFL := hidMk (rd_fields HX.out S2.out HK.out)
    simp only at HFL
    obtain ⟨r, hr⟩ : ∃ r, foldP ms ds L (shapeL k) (1, { cm0 with k := k }) = r := ⟨_, rfl⟩
    have HR2 := hidMk (show bdP r (fun s => if s.1 < L.length then .error (s.1, 6) else .ok s) = R by rw [← hr]; exact HR.out)
    have HFL2 := hidMk (show Calls Tryz.prog 26 #[.iface 62 (.pointer (some ⟨pr, 0, none⟩)), .pointer (some ⟨px, 0, none⟩)] (w1.setCell ⟨px, 0, none⟩ (.int .i64 k)) (RdPost w0 (w1.setCell ⟨px, 0, none⟩ (.int .i64 k)) pr px pd ra L.length rc r) from hr ▸ HFL.out)
    clear hr HR HFL
    go_wp2_with fail
    refine HFL2.out.mono ?_
    intro e w2 hp
    rcases r with p | s2
    · obtain ⟨rfl, c3⟩ := hp
      go_wp2_with fail
      rw [← HR2.out]
      exact ⟨rfl, rfl, C2.out.thn c3 (fun _ _ h => h)⟩
    · obtain ⟨rfl, s3, c3⟩ := hp
      have HE := hidMk (rd_end HX.out s3)
      have C3 := hidMk (C2.out.thn c3 (fun _ _ h => h))
      have e3 := C3.out.cellp hc HNS.out
      obtain ⟨r2, hr2⟩ : ∃ r2, (if s2.1 < L.length then (.error (s2.1, 6) : PR) else .ok s2) = r2 := ⟨_, rfl⟩
      have HR3 := hidMk (show r2 = R by rw [← hr2]; exact HR2.out)
      simp only [hr2] at HE
      clear hr2 s3 c3 HR2
      go_wp2_with fail
      refine HE.out.mono ?_
      intro e w3 hp
      rcases r2 with p | s3
      · obtain ⟨rfl, c4⟩ := hp
        go_wp2_with fail
        rw [← HR3.out]
        exact ⟨rfl, rfl, C3.out.thn c4 (fun _ _ h => h)⟩
      · obtain ⟨rfl, s4, c4⟩ := hp
        go_wp2_with fail
        go_end0
        rw [← HR3.out]
        exact ⟨rfl, s4, C3.out.thn c4 (fun _ _ h => h)⟩
/-- What 'caught' tells of a body. -/
def CtPost (w0 W : World) (pr px pd : Nat) (ra : Option Addr) (rn rc : Nat) (r : PR) (e : Ending) (w' : World) : Prop := Chg (Two pr px) W w' ∧ match r with
  | .error p => e = .returned (.agg #[.int .i64 p.1, .int .i64 p.2])
  | .ok s' => e = .returned (.agg #[.int .i64 0, .int .i64 0]) ∧ RS w0 w' pr px pd ra rn rc s'
set_option maxHeartbeats 2000000 in
set_option maxRecDepth 100000 in
theorem rd_caught (hX : RX w0 pr px pd ra rc ms ds L) (hV : ∀ y, Chg (Two pr px) w0 y → FV y) (hS : RS w0 W pr px pd ra L.length rc (0, cm0)) (pc : Nat) (hpc : pc ≠ pr ∧ pc ≠ px) (hc : W.cell? ⟨pc, 0, none⟩ = some (.pointer (some ⟨pr, 0, none⟩))) :
    Calls Tryz.prog 23 #[.func (.func 24) #[] #[.pointer (some ⟨pc, 0, none⟩), .pointer (some ⟨px, 0, none⟩)]] W (CtPost w0 W pr px pd ra L.length rc (parseB ms ds L)) := by
  have hmf : ∀ fn first cap w, (Instr.makeFunc fn first cap).run Tryz.prog w = .ok (.func fn first cap) w := fun _ _ _ _ => rfl
  have hlr := hS.ltr
  have hlx := hS.ltx
  have HB := hidMk (show ∀ o, Calls Tryz.prog 24 #[.pointer (some ⟨pc, 0, none⟩), .pointer (some ⟨px, 0, none⟩)] (W.alloc o) (RdPost w0 (W.alloc o) pr px pd ra L.length rc (parseB ms ds L)) from fun o => rd_body hX hV (hS.keep ((Kept.refl W).alloc o)) pc hpc (((Kept.refl W).alloc o).cellp hc))
  have hk0 := hidMk (hS.kept.size)
  clear hX hV hS hpc
  generalize parseB ms ds L = R at *
  go_enter_defers Tryz.func23, Tryz.ntmps23
  go_wp2_with fail
  refine (HB.out _).mono ?_
  intro e w1 hp
  have hn : ¬ Two pr px W.heap.size := fun e => by
    rcases e with e | e <;> omega
  rcases R with p | s1
  · obtain ⟨rfl, c1⟩ := hp
    have g0 : w1.cell? ⟨W.heap.size, 0, none⟩ = some (.int .i64 0) := c1.cellp (by simp) hn
    have g1 : w1.cell? ⟨W.heap.size, 1, none⟩ = some (.int .i64 0) := c1.cellp (by simp) hn
    have f0 : w1.frozen? ⟨W.heap.size, 0, none⟩ = false := (c1.frozen (p := ⟨W.heap.size, 0, none⟩) (by simp) hn).trans (by simp)
    have f1 : w1.frozen? ⟨W.heap.size, 1, none⟩ = false := (c1.frozen (p := ⟨W.heap.size, 1, none⟩) (by simp) hn).trans (by simp)
    have C1 := hidMk (((((Chg.refl (Two pr px) W).alloc _).thn c1 (fun _ _ h => h)).setCell (p := ⟨W.heap.size, 0, none⟩) (.inr (Nat.le_refl _)) (.int .i64 p.1)).setCell (p := ⟨W.heap.size, 1, none⟩) (.inr (Nat.le_refl _)) (.int .i64 p.2))
    refine leaves_cons (f := 47) (args := #[.pointer (some ⟨W.heap.size, 0, none⟩)]) (by simp) (by simp [go_sem]) ?_
    refine (catch_flt W.heap.size p.1 p.2 [] _ g0 g1 f0 f1).mono ?_
    rintro e u' w'' ⟨rfl, rfl, rfl⟩
    have j0 := World.cell?_setCell_same w1 ⟨W.heap.size, 0, none⟩ (.int .i64 p.1) g0
    have j1 := World.cell?_setCell_same (w1.setCell ⟨W.heap.size, 0, none⟩ (.int .i64 p.1)) ⟨W.heap.size, 1, none⟩ (.int .i64 p.2) (so g1 (by simp))
    simp [Leaves, settle, results, Tryz.results23, go_sem, j0, j1]
    exact ⟨C1.out, rfl⟩
  · obtain ⟨rfl, s2, c1⟩ := hp
    have g0 : w1.cell? ⟨W.heap.size, 0, none⟩ = some (.int .i64 0) := c1.cellp (by simp) hn
    have g1 : w1.cell? ⟨W.heap.size, 1, none⟩ = some (.int .i64 0) := c1.cellp (by simp) hn
    have f0 : w1.frozen? ⟨W.heap.size, 0, none⟩ = false := (c1.frozen (p := ⟨W.heap.size, 0, none⟩) (by simp) hn).trans (by simp)
    have f1 : w1.frozen? ⟨W.heap.size, 1, none⟩ = false := (c1.frozen (p := ⟨W.heap.size, 1, none⟩) (by simp) hn).trans (by simp)
    have C1 := hidMk (((Chg.refl (Two pr px) W).alloc (.cells #[.int .i64 0, .int .i64 0] 68)).thn c1 (fun _ _ h => h))
    have S2 := hidMk s2
    clear s2 c1 HB
    go_wp2_with fail
    have j0 := World.cell?_setCell_same w1 ⟨W.heap.size, 0, none⟩ (.int .i64 0) g0
    have j1 := World.cell?_setCell_same (w1.setCell ⟨W.heap.size, 0, none⟩ (.int .i64 0)) ⟨W.heap.size, 1, none⟩ (.int .i64 0) (so g1 (by simp))
    refine leaves_cons (f := 47) (args := #[.pointer (some ⟨W.heap.size, 0, none⟩)]) (by simp) (by simp [go_sem]) ?_
    refine (catch_idle ⟨W.heap.size, 0, none⟩ _).mono ?_
    rintro e u' w'' ⟨rfl, rfl, rfl⟩
    simp [Leaves, settle, results, Tryz.results23, go_sem, j0, j1]
    have CE : Chg (fun b => b = W.heap.size) w1 ((w1.setCell ⟨W.heap.size, 0, none⟩ (.int .i64 0)).setCell ⟨W.heap.size, 1, none⟩ (.int .i64 0)) := ((Chg.refl (fun b => b = W.heap.size) w1).setCell (S := fun b => b = W.heap.size) (p := ⟨W.heap.size, 0, none⟩) (.inl rfl) _).setCell (S := fun b => b = W.heap.size) (p := ⟨W.heap.size, 1, none⟩) (.inl rfl) _
    exact ⟨(C1.out.setCell (p := ⟨W.heap.size, 0, none⟩) (.inr (Nat.le_refl _)) _).setCell (p := ⟨W.heap.size, 1, none⟩) (.inr (Nat.le_refl _)) _, rfl, S2.out.chg CE (by omega) (by omega) (fun j hj => by have := hk0.out; omega)⟩
end
end Go.Proofs.YtpehinmckppjoaaGreatDoor
