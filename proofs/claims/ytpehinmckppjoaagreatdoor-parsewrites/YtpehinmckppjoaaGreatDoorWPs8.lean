/- parse.fields, for a reader. -/
import Derived.Test.YtpehinmckppjoaaGreatDoorWPs7B
import Derived.Handy
namespace Go.Proofs.YtpehinmckppjoaaGreatDoor
open Go.RowKit Go.Maps
set_option linter.unusedSimpArgs false
set_option linter.unusedVariables false

def bdP (r : PR) (f : Nat × Cm → PR) : PR := match r with
  | .error e => .error e
  | .ok z => f z
theorem howP_bd (ms : List ByteArray) (ds : List Dm) (L : List ByteArray) (bs : List Int) (s : Nat × Cm) : bdP (choiceP L spW s) (fun z => bdP (if z.2.h = 2 then indexP L ms z else .ok z) (foldP ms ds L bs)) = foldP ms ds L (104 :: bs) s := by
  rw [foldP_cons]
  unfold oneP
  rw [if_neg (by decide), if_neg (by decide), if_neg (by decide), if_pos rfl]
  unfold howP
  cases choiceP L spW s <;> rfl
section
variable {w0 W : World} {pr px pd : Nat} {ra : Option Addr} {rc : Nat} {ms : List ByteArray} {ds : List Dm} {L : List ByteArray}
theorem rdP_err {p : Int × Int} {f : Nat × Cm → PR} {w' : World} (h : Chg (Two pr px) W w') : RdPost w0 W pr px pd ra L.length rc (bdP (.error p) f) (.panicked (flt p.1 p.2)) w' := ⟨rfl, h⟩
theorem rdP_from {f : FuncId} {args : Array Value} {y : World} {r : PR} (hy : Kept W y) (h : Calls Tryz.prog f args y (RdPost w0 y pr px pd ra L.length rc r)) : Calls Tryz.prog f args y (RdPost w0 W pr px pd ra L.length rc r) := h.mono fun e w' h => by
  cases r with
  | error p => exact ⟨h.1, (Chg.of_kept hy).thn h.2 (fun _ _ e => e)⟩
  | ok z => exact ⟨h.1, h.2.1, (Chg.of_kept hy).thn h.2.2 (fun _ _ e => e)⟩
/-- Names, told behind a new row of where they go. -/
theorem rd_nmA (hX : RX w0 pr px pd ra rc ms ds L) {s : Nat × Cm} (hS : RS w0 W pr px pd ra L.length rc s) (bs : List Int) (hbl : bs.length ≤ 3) (hb : ∀ b ∈ bs, isNm b) (t : TypeId) (y : World) (hy : Kept (W.alloc (.cells (bs.map (fun b => Value.pointer (some ⟨px, offT b, none⟩))).toArray t)) y) :
    Calls Tryz.prog 50 #[rdV pr, .slice (some ⟨W.heap.size, 0, none⟩) bs.length bs.length] y (RdPost w0 W pr px pd ra L.length rc (foldP ms ds L bs s)) := by
  have k := ((Kept.refl W).alloc (.cells (bs.map (fun b => Value.pointer (some ⟨px, offT b, none⟩))).toArray t)).trans hy
  refine (rd_names hX (hS.keep k) bs hbl (fun j hj => ?_) W.heap.size bs.length ?_ (fun j hj => ?_)).mono (fun e w' h => ?_)
  · rw [List.getD_eq_getElem?_getD, List.getElem?_eq_getElem hj]; exact hb _ (List.getElem_mem hj)
  · have h1 := hS.ltr
    have h2 := hS.ltx
    omega
  · exact hy.cellp (by simp [List.getElem?_map, List.getElem?_eq_getElem hj, List.getD_eq_getElem?_getD])
  · cases hf : foldP ms ds L bs s with
    | error p => rw [hf] at h; exact ⟨h.1, (Chg.of_kept k).thn h.2 (fun _ _ e => e)⟩
    | ok z => rw [hf] at h; exact ⟨h.1, h.2.1, (Chg.of_kept k).thn h.2.2 (fun _ _ e => e)⟩
theorem ss_lit (W : World) (l : List ByteArray) (h0 : 0 < l.length) (hl : l.length ≤ 10) (t : TypeId) : Ss (W.alloc (.cells (l.map Value.string).toArray t)) (some ⟨W.heap.size, 0, none⟩) l.length l := by
  refine ⟨rfl, Nat.le_trans hl (by decide), fun _ => ⟨W.heap.size, 0, rfl, by simp, fun i hi => ?_⟩⟩
  simp [List.getElem?_map, List.getElem?_eq_getElem hi, List.getD_eq_getElem?_getD]
/-- A choice, told behind a new row of its words. -/
theorem rd_chA (hX : RX w0 pr px pd ra rc ms ds L) {s : Nat × Cm} (hS : RS w0 W pr px pd ra L.length rc s) (l : List ByteArray) (h0 : 0 < l.length) (hl : l.length ≤ 10) (t : TypeId) (y : World) (hy : Kept (W.alloc (.cells (l.map Value.string).toArray t)) y) :
    Calls Tryz.prog 172 #[.pointer (some ⟨pr, 0, none⟩), .pointer (some ⟨px, 10, none⟩), .slice (some ⟨W.heap.size, 0, none⟩) l.length l.length] y (RdPost w0 W pr px pd ra L.length rc (choiceP L l s)) := by
  have k := ((Kept.refl W).alloc (.cells (l.map Value.string).toArray t)).trans hy
  refine (rd_choice hX (hS.keep k) (some ⟨W.heap.size, 0, none⟩) l.length l.length l ((ss_lit W l h0 hl t).kept hy)).mono (fun e w' h => ?_)
  cases hf : choiceP L l s with
  | error p => rw [hf] at h; exact ⟨h.1, (Chg.of_kept k).thn h.2 (fun _ _ e => e)⟩
  | ok z => rw [hf] at h; exact ⟨h.1, h.2.1, (Chg.of_kept k).thn h.2.2 (fun _ _ e => e)⟩
set_option maxHeartbeats 4000000 in
set_option maxRecDepth 100000 in
theorem rd_fields_1 (hX : RX w0 pr px pd ra rc ms ds L) {s : Nat × Cm} (hS : RS w0 W pr px pd ra L.length rc s) (hk : s.2.k = 1) :
    Calls Tryz.prog 26 #[rdV pr, .pointer (some ⟨px, 0, none⟩)] W (RdPost w0 W pr px pd ra L.length rc (foldP ms ds L [117, 115, 99, 110, 104] s)) := by
  have HS := hidMk hS
  have HX := hidMk hX
  have x0 := hS.x 0 _ rfl
  have hmf : ∀ fn first cap w, (Instr.makeFunc fn first cap).run Tryz.prog w = .ok (.func fn first cap) w := fun _ _ _ _ => rfl
  have hna1 : ∀ n w, (nilAhead (n + 1) 62 (.pointer (some ⟨pr, 0, none⟩)) "moiety/parse.cell").run Tryz.prog w = .ok (some false) w := fun n w => by kernel_rfl
  have hna2 : ∀ n w, (nilAhead (n + 1) 62 (.pointer (some ⟨pr, 0, none⟩)) "moiety/parse.num").run Tryz.prog w = .ok (some false) w := fun n w => by kernel_rfl
  have hna3 : ∀ n w, (nilAhead (n + 1) 62 (.pointer (some ⟨pr, 0, none⟩)) "moiety/parse.choice").run Tryz.prog w = .ok (some false) w := fun n w => by kernel_rfl
  have hna4 : ∀ n w, (nilAhead (n + 1) 62 (.pointer (some ⟨pr, 0, none⟩)) "moiety/parse.dim").run Tryz.prog w = .ok (some false) w := fun n w => by kernel_rfl
  have hna5 : ∀ n w, (nilAhead (n + 1) 62 (.pointer (some ⟨pr, 0, none⟩)) "moiety/parse.meas").run Tryz.prog w = .ok (some false) w := fun n w => by kernel_rfl
  obtain ⟨R, hR⟩ : ∃ R, foldP ms ds L [117, 115, 99, 110, 104] s = R := ⟨_, rfl⟩
  rw [hR]
  have HF := hidMk hR
  unfold rdV
  clear hX hS hR
  all_goals
    rw [hk] at x0
    go_enter Tryz.func26, Tryz.ntmps26
    have HH0 := hidMk (Chg.refl (Two pr px) W)
    obtain ⟨r0, hr0⟩ : ∃ r, foldP ms ds L [117, 115] s = r := ⟨_, rfl⟩
    have HF0 := hidMk (show bdP r0 (foldP ms ds L [99, 110, 104]) = R from (congrArg (bdP · (foldP ms ds L [99, 110, 104])) hr0).symm.trans ((foldP_app ms ds L [117, 115] [99, 110, 104] s).symm.trans HF.out))
    have HC0 := hidMk (show ∀ o t y, o = .cells #[.pointer (some ⟨px, 1, none⟩), .pointer (some ⟨px, 2, none⟩)] t → Kept (W.alloc o) y → Calls Tryz.prog 50 #[.iface 62 (.pointer (some ⟨pr, 0, none⟩)), .slice (some ⟨W.heap.size, 0, none⟩) 2 2] y (RdPost w0 W pr px pd ra L.length rc r0) from fun o t y ho hy => by subst ho; rw [← hr0]; exact rd_nmA HX.out HS.out [117, 115] (by decide) (by simp [isNm]) t y hy)
    clear hr0 HF
    go_wp2_with fail
    refine wp_region_held_drew (S := (fun _ => True)) (by kernel_rfl) ?_ (fun hHeld => ?_)
    · trivial
    refine wpAnyH_take (i := 0) (oi := { dst := some 10, op := _, type := _, pos := _, after := _, guard := _ }) (v := ?_) rfl (by kernel_rfl) (by kernel_rfl) (by kernel_rfl) (fun _ _ _ h => h) (Or.inl ⟨by rfl, ?_⟩) (by assumption) ?_
    rotate_left
    · (intro w hSw; go_simp; (try with_reducible rfl))
    (try simp only [Act.put, List.setIfInBounds_toArray, List.set_cons_zero, List.set_cons_succ])
    refine wpAnyH_take (i := 1) (oi := { dst := some 11, op := _, type := _, pos := _, after := _, guard := _ }) (v := ?_) rfl (by kernel_rfl) (by kernel_rfl) (by kernel_rfl) (fun _ _ _ h => h) (Or.inl ⟨by rfl, ?_⟩) (by assumption) ?_
    rotate_left
    · (intro w hSw; go_simp; (try with_reducible rfl))
    (try simp only [Act.put, List.setIfInBounds_toArray, List.set_cons_zero, List.set_cons_succ])
    refine wpAnyH_take (i := 2) (oi := { dst := some 12, op := _, type := _, pos := _, after := _, guard := _ }) (v := ?_) rfl (by kernel_rfl) (by kernel_rfl) (by kernel_rfl) (fun _ _ _ h => h) (Or.inl ⟨by rfl, ?_⟩) (by assumption) ?_
    rotate_left
    · (intro w hSw; go_simp; (try with_reducible rfl))
    (try simp only [Act.put, List.setIfInBounds_toArray, List.set_cons_zero, List.set_cons_succ])
    refine wpAnyH_take (i := 3) (oi := { dst := some 13, op := _, type := _, pos := _, after := _, guard := _ }) (v := ?_) rfl (by kernel_rfl) (by kernel_rfl) (by kernel_rfl) (fun _ _ _ h => h) (Or.inl ⟨by rfl, ?_⟩) (by assumption) ?_
    rotate_left
    · (intro w hSw; go_simp; (try with_reducible rfl))
    (try simp only [Act.put, List.setIfInBounds_toArray, List.set_cons_zero, List.set_cons_succ])
    refine wpAnyH_take (i := 4) (oi := { dst := some 14, op := _, type := _, pos := _, after := _, guard := _ }) (v := ?_) rfl (by kernel_rfl) (by kernel_rfl) (by kernel_rfl) (fun _ _ _ h => h) (Or.inl ⟨by rfl, ?_⟩) (by assumption) ?_
    rotate_left
    · (intro w hSw; go_simp; (try with_reducible rfl))
    (try simp only [Act.put, List.setIfInBounds_toArray, List.set_cons_zero, List.set_cons_succ])
    refine wpAnyH_take (i := 5) (oi := { dst := some 15, op := _, type := _, pos := _, after := _, guard := _ }) (v := ?_) rfl (by kernel_rfl) (by kernel_rfl) (by kernel_rfl) (fun _ _ _ h => h) (Or.inl ⟨by rfl, ?_⟩) (by assumption) ?_
    rotate_left
    · (intro w hSw; go_simp; (try with_reducible rfl))
    (try simp only [Act.put, List.setIfInBounds_toArray, List.set_cons_zero, List.set_cons_succ])
    refine wpAnyH_take (i := 6) (oi := { dst := some 16, op := _, type := _, pos := _, after := _, guard := _ }) (v := ?_) rfl (by kernel_rfl) (by kernel_rfl) (by kernel_rfl) (fun _ _ _ h => h) (Or.inl ⟨by rfl, ?_⟩) (by assumption) ?_
    rotate_left
    · (intro w hSw; go_simp; (try with_reducible rfl))
    (try simp only [Act.put, List.setIfInBounds_toArray, List.set_cons_zero, List.set_cons_succ])
    refine wpAnyH_ready (rs := [7]) (by kernel_rfl) (by simp) ?_
    refine AllReadyH.cons (o := { dst := some 17, op := _, type := _, pos := _, after := _, guard := _ }) rfl (fun K hK => ?_) AllReadyH.nil
    go_simp
    refine hK.out _ _ ?_ (fun hHeld => ?_)
    · trivial
    clear hK K
    (try simp only [Act.put, List.setIfInBounds_toArray, List.set_cons_zero, List.set_cons_succ])
    refine wpAnyH_ready (rs := [8]) (by kernel_rfl) (by simp) ?_
    refine AllReadyH.cons (o := { dst := some 18, op := _, type := _, pos := _, after := _, guard := _ }) rfl (fun K hK => ?_) AllReadyH.nil
    go_simp
    (try (go_invoke; go_simp))
    refine (HC0.out _ _ _ rfl (by (repeat (first | (with_reducible exact Kept.refl _) | (with_reducible refine Kept.alloc ?_ _) | (with_reducible refine Kept.drew ?_) | (with_reducible refine Kept.drewN ?_ _))))).mono ?_
    rintro e w1 hp
    rcases r0 with p | s1
    · obtain ⟨rfl, hc⟩ := hp
      rw [← HF0.out]
      exact ⟨rfl, rdP_err (HH0.out.thn hc (fun _ _ h => h))⟩
    obtain ⟨rfl, hs, hc⟩ := hp
    have HS1 := hidMk hs
    have HH1 := hidMk (HH0.out.thn hc (fun _ _ h => h))
    have HG1 := hidMk (show foldP ms ds L [99, 110, 104] s1 = R from HF0.out)
    clear hs hc HF0 HC0
    (try go_wp2_with fail)
    refine hK.out _ _ ?_ (fun hHeld => ?_)
    · trivial
    clear hK K
    (try simp only [Act.put, List.setIfInBounds_toArray, List.set_cons_zero, List.set_cons_succ])
    refine wpAnyH_done (by kernel_rfl) ?_ _
    obtain ⟨r1, hr1⟩ : ∃ r, cellP ms ds L s1 = r := ⟨_, rfl⟩
    have HF1 := hidMk (show bdP r1 (foldP ms ds L [110, 104]) = R from (congrArg (bdP · (foldP ms ds L [110, 104])) hr1).symm.trans HG1.out)
    have HC1 := hidMk (show ∀ y, Kept w1 y → Calls Tryz.prog 171 #[.pointer (some ⟨pr, 0, none⟩), .pointer (some ⟨px, 4, none⟩)] y (RdPost w0 w1 pr px pd ra L.length rc r1) from fun y hy => by rw [← hr1]; exact rdP_from hy (rd_cell HX.out (HS1.out.keep hy)))
    clear hr1 HG1
    go_wp2_with fail
    refine wp_region_held_drew (S := (fun _ => True)) (by kernel_rfl) ?_ (fun hHeld => ?_)
    · trivial
    refine wpAnyH_take (i := 0) (oi := { dst := some 19, op := _, type := _, pos := _, after := _, guard := _ }) (v := ?_) rfl (by kernel_rfl) (by kernel_rfl) (by kernel_rfl) (fun _ _ _ h => h) (Or.inl ⟨by rfl, ?_⟩) (by assumption) ?_
    rotate_left
    · (intro w hSw; go_simp; (try with_reducible rfl))
    (try simp only [Act.put, List.setIfInBounds_toArray, List.set_cons_zero, List.set_cons_succ])
    refine wpAnyH_take (i := 1) (oi := { dst := some 20, op := _, type := _, pos := _, after := _, guard := _ }) (v := ?_) rfl (by kernel_rfl) (by kernel_rfl) (by kernel_rfl) (fun _ _ _ h => h) (Or.inl ⟨by rfl, ?_⟩) (by assumption) ?_
    rotate_left
    · (intro w hSw; go_simp; (try with_reducible rfl))
    (try simp only [Act.put, List.setIfInBounds_toArray, List.set_cons_zero, List.set_cons_succ])
    refine wpAnyH_take (i := 2) (oi := { dst := some 21, op := _, type := _, pos := _, after := _, guard := _ }) (v := ?_) rfl (by kernel_rfl) (by kernel_rfl) (by kernel_rfl) (fun _ _ _ h => h) (Or.inl ⟨by rfl, ?_⟩) (by assumption) ?_
    rotate_left
    · (intro w hSw; go_simp; (try with_reducible rfl))
    (try simp only [Act.put, List.setIfInBounds_toArray, List.set_cons_zero, List.set_cons_succ])
    refine wpAnyH_take (i := 3) (oi := { dst := some 22, op := _, type := _, pos := _, after := _, guard := _ }) (v := ?_) rfl (by kernel_rfl) (by kernel_rfl) (by kernel_rfl) (fun _ _ _ h => h) (Or.inl ⟨by rfl, ?_⟩) (by assumption) ?_
    rotate_left
    · (intro w hSw; go_simp; (try with_reducible rfl))
    (try simp only [Act.put, List.setIfInBounds_toArray, List.set_cons_zero, List.set_cons_succ])
    refine wpAnyH_take (i := 4) (oi := { dst := some 23, op := _, type := _, pos := _, after := _, guard := _ }) (v := ?_) rfl (by kernel_rfl) (by kernel_rfl) (by kernel_rfl) (fun _ _ _ h => h) (Or.inl ⟨by rfl, ?_⟩) (by assumption) ?_
    rotate_left
    · (intro w hSw; go_simp; (try with_reducible rfl))
    (try simp only [Act.put, List.setIfInBounds_toArray, List.set_cons_zero, List.set_cons_succ])
    refine wpAnyH_take (i := 5) (oi := { dst := some 24, op := _, type := _, pos := _, after := _, guard := _ }) (v := ?_) rfl (by kernel_rfl) (by kernel_rfl) (by kernel_rfl) (fun _ _ _ h => h) (Or.inl ⟨by rfl, ?_⟩) (by assumption) ?_
    rotate_left
    · (intro w hSw; go_simp; (try with_reducible rfl))
    (try simp only [Act.put, List.setIfInBounds_toArray, List.set_cons_zero, List.set_cons_succ])
    refine wpAnyH_take (i := 6) (oi := { dst := some 25, op := _, type := _, pos := _, after := _, guard := _ }) (v := ?_) rfl (by kernel_rfl) (by kernel_rfl) (by kernel_rfl) (fun _ _ _ h => h) (Or.inl ⟨by rfl, ?_⟩) (by assumption) ?_
    rotate_left
    · (intro w hSw; go_simp; (try with_reducible rfl))
    (try simp only [Act.put, List.setIfInBounds_toArray, List.set_cons_zero, List.set_cons_succ])
    refine wpAnyH_ready (rs := [7]) (by kernel_rfl) (by simp) ?_
    refine AllReadyH.cons (o := { dst := some 26, op := _, type := _, pos := _, after := _, guard := _ }) rfl (fun K hK => ?_) AllReadyH.nil
    go_simp
    (try (go_invoke; go_simp))
    refine (HC1.out _ (by (repeat (first | (with_reducible exact Kept.refl _) | (with_reducible refine Kept.alloc ?_ _) | (with_reducible refine Kept.drew ?_) | (with_reducible refine Kept.drewN ?_ _))))).mono ?_
    rintro e w2 hp
    rcases r1 with p | s2
    · obtain ⟨rfl, hc⟩ := hp
      rw [← HF1.out]
      exact ⟨rfl, rdP_err (HH1.out.thn hc (fun _ _ h => h))⟩
    obtain ⟨rfl, hs, hc⟩ := hp
    have HS2 := hidMk hs
    have HH2 := hidMk (HH1.out.thn hc (fun _ _ h => h))
    have HG2 := hidMk (show foldP ms ds L [110, 104] s2 = R from HF1.out)
    clear hs hc HF1 HC1
    (try go_wp2_with fail)
    refine hK.out _ _ ?_ (fun hHeld => ?_)
    · trivial
    clear hK K
    (try simp only [Act.put, List.setIfInBounds_toArray, List.set_cons_zero, List.set_cons_succ])
    refine wpAnyH_done (by kernel_rfl) ?_ _
    obtain ⟨r2, hr2⟩ : ∃ r, numP L s2 = r := ⟨_, rfl⟩
    have HF2 := hidMk (show bdP r2 (foldP ms ds L [104]) = R from (congrArg (bdP · (foldP ms ds L [104])) hr2).symm.trans HG2.out)
    have HC2 := hidMk (show ∀ y, Kept w2 y → Calls Tryz.prog 176 #[.pointer (some ⟨pr, 0, none⟩), .pointer (some ⟨px, 9, none⟩)] y (RdPost w0 w2 pr px pd ra L.length rc r2) from fun y hy => by rw [← hr2]; exact rdP_from hy (rd_num HX.out (HS2.out.keep hy)))
    clear hr2 HG2
    go_wp2_with fail
    refine wp_region_held_drew (S := (fun _ => True)) (by kernel_rfl) ?_ (fun hHeld => ?_)
    · trivial
    refine wpAnyH_take (i := 0) (oi := { dst := some 27, op := _, type := _, pos := _, after := _, guard := _ }) (v := ?_) rfl (by kernel_rfl) (by kernel_rfl) (by kernel_rfl) (fun _ _ _ h => h) (Or.inl ⟨by rfl, ?_⟩) (by assumption) ?_
    rotate_left
    · (intro w hSw; go_simp; (try with_reducible rfl))
    (try simp only [Act.put, List.setIfInBounds_toArray, List.set_cons_zero, List.set_cons_succ])
    refine wpAnyH_take (i := 1) (oi := { dst := some 28, op := _, type := _, pos := _, after := _, guard := _ }) (v := ?_) rfl (by kernel_rfl) (by kernel_rfl) (by kernel_rfl) (fun _ _ _ h => h) (Or.inl ⟨by rfl, ?_⟩) (by assumption) ?_
    rotate_left
    · (intro w hSw; go_simp; (try with_reducible rfl))
    (try simp only [Act.put, List.setIfInBounds_toArray, List.set_cons_zero, List.set_cons_succ])
    refine wpAnyH_take (i := 2) (oi := { dst := some 29, op := _, type := _, pos := _, after := _, guard := _ }) (v := ?_) rfl (by kernel_rfl) (by kernel_rfl) (by kernel_rfl) (fun _ _ _ h => h) (Or.inl ⟨by rfl, ?_⟩) (by assumption) ?_
    rotate_left
    · (intro w hSw; go_simp; (try with_reducible rfl))
    (try simp only [Act.put, List.setIfInBounds_toArray, List.set_cons_zero, List.set_cons_succ])
    refine wpAnyH_take (i := 3) (oi := { dst := some 30, op := _, type := _, pos := _, after := _, guard := _ }) (v := ?_) rfl (by kernel_rfl) (by kernel_rfl) (by kernel_rfl) (fun _ _ _ h => h) (Or.inl ⟨by rfl, ?_⟩) (by assumption) ?_
    rotate_left
    · (intro w hSw; go_simp; (try with_reducible rfl))
    (try simp only [Act.put, List.setIfInBounds_toArray, List.set_cons_zero, List.set_cons_succ])
    refine wpAnyH_take (i := 4) (oi := { dst := some 31, op := _, type := _, pos := _, after := _, guard := _ }) (v := ?_) rfl (by kernel_rfl) (by kernel_rfl) (by kernel_rfl) (fun _ _ _ h => h) (Or.inl ⟨by rfl, ?_⟩) (by assumption) ?_
    rotate_left
    · (intro w hSw; go_simp; (try with_reducible rfl))
    (try simp only [Act.put, List.setIfInBounds_toArray, List.set_cons_zero, List.set_cons_succ])
    refine wpAnyH_take (i := 5) (oi := { dst := some 32, op := _, type := _, pos := _, after := _, guard := _ }) (v := ?_) rfl (by kernel_rfl) (by kernel_rfl) (by kernel_rfl) (fun _ _ _ h => h) (Or.inl ⟨by rfl, ?_⟩) (by assumption) ?_
    rotate_left
    · (intro w hSw; go_simp; (try with_reducible rfl))
    (try simp only [Act.put, List.setIfInBounds_toArray, List.set_cons_zero, List.set_cons_succ])
    refine wpAnyH_take (i := 6) (oi := { dst := some 33, op := _, type := _, pos := _, after := _, guard := _ }) (v := ?_) rfl (by kernel_rfl) (by kernel_rfl) (by kernel_rfl) (fun _ _ _ h => h) (Or.inl ⟨by rfl, ?_⟩) (by assumption) ?_
    rotate_left
    · (intro w hSw; go_simp; (try with_reducible rfl))
    (try simp only [Act.put, List.setIfInBounds_toArray, List.set_cons_zero, List.set_cons_succ])
    refine wpAnyH_ready (rs := [7]) (by kernel_rfl) (by simp) ?_
    refine AllReadyH.cons (o := { dst := some 34, op := _, type := _, pos := _, after := _, guard := _ }) rfl (fun K hK => ?_) AllReadyH.nil
    go_simp
    (try (go_invoke; go_simp))
    refine (HC2.out _ (by (repeat (first | (with_reducible exact Kept.refl _) | (with_reducible refine Kept.alloc ?_ _) | (with_reducible refine Kept.drew ?_) | (with_reducible refine Kept.drewN ?_ _))))).mono ?_
    rintro e w3 hp
    rcases r2 with p | s3
    · obtain ⟨rfl, hc⟩ := hp
      rw [← HF2.out]
      exact ⟨rfl, rdP_err (HH2.out.thn hc (fun _ _ h => h))⟩
    obtain ⟨rfl, hs, hc⟩ := hp
    have HS3 := hidMk hs
    have HH3 := hidMk (HH2.out.thn hc (fun _ _ h => h))
    have HG3 := hidMk (show foldP ms ds L [104] s3 = R from HF2.out)
    clear hs hc HF2 HC2
    (try go_wp2_with fail)
    refine hK.out _ _ ?_ (fun hHeld => ?_)
    · trivial
    clear hK K
    (try simp only [Act.put, List.setIfInBounds_toArray, List.set_cons_zero, List.set_cons_succ])
    refine wpAnyH_done (by kernel_rfl) ?_ _
    obtain ⟨r3, hr3⟩ : ∃ r, choiceP L spW s3 = r := ⟨_, rfl⟩
    have HF3 := hidMk (show bdP r3 (fun z => bdP (if z.2.h = 2 then indexP L ms z else .ok z) (foldP ms ds L [])) = R from (congrArg (bdP · (fun z => bdP (if z.2.h = 2 then indexP L ms z else .ok z) (foldP ms ds L []))) hr3).symm.trans ((howP_bd ms ds L [] s3).trans HG3.out))
    have HC3 := hidMk (show ∀ o t y, o = .cells #[.string ⟨#[101, 113, 117, 97, 108]⟩, .string ⟨#[112, 114, 111, 112]⟩, .string ⟨#[119, 101, 105, 103, 104, 116]⟩] t → Kept (w3.alloc o) y → Calls Tryz.prog 172 #[.pointer (some ⟨pr, 0, none⟩), .pointer (some ⟨px, 10, none⟩), .slice (some ⟨w3.heap.size, 0, none⟩) 3 3] y (RdPost w0 w3 pr px pd ra L.length rc r3) from fun o t y ho hy => by subst ho; rw [← hr3]; exact rd_chA HX.out HS3.out spW (by decide) (by decide) t y hy)
    clear hr3 HG3
    go_wp2_with fail
    refine wp_region_held_drew (S := (fun _ => True)) (by kernel_rfl) ?_ (fun hHeld => ?_)
    · trivial
    refine wpAnyH_take (i := 0) (oi := { dst := some 35, op := _, type := _, pos := _, after := _, guard := _ }) (v := ?_) rfl (by kernel_rfl) (by kernel_rfl) (by kernel_rfl) (fun _ _ _ h => h) (Or.inl ⟨by rfl, ?_⟩) (by assumption) ?_
    rotate_left
    · (intro w hSw; go_simp; (try with_reducible rfl))
    (try simp only [Act.put, List.setIfInBounds_toArray, List.set_cons_zero, List.set_cons_succ])
    refine wpAnyH_take (i := 1) (oi := { dst := some 36, op := _, type := _, pos := _, after := _, guard := _ }) (v := ?_) rfl (by kernel_rfl) (by kernel_rfl) (by kernel_rfl) (fun _ _ _ h => h) (Or.inl ⟨by rfl, ?_⟩) (by assumption) ?_
    rotate_left
    · (intro w hSw; go_simp; (try with_reducible rfl))
    (try simp only [Act.put, List.setIfInBounds_toArray, List.set_cons_zero, List.set_cons_succ])
    refine wpAnyH_take (i := 2) (oi := { dst := some 37, op := _, type := _, pos := _, after := _, guard := _ }) (v := ?_) rfl (by kernel_rfl) (by kernel_rfl) (by kernel_rfl) (fun _ _ _ h => h) (Or.inl ⟨by rfl, ?_⟩) (by assumption) ?_
    rotate_left
    · (intro w hSw; go_simp; (try with_reducible rfl))
    (try simp only [Act.put, List.setIfInBounds_toArray, List.set_cons_zero, List.set_cons_succ])
    refine wpAnyH_take (i := 3) (oi := { dst := some 38, op := _, type := _, pos := _, after := _, guard := _ }) (v := ?_) rfl (by kernel_rfl) (by kernel_rfl) (by kernel_rfl) (fun _ _ _ h => h) (Or.inl ⟨by rfl, ?_⟩) (by assumption) ?_
    rotate_left
    · (intro w hSw; go_simp; (try with_reducible rfl))
    (try simp only [Act.put, List.setIfInBounds_toArray, List.set_cons_zero, List.set_cons_succ])
    refine wpAnyH_take (i := 5) (oi := { dst := some 40, op := _, type := _, pos := _, after := _, guard := _ }) (v := ?_) rfl (by kernel_rfl) (by kernel_rfl) (by kernel_rfl) (fun _ _ _ h => h) (Or.inl ⟨by rfl, ?_⟩) (by assumption) ?_
    rotate_left
    · (intro w hSw; go_simp; (try with_reducible rfl))
    (try simp only [Act.put, List.setIfInBounds_toArray, List.set_cons_zero, List.set_cons_succ])
    refine wpAnyH_take (i := 6) (oi := { dst := some 41, op := _, type := _, pos := _, after := _, guard := _ }) (v := ?_) rfl (by kernel_rfl) (by kernel_rfl) (by kernel_rfl) (fun _ _ _ h => h) (Or.inl ⟨by rfl, ?_⟩) (by assumption) ?_
    rotate_left
    · (intro w hSw; go_simp; (try with_reducible rfl))
    (try simp only [Act.put, List.setIfInBounds_toArray, List.set_cons_zero, List.set_cons_succ])
    refine wpAnyH_take (i := 7) (oi := { dst := some 42, op := _, type := _, pos := _, after := _, guard := _ }) (v := ?_) rfl (by kernel_rfl) (by kernel_rfl) (by kernel_rfl) (fun _ _ _ h => h) (Or.inl ⟨by rfl, ?_⟩) (by assumption) ?_
    rotate_left
    · (intro w hSw; go_simp; (try with_reducible rfl))
    (try simp only [Act.put, List.setIfInBounds_toArray, List.set_cons_zero, List.set_cons_succ])
    refine wpAnyH_ready (rs := [4]) (by kernel_rfl) (by simp) ?_
    refine AllReadyH.cons (o := { dst := some 39, op := _, type := _, pos := _, after := _, guard := _ }) rfl (fun K hK => ?_) AllReadyH.nil
    go_simp
    refine hK.out _ _ ?_ (fun hHeld => ?_)
    · trivial
    clear hK K
    (try simp only [Act.put, List.setIfInBounds_toArray, List.set_cons_zero, List.set_cons_succ])
    refine wpAnyH_ready (rs := [8]) (by kernel_rfl) (by simp) ?_
    refine AllReadyH.cons (o := { dst := some 43, op := _, type := _, pos := _, after := _, guard := _ }) rfl (fun K hK => ?_) AllReadyH.nil
    go_simp
    (try (go_invoke; go_simp))
    refine (HC3.out _ _ _ rfl (by (repeat (first | (with_reducible exact Kept.refl _) | (with_reducible refine Kept.alloc ?_ _) | (with_reducible refine Kept.drew ?_) | (with_reducible refine Kept.drewN ?_ _))))).mono ?_
    rintro e w4 hp
    rcases r3 with p | s4
    · obtain ⟨rfl, hc⟩ := hp
      rw [← HF3.out]
      exact ⟨rfl, rdP_err (HH3.out.thn hc (fun _ _ h => h))⟩
    obtain ⟨rfl, hs, hc⟩ := hp
    have HS4 := hidMk hs
    have HH4 := hidMk (HH3.out.thn hc (fun _ _ h => h))
    have HG4 := hidMk (show bdP (if s4.2.h = 2 then indexP L ms s4 else .ok s4) (foldP ms ds L []) = R from HF3.out)
    clear hs hc HF3 HC3
    (try go_wp2_with fail)
    refine hK.out _ _ ?_ (fun hHeld => ?_)
    · trivial
    clear hK K
    (try simp only [Act.put, List.setIfInBounds_toArray, List.set_cons_zero, List.set_cons_succ])
    refine wpAnyH_done (by kernel_rfl) ?_ _
    have xh := HS4.out.x 10 _ rfl
    by_cases hw : s4.2.h = 2
    · rw [hw] at xh
      obtain ⟨r4, hr4⟩ : ∃ r, indexP L ms s4 = r := ⟨_, rfl⟩
      have HF4 := hidMk (show bdP r4 (foldP ms ds L []) = R by rw [← hr4, ← HG4.out, if_pos hw])
      have HC4 := hidMk (show ∀ y, Kept w4 y → Calls Tryz.prog 174 #[.pointer (some ⟨pr, 0, none⟩), .pointer (some ⟨px, 11, none⟩)] y (RdPost w0 w4 pr px pd ra L.length rc r4) from fun y hy => by rw [← hr4]; exact rdP_from hy (rd_meas HX.out (HS4.out.keep hy)))
      clear hr4 HG4
      go_wp2_with fail
      refine wp_region_held_drew (S := (fun _ => True)) (by kernel_rfl) ?_ (fun hHeld => ?_)
      · trivial
      refine wpAnyH_take (i := 0) (oi := { dst := some 49, op := _, type := _, pos := _, after := _, guard := _ }) (v := ?_) rfl (by kernel_rfl) (by kernel_rfl) (by kernel_rfl) (fun _ _ _ h => h) (Or.inl ⟨by rfl, ?_⟩) (by assumption) ?_
      rotate_left
      · (intro w hSw; go_simp; (try with_reducible rfl))
      (try simp only [Act.put, List.setIfInBounds_toArray, List.set_cons_zero, List.set_cons_succ])
      refine wpAnyH_take (i := 1) (oi := { dst := some 50, op := _, type := _, pos := _, after := _, guard := _ }) (v := ?_) rfl (by kernel_rfl) (by kernel_rfl) (by kernel_rfl) (fun _ _ _ h => h) (Or.inl ⟨by rfl, ?_⟩) (by assumption) ?_
      rotate_left
      · (intro w hSw; go_simp; (try with_reducible rfl))
      (try simp only [Act.put, List.setIfInBounds_toArray, List.set_cons_zero, List.set_cons_succ])
      refine wpAnyH_take (i := 2) (oi := { dst := some 51, op := _, type := _, pos := _, after := _, guard := _ }) (v := ?_) rfl (by kernel_rfl) (by kernel_rfl) (by kernel_rfl) (fun _ _ _ h => h) (Or.inl ⟨by rfl, ?_⟩) (by assumption) ?_
      rotate_left
      · (intro w hSw; go_simp; (try with_reducible rfl))
      (try simp only [Act.put, List.setIfInBounds_toArray, List.set_cons_zero, List.set_cons_succ])
      refine wpAnyH_take (i := 3) (oi := { dst := some 52, op := _, type := _, pos := _, after := _, guard := _ }) (v := ?_) rfl (by kernel_rfl) (by kernel_rfl) (by kernel_rfl) (fun _ _ _ h => h) (Or.inl ⟨by rfl, ?_⟩) (by assumption) ?_
      rotate_left
      · (intro w hSw; go_simp; (try with_reducible rfl))
      (try simp only [Act.put, List.setIfInBounds_toArray, List.set_cons_zero, List.set_cons_succ])
      refine wpAnyH_take (i := 4) (oi := { dst := some 53, op := _, type := _, pos := _, after := _, guard := _ }) (v := ?_) rfl (by kernel_rfl) (by kernel_rfl) (by kernel_rfl) (fun _ _ _ h => h) (Or.inl ⟨by rfl, ?_⟩) (by assumption) ?_
      rotate_left
      · (intro w hSw; go_simp; (try with_reducible rfl))
      (try simp only [Act.put, List.setIfInBounds_toArray, List.set_cons_zero, List.set_cons_succ])
      refine wpAnyH_take (i := 5) (oi := { dst := some 54, op := _, type := _, pos := _, after := _, guard := _ }) (v := ?_) rfl (by kernel_rfl) (by kernel_rfl) (by kernel_rfl) (fun _ _ _ h => h) (Or.inl ⟨by rfl, ?_⟩) (by assumption) ?_
      rotate_left
      · (intro w hSw; go_simp; (try with_reducible rfl))
      (try simp only [Act.put, List.setIfInBounds_toArray, List.set_cons_zero, List.set_cons_succ])
      refine wpAnyH_take (i := 6) (oi := { dst := some 55, op := _, type := _, pos := _, after := _, guard := _ }) (v := ?_) rfl (by kernel_rfl) (by kernel_rfl) (by kernel_rfl) (fun _ _ _ h => h) (Or.inl ⟨by rfl, ?_⟩) (by assumption) ?_
      rotate_left
      · (intro w hSw; go_simp; (try with_reducible rfl))
      (try simp only [Act.put, List.setIfInBounds_toArray, List.set_cons_zero, List.set_cons_succ])
      refine wpAnyH_ready (rs := [7]) (by kernel_rfl) (by simp) ?_
      refine AllReadyH.cons (o := { dst := some 56, op := _, type := _, pos := _, after := _, guard := _ }) rfl (fun K hK => ?_) AllReadyH.nil
      go_simp
      (try (go_invoke; go_simp))
      refine (HC4.out _ (by (repeat (first | (with_reducible exact Kept.refl _) | (with_reducible refine Kept.alloc ?_ _) | (with_reducible refine Kept.drew ?_) | (with_reducible refine Kept.drewN ?_ _))))).mono ?_
      rintro e w5 hp
      rcases r4 with p | s5
      · obtain ⟨rfl, hc⟩ := hp
        rw [← HF4.out]
        exact ⟨rfl, rdP_err (HH4.out.thn hc (fun _ _ h => h))⟩
      obtain ⟨rfl, hs, hc⟩ := hp
      have HS5 := hidMk hs
      have HH5 := hidMk (HH4.out.thn hc (fun _ _ h => h))
      have HG5 := hidMk (show foldP ms ds L [] s5 = R from HF4.out)
      clear hs hc HF4 HC4
      (try go_wp2_with fail)
      refine hK.out _ _ ?_ (fun hHeld => ?_)
      · trivial
      clear hK K
      (try simp only [Act.put, List.setIfInBounds_toArray, List.set_cons_zero, List.set_cons_succ])
      refine wpAnyH_done (by kernel_rfl) ?_ _
      go_wp2_with fail
      (try go_end0)
      have hE := HG5.out
      unfold foldP at hE
      subst hE
      exact ⟨rfl, HS5.out, HH5.out⟩
    · have hwb : (s4.2.h == 2) = false := by simpa using hw
      have hwd : decide (s4.2.h = 2) = false := by simpa using hw
      have HG9 := hidMk (show foldP ms ds L [] s4 = R by rw [← HG4.out, if_neg hw]; rfl)
      go_wp2_with fail
      (try go_end0)
      have hE := HG9.out
      unfold foldP at hE
      subst hE
      exact ⟨rfl, HS4.out, HH4.out⟩
set_option maxHeartbeats 4000000 in
set_option maxRecDepth 100000 in
theorem rd_fields_10 (hX : RX w0 pr px pd ra rc ms ds L) {s : Nat × Cm} (hS : RS w0 W pr px pd ra L.length rc s) (hk : s.2.k = 10) :
    Calls Tryz.prog 26 #[rdV pr, .pointer (some ⟨px, 0, none⟩)] W (RdPost w0 W pr px pd ra L.length rc (foldP ms ds L [117, 115, 111, 109] s)) := by
  have HS := hidMk hS
  have HX := hidMk hX
  have x0 := hS.x 0 _ rfl
  have hmf : ∀ fn first cap w, (Instr.makeFunc fn first cap).run Tryz.prog w = .ok (.func fn first cap) w := fun _ _ _ _ => rfl
  have hna1 : ∀ n w, (nilAhead (n + 1) 62 (.pointer (some ⟨pr, 0, none⟩)) "moiety/parse.cell").run Tryz.prog w = .ok (some false) w := fun n w => by kernel_rfl
  have hna2 : ∀ n w, (nilAhead (n + 1) 62 (.pointer (some ⟨pr, 0, none⟩)) "moiety/parse.num").run Tryz.prog w = .ok (some false) w := fun n w => by kernel_rfl
  have hna3 : ∀ n w, (nilAhead (n + 1) 62 (.pointer (some ⟨pr, 0, none⟩)) "moiety/parse.choice").run Tryz.prog w = .ok (some false) w := fun n w => by kernel_rfl
  have hna4 : ∀ n w, (nilAhead (n + 1) 62 (.pointer (some ⟨pr, 0, none⟩)) "moiety/parse.dim").run Tryz.prog w = .ok (some false) w := fun n w => by kernel_rfl
  have hna5 : ∀ n w, (nilAhead (n + 1) 62 (.pointer (some ⟨pr, 0, none⟩)) "moiety/parse.meas").run Tryz.prog w = .ok (some false) w := fun n w => by kernel_rfl
  obtain ⟨R, hR⟩ : ∃ R, foldP ms ds L [117, 115, 111, 109] s = R := ⟨_, rfl⟩
  rw [hR]
  have HF := hidMk hR
  unfold rdV
  clear hX hS hR
  all_goals
    rw [hk] at x0
    go_enter Tryz.func26, Tryz.ntmps26
    have HH0 := hidMk (Chg.refl (Two pr px) W)
    obtain ⟨r0, hr0⟩ : ∃ r, foldP ms ds L [117, 115, 111] s = r := ⟨_, rfl⟩
    have HF0 := hidMk (show bdP r0 (foldP ms ds L [109]) = R from (congrArg (bdP · (foldP ms ds L [109])) hr0).symm.trans ((foldP_app ms ds L [117, 115, 111] [109] s).symm.trans HF.out))
    have HC0 := hidMk (show ∀ o t y, o = .cells #[.pointer (some ⟨px, 1, none⟩), .pointer (some ⟨px, 2, none⟩), .pointer (some ⟨px, 3, none⟩)] t → Kept (W.alloc o) y → Calls Tryz.prog 50 #[.iface 62 (.pointer (some ⟨pr, 0, none⟩)), .slice (some ⟨W.heap.size, 0, none⟩) 3 3] y (RdPost w0 W pr px pd ra L.length rc r0) from fun o t y ho hy => by subst ho; rw [← hr0]; exact rd_nmA HX.out HS.out [117, 115, 111] (by decide) (by simp [isNm]) t y hy)
    clear hr0 HF
    go_wp2_with fail
    refine wp_region_held_drew (S := (fun _ => True)) (by kernel_rfl) ?_ (fun hHeld => ?_)
    · trivial
    refine wpAnyH_take (i := 0) (oi := { dst := some 122, op := _, type := _, pos := _, after := _, guard := _ }) (v := ?_) rfl (by kernel_rfl) (by kernel_rfl) (by kernel_rfl) (fun _ _ _ h => h) (Or.inl ⟨by rfl, ?_⟩) (by assumption) ?_
    rotate_left
    · (intro w hSw; go_simp; (try with_reducible rfl))
    (try simp only [Act.put, List.setIfInBounds_toArray, List.set_cons_zero, List.set_cons_succ])
    refine wpAnyH_take (i := 1) (oi := { dst := some 123, op := _, type := _, pos := _, after := _, guard := _ }) (v := ?_) rfl (by kernel_rfl) (by kernel_rfl) (by kernel_rfl) (fun _ _ _ h => h) (Or.inl ⟨by rfl, ?_⟩) (by assumption) ?_
    rotate_left
    · (intro w hSw; go_simp; (try with_reducible rfl))
    (try simp only [Act.put, List.setIfInBounds_toArray, List.set_cons_zero, List.set_cons_succ])
    refine wpAnyH_take (i := 2) (oi := { dst := some 124, op := _, type := _, pos := _, after := _, guard := _ }) (v := ?_) rfl (by kernel_rfl) (by kernel_rfl) (by kernel_rfl) (fun _ _ _ h => h) (Or.inl ⟨by rfl, ?_⟩) (by assumption) ?_
    rotate_left
    · (intro w hSw; go_simp; (try with_reducible rfl))
    (try simp only [Act.put, List.setIfInBounds_toArray, List.set_cons_zero, List.set_cons_succ])
    refine wpAnyH_take (i := 3) (oi := { dst := some 125, op := _, type := _, pos := _, after := _, guard := _ }) (v := ?_) rfl (by kernel_rfl) (by kernel_rfl) (by kernel_rfl) (fun _ _ _ h => h) (Or.inl ⟨by rfl, ?_⟩) (by assumption) ?_
    rotate_left
    · (intro w hSw; go_simp; (try with_reducible rfl))
    (try simp only [Act.put, List.setIfInBounds_toArray, List.set_cons_zero, List.set_cons_succ])
    refine wpAnyH_take (i := 4) (oi := { dst := some 126, op := _, type := _, pos := _, after := _, guard := _ }) (v := ?_) rfl (by kernel_rfl) (by kernel_rfl) (by kernel_rfl) (fun _ _ _ h => h) (Or.inl ⟨by rfl, ?_⟩) (by assumption) ?_
    rotate_left
    · (intro w hSw; go_simp; (try with_reducible rfl))
    (try simp only [Act.put, List.setIfInBounds_toArray, List.set_cons_zero, List.set_cons_succ])
    refine wpAnyH_take (i := 5) (oi := { dst := some 127, op := _, type := _, pos := _, after := _, guard := _ }) (v := ?_) rfl (by kernel_rfl) (by kernel_rfl) (by kernel_rfl) (fun _ _ _ h => h) (Or.inl ⟨by rfl, ?_⟩) (by assumption) ?_
    rotate_left
    · (intro w hSw; go_simp; (try with_reducible rfl))
    (try simp only [Act.put, List.setIfInBounds_toArray, List.set_cons_zero, List.set_cons_succ])
    refine wpAnyH_take (i := 6) (oi := { dst := some 128, op := _, type := _, pos := _, after := _, guard := _ }) (v := ?_) rfl (by kernel_rfl) (by kernel_rfl) (by kernel_rfl) (fun _ _ _ h => h) (Or.inl ⟨by rfl, ?_⟩) (by assumption) ?_
    rotate_left
    · (intro w hSw; go_simp; (try with_reducible rfl))
    (try simp only [Act.put, List.setIfInBounds_toArray, List.set_cons_zero, List.set_cons_succ])
    refine wpAnyH_take (i := 7) (oi := { dst := some 129, op := _, type := _, pos := _, after := _, guard := _ }) (v := ?_) rfl (by kernel_rfl) (by kernel_rfl) (by kernel_rfl) (fun _ _ _ h => h) (Or.inl ⟨by rfl, ?_⟩) (by assumption) ?_
    rotate_left
    · (intro w hSw; go_simp; (try with_reducible rfl))
    (try simp only [Act.put, List.setIfInBounds_toArray, List.set_cons_zero, List.set_cons_succ])
    refine wpAnyH_take (i := 8) (oi := { dst := some 130, op := _, type := _, pos := _, after := _, guard := _ }) (v := ?_) rfl (by kernel_rfl) (by kernel_rfl) (by kernel_rfl) (fun _ _ _ h => h) (Or.inl ⟨by rfl, ?_⟩) (by assumption) ?_
    rotate_left
    · (intro w hSw; go_simp; (try with_reducible rfl))
    (try simp only [Act.put, List.setIfInBounds_toArray, List.set_cons_zero, List.set_cons_succ])
    refine wpAnyH_take (i := 9) (oi := { dst := some 131, op := _, type := _, pos := _, after := _, guard := _ }) (v := ?_) rfl (by kernel_rfl) (by kernel_rfl) (by kernel_rfl) (fun _ _ _ h => h) (Or.inl ⟨by rfl, ?_⟩) (by assumption) ?_
    rotate_left
    · (intro w hSw; go_simp; (try with_reducible rfl))
    (try simp only [Act.put, List.setIfInBounds_toArray, List.set_cons_zero, List.set_cons_succ])
    refine wpAnyH_ready (rs := [10]) (by kernel_rfl) (by simp) ?_
    refine AllReadyH.cons (o := { dst := some 132, op := _, type := _, pos := _, after := _, guard := _ }) rfl (fun K hK => ?_) AllReadyH.nil
    go_simp
    refine hK.out _ _ ?_ (fun hHeld => ?_)
    · trivial
    clear hK K
    (try simp only [Act.put, List.setIfInBounds_toArray, List.set_cons_zero, List.set_cons_succ])
    refine wpAnyH_ready (rs := [11]) (by kernel_rfl) (by simp) ?_
    refine AllReadyH.cons (o := { dst := some 133, op := _, type := _, pos := _, after := _, guard := _ }) rfl (fun K hK => ?_) AllReadyH.nil
    go_simp
    (try (go_invoke; go_simp))
    refine (HC0.out _ _ _ rfl (by (repeat (first | (with_reducible exact Kept.refl _) | (with_reducible refine Kept.alloc ?_ _) | (with_reducible refine Kept.drew ?_) | (with_reducible refine Kept.drewN ?_ _))))).mono ?_
    rintro e w1 hp
    rcases r0 with p | s1
    · obtain ⟨rfl, hc⟩ := hp
      rw [← HF0.out]
      exact ⟨rfl, rdP_err (HH0.out.thn hc (fun _ _ h => h))⟩
    obtain ⟨rfl, hs, hc⟩ := hp
    have HS1 := hidMk hs
    have HH1 := hidMk (HH0.out.thn hc (fun _ _ h => h))
    have HG1 := hidMk (show foldP ms ds L [109] s1 = R from HF0.out)
    clear hs hc HF0 HC0
    (try go_wp2_with fail)
    refine hK.out _ _ ?_ (fun hHeld => ?_)
    · trivial
    clear hK K
    (try simp only [Act.put, List.setIfInBounds_toArray, List.set_cons_zero, List.set_cons_succ])
    refine wpAnyH_done (by kernel_rfl) ?_ _
    obtain ⟨r1, hr1⟩ : ∃ r, choiceP L mtW s1 = r := ⟨_, rfl⟩
    have HF1 := hidMk (show bdP r1 (foldP ms ds L []) = R from (congrArg (bdP · (foldP ms ds L [])) hr1).symm.trans (HG1.out))
    have HC1 := hidMk (show ∀ o t y, o = .cells #[.string ⟨#[97, 98, 111, 114, 116]⟩, .string ⟨#[111, 117, 114, 115]⟩, .string ⟨#[116, 104, 101, 105, 114, 115]⟩] t → Kept (w1.alloc o) y → Calls Tryz.prog 172 #[.pointer (some ⟨pr, 0, none⟩), .pointer (some ⟨px, 10, none⟩), .slice (some ⟨w1.heap.size, 0, none⟩) 3 3] y (RdPost w0 w1 pr px pd ra L.length rc r1) from fun o t y ho hy => by subst ho; rw [← hr1]; exact rd_chA HX.out HS1.out mtW (by decide) (by decide) t y hy)
    clear hr1 HG1
    go_wp2_with fail
    refine wp_region_held_drew (S := (fun _ => True)) (by kernel_rfl) ?_ (fun hHeld => ?_)
    · trivial
    refine wpAnyH_take (i := 0) (oi := { dst := some 134, op := _, type := _, pos := _, after := _, guard := _ }) (v := ?_) rfl (by kernel_rfl) (by kernel_rfl) (by kernel_rfl) (fun _ _ _ h => h) (Or.inl ⟨by rfl, ?_⟩) (by assumption) ?_
    rotate_left
    · (intro w hSw; go_simp; (try with_reducible rfl))
    (try simp only [Act.put, List.setIfInBounds_toArray, List.set_cons_zero, List.set_cons_succ])
    refine wpAnyH_take (i := 1) (oi := { dst := some 135, op := _, type := _, pos := _, after := _, guard := _ }) (v := ?_) rfl (by kernel_rfl) (by kernel_rfl) (by kernel_rfl) (fun _ _ _ h => h) (Or.inl ⟨by rfl, ?_⟩) (by assumption) ?_
    rotate_left
    · (intro w hSw; go_simp; (try with_reducible rfl))
    (try simp only [Act.put, List.setIfInBounds_toArray, List.set_cons_zero, List.set_cons_succ])
    refine wpAnyH_take (i := 2) (oi := { dst := some 136, op := _, type := _, pos := _, after := _, guard := _ }) (v := ?_) rfl (by kernel_rfl) (by kernel_rfl) (by kernel_rfl) (fun _ _ _ h => h) (Or.inl ⟨by rfl, ?_⟩) (by assumption) ?_
    rotate_left
    · (intro w hSw; go_simp; (try with_reducible rfl))
    (try simp only [Act.put, List.setIfInBounds_toArray, List.set_cons_zero, List.set_cons_succ])
    refine wpAnyH_take (i := 3) (oi := { dst := some 137, op := _, type := _, pos := _, after := _, guard := _ }) (v := ?_) rfl (by kernel_rfl) (by kernel_rfl) (by kernel_rfl) (fun _ _ _ h => h) (Or.inl ⟨by rfl, ?_⟩) (by assumption) ?_
    rotate_left
    · (intro w hSw; go_simp; (try with_reducible rfl))
    (try simp only [Act.put, List.setIfInBounds_toArray, List.set_cons_zero, List.set_cons_succ])
    refine wpAnyH_take (i := 5) (oi := { dst := some 139, op := _, type := _, pos := _, after := _, guard := _ }) (v := ?_) rfl (by kernel_rfl) (by kernel_rfl) (by kernel_rfl) (fun _ _ _ h => h) (Or.inl ⟨by rfl, ?_⟩) (by assumption) ?_
    rotate_left
    · (intro w hSw; go_simp; (try with_reducible rfl))
    (try simp only [Act.put, List.setIfInBounds_toArray, List.set_cons_zero, List.set_cons_succ])
    refine wpAnyH_take (i := 6) (oi := { dst := some 140, op := _, type := _, pos := _, after := _, guard := _ }) (v := ?_) rfl (by kernel_rfl) (by kernel_rfl) (by kernel_rfl) (fun _ _ _ h => h) (Or.inl ⟨by rfl, ?_⟩) (by assumption) ?_
    rotate_left
    · (intro w hSw; go_simp; (try with_reducible rfl))
    (try simp only [Act.put, List.setIfInBounds_toArray, List.set_cons_zero, List.set_cons_succ])
    refine wpAnyH_take (i := 7) (oi := { dst := some 141, op := _, type := _, pos := _, after := _, guard := _ }) (v := ?_) rfl (by kernel_rfl) (by kernel_rfl) (by kernel_rfl) (fun _ _ _ h => h) (Or.inl ⟨by rfl, ?_⟩) (by assumption) ?_
    rotate_left
    · (intro w hSw; go_simp; (try with_reducible rfl))
    (try simp only [Act.put, List.setIfInBounds_toArray, List.set_cons_zero, List.set_cons_succ])
    refine wpAnyH_ready (rs := [4]) (by kernel_rfl) (by simp) ?_
    refine AllReadyH.cons (o := { dst := some 138, op := _, type := _, pos := _, after := _, guard := _ }) rfl (fun K hK => ?_) AllReadyH.nil
    go_simp
    refine hK.out _ _ ?_ (fun hHeld => ?_)
    · trivial
    clear hK K
    (try simp only [Act.put, List.setIfInBounds_toArray, List.set_cons_zero, List.set_cons_succ])
    refine wpAnyH_ready (rs := [8]) (by kernel_rfl) (by simp) ?_
    refine AllReadyH.cons (o := { dst := some 142, op := _, type := _, pos := _, after := _, guard := _ }) rfl (fun K hK => ?_) AllReadyH.nil
    go_simp
    (try (go_invoke; go_simp))
    refine (HC1.out _ _ _ rfl (by (repeat (first | (with_reducible exact Kept.refl _) | (with_reducible refine Kept.alloc ?_ _) | (with_reducible refine Kept.drew ?_) | (with_reducible refine Kept.drewN ?_ _))))).mono ?_
    rintro e w2 hp
    rcases r1 with p | s2
    · obtain ⟨rfl, hc⟩ := hp
      rw [← HF1.out]
      exact ⟨rfl, rdP_err (HH1.out.thn hc (fun _ _ h => h))⟩
    obtain ⟨rfl, hs, hc⟩ := hp
    have HS2 := hidMk hs
    have HH2 := hidMk (HH1.out.thn hc (fun _ _ h => h))
    have HG2 := hidMk (show foldP ms ds L [] s2 = R from HF1.out)
    clear hs hc HF1 HC1
    (try go_wp2_with fail)
    refine hK.out _ _ ?_ (fun hHeld => ?_)
    · trivial
    clear hK K
    (try simp only [Act.put, List.setIfInBounds_toArray, List.set_cons_zero, List.set_cons_succ])
    refine wpAnyH_done (by kernel_rfl) ?_ _
    go_wp2_with fail
    (try go_end0)
    have hE := HG2.out
    unfold foldP at hE
    subst hE
    exact ⟨rfl, HS2.out, HH2.out⟩
set_option maxHeartbeats 4000000 in
set_option maxRecDepth 100000 in
theorem rd_fields_16 (hX : RX w0 pr px pd ra rc ms ds L) {s : Nat × Cm} (hS : RS w0 W pr px pd ra L.length rc s) (hk : s.2.k = 16) :
    Calls Tryz.prog 26 #[rdV pr, .pointer (some ⟨px, 0, none⟩)] W (RdPost w0 W pr px pd ra L.length rc (foldP ms ds L [] s)) := by
  have HS := hidMk hS
  have HX := hidMk hX
  have x0 := hS.x 0 _ rfl
  have hmf : ∀ fn first cap w, (Instr.makeFunc fn first cap).run Tryz.prog w = .ok (.func fn first cap) w := fun _ _ _ _ => rfl
  have hna1 : ∀ n w, (nilAhead (n + 1) 62 (.pointer (some ⟨pr, 0, none⟩)) "moiety/parse.cell").run Tryz.prog w = .ok (some false) w := fun n w => by kernel_rfl
  have hna2 : ∀ n w, (nilAhead (n + 1) 62 (.pointer (some ⟨pr, 0, none⟩)) "moiety/parse.num").run Tryz.prog w = .ok (some false) w := fun n w => by kernel_rfl
  have hna3 : ∀ n w, (nilAhead (n + 1) 62 (.pointer (some ⟨pr, 0, none⟩)) "moiety/parse.choice").run Tryz.prog w = .ok (some false) w := fun n w => by kernel_rfl
  have hna4 : ∀ n w, (nilAhead (n + 1) 62 (.pointer (some ⟨pr, 0, none⟩)) "moiety/parse.dim").run Tryz.prog w = .ok (some false) w := fun n w => by kernel_rfl
  have hna5 : ∀ n w, (nilAhead (n + 1) 62 (.pointer (some ⟨pr, 0, none⟩)) "moiety/parse.meas").run Tryz.prog w = .ok (some false) w := fun n w => by kernel_rfl
  obtain ⟨R, hR⟩ : ∃ R, foldP ms ds L [] s = R := ⟨_, rfl⟩
  rw [hR]
  have HF := hidMk hR
  unfold rdV
  clear hX hS hR
  all_goals
    rw [hk] at x0
    go_enter Tryz.func26, Tryz.ntmps26
    have HH0 := hidMk (Chg.refl (Two pr px) W)
    go_wp2_with fail
    (try go_end0)
    have hE := HF.out
    unfold foldP at hE
    subst hE
    exact ⟨rfl, HS.out, HH0.out⟩
set_option maxHeartbeats 4000000 in
set_option maxRecDepth 100000 in
theorem rd_fields_6 (hX : RX w0 pr px pd ra rc ms ds L) {s : Nat × Cm} (hS : RS w0 W pr px pd ra L.length rc s) (hk : s.2.k = 6 ∨ s.2.k = 7 ∨ s.2.k = 9 ∨ s.2.k = 14 ∨ s.2.k = 15) :
    Calls Tryz.prog 26 #[rdV pr, .pointer (some ⟨px, 0, none⟩)] W (RdPost w0 W pr px pd ra L.length rc (foldP ms ds L [115] s)) := by
  have HS := hidMk hS
  have HX := hidMk hX
  have x0 := hS.x 0 _ rfl
  have hmf : ∀ fn first cap w, (Instr.makeFunc fn first cap).run Tryz.prog w = .ok (.func fn first cap) w := fun _ _ _ _ => rfl
  have hna1 : ∀ n w, (nilAhead (n + 1) 62 (.pointer (some ⟨pr, 0, none⟩)) "moiety/parse.cell").run Tryz.prog w = .ok (some false) w := fun n w => by kernel_rfl
  have hna2 : ∀ n w, (nilAhead (n + 1) 62 (.pointer (some ⟨pr, 0, none⟩)) "moiety/parse.num").run Tryz.prog w = .ok (some false) w := fun n w => by kernel_rfl
  have hna3 : ∀ n w, (nilAhead (n + 1) 62 (.pointer (some ⟨pr, 0, none⟩)) "moiety/parse.choice").run Tryz.prog w = .ok (some false) w := fun n w => by kernel_rfl
  have hna4 : ∀ n w, (nilAhead (n + 1) 62 (.pointer (some ⟨pr, 0, none⟩)) "moiety/parse.dim").run Tryz.prog w = .ok (some false) w := fun n w => by kernel_rfl
  have hna5 : ∀ n w, (nilAhead (n + 1) 62 (.pointer (some ⟨pr, 0, none⟩)) "moiety/parse.meas").run Tryz.prog w = .ok (some false) w := fun n w => by kernel_rfl
  obtain ⟨R, hR⟩ : ∃ R, foldP ms ds L [115] s = R := ⟨_, rfl⟩
  rw [hR]
  have HF := hidMk hR
  unfold rdV
  clear hX hS hR
  rcases hk with hk | hk | hk | hk | hk
  all_goals
    rw [hk] at x0
    go_enter Tryz.func26, Tryz.ntmps26
    have HH0 := hidMk (Chg.refl (Two pr px) W)
    obtain ⟨r0, hr0⟩ : ∃ r, foldP ms ds L [115] s = r := ⟨_, rfl⟩
    have HF0 := hidMk (show bdP r0 (foldP ms ds L []) = R from (congrArg (bdP · (foldP ms ds L [])) hr0).symm.trans ((foldP_app ms ds L [115] [] s).symm.trans HF.out))
    have HC0 := hidMk (show ∀ o t y, o = .cells #[.pointer (some ⟨px, 2, none⟩)] t → Kept (W.alloc o) y → Calls Tryz.prog 50 #[.iface 62 (.pointer (some ⟨pr, 0, none⟩)), .slice (some ⟨W.heap.size, 0, none⟩) 1 1] y (RdPost w0 W pr px pd ra L.length rc r0) from fun o t y ho hy => by subst ho; rw [← hr0]; exact rd_nmA HX.out HS.out [115] (by decide) (by simp [isNm]) t y hy)
    clear hr0 HF
    go_wp2_with fail
    refine (HC0.out _ _ _ rfl (by (repeat (first | (with_reducible exact Kept.refl _) | (with_reducible refine Kept.alloc ?_ _) | (with_reducible refine Kept.drew ?_) | (with_reducible refine Kept.drewN ?_ _))))).mono ?_
    rintro e w1 hp
    rcases r0 with p | s1
    · obtain ⟨rfl, hc⟩ := hp
      go_wp2_with fail
      rw [← HF0.out]
      exact ⟨rfl, rdP_err (HH0.out.thn hc (fun _ _ h => h))⟩
    obtain ⟨rfl, hs, hc⟩ := hp
    have HS1 := hidMk hs
    have HH1 := hidMk (HH0.out.thn hc (fun _ _ h => h))
    have HG1 := hidMk (show foldP ms ds L [] s1 = R from HF0.out)
    clear hs hc HF0 HC0
    go_wp2_with fail
    (try go_end0)
    have hE := HG1.out
    unfold foldP at hE
    subst hE
    exact ⟨rfl, HS1.out, HH1.out⟩
set_option maxHeartbeats 4000000 in
set_option maxRecDepth 100000 in
theorem rd_fields_8 (hX : RX w0 pr px pd ra rc ms ds L) {s : Nat × Cm} (hS : RS w0 W pr px pd ra L.length rc s) (hk : s.2.k = 8 ∨ s.2.k = 13) :
    Calls Tryz.prog 26 #[rdV pr, .pointer (some ⟨px, 0, none⟩)] W (RdPost w0 W pr px pd ra L.length rc (foldP ms ds L [115, 111] s)) := by
  have HS := hidMk hS
  have HX := hidMk hX
  have x0 := hS.x 0 _ rfl
  have hmf : ∀ fn first cap w, (Instr.makeFunc fn first cap).run Tryz.prog w = .ok (.func fn first cap) w := fun _ _ _ _ => rfl
  have hna1 : ∀ n w, (nilAhead (n + 1) 62 (.pointer (some ⟨pr, 0, none⟩)) "moiety/parse.cell").run Tryz.prog w = .ok (some false) w := fun n w => by kernel_rfl
  have hna2 : ∀ n w, (nilAhead (n + 1) 62 (.pointer (some ⟨pr, 0, none⟩)) "moiety/parse.num").run Tryz.prog w = .ok (some false) w := fun n w => by kernel_rfl
  have hna3 : ∀ n w, (nilAhead (n + 1) 62 (.pointer (some ⟨pr, 0, none⟩)) "moiety/parse.choice").run Tryz.prog w = .ok (some false) w := fun n w => by kernel_rfl
  have hna4 : ∀ n w, (nilAhead (n + 1) 62 (.pointer (some ⟨pr, 0, none⟩)) "moiety/parse.dim").run Tryz.prog w = .ok (some false) w := fun n w => by kernel_rfl
  have hna5 : ∀ n w, (nilAhead (n + 1) 62 (.pointer (some ⟨pr, 0, none⟩)) "moiety/parse.meas").run Tryz.prog w = .ok (some false) w := fun n w => by kernel_rfl
  obtain ⟨R, hR⟩ : ∃ R, foldP ms ds L [115, 111] s = R := ⟨_, rfl⟩
  rw [hR]
  have HF := hidMk hR
  unfold rdV
  clear hX hS hR
  rcases hk with hk | hk
  all_goals
    rw [hk] at x0
    go_enter Tryz.func26, Tryz.ntmps26
    have HH0 := hidMk (Chg.refl (Two pr px) W)
    obtain ⟨r0, hr0⟩ : ∃ r, foldP ms ds L [115, 111] s = r := ⟨_, rfl⟩
    have HF0 := hidMk (show bdP r0 (foldP ms ds L []) = R from (congrArg (bdP · (foldP ms ds L [])) hr0).symm.trans ((foldP_app ms ds L [115, 111] [] s).symm.trans HF.out))
    have HC0 := hidMk (show ∀ o t y, o = .cells #[.pointer (some ⟨px, 2, none⟩), .pointer (some ⟨px, 3, none⟩)] t → Kept (W.alloc o) y → Calls Tryz.prog 50 #[.iface 62 (.pointer (some ⟨pr, 0, none⟩)), .slice (some ⟨W.heap.size, 0, none⟩) 2 2] y (RdPost w0 W pr px pd ra L.length rc r0) from fun o t y ho hy => by subst ho; rw [← hr0]; exact rd_nmA HX.out HS.out [115, 111] (by decide) (by simp [isNm]) t y hy)
    clear hr0 HF
    go_wp2_with fail
    refine wp_region_held_drew (S := (fun _ => True)) (by kernel_rfl) ?_ (fun hHeld => ?_)
    · trivial
    refine wpAnyH_take (i := 0) (oi := { dst := some 111, op := _, type := _, pos := _, after := _, guard := _ }) (v := ?_) rfl (by kernel_rfl) (by kernel_rfl) (by kernel_rfl) (fun _ _ _ h => h) (Or.inl ⟨by rfl, ?_⟩) (by assumption) ?_
    rotate_left
    · (intro w hSw; go_simp; (try with_reducible rfl))
    (try simp only [Act.put, List.setIfInBounds_toArray, List.set_cons_zero, List.set_cons_succ])
    refine wpAnyH_take (i := 1) (oi := { dst := some 112, op := _, type := _, pos := _, after := _, guard := _ }) (v := ?_) rfl (by kernel_rfl) (by kernel_rfl) (by kernel_rfl) (fun _ _ _ h => h) (Or.inl ⟨by rfl, ?_⟩) (by assumption) ?_
    rotate_left
    · (intro w hSw; go_simp; (try with_reducible rfl))
    (try simp only [Act.put, List.setIfInBounds_toArray, List.set_cons_zero, List.set_cons_succ])
    refine wpAnyH_take (i := 2) (oi := { dst := some 113, op := _, type := _, pos := _, after := _, guard := _ }) (v := ?_) rfl (by kernel_rfl) (by kernel_rfl) (by kernel_rfl) (fun _ _ _ h => h) (Or.inl ⟨by rfl, ?_⟩) (by assumption) ?_
    rotate_left
    · (intro w hSw; go_simp; (try with_reducible rfl))
    (try simp only [Act.put, List.setIfInBounds_toArray, List.set_cons_zero, List.set_cons_succ])
    refine wpAnyH_take (i := 3) (oi := { dst := some 114, op := _, type := _, pos := _, after := _, guard := _ }) (v := ?_) rfl (by kernel_rfl) (by kernel_rfl) (by kernel_rfl) (fun _ _ _ h => h) (Or.inl ⟨by rfl, ?_⟩) (by assumption) ?_
    rotate_left
    · (intro w hSw; go_simp; (try with_reducible rfl))
    (try simp only [Act.put, List.setIfInBounds_toArray, List.set_cons_zero, List.set_cons_succ])
    refine wpAnyH_take (i := 4) (oi := { dst := some 115, op := _, type := _, pos := _, after := _, guard := _ }) (v := ?_) rfl (by kernel_rfl) (by kernel_rfl) (by kernel_rfl) (fun _ _ _ h => h) (Or.inl ⟨by rfl, ?_⟩) (by assumption) ?_
    rotate_left
    · (intro w hSw; go_simp; (try with_reducible rfl))
    (try simp only [Act.put, List.setIfInBounds_toArray, List.set_cons_zero, List.set_cons_succ])
    refine wpAnyH_take (i := 5) (oi := { dst := some 116, op := _, type := _, pos := _, after := _, guard := _ }) (v := ?_) rfl (by kernel_rfl) (by kernel_rfl) (by kernel_rfl) (fun _ _ _ h => h) (Or.inl ⟨by rfl, ?_⟩) (by assumption) ?_
    rotate_left
    · (intro w hSw; go_simp; (try with_reducible rfl))
    (try simp only [Act.put, List.setIfInBounds_toArray, List.set_cons_zero, List.set_cons_succ])
    refine wpAnyH_take (i := 6) (oi := { dst := some 117, op := _, type := _, pos := _, after := _, guard := _ }) (v := ?_) rfl (by kernel_rfl) (by kernel_rfl) (by kernel_rfl) (fun _ _ _ h => h) (Or.inl ⟨by rfl, ?_⟩) (by assumption) ?_
    rotate_left
    · (intro w hSw; go_simp; (try with_reducible rfl))
    (try simp only [Act.put, List.setIfInBounds_toArray, List.set_cons_zero, List.set_cons_succ])
    refine wpAnyH_ready (rs := [7]) (by kernel_rfl) (by simp) ?_
    refine AllReadyH.cons (o := { dst := some 118, op := _, type := _, pos := _, after := _, guard := _ }) rfl (fun K hK => ?_) AllReadyH.nil
    go_simp
    refine hK.out _ _ ?_ (fun hHeld => ?_)
    · trivial
    clear hK K
    (try simp only [Act.put, List.setIfInBounds_toArray, List.set_cons_zero, List.set_cons_succ])
    refine wpAnyH_ready (rs := [8]) (by kernel_rfl) (by simp) ?_
    refine AllReadyH.cons (o := { dst := some 119, op := _, type := _, pos := _, after := _, guard := _ }) rfl (fun K hK => ?_) AllReadyH.nil
    go_simp
    (try (go_invoke; go_simp))
    refine (HC0.out _ _ _ rfl (by (repeat (first | (with_reducible exact Kept.refl _) | (with_reducible refine Kept.alloc ?_ _) | (with_reducible refine Kept.drew ?_) | (with_reducible refine Kept.drewN ?_ _))))).mono ?_
    rintro e w1 hp
    rcases r0 with p | s1
    · obtain ⟨rfl, hc⟩ := hp
      rw [← HF0.out]
      exact ⟨rfl, rdP_err (HH0.out.thn hc (fun _ _ h => h))⟩
    obtain ⟨rfl, hs, hc⟩ := hp
    have HS1 := hidMk hs
    have HH1 := hidMk (HH0.out.thn hc (fun _ _ h => h))
    have HG1 := hidMk (show foldP ms ds L [] s1 = R from HF0.out)
    clear hs hc HF0 HC0
    (try go_wp2_with fail)
    refine hK.out _ _ ?_ (fun hHeld => ?_)
    · trivial
    clear hK K
    (try simp only [Act.put, List.setIfInBounds_toArray, List.set_cons_zero, List.set_cons_succ])
    refine wpAnyH_done (by kernel_rfl) ?_ _
    go_wp2_with fail
    (try go_end0)
    have hE := HG1.out
    unfold foldP at hE
    subst hE
    exact ⟨rfl, HS1.out, HH1.out⟩
end
end Go.Proofs.YtpehinmckppjoaaGreatDoor
