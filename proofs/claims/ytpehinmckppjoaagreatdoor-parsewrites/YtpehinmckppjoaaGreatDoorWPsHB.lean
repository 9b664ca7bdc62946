/- parse.fields, for a writer. · parse.fields, for a writer. -/
import Derived.Test.YtpehinmckppjoaaGreatDoorWPsFcB
import Derived.Test.YtpehinmckppjoaaGreatDoorWPs8
import Derived.Handy
namespace Go.Proofs.YtpehinmckppjoaaGreatDoor
open Go.RowKit Go.Maps
set_option linter.unusedSimpArgs false
set_option linter.unusedVariables false

section
variable {w0 W : World} {pr px pd : Nat} {ms : List ByteArray} {ds : List Dm} {x : Cm} {v : Value} {l : List ByteArray}
theorem cat_nil2 {a : List ByteArray} (r : Option (List ByteArray)) : catW (some a) (catW (some []) r) = catW (some a) r := by rw [cat_nil]
theorem oneW_cell : oneW ms ds 99 x = if rightB ms ds x.c0 (atC x) = true then some [cellW ms ds x] else none := by unfold oneW; rw [if_neg (by decide), if_pos rfl]
theorem oneW_num : oneW ms ds 110 x = some [numS x.n] := by unfold oneW; rw [if_neg (by decide), if_neg (by decide), if_pos rfl]
theorem oneW_how : oneW ms ds 104 x = catW (chW spW x.h) (if x.h = 2 then pickW ms x.m else some []) := by unfold oneW; rw [if_neg (by decide), if_neg (by decide), if_neg (by decide), if_pos rfl]
theorem oneW_mt : oneW ms ds 109 x = chW mtW x.h := by unfold oneW; rw [if_neg (by decide), if_neg (by decide), if_neg (by decide), if_neg (by decide), if_pos rfl]
theorem oneW_dim : oneW ms ds 100 x = pickW (lbl ds) x.m := by unfold oneW; rw [if_neg (by decide), if_neg (by decide), if_neg (by decide), if_neg (by decide), if_neg (by decide)]
theorem pickW_len1 {ws : List ByteArray} {k : Int} {m : List ByteArray} (h : pickW ws k = some m) : m.length = 1 := by
  obtain ⟨_, _, rfl⟩ := pick_some h
  rfl
theorem pickW_len {ws : List ByteArray} {k : Int} {m : List ByteArray} (h : pickW ws k = some m) : m.length ≤ 2 := by have := pickW_len1 h; omega
theorem chW_len1 {ws : List ByteArray} {k : Int} {m : List ByteArray} (h : chW ws k = some m) : m.length ≤ 1 := by
  unfold chW at h
  split at h
  · cases h; exact Nat.zero_le _
  · exact Nat.le_of_eq (pickW_len1 h)
theorem chW_len {ws : List ByteArray} {k : Int} {m : List ByteArray} (h : chW ws k = some m) : m.length ≤ 2 := by have := chW_len1 h; omega
theorem oneW_len {b : Int} {m : List ByteArray} (h : oneW ms ds b x = some m) : m.length ≤ 2 := by
  unfold oneW at h
  split at h
  · split at h
    · cases h; exact Nat.le_succ 1
    · cases h
  · split at h
    · split at h
      · cases h; exact Nat.le_succ 1
      · cases h
    · split at h
      · cases h; exact Nat.le_succ 1
      · split at h
        · obtain ⟨a, c, h1, h2, rfl⟩ := cat_some h
          have := chW_len1 h1
          rw [List.length_append]
          split at h2
          · have := pickW_len1 h2; omega
          · cases h2; simp; omega
        · split at h
          · exact chW_len h
          · exact pickW_len h
theorem foldW_len : ∀ (bs : List Int) (m : List ByteArray), foldW ms ds bs x = some m → m.length ≤ 2 * bs.length
  | [], m, h => by unfold foldW at h; cases h; simp
  | b :: bs, m, h => by
    unfold foldW at h
    obtain ⟨a, c, h1, h2, rfl⟩ := cat_some h
    have := oneW_len h1
    have := foldW_len bs c h2
    rw [List.length_append, List.length_cons]
    omega
/-- Names, told behind a new row of where they lie. -/
theorem wr_nmA (hS : WS w0 W pr px pd x v l) (hx : XOk x) (hl : l.length ≤ 16) (bs : List Int) (hbl : bs.length ≤ 3) (hb : ∀ b ∈ bs, isNm b) (t : TypeId) (y : World) (hy : Kept (W.alloc (.cells (bs.map (fun b => Value.pointer (some ⟨px, offT b, none⟩))).toArray t)) y) :
    Calls Tryz.prog 50 #[wrV pr, .slice (some ⟨W.heap.size, 0, none⟩) bs.length bs.length] y (WrPost w0 W pr px pd x v l (foldW ms ds bs x)) := by
  have k := ((Kept.refl W).alloc (.cells (bs.map (fun b => Value.pointer (some ⟨px, offT b, none⟩))).toArray t)).trans hy
  obtain ⟨h1, h2, h3⟩ := hS.lt
  refine wr_from k (wr_names (hS.keep k) hx hl bs hbl (fun j hj => ?_) W.heap.size bs.length ⟨by omega, fun e => by have := h3 _ e; omega⟩ (fun j hj => ?_))
  · rw [List.getD_eq_getElem?_getD, List.getElem?_eq_getElem hj]; exact hb _ (List.getElem_mem hj)
  · exact hy.cellp (by simp [List.getElem?_map, List.getElem?_eq_getElem hj, List.getD_eq_getElem?_getD])
/-- A choice, told behind a new row of its words. -/
theorem wr_chA (hS : WS w0 W pr px pd x v l) (hl : l.length ≤ 19) (ws : List ByteArray) (h0 : 0 < ws.length) (hw : ws.length ≤ 10) (t : TypeId) (y : World) (hy : Kept (W.alloc (.cells (ws.map Value.string).toArray t)) y) :
    Calls Tryz.prog 180 #[.pointer (some ⟨pr, 0, none⟩), .pointer (some ⟨px, 10, none⟩), .slice (some ⟨W.heap.size, 0, none⟩) ws.length ws.length] y (WrPost w0 W pr px pd x v l (chW ws x.h)) := by
  have k := ((Kept.refl W).alloc (.cells (ws.map Value.string).toArray t)).trans hy
  exact wr_from k (wr_choice (hS.keep k) hl (some ⟨W.heap.size, 0, none⟩) ws.length ws.length ws ((ss_lit W ws h0 hw t).kept hy))
set_option maxHeartbeats 4000000 in
set_option maxRecDepth 100000 in
theorem wr_fields_16 (hX : WX w0 pd ms ds) (hS : WS w0 W pr px pd x v l) (hx : XOk x) (hl : l.length ≤ 1) (hk : x.k = 16) :
    Calls Tryz.prog 26 #[wrV pr, .pointer (some ⟨px, 0, none⟩)] W (WrPost w0 W pr px pd x v l (foldW ms ds [] x)) := by
  have HS := hidMk hS
  have HX := hidMk hX
  have HXO := hidMk hx
  have HL := hidMk hl
  have x0 := hS.x 0 _ rfl
  have hmf : ∀ fn first cap w, (Instr.makeFunc fn first cap).run Tryz.prog w = .ok (.func fn first cap) w := fun _ _ _ _ => rfl
  have hna1 : ∀ n w, (nilAhead (n + 1) 83 (.pointer (some ⟨pr, 0, none⟩)) "moiety/parse.cell").run Tryz.prog w = .ok (some false) w := fun n w => by kernel_rfl
  have hna2 : ∀ n w, (nilAhead (n + 1) 83 (.pointer (some ⟨pr, 0, none⟩)) "moiety/parse.num").run Tryz.prog w = .ok (some false) w := fun n w => by kernel_rfl
  have hna3 : ∀ n w, (nilAhead (n + 1) 83 (.pointer (some ⟨pr, 0, none⟩)) "moiety/parse.choice").run Tryz.prog w = .ok (some false) w := fun n w => by kernel_rfl
  have hna4 : ∀ n w, (nilAhead (n + 1) 83 (.pointer (some ⟨pr, 0, none⟩)) "moiety/parse.dim").run Tryz.prog w = .ok (some false) w := fun n w => by kernel_rfl
  have hna5 : ∀ n w, (nilAhead (n + 1) 83 (.pointer (some ⟨pr, 0, none⟩)) "moiety/parse.meas").run Tryz.prog w = .ok (some false) w := fun n w => by kernel_rfl
  obtain ⟨R, hR⟩ : ∃ R, foldW ms ds [] x = R := ⟨_, rfl⟩
  rw [hR]
  have HF := hidMk ((cat_nil _).trans hR)
  unfold wrV
  clear hX hS hR hx hl
  all_goals
    rw [hk] at x0
    go_enter Tryz.func26, Tryz.ntmps26
    have HH0 := hidMk (WC.of_kept (pr := pr) (v := v) (Kept.refl W))
    have HN0 := hidMk (show ([] : List ByteArray).length ≤ 0 from Nat.le_refl _)
    have HS0 := hidMk (show WS w0 W pr px pd x v (l ++ []) by rw [List.append_nil]; exact HS.out)
    go_wp2_with fail
    (try go_end0)
    exact wr_done HS0.out HH0.out ((cat_end _).symm.trans HF.out)
set_option maxHeartbeats 4000000 in
set_option maxRecDepth 100000 in
theorem wr_fields_6 (hX : WX w0 pd ms ds) (hS : WS w0 W pr px pd x v l) (hx : XOk x) (hl : l.length ≤ 1) (hk : x.k = 6 ∨ x.k = 7 ∨ x.k = 9 ∨ x.k = 14 ∨ x.k = 15) :
    Calls Tryz.prog 26 #[wrV pr, .pointer (some ⟨px, 0, none⟩)] W (WrPost w0 W pr px pd x v l (foldW ms ds [115] x)) := by
  have HS := hidMk hS
  have HX := hidMk hX
  have HXO := hidMk hx
  have HL := hidMk hl
  have x0 := hS.x 0 _ rfl
  have hmf : ∀ fn first cap w, (Instr.makeFunc fn first cap).run Tryz.prog w = .ok (.func fn first cap) w := fun _ _ _ _ => rfl
  have hna1 : ∀ n w, (nilAhead (n + 1) 83 (.pointer (some ⟨pr, 0, none⟩)) "moiety/parse.cell").run Tryz.prog w = .ok (some false) w := fun n w => by kernel_rfl
  have hna2 : ∀ n w, (nilAhead (n + 1) 83 (.pointer (some ⟨pr, 0, none⟩)) "moiety/parse.num").run Tryz.prog w = .ok (some false) w := fun n w => by kernel_rfl
  have hna3 : ∀ n w, (nilAhead (n + 1) 83 (.pointer (some ⟨pr, 0, none⟩)) "moiety/parse.choice").run Tryz.prog w = .ok (some false) w := fun n w => by kernel_rfl
  have hna4 : ∀ n w, (nilAhead (n + 1) 83 (.pointer (some ⟨pr, 0, none⟩)) "moiety/parse.dim").run Tryz.prog w = .ok (some false) w := fun n w => by kernel_rfl
  have hna5 : ∀ n w, (nilAhead (n + 1) 83 (.pointer (some ⟨pr, 0, none⟩)) "moiety/parse.meas").run Tryz.prog w = .ok (some false) w := fun n w => by kernel_rfl
  obtain ⟨R, hR⟩ : ∃ R, foldW ms ds [115] x = R := ⟨_, rfl⟩
  rw [hR]
  have HF := hidMk ((cat_nil _).trans hR)
  unfold wrV
  clear hX hS hR hx hl
  rcases hk with hk | hk | hk | hk | hk
  all_goals
    rw [hk] at x0
    go_enter Tryz.func26, Tryz.ntmps26
    have HH0 := hidMk (WC.of_kept (pr := pr) (v := v) (Kept.refl W))
    have HN0 := hidMk (show ([] : List ByteArray).length ≤ 0 from Nat.le_refl _)
    have HS0 := hidMk (show WS w0 W pr px pd x v (l ++ []) by rw [List.append_nil]; exact HS.out)
    obtain ⟨r0, hr0⟩ : ∃ r, foldW ms ds [115] x = r := ⟨_, rfl⟩
    have HF0 := hidMk (show catW (some []) (catW r0 (foldW ms ds [] x)) = R by rw [← hr0, ← foldW_app]; exact HF.out)
    have HM0 := hidMk (show ∀ m, r0 = some m → m.length ≤ 2 from fun m h => foldW_len _ m (hr0.trans h))
    have HC0 := hidMk (show ∀ o t y, o = .cells #[.pointer (some ⟨px, 2, none⟩)] t → Kept (W.alloc o) y → Calls Tryz.prog 50 #[.iface 83 (.pointer (some ⟨pr, 0, none⟩)), .slice (some ⟨W.heap.size, 0, none⟩) 1 1] y (WrPost w0 W pr px pd x v (l ++ []) r0) from fun o t y ho hy => by subst ho; rw [← hr0]; exact wr_nmA HS0.out HXO.out (by have h1 := HN0.out; have h2 := HL.out; rw [List.length_append]; omega) [115] (by decide) (by simp [isNm]) t y hy)
    clear hr0 HF
    go_wp2_with fail
    refine (HC0.out _ _ _ rfl (by (repeat (first | (with_reducible exact Kept.refl _) | (with_reducible refine Kept.alloc ?_ _) | (with_reducible refine Kept.drew ?_) | (with_reducible refine Kept.drewN ?_ _))))).mono ?_
    rintro e w1 hp
    rcases r0 with _ | m0
    · obtain ⟨rfl, vq, hc⟩ := hp
      have HZ := hidMk (HH0.out.trans hc)
      clear hc
      go_wp2_with fail
      exact ⟨rfl, wr_fail ⟨_, HZ.out⟩ HF0.out⟩
    obtain ⟨rfl, v1, hs, hc⟩ := hp
    have HS1 := hidMk (show WS w0 w1 pr px pd x v1 (l ++ ([] ++ m0)) by rw [← List.append_assoc]; exact hs)
    have HH1 := hidMk (HH0.out.trans hc)
    have HG1 := hidMk (show catW (some ([] ++ m0)) (foldW ms ds [] x) = R from cat_more.symm.trans HF0.out)
    have HN1 := hidMk (show ([] ++ m0).length ≤ 2 by have h1 := HN0.out; have h2 := HM0.out m0 rfl; rw [List.length_append]; omega)
    clear hs hc HF0 HC0 HM0
    go_wp2_with fail
    (try go_end0)
    exact wr_done HS1.out HH1.out ((cat_end _).symm.trans HG1.out)
set_option maxHeartbeats 4000000 in
set_option maxRecDepth 100000 in
theorem wr_fields_8 (hX : WX w0 pd ms ds) (hS : WS w0 W pr px pd x v l) (hx : XOk x) (hl : l.length ≤ 1) (hk : x.k = 8 ∨ x.k = 13) :
    Calls Tryz.prog 26 #[wrV pr, .pointer (some ⟨px, 0, none⟩)] W (WrPost w0 W pr px pd x v l (foldW ms ds [115, 111] x)) := by
  have HS := hidMk hS
  have HX := hidMk hX
  have HXO := hidMk hx
  have HL := hidMk hl
  have x0 := hS.x 0 _ rfl
  have hmf : ∀ fn first cap w, (Instr.makeFunc fn first cap).run Tryz.prog w = .ok (.func fn first cap) w := fun _ _ _ _ => rfl
  have hna1 : ∀ n w, (nilAhead (n + 1) 83 (.pointer (some ⟨pr, 0, none⟩)) "moiety/parse.cell").run Tryz.prog w = .ok (some false) w := fun n w => by kernel_rfl
  have hna2 : ∀ n w, (nilAhead (n + 1) 83 (.pointer (some ⟨pr, 0, none⟩)) "moiety/parse.num").run Tryz.prog w = .ok (some false) w := fun n w => by kernel_rfl
  have hna3 : ∀ n w, (nilAhead (n + 1) 83 (.pointer (some ⟨pr, 0, none⟩)) "moiety/parse.choice").run Tryz.prog w = .ok (some false) w := fun n w => by kernel_rfl
  have hna4 : ∀ n w, (nilAhead (n + 1) 83 (.pointer (some ⟨pr, 0, none⟩)) "moiety/parse.dim").run Tryz.prog w = .ok (some false) w := fun n w => by kernel_rfl
  have hna5 : ∀ n w, (nilAhead (n + 1) 83 (.pointer (some ⟨pr, 0, none⟩)) "moiety/parse.meas").run Tryz.prog w = .ok (some false) w := fun n w => by kernel_rfl
  obtain ⟨R, hR⟩ : ∃ R, foldW ms ds [115, 111] x = R := ⟨_, rfl⟩
  rw [hR]
  have HF := hidMk ((cat_nil _).trans hR)
  unfold wrV
  clear hX hS hR hx hl
  rcases hk with hk | hk
  all_goals
    rw [hk] at x0
    go_enter Tryz.func26, Tryz.ntmps26
    have HH0 := hidMk (WC.of_kept (pr := pr) (v := v) (Kept.refl W))
    have HN0 := hidMk (show ([] : List ByteArray).length ≤ 0 from Nat.le_refl _)
    have HS0 := hidMk (show WS w0 W pr px pd x v (l ++ []) by rw [List.append_nil]; exact HS.out)
    obtain ⟨r0, hr0⟩ : ∃ r, foldW ms ds [115, 111] x = r := ⟨_, rfl⟩
    have HF0 := hidMk (show catW (some []) (catW r0 (foldW ms ds [] x)) = R by rw [← hr0, ← foldW_app]; exact HF.out)
    have HM0 := hidMk (show ∀ m, r0 = some m → m.length ≤ 4 from fun m h => foldW_len _ m (hr0.trans h))
    have HC0 := hidMk (show ∀ o t y, o = .cells #[.pointer (some ⟨px, 2, none⟩), .pointer (some ⟨px, 3, none⟩)] t → Kept (W.alloc o) y → Calls Tryz.prog 50 #[.iface 83 (.pointer (some ⟨pr, 0, none⟩)), .slice (some ⟨W.heap.size, 0, none⟩) 2 2] y (WrPost w0 W pr px pd x v (l ++ []) r0) from fun o t y ho hy => by subst ho; rw [← hr0]; exact wr_nmA HS0.out HXO.out (by have h1 := HN0.out; have h2 := HL.out; rw [List.length_append]; omega) [115, 111] (by decide) (by simp [isNm]) t y hy)
    clear hr0 HF
    go_wp2_with fail
    refine wp_region_held_drew (S := (fun _ => True)) (by kernel_rfl) ?_ (fun hHeld => ?_)
    · trivial
    refine wpAnyH_take (i := 0) (oi := { dst := some 111, op := _, type := _, pos := _, after := _, guard := _ }) (v := ?_) rfl (by kernel_rfl) (by kernel_rfl) (by kernel_rfl) (fun _ _ _ h => h) (Or.inl ⟨by rfl, ?_⟩) (by assumption) ?_
    rotate_left
    · (intro w hSw; go_simp; (try with_reducible rfl))
    (try simp only [Act.put, List.setIfInBounds_toArray, List.set_cons_zero, List.set_cons_succ])
    refine wpAnyH_take (i := 1) (oi := { dst := some 112, op := _, type := _, pos := _, after := _, guard := _ }) (v := ?_) rfl (by kernel_rfl) (by kernel_rfl) (by kernel_rfl) (fun _ _ _ h => h) (Or.inl ⟨by rfl, ?_⟩) (by assumption) ?_
    rotate_left
    · (intro w hSw; go_simp; (try with_reducible rfl))
    (try simp only [Act.put, List.setIfInBounds_toArray, List.set_cons_zero, List.set_cons_succ])
    refine wpAnyH_take (i := 2) (oi := { dst := some 113, op := _, type := _, pos := _, after := _, guard := _ }) (v := ?_) rfl (by kernel_rfl) (by kernel_rfl) (by kernel_rfl) (fun _ _ _ h => h) (Or.inl ⟨by rfl, ?_⟩) (by assumption) ?_
    rotate_left
    · (intro w hSw; go_simp; (try with_reducible rfl))
    (try simp only [Act.put, List.setIfInBounds_toArray, List.set_cons_zero, List.set_cons_succ])
    refine wpAnyH_take (i := 3) (oi := { dst := some 114, op := _, type := _, pos := _, after := _, guard := _ }) (v := ?_) rfl (by kernel_rfl) (by kernel_rfl) (by kernel_rfl) (fun _ _ _ h => h) (Or.inl ⟨by rfl, ?_⟩) (by assumption) ?_
    rotate_left
    · (intro w hSw; go_simp; (try with_reducible rfl))
    (try simp only [Act.put, List.setIfInBounds_toArray, List.set_cons_zero, List.set_cons_succ])
    refine wpAnyH_take (i := 4) (oi := { dst := some 115, op := _, type := _, pos := _, after := _, guard := _ }) (v := ?_) rfl (by kernel_rfl) (by kernel_rfl) (by kernel_rfl) (fun _ _ _ h => h) (Or.inl ⟨by rfl, ?_⟩) (by assumption) ?_
    rotate_left
    · (intro w hSw; go_simp; (try with_reducible rfl))
    (try simp only [Act.put, List.setIfInBounds_toArray, List.set_cons_zero, List.set_cons_succ])
    refine wpAnyH_take (i := 5) (oi := { dst := some 116, op := _, type := _, pos := _, after := _, guard := _ }) (v := ?_) rfl (by kernel_rfl) (by kernel_rfl) (by kernel_rfl) (fun _ _ _ h => h) (Or.inl ⟨by rfl, ?_⟩) (by assumption) ?_
    rotate_left
    · (intro w hSw; go_simp; (try with_reducible rfl))
    (try simp only [Act.put, List.setIfInBounds_toArray, List.set_cons_zero, List.set_cons_succ])
    refine wpAnyH_take (i := 6) (oi := { dst := some 117, op := _, type := _, pos := _, after := _, guard := _ }) (v := ?_) rfl (by kernel_rfl) (by kernel_rfl) (by kernel_rfl) (fun _ _ _ h => h) (Or.inl ⟨by rfl, ?_⟩) (by assumption) ?_
    rotate_left
    · (intro w hSw; go_simp; (try with_reducible rfl))
    (try simp only [Act.put, List.setIfInBounds_toArray, List.set_cons_zero, List.set_cons_succ])
    refine wpAnyH_ready (rs := [7]) (by kernel_rfl) (by simp) ?_
    refine AllReadyH.cons (o := { dst := some 118, op := _, type := _, pos := _, after := _, guard := _ }) rfl (fun K hK => ?_) AllReadyH.nil
    go_simp
    refine hK.out _ _ ?_ (fun hHeld => ?_)
    · trivial
    clear hK K
    (try simp only [Act.put, List.setIfInBounds_toArray, List.set_cons_zero, List.set_cons_succ])
    refine wpAnyH_ready (rs := [8]) (by kernel_rfl) (by simp) ?_
    refine AllReadyH.cons (o := { dst := some 119, op := _, type := _, pos := _, after := _, guard := _ }) rfl (fun K hK => ?_) AllReadyH.nil
    go_simp
    (try (go_invoke; go_simp))
    refine (HC0.out _ _ _ rfl (by (repeat (first | (with_reducible exact Kept.refl _) | (with_reducible refine Kept.alloc ?_ _) | (with_reducible refine Kept.drew ?_) | (with_reducible refine Kept.drewN ?_ _))))).mono ?_
    rintro e w1 hp
    rcases r0 with _ | m0
    · obtain ⟨rfl, vq, hc⟩ := hp
      exact ⟨rfl, wr_fail ⟨_, HH0.out.trans hc⟩ HF0.out⟩
    obtain ⟨rfl, v1, hs, hc⟩ := hp
    have HS1 := hidMk (show WS w0 w1 pr px pd x v1 (l ++ ([] ++ m0)) by rw [← List.append_assoc]; exact hs)
    have HH1 := hidMk (HH0.out.trans hc)
    have HG1 := hidMk (show catW (some ([] ++ m0)) (foldW ms ds [] x) = R from cat_more.symm.trans HF0.out)
    have HN1 := hidMk (show ([] ++ m0).length ≤ 4 by have h1 := HN0.out; have h2 := HM0.out m0 rfl; rw [List.length_append]; omega)
    clear hs hc HF0 HC0 HM0
    (try go_wp2_with fail)
    refine hK.out _ _ ?_ (fun hHeld => ?_)
    · trivial
    clear hK K
    (try simp only [Act.put, List.setIfInBounds_toArray, List.set_cons_zero, List.set_cons_succ])
    refine wpAnyH_done (by kernel_rfl) ?_ _
    go_wp2_with fail
    (try go_end0)
    exact wr_done HS1.out HH1.out ((cat_end _).symm.trans HG1.out)
set_option maxHeartbeats 4000000 in
set_option maxRecDepth 100000 in
theorem wr_fields_10 (hX : WX w0 pd ms ds) (hS : WS w0 W pr px pd x v l) (hx : XOk x) (hl : l.length ≤ 1) (hk : x.k = 10) :
    Calls Tryz.prog 26 #[wrV pr, .pointer (some ⟨px, 0, none⟩)] W (WrPost w0 W pr px pd x v l (foldW ms ds [117, 115, 111, 109] x)) := by
  have HS := hidMk hS
  have HX := hidMk hX
  have HXO := hidMk hx
  have HL := hidMk hl
  have x0 := hS.x 0 _ rfl
  have hmf : ∀ fn first cap w, (Instr.makeFunc fn first cap).run Tryz.prog w = .ok (.func fn first cap) w := fun _ _ _ _ => rfl
  have hna1 : ∀ n w, (nilAhead (n + 1) 83 (.pointer (some ⟨pr, 0, none⟩)) "moiety/parse.cell").run Tryz.prog w = .ok (some false) w := fun n w => by kernel_rfl
  have hna2 : ∀ n w, (nilAhead (n + 1) 83 (.pointer (some ⟨pr, 0, none⟩)) "moiety/parse.num").run Tryz.prog w = .ok (some false) w := fun n w => by kernel_rfl
  have hna3 : ∀ n w, (nilAhead (n + 1) 83 (.pointer (some ⟨pr, 0, none⟩)) "moiety/parse.choice").run Tryz.prog w = .ok (some false) w := fun n w => by kernel_rfl
  have hna4 : ∀ n w, (nilAhead (n + 1) 83 (.pointer (some ⟨pr, 0, none⟩)) "moiety/parse.dim").run Tryz.prog w = .ok (some false) w := fun n w => by kernel_rfl
  have hna5 : ∀ n w, (nilAhead (n + 1) 83 (.pointer (some ⟨pr, 0, none⟩)) "moiety/parse.meas").run Tryz.prog w = .ok (some false) w := fun n w => by kernel_rfl
  obtain ⟨R, hR⟩ : ∃ R, foldW ms ds [117, 115, 111, 109] x = R := ⟨_, rfl⟩
  rw [hR]
  have HF := hidMk ((cat_nil _).trans hR)
  unfold wrV
  clear hX hS hR hx hl
  all_goals
    rw [hk] at x0
    go_enter Tryz.func26, Tryz.ntmps26
    have HH0 := hidMk (WC.of_kept (pr := pr) (v := v) (Kept.refl W))
    have HN0 := hidMk (show ([] : List ByteArray).length ≤ 0 from Nat.le_refl _)
    have HS0 := hidMk (show WS w0 W pr px pd x v (l ++ []) by rw [List.append_nil]; exact HS.out)
    obtain ⟨r0, hr0⟩ : ∃ r, foldW ms ds [117, 115, 111] x = r := ⟨_, rfl⟩
    have HF0 := hidMk (show catW (some []) (catW r0 (foldW ms ds [109] x)) = R by rw [← hr0, ← foldW_app]; exact HF.out)
    have HM0 := hidMk (show ∀ m, r0 = some m → m.length ≤ 6 from fun m h => foldW_len _ m (hr0.trans h))
    have HC0 := hidMk (show ∀ o t y, o = .cells #[.pointer (some ⟨px, 1, none⟩), .pointer (some ⟨px, 2, none⟩), .pointer (some ⟨px, 3, none⟩)] t → Kept (W.alloc o) y → Calls Tryz.prog 50 #[.iface 83 (.pointer (some ⟨pr, 0, none⟩)), .slice (some ⟨W.heap.size, 0, none⟩) 3 3] y (WrPost w0 W pr px pd x v (l ++ []) r0) from fun o t y ho hy => by subst ho; rw [← hr0]; exact wr_nmA HS0.out HXO.out (by have h1 := HN0.out; have h2 := HL.out; rw [List.length_append]; omega) [117, 115, 111] (by decide) (by simp [isNm]) t y hy)
    clear hr0 HF
    go_wp2_with fail
    refine wp_region_held_drew (S := (fun _ => True)) (by kernel_rfl) ?_ (fun hHeld => ?_)
    · trivial
    refine wpAnyH_take (i := 0) (oi := { dst := some 122, op := _, type := _, pos := _, after := _, guard := _ }) (v := ?_) rfl (by kernel_rfl) (by kernel_rfl) (by kernel_rfl) (fun _ _ _ h => h) (Or.inl ⟨by rfl, ?_⟩) (by assumption) ?_
    rotate_left
    · (intro w hSw; go_simp; (try with_reducible rfl))
    (try simp only [Act.put, List.setIfInBounds_toArray, List.set_cons_zero, List.set_cons_succ])
    refine wpAnyH_take (i := 1) (oi := { dst := some 123, op := _, type := _, pos := _, after := _, guard := _ }) (v := ?_) rfl (by kernel_rfl) (by kernel_rfl) (by kernel_rfl) (fun _ _ _ h => h) (Or.inl ⟨by rfl, ?_⟩) (by assumption) ?_
    rotate_left
    · (intro w hSw; go_simp; (try with_reducible rfl))
    (try simp only [Act.put, List.setIfInBounds_toArray, List.set_cons_zero, List.set_cons_succ])
    refine wpAnyH_take (i := 2) (oi := { dst := some 124, op := _, type := _, pos := _, after := _, guard := _ }) (v := ?_) rfl (by kernel_rfl) (by kernel_rfl) (by kernel_rfl) (fun _ _ _ h => h) (Or.inl ⟨by rfl, ?_⟩) (by assumption) ?_
    rotate_left
    · (intro w hSw; go_simp; (try with_reducible rfl))
    (try simp only [Act.put, List.setIfInBounds_toArray, List.set_cons_zero, List.set_cons_succ])
    refine wpAnyH_take (i := 3) (oi := { dst := some 125, op := _, type := _, pos := _, after := _, guard := _ }) (v := ?_) rfl (by kernel_rfl) (by kernel_rfl) (by kernel_rfl) (fun _ _ _ h => h) (Or.inl ⟨by rfl, ?_⟩) (by assumption) ?_
    rotate_left
    · (intro w hSw; go_simp; (try with_reducible rfl))
    (try simp only [Act.put, List.setIfInBounds_toArray, List.set_cons_zero, List.set_cons_succ])
    refine wpAnyH_take (i := 4) (oi := { dst := some 126, op := _, type := _, pos := _, after := _, guard := _ }) (v := ?_) rfl (by kernel_rfl) (by kernel_rfl) (by kernel_rfl) (fun _ _ _ h => h) (Or.inl ⟨by rfl, ?_⟩) (by assumption) ?_
    rotate_left
    · (intro w hSw; go_simp; (try with_reducible rfl))
    (try simp only [Act.put, List.setIfInBounds_toArray, List.set_cons_zero, List.set_cons_succ])
    refine wpAnyH_take (i := 5) (oi := { dst := some 127, op := _, type := _, pos := _, after := _, guard := _ }) (v := ?_) rfl (by kernel_rfl) (by kernel_rfl) (by kernel_rfl) (fun _ _ _ h => h) (Or.inl ⟨by rfl, ?_⟩) (by assumption) ?_
    rotate_left
    · (intro w hSw; go_simp; (try with_reducible rfl))
    (try simp only [Act.put, List.setIfInBounds_toArray, List.set_cons_zero, List.set_cons_succ])
    refine wpAnyH_take (i := 6) (oi := { dst := some 128, op := _, type := _, pos := _, after := _, guard := _ }) (v := ?_) rfl (by kernel_rfl) (by kernel_rfl) (by kernel_rfl) (fun _ _ _ h => h) (Or.inl ⟨by rfl, ?_⟩) (by assumption) ?_
    rotate_left
    · (intro w hSw; go_simp; (try with_reducible rfl))
    (try simp only [Act.put, List.setIfInBounds_toArray, List.set_cons_zero, List.set_cons_succ])
    refine wpAnyH_take (i := 7) (oi := { dst := some 129, op := _, type := _, pos := _, after := _, guard := _ }) (v := ?_) rfl (by kernel_rfl) (by kernel_rfl) (by kernel_rfl) (fun _ _ _ h => h) (Or.inl ⟨by rfl, ?_⟩) (by assumption) ?_
    rotate_left
    · (intro w hSw; go_simp; (try with_reducible rfl))
    (try simp only [Act.put, List.setIfInBounds_toArray, List.set_cons_zero, List.set_cons_succ])
    refine wpAnyH_take (i := 8) (oi := { dst := some 130, op := _, type := _, pos := _, after := _, guard := _ }) (v := ?_) rfl (by kernel_rfl) (by kernel_rfl) (by kernel_rfl) (fun _ _ _ h => h) (Or.inl ⟨by rfl, ?_⟩) (by assumption) ?_
    rotate_left
    · (intro w hSw; go_simp; (try with_reducible rfl))
    (try simp only [Act.put, List.setIfInBounds_toArray, List.set_cons_zero, List.set_cons_succ])
    refine wpAnyH_take (i := 9) (oi := { dst := some 131, op := _, type := _, pos := _, after := _, guard := _ }) (v := ?_) rfl (by kernel_rfl) (by kernel_rfl) (by kernel_rfl) (fun _ _ _ h => h) (Or.inl ⟨by rfl, ?_⟩) (by assumption) ?_
    rotate_left
    · (intro w hSw; go_simp; (try with_reducible rfl))
    (try simp only [Act.put, List.setIfInBounds_toArray, List.set_cons_zero, List.set_cons_succ])
    refine wpAnyH_ready (rs := [10]) (by kernel_rfl) (by simp) ?_
    refine AllReadyH.cons (o := { dst := some 132, op := _, type := _, pos := _, after := _, guard := _ }) rfl (fun K hK => ?_) AllReadyH.nil
    go_simp
    refine hK.out _ _ ?_ (fun hHeld => ?_)
    · trivial
    clear hK K
    (try simp only [Act.put, List.setIfInBounds_toArray, List.set_cons_zero, List.set_cons_succ])
    refine wpAnyH_ready (rs := [11]) (by kernel_rfl) (by simp) ?_
    refine AllReadyH.cons (o := { dst := some 133, op := _, type := _, pos := _, after := _, guard := _ }) rfl (fun K hK => ?_) AllReadyH.nil
    go_simp
    (try (go_invoke; go_simp))
    refine (HC0.out _ _ _ rfl (by (repeat (first | (with_reducible exact Kept.refl _) | (with_reducible refine Kept.alloc ?_ _) | (with_reducible refine Kept.drew ?_) | (with_reducible refine Kept.drewN ?_ _))))).mono ?_
    rintro e w1 hp
    rcases r0 with _ | m0
    · obtain ⟨rfl, vq, hc⟩ := hp
      exact ⟨rfl, wr_fail ⟨_, HH0.out.trans hc⟩ HF0.out⟩
    obtain ⟨rfl, v1, hs, hc⟩ := hp
    have HS1 := hidMk (show WS w0 w1 pr px pd x v1 (l ++ ([] ++ m0)) by rw [← List.append_assoc]; exact hs)
    have HH1 := hidMk (HH0.out.trans hc)
    have HG1 := hidMk (show catW (some ([] ++ m0)) (foldW ms ds [109] x) = R from cat_more.symm.trans HF0.out)
    have HN1 := hidMk (show ([] ++ m0).length ≤ 6 by have h1 := HN0.out; have h2 := HM0.out m0 rfl; rw [List.length_append]; omega)
    clear hs hc HF0 HC0 HM0
    (try go_wp2_with fail)
    refine hK.out _ _ ?_ (fun hHeld => ?_)
    · trivial
    clear hK K
    (try simp only [Act.put, List.setIfInBounds_toArray, List.set_cons_zero, List.set_cons_succ])
    refine wpAnyH_done (by kernel_rfl) ?_ _
    obtain ⟨r1, hr1⟩ : ∃ r, chW mtW x.h = r := ⟨_, rfl⟩
    have HF1 := hidMk (show catW (some ([] ++ m0)) (catW r1 (foldW ms ds [] x)) = R by rw [← hr1, ← oneW_mt (ms := ms) (ds := ds)]; exact HG1.out)
    have HM1 := hidMk (show ∀ m, r1 = some m → m.length ≤ 2 from fun m h => chW_len (hr1.trans h))
    have HC1 := hidMk (show ∀ o t y, o = .cells #[.string ⟨#[97, 98, 111, 114, 116]⟩, .string ⟨#[111, 117, 114, 115]⟩, .string ⟨#[116, 104, 101, 105, 114, 115]⟩] t → Kept (w1.alloc o) y → Calls Tryz.prog 180 #[.pointer (some ⟨pr, 0, none⟩), .pointer (some ⟨px, 10, none⟩), .slice (some ⟨w1.heap.size, 0, none⟩) 3 3] y (WrPost w0 w1 pr px pd x v1 (l ++ ([] ++ m0)) r1) from fun o t y ho hy => by subst ho; rw [← hr1]; exact wr_chA HS1.out (by have h1 := HN1.out; have h2 := HL.out; rw [List.length_append]; omega) mtW (by decide) (by decide) t y hy)
    clear hr1 HG1
    go_wp2_with fail
    refine wp_region_held_drew (S := (fun _ => True)) (by kernel_rfl) ?_ (fun hHeld => ?_)
    · trivial
    refine wpAnyH_take (i := 0) (oi := { dst := some 134, op := _, type := _, pos := _, after := _, guard := _ }) (v := ?_) rfl (by kernel_rfl) (by kernel_rfl) (by kernel_rfl) (fun _ _ _ h => h) (Or.inl ⟨by rfl, ?_⟩) (by assumption) ?_
    rotate_left
    · (intro w hSw; go_simp; (try with_reducible rfl))
    (try simp only [Act.put, List.setIfInBounds_toArray, List.set_cons_zero, List.set_cons_succ])
    refine wpAnyH_take (i := 1) (oi := { dst := some 135, op := _, type := _, pos := _, after := _, guard := _ }) (v := ?_) rfl (by kernel_rfl) (by kernel_rfl) (by kernel_rfl) (fun _ _ _ h => h) (Or.inl ⟨by rfl, ?_⟩) (by assumption) ?_
    rotate_left
    · (intro w hSw; go_simp; (try with_reducible rfl))
    (try simp only [Act.put, List.setIfInBounds_toArray, List.set_cons_zero, List.set_cons_succ])
    refine wpAnyH_take (i := 2) (oi := { dst := some 136, op := _, type := _, pos := _, after := _, guard := _ }) (v := ?_) rfl (by kernel_rfl) (by kernel_rfl) (by kernel_rfl) (fun _ _ _ h => h) (Or.inl ⟨by rfl, ?_⟩) (by assumption) ?_
    rotate_left
    · (intro w hSw; go_simp; (try with_reducible rfl))
    (try simp only [Act.put, List.setIfInBounds_toArray, List.set_cons_zero, List.set_cons_succ])
    refine wpAnyH_take (i := 3) (oi := { dst := some 137, op := _, type := _, pos := _, after := _, guard := _ }) (v := ?_) rfl (by kernel_rfl) (by kernel_rfl) (by kernel_rfl) (fun _ _ _ h => h) (Or.inl ⟨by rfl, ?_⟩) (by assumption) ?_
    rotate_left
    · (intro w hSw; go_simp; (try with_reducible rfl))
    (try simp only [Act.put, List.setIfInBounds_toArray, List.set_cons_zero, List.set_cons_succ])
    refine wpAnyH_take (i := 5) (oi := { dst := some 139, op := _, type := _, pos := _, after := _, guard := _ }) (v := ?_) rfl (by kernel_rfl) (by kernel_rfl) (by kernel_rfl) (fun _ _ _ h => h) (Or.inl ⟨by rfl, ?_⟩) (by assumption) ?_
    rotate_left
    · (intro w hSw; go_simp; (try with_reducible rfl))
    (try simp only [Act.put, List.setIfInBounds_toArray, List.set_cons_zero, List.set_cons_succ])
    refine wpAnyH_take (i := 6) (oi := { dst := some 140, op := _, type := _, pos := _, after := _, guard := _ }) (v := ?_) rfl (by kernel_rfl) (by kernel_rfl) (by kernel_rfl) (fun _ _ _ h => h) (Or.inl ⟨by rfl, ?_⟩) (by assumption) ?_
    rotate_left
    · (intro w hSw; go_simp; (try with_reducible rfl))
    (try simp only [Act.put, List.setIfInBounds_toArray, List.set_cons_zero, List.set_cons_succ])
    refine wpAnyH_take (i := 7) (oi := { dst := some 141, op := _, type := _, pos := _, after := _, guard := _ }) (v := ?_) rfl (by kernel_rfl) (by kernel_rfl) (by kernel_rfl) (fun _ _ _ h => h) (Or.inl ⟨by rfl, ?_⟩) (by assumption) ?_
    rotate_left
    · (intro w hSw; go_simp; (try with_reducible rfl))
    (try simp only [Act.put, List.setIfInBounds_toArray, List.set_cons_zero, List.set_cons_succ])
    refine wpAnyH_ready (rs := [4]) (by kernel_rfl) (by simp) ?_
    refine AllReadyH.cons (o := { dst := some 138, op := _, type := _, pos := _, after := _, guard := _ }) rfl (fun K hK => ?_) AllReadyH.nil
    go_simp
    refine hK.out _ _ ?_ (fun hHeld => ?_)
    · trivial
    clear hK K
    (try simp only [Act.put, List.setIfInBounds_toArray, List.set_cons_zero, List.set_cons_succ])
    refine wpAnyH_ready (rs := [8]) (by kernel_rfl) (by simp) ?_
    refine AllReadyH.cons (o := { dst := some 142, op := _, type := _, pos := _, after := _, guard := _ }) rfl (fun K hK => ?_) AllReadyH.nil
    go_simp
    (try (go_invoke; go_simp))
    refine (HC1.out _ _ _ rfl (by (repeat (first | (with_reducible exact Kept.refl _) | (with_reducible refine Kept.alloc ?_ _) | (with_reducible refine Kept.drew ?_) | (with_reducible refine Kept.drewN ?_ _))))).mono ?_
    rintro e w2 hp
    rcases r1 with _ | m1
    · obtain ⟨rfl, vq, hc⟩ := hp
      exact ⟨rfl, wr_fail ⟨_, HH1.out.trans hc⟩ HF1.out⟩
    obtain ⟨rfl, v2, hs, hc⟩ := hp
    have HS2 := hidMk (show WS w0 w2 pr px pd x v2 (l ++ (([] ++ m0) ++ m1)) by rw [← List.append_assoc]; exact hs)
    have HH2 := hidMk (HH1.out.trans hc)
    have HG2 := hidMk (show catW (some (([] ++ m0) ++ m1)) (foldW ms ds [] x) = R from cat_more.symm.trans HF1.out)
    have HN2 := hidMk (show (([] ++ m0) ++ m1).length ≤ 8 by have h1 := HN1.out; have h2 := HM1.out m1 rfl; rw [List.length_append]; omega)
    clear hs hc HF1 HC1 HM1
    (try go_wp2_with fail)
    refine hK.out _ _ ?_ (fun hHeld => ?_)
    · trivial
    clear hK K
    (try simp only [Act.put, List.setIfInBounds_toArray, List.set_cons_zero, List.set_cons_succ])
    refine wpAnyH_done (by kernel_rfl) ?_ _
    go_wp2_with fail
    (try go_end0)
    exact wr_done HS2.out HH2.out ((cat_end _).symm.trans HG2.out)
end
end Go.Proofs.YtpehinmckppjoaaGreatDoor
namespace Go.Proofs.YtpehinmckppjoaaGreatDoor
open Go.RowKit Go.Maps
set_option linter.unusedSimpArgs false
set_option linter.unusedVariables false

section
variable {w0 W : World} {pr px pd : Nat} {ms : List ByteArray} {ds : List Dm} {x : Cm} {v : Value} {l : List ByteArray}
set_option maxHeartbeats 4000000 in
set_option maxRecDepth 100000 in
theorem wr_fields_1 (hX : WX w0 pd ms ds) (hS : WS w0 W pr px pd x v l) (hx : XOk x) (hl : l.length ≤ 1) (hk : x.k = 1) :
    Calls Tryz.prog 26 #[wrV pr, .pointer (some ⟨px, 0, none⟩)] W (WrPost w0 W pr px pd x v l (foldW ms ds [117, 115, 99, 110, 104] x)) := by
  have HS := hidMk hS
  have HX := hidMk hX
  have HXO := hidMk hx
  have HL := hidMk hl
  have x0 := hS.x 0 _ rfl
  have hmf : ∀ fn first cap w, (Instr.makeFunc fn first cap).run Tryz.prog w = .ok (.func fn first cap) w := fun _ _ _ _ => rfl
  have hna1 : ∀ n w, (nilAhead (n + 1) 83 (.pointer (some ⟨pr, 0, none⟩)) "moiety/parse.cell").run Tryz.prog w = .ok (some false) w := fun n w => by kernel_rfl
  have hna2 : ∀ n w, (nilAhead (n + 1) 83 (.pointer (some ⟨pr, 0, none⟩)) "moiety/parse.num").run Tryz.prog w = .ok (some false) w := fun n w => by kernel_rfl
  have hna3 : ∀ n w, (nilAhead (n + 1) 83 (.pointer (some ⟨pr, 0, none⟩)) "moiety/parse.choice").run Tryz.prog w = .ok (some false) w := fun n w => by kernel_rfl
  have hna4 : ∀ n w, (nilAhead (n + 1) 83 (.pointer (some ⟨pr, 0, none⟩)) "moiety/parse.dim").run Tryz.prog w = .ok (some false) w := fun n w => by kernel_rfl
  have hna5 : ∀ n w, (nilAhead (n + 1) 83 (.pointer (some ⟨pr, 0, none⟩)) "moiety/parse.meas").run Tryz.prog w = .ok (some false) w := fun n w => by kernel_rfl
  obtain ⟨R, hR⟩ : ∃ R, foldW ms ds [117, 115, 99, 110, 104] x = R := ⟨_, rfl⟩
  rw [hR]
  have HF := hidMk ((cat_nil _).trans hR)
  unfold wrV
  clear hX hS hR hx hl
  all_goals
    rw [hk] at x0
    go_enter Tryz.func26, Tryz.ntmps26
    have HH0 := hidMk (WC.of_kept (pr := pr) (v := v) (Kept.refl W))
    have HN0 := hidMk (show ([] : List ByteArray).length ≤ 0 from Nat.le_refl _)
    have HS0 := hidMk (show WS w0 W pr px pd x v (l ++ []) by rw [List.append_nil]; exact HS.out)
    obtain ⟨r0, hr0⟩ : ∃ r, foldW ms ds [117, 115] x = r := ⟨_, rfl⟩
    have HF0 := hidMk (show catW (some []) (catW r0 (foldW ms ds [99, 110, 104] x)) = R by rw [← hr0, ← foldW_app]; exact HF.out)
    have HM0 := hidMk (show ∀ m, r0 = some m → m.length ≤ 4 from fun m h => foldW_len _ m (hr0.trans h))
    have HC0 := hidMk (show ∀ o t y, o = .cells #[.pointer (some ⟨px, 1, none⟩), .pointer (some ⟨px, 2, none⟩)] t → Kept (W.alloc o) y → Calls Tryz.prog 50 #[.iface 83 (.pointer (some ⟨pr, 0, none⟩)), .slice (some ⟨W.heap.size, 0, none⟩) 2 2] y (WrPost w0 W pr px pd x v (l ++ []) r0) from fun o t y ho hy => by subst ho; rw [← hr0]; exact wr_nmA HS0.out HXO.out (by have h1 := HN0.out; have h2 := HL.out; rw [List.length_append]; omega) [117, 115] (by decide) (by simp [isNm]) t y hy)
    clear hr0 HF
    go_wp2_with fail
    refine wp_region_held_drew (S := (fun _ => True)) (by kernel_rfl) ?_ (fun hHeld => ?_)
    · trivial
    refine wpAnyH_take (i := 0) (oi := { dst := some 10, op := _, type := _, pos := _, after := _, guard := _ }) (v := ?_) rfl (by kernel_rfl) (by kernel_rfl) (by kernel_rfl) (fun _ _ _ h => h) (Or.inl ⟨by rfl, ?_⟩) (by assumption) ?_
    rotate_left
    · (intro w hSw; go_simp; (try with_reducible rfl))
    (try simp only [Act.put, List.setIfInBounds_toArray, List.set_cons_zero, List.set_cons_succ])
    refine wpAnyH_take (i := 1) (oi := { dst := some 11, op := _, type := _, pos := _, after := _, guard := _ }) (v := ?_) rfl (by kernel_rfl) (by kernel_rfl) (by kernel_rfl) (fun _ _ _ h => h) (Or.inl ⟨by rfl, ?_⟩) (by assumption) ?_
    rotate_left
    · (intro w hSw; go_simp; (try with_reducible rfl))
    (try simp only [Act.put, List.setIfInBounds_toArray, List.set_cons_zero, List.set_cons_succ])
    refine wpAnyH_take (i := 2) (oi := { dst := some 12, op := _, type := _, pos := _, after := _, guard := _ }) (v := ?_) rfl (by kernel_rfl) (by kernel_rfl) (by kernel_rfl) (fun _ _ _ h => h) (Or.inl ⟨by rfl, ?_⟩) (by assumption) ?_
    rotate_left
    · (intro w hSw; go_simp; (try with_reducible rfl))
    (try simp only [Act.put, List.setIfInBounds_toArray, List.set_cons_zero, List.set_cons_succ])
    refine wpAnyH_take (i := 3) (oi := { dst := some 13, op := _, type := _, pos := _, after := _, guard := _ }) (v := ?_) rfl (by kernel_rfl) (by kernel_rfl) (by kernel_rfl) (fun _ _ _ h => h) (Or.inl ⟨by rfl, ?_⟩) (by assumption) ?_
    rotate_left
    · (intro w hSw; go_simp; (try with_reducible rfl))
    (try simp only [Act.put, List.setIfInBounds_toArray, List.set_cons_zero, List.set_cons_succ])
    refine wpAnyH_take (i := 4) (oi := { dst := some 14, op := _, type := _, pos := _, after := _, guard := _ }) (v := ?_) rfl (by kernel_rfl) (by kernel_rfl) (by kernel_rfl) (fun _ _ _ h => h) (Or.inl ⟨by rfl, ?_⟩) (by assumption) ?_
    rotate_left
    · (intro w hSw; go_simp; (try with_reducible rfl))
    (try simp only [Act.put, List.setIfInBounds_toArray, List.set_cons_zero, List.set_cons_succ])
    refine wpAnyH_take (i := 5) (oi := { dst := some 15, op := _, type := _, pos := _, after := _, guard := _ }) (v := ?_) rfl (by kernel_rfl) (by kernel_rfl) (by kernel_rfl) (fun _ _ _ h => h) (Or.inl ⟨by rfl, ?_⟩) (by assumption) ?_
    rotate_left
    · (intro w hSw; go_simp; (try with_reducible rfl))
    (try simp only [Act.put, List.setIfInBounds_toArray, List.set_cons_zero, List.set_cons_succ])
    refine wpAnyH_take (i := 6) (oi := { dst := some 16, op := _, type := _, pos := _, after := _, guard := _ }) (v := ?_) rfl (by kernel_rfl) (by kernel_rfl) (by kernel_rfl) (fun _ _ _ h => h) (Or.inl ⟨by rfl, ?_⟩) (by assumption) ?_
    rotate_left
    · (intro w hSw; go_simp; (try with_reducible rfl))
    (try simp only [Act.put, List.setIfInBounds_toArray, List.set_cons_zero, List.set_cons_succ])
    refine wpAnyH_ready (rs := [7]) (by kernel_rfl) (by simp) ?_
    refine AllReadyH.cons (o := { dst := some 17, op := _, type := _, pos := _, after := _, guard := _ }) rfl (fun K hK => ?_) AllReadyH.nil
    go_simp
    refine hK.out _ _ ?_ (fun hHeld => ?_)
    · trivial
    clear hK K
    (try simp only [Act.put, List.setIfInBounds_toArray, List.set_cons_zero, List.set_cons_succ])
    refine wpAnyH_ready (rs := [8]) (by kernel_rfl) (by simp) ?_
    refine AllReadyH.cons (o := { dst := some 18, op := _, type := _, pos := _, after := _, guard := _ }) rfl (fun K hK => ?_) AllReadyH.nil
    go_simp
    (try (go_invoke; go_simp))
    refine (HC0.out _ _ _ rfl (by (repeat (first | (with_reducible exact Kept.refl _) | (with_reducible refine Kept.alloc ?_ _) | (with_reducible refine Kept.drew ?_) | (with_reducible refine Kept.drewN ?_ _))))).mono ?_
    rintro e w1 hp
    rcases r0 with _ | m0
    · obtain ⟨rfl, vq, hc⟩ := hp
      exact ⟨rfl, wr_fail ⟨_, HH0.out.trans hc⟩ HF0.out⟩
    obtain ⟨rfl, v1, hs, hc⟩ := hp
    have HS1 := hidMk (show WS w0 w1 pr px pd x v1 (l ++ ([] ++ m0)) by rw [← List.append_assoc]; exact hs)
    have HH1 := hidMk (HH0.out.trans hc)
    have HG1 := hidMk (show catW (some ([] ++ m0)) (foldW ms ds [99, 110, 104] x) = R from cat_more.symm.trans HF0.out)
    have HN1 := hidMk (show ([] ++ m0).length ≤ 4 by have h1 := HN0.out; have h2 := HM0.out m0 rfl; rw [List.length_append]; omega)
    clear hs hc HF0 HC0 HM0
    (try go_wp2_with fail)
    refine hK.out _ _ ?_ (fun hHeld => ?_)
    · trivial
    clear hK K
    (try simp only [Act.put, List.setIfInBounds_toArray, List.set_cons_zero, List.set_cons_succ])
    refine wpAnyH_done (by kernel_rfl) ?_ _
    obtain ⟨r1, hr1⟩ : ∃ r, oneW ms ds 99 x = r := ⟨_, rfl⟩
    have HF1 := hidMk (show catW (some ([] ++ m0)) (catW r1 (foldW ms ds [110, 104] x)) = R by rw [← hr1]; exact HG1.out)
    have HM1 := hidMk (show ∀ m, r1 = some m → m.length ≤ 2 from fun m h => oneW_len (hr1.trans h))
    have HC1 := hidMk (show ∀ y, Kept w1 y → Calls Tryz.prog 179 #[.pointer (some ⟨pr, 0, none⟩), .pointer (some ⟨px, 4, none⟩)] y (WrPost w0 w1 pr px pd x v1 (l ++ ([] ++ m0)) r1) from fun y hy => by rw [← hr1, oneW_cell]; exact wr_from hy (wr_cell HX.out (HS1.out.keep hy) (by have h1 := HN1.out; have h2 := HL.out; rw [List.length_append]; omega)))
    clear hr1 HG1
    go_wp2_with fail
    refine wp_region_held_drew (S := (fun _ => True)) (by kernel_rfl) ?_ (fun hHeld => ?_)
    · trivial
    refine wpAnyH_take (i := 0) (oi := { dst := some 19, op := _, type := _, pos := _, after := _, guard := _ }) (v := ?_) rfl (by kernel_rfl) (by kernel_rfl) (by kernel_rfl) (fun _ _ _ h => h) (Or.inl ⟨by rfl, ?_⟩) (by assumption) ?_
    rotate_left
    · (intro w hSw; go_simp; (try with_reducible rfl))
    (try simp only [Act.put, List.setIfInBounds_toArray, List.set_cons_zero, List.set_cons_succ])
    refine wpAnyH_take (i := 1) (oi := { dst := some 20, op := _, type := _, pos := _, after := _, guard := _ }) (v := ?_) rfl (by kernel_rfl) (by kernel_rfl) (by kernel_rfl) (fun _ _ _ h => h) (Or.inl ⟨by rfl, ?_⟩) (by assumption) ?_
    rotate_left
    · (intro w hSw; go_simp; (try with_reducible rfl))
    (try simp only [Act.put, List.setIfInBounds_toArray, List.set_cons_zero, List.set_cons_succ])
    refine wpAnyH_take (i := 2) (oi := { dst := some 21, op := _, type := _, pos := _, after := _, guard := _ }) (v := ?_) rfl (by kernel_rfl) (by kernel_rfl) (by kernel_rfl) (fun _ _ _ h => h) (Or.inl ⟨by rfl, ?_⟩) (by assumption) ?_
    rotate_left
    · (intro w hSw; go_simp; (try with_reducible rfl))
    (try simp only [Act.put, List.setIfInBounds_toArray, List.set_cons_zero, List.set_cons_succ])
    refine wpAnyH_take (i := 3) (oi := { dst := some 22, op := _, type := _, pos := _, after := _, guard := _ }) (v := ?_) rfl (by kernel_rfl) (by kernel_rfl) (by kernel_rfl) (fun _ _ _ h => h) (Or.inl ⟨by rfl, ?_⟩) (by assumption) ?_
    rotate_left
    · (intro w hSw; go_simp; (try with_reducible rfl))
    (try simp only [Act.put, List.setIfInBounds_toArray, List.set_cons_zero, List.set_cons_succ])
    refine wpAnyH_take (i := 4) (oi := { dst := some 23, op := _, type := _, pos := _, after := _, guard := _ }) (v := ?_) rfl (by kernel_rfl) (by kernel_rfl) (by kernel_rfl) (fun _ _ _ h => h) (Or.inl ⟨by rfl, ?_⟩) (by assumption) ?_
    rotate_left
    · (intro w hSw; go_simp; (try with_reducible rfl))
    (try simp only [Act.put, List.setIfInBounds_toArray, List.set_cons_zero, List.set_cons_succ])
    refine wpAnyH_take (i := 5) (oi := { dst := some 24, op := _, type := _, pos := _, after := _, guard := _ }) (v := ?_) rfl (by kernel_rfl) (by kernel_rfl) (by kernel_rfl) (fun _ _ _ h => h) (Or.inl ⟨by rfl, ?_⟩) (by assumption) ?_
    rotate_left
    · (intro w hSw; go_simp; (try with_reducible rfl))
    (try simp only [Act.put, List.setIfInBounds_toArray, List.set_cons_zero, List.set_cons_succ])
    refine wpAnyH_take (i := 6) (oi := { dst := some 25, op := _, type := _, pos := _, after := _, guard := _ }) (v := ?_) rfl (by kernel_rfl) (by kernel_rfl) (by kernel_rfl) (fun _ _ _ h => h) (Or.inl ⟨by rfl, ?_⟩) (by assumption) ?_
    rotate_left
    · (intro w hSw; go_simp; (try with_reducible rfl))
    (try simp only [Act.put, List.setIfInBounds_toArray, List.set_cons_zero, List.set_cons_succ])
    refine wpAnyH_ready (rs := [7]) (by kernel_rfl) (by simp) ?_
    refine AllReadyH.cons (o := { dst := some 26, op := _, type := _, pos := _, after := _, guard := _ }) rfl (fun K hK => ?_) AllReadyH.nil
    go_simp
    (try (go_invoke; go_simp))
    refine (HC1.out _ (by (repeat (first | (with_reducible exact Kept.refl _) | (with_reducible refine Kept.alloc ?_ _) | (with_reducible refine Kept.drew ?_) | (with_reducible refine Kept.drewN ?_ _))))).mono ?_
    rintro e w2 hp
    rcases r1 with _ | m1
    · obtain ⟨rfl, vq, hc⟩ := hp
      exact ⟨rfl, wr_fail ⟨_, HH1.out.trans hc⟩ HF1.out⟩
    obtain ⟨rfl, v2, hs, hc⟩ := hp
    have HS2 := hidMk (show WS w0 w2 pr px pd x v2 (l ++ (([] ++ m0) ++ m1)) by rw [← List.append_assoc]; exact hs)
    have HH2 := hidMk (HH1.out.trans hc)
    have HG2 := hidMk (show catW (some (([] ++ m0) ++ m1)) (foldW ms ds [110, 104] x) = R from cat_more.symm.trans HF1.out)
    have HN2 := hidMk (show (([] ++ m0) ++ m1).length ≤ 6 by have h1 := HN1.out; have h2 := HM1.out m1 rfl; rw [List.length_append]; omega)
    clear hs hc HF1 HC1 HM1
    (try go_wp2_with fail)
    refine hK.out _ _ ?_ (fun hHeld => ?_)
    · trivial
    clear hK K
    (try simp only [Act.put, List.setIfInBounds_toArray, List.set_cons_zero, List.set_cons_succ])
    refine wpAnyH_done (by kernel_rfl) ?_ _
    obtain ⟨r2, hr2⟩ : ∃ r, oneW ms ds 110 x = r := ⟨_, rfl⟩
    have HF2 := hidMk (show catW (some (([] ++ m0) ++ m1)) (catW r2 (foldW ms ds [104] x)) = R by rw [← hr2]; exact HG2.out)
    have HM2 := hidMk (show ∀ m, r2 = some m → m.length ≤ 2 from fun m h => oneW_len (hr2.trans h))
    have HC2 := hidMk (show ∀ y, Kept w2 y → Calls Tryz.prog 184 #[.pointer (some ⟨pr, 0, none⟩), .pointer (some ⟨px, 9, none⟩)] y (WrPost w0 w2 pr px pd x v2 (l ++ (([] ++ m0) ++ m1)) r2) from fun y hy => by rw [← hr2, oneW_num]; exact wr_from hy (wr_num (HS2.out.keep hy) HXO.out (by have h1 := HN2.out; have h2 := HL.out; rw [List.length_append]; omega)))
    clear hr2 HG2
    go_wp2_with fail
    refine wp_region_held_drew (S := (fun _ => True)) (by kernel_rfl) ?_ (fun hHeld => ?_)
    · trivial
    refine wpAnyH_take (i := 0) (oi := { dst := some 27, op := _, type := _, pos := _, after := _, guard := _ }) (v := ?_) rfl (by kernel_rfl) (by kernel_rfl) (by kernel_rfl) (fun _ _ _ h => h) (Or.inl ⟨by rfl, ?_⟩) (by assumption) ?_
    rotate_left
    · (intro w hSw; go_simp; (try with_reducible rfl))
    (try simp only [Act.put, List.setIfInBounds_toArray, List.set_cons_zero, List.set_cons_succ])
    refine wpAnyH_take (i := 1) (oi := { dst := some 28, op := _, type := _, pos := _, after := _, guard := _ }) (v := ?_) rfl (by kernel_rfl) (by kernel_rfl) (by kernel_rfl) (fun _ _ _ h => h) (Or.inl ⟨by rfl, ?_⟩) (by assumption) ?_
    rotate_left
    · (intro w hSw; go_simp; (try with_reducible rfl))
    (try simp only [Act.put, List.setIfInBounds_toArray, List.set_cons_zero, List.set_cons_succ])
    refine wpAnyH_take (i := 2) (oi := { dst := some 29, op := _, type := _, pos := _, after := _, guard := _ }) (v := ?_) rfl (by kernel_rfl) (by kernel_rfl) (by kernel_rfl) (fun _ _ _ h => h) (Or.inl ⟨by rfl, ?_⟩) (by assumption) ?_
    rotate_left
    · (intro w hSw; go_simp; (try with_reducible rfl))
    (try simp only [Act.put, List.setIfInBounds_toArray, List.set_cons_zero, List.set_cons_succ])
    refine wpAnyH_take (i := 3) (oi := { dst := some 30, op := _, type := _, pos := _, after := _, guard := _ }) (v := ?_) rfl (by kernel_rfl) (by kernel_rfl) (by kernel_rfl) (fun _ _ _ h => h) (Or.inl ⟨by rfl, ?_⟩) (by assumption) ?_
    rotate_left
    · (intro w hSw; go_simp; (try with_reducible rfl))
    (try simp only [Act.put, List.setIfInBounds_toArray, List.set_cons_zero, List.set_cons_succ])
    refine wpAnyH_take (i := 4) (oi := { dst := some 31, op := _, type := _, pos := _, after := _, guard := _ }) (v := ?_) rfl (by kernel_rfl) (by kernel_rfl) (by kernel_rfl) (fun _ _ _ h => h) (Or.inl ⟨by rfl, ?_⟩) (by assumption) ?_
    rotate_left
    · (intro w hSw; go_simp; (try with_reducible rfl))
    (try simp only [Act.put, List.setIfInBounds_toArray, List.set_cons_zero, List.set_cons_succ])
    refine wpAnyH_take (i := 5) (oi := { dst := some 32, op := _, type := _, pos := _, after := _, guard := _ }) (v := ?_) rfl (by kernel_rfl) (by kernel_rfl) (by kernel_rfl) (fun _ _ _ h => h) (Or.inl ⟨by rfl, ?_⟩) (by assumption) ?_
    rotate_left
    · (intro w hSw; go_simp; (try with_reducible rfl))
    (try simp only [Act.put, List.setIfInBounds_toArray, List.set_cons_zero, List.set_cons_succ])
    refine wpAnyH_take (i := 6) (oi := { dst := some 33, op := _, type := _, pos := _, after := _, guard := _ }) (v := ?_) rfl (by kernel_rfl) (by kernel_rfl) (by kernel_rfl) (fun _ _ _ h => h) (Or.inl ⟨by rfl, ?_⟩) (by assumption) ?_
    rotate_left
    · (intro w hSw; go_simp; (try with_reducible rfl))
    (try simp only [Act.put, List.setIfInBounds_toArray, List.set_cons_zero, List.set_cons_succ])
    refine wpAnyH_ready (rs := [7]) (by kernel_rfl) (by simp) ?_
    refine AllReadyH.cons (o := { dst := some 34, op := _, type := _, pos := _, after := _, guard := _ }) rfl (fun K hK => ?_) AllReadyH.nil
    go_simp
    (try (go_invoke; go_simp))
    refine (HC2.out _ (by (repeat (first | (with_reducible exact Kept.refl _) | (with_reducible refine Kept.alloc ?_ _) | (with_reducible refine Kept.drew ?_) | (with_reducible refine Kept.drewN ?_ _))))).mono ?_
    rintro e w3 hp
    rcases r2 with _ | m2
    · obtain ⟨rfl, vq, hc⟩ := hp
      exact ⟨rfl, wr_fail ⟨_, HH2.out.trans hc⟩ HF2.out⟩
    obtain ⟨rfl, v3, hs, hc⟩ := hp
    have HS3 := hidMk (show WS w0 w3 pr px pd x v3 (l ++ ((([] ++ m0) ++ m1) ++ m2)) by rw [← List.append_assoc]; exact hs)
    have HH3 := hidMk (HH2.out.trans hc)
    have HG3 := hidMk (show catW (some ((([] ++ m0) ++ m1) ++ m2)) (foldW ms ds [104] x) = R from cat_more.symm.trans HF2.out)
    have HN3 := hidMk (show ((([] ++ m0) ++ m1) ++ m2).length ≤ 8 by have h1 := HN2.out; have h2 := HM2.out m2 rfl; rw [List.length_append]; omega)
    clear hs hc HF2 HC2 HM2
    (try go_wp2_with fail)
    refine hK.out _ _ ?_ (fun hHeld => ?_)
    · trivial
    clear hK K
    (try simp only [Act.put, List.setIfInBounds_toArray, List.set_cons_zero, List.set_cons_succ])
    refine wpAnyH_done (by kernel_rfl) ?_ _
    obtain ⟨r3, hr3⟩ : ∃ r, chW spW x.h = r := ⟨_, rfl⟩
    have HF3 := hidMk (show catW (some ((([] ++ m0) ++ m1) ++ m2)) (catW r3 (catW (if x.h = 2 then pickW ms x.m else some []) (foldW ms ds [] x))) = R by have h : catW (some ((([] ++ m0) ++ m1) ++ m2)) (catW (oneW ms ds 104 x) (foldW ms ds [] x)) = R := HG3.out; rw [oneW_how, cat_assoc] at h; rw [← hr3]; exact h)
    have HM3 := hidMk (show ∀ m, r3 = some m → m.length ≤ 2 from fun m h => chW_len (hr3.trans h))
    have HC3 := hidMk (show ∀ o t y, o = .cells #[.string ⟨#[101, 113, 117, 97, 108]⟩, .string ⟨#[112, 114, 111, 112]⟩, .string ⟨#[119, 101, 105, 103, 104, 116]⟩] t → Kept (w3.alloc o) y → Calls Tryz.prog 180 #[.pointer (some ⟨pr, 0, none⟩), .pointer (some ⟨px, 10, none⟩), .slice (some ⟨w3.heap.size, 0, none⟩) 3 3] y (WrPost w0 w3 pr px pd x v3 (l ++ ((([] ++ m0) ++ m1) ++ m2)) r3) from fun o t y ho hy => by subst ho; rw [← hr3]; exact wr_chA HS3.out (by have h1 := HN3.out; have h2 := HL.out; rw [List.length_append]; omega) spW (by decide) (by decide) t y hy)
    clear hr3 HG3
    go_wp2_with fail
    refine wp_region_held_drew (S := (fun _ => True)) (by kernel_rfl) ?_ (fun hHeld => ?_)
    · trivial
    refine wpAnyH_take (i := 0) (oi := { dst := some 35, op := _, type := _, pos := _, after := _, guard := _ }) (v := ?_) rfl (by kernel_rfl) (by kernel_rfl) (by kernel_rfl) (fun _ _ _ h => h) (Or.inl ⟨by rfl, ?_⟩) (by assumption) ?_
    rotate_left
    · (intro w hSw; go_simp; (try with_reducible rfl))
    (try simp only [Act.put, List.setIfInBounds_toArray, List.set_cons_zero, List.set_cons_succ])
    refine wpAnyH_take (i := 1) (oi := { dst := some 36, op := _, type := _, pos := _, after := _, guard := _ }) (v := ?_) rfl (by kernel_rfl) (by kernel_rfl) (by kernel_rfl) (fun _ _ _ h => h) (Or.inl ⟨by rfl, ?_⟩) (by assumption) ?_
    rotate_left
    · (intro w hSw; go_simp; (try with_reducible rfl))
    (try simp only [Act.put, List.setIfInBounds_toArray, List.set_cons_zero, List.set_cons_succ])
    refine wpAnyH_take (i := 2) (oi := { dst := some 37, op := _, type := _, pos := _, after := _, guard := _ }) (v := ?_) rfl (by kernel_rfl) (by kernel_rfl) (by kernel_rfl) (fun _ _ _ h => h) (Or.inl ⟨by rfl, ?_⟩) (by assumption) ?_
    rotate_left
    · (intro w hSw; go_simp; (try with_reducible rfl))
    (try simp only [Act.put, List.setIfInBounds_toArray, List.set_cons_zero, List.set_cons_succ])
    refine wpAnyH_take (i := 3) (oi := { dst := some 38, op := _, type := _, pos := _, after := _, guard := _ }) (v := ?_) rfl (by kernel_rfl) (by kernel_rfl) (by kernel_rfl) (fun _ _ _ h => h) (Or.inl ⟨by rfl, ?_⟩) (by assumption) ?_
    rotate_left
    · (intro w hSw; go_simp; (try with_reducible rfl))
    (try simp only [Act.put, List.setIfInBounds_toArray, List.set_cons_zero, List.set_cons_succ])
    refine wpAnyH_take (i := 5) (oi := { dst := some 40, op := _, type := _, pos := _, after := _, guard := _ }) (v := ?_) rfl (by kernel_rfl) (by kernel_rfl) (by kernel_rfl) (fun _ _ _ h => h) (Or.inl ⟨by rfl, ?_⟩) (by assumption) ?_
    rotate_left
    · (intro w hSw; go_simp; (try with_reducible rfl))
    (try simp only [Act.put, List.setIfInBounds_toArray, List.set_cons_zero, List.set_cons_succ])
    refine wpAnyH_take (i := 6) (oi := { dst := some 41, op := _, type := _, pos := _, after := _, guard := _ }) (v := ?_) rfl (by kernel_rfl) (by kernel_rfl) (by kernel_rfl) (fun _ _ _ h => h) (Or.inl ⟨by rfl, ?_⟩) (by assumption) ?_
    rotate_left
    · (intro w hSw; go_simp; (try with_reducible rfl))
    (try simp only [Act.put, List.setIfInBounds_toArray, List.set_cons_zero, List.set_cons_succ])
    refine wpAnyH_take (i := 7) (oi := { dst := some 42, op := _, type := _, pos := _, after := _, guard := _ }) (v := ?_) rfl (by kernel_rfl) (by kernel_rfl) (by kernel_rfl) (fun _ _ _ h => h) (Or.inl ⟨by rfl, ?_⟩) (by assumption) ?_
    rotate_left
    · (intro w hSw; go_simp; (try with_reducible rfl))
    (try simp only [Act.put, List.setIfInBounds_toArray, List.set_cons_zero, List.set_cons_succ])
    refine wpAnyH_ready (rs := [4]) (by kernel_rfl) (by simp) ?_
    refine AllReadyH.cons (o := { dst := some 39, op := _, type := _, pos := _, after := _, guard := _ }) rfl (fun K hK => ?_) AllReadyH.nil
    go_simp
    refine hK.out _ _ ?_ (fun hHeld => ?_)
    · trivial
    clear hK K
    (try simp only [Act.put, List.setIfInBounds_toArray, List.set_cons_zero, List.set_cons_succ])
    refine wpAnyH_ready (rs := [8]) (by kernel_rfl) (by simp) ?_
    refine AllReadyH.cons (o := { dst := some 43, op := _, type := _, pos := _, after := _, guard := _ }) rfl (fun K hK => ?_) AllReadyH.nil
    go_simp
    (try (go_invoke; go_simp))
    refine (HC3.out _ _ _ rfl (by (repeat (first | (with_reducible exact Kept.refl _) | (with_reducible refine Kept.alloc ?_ _) | (with_reducible refine Kept.drew ?_) | (with_reducible refine Kept.drewN ?_ _))))).mono ?_
    rintro e w4 hp
    rcases r3 with _ | m3
    · obtain ⟨rfl, vq, hc⟩ := hp
      exact ⟨rfl, wr_fail ⟨_, HH3.out.trans hc⟩ HF3.out⟩
    obtain ⟨rfl, v4, hs, hc⟩ := hp
    have HS4 := hidMk (show WS w0 w4 pr px pd x v4 (l ++ (((([] ++ m0) ++ m1) ++ m2) ++ m3)) by rw [← List.append_assoc]; exact hs)
    have HH4 := hidMk (HH3.out.trans hc)
    have HG4 := hidMk (show catW (some (((([] ++ m0) ++ m1) ++ m2) ++ m3)) (catW (if x.h = 2 then pickW ms x.m else some []) (foldW ms ds [] x)) = R from cat_more.symm.trans HF3.out)
    have HN4 := hidMk (show (((([] ++ m0) ++ m1) ++ m2) ++ m3).length ≤ 10 by have h1 := HN3.out; have h2 := HM3.out m3 rfl; rw [List.length_append]; omega)
    clear hs hc HF3 HC3 HM3
    (try go_wp2_with fail)
    refine hK.out _ _ ?_ (fun hHeld => ?_)
    · trivial
    clear hK K
    (try simp only [Act.put, List.setIfInBounds_toArray, List.set_cons_zero, List.set_cons_succ])
    refine wpAnyH_done (by kernel_rfl) ?_ _
    have xh := HS4.out.x 10 _ rfl
    by_cases hw : x.h = 2
    · rw [hw] at xh
      rw [if_pos hw] at HG4
      obtain ⟨r4, hr4⟩ : ∃ r, pickW ms x.m = r := ⟨_, rfl⟩
      have HF4 := hidMk (show catW (some (((([] ++ m0) ++ m1) ++ m2) ++ m3)) (catW r4 (foldW ms ds [] x)) = R by rw [← hr4]; exact HG4.out)
      have HM4 := hidMk (show ∀ m, r4 = some m → m.length ≤ 2 from fun m h => pickW_len (hr4.trans h))
      have HC4 := hidMk (show ∀ y, Kept w4 y → Calls Tryz.prog 182 #[.pointer (some ⟨pr, 0, none⟩), .pointer (some ⟨px, 11, none⟩)] y (WrPost w0 w4 pr px pd x v4 (l ++ (((([] ++ m0) ++ m1) ++ m2) ++ m3)) r4) from fun y hy => by rw [← hr4]; exact wr_from hy (wr_meas HX.out (HS4.out.keep hy) (by have h1 := HN4.out; have h2 := HL.out; rw [List.length_append]; omega)))
      clear hr4 HG4
      go_wp2_with fail
      refine wp_region_held_drew (S := (fun _ => True)) (by kernel_rfl) ?_ (fun hHeld => ?_)
      · trivial
      refine wpAnyH_take (i := 0) (oi := { dst := some 49, op := _, type := _, pos := _, after := _, guard := _ }) (v := ?_) rfl (by kernel_rfl) (by kernel_rfl) (by kernel_rfl) (fun _ _ _ h => h) (Or.inl ⟨by rfl, ?_⟩) (by assumption) ?_
      rotate_left
      · (intro w hSw; go_simp; (try with_reducible rfl))
      (try simp only [Act.put, List.setIfInBounds_toArray, List.set_cons_zero, List.set_cons_succ])
      refine wpAnyH_take (i := 1) (oi := { dst := some 50, op := _, type := _, pos := _, after := _, guard := _ }) (v := ?_) rfl (by kernel_rfl) (by kernel_rfl) (by kernel_rfl) (fun _ _ _ h => h) (Or.inl ⟨by rfl, ?_⟩) (by assumption) ?_
      rotate_left
      · (intro w hSw; go_simp; (try with_reducible rfl))
      (try simp only [Act.put, List.setIfInBounds_toArray, List.set_cons_zero, List.set_cons_succ])
      refine wpAnyH_take (i := 2) (oi := { dst := some 51, op := _, type := _, pos := _, after := _, guard := _ }) (v := ?_) rfl (by kernel_rfl) (by kernel_rfl) (by kernel_rfl) (fun _ _ _ h => h) (Or.inl ⟨by rfl, ?_⟩) (by assumption) ?_
      rotate_left
      · (intro w hSw; go_simp; (try with_reducible rfl))
      (try simp only [Act.put, List.setIfInBounds_toArray, List.set_cons_zero, List.set_cons_succ])
      refine wpAnyH_take (i := 3) (oi := { dst := some 52, op := _, type := _, pos := _, after := _, guard := _ }) (v := ?_) rfl (by kernel_rfl) (by kernel_rfl) (by kernel_rfl) (fun _ _ _ h => h) (Or.inl ⟨by rfl, ?_⟩) (by assumption) ?_
      rotate_left
      · (intro w hSw; go_simp; (try with_reducible rfl))
      (try simp only [Act.put, List.setIfInBounds_toArray, List.set_cons_zero, List.set_cons_succ])
      refine wpAnyH_take (i := 4) (oi := { dst := some 53, op := _, type := _, pos := _, after := _, guard := _ }) (v := ?_) rfl (by kernel_rfl) (by kernel_rfl) (by kernel_rfl) (fun _ _ _ h => h) (Or.inl ⟨by rfl, ?_⟩) (by assumption) ?_
      rotate_left
      · (intro w hSw; go_simp; (try with_reducible rfl))
      (try simp only [Act.put, List.setIfInBounds_toArray, List.set_cons_zero, List.set_cons_succ])
      refine wpAnyH_take (i := 5) (oi := { dst := some 54, op := _, type := _, pos := _, after := _, guard := _ }) (v := ?_) rfl (by kernel_rfl) (by kernel_rfl) (by kernel_rfl) (fun _ _ _ h => h) (Or.inl ⟨by rfl, ?_⟩) (by assumption) ?_
      rotate_left
      · (intro w hSw; go_simp; (try with_reducible rfl))
      (try simp only [Act.put, List.setIfInBounds_toArray, List.set_cons_zero, List.set_cons_succ])
      refine wpAnyH_take (i := 6) (oi := { dst := some 55, op := _, type := _, pos := _, after := _, guard := _ }) (v := ?_) rfl (by kernel_rfl) (by kernel_rfl) (by kernel_rfl) (fun _ _ _ h => h) (Or.inl ⟨by rfl, ?_⟩) (by assumption) ?_
      rotate_left
      · (intro w hSw; go_simp; (try with_reducible rfl))
      (try simp only [Act.put, List.setIfInBounds_toArray, List.set_cons_zero, List.set_cons_succ])
      refine wpAnyH_ready (rs := [7]) (by kernel_rfl) (by simp) ?_
      refine AllReadyH.cons (o := { dst := some 56, op := _, type := _, pos := _, after := _, guard := _ }) rfl (fun K hK => ?_) AllReadyH.nil
      go_simp
      (try (go_invoke; go_simp))
      refine (HC4.out _ (by (repeat (first | (with_reducible exact Kept.refl _) | (with_reducible refine Kept.alloc ?_ _) | (with_reducible refine Kept.drew ?_) | (with_reducible refine Kept.drewN ?_ _))))).mono ?_
      rintro e w5 hp
      rcases r4 with _ | m4
      · obtain ⟨rfl, vq, hc⟩ := hp
        exact ⟨rfl, wr_fail ⟨_, HH4.out.trans hc⟩ HF4.out⟩
      obtain ⟨rfl, v5, hs, hc⟩ := hp
      have HS5 := hidMk (show WS w0 w5 pr px pd x v5 (l ++ ((((([] ++ m0) ++ m1) ++ m2) ++ m3) ++ m4)) by rw [← List.append_assoc]; exact hs)
      have HH5 := hidMk (HH4.out.trans hc)
      have HG5 := hidMk (show catW (some ((((([] ++ m0) ++ m1) ++ m2) ++ m3) ++ m4)) (foldW ms ds [] x) = R from cat_more.symm.trans HF4.out)
      have HN5 := hidMk (show ((((([] ++ m0) ++ m1) ++ m2) ++ m3) ++ m4).length ≤ 12 by have h1 := HN4.out; have h2 := HM4.out m4 rfl; rw [List.length_append]; omega)
      clear hs hc HF4 HC4 HM4
      (try go_wp2_with fail)
      refine hK.out _ _ ?_ (fun hHeld => ?_)
      · trivial
      clear hK K
      (try simp only [Act.put, List.setIfInBounds_toArray, List.set_cons_zero, List.set_cons_succ])
      refine wpAnyH_done (by kernel_rfl) ?_ _
      go_wp2_with fail
      (try go_end0)
      exact wr_done HS5.out HH5.out ((cat_end _).symm.trans HG5.out)
    · have hwb : (x.h == 2) = false := by simpa using hw
      have hwd : decide (x.h = 2) = false := by simpa using hw
      rw [if_neg hw] at HG4
      have HG9 := hidMk (show catW (some (((([] ++ m0) ++ m1) ++ m2) ++ m3)) (some []) = R from (cat_nil2 _).symm.trans HG4.out)
      go_wp2_with fail
      (try go_end0)
      exact wr_done HS4.out HH4.out ((cat_end _).symm.trans HG9.out)
end
end Go.Proofs.YtpehinmckppjoaaGreatDoor
