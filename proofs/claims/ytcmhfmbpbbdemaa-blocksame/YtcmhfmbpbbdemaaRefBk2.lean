/- The definition's file of blocks: Write, Copy. -/
import Derived.Test.YtcmhfmbpbbdemaaRefBk1
namespace Go.Proofs.Ytcmhfmbpbbdemaa
open Go.RowKit Go.Maps
set_option linter.unusedSimpArgs false
set_option linter.unusedVariables false

theorem Dt.set1 {w : World} {d : Nat} {F : List Int} (h : Dt w d F) (i : Nat) (x : Int) (hi : i < F.length) : Dt (w.setCell ⟨d, i, none⟩ (.int .u8 x)) d (F.set i x) := by
  refine .of (by simpa [World.setCell] using h.lt) (fun j hj => ?_) (fun j hj => by rw [World.frozen?_setCell]; exact h.fr j (by simpa using hj))
  rw [List.length_set] at hj
  rw [List.getD_eq_getElem?_getD, List.getElem?_set]
  by_cases e : i = j
  · subst e
    rw [if_pos rfl, if_pos hj]
    exact World.cell?_setCell_same _ _ _ (h.cell hj)
  · rw [if_neg e, ← List.getD_eq_getElem?_getD]
    exact (World.cell?_setCell_other _ _ _ _ (by simp <;> omega)).trans (h.cell hj)
section
variable {w W : World} {B r : Nat} {v : Value} {n : Nat} {gs cs : Nat → Nat} {R : Nat → List Int} {dk : Bool} {u y m : Int}
theorem Rf.put1 (h : Rf w B r v n gs cs R dk u y m) {k : Nat} (hk : k < n) (i : Nat) (x : Int) (hi : i < 32) : Rf (w.setCell ⟨gs k, i, none⟩ (.int .u8 x)) B r v n gs cs (upd R k ((R k).set i x)) dk u y m := by
  have g : Chg (fun j => j = gs k) w (w.setCell ⟨gs k, i, none⟩ (.int .u8 x)) := (Chg.refl _ _).own i _
  have hr : ¬ r = gs k := fun e => h.nr2 k hk e.symm
  have hl := (h.rb.row k hk).2.1
  refine ⟨(g.cell (p := ⟨r, 0, none⟩) h.lt hr).trans h.c0, (g.cell (p := ⟨r, 1, none⟩) h.lt hr).trans h.c1, (g.cell (p := ⟨r, 2, none⟩) h.lt hr).trans h.c2, (g.cell (p := ⟨r, 3, none⟩) h.lt hr).trans h.c3, (g.cell (p := ⟨r, 4, none⟩) h.lt hr).trans h.c4,
    fun i hi => (g.frozen (p := ⟨r, i, none⟩) h.lt hr).trans (h.fz i hi), Nat.lt_of_lt_of_le h.lt g.size, ⟨ownsRow_chgB h.rb.own g (fun j e e2 => h.rb.ap k hk (by rw [e, e2])), fun j hj => ?_, h.rb.ap, h.rb.ne⟩, h.br, h.nr1, h.nr2⟩
  by_cases e : j = k
  · subst e
    rw [upd_same]
    exact ⟨(h.rb.row j hj).1.set1 i x (by omega), by rw [List.length_set]; exact hl, (h.rb.row j hj).2.2⟩
  · rw [upd_other _ _ e]
    exact ⟨(h.rb.row j hj).1.chg g (fun e2 => e (h.rb.ne j k hj hk e2)), (h.rb.row j hj).2⟩
theorem set_whole {X O : List Int} {i : Nat} {x : Int} (hX : X.length = 32) (hO : O.length = 32) (hi : i < 32) (hx : x = X.getD i 0) : (X.take i ++ O.drop i).set i x = X.take (i + 1) ++ O.drop (i + 1) := by
  refine ext_getD (by simp; omega) fun j hj => ?_
  have hj32 : j < 32 := by simp at hj; omega
  rw [List.getD_eq_getElem?_getD, List.getElem?_set, List.getD_eq_getElem?_getD]
  by_cases e : i = j
  · subst e
    rw [if_pos rfl, if_pos (by simp; omega), List.getElem?_append_left (by simp; omega), List.getElem?_take_of_lt (by omega), hx, List.getD_eq_getElem?_getD]
    simp [hX, hi]
  · rw [if_neg e]
    by_cases e2 : j < i
    · rw [List.getElem?_append_left (by simp; omega), List.getElem?_append_left (by simp; omega), List.getElem?_take_of_lt e2, List.getElem?_take_of_lt (by omega)]
    · rw [List.getElem?_append_right (by simp; omega), List.getElem?_append_right (by simp; omega), List.getElem?_drop, List.getElem?_drop]
      congr 2
      simp
      omega
theorem whole_getD {l : List Int} {i : Nat} (hi : i < 32) : (whole l).getD i 0 = if i < l.length then l.getD i 0 else 0 := by
  unfold whole
  by_cases h : i < l.length
  · rw [if_pos h, List.getD_eq_getElem?_getD, List.getElem?_append_left h, ← List.getD_eq_getElem?_getD]
  · rw [if_neg h, List.getD_eq_getElem?_getD, List.getElem?_append_right (by omega), List.getElem?_replicate]
    split <;> rfl
/-- What the definition's Write answers where a block is reached and the bytes fit: M of them are written. -/
def WrP (w : World) (B r : Nat) (v : Value) (n : Nat) (gs cs : Nat → Nat) (R : Nat → List Int) (u y m : Int) (k : Nat) (l : List Int) (e : Ending) (w' : World) : Prop :=
  e = .returned (.int .i64 (if u = 0 then 21 else 0)) ∧ Rf w' B r v n gs cs (upd R k ((whole l).take (if u = 0 then y.toNat else 32) ++ (R k).drop (if u = 0 then y.toNat else 32))) (decide (u = 0)) (if 0 ≤ u then u - 1 else u) y (m + 1) ∧ Chg (RS r v n gs) w w'
set_option maxHeartbeats 8000000 in
set_option maxRecDepth 100000 in
theorem r23_Write (h : Rf w B r v n gs cs R false u y m) (hn2 : n ≤ 4096) (k : Nat) (hk : k < n) (hu : -1 ≤ u) (hu2 : u ≤ 9223372036854775807) (hy0 : 0 ≤ y) (hy1 : y ≤ 32) (hm0 : 0 ≤ m) (hm1 : m < 1000000) (a : Option Addr) (lm lc : Nat) (l : List Int) (hs : Sl .u8 w a lm l) (hl : lm ≤ 32) (hab : ∀ ad, a = some ad → 0 < lm → ad.block < B) :
    Calls Try.prog 14 #[.pointer (some ⟨r, 0, none⟩), .int .i64 k, .slice a lm lc] w (WrP w B r v n gs cs R u y m k l) := by
  obtain ⟨g, cap, hv, hg1, hg2, hcs⟩ := h.rb.cell (by omega)
  subst hv
  have H := hidMk h
  have HS := hidMk hs
  have hll := hs.len
  have HAB := hidMk hab
  have zk := hcs k hk
  have hne1 : gs k ≠ r := h.nr2 k hk
  have hne2 : gs k ≠ g := fun e => h.rb.ap k hk (by simp [Value.ownBlock, e])
  have hne3 : g ≠ r := fun e => h.nr1 (by simp [Value.ownBlock, e])
  obtain ⟨hdk, hRl, hBk⟩ := h.rb.row k hk
  have HRL := hidMk hRl
  have HWL := hidMk (whole_len (l := l) (by omega))
  have hk' : (k : Int) < (n : Int) := by omega
  have hdn : decide (n ≤ k) = false := by simp; omega
  have hl' : (lm : Int) ≤ 32 := by omega
  obtain ⟨c0, c1, c2, c3, c4, fz, hlt, _, hbr, _, _⟩ := h
  have f1 := fz 1 (by omega)
  have f2 := fz 2 (by omega)
  have f4 := fz 4 (by omega)
  obtain ⟨M, hM⟩ : ∃ M : Nat, M = if u = 0 then y.toNat else 32 := ⟨_, rfl⟩
  have HM := hidMk hM
  have hM32 : M ≤ 32 := by rw [hM]; split <;> omega
  have hwm : wrap64 (m + 1) = m + 1 := by unfold wrap64; omega
  obtain ⟨u', hu'⟩ : ∃ u', u' = if 0 ≤ u then u - 1 else u := ⟨_, rfl⟩
  have HU := hidMk hu'
  have HWP : Hid (∀ e w', (e = .returned (.int .i64 (if u = 0 then 21 else 0)) ∧ Rf w' B r (.slice (some ⟨g, 0, none⟩) n cap) n gs cs (upd R k ((whole l).take M ++ (R k).drop M)) (decide (u = 0)) u' y (m + 1) ∧ Chg (RS r (.slice (some ⟨g, 0, none⟩) n cap) n gs) w w') → WrP w B r (.slice (some ⟨g, 0, none⟩) n cap) n gs cs R u y m k l e w') := hidMk (fun e w' q => by unfold WrP; rw [← HM.out, ← HU.out]; exact q)
  refine Calls.mono (show Calls Try.prog 14 #[.pointer (some ⟨r, 0, none⟩), .int .i64 k, .slice a lm lc] w (fun e w' => e = .returned (.int .i64 (if u = 0 then 21 else 0)) ∧ Rf w' B r (.slice (some ⟨g, 0, none⟩) n cap) n gs cs (upd R k ((whole l).take M ++ (R k).drop M)) (decide (u = 0)) u' y (m + 1) ∧ Chg (RS r (.slice (some ⟨g, 0, none⟩) n cap) n gs) w w') from ?_) (fun e w' q => HWP.out e w' q)
  clear HWP fz hcs hdk hs hab
  obtain ⟨Y, rfl⟩ : ∃ Y : Nat, y = Y := ⟨y.toNat, by omega⟩
  have HUP := hidMk (show ∀ j, j < n → R j = upd R k ((whole l).take 0 ++ (R k).drop 0) j from fun j hj => by
    unfold upd
    split
    · rename_i e; rw [e]; simp
    · rfl)
  rcases (by omega : u = 0 ∨ 0 < u ∨ u = -1) with hu0 | hu0 | hu0
  · subst hu0
    obtain rfl : M = Y := by rw [hM]; simp
    rw [show u' = -1 by rw [hu']; rfl, if_pos rfl, show decide ((0 : Int) = 0) = true from rfl]
    have HF0 := hidMk ((((H.out.set4 (m + 1)).set1 true).set2 (-1)).imp HUP.out)
    have HC00 := hidMk ((((Chg.refl (RS r (.slice (some ⟨g, 0, none⟩) n cap) n gs) w).setCell (p := ⟨r, 4, none⟩) (.inl (.inl rfl)) (.int .i64 (m + 1))).setCell (p := ⟨r, 1, none⟩) (.inl (.inl rfl)) (.bool true)).setCell (p := ⟨r, 2, none⟩) (.inl (.inl rfl)) (.int .i64 (-1)))
    clear hu' HU hM HM
    go_enter Try.func14, Try.ntmps14
    go_wp2_with fail
    go_loopg [8] M (fun gg iv wr => ∃ i : Nat, i + gg = M ∧ iv = .int .i64 (i : Int) ∧ Hid (Rf wr B r (.slice (some ⟨g, 0, none⟩) n cap) n gs cs (upd R k ((whole l).take i ++ (R k).drop i)) true (-1) (M : Int) (m + 1)) ∧ Hid (Chg (RS r (.slice (some ⟨g, 0, none⟩) n cap) n gs) w wr))
    case atStart => exact ⟨0, by omega, rfl, HF0, HC00⟩
    case round =>
      obtain ⟨i, hig, rfl, HF, HC⟩ := hrel
      have HKG := hidMk hig
      by_cases hi : i < M
      · have hi' : (i : Int) < (M : Int) := by omega
        have hi32 : i < 32 := by omega
        have hi32' : (i : Int) < 32 := by omega
        have zr := HF.out.c0
        obtain ⟨g2, cap2, ev, _, _, hc2⟩ := HF.out.rb.cell (by omega)
        cases ev
        have zg := hc2 k hk
        obtain ⟨hd2, hl2, _⟩ := HF.out.rb.row k hk
        have zd := hd2.cell (i := i) (by omega)
        have zf := hd2.fr i (by omega)
        generalize (upd R k ((whole l).take i ++ (R k).drop i) k).getD i 0 = old at zd
        have HCS := hidMk (show ∀ x, Chg (RS r (.slice (some ⟨g, 0, none⟩) n cap) n gs) w (wr.setCell ⟨gs k, i, none⟩ x) from fun x => HC.out.setCell (p := ⟨gs k, i, none⟩) (.inl (.inr (.inr ⟨k, hk, rfl⟩))) x)
        have HN1 := hidMk (show (⟨gs k, i, none⟩ : Addr) ≠ ⟨r, 0, none⟩ from fun e => hne1 (by injection e))
        have HN2 := hidMk (show (⟨gs k, i, none⟩ : Addr) ≠ ⟨g, k, none⟩ from fun e => hne2 (by injection e))
        clear hc2 hd2 hl2 hig
        by_cases hil : i < lm
        · have hil' : (i : Int) < (lm : Int) := by omega
          obtain ⟨ab, ao, rfl, hab2, hcells⟩ := HS.out.cells (by omega)
          have hab3 : ab < B := HAB.out _ rfl (by omega)
          have HNS := hidMk (show ¬ RS r (.slice (some ⟨g, 0, none⟩) n cap) n gs ab from fun e => by
            rcases e with e | e | ⟨j, hj, e⟩
            · omega
            · have := (H.out.rb.olt _ e).1; omega
            · have := (H.out.rb.row j hj).2.2; omega)
          have zb : wr.cell? ⟨ab, ao + i, none⟩ = some (.int .u8 (l.getD i 0)) := (HC.out.cell (p := ⟨ab, ao + i, none⟩) hab2 HNS.out).trans (hcells i hil)
          have HN3 := hidMk (show (⟨gs k, i, none⟩ : Addr) ≠ ⟨ab, ao + i, none⟩ from fun e => by injection e; omega)
          have HC2 := hidMk (show (wr.setCell ⟨gs k, i, none⟩ (.int .u8 0)).drew.cell? ⟨gs k, i, none⟩ = some (.int .u8 0) from World.cell?_setCell_same _ _ _ zd)
          have HC3 := hidMk (show (wr.setCell ⟨gs k, i, none⟩ (.int .u8 0)).drew.frozen? ⟨gs k, i, none⟩ = false from by show (wr.setCell ⟨gs k, i, none⟩ (.int .u8 0)).frozen? ⟨gs k, i, none⟩ = false; rw [World.frozen?_setCell]; exact zf)
          have HX := hidMk (show l.getD i 0 = (whole l).getD i 0 by rw [whole_getD hi32, if_pos (by omega)])
          clear hcells
          generalize l.getD i 0 = xb at *
          go_wp2_with fail
          refine wp_region_held_drew (S := (fun w9 => w9.cell? ⟨r, 0, none⟩ = some (.slice (some ⟨g, 0, none⟩) n cap) ∧ w9.cell? ⟨g, k, none⟩ = some (.slice (some ⟨gs k, 0, none⟩) 32 (cs k)) ∧ w9.cell? ⟨ab, ao + i, none⟩ = some (.int .u8 xb))) (by kernel_rfl) ?_ (fun hHeld => ?_)
          · exact ⟨so zr HN1.out, so zg HN2.out, so zb HN3.out⟩
          refine wpAnyH_take (i := 0) (oi := { dst := some 78, op := _, type := _, pos := _, after := _, guard := _ }) (v := ?_) rfl (by kernel_rfl) (by kernel_rfl) (by kernel_rfl) (fun _ _ _ h => h) (Or.inl ⟨by rfl, ?_⟩) (by assumption) ?_
          rotate_left
          · (intro w9 hSw; (try dsimp only at hSw); (try obtain ⟨hSw1, hSw2, hSw3⟩ := hSw); go_simp; (try with_reducible rfl))
          (try simp only [Act.put, List.setIfInBounds_toArray, List.set_cons_zero, List.set_cons_succ])
          refine wpAnyH_take (i := 1) (oi := { dst := some 79, op := _, type := _, pos := _, after := _, guard := _ }) (v := ?_) rfl (by kernel_rfl) (by kernel_rfl) (by kernel_rfl) (fun _ _ _ h => h) (Or.inl ⟨by rfl, ?_⟩) (by assumption) ?_
          rotate_left
          · (intro w9 hSw; (try dsimp only at hSw); (try obtain ⟨hSw1, hSw2, hSw3⟩ := hSw); go_simp; (try with_reducible rfl))
          (try simp only [Act.put, List.setIfInBounds_toArray, List.set_cons_zero, List.set_cons_succ])
          refine wpAnyH_take (i := 2) (oi := { dst := some 80, op := _, type := _, pos := _, after := _, guard := _ }) (v := ?_) rfl (by kernel_rfl) (by kernel_rfl) (by kernel_rfl) (fun _ _ _ h => h) (Or.inl ⟨by rfl, ?_⟩) (by assumption) ?_
          rotate_left
          · (intro w9 hSw; (try dsimp only at hSw); (try obtain ⟨hSw1, hSw2, hSw3⟩ := hSw); go_simp; (try with_reducible rfl))
          (try simp only [Act.put, List.setIfInBounds_toArray, List.set_cons_zero, List.set_cons_succ])
          refine wpAnyH_take (i := 3) (oi := { dst := some 81, op := _, type := _, pos := _, after := _, guard := _ }) (v := ?_) rfl (by kernel_rfl) (by kernel_rfl) (by kernel_rfl) (fun _ _ _ h => h) (Or.inl ⟨by rfl, ?_⟩) (by assumption) ?_
          rotate_left
          · (intro w9 hSw; (try dsimp only at hSw); (try obtain ⟨hSw1, hSw2, hSw3⟩ := hSw); go_simp; (try with_reducible rfl))
          (try simp only [Act.put, List.setIfInBounds_toArray, List.set_cons_zero, List.set_cons_succ])
          refine wpAnyH_take (i := 4) (oi := { dst := some 82, op := _, type := _, pos := _, after := _, guard := _ }) (v := ?_) rfl (by kernel_rfl) (by kernel_rfl) (by kernel_rfl) (fun _ _ _ h => h) (Or.inl ⟨by rfl, ?_⟩) (by assumption) ?_
          rotate_left
          · (intro w9 hSw; (try dsimp only at hSw); (try obtain ⟨hSw1, hSw2, hSw3⟩ := hSw); go_simp; (try with_reducible rfl))
          (try simp only [Act.put, List.setIfInBounds_toArray, List.set_cons_zero, List.set_cons_succ])
          refine wpAnyH_take (i := 5) (oi := { dst := some 83, op := _, type := _, pos := _, after := _, guard := _ }) (v := ?_) rfl (by kernel_rfl) (by kernel_rfl) (by kernel_rfl) (fun _ _ _ h => h) (Or.inl ⟨by rfl, ?_⟩) (by assumption) ?_
          rotate_left
          · (intro w9 hSw; (try dsimp only at hSw); (try obtain ⟨hSw1, hSw2, hSw3⟩ := hSw); go_simp; (try with_reducible rfl))
          (try simp only [Act.put, List.setIfInBounds_toArray, List.set_cons_zero, List.set_cons_succ])
          refine wpAnyH_take (i := 6) (oi := { dst := some 84, op := _, type := _, pos := _, after := _, guard := _ }) (v := ?_) rfl (by kernel_rfl) (by kernel_rfl) (by kernel_rfl) (fun _ _ _ h => h) (Or.inl ⟨by rfl, ?_⟩) (by assumption) ?_
          rotate_left
          · (intro w9 hSw; (try dsimp only at hSw); (try obtain ⟨hSw1, hSw2, hSw3⟩ := hSw); go_simp; (try with_reducible rfl))
          (try simp only [Act.put, List.setIfInBounds_toArray, List.set_cons_zero, List.set_cons_succ])
          refine wpAnyH_take (i := 7) (oi := { dst := some 85, op := _, type := _, pos := _, after := _, guard := _ }) (v := ?_) rfl (by kernel_rfl) (by kernel_rfl) (by kernel_rfl) (fun _ _ _ h => h) (Or.inl ⟨by rfl, ?_⟩) (by assumption) ?_
          rotate_left
          · (intro w9 hSw; (try dsimp only at hSw); (try obtain ⟨hSw1, hSw2, hSw3⟩ := hSw); go_simp; (try with_reducible rfl))
          (try simp only [Act.put, List.setIfInBounds_toArray, List.set_cons_zero, List.set_cons_succ])
          refine wpAnyH_take (i := 8) (oi := { dst := some 86, op := _, type := _, pos := _, after := _, guard := _ }) (v := ?_) rfl (by kernel_rfl) (by kernel_rfl) (by kernel_rfl) (fun _ _ _ h => h) (Or.inl ⟨by rfl, ?_⟩) (by assumption) ?_
          rotate_left
          · (intro w9 hSw; (try dsimp only at hSw); (try obtain ⟨hSw1, hSw2, hSw3⟩ := hSw); go_simp; (try with_reducible rfl))
          (try simp only [Act.put, List.setIfInBounds_toArray, List.set_cons_zero, List.set_cons_succ])
          refine wpAnyH_take (i := 9) (oi := { dst := some 87, op := _, type := _, pos := _, after := _, guard := _ }) (v := ?_) rfl (by kernel_rfl) (by kernel_rfl) (by kernel_rfl) (fun _ _ _ h => h) (Or.inl ⟨by rfl, ?_⟩) (by assumption) ?_
          rotate_left
          · (intro w9 hSw; (try dsimp only at hSw); (try obtain ⟨hSw1, hSw2, hSw3⟩ := hSw); go_simp; (try with_reducible rfl))
          (try simp only [Act.put, List.setIfInBounds_toArray, List.set_cons_zero, List.set_cons_succ])
          refine wpAnyH_take (i := 10) (oi := { dst := some 88, op := _, type := _, pos := _, after := _, guard := _ }) (v := ?_) rfl (by kernel_rfl) (by kernel_rfl) (by kernel_rfl) (fun _ _ _ h => h) (Or.inl ⟨by rfl, ?_⟩) (by assumption) ?_
          rotate_left
          · (intro w9 hSw; (try dsimp only at hSw); (try obtain ⟨hSw1, hSw2, hSw3⟩ := hSw); go_simp; (try with_reducible rfl))
          (try simp only [Act.put, List.setIfInBounds_toArray, List.set_cons_zero, List.set_cons_succ])
          refine wpAnyH_take (i := 11) (oi := { dst := some 89, op := _, type := _, pos := _, after := _, guard := _ }) (v := ?_) rfl (by kernel_rfl) (by kernel_rfl) (by kernel_rfl) (fun _ _ _ h => h) (Or.inl ⟨by rfl, ?_⟩) (by assumption) ?_
          rotate_left
          · (intro w9 hSw; (try dsimp only at hSw); (try obtain ⟨hSw1, hSw2, hSw3⟩ := hSw); go_simp; (try with_reducible rfl))
          (try simp only [Act.put, List.setIfInBounds_toArray, List.set_cons_zero, List.set_cons_succ])
          refine wpAnyH_take (i := 12) (oi := { dst := some 90, op := _, type := _, pos := _, after := _, guard := _ }) (v := ?_) rfl (by kernel_rfl) (by kernel_rfl) (by kernel_rfl) (fun _ _ _ h => h) (Or.inl ⟨by rfl, ?_⟩) (by assumption) ?_
          rotate_left
          · (intro w9 hSw; (try dsimp only at hSw); (try obtain ⟨hSw1, hSw2, hSw3⟩ := hSw); go_simp; (try with_reducible rfl))
          (try simp only [Act.put, List.setIfInBounds_toArray, List.set_cons_zero, List.set_cons_succ])
          refine wpAnyH_ready (rs := [13]) (by kernel_rfl) (by simp) ?_
          refine AllReadyH.cons (o := { dst := none, op := _, type := _, pos := _, after := _, guard := _ }) rfl (fun K hK => ?_) AllReadyH.nil
          have y1 := HC2.out
          have y2 := HC3.out
          go_simp
          clear y1 y2
          refine hK.out _ _ ?_ (fun hHeld => ?_)
          · exact ⟨so (so zr HN1.out) HN1.out, so (so zg HN2.out) HN2.out, so (so zb HN3.out) HN3.out⟩
          clear hK K
          (try simp only [Act.put, List.setIfInBounds_toArray, List.set_cons_zero, List.set_cons_succ])
          refine wpAnyH_done (by kernel_rfl) ?_ _
          go_wp2_with fail
          go_roundg (gk - 1)
          case measure => have := HKG.out; omega
          case rel =>
            refine ⟨i + 1, by have := HKG.out; omega, by go_num, hidMk ?_, hidMk ((HCS.out _).drew.setCell (p := ⟨gs k, i, none⟩) (.inl (.inr (.inr ⟨k, hk, rfl⟩))) _)⟩
            refine (((HF.out.put1 hk i 0 hi32).drew).put1 hk i xb hi32).imp (fun j hj => ?_)
            by_cases e : j = k
            · subst e
              rw [upd_same, upd_same, upd_same, upd_same, List.set_set]
              exact set_whole HWL.out HRL.out hi32 HX.out
            · rw [upd_other _ _ e, upd_other _ _ e, upd_other _ _ e, upd_other _ _ e]
        · have hil' : (lm : Int) ≤ (i : Int) := by omega
          have HX := hidMk (show (0 : Int) = (whole l).getD i 0 by rw [whole_getD hi32, if_neg (by omega)])
          go_wp2_with fail
          go_roundg (gk - 1)
          case measure => have := HKG.out; omega
          case rel =>
            refine ⟨i + 1, by have := HKG.out; omega, by go_num, hidMk ?_, hidMk (HCS.out _)⟩
            refine (HF.out.put1 hk i 0 hi32).imp (fun j hj => ?_)
            by_cases e : j = k
            · subst e
              rw [upd_same, upd_same, upd_same]
              exact set_whole HWL.out HRL.out hi32 HX.out
            · rw [upd_other _ _ e, upd_other _ _ e, upd_other _ _ e]
      · have hiM : i = M := by omega
        have q1 := HF.out.c1
        have hiM' : ¬ ((i : Int) < (M : Int)) := by omega
        have hiM2 : (M : Int) ≤ (i : Int) := by omega
        subst hiM
        go_wp2_with fail
        go_ret
        exact ⟨rfl, HF.out, HC.out⟩
  · have hu1 : ¬ u = 0 := by omega
    have hu1' : (u == 0) = false := by simpa using hu1
    have hu2' : 0 ≤ u := by omega
    obtain rfl : M = 32 := by rw [hM, if_neg hu1]
    have hwu : wrap64 (u - 1) = u - 1 := by unfold wrap64; omega
    rw [show u' = u - 1 by rw [hu', if_pos hu2'], if_neg hu1, show decide (u = 0) = false from decide_eq_false hu1]
    have HF0 := hidMk (((H.out.set4 (m + 1)).set2 (u - 1)).imp HUP.out)
    have HC00 := hidMk (((Chg.refl (RS r (.slice (some ⟨g, 0, none⟩) n cap) n gs) w).setCell (p := ⟨r, 4, none⟩) (.inl (.inl rfl)) (.int .i64 (m + 1))).setCell (p := ⟨r, 2, none⟩) (.inl (.inl rfl)) (.int .i64 (u - 1)))
    clear hu' HU hM HM hu1
    go_enter Try.func14, Try.ntmps14
    go_wp2_with fail
    go_loopg [8] 32 (fun gg iv wr => ∃ i : Nat, i + gg = 32 ∧ iv = .int .i64 (i : Int) ∧ Hid (Rf wr B r (.slice (some ⟨g, 0, none⟩) n cap) n gs cs (upd R k ((whole l).take i ++ (R k).drop i)) false (u - 1) (Y : Int) (m + 1)) ∧ Hid (Chg (RS r (.slice (some ⟨g, 0, none⟩) n cap) n gs) w wr))
    case atStart => exact ⟨0, by omega, rfl, HF0, HC00⟩
    case round =>
      obtain ⟨i, hig, rfl, HF, HC⟩ := hrel
      have HKG := hidMk hig
      by_cases hi : i < 32
      · have hi' : (i : Int) < (32 : Int) := by omega
        have hi32 : i < 32 := by omega
        have hi32' : (i : Int) < 32 := by omega
        have zr := HF.out.c0
        obtain ⟨g2, cap2, ev, _, _, hc2⟩ := HF.out.rb.cell (by omega)
        cases ev
        have zg := hc2 k hk
        obtain ⟨hd2, hl2, _⟩ := HF.out.rb.row k hk
        have zd := hd2.cell (i := i) (by omega)
        have zf := hd2.fr i (by omega)
        generalize (upd R k ((whole l).take i ++ (R k).drop i) k).getD i 0 = old at zd
        have HCS := hidMk (show ∀ x, Chg (RS r (.slice (some ⟨g, 0, none⟩) n cap) n gs) w (wr.setCell ⟨gs k, i, none⟩ x) from fun x => HC.out.setCell (p := ⟨gs k, i, none⟩) (.inl (.inr (.inr ⟨k, hk, rfl⟩))) x)
        have HN1 := hidMk (show (⟨gs k, i, none⟩ : Addr) ≠ ⟨r, 0, none⟩ from fun e => hne1 (by injection e))
        have HN2 := hidMk (show (⟨gs k, i, none⟩ : Addr) ≠ ⟨g, k, none⟩ from fun e => hne2 (by injection e))
        clear hc2 hd2 hl2 hig
        by_cases hil : i < lm
        · have hil' : (i : Int) < (lm : Int) := by omega
          obtain ⟨ab, ao, rfl, hab2, hcells⟩ := HS.out.cells (by omega)
          have hab3 : ab < B := HAB.out _ rfl (by omega)
          have HNS := hidMk (show ¬ RS r (.slice (some ⟨g, 0, none⟩) n cap) n gs ab from fun e => by
            rcases e with e | e | ⟨j, hj, e⟩
            · omega
            · have := (H.out.rb.olt _ e).1; omega
            · have := (H.out.rb.row j hj).2.2; omega)
          have zb : wr.cell? ⟨ab, ao + i, none⟩ = some (.int .u8 (l.getD i 0)) := (HC.out.cell (p := ⟨ab, ao + i, none⟩) hab2 HNS.out).trans (hcells i hil)
          have HN3 := hidMk (show (⟨gs k, i, none⟩ : Addr) ≠ ⟨ab, ao + i, none⟩ from fun e => by injection e; omega)
          have HC2 := hidMk (show (wr.setCell ⟨gs k, i, none⟩ (.int .u8 0)).drew.cell? ⟨gs k, i, none⟩ = some (.int .u8 0) from World.cell?_setCell_same _ _ _ zd)
          have HC3 := hidMk (show (wr.setCell ⟨gs k, i, none⟩ (.int .u8 0)).drew.frozen? ⟨gs k, i, none⟩ = false from by show (wr.setCell ⟨gs k, i, none⟩ (.int .u8 0)).frozen? ⟨gs k, i, none⟩ = false; rw [World.frozen?_setCell]; exact zf)
          have HX := hidMk (show l.getD i 0 = (whole l).getD i 0 by rw [whole_getD hi32, if_pos (by omega)])
          clear hcells
          generalize l.getD i 0 = xb at *
          go_wp2_with fail
          refine wp_region_held_drew (S := (fun w9 => w9.cell? ⟨r, 0, none⟩ = some (.slice (some ⟨g, 0, none⟩) n cap) ∧ w9.cell? ⟨g, k, none⟩ = some (.slice (some ⟨gs k, 0, none⟩) 32 (cs k)) ∧ w9.cell? ⟨ab, ao + i, none⟩ = some (.int .u8 xb))) (by kernel_rfl) ?_ (fun hHeld => ?_)
          · exact ⟨so zr HN1.out, so zg HN2.out, so zb HN3.out⟩
          refine wpAnyH_take (i := 0) (oi := { dst := some 78, op := _, type := _, pos := _, after := _, guard := _ }) (v := ?_) rfl (by kernel_rfl) (by kernel_rfl) (by kernel_rfl) (fun _ _ _ h => h) (Or.inl ⟨by rfl, ?_⟩) (by assumption) ?_
          rotate_left
          · (intro w9 hSw; (try dsimp only at hSw); (try obtain ⟨hSw1, hSw2, hSw3⟩ := hSw); go_simp; (try with_reducible rfl))
          (try simp only [Act.put, List.setIfInBounds_toArray, List.set_cons_zero, List.set_cons_succ])
          refine wpAnyH_take (i := 1) (oi := { dst := some 79, op := _, type := _, pos := _, after := _, guard := _ }) (v := ?_) rfl (by kernel_rfl) (by kernel_rfl) (by kernel_rfl) (fun _ _ _ h => h) (Or.inl ⟨by rfl, ?_⟩) (by assumption) ?_
          rotate_left
          · (intro w9 hSw; (try dsimp only at hSw); (try obtain ⟨hSw1, hSw2, hSw3⟩ := hSw); go_simp; (try with_reducible rfl))
          (try simp only [Act.put, List.setIfInBounds_toArray, List.set_cons_zero, List.set_cons_succ])
          refine wpAnyH_take (i := 2) (oi := { dst := some 80, op := _, type := _, pos := _, after := _, guard := _ }) (v := ?_) rfl (by kernel_rfl) (by kernel_rfl) (by kernel_rfl) (fun _ _ _ h => h) (Or.inl ⟨by rfl, ?_⟩) (by assumption) ?_
          rotate_left
          · (intro w9 hSw; (try dsimp only at hSw); (try obtain ⟨hSw1, hSw2, hSw3⟩ := hSw); go_simp; (try with_reducible rfl))
          (try simp only [Act.put, List.setIfInBounds_toArray, List.set_cons_zero, List.set_cons_succ])
          refine wpAnyH_take (i := 3) (oi := { dst := some 81, op := _, type := _, pos := _, after := _, guard := _ }) (v := ?_) rfl (by kernel_rfl) (by kernel_rfl) (by kernel_rfl) (fun _ _ _ h => h) (Or.inl ⟨by rfl, ?_⟩) (by assumption) ?_
          rotate_left
          · (intro w9 hSw; (try dsimp only at hSw); (try obtain ⟨hSw1, hSw2, hSw3⟩ := hSw); go_simp; (try with_reducible rfl))
          (try simp only [Act.put, List.setIfInBounds_toArray, List.set_cons_zero, List.set_cons_succ])
          refine wpAnyH_take (i := 4) (oi := { dst := some 82, op := _, type := _, pos := _, after := _, guard := _ }) (v := ?_) rfl (by kernel_rfl) (by kernel_rfl) (by kernel_rfl) (fun _ _ _ h => h) (Or.inl ⟨by rfl, ?_⟩) (by assumption) ?_
          rotate_left
          · (intro w9 hSw; (try dsimp only at hSw); (try obtain ⟨hSw1, hSw2, hSw3⟩ := hSw); go_simp; (try with_reducible rfl))
          (try simp only [Act.put, List.setIfInBounds_toArray, List.set_cons_zero, List.set_cons_succ])
          refine wpAnyH_take (i := 5) (oi := { dst := some 83, op := _, type := _, pos := _, after := _, guard := _ }) (v := ?_) rfl (by kernel_rfl) (by kernel_rfl) (by kernel_rfl) (fun _ _ _ h => h) (Or.inl ⟨by rfl, ?_⟩) (by assumption) ?_
          rotate_left
          · (intro w9 hSw; (try dsimp only at hSw); (try obtain ⟨hSw1, hSw2, hSw3⟩ := hSw); go_simp; (try with_reducible rfl))
          (try simp only [Act.put, List.setIfInBounds_toArray, List.set_cons_zero, List.set_cons_succ])
          refine wpAnyH_take (i := 6) (oi := { dst := some 84, op := _, type := _, pos := _, after := _, guard := _ }) (v := ?_) rfl (by kernel_rfl) (by kernel_rfl) (by kernel_rfl) (fun _ _ _ h => h) (Or.inl ⟨by rfl, ?_⟩) (by assumption) ?_
          rotate_left
          · (intro w9 hSw; (try dsimp only at hSw); (try obtain ⟨hSw1, hSw2, hSw3⟩ := hSw); go_simp; (try with_reducible rfl))
          (try simp only [Act.put, List.setIfInBounds_toArray, List.set_cons_zero, List.set_cons_succ])
          refine wpAnyH_take (i := 7) (oi := { dst := some 85, op := _, type := _, pos := _, after := _, guard := _ }) (v := ?_) rfl (by kernel_rfl) (by kernel_rfl) (by kernel_rfl) (fun _ _ _ h => h) (Or.inl ⟨by rfl, ?_⟩) (by assumption) ?_
          rotate_left
          · (intro w9 hSw; (try dsimp only at hSw); (try obtain ⟨hSw1, hSw2, hSw3⟩ := hSw); go_simp; (try with_reducible rfl))
          (try simp only [Act.put, List.setIfInBounds_toArray, List.set_cons_zero, List.set_cons_succ])
          refine wpAnyH_take (i := 8) (oi := { dst := some 86, op := _, type := _, pos := _, after := _, guard := _ }) (v := ?_) rfl (by kernel_rfl) (by kernel_rfl) (by kernel_rfl) (fun _ _ _ h => h) (Or.inl ⟨by rfl, ?_⟩) (by assumption) ?_
          rotate_left
          · (intro w9 hSw; (try dsimp only at hSw); (try obtain ⟨hSw1, hSw2, hSw3⟩ := hSw); go_simp; (try with_reducible rfl))
          (try simp only [Act.put, List.setIfInBounds_toArray, List.set_cons_zero, List.set_cons_succ])
          refine wpAnyH_take (i := 9) (oi := { dst := some 87, op := _, type := _, pos := _, after := _, guard := _ }) (v := ?_) rfl (by kernel_rfl) (by kernel_rfl) (by kernel_rfl) (fun _ _ _ h => h) (Or.inl ⟨by rfl, ?_⟩) (by assumption) ?_
          rotate_left
          · (intro w9 hSw; (try dsimp only at hSw); (try obtain ⟨hSw1, hSw2, hSw3⟩ := hSw); go_simp; (try with_reducible rfl))
          (try simp only [Act.put, List.setIfInBounds_toArray, List.set_cons_zero, List.set_cons_succ])
          refine wpAnyH_take (i := 10) (oi := { dst := some 88, op := _, type := _, pos := _, after := _, guard := _ }) (v := ?_) rfl (by kernel_rfl) (by kernel_rfl) (by kernel_rfl) (fun _ _ _ h => h) (Or.inl ⟨by rfl, ?_⟩) (by assumption) ?_
          rotate_left
          · (intro w9 hSw; (try dsimp only at hSw); (try obtain ⟨hSw1, hSw2, hSw3⟩ := hSw); go_simp; (try with_reducible rfl))
          (try simp only [Act.put, List.setIfInBounds_toArray, List.set_cons_zero, List.set_cons_succ])
          refine wpAnyH_take (i := 11) (oi := { dst := some 89, op := _, type := _, pos := _, after := _, guard := _ }) (v := ?_) rfl (by kernel_rfl) (by kernel_rfl) (by kernel_rfl) (fun _ _ _ h => h) (Or.inl ⟨by rfl, ?_⟩) (by assumption) ?_
          rotate_left
          · (intro w9 hSw; (try dsimp only at hSw); (try obtain ⟨hSw1, hSw2, hSw3⟩ := hSw); go_simp; (try with_reducible rfl))
          (try simp only [Act.put, List.setIfInBounds_toArray, List.set_cons_zero, List.set_cons_succ])
          refine wpAnyH_take (i := 12) (oi := { dst := some 90, op := _, type := _, pos := _, after := _, guard := _ }) (v := ?_) rfl (by kernel_rfl) (by kernel_rfl) (by kernel_rfl) (fun _ _ _ h => h) (Or.inl ⟨by rfl, ?_⟩) (by assumption) ?_
          rotate_left
          · (intro w9 hSw; (try dsimp only at hSw); (try obtain ⟨hSw1, hSw2, hSw3⟩ := hSw); go_simp; (try with_reducible rfl))
          (try simp only [Act.put, List.setIfInBounds_toArray, List.set_cons_zero, List.set_cons_succ])
          refine wpAnyH_ready (rs := [13]) (by kernel_rfl) (by simp) ?_
          refine AllReadyH.cons (o := { dst := none, op := _, type := _, pos := _, after := _, guard := _ }) rfl (fun K hK => ?_) AllReadyH.nil
          have y1 := HC2.out
          have y2 := HC3.out
          go_simp
          clear y1 y2
          refine hK.out _ _ ?_ (fun hHeld => ?_)
          · exact ⟨so (so zr HN1.out) HN1.out, so (so zg HN2.out) HN2.out, so (so zb HN3.out) HN3.out⟩
          clear hK K
          (try simp only [Act.put, List.setIfInBounds_toArray, List.set_cons_zero, List.set_cons_succ])
          refine wpAnyH_done (by kernel_rfl) ?_ _
          go_wp2_with fail
          go_roundg (gk - 1)
          case measure => have := HKG.out; omega
          case rel =>
            refine ⟨i + 1, by have := HKG.out; omega, by go_num, hidMk ?_, hidMk ((HCS.out _).drew.setCell (p := ⟨gs k, i, none⟩) (.inl (.inr (.inr ⟨k, hk, rfl⟩))) _)⟩
            refine (((HF.out.put1 hk i 0 hi32).drew).put1 hk i xb hi32).imp (fun j hj => ?_)
            by_cases e : j = k
            · subst e
              rw [upd_same, upd_same, upd_same, upd_same, List.set_set]
              exact set_whole HWL.out HRL.out hi32 HX.out
            · rw [upd_other _ _ e, upd_other _ _ e, upd_other _ _ e, upd_other _ _ e]
        · have hil' : (lm : Int) ≤ (i : Int) := by omega
          have HX := hidMk (show (0 : Int) = (whole l).getD i 0 by rw [whole_getD hi32, if_neg (by omega)])
          go_wp2_with fail
          go_roundg (gk - 1)
          case measure => have := HKG.out; omega
          case rel =>
            refine ⟨i + 1, by have := HKG.out; omega, by go_num, hidMk ?_, hidMk (HCS.out _)⟩
            refine (HF.out.put1 hk i 0 hi32).imp (fun j hj => ?_)
            by_cases e : j = k
            · subst e
              rw [upd_same, upd_same, upd_same]
              exact set_whole HWL.out HRL.out hi32 HX.out
            · rw [upd_other _ _ e, upd_other _ _ e, upd_other _ _ e]
      · have hiM : i = 32 := by omega
        have q1 := HF.out.c1
        have hiM' : ¬ ((i : Int) < (32 : Int)) := by omega
        have hiM2 : (32 : Int) ≤ (i : Int) := by omega
        subst hiM
        go_wp2_with fail
        go_ret
        exact ⟨rfl, HF.out, HC.out⟩
  · subst hu0
    obtain rfl : M = 32 := by rw [hM]; rfl
    rw [show u' = -1 by rw [hu']; rfl, if_neg (by decide), show decide ((-1 : Int) = 0) = false from rfl]
    have HF0 := hidMk ((H.out.set4 (m + 1)).imp HUP.out)
    have HC00 := hidMk ((Chg.refl (RS r (.slice (some ⟨g, 0, none⟩) n cap) n gs) w).setCell (p := ⟨r, 4, none⟩) (.inl (.inl rfl)) (.int .i64 (m + 1)))
    clear hu' HU hM HM
    go_enter Try.func14, Try.ntmps14
    go_wp2_with fail
    go_loopg [8] 32 (fun gg iv wr => ∃ i : Nat, i + gg = 32 ∧ iv = .int .i64 (i : Int) ∧ Hid (Rf wr B r (.slice (some ⟨g, 0, none⟩) n cap) n gs cs (upd R k ((whole l).take i ++ (R k).drop i)) false (-1) (Y : Int) (m + 1)) ∧ Hid (Chg (RS r (.slice (some ⟨g, 0, none⟩) n cap) n gs) w wr))
    case atStart => exact ⟨0, by omega, rfl, HF0, HC00⟩
    case round =>
      obtain ⟨i, hig, rfl, HF, HC⟩ := hrel
      have HKG := hidMk hig
      by_cases hi : i < 32
      · have hi' : (i : Int) < (32 : Int) := by omega
        have hi32 : i < 32 := by omega
        have hi32' : (i : Int) < 32 := by omega
        have zr := HF.out.c0
        obtain ⟨g2, cap2, ev, _, _, hc2⟩ := HF.out.rb.cell (by omega)
        cases ev
        have zg := hc2 k hk
        obtain ⟨hd2, hl2, _⟩ := HF.out.rb.row k hk
        have zd := hd2.cell (i := i) (by omega)
        have zf := hd2.fr i (by omega)
        generalize (upd R k ((whole l).take i ++ (R k).drop i) k).getD i 0 = old at zd
        have HCS := hidMk (show ∀ x, Chg (RS r (.slice (some ⟨g, 0, none⟩) n cap) n gs) w (wr.setCell ⟨gs k, i, none⟩ x) from fun x => HC.out.setCell (p := ⟨gs k, i, none⟩) (.inl (.inr (.inr ⟨k, hk, rfl⟩))) x)
        have HN1 := hidMk (show (⟨gs k, i, none⟩ : Addr) ≠ ⟨r, 0, none⟩ from fun e => hne1 (by injection e))
        have HN2 := hidMk (show (⟨gs k, i, none⟩ : Addr) ≠ ⟨g, k, none⟩ from fun e => hne2 (by injection e))
        clear hc2 hd2 hl2 hig
        by_cases hil : i < lm
        · have hil' : (i : Int) < (lm : Int) := by omega
          obtain ⟨ab, ao, rfl, hab2, hcells⟩ := HS.out.cells (by omega)
          have hab3 : ab < B := HAB.out _ rfl (by omega)
          have HNS := hidMk (show ¬ RS r (.slice (some ⟨g, 0, none⟩) n cap) n gs ab from fun e => by
            rcases e with e | e | ⟨j, hj, e⟩
            · omega
            · have := (H.out.rb.olt _ e).1; omega
            · have := (H.out.rb.row j hj).2.2; omega)
          have zb : wr.cell? ⟨ab, ao + i, none⟩ = some (.int .u8 (l.getD i 0)) := (HC.out.cell (p := ⟨ab, ao + i, none⟩) hab2 HNS.out).trans (hcells i hil)
          have HN3 := hidMk (show (⟨gs k, i, none⟩ : Addr) ≠ ⟨ab, ao + i, none⟩ from fun e => by injection e; omega)
          have HC2 := hidMk (show (wr.setCell ⟨gs k, i, none⟩ (.int .u8 0)).drew.cell? ⟨gs k, i, none⟩ = some (.int .u8 0) from World.cell?_setCell_same _ _ _ zd)
          have HC3 := hidMk (show (wr.setCell ⟨gs k, i, none⟩ (.int .u8 0)).drew.frozen? ⟨gs k, i, none⟩ = false from by show (wr.setCell ⟨gs k, i, none⟩ (.int .u8 0)).frozen? ⟨gs k, i, none⟩ = false; rw [World.frozen?_setCell]; exact zf)
          have HX := hidMk (show l.getD i 0 = (whole l).getD i 0 by rw [whole_getD hi32, if_pos (by omega)])
          clear hcells
          generalize l.getD i 0 = xb at *
          go_wp2_with fail
          refine wp_region_held_drew (S := (fun w9 => w9.cell? ⟨r, 0, none⟩ = some (.slice (some ⟨g, 0, none⟩) n cap) ∧ w9.cell? ⟨g, k, none⟩ = some (.slice (some ⟨gs k, 0, none⟩) 32 (cs k)) ∧ w9.cell? ⟨ab, ao + i, none⟩ = some (.int .u8 xb))) (by kernel_rfl) ?_ (fun hHeld => ?_)
          · exact ⟨so zr HN1.out, so zg HN2.out, so zb HN3.out⟩
          refine wpAnyH_take (i := 0) (oi := { dst := some 78, op := _, type := _, pos := _, after := _, guard := _ }) (v := ?_) rfl (by kernel_rfl) (by kernel_rfl) (by kernel_rfl) (fun _ _ _ h => h) (Or.inl ⟨by rfl, ?_⟩) (by assumption) ?_
          rotate_left
          · (intro w9 hSw; (try dsimp only at hSw); (try obtain ⟨hSw1, hSw2, hSw3⟩ := hSw); go_simp; (try with_reducible rfl))
          (try simp only [Act.put, List.setIfInBounds_toArray, List.set_cons_zero, List.set_cons_succ])
          refine wpAnyH_take (i := 1) (oi := { dst := some 79, op := _, type := _, pos := _, after := _, guard := _ }) (v := ?_) rfl (by kernel_rfl) (by kernel_rfl) (by kernel_rfl) (fun _ _ _ h => h) (Or.inl ⟨by rfl, ?_⟩) (by assumption) ?_
          rotate_left
          · (intro w9 hSw; (try dsimp only at hSw); (try obtain ⟨hSw1, hSw2, hSw3⟩ := hSw); go_simp; (try with_reducible rfl))
          (try simp only [Act.put, List.setIfInBounds_toArray, List.set_cons_zero, List.set_cons_succ])
          refine wpAnyH_take (i := 2) (oi := { dst := some 80, op := _, type := _, pos := _, after := _, guard := _ }) (v := ?_) rfl (by kernel_rfl) (by kernel_rfl) (by kernel_rfl) (fun _ _ _ h => h) (Or.inl ⟨by rfl, ?_⟩) (by assumption) ?_
          rotate_left
          · (intro w9 hSw; (try dsimp only at hSw); (try obtain ⟨hSw1, hSw2, hSw3⟩ := hSw); go_simp; (try with_reducible rfl))
          (try simp only [Act.put, List.setIfInBounds_toArray, List.set_cons_zero, List.set_cons_succ])
          refine wpAnyH_take (i := 3) (oi := { dst := some 81, op := _, type := _, pos := _, after := _, guard := _ }) (v := ?_) rfl (by kernel_rfl) (by kernel_rfl) (by kernel_rfl) (fun _ _ _ h => h) (Or.inl ⟨by rfl, ?_⟩) (by assumption) ?_
          rotate_left
          · (intro w9 hSw; (try dsimp only at hSw); (try obtain ⟨hSw1, hSw2, hSw3⟩ := hSw); go_simp; (try with_reducible rfl))
          (try simp only [Act.put, List.setIfInBounds_toArray, List.set_cons_zero, List.set_cons_succ])
          refine wpAnyH_take (i := 4) (oi := { dst := some 82, op := _, type := _, pos := _, after := _, guard := _ }) (v := ?_) rfl (by kernel_rfl) (by kernel_rfl) (by kernel_rfl) (fun _ _ _ h => h) (Or.inl ⟨by rfl, ?_⟩) (by assumption) ?_
          rotate_left
          · (intro w9 hSw; (try dsimp only at hSw); (try obtain ⟨hSw1, hSw2, hSw3⟩ := hSw); go_simp; (try with_reducible rfl))
          (try simp only [Act.put, List.setIfInBounds_toArray, List.set_cons_zero, List.set_cons_succ])
          refine wpAnyH_take (i := 5) (oi := { dst := some 83, op := _, type := _, pos := _, after := _, guard := _ }) (v := ?_) rfl (by kernel_rfl) (by kernel_rfl) (by kernel_rfl) (fun _ _ _ h => h) (Or.inl ⟨by rfl, ?_⟩) (by assumption) ?_
          rotate_left
          · (intro w9 hSw; (try dsimp only at hSw); (try obtain ⟨hSw1, hSw2, hSw3⟩ := hSw); go_simp; (try with_reducible rfl))
          (try simp only [Act.put, List.setIfInBounds_toArray, List.set_cons_zero, List.set_cons_succ])
          refine wpAnyH_take (i := 6) (oi := { dst := some 84, op := _, type := _, pos := _, after := _, guard := _ }) (v := ?_) rfl (by kernel_rfl) (by kernel_rfl) (by kernel_rfl) (fun _ _ _ h => h) (Or.inl ⟨by rfl, ?_⟩) (by assumption) ?_
          rotate_left
          · (intro w9 hSw; (try dsimp only at hSw); (try obtain ⟨hSw1, hSw2, hSw3⟩ := hSw); go_simp; (try with_reducible rfl))
          (try simp only [Act.put, List.setIfInBounds_toArray, List.set_cons_zero, List.set_cons_succ])
          refine wpAnyH_take (i := 7) (oi := { dst := some 85, op := _, type := _, pos := _, after := _, guard := _ }) (v := ?_) rfl (by kernel_rfl) (by kernel_rfl) (by kernel_rfl) (fun _ _ _ h => h) (Or.inl ⟨by rfl, ?_⟩) (by assumption) ?_
          rotate_left
          · (intro w9 hSw; (try dsimp only at hSw); (try obtain ⟨hSw1, hSw2, hSw3⟩ := hSw); go_simp; (try with_reducible rfl))
          (try simp only [Act.put, List.setIfInBounds_toArray, List.set_cons_zero, List.set_cons_succ])
          refine wpAnyH_take (i := 8) (oi := { dst := some 86, op := _, type := _, pos := _, after := _, guard := _ }) (v := ?_) rfl (by kernel_rfl) (by kernel_rfl) (by kernel_rfl) (fun _ _ _ h => h) (Or.inl ⟨by rfl, ?_⟩) (by assumption) ?_
          rotate_left
          · (intro w9 hSw; (try dsimp only at hSw); (try obtain ⟨hSw1, hSw2, hSw3⟩ := hSw); go_simp; (try with_reducible rfl))
          (try simp only [Act.put, List.setIfInBounds_toArray, List.set_cons_zero, List.set_cons_succ])
          refine wpAnyH_take (i := 9) (oi := { dst := some 87, op := _, type := _, pos := _, after := _, guard := _ }) (v := ?_) rfl (by kernel_rfl) (by kernel_rfl) (by kernel_rfl) (fun _ _ _ h => h) (Or.inl ⟨by rfl, ?_⟩) (by assumption) ?_
          rotate_left
          · (intro w9 hSw; (try dsimp only at hSw); (try obtain ⟨hSw1, hSw2, hSw3⟩ := hSw); go_simp; (try with_reducible rfl))
          (try simp only [Act.put, List.setIfInBounds_toArray, List.set_cons_zero, List.set_cons_succ])
          refine wpAnyH_take (i := 10) (oi := { dst := some 88, op := _, type := _, pos := _, after := _, guard := _ }) (v := ?_) rfl (by kernel_rfl) (by kernel_rfl) (by kernel_rfl) (fun _ _ _ h => h) (Or.inl ⟨by rfl, ?_⟩) (by assumption) ?_
          rotate_left
          · (intro w9 hSw; (try dsimp only at hSw); (try obtain ⟨hSw1, hSw2, hSw3⟩ := hSw); go_simp; (try with_reducible rfl))
          (try simp only [Act.put, List.setIfInBounds_toArray, List.set_cons_zero, List.set_cons_succ])
          refine wpAnyH_take (i := 11) (oi := { dst := some 89, op := _, type := _, pos := _, after := _, guard := _ }) (v := ?_) rfl (by kernel_rfl) (by kernel_rfl) (by kernel_rfl) (fun _ _ _ h => h) (Or.inl ⟨by rfl, ?_⟩) (by assumption) ?_
          rotate_left
          · (intro w9 hSw; (try dsimp only at hSw); (try obtain ⟨hSw1, hSw2, hSw3⟩ := hSw); go_simp; (try with_reducible rfl))
          (try simp only [Act.put, List.setIfInBounds_toArray, List.set_cons_zero, List.set_cons_succ])
          refine wpAnyH_take (i := 12) (oi := { dst := some 90, op := _, type := _, pos := _, after := _, guard := _ }) (v := ?_) rfl (by kernel_rfl) (by kernel_rfl) (by kernel_rfl) (fun _ _ _ h => h) (Or.inl ⟨by rfl, ?_⟩) (by assumption) ?_
          rotate_left
          · (intro w9 hSw; (try dsimp only at hSw); (try obtain ⟨hSw1, hSw2, hSw3⟩ := hSw); go_simp; (try with_reducible rfl))
          (try simp only [Act.put, List.setIfInBounds_toArray, List.set_cons_zero, List.set_cons_succ])
          refine wpAnyH_ready (rs := [13]) (by kernel_rfl) (by simp) ?_
          refine AllReadyH.cons (o := { dst := none, op := _, type := _, pos := _, after := _, guard := _ }) rfl (fun K hK => ?_) AllReadyH.nil
          have y1 := HC2.out
          have y2 := HC3.out
          go_simp
          clear y1 y2
          refine hK.out _ _ ?_ (fun hHeld => ?_)
          · exact ⟨so (so zr HN1.out) HN1.out, so (so zg HN2.out) HN2.out, so (so zb HN3.out) HN3.out⟩
          clear hK K
          (try simp only [Act.put, List.setIfInBounds_toArray, List.set_cons_zero, List.set_cons_succ])
          refine wpAnyH_done (by kernel_rfl) ?_ _
          go_wp2_with fail
          go_roundg (gk - 1)
          case measure => have := HKG.out; omega
          case rel =>
            refine ⟨i + 1, by have := HKG.out; omega, by go_num, hidMk ?_, hidMk ((HCS.out _).drew.setCell (p := ⟨gs k, i, none⟩) (.inl (.inr (.inr ⟨k, hk, rfl⟩))) _)⟩
            refine (((HF.out.put1 hk i 0 hi32).drew).put1 hk i xb hi32).imp (fun j hj => ?_)
            by_cases e : j = k
            · subst e
              rw [upd_same, upd_same, upd_same, upd_same, List.set_set]
              exact set_whole HWL.out HRL.out hi32 HX.out
            · rw [upd_other _ _ e, upd_other _ _ e, upd_other _ _ e, upd_other _ _ e]
        · have hil' : (lm : Int) ≤ (i : Int) := by omega
          have HX := hidMk (show (0 : Int) = (whole l).getD i 0 by rw [whole_getD hi32, if_neg (by omega)])
          go_wp2_with fail
          go_roundg (gk - 1)
          case measure => have := HKG.out; omega
          case rel =>
            refine ⟨i + 1, by have := HKG.out; omega, by go_num, hidMk ?_, hidMk (HCS.out _)⟩
            refine (HF.out.put1 hk i 0 hi32).imp (fun j hj => ?_)
            by_cases e : j = k
            · subst e
              rw [upd_same, upd_same, upd_same]
              exact set_whole HWL.out HRL.out hi32 HX.out
            · rw [upd_other _ _ e, upd_other _ _ e, upd_other _ _ e]
      · have hiM : i = 32 := by omega
        have q1 := HF.out.c1
        have hiM' : ¬ ((i : Int) < (32 : Int)) := by omega
        have hiM2 : (32 : Int) ≤ (i : Int) := by omega
        subst hiM
        go_wp2_with fail
        go_ret
        exact ⟨rfl, HF.out, HC.out⟩
set_option maxHeartbeats 400000 in
theorem wp_appB {o : Oper} {a : Act} {w : World} {K : Act → World → Prop} {Q : Exit → Act → World → Prop} (s x : Operand) (ho : o.op = .call { callee := .builtin .append, args := #[s, x], argTypes := #[32, 32] })
    (w0 : World) (g c : Nat) (l : List Int) (hs : a.eval s = .slice none 0 0) (hx : a.eval x = .slice (some ⟨g, 0, none⟩) 32 c) (hsl : Sl .u8 w (some ⟨g, 0, none⟩) 32 l) (hl : l.length = 32) (hk : Kept w0 w)
    (h : ∀ gx cx w', Dt w' gx l → (w0.heap.size ≤ gx ∧ gx < w'.heap.size) → Kept w0 w' → K (a.put o.dst (.slice (some ⟨gx, 0, none⟩) 32 cx)) w') : o.wp Try.prog a w K Q := by
  obtain ⟨i0, hi0, hz0, hz1, hz2⟩ := u8info
  refine wp_append_own_wide w s x 32 ho w0.heap.size 5 i0 (.int .u8 0) 1 1 Try.underlying32 hi0 hz0 hz1 hz2 rfl (by decide) (.slice none 0 0) 0 [] hs (World.ownsRow_nil _ _ _ _) ⟨g, 0, none⟩ 32 c (bv l) hx (by rw [bv_len, hl]) (sl_news hsl rfl) (bv_one l) (by unfold maxLen; omega) (by omega) hk.size ?_
  intro v' w' h2 h3 _
  have ho2 : Owned w0 w' v' l := by unfold Owned; rw [hl]; rw [Nat.zero_add, List.nil_append] at h2; exact h2
  obtain ⟨gx, cx, rfl, q1, q2⟩ := owned_at ho2 (by omega)
  rw [hl]
  refine h gx cx w' ?_ ⟨q1, q2⟩ (Below.grown hk h3 hk.size (fun k e => by simp [Value.ownBlock] at e))
  have h4 : w'.ownsRow w0.heap.size 5 1 (.slice (some ⟨gx, 0, none⟩) l.length cx) l.length (bv l) := ho2
  refine .of q2 (fun i hi => ?_) (fun i hi => h4.frozenAt i)
  rw [h4.cellAt i (by omega)]
  exact bv_get hi
theorem new_rf2 (w : World) (t : TypeId) (dk : Bool) (u y m : Int) (R : Nat → List Int) : Rf (w.alloc (.cells #[.slice none 0 0, .bool dk, .int .i64 u, .int .i64 y, .int .i64 m] t)) w.heap.size w.heap.size (.slice none 0 0) 0 (fun _ => 0) (fun _ => 0) R dk u y m := by
  refine ⟨by simp, by simp, by simp, by simp, by simp, fun i hi => by simp, by simp, ⟨World.ownsRow_nil _ _ _ _, fun k hk => absurd hk (by omega), fun k hk => absurd hk (by omega), fun i j hi => absurd hi (by omega)⟩, Nat.le_refl _, by simp [Value.ownBlock], fun k hk => absurd hk (by omega)⟩
set_option maxHeartbeats 8000000 in
set_option maxRecDepth 100000 in
theorem r23_Copy (h : Rf w B r v n gs cs R dk u y m) (hn : 0 < n) (hn2 : n ≤ 100) : Calls Try.prog 22 #[.pointer (some ⟨r, 0, none⟩)] w fun e w' => ∃ v2 gs2 cs2, e = .returned (.pointer (some ⟨w.heap.size, 0, none⟩)) ∧ Rf w' w.heap.size w.heap.size v2 n gs2 cs2 R dk u y m ∧ Kept w w' := by
  obtain ⟨g, cap, hv, hg1, hg2, hcs⟩ := h.rb.cell hn
  subst hv
  have HRB0 := hidMk h.rb
  have HCS := hidMk hcs
  have hlt := h.lt
  have c0 := h.c0
  have c1 := h.c1
  have c2 := h.c2
  have c3 := h.c3
  have c4 := h.c4
  have HC0r := hidMk c0
  clear h hcs
  go_enter Try.func22, Try.ntmps22
  go_wp2_with fail
  refine wp_region_held_drew (S := (fun w9 => w9.cell? ⟨r, 1, none⟩ = some (.bool dk) ∧ w9.cell? ⟨r, 2, none⟩ = some (.int .i64 u) ∧ w9.cell? ⟨r, 3, none⟩ = some (.int .i64 y) ∧ w9.cell? ⟨r, 4, none⟩ = some (.int .i64 m))) (by kernel_rfl) ?_ (fun hHeld => ?_)
  · exact ⟨c1, c2, c3, c4⟩
  refine wpAnyH_take (i := 0) (oi := { dst := some 6, op := _, type := _, pos := _, after := _, guard := _ }) (v := ?_) rfl (by kernel_rfl) (by kernel_rfl) (by kernel_rfl) (fun _ _ _ h => h) (Or.inl ⟨by rfl, ?_⟩) (by assumption) ?_
  rotate_left
  · (intro w9 hSw; (try dsimp only at hSw); (try obtain ⟨hSw1, hSw2, hSw3, hSw4⟩ := hSw); go_simp; (try with_reducible rfl))
  (try simp only [Act.put, List.setIfInBounds_toArray, List.set_cons_zero, List.set_cons_succ])
  refine wpAnyH_take (i := 1) (oi := { dst := some 7, op := _, type := _, pos := _, after := _, guard := _ }) (v := ?_) rfl (by kernel_rfl) (by kernel_rfl) (by kernel_rfl) (fun _ _ _ h => h) (Or.inl ⟨by rfl, ?_⟩) (by assumption) ?_
  rotate_left
  · (intro w9 hSw; (try dsimp only at hSw); (try obtain ⟨hSw1, hSw2, hSw3, hSw4⟩ := hSw); go_simp; (try with_reducible rfl))
  (try simp only [Act.put, List.setIfInBounds_toArray, List.set_cons_zero, List.set_cons_succ])
  refine wpAnyH_take (i := 2) (oi := { dst := some 8, op := _, type := _, pos := _, after := _, guard := _ }) (v := ?_) rfl (by kernel_rfl) (by kernel_rfl) (by kernel_rfl) (fun _ _ _ h => h) (Or.inl ⟨by rfl, ?_⟩) (by assumption) ?_
  rotate_left
  · (intro w9 hSw; (try dsimp only at hSw); (try obtain ⟨hSw1, hSw2, hSw3, hSw4⟩ := hSw); go_simp; (try with_reducible rfl))
  (try simp only [Act.put, List.setIfInBounds_toArray, List.set_cons_zero, List.set_cons_succ])
  refine wpAnyH_take (i := 3) (oi := { dst := some 9, op := _, type := _, pos := _, after := _, guard := _ }) (v := ?_) rfl (by kernel_rfl) (by kernel_rfl) (by kernel_rfl) (fun _ _ _ h => h) (Or.inl ⟨by rfl, ?_⟩) (by assumption) ?_
  rotate_left
  · (intro w9 hSw; (try dsimp only at hSw); (try obtain ⟨hSw1, hSw2, hSw3, hSw4⟩ := hSw); go_simp; (try with_reducible rfl))
  (try simp only [Act.put, List.setIfInBounds_toArray, List.set_cons_zero, List.set_cons_succ])
  refine wpAnyH_take (i := 4) (oi := { dst := some 10, op := _, type := _, pos := _, after := _, guard := _ }) (v := ?_) rfl (by kernel_rfl) (by kernel_rfl) (by kernel_rfl) (fun _ _ _ h => h) (Or.inl ⟨by rfl, ?_⟩) (by assumption) ?_
  rotate_left
  · (intro w9 hSw; (try dsimp only at hSw); (try obtain ⟨hSw1, hSw2, hSw3, hSw4⟩ := hSw); go_simp; (try with_reducible rfl))
  (try simp only [Act.put, List.setIfInBounds_toArray, List.set_cons_zero, List.set_cons_succ])
  refine wpAnyH_take (i := 5) (oi := { dst := some 11, op := _, type := _, pos := _, after := _, guard := _ }) (v := ?_) rfl (by kernel_rfl) (by kernel_rfl) (by kernel_rfl) (fun _ _ _ h => h) (Or.inl ⟨by rfl, ?_⟩) (by assumption) ?_
  rotate_left
  · (intro w9 hSw; (try dsimp only at hSw); (try obtain ⟨hSw1, hSw2, hSw3, hSw4⟩ := hSw); go_simp; (try with_reducible rfl))
  (try simp only [Act.put, List.setIfInBounds_toArray, List.set_cons_zero, List.set_cons_succ])
  refine wpAnyH_take (i := 6) (oi := { dst := some 12, op := _, type := _, pos := _, after := _, guard := _ }) (v := ?_) rfl (by kernel_rfl) (by kernel_rfl) (by kernel_rfl) (fun _ _ _ h => h) (Or.inl ⟨by rfl, ?_⟩) (by assumption) ?_
  rotate_left
  · (intro w9 hSw; (try dsimp only at hSw); (try obtain ⟨hSw1, hSw2, hSw3, hSw4⟩ := hSw); go_simp; (try with_reducible rfl))
  (try simp only [Act.put, List.setIfInBounds_toArray, List.set_cons_zero, List.set_cons_succ])
  refine wpAnyH_take (i := 7) (oi := { dst := some 13, op := _, type := _, pos := _, after := _, guard := _ }) (v := ?_) rfl (by kernel_rfl) (by kernel_rfl) (by kernel_rfl) (fun _ _ _ h => h) (Or.inl ⟨by rfl, ?_⟩) (by assumption) ?_
  rotate_left
  · (intro w9 hSw; (try dsimp only at hSw); (try obtain ⟨hSw1, hSw2, hSw3, hSw4⟩ := hSw); go_simp; (try with_reducible rfl))
  (try simp only [Act.put, List.setIfInBounds_toArray, List.set_cons_zero, List.set_cons_succ])
  refine wpAnyH_take (i := 8) (oi := { dst := some 14, op := _, type := _, pos := _, after := _, guard := _ }) (v := ?_) rfl (by kernel_rfl) (by kernel_rfl) (by kernel_rfl) (fun _ _ _ h => h) (Or.inl ⟨by rfl, ?_⟩) (by assumption) ?_
  rotate_left
  · (intro w9 hSw; (try dsimp only at hSw); (try obtain ⟨hSw1, hSw2, hSw3, hSw4⟩ := hSw); go_simp; (try with_reducible rfl))
  (try simp only [Act.put, List.setIfInBounds_toArray, List.set_cons_zero, List.set_cons_succ])
  refine wpAnyH_take (i := 9) (oi := { dst := some 15, op := _, type := _, pos := _, after := _, guard := _ }) (v := ?_) rfl (by kernel_rfl) (by kernel_rfl) (by kernel_rfl) (fun _ _ _ h => h) (Or.inl ⟨by rfl, ?_⟩) (by assumption) ?_
  rotate_left
  · (intro w9 hSw; (try dsimp only at hSw); (try obtain ⟨hSw1, hSw2, hSw3, hSw4⟩ := hSw); go_simp; (try with_reducible rfl))
  (try simp only [Act.put, List.setIfInBounds_toArray, List.set_cons_zero, List.set_cons_succ])
  refine wpAnyH_take (i := 10) (oi := { dst := some 16, op := _, type := _, pos := _, after := _, guard := _ }) (v := ?_) rfl (by kernel_rfl) (by kernel_rfl) (by kernel_rfl) (fun _ _ _ h => h) (Or.inl ⟨by rfl, ?_⟩) (by assumption) ?_
  rotate_left
  · (intro w9 hSw; (try dsimp only at hSw); (try obtain ⟨hSw1, hSw2, hSw3, hSw4⟩ := hSw); go_simp; (try with_reducible rfl))
  (try simp only [Act.put, List.setIfInBounds_toArray, List.set_cons_zero, List.set_cons_succ])
  refine wpAnyH_take (i := 11) (oi := { dst := some 17, op := _, type := _, pos := _, after := _, guard := _ }) (v := ?_) rfl (by kernel_rfl) (by kernel_rfl) (by kernel_rfl) (fun _ _ _ h => h) (Or.inl ⟨by rfl, ?_⟩) (by assumption) ?_
  rotate_left
  · (intro w9 hSw; (try dsimp only at hSw); (try obtain ⟨hSw1, hSw2, hSw3, hSw4⟩ := hSw); go_simp; (try with_reducible rfl))
  (try simp only [Act.put, List.setIfInBounds_toArray, List.set_cons_zero, List.set_cons_succ])
  refine wpAnyH_take (i := 12) (oi := { dst := some 18, op := _, type := _, pos := _, after := _, guard := _ }) (v := ?_) rfl (by kernel_rfl) (by kernel_rfl) (by kernel_rfl) (fun _ _ _ h => h) (Or.inl ⟨by rfl, ?_⟩) (by assumption) ?_
  rotate_left
  · (intro w9 hSw; (try dsimp only at hSw); (try obtain ⟨hSw1, hSw2, hSw3, hSw4⟩ := hSw); go_simp; (try with_reducible rfl))
  (try simp only [Act.put, List.setIfInBounds_toArray, List.set_cons_zero, List.set_cons_succ])
  refine wpAnyH_take (i := 13) (oi := { dst := some 19, op := _, type := _, pos := _, after := _, guard := _ }) (v := ?_) rfl (by kernel_rfl) (by kernel_rfl) (by kernel_rfl) (fun _ _ _ h => h) (Or.inl ⟨by rfl, ?_⟩) (by assumption) ?_
  rotate_left
  · (intro w9 hSw; (try dsimp only at hSw); (try obtain ⟨hSw1, hSw2, hSw3, hSw4⟩ := hSw); go_simp; (try with_reducible rfl))
  (try simp only [Act.put, List.setIfInBounds_toArray, List.set_cons_zero, List.set_cons_succ])
  refine wpAnyH_take (i := 14) (oi := { dst := some 20, op := _, type := _, pos := _, after := _, guard := _ }) (v := ?_) rfl (by kernel_rfl) (by kernel_rfl) (by kernel_rfl) (fun _ _ _ h => h) (Or.inl ⟨by rfl, ?_⟩) (by assumption) ?_
  rotate_left
  · (intro w9 hSw; (try dsimp only at hSw); (try obtain ⟨hSw1, hSw2, hSw3, hSw4⟩ := hSw); go_simp; (try with_reducible rfl))
  (try simp only [Act.put, List.setIfInBounds_toArray, List.set_cons_zero, List.set_cons_succ])
  refine wpAnyH_take (i := 15) (oi := { dst := some 21, op := _, type := _, pos := _, after := _, guard := _ }) (v := ?_) rfl (by kernel_rfl) (by kernel_rfl) (by kernel_rfl) (fun _ _ _ h => h) (Or.inl ⟨by rfl, ?_⟩) (by assumption) ?_
  rotate_left
  · (intro w9 hSw; (try dsimp only at hSw); (try obtain ⟨hSw1, hSw2, hSw3, hSw4⟩ := hSw); go_simp; (try with_reducible rfl))
  (try simp only [Act.put, List.setIfInBounds_toArray, List.set_cons_zero, List.set_cons_succ])
  refine wpAnyH_take (i := 16) (oi := { dst := some 22, op := _, type := _, pos := _, after := _, guard := _ }) (v := ?_) rfl (by kernel_rfl) (by kernel_rfl) (by kernel_rfl) (fun _ _ _ h => h) (Or.inl ⟨by rfl, ?_⟩) (by assumption) ?_
  rotate_left
  · (intro w9 hSw; (try dsimp only at hSw); (try obtain ⟨hSw1, hSw2, hSw3, hSw4⟩ := hSw); go_simp; (try with_reducible rfl))
  (try simp only [Act.put, List.setIfInBounds_toArray, List.set_cons_zero, List.set_cons_succ])
  refine wpAnyH_ready (rs := [17]) (by kernel_rfl) (by simp) ?_
  refine AllReadyH.cons (o := { dst := some 23, op := _, type := _, pos := _, after := _, guard := _ }) rfl (fun K hK => ?_) AllReadyH.nil
  go_simp
  refine hK.out _ _ ?_ (fun hHeld => ?_)
  · exact ⟨((Kept.refl w).alloc _).cellq c1, ((Kept.refl w).alloc _).cellq c2, ((Kept.refl w).alloc _).cellq c3, ((Kept.refl w).alloc _).cellq c4⟩
  clear hK K
  (try simp only [Act.put, List.setIfInBounds_toArray, List.set_cons_zero, List.set_cons_succ])
  refine wpAnyH_take (i := 18) (oi := { dst := some 3, op := _, type := _, pos := _, after := _, guard := _ }) (v := ?_) rfl (by kernel_rfl) (by kernel_rfl) (by kernel_rfl) (fun _ _ _ h => h) (Or.inl ⟨by rfl, ?_⟩) (by assumption) ?_
  rotate_left
  · (intro w9 hSw; (try dsimp only at hSw); (try obtain ⟨hSw1, hSw2, hSw3, hSw4⟩ := hSw); go_simp; (try with_reducible rfl))
  (try simp only [Act.put, List.setIfInBounds_toArray, List.set_cons_zero, List.set_cons_succ])
  refine wpAnyH_done (by kernel_rfl) ?_ _
  have HN := hidMk ((new_rf2 w 47 dk u y m R).drew)
  have HK0 := hidMk (((Kept.refl w).alloc (.cells #[.slice none 0 0, .bool dk, .int .i64 u, .int .i64 y, .int .i64 m] 47)).drew)
  clear c0 c1 c2 c3 c4
  go_wp2_with fail
  go_loopg [4] n (fun gg i wr => ∃ (k : Nat) (v2 : Value) (gs2 cs2 : Nat → Nat), k + gg = n ∧ i = .int .i64 (k : Int) ∧ Hid (Rf wr w.heap.size w.heap.size v2 k gs2 cs2 R dk u y m) ∧ Hid (Kept w wr))
  case atStart => exact ⟨0, _, _, _, by omega, rfl, HN, HK0⟩
  case round =>
    obtain ⟨k, v2, gs2, cs2, hkg, rfl, HRF, HKW⟩ := hrel
    have HKG := hidMk hkg
    have zr := HKW.out.cellq HC0r.out
    by_cases hk : k < n
    · have hk' : (k : Int) < (n : Int) := by omega
      have zg := HKW.out.cellq (HCS.out k hk)
      have HC0 := hidMk HRF.out.c0
      obtain ⟨hd, hRl, _⟩ := HRB0.out.row k hk
      have HRL := hidMk hRl
      have HSL := hidMk (show Sl .u8 wr (some ⟨gs k, 0, none⟩) 32 (R k) from by
        have := (hd.kept HKW.out).sl 0 32 (by omega) (by unfold maxLen; omega)
        rwa [List.drop_zero, List.take_of_length_le (by omega)] at this)
      have hrw : r < wr.heap.size := Nat.lt_of_lt_of_le hlt HKW.out.size
      have hgw : g < wr.heap.size := Nat.lt_of_lt_of_le hg2 HKW.out.size
      clear hkg hd hRl
      go_wp2_with fail
      refine wp_region_held_drew (S := (fun w9 => w9.cell? ⟨r, 0, none⟩ = some (.slice (some ⟨g, 0, none⟩) n cap) ∧ w9.cell? ⟨g, k, none⟩ = some (.slice (some ⟨gs k, 0, none⟩) 32 (cs k)))) (by kernel_rfl) ?_ (fun hHeld => ?_)
      · exact ⟨zr, zg⟩
      refine wpAnyH_take (i := 0) (oi := { dst := some 33, op := _, type := _, pos := _, after := _, guard := _ }) (v := ?_) rfl (by kernel_rfl) (by kernel_rfl) (by kernel_rfl) (fun _ _ _ h => h) (Or.inl ⟨by rfl, ?_⟩) (by assumption) ?_
      rotate_left
      · (intro w9 hSw; (try dsimp only at hSw); (try obtain ⟨hSw1, hSw2⟩ := hSw); go_simp; (try with_reducible rfl))
      (try simp only [Act.put, List.setIfInBounds_toArray, List.set_cons_zero, List.set_cons_succ])
      refine wpAnyH_take (i := 1) (oi := { dst := some 34, op := _, type := _, pos := _, after := _, guard := _ }) (v := ?_) rfl (by kernel_rfl) (by kernel_rfl) (by kernel_rfl) (fun _ _ _ h => h) (Or.inl ⟨by rfl, ?_⟩) (by assumption) ?_
      rotate_left
      · (intro w9 hSw; (try dsimp only at hSw); (try obtain ⟨hSw1, hSw2⟩ := hSw); go_simp; (try with_reducible rfl))
      (try simp only [Act.put, List.setIfInBounds_toArray, List.set_cons_zero, List.set_cons_succ])
      refine wpAnyH_take (i := 2) (oi := { dst := some 35, op := _, type := _, pos := _, after := _, guard := _ }) (v := ?_) rfl (by kernel_rfl) (by kernel_rfl) (by kernel_rfl) (fun _ _ _ h => h) (Or.inl ⟨by rfl, ?_⟩) (by assumption) ?_
      rotate_left
      · (intro w9 hSw; (try dsimp only at hSw); (try obtain ⟨hSw1, hSw2⟩ := hSw); go_simp; (try with_reducible rfl))
      (try simp only [Act.put, List.setIfInBounds_toArray, List.set_cons_zero, List.set_cons_succ])
      refine wpAnyH_take (i := 3) (oi := { dst := some 36, op := _, type := _, pos := _, after := _, guard := _ }) (v := ?_) rfl (by kernel_rfl) (by kernel_rfl) (by kernel_rfl) (fun _ _ _ h => h) (Or.inl ⟨by rfl, ?_⟩) (by assumption) ?_
      rotate_left
      · (intro w9 hSw; (try dsimp only at hSw); (try obtain ⟨hSw1, hSw2⟩ := hSw); go_simp; (try with_reducible rfl))
      (try simp only [Act.put, List.setIfInBounds_toArray, List.set_cons_zero, List.set_cons_succ])
      refine wpAnyH_take (i := 5) (oi := { dst := some 38, op := _, type := _, pos := _, after := _, guard := _ }) (v := ?_) rfl (by kernel_rfl) (by kernel_rfl) (by kernel_rfl) (fun _ _ _ h => h) (Or.inl ⟨by rfl, ?_⟩) (by assumption) ?_
      rotate_left
      · (intro w9 hSw; (try dsimp only at hSw); (try obtain ⟨hSw1, hSw2⟩ := hSw); go_simp; (try with_reducible rfl))
      (try simp only [Act.put, List.setIfInBounds_toArray, List.set_cons_zero, List.set_cons_succ])
      refine wpAnyH_take (i := 6) (oi := { dst := some 39, op := _, type := _, pos := _, after := _, guard := _ }) (v := ?_) rfl (by kernel_rfl) (by kernel_rfl) (by kernel_rfl) (fun _ _ _ h => h) (Or.inl ⟨by rfl, ?_⟩) (by assumption) ?_
      rotate_left
      · (intro w9 hSw; (try dsimp only at hSw); (try obtain ⟨hSw1, hSw2⟩ := hSw); go_simp; (try with_reducible rfl))
      (try simp only [Act.put, List.setIfInBounds_toArray, List.set_cons_zero, List.set_cons_succ])
      refine wpAnyH_take (i := 7) (oi := { dst := some 40, op := _, type := _, pos := _, after := _, guard := _ }) (v := ?_) rfl (by kernel_rfl) (by kernel_rfl) (by kernel_rfl) (fun _ _ _ h => h) (Or.inl ⟨by rfl, ?_⟩) (by assumption) ?_
      rotate_left
      · (intro w9 hSw; (try dsimp only at hSw); (try obtain ⟨hSw1, hSw2⟩ := hSw); go_simp; (try with_reducible rfl))
      (try simp only [Act.put, List.setIfInBounds_toArray, List.set_cons_zero, List.set_cons_succ])
      refine wpAnyH_take (i := 8) (oi := { dst := some 41, op := _, type := _, pos := _, after := _, guard := _ }) (v := ?_) rfl (by kernel_rfl) (by kernel_rfl) (by kernel_rfl) (fun _ _ _ h => h) (Or.inl ⟨by rfl, ?_⟩) (by assumption) ?_
      rotate_left
      · (intro w9 hSw; (try dsimp only at hSw); (try obtain ⟨hSw1, hSw2⟩ := hSw); go_simp; (try with_reducible rfl))
      (try simp only [Act.put, List.setIfInBounds_toArray, List.set_cons_zero, List.set_cons_succ])
      refine wpAnyH_take (i := 9) (oi := { dst := some 42, op := _, type := _, pos := _, after := _, guard := _ }) (v := ?_) rfl (by kernel_rfl) (by kernel_rfl) (by kernel_rfl) (fun _ _ _ h => h) (Or.inl ⟨by rfl, ?_⟩) (by assumption) ?_
      rotate_left
      · (intro w9 hSw; (try dsimp only at hSw); (try obtain ⟨hSw1, hSw2⟩ := hSw); go_simp; (try with_reducible rfl))
      (try simp only [Act.put, List.setIfInBounds_toArray, List.set_cons_zero, List.set_cons_succ])
      refine wpAnyH_take (i := 10) (oi := { dst := some 43, op := _, type := _, pos := _, after := _, guard := _ }) (v := ?_) rfl (by kernel_rfl) (by kernel_rfl) (by kernel_rfl) (fun _ _ _ h => h) (Or.inl ⟨by rfl, ?_⟩) (by assumption) ?_
      rotate_left
      · (intro w9 hSw; (try dsimp only at hSw); (try obtain ⟨hSw1, hSw2⟩ := hSw); go_simp; (try with_reducible rfl))
      (try simp only [Act.put, List.setIfInBounds_toArray, List.set_cons_zero, List.set_cons_succ])
      refine wpAnyH_take (i := 11) (oi := { dst := some 44, op := _, type := _, pos := _, after := _, guard := _ }) (v := ?_) rfl (by kernel_rfl) (by kernel_rfl) (by kernel_rfl) (fun _ _ _ h => h) (Or.inl ⟨by rfl, ?_⟩) (by assumption) ?_
      rotate_left
      · (intro w9 hSw; (try dsimp only at hSw); (try obtain ⟨hSw1, hSw2⟩ := hSw); go_simp; (try with_reducible rfl))
      (try simp only [Act.put, List.setIfInBounds_toArray, List.set_cons_zero, List.set_cons_succ])
      refine wpAnyH_take (i := 12) (oi := { dst := some 45, op := _, type := _, pos := _, after := _, guard := _ }) (v := ?_) rfl (by kernel_rfl) (by kernel_rfl) (by kernel_rfl) (fun _ _ _ h => h) (Or.inl ⟨by rfl, ?_⟩) (by assumption) ?_
      rotate_left
      · (intro w9 hSw; (try dsimp only at hSw); (try obtain ⟨hSw1, hSw2⟩ := hSw); go_simp; (try with_reducible rfl))
      (try simp only [Act.put, List.setIfInBounds_toArray, List.set_cons_zero, List.set_cons_succ])
      refine wpAnyH_ready (rs := [4, 13]) (by kernel_rfl) (by simp) ?_
      refine (AllReadyH.cons (o := { dst := some 37, op := _, type := _, pos := _, after := _, guard := _ }) rfl (fun K hK => ?_) (AllReadyH.cons (o := { dst := some 46, op := _, type := _, pos := _, after := _, guard := _ }) rfl (fun K hK => ?_) AllReadyH.nil))
      · have b1 := ((Kept.refl wr).drew).cellq HC0.out
        go_simp
        clear b1
        refine hK.out _ _ ?_ (fun hHeld => ?_)
        · exact ⟨((Kept.refl wr).drew).cellq zr, ((Kept.refl wr).drew).cellq zg⟩
        clear hK K
        (try simp only [Act.put, List.setIfInBounds_toArray, List.set_cons_zero, List.set_cons_succ])
        refine wpAnyH_ready (rs := [13]) (by kernel_rfl) (by simp) ?_
        refine (AllReadyH.cons (o := { dst := some 46, op := _, type := _, pos := _, after := _, guard := _ }) rfl (fun K hK => ?_) AllReadyH.nil)
        rw [if_pos (by rfl)]
        refine wp_appB _ _ (by rfl) wr (gs k) (cs k) (R k) (by rfl) (by rfl) (HSL.out.kept (Kept.refl wr).drew) HRL.out ((Kept.refl wr).drew) ?_
        intro gx cx wN oN hgx kN
        have HON := hidMk oN
        have HKN := hidMk kN
        have HGX := hidMk hgx
        clear oN kN hgx
        refine hK.out _ _ ?_ (fun hHeld => ?_)
        · exact ⟨HKN.out.cellq zr, HKN.out.cellq zg⟩
        clear hK K
        (try simp only [Act.put, List.setIfInBounds_toArray, List.set_cons_zero, List.set_cons_succ])
        refine wpAnyH_ready (rs := [14]) (by kernel_rfl) (by simp) ?_
        refine (AllReadyH.cons (o := { dst := some 47, op := _, type := _, pos := _, after := _, guard := _ }) rfl (fun K hK => ?_) AllReadyH.nil)
        go_simp
        refine hK.out _ _ ?_ (fun hHeld => ?_)
        · exact ⟨(HKN.out.alloc (.cells #[.slice (some ⟨gx, 0, none⟩) 32 cx] 32)).cellq zr, (HKN.out.alloc (.cells #[.slice (some ⟨gx, 0, none⟩) 32 cx] 32)).cellq zg⟩
        clear hK K
        (try simp only [Act.put, List.setIfInBounds_toArray, List.set_cons_zero, List.set_cons_succ])
        refine wpAnyH_ready (rs := [15]) (by kernel_rfl) (by simp) ?_
        refine (AllReadyH.cons (o := { dst := some 48, op := _, type := _, pos := _, after := _, guard := _ }) rfl (fun K hK => ?_) AllReadyH.nil)
        refine step_pushB _ (by rfl) _ _ (by rfl) w.heap.size v2 k gs2 cs2 R (by rfl) (HRF.out.rb.kept (HKN.out.alloc (.cells #[.slice (some ⟨gx, 0, none⟩) 32 cx] 32))) (by have h1 := HKW.out.size; have h2 := (HKN.out.alloc (.cells #[.slice (some ⟨gx, 0, none⟩) 32 cx] 32)).size; omega) wN.heap.size gx cx (R k) (by rfl) (by simp) (HON.out.kept ((Kept.refl _).alloc _)) HRL.out (by have h1 := HKW.out.size; have h2 := HGX.out.1; omega) (fun e => by have h1 := (HRF.out.rb.olt _ e).2; have h2 := HGX.out.1; omega) (fun j hj e => by have h1 := (HRF.out.rb.row j hj).1.lt; have h2 := HGX.out.1; omega) (by omega) ?_
        intro g' cap' wP hRB hCP hG
        have HRB := hidMk hRB
        have HCP := hidMk hCP
        have HOB := hidMk (ob_ne (n := k + 1) (cap := cap') hG HRF.out.nr1 (by have h2 := HRF.out.lt; have h3 := (HKN.out.alloc (.cells #[.slice (some ⟨gx, 0, none⟩) 32 cx] 32)).size; omega))
        have HGR := hidMk (upd_ne HRF.out.nr2 (x := gx) (by have h2 := HRF.out.lt; have h3 := HGX.out.1; omega))
        have HNR := hidMk (show ¬ v2.ownBlock = some r from fun e => by have h1 := (HRF.out.rb.olt _ e).1; omega)
        have HNG := hidMk (show ¬ v2.ownBlock = some g from fun e => by have h1 := (HRF.out.rb.olt _ e).1; omega)
        clear hRB hCP hG
        refine hK.out _ _ ?_ (fun hHeld => ?_)
        · exact ⟨(HCP.out.cell (p := ⟨r, 0, none⟩) (by show r < _; have h3 := (HKN.out.alloc (.cells #[.slice (some ⟨gx, 0, none⟩) 32 cx] 32)).size; omega) HNR.out).trans ((HKN.out.alloc (.cells #[.slice (some ⟨gx, 0, none⟩) 32 cx] 32)).cellq zr), (HCP.out.cell (p := ⟨g, k, none⟩) (by show g < _; have h3 := (HKN.out.alloc (.cells #[.slice (some ⟨gx, 0, none⟩) 32 cx] 32)).size; omega) HNG.out).trans ((HKN.out.alloc (.cells #[.slice (some ⟨gx, 0, none⟩) 32 cx] 32)).cellq zg)⟩
        clear hK K
        (try simp only [Act.put, List.setIfInBounds_toArray, List.set_cons_zero, List.set_cons_succ])
        refine wpAnyH_take (i := 16) (oi := { dst := some 49, op := _, type := _, pos := _, after := _, guard := _ }) (v := ?_) rfl (by kernel_rfl) (by kernel_rfl) (by kernel_rfl) (fun _ _ _ h => h) (Or.inl ⟨by rfl, ?_⟩) (by assumption) ?_
        rotate_left
        · (intro w9 hSw; (try dsimp only at hSw); (try obtain ⟨hSw1, hSw2⟩ := hSw); go_simp; (try with_reducible rfl))
        (try simp only [Act.put, List.setIfInBounds_toArray, List.set_cons_zero, List.set_cons_succ])
        refine wpAnyH_take (i := 17) (oi := { dst := some 50, op := _, type := _, pos := _, after := _, guard := _ }) (v := ?_) rfl (by kernel_rfl) (by kernel_rfl) (by kernel_rfl) (fun _ _ _ h => h) (Or.inl ⟨by rfl, ?_⟩) (by assumption) ?_
        rotate_left
        · (intro w9 hSw; (try dsimp only at hSw); (try obtain ⟨hSw1, hSw2⟩ := hSw); go_simp; (try with_reducible rfl))
        (try simp only [Act.put, List.setIfInBounds_toArray, List.set_cons_zero, List.set_cons_succ])
        refine wpAnyH_ready (rs := [18]) (by kernel_rfl) (by simp) ?_
        refine (AllReadyH.cons (o := { dst := none, op := _, type := _, pos := _, after := _, guard := _ }) rfl (fun K hK => ?_) AllReadyH.nil)
        have n1 : ¬ v2.ownBlock = some w.heap.size := HRF.out.nr1
        have b1 := (HCP.out.cell (p := ⟨w.heap.size, 0, none⟩) (by show w.heap.size < _; have h2 := HRF.out.lt; have h3 := (HKN.out.alloc (.cells #[.slice (some ⟨gx, 0, none⟩) 32 cx] 32)).size; omega) n1).trans ((HKN.out.alloc (.cells #[.slice (some ⟨gx, 0, none⟩) 32 cx] 32)).cellq HC0.out)
        have bf : wP.frozen? ⟨w.heap.size, 0, none⟩ = false := (HCP.out.frozen (p := ⟨w.heap.size, 0, none⟩) (by show w.heap.size < _; have h2 := HRF.out.lt; have h3 := (HKN.out.alloc (.cells #[.slice (some ⟨gx, 0, none⟩) 32 cx] 32)).size; omega) n1).trans (((HKN.out.alloc (.cells #[.slice (some ⟨gx, 0, none⟩) 32 cx] 32)).frozen (p := ⟨w.heap.size, 0, none⟩) HRF.out.lt).trans (HRF.out.fz 0 (by omega)))
        go_simp
        clear b1 bf
        refine hK.out _ _ ?_ (fun hHeld => ?_)
        · (have kk : wP.cell? ⟨r, 0, none⟩ = some (.slice (some ⟨g, 0, none⟩) n cap) ∧ wP.cell? ⟨g, k, none⟩ = some (.slice (some ⟨gs k, 0, none⟩) 32 (cs k)) := ⟨(HCP.out.cell (p := ⟨r, 0, none⟩) (by show r < _; have h3 := (HKN.out.alloc (.cells #[.slice (some ⟨gx, 0, none⟩) 32 cx] 32)).size; omega) HNR.out).trans ((HKN.out.alloc (.cells #[.slice (some ⟨gx, 0, none⟩) 32 cx] 32)).cellq zr), (HCP.out.cell (p := ⟨g, k, none⟩) (by show g < _; have h3 := (HKN.out.alloc (.cells #[.slice (some ⟨gx, 0, none⟩) 32 cx] 32)).size; omega) HNG.out).trans ((HKN.out.alloc (.cells #[.slice (some ⟨gx, 0, none⟩) 32 cx] 32)).cellq zg)⟩; exact ⟨so kk.1 (by intro e; injection e; omega), so kk.2 (by intro e; injection e; omega)⟩)
        clear hK K
        (try simp only [Act.put, List.setIfInBounds_toArray, List.set_cons_zero, List.set_cons_succ])
        refine wpAnyH_done (by kernel_rfl) ?_ _
        go_wp2_with fail
        go_roundg (gk - 1)
        case measure => have := HKG.out; omega
        case rel =>
          refine ⟨k + 1, .slice (some ⟨g', 0, none⟩) (k + 1) cap', upd gs2 k gx, upd cs2 k cx, by have := HKG.out; omega, by go_num, hidMk ?_, hidMk ?_⟩
          · exact ((HRF.out.kept (HKN.out.alloc (.cells #[.slice (some ⟨gx, 0, none⟩) 32 cx] 32))).step HCP.out HRB.out HOB.out HGR.out).imp (fun j hj => by unfold upd; split; (rename_i e; rw [e]); rfl)
          · exact ((Chg.kept (HKW.out.trans (HKN.out.alloc (.cells #[.slice (some ⟨gx, 0, none⟩) 32 cx] 32))) HCP.out (fun j e => (HRF.out.rb.olt j e).1)).setCell (Nat.le_refl _) _)
      · rw [if_pos (by rfl)]
        refine wp_appB _ _ (by rfl) wr (gs k) (cs k) (R k) (by rfl) (by rfl) (HSL.out.kept (Kept.refl wr).drew) HRL.out ((Kept.refl wr).drew) ?_
        intro gx cx wN oN hgx kN
        have HON := hidMk oN
        have HKN := hidMk kN
        have HGX := hidMk hgx
        clear oN kN hgx
        refine hK.out _ _ ?_ (fun hHeld => ?_)
        · exact ⟨HKN.out.cellq zr, HKN.out.cellq zg⟩
        clear hK K
        (try simp only [Act.put, List.setIfInBounds_toArray, List.set_cons_zero, List.set_cons_succ])
        refine wpAnyH_ready (rs := [4, 14]) (by kernel_rfl) (by simp) ?_
        refine (AllReadyH.cons (o := { dst := some 37, op := _, type := _, pos := _, after := _, guard := _ }) rfl (fun K hK => ?_) (AllReadyH.cons (o := { dst := some 47, op := _, type := _, pos := _, after := _, guard := _ }) rfl (fun K hK => ?_) AllReadyH.nil))
        · have b1 := HKN.out.cellq HC0.out
          go_simp
          clear b1
          refine hK.out _ _ ?_ (fun hHeld => ?_)
          · exact ⟨HKN.out.cellq zr, HKN.out.cellq zg⟩
          clear hK K
          (try simp only [Act.put, List.setIfInBounds_toArray, List.set_cons_zero, List.set_cons_succ])
          refine wpAnyH_ready (rs := [14]) (by kernel_rfl) (by simp) ?_
          refine (AllReadyH.cons (o := { dst := some 47, op := _, type := _, pos := _, after := _, guard := _ }) rfl (fun K hK => ?_) AllReadyH.nil)
          go_simp
          refine hK.out _ _ ?_ (fun hHeld => ?_)
          · exact ⟨(HKN.out.alloc (.cells #[.slice (some ⟨gx, 0, none⟩) 32 cx] 32)).cellq zr, (HKN.out.alloc (.cells #[.slice (some ⟨gx, 0, none⟩) 32 cx] 32)).cellq zg⟩
          clear hK K
          (try simp only [Act.put, List.setIfInBounds_toArray, List.set_cons_zero, List.set_cons_succ])
          refine wpAnyH_ready (rs := [15]) (by kernel_rfl) (by simp) ?_
          refine (AllReadyH.cons (o := { dst := some 48, op := _, type := _, pos := _, after := _, guard := _ }) rfl (fun K hK => ?_) AllReadyH.nil)
          refine step_pushB _ (by rfl) _ _ (by rfl) w.heap.size v2 k gs2 cs2 R (by rfl) (HRF.out.rb.kept (HKN.out.alloc (.cells #[.slice (some ⟨gx, 0, none⟩) 32 cx] 32))) (by have h1 := HKW.out.size; have h2 := (HKN.out.alloc (.cells #[.slice (some ⟨gx, 0, none⟩) 32 cx] 32)).size; omega) wN.heap.size gx cx (R k) (by rfl) (by simp) (HON.out.kept ((Kept.refl _).alloc _)) HRL.out (by have h1 := HKW.out.size; have h2 := HGX.out.1; omega) (fun e => by have h1 := (HRF.out.rb.olt _ e).2; have h2 := HGX.out.1; omega) (fun j hj e => by have h1 := (HRF.out.rb.row j hj).1.lt; have h2 := HGX.out.1; omega) (by omega) ?_
          intro g' cap' wP hRB hCP hG
          have HRB := hidMk hRB
          have HCP := hidMk hCP
          have HOB := hidMk (ob_ne (n := k + 1) (cap := cap') hG HRF.out.nr1 (by have h2 := HRF.out.lt; have h3 := (HKN.out.alloc (.cells #[.slice (some ⟨gx, 0, none⟩) 32 cx] 32)).size; omega))
          have HGR := hidMk (upd_ne HRF.out.nr2 (x := gx) (by have h2 := HRF.out.lt; have h3 := HGX.out.1; omega))
          have HNR := hidMk (show ¬ v2.ownBlock = some r from fun e => by have h1 := (HRF.out.rb.olt _ e).1; omega)
          have HNG := hidMk (show ¬ v2.ownBlock = some g from fun e => by have h1 := (HRF.out.rb.olt _ e).1; omega)
          clear hRB hCP hG
          refine hK.out _ _ ?_ (fun hHeld => ?_)
          · exact ⟨(HCP.out.cell (p := ⟨r, 0, none⟩) (by show r < _; have h3 := (HKN.out.alloc (.cells #[.slice (some ⟨gx, 0, none⟩) 32 cx] 32)).size; omega) HNR.out).trans ((HKN.out.alloc (.cells #[.slice (some ⟨gx, 0, none⟩) 32 cx] 32)).cellq zr), (HCP.out.cell (p := ⟨g, k, none⟩) (by show g < _; have h3 := (HKN.out.alloc (.cells #[.slice (some ⟨gx, 0, none⟩) 32 cx] 32)).size; omega) HNG.out).trans ((HKN.out.alloc (.cells #[.slice (some ⟨gx, 0, none⟩) 32 cx] 32)).cellq zg)⟩
          clear hK K
          (try simp only [Act.put, List.setIfInBounds_toArray, List.set_cons_zero, List.set_cons_succ])
          refine wpAnyH_take (i := 16) (oi := { dst := some 49, op := _, type := _, pos := _, after := _, guard := _ }) (v := ?_) rfl (by kernel_rfl) (by kernel_rfl) (by kernel_rfl) (fun _ _ _ h => h) (Or.inl ⟨by rfl, ?_⟩) (by assumption) ?_
          rotate_left
          · (intro w9 hSw; (try dsimp only at hSw); (try obtain ⟨hSw1, hSw2⟩ := hSw); go_simp; (try with_reducible rfl))
          (try simp only [Act.put, List.setIfInBounds_toArray, List.set_cons_zero, List.set_cons_succ])
          refine wpAnyH_take (i := 17) (oi := { dst := some 50, op := _, type := _, pos := _, after := _, guard := _ }) (v := ?_) rfl (by kernel_rfl) (by kernel_rfl) (by kernel_rfl) (fun _ _ _ h => h) (Or.inl ⟨by rfl, ?_⟩) (by assumption) ?_
          rotate_left
          · (intro w9 hSw; (try dsimp only at hSw); (try obtain ⟨hSw1, hSw2⟩ := hSw); go_simp; (try with_reducible rfl))
          (try simp only [Act.put, List.setIfInBounds_toArray, List.set_cons_zero, List.set_cons_succ])
          refine wpAnyH_ready (rs := [18]) (by kernel_rfl) (by simp) ?_
          refine (AllReadyH.cons (o := { dst := none, op := _, type := _, pos := _, after := _, guard := _ }) rfl (fun K hK => ?_) AllReadyH.nil)
          have n1 : ¬ v2.ownBlock = some w.heap.size := HRF.out.nr1
          have b1 := (HCP.out.cell (p := ⟨w.heap.size, 0, none⟩) (by show w.heap.size < _; have h2 := HRF.out.lt; have h3 := (HKN.out.alloc (.cells #[.slice (some ⟨gx, 0, none⟩) 32 cx] 32)).size; omega) n1).trans ((HKN.out.alloc (.cells #[.slice (some ⟨gx, 0, none⟩) 32 cx] 32)).cellq HC0.out)
          have bf : wP.frozen? ⟨w.heap.size, 0, none⟩ = false := (HCP.out.frozen (p := ⟨w.heap.size, 0, none⟩) (by show w.heap.size < _; have h2 := HRF.out.lt; have h3 := (HKN.out.alloc (.cells #[.slice (some ⟨gx, 0, none⟩) 32 cx] 32)).size; omega) n1).trans (((HKN.out.alloc (.cells #[.slice (some ⟨gx, 0, none⟩) 32 cx] 32)).frozen (p := ⟨w.heap.size, 0, none⟩) HRF.out.lt).trans (HRF.out.fz 0 (by omega)))
          go_simp
          clear b1 bf
          refine hK.out _ _ ?_ (fun hHeld => ?_)
          · (have kk : wP.cell? ⟨r, 0, none⟩ = some (.slice (some ⟨g, 0, none⟩) n cap) ∧ wP.cell? ⟨g, k, none⟩ = some (.slice (some ⟨gs k, 0, none⟩) 32 (cs k)) := ⟨(HCP.out.cell (p := ⟨r, 0, none⟩) (by show r < _; have h3 := (HKN.out.alloc (.cells #[.slice (some ⟨gx, 0, none⟩) 32 cx] 32)).size; omega) HNR.out).trans ((HKN.out.alloc (.cells #[.slice (some ⟨gx, 0, none⟩) 32 cx] 32)).cellq zr), (HCP.out.cell (p := ⟨g, k, none⟩) (by show g < _; have h3 := (HKN.out.alloc (.cells #[.slice (some ⟨gx, 0, none⟩) 32 cx] 32)).size; omega) HNG.out).trans ((HKN.out.alloc (.cells #[.slice (some ⟨gx, 0, none⟩) 32 cx] 32)).cellq zg)⟩; exact ⟨so kk.1 (by intro e; injection e; omega), so kk.2 (by intro e; injection e; omega)⟩)
          clear hK K
          (try simp only [Act.put, List.setIfInBounds_toArray, List.set_cons_zero, List.set_cons_succ])
          refine wpAnyH_done (by kernel_rfl) ?_ _
          go_wp2_with fail
          go_roundg (gk - 1)
          case measure => have := HKG.out; omega
          case rel =>
            refine ⟨k + 1, .slice (some ⟨g', 0, none⟩) (k + 1) cap', upd gs2 k gx, upd cs2 k cx, by have := HKG.out; omega, by go_num, hidMk ?_, hidMk ?_⟩
            · exact ((HRF.out.kept (HKN.out.alloc (.cells #[.slice (some ⟨gx, 0, none⟩) 32 cx] 32))).step HCP.out HRB.out HOB.out HGR.out).imp (fun j hj => by unfold upd; split; (rename_i e; rw [e]); rfl)
            · exact ((Chg.kept (HKW.out.trans (HKN.out.alloc (.cells #[.slice (some ⟨gx, 0, none⟩) 32 cx] 32))) HCP.out (fun j e => (HRF.out.rb.olt j e).1)).setCell (Nat.le_refl _) _)
        · go_simp
          refine hK.out _ _ ?_ (fun hHeld => ?_)
          · exact ⟨(HKN.out.alloc (.cells #[.slice (some ⟨gx, 0, none⟩) 32 cx] 32)).cellq zr, (HKN.out.alloc (.cells #[.slice (some ⟨gx, 0, none⟩) 32 cx] 32)).cellq zg⟩
          clear hK K
          (try simp only [Act.put, List.setIfInBounds_toArray, List.set_cons_zero, List.set_cons_succ])
          refine wpAnyH_ready (rs := [4]) (by kernel_rfl) (by simp) ?_
          refine (AllReadyH.cons (o := { dst := some 37, op := _, type := _, pos := _, after := _, guard := _ }) rfl (fun K hK => ?_) AllReadyH.nil)
          have b1 := (HKN.out.alloc (.cells #[.slice (some ⟨gx, 0, none⟩) 32 cx] 32)).cellq HC0.out
          go_simp
          clear b1
          refine hK.out _ _ ?_ (fun hHeld => ?_)
          · exact ⟨(HKN.out.alloc (.cells #[.slice (some ⟨gx, 0, none⟩) 32 cx] 32)).cellq zr, (HKN.out.alloc (.cells #[.slice (some ⟨gx, 0, none⟩) 32 cx] 32)).cellq zg⟩
          clear hK K
          (try simp only [Act.put, List.setIfInBounds_toArray, List.set_cons_zero, List.set_cons_succ])
          refine wpAnyH_ready (rs := [15]) (by kernel_rfl) (by simp) ?_
          refine (AllReadyH.cons (o := { dst := some 48, op := _, type := _, pos := _, after := _, guard := _ }) rfl (fun K hK => ?_) AllReadyH.nil)
          refine step_pushB _ (by rfl) _ _ (by rfl) w.heap.size v2 k gs2 cs2 R (by rfl) (HRF.out.rb.kept (HKN.out.alloc (.cells #[.slice (some ⟨gx, 0, none⟩) 32 cx] 32))) (by have h1 := HKW.out.size; have h2 := (HKN.out.alloc (.cells #[.slice (some ⟨gx, 0, none⟩) 32 cx] 32)).size; omega) wN.heap.size gx cx (R k) (by rfl) (by simp) (HON.out.kept ((Kept.refl _).alloc _)) HRL.out (by have h1 := HKW.out.size; have h2 := HGX.out.1; omega) (fun e => by have h1 := (HRF.out.rb.olt _ e).2; have h2 := HGX.out.1; omega) (fun j hj e => by have h1 := (HRF.out.rb.row j hj).1.lt; have h2 := HGX.out.1; omega) (by omega) ?_
          intro g' cap' wP hRB hCP hG
          have HRB := hidMk hRB
          have HCP := hidMk hCP
          have HOB := hidMk (ob_ne (n := k + 1) (cap := cap') hG HRF.out.nr1 (by have h2 := HRF.out.lt; have h3 := (HKN.out.alloc (.cells #[.slice (some ⟨gx, 0, none⟩) 32 cx] 32)).size; omega))
          have HGR := hidMk (upd_ne HRF.out.nr2 (x := gx) (by have h2 := HRF.out.lt; have h3 := HGX.out.1; omega))
          have HNR := hidMk (show ¬ v2.ownBlock = some r from fun e => by have h1 := (HRF.out.rb.olt _ e).1; omega)
          have HNG := hidMk (show ¬ v2.ownBlock = some g from fun e => by have h1 := (HRF.out.rb.olt _ e).1; omega)
          clear hRB hCP hG
          refine hK.out _ _ ?_ (fun hHeld => ?_)
          · exact ⟨(HCP.out.cell (p := ⟨r, 0, none⟩) (by show r < _; have h3 := (HKN.out.alloc (.cells #[.slice (some ⟨gx, 0, none⟩) 32 cx] 32)).size; omega) HNR.out).trans ((HKN.out.alloc (.cells #[.slice (some ⟨gx, 0, none⟩) 32 cx] 32)).cellq zr), (HCP.out.cell (p := ⟨g, k, none⟩) (by show g < _; have h3 := (HKN.out.alloc (.cells #[.slice (some ⟨gx, 0, none⟩) 32 cx] 32)).size; omega) HNG.out).trans ((HKN.out.alloc (.cells #[.slice (some ⟨gx, 0, none⟩) 32 cx] 32)).cellq zg)⟩
          clear hK K
          (try simp only [Act.put, List.setIfInBounds_toArray, List.set_cons_zero, List.set_cons_succ])
          refine wpAnyH_take (i := 16) (oi := { dst := some 49, op := _, type := _, pos := _, after := _, guard := _ }) (v := ?_) rfl (by kernel_rfl) (by kernel_rfl) (by kernel_rfl) (fun _ _ _ h => h) (Or.inl ⟨by rfl, ?_⟩) (by assumption) ?_
          rotate_left
          · (intro w9 hSw; (try dsimp only at hSw); (try obtain ⟨hSw1, hSw2⟩ := hSw); go_simp; (try with_reducible rfl))
          (try simp only [Act.put, List.setIfInBounds_toArray, List.set_cons_zero, List.set_cons_succ])
          refine wpAnyH_take (i := 17) (oi := { dst := some 50, op := _, type := _, pos := _, after := _, guard := _ }) (v := ?_) rfl (by kernel_rfl) (by kernel_rfl) (by kernel_rfl) (fun _ _ _ h => h) (Or.inl ⟨by rfl, ?_⟩) (by assumption) ?_
          rotate_left
          · (intro w9 hSw; (try dsimp only at hSw); (try obtain ⟨hSw1, hSw2⟩ := hSw); go_simp; (try with_reducible rfl))
          (try simp only [Act.put, List.setIfInBounds_toArray, List.set_cons_zero, List.set_cons_succ])
          refine wpAnyH_ready (rs := [18]) (by kernel_rfl) (by simp) ?_
          refine (AllReadyH.cons (o := { dst := none, op := _, type := _, pos := _, after := _, guard := _ }) rfl (fun K hK => ?_) AllReadyH.nil)
          have n1 : ¬ v2.ownBlock = some w.heap.size := HRF.out.nr1
          have b1 := (HCP.out.cell (p := ⟨w.heap.size, 0, none⟩) (by show w.heap.size < _; have h2 := HRF.out.lt; have h3 := (HKN.out.alloc (.cells #[.slice (some ⟨gx, 0, none⟩) 32 cx] 32)).size; omega) n1).trans ((HKN.out.alloc (.cells #[.slice (some ⟨gx, 0, none⟩) 32 cx] 32)).cellq HC0.out)
          have bf : wP.frozen? ⟨w.heap.size, 0, none⟩ = false := (HCP.out.frozen (p := ⟨w.heap.size, 0, none⟩) (by show w.heap.size < _; have h2 := HRF.out.lt; have h3 := (HKN.out.alloc (.cells #[.slice (some ⟨gx, 0, none⟩) 32 cx] 32)).size; omega) n1).trans (((HKN.out.alloc (.cells #[.slice (some ⟨gx, 0, none⟩) 32 cx] 32)).frozen (p := ⟨w.heap.size, 0, none⟩) HRF.out.lt).trans (HRF.out.fz 0 (by omega)))
          go_simp
          clear b1 bf
          refine hK.out _ _ ?_ (fun hHeld => ?_)
          · (have kk : wP.cell? ⟨r, 0, none⟩ = some (.slice (some ⟨g, 0, none⟩) n cap) ∧ wP.cell? ⟨g, k, none⟩ = some (.slice (some ⟨gs k, 0, none⟩) 32 (cs k)) := ⟨(HCP.out.cell (p := ⟨r, 0, none⟩) (by show r < _; have h3 := (HKN.out.alloc (.cells #[.slice (some ⟨gx, 0, none⟩) 32 cx] 32)).size; omega) HNR.out).trans ((HKN.out.alloc (.cells #[.slice (some ⟨gx, 0, none⟩) 32 cx] 32)).cellq zr), (HCP.out.cell (p := ⟨g, k, none⟩) (by show g < _; have h3 := (HKN.out.alloc (.cells #[.slice (some ⟨gx, 0, none⟩) 32 cx] 32)).size; omega) HNG.out).trans ((HKN.out.alloc (.cells #[.slice (some ⟨gx, 0, none⟩) 32 cx] 32)).cellq zg)⟩; exact ⟨so kk.1 (by intro e; injection e; omega), so kk.2 (by intro e; injection e; omega)⟩)
          clear hK K
          (try simp only [Act.put, List.setIfInBounds_toArray, List.set_cons_zero, List.set_cons_succ])
          refine wpAnyH_done (by kernel_rfl) ?_ _
          go_wp2_with fail
          go_roundg (gk - 1)
          case measure => have := HKG.out; omega
          case rel =>
            refine ⟨k + 1, .slice (some ⟨g', 0, none⟩) (k + 1) cap', upd gs2 k gx, upd cs2 k cx, by have := HKG.out; omega, by go_num, hidMk ?_, hidMk ?_⟩
            · exact ((HRF.out.kept (HKN.out.alloc (.cells #[.slice (some ⟨gx, 0, none⟩) 32 cx] 32))).step HCP.out HRB.out HOB.out HGR.out).imp (fun j hj => by unfold upd; split; (rename_i e; rw [e]); rfl)
            · exact ((Chg.kept (HKW.out.trans (HKN.out.alloc (.cells #[.slice (some ⟨gx, 0, none⟩) 32 cx] 32))) HCP.out (fun j e => (HRF.out.rb.olt j e).1)).setCell (Nat.le_refl _) _)
    · have hkN : k = n := by omega
      subst hkN
      go_wp2_with fail
      go_ret
      exact ⟨v2, gs2, cs2, rfl, HRF.out, HKW.out⟩
end
end Go.Proofs.Ytcmhfmbpbbdemaa
