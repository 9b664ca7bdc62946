/- pages: Set, walked. -/
import Derived.Test.YtjkbhaplngnniaaDoorPg6
namespace Go.Proofs.YtjkbhaplngnniaaDoor
open Go.RowKit Go.Maps
set_option linter.unusedSimpArgs false
set_option linter.unusedVariables false

section
variable {w0 W : World} {g p q : Nat} {F : Nat → Prop} {codes most : Int} {n : Nat} {rf : Int → Nat} {nd : Int → ANd} {M : Nat} {n2 : Nat} {rf2 : Int → Nat} {nd2 : Int → ANd} {M2 : Nat}
def SetPost (w0 W : World) (p q : Nat) (F : Nat → Prop) (most : Int) (n : Nat) (rf : Int → Nat) (nd : Int → ANd) (M n2 : Nat) (rf2 : Int → Nat) (nd2 : Int → ANd) (M2 : Nat) (c root : Int) (L : Nat) (e : Int × Bool) (r : Ending) (w' : World) : Prop :=
  ∃ t, SetEnd most (newN nd c root L e) L 1 ⟨n, rf, nd, 0, 0⟩ t ∧ r = .returned (.tuple #[.int .i64 t.id, .int .i64 t.er]) ∧ BA w0 w' p q F most t.n t.rf t.nd (M + 9 * L) n2 rf2 nd2 M2 ∧ Fx F W w'
/-- While Set goes up: the nodes from the level l on are as they were. -/
structure SetW (w0 W : World) (g p q : Nat) (F : Nat → Prop) (codes most : Int) (s : PSt) (M n2 : Nat) (rf2 : Int → Nat) (nd2 : Int → ANd) (M2 : Nat) (wb L l : Nat) (f : Nat → ANd) (X : World) : Prop where
  ba : BA w0 X p q (fun j => F j ∨ j = wb) most s.n s.rf s.nd M n2 rf2 nd2 M2
  pg : PG X g p codes
  wy : WayB X wb L (fun i => l ≤ i) f
  fx : Fx F W X
set_option maxHeartbeats 8000000 in
set_option maxRecDepth 100000 in
theorem pg_Set (h : BA w0 W p q F most n rf nd M n2 rf2 nd2 M2) (hV : Vars w0) (hG : PG W g p codes) (hF : F g) (hM : M + 60 ≤ 4611686018427387904) (root c : Int) (h0 : 0 ≤ c) (hc : c < codes) (hw : WayOk rf nd c root (lvls codes)) (ea : Int) (ec : Bool) (hne : entN (wN nd c root (lvls codes) 1) c ≠ (ea, ec)) :
    Calls Tryd.prog 28 #[.pointer (some ⟨g, 0, none⟩), .int .i64 root, .int .i64 c, .agg #[.int .i64 ea, .bool ec]] W (SetPost w0 W p q F most n rf nd M n2 rf2 nd2 M2 c root (lvls codes) (ea, ec)) := by
  have hlv := lvls_le codes
  have hk2 := hG.k2
  obtain ⟨ow, hAS⟩ := h.as
  obtain ⟨eb, heb⟩ : ∃ b, b = W.heap.size := ⟨_, rfl⟩
  obtain ⟨W1, hW1⟩ : ∃ W1, W1 = W.alloc (.cells #[.int .i64 ea, .bool ec] 39) := ⟨_, rfl⟩
  have k1 : Kept W W1 := by rw [hW1]; exact (Kept.refl W).alloc _
  have r1 : W1.rangeAt eb 0 [.int .i64 ea, .bool ec] := by rw [hW1, heb]; exact new_range W [.int .i64 ea, .bool ec] _
  have hkA := hAS.ok.2.1
  have HWY := hidMk (pg_way (hAS.keep k1) (hG.kept k1) root c h0 hc hw)
  have HDGA := hidMk (fun (l : Nat) (h1 : 1 ≤ l) (h2 : l ≤ 5) W => pages_digit c l h0 (by omega) h1 h2 W)
  have HKA := hidMk hkA
  have hdl := dig_lt c 1
  obtain ⟨dd, hdd⟩ : ∃ dd : Nat, dig c 1 = (dd : Int) := ⟨(dig c 1).toNat, by omega⟩
  have hd8 : (dd : Int) < 8 := by omega
  have HDG1 := hidMk (fun W => HDGA.out 1 (by omega) (by omega) W)
  rw [hdd] at HDG1
  have hyk := wN_ok hkA c root (lvls codes) 1
  have HEN := hidMk (fun (Y : World) (b : Nat) (h : Y.rangeAt b 0 (ndL (wN nd c root (lvls codes) 1))) => show Y.cell? ⟨b, 9 + dd * 2, none⟩ = some (.int .i64 (entN (wN nd c root (lvls codes) 1) c).1) ∧ Y.cell? ⟨b, 9 + dd * 2 + 1, none⟩ = some (.bool (entN (wN nd c root (lvls codes) 1) c).2) from by
    have hh := ndL_ent _ hyk.1 hyk.2 dd (by omega)
    unfold entN
    rw [hdd, show ((dd : Int)).toNat = dd by omega, show dd * 2 = 2 * dd by omega]
    have h1 := h _ _ hh.1
    have h2 := h _ _ hh.2
    rw [Nat.zero_add] at h1 h2
    exact ⟨h1, h2⟩)
  have heqE : ∀ W, (Op.equalIn 10000 39 (.agg #[.int .i64 (entN (wN nd c root (lvls codes) 1) c).1, .bool (entN (wN nd c root (lvls codes) 1) c).2]) (.agg #[.int .i64 ea, .bool ec])).run Tryd.prog W = .ok false W := fun W => by
    rw [en_eq 9998, decide_eq_false hne]
  have HN1 := hidMk (show newN nd c root (lvls codes) (ea, ec) 1 0 = ⟨true, (wN nd c root (lvls codes) 1).kids, (wN nd c root (lvls codes) 1).vals.set dd (ea, ec)⟩ from by
    unfold newN; rw [if_pos rfl, hdd]; rfl)
  generalize hpa : (entN (wN nd c root (lvls codes) 1) c).1 = pa at *
  generalize hpb : (entN (wN nd c root (lvls codes) 1) c).2 = pb at *
  have HWP := hidMk (show ∀ e w', WayPost W1 nd c root (lvls codes) e w' → ∃ wb, e = .returned (.tuple #[.slice (some ⟨wb, 0, none⟩) (lvls codes) (lvls codes), .int .i64 0]) ∧ W1.heap.size ≤ wb ∧ wb < w'.heap.size ∧ Kept W1 w' ∧ WayB w' wb (lvls codes) (fun _ => True) (fun i => wN nd c root (lvls codes) (i + 1)) from fun e w' h => h)
  have HB := hidMk h
  have HG := hidMk hG
  have HF := hidMk hF
  have HV := hidMk hV
  have HK1 := hidMk k1
  have HFL := hidMk h.flt
  have HR1 := hidMk r1
  have HS1 := hidMk (show eb = W.heap.size ∧ W1.heap.size = eb + 1 from ⟨heb, by rw [hW1, heb]; simp⟩)
  have HYK := hidMk hyk
  have HCO := hidMk (show ∀ X : World, PG X g p codes → X.cell? ⟨g, 2, none⟩ = some (.int .i64 (lvls codes)) from fun X hX => hX.c2)
  generalize hL : lvls codes = L at *
  have hL0 : 0 < L := by omega
  clear h hV hG hF hw hne hAS k1 r1 hkA hyk hpa hpb
  go_enter Tryd.func28, Tryd.ntmps28
  go_wp2_with fail
  rw [← hW1, ← heb]
  clear hW1 heb
  refine HWY.out.mono ?_
  intro e w2 hw2
  obtain ⟨wb, rfl, hwb1, hwb2, k2, hwy⟩ := HWP.out e w2 hw2
  obtain ⟨X, hX⟩ : ∃ X, X = w2.drew := ⟨_, rfl⟩
  have HX := hidMk hX
  have kX : Kept w2 X := by rw [hX]; exact (Kept.refl w2).drew
  have hwX : WayB X wb L (fun _ => True) (fun i => wN nd c root L (i + 1)) := hwy.kept kX hwb2
  have hr0 : X.rangeAt wb 0 (ndL (wN nd c root L 1)) := by have := hwX.2 0 (by omega) trivial; simpa using this
  obtain ⟨e1, e2⟩ := HEN.out X wb hr0
  have x0 : X.cell? ⟨eb, 0, none⟩ = some (.int .i64 ea) := (k2.trans kX).cellp (by have := HR1.out 0 _ rfl; simpa using this)
  have x1 : X.cell? ⟨eb, 1, none⟩ = some (.bool ec) := (k2.trans kX).cellp (by have := HR1.out 1 _ rfl; simpa using this)
  have hne2 : eb ≠ wb := by have := HS1.out; omega
  have hth : X.there wb 0 25 := by have := hwX.1 0 (by omega); simpa using this
  have t0 := (hth 0 (by omega)).2
  simp only [Nat.add_zero] at t0
  have t1 : X.cell? ⟨wb, 0, none⟩ = some (.bool (wN nd c root L 1).leaf) := by have := hr0 0 _ rfl; simpa using this
  have HXB := hidMk (show BA w0 X p q (fun j => F j ∨ j = wb) most n rf nd M n2 rf2 nd2 M2 ∧ PG X g p codes ∧ Fx F W X from by
    have kk : Kept W X := HK1.out.trans (k2.trans kX)
    refine ⟨HB.out.with kk (fun j hj => hj.imp id (fun e => ⟨by have := HS1.out; omega, by rw [e]; exact Nat.lt_of_lt_of_le hwb2 kX.size⟩)), HG.out.kept kk, Fx.of_kept kk HFL.out⟩)
  have HWX := hidMk hwX
  have HWS := hidMk (show wb < X.heap.size from Nat.lt_of_lt_of_le hwb2 kX.size)
  have HTH := hidMk hth
  have HRX := hidMk hr0
  have HNF := hidMk (show ¬ F wb from fun e => by have := HFL.out wb e; have := HS1.out; omega)
  generalize hlf : (wN nd c root L 1).leaf = lf0 at *
  clear hw2 HWY HWP k2 hwy kX hwX hr0 hth hX HEN HB HG HK1 HR1
  go_upto_region 4 with fail
  go_cut [32] from 24 to 31 (fun s W' => s = .bool false ∧ W' = X)
  case first =>
    refine wp_region_held_drew (S := (fun w' => w' = X)) (by kernel_rfl) ?_ (fun hHeld => ?_)
    · exact HX.out.symm
    rw [hHeld]
    clear hHeld
    have hHeld : X = X := rfl
    refine wpAnyH_take (i := 0) (oi := { dst := some 24, op := _, type := _, pos := _, after := _, guard := _ }) (v := ?_) rfl (by kernel_rfl) (by kernel_rfl) (by kernel_rfl) (fun _ _ _ h => h) (Or.inl ⟨by rfl, ?_⟩) (by assumption) ?_
    rotate_left
    · (intro w hSw; subst hSw; go_simp; (try with_reducible rfl))
    (try simp only [Act.put, List.setIfInBounds_toArray, List.set_cons_zero, List.set_cons_succ])
    refine wpAnyH_take (i := 1) (oi := { dst := some 25, op := _, type := _, pos := _, after := _, guard := _ }) (v := ?_) rfl (by kernel_rfl) (by kernel_rfl) (by kernel_rfl) (fun _ _ _ h => h) (Or.inl ⟨by rfl, ?_⟩) (by assumption) ?_
    rotate_left
    · (intro w hSw; subst hSw; go_simp; (try with_reducible rfl))
    (try simp only [Act.put, List.setIfInBounds_toArray, List.set_cons_zero, List.set_cons_succ])
    refine wpAnyH_take (i := 3) (oi := { dst := some 27, op := _, type := _, pos := _, after := _, guard := _ }) (v := ?_) rfl (by kernel_rfl) (by kernel_rfl) (by kernel_rfl) (fun _ _ _ h => h) (Or.inl ⟨by rfl, ?_⟩) (by assumption) ?_
    rotate_left
    · (intro w hSw; subst hSw; go_simp; (try with_reducible rfl))
    (try simp only [Act.put, List.setIfInBounds_toArray, List.set_cons_zero, List.set_cons_succ])
    refine wpAnyH_take (i := 4) (oi := { dst := some 28, op := _, type := _, pos := _, after := _, guard := _ }) (v := ?_) rfl (by kernel_rfl) (by kernel_rfl) (by kernel_rfl) (fun _ _ _ h => h) (Or.inl ⟨by rfl, ?_⟩) (by assumption) ?_
    rotate_left
    · (intro w hSw; subst hSw; go_simp; (try with_reducible rfl))
    (try simp only [Act.put, List.setIfInBounds_toArray, List.set_cons_zero, List.set_cons_succ])
    refine wpAnyH_take (i := 7) (oi := { dst := some 31, op := _, type := _, pos := _, after := _, guard := _ }) (v := ?_) rfl (by kernel_rfl) (by kernel_rfl) (by kernel_rfl) (fun _ _ _ h => h) (Or.inl ⟨by rfl, ?_⟩) (by assumption) ?_
    rotate_left
    · (intro w hSw; subst hSw; go_simp; (try with_reducible rfl))
    (try simp only [Act.put, List.setIfInBounds_toArray, List.set_cons_zero, List.set_cons_succ])
    refine wpAnyH_ready (rs := [2]) (by kernel_rfl) (by simp) ?_
    refine AllReadyH.cons (o := { dst := some 26, op := _, type := _, pos := _, after := _, guard := _ }) rfl (fun K hK => ?_) AllReadyH.nil
    go_simp
    refine (HDG1.out X).mono ?_
    rintro e w5 ⟨rfl, hw5⟩
    rw [hw5]
    (try go_wp2_with fail)
    refine hK.out _ _ ?_ (fun hHeld => ?_)
    · (first | rfl | assumption | exact hw5)
    clear hK K
    (try simp only [Act.put, List.setIfInBounds_toArray, List.set_cons_zero, List.set_cons_succ])
    refine wpAnyH_take (i := 5) (oi := { dst := some 29, op := _, type := _, pos := _, after := _, guard := _ }) (v := ?_) rfl (by kernel_rfl) (by kernel_rfl) (by kernel_rfl) (fun _ _ _ h => h) (Or.inl ⟨by rfl, ?_⟩) (by assumption) ?_
    rotate_left
    · (intro w hSw; subst hSw; go_simp; (try with_reducible rfl))
    (try simp only [Act.put, List.setIfInBounds_toArray, List.set_cons_zero, List.set_cons_succ])
    refine wpAnyH_take (i := 6) (oi := { dst := some 30, op := _, type := _, pos := _, after := _, guard := _ }) (v := ?_) rfl (by kernel_rfl) (by kernel_rfl) (by kernel_rfl) (fun _ _ _ h => h) (Or.inl ⟨by rfl, ?_⟩) (by assumption) ?_
    rotate_left
    · (intro w hSw; subst hSw; go_simp; (try with_reducible rfl))
    (try simp only [Act.put, List.setIfInBounds_toArray, List.set_cons_zero, List.set_cons_succ])
    refine wpAnyH_take (i := 8) (oi := { dst := some 32, op := _, type := _, pos := _, after := _, guard := _ }) (v := ?_) rfl (by kernel_rfl) (by kernel_rfl) (by kernel_rfl) (fun _ _ _ h => h) (Or.inl ⟨by rfl, ?_⟩) (by assumption) ?_
    rotate_left
    · (intro w hSw; subst hSw; go_simp; (try with_reducible rfl))
    (try simp only [Act.put, List.setIfInBounds_toArray, List.set_cons_zero, List.set_cons_succ])
    refine wpAnyH_done (by kernel_rfl) ?_ _
    go_wp2_with fail
    go_meet
    exact ⟨rfl, rfl⟩
  case rest =>
    obtain ⟨rfl, rfl⟩ := hcut
    clear e1 e2 heqE
    go_upto_region 7 with fail
    obtain ⟨W6, hW6⟩ : ∃ W, W = wc.setCell ⟨wb, 0, none⟩ (.bool true) := ⟨_, rfl⟩
    rw [← hW6]
    have c6 : Chg (fun j => j = wb) wc W6 := by rw [hW6]; exact chg_setCells (S := fun j => j = wb) rfl [.bool true] 0 (Chg.refl _ _)
    have r6 : W6.rangeAt wb 0 (ndL ⟨true, (wN nd c root L 1).kids, (wN nd c root L 1).vals⟩) := by
      rw [hW6, ← ndL_setF (wN nd c root L 1) true]
      exact range_setAt (f := 0) (o := 0) HRX.out [.bool true] (by simp [ndL])
    replace x0 := c6.cellp x0 (fun e => hne2 e)
    replace x1 := c6.cellp x1 (fun e => hne2 e)
    have ht6 : W6.there wb 0 25 := by rw [hW6]; exact there_setCells HTH.out wb 0 [.bool true]
    have HT7 := hidMk (show W6.drew.there wb (9 + dd * 2) 2 from ((Kept.refl W6).drew).there (by have := c6.size; have := HWS.out; omega) (there_sub ht6 (by omega) (by omega)))
    obtain ⟨W7, hW7⟩ : ∃ W, W = W6.drew.setCells wb (9 + dd * 2) [.int .i64 ea, .bool ec] := ⟨_, rfl⟩
    have c7 : Chg (fun j => j = wb) W6 W7 := by rw [hW7]; exact chg_setCells (S := fun j => j = wb) rfl _ _ ((Chg.refl _ W6).drew)
    have HS7 := hidMk (show W7.cell? ⟨eb, 0, none⟩ = some (.int .i64 ea) ∧ W7.cell? ⟨eb, 1, none⟩ = some (.bool ec) from ⟨c7.cellp x0 hne2, c7.cellp x1 hne2⟩)
    have r7 : W7.rangeAt wb 0 (ndL (newN nd c root L (ea, ec) 1 0)) := by
      rw [HN1.out, hW7, ← ndL_setV (y := ⟨true, (wN nd c root L 1).kids, (wN nd c root L 1).vals⟩) HYK.out.1 HYK.out.2 (by omega) ea ec]
      have hz := range_setAt (f := 0) (o := 9 + dd * 2) (((Kept.refl W6).drew).range r6) [.int .i64 ea, .bool ec] (by rw [ndL_len ⟨true, (wN nd c root L 1).kids, (wN nd c root L 1).vals⟩ HYK.out.1 HYK.out.2]; simp; omega)
      rw [Nat.zero_add] at hz
      exact hz
    have c67 : Chg (fun j => j = wb) wc W7 := c6.trans c7
    have HW7B := hidMk (show SetW w0 W g p q F codes most ⟨n, rf, nd, 0, 0⟩ M n2 rf2 nd2 M2 wb L 1 (fun i => wN nd c root L (i + 1)) W7 from by
      refine ⟨HXB.out.1.poke (b := wb) (.inr rfl) c67, ?_, ?_, HXB.out.2.2.trans (Fx.poke HNF.out (HXB.out.1.fewer (fun j hj => .inl hj)).flt c67)⟩
      · have hgw : g ≠ wb := fun e => HNF.out (e ▸ HF.out)
        exact ⟨c67.cellp HXB.out.2.1.c0 hgw, c67.cellp HXB.out.2.1.c1 hgw, c67.cellp HXB.out.2.1.c2 hgw, HXB.out.2.1.k1, HXB.out.2.1.k2⟩
      · refine ⟨fun i hi => ?_, fun i hi hd => ?_⟩
        · rw [hW7]; exact there_setCells (((Kept.refl W6).drew).there (by have := c6.size; have := HWS.out; omega) (by rw [hW6]; exact there_setCells (HWX.out.1 i hi) wb 0 [.bool true])) _ _ _
        · rw [hW7]
          refine World.rangeAt_setCells_apart (((Kept.refl W6).drew).range ?_) _ _ _ (.inr (.inr (by simp; omega)))
          rw [hW6]
          exact World.rangeAt_setCells_apart (HWX.out.2 i hi trivial) wb 0 [.bool true] (.inr (.inr (by simp; omega))))
    have HR7 := hidMk r7
    have HY1 := hidMk (newN_ok HKA.out c root L (ea, ec) 1 0)
    clear hW6 r6 ht6 c6 c7 c67 r7
    go_cut [] from 40 to 46 (fun W' => W' = W7)
    case first =>
      refine wp_region_held_drew (S := (fun w' => w'.cell? ⟨eb, 0, none⟩ = some (.int .i64 ea) ∧ w'.cell? ⟨eb, 1, none⟩ = some (.bool ec))) (by kernel_rfl) ?_ (fun hHeld => ?_)
      · exact ⟨((Kept.refl W6).drew).cellp x0, ((Kept.refl W6).drew).cellp x1⟩
      refine wpAnyH_take (i := 0) (oi := { dst := some 40, op := _, type := _, pos := _, after := _, guard := _ }) (v := ?_) rfl (by kernel_rfl) (by kernel_rfl) (by kernel_rfl) (fun _ _ _ h => h) (Or.inl ⟨by rfl, ?_⟩) (by assumption) ?_
      rotate_left
      · (intro w hSw; (try obtain ⟨hSw1, hSw2⟩ := hSw); go_simp; (try with_reducible rfl))
      (try simp only [Act.put, List.setIfInBounds_toArray, List.set_cons_zero, List.set_cons_succ])
      refine wpAnyH_take (i := 1) (oi := { dst := some 41, op := _, type := _, pos := _, after := _, guard := _ }) (v := ?_) rfl (by kernel_rfl) (by kernel_rfl) (by kernel_rfl) (fun _ _ _ h => h) (Or.inl ⟨by rfl, ?_⟩) (by assumption) ?_
      rotate_left
      · (intro w hSw; (try obtain ⟨hSw1, hSw2⟩ := hSw); go_simp; (try with_reducible rfl))
      (try simp only [Act.put, List.setIfInBounds_toArray, List.set_cons_zero, List.set_cons_succ])
      refine wpAnyH_take (i := 3) (oi := { dst := some 43, op := _, type := _, pos := _, after := _, guard := _ }) (v := ?_) rfl (by kernel_rfl) (by kernel_rfl) (by kernel_rfl) (fun _ _ _ h => h) (Or.inl ⟨by rfl, ?_⟩) (by assumption) ?_
      rotate_left
      · (intro w hSw; (try obtain ⟨hSw1, hSw2⟩ := hSw); go_simp; (try with_reducible rfl))
      (try simp only [Act.put, List.setIfInBounds_toArray, List.set_cons_zero, List.set_cons_succ])
      refine wpAnyH_take (i := 4) (oi := { dst := some 44, op := _, type := _, pos := _, after := _, guard := _ }) (v := ?_) rfl (by kernel_rfl) (by kernel_rfl) (by kernel_rfl) (fun _ _ _ h => h) (Or.inl ⟨by rfl, ?_⟩) (by assumption) ?_
      rotate_left
      · (intro w hSw; (try obtain ⟨hSw1, hSw2⟩ := hSw); go_simp; (try with_reducible rfl))
      (try simp only [Act.put, List.setIfInBounds_toArray, List.set_cons_zero, List.set_cons_succ])
      refine wpAnyH_take (i := 5) (oi := { dst := some 45, op := _, type := _, pos := _, after := _, guard := _ }) (v := ?_) rfl (by kernel_rfl) (by kernel_rfl) (by kernel_rfl) (fun _ _ _ h => h) (Or.inl ⟨by rfl, ?_⟩) (by assumption) ?_
      rotate_left
      · (intro w hSw; (try obtain ⟨hSw1, hSw2⟩ := hSw); go_simp; (try with_reducible rfl))
      (try simp only [Act.put, List.setIfInBounds_toArray, List.set_cons_zero, List.set_cons_succ])
      refine wpAnyH_ready (rs := [2]) (by kernel_rfl) (by simp) ?_
      refine AllReadyH.cons (o := { dst := some 42, op := _, type := _, pos := _, after := _, guard := _ }) rfl (fun K hK => ?_) AllReadyH.nil
      go_simp
      refine (HDG1.out W6.drew).mono ?_
      rintro e w5 ⟨rfl, hw5⟩
      rw [hw5]
      (try go_wp2_with fail)
      refine hK.out _ _ ?_ (fun hHeld => ?_)
      · (first | assumption | exact HS7.out | (rw [← hW7]; exact HS7.out))
      clear hK K
      (try simp only [Act.put, List.setIfInBounds_toArray, List.set_cons_zero, List.set_cons_succ])
      refine wpAnyH_take (i := 6) (oi := { dst := some 46, op := _, type := _, pos := _, after := _, guard := _ }) (v := ?_) rfl (by kernel_rfl) (by kernel_rfl) (by kernel_rfl) (fun _ _ _ h => h) (Or.inl ⟨by rfl, ?_⟩) (by assumption) ?_
      rotate_left
      · (intro w hSw; (try obtain ⟨hSw1, hSw2⟩ := hSw); go_simp; (try with_reducible rfl))
      (try simp only [Act.put, List.setIfInBounds_toArray, List.set_cons_zero, List.set_cons_succ])
      refine wpAnyH_ready (rs := [7]) (by kernel_rfl) (by simp) ?_
      refine AllReadyH.cons (o := { dst := none, op := _, type := _, pos := _, after := _, guard := _ }) rfl (fun K hK => ?_) AllReadyH.nil
      rw [if_pos (by rfl)]
      refine wp_store_mid _ _ _ rfl wb (9 + dd * 2) #[.int .i64 ea, .bool ec] rfl rfl HT7.out en_size (by simp [Value.oneCell']) ?_
      refine hK.out _ _ ?_ (fun hHeld => ?_)
      · (first | assumption | exact HS7.out | (rw [← hW7]; exact HS7.out))
      clear hK K
      (try simp only [Act.put, List.setIfInBounds_toArray, List.set_cons_zero, List.set_cons_succ])
      refine wpAnyH_done (by kernel_rfl) ?_ _
      go_wp2_with fail
      go_meet
      exact hW7.symm
    case rest =>
      subst hcut
      clear hW7 x0 x1 HS7 HT7 HXB HWX HTH HRX t0 t1
      obtain ⟨u, hu⟩ := abv_ex most ⟨n, rf, nd, 0, 0⟩ (newN nd c root L (ea, ec) 1 0) HY1.out HKA.out (by obtain ⟨ow', hh⟩ := HW7B.out.ba.as; exact hh.ok.1)
      have HAB := hidMk (pg_aboveS HW7B.out.ba HV.out HW7B.out.pg (.inl HF.out) (by omega) _ HY1.out u hu)
      have HU := hidMk hu
      have HLN := hidMk (ndL_len _ HY1.out.1 HY1.out.2)
      unfold ndV at HAB
      generalize hLY : ndL (newN nd c root L (ea, ec) 1 0) = LY at *
      clear hu hLY
      go_wp2_with (first | (refine wpl_loadN rfl _ rfl wb 0 rfl LY HLN.out HR7.out ?_))
      refine HAB.out.mono ?_
      rintro e w8 ⟨rfl, hb8, hx8⟩
      have HW8 := hidMk (show SetW w0 W g p q F codes most u (M + 9 * 1) n2 rf2 nd2 M2 wb L 1 (fun i => wN nd c root L (i + 1)) w8 from by
        have h7 := HW7B.out
        exact ⟨hb8, hx8.pg h7.pg (.inl HF.out), ⟨fun i hi => hx8.there (.inr rfl) (h7.wy.1 i hi), fun i hi hd => hx8.range (.inr rfl) (h7.wy.2 i hi hd)⟩, h7.fx.trans (hx8.fewer (fun j hj => .inl hj))⟩)
      have HSE := hidMk (show ∀ t, SetEnd most (newN nd c root L (ea, ec)) (L - 1) 2 u t → SetEnd most (newN nd c root L (ea, ec)) L 1 ⟨n, rf, nd, 0, 0⟩ t from fun t ht => by
        obtain ⟨K, rfl⟩ : ∃ K, L = K + 1 := ⟨L - 1, by omega⟩
        exact .inr ⟨rfl, u, HU.out, ht⟩)
      clear hb8 hx8 HAB HU HW7B HLN HR7
      go_wp2_with fail
      go_loopg [11, 12, 13] (L + 1) (fun gg s11 s12 s13 wr => ∃ (l : Nat) (u : PSt), l + gg = L + 2 ∧ 1 ≤ l ∧ l ≤ L ∧ s11 = .int .i64 u.er ∧ s12 = .int .i64 u.id ∧ s13 = .int .i64 ((l : Int) + 1) ∧ Hid (SetW w0 W g p q F codes most u (M + 9 * l) n2 rf2 nd2 M2 wb L l (fun i => wN nd c root L (i + 1)) wr) ∧ Hid (∀ t, SetEnd most (newN nd c root L (ea, ec)) (L - l) (l + 1) u t → SetEnd most (newN nd c root L (ea, ec)) L 1 ⟨n, rf, nd, 0, 0⟩ t))
      case atStart => exact ⟨1, u, by omega, by omega, by omega, rfl, rfl, rfl, HW8, HSE⟩
      case round =>
        clear HW8 HSE
        obtain ⟨l, u, hlg, hl1, hlL, rfl, rfl, rfl, HSW, HSE⟩ := hrel
        have HLG := hidMk hlg
        have c2 := HCO.out _ HSW.out.pg
        by_cases hdone : l = L
        · have hl' : ¬ ((l : Int) + 1 ≤ (L : Int)) := by omega
          have HFIN := hidMk (HSE.out u (by rw [hdone, Nat.sub_self]; rfl))
          have HDN := hidMk hdone
          clear hlg hdone
          go_wp2_with fail
          go_ret2
          refine ⟨u, HFIN.out, rfl, ?_, HSW.out.fx⟩
          have hb := HSW.out.ba.fewer (F' := F) (fun j hj => .inl hj)
          rw [HDN.out] at hb
          exact hb
        · have hl' : (l : Int) + 1 ≤ (L : Int) := by omega
          by_cases her : u.er = 0
          · obtain ⟨K, hK⟩ : ∃ K, L - l = K + 1 := ⟨L - l - 1, by omega⟩
            have hyo := newN_ok HKA.out c root L (ea, ec) (l + 1) u.id
            obtain ⟨v, hv⟩ := abv_ex most u (newN nd c root L (ea, ec) (l + 1) u.id) hyo (by obtain ⟨ow', hh⟩ := HSW.out.ba.as; exact hh.ok.2.1) (by obtain ⟨ow', hh⟩ := HSW.out.ba.as; exact hh.ok.1)
            have HSE2 := hidMk (show ∀ t, SetEnd most (newN nd c root L (ea, ec)) (L - (l + 1)) (l + 1 + 1) v t → SetEnd most (newN nd c root L (ea, ec)) L 1 ⟨n, rf, nd, 0, 0⟩ t from fun t ht => HSE.out t (by
              rw [hK]
              rw [show L - (l + 1) = K by omega] at ht
              exact .inr ⟨her, v, hv, ht⟩))
            have hdl2 := dig_lt c (l + 1)
            obtain ⟨d2, hd2⟩ : ∃ d2 : Nat, dig c (l + 1) = (d2 : Int) := ⟨(dig c (l + 1)).toNat, by omega⟩
            have hd28 : (d2 : Int) < 8 := by omega
            have HDG := hidMk (fun W => HDGA.out (l + 1) (by omega) (by omega) W)
            rw [hd2] at HDG
            have hyk := wN_ok HKA.out c root L (l + 1)
            have hrl : wr.rangeAt wb (l * 25) (ndL (wN nd c root L (l + 1))) := HSW.out.wy.2 l (by omega) (Nat.le_refl _)
            have hth := HSW.out.wy.1 l (by omega)
            have kc : wr.cell? ⟨wb, l * 25 + 1 + d2, none⟩ = some (.int .i64 ((wN nd c root L (l + 1)).kids.getD d2 0)) := by
              have := hrl (1 + d2) _ (ndL_kid _ hyk.1 d2 (by omega))
              rwa [← Nat.add_assoc] at this
            have kf : wr.frozen? ⟨wb, l * 25 + 1 + d2, none⟩ = false := by
              have := (hth (1 + d2) (by omega)).2
              rwa [← Nat.add_assoc] at this
            have HNW := hidMk (show newN nd c root L (ea, ec) (l + 1) u.id = ⟨(wN nd c root L (l + 1)).leaf, (wN nd c root L (l + 1)).kids.set d2 u.id, (wN nd c root L (l + 1)).vals⟩ from by
              unfold newN; rw [if_neg (by omega), hd2]; rfl)
            obtain ⟨W9, hW9⟩ : ∃ W, W = wr.drew.setCell ⟨wb, l * 25 + 1 + d2, none⟩ (.int .i64 u.id) := ⟨_, rfl⟩
            have c9 : Chg (fun j => j = wb) wr W9 := by rw [hW9]; exact chg_setCells (S := fun j => j = wb) rfl [.int .i64 u.id] _ ((Chg.refl _ wr).drew)
            have HR9 := hidMk (show W9.rangeAt wb (l * 25) (ndL (newN nd c root L (ea, ec) (l + 1) u.id)) from by
              rw [HNW.out, hW9, ← ndL_setK (y := wN nd c root L (l + 1)) hyk.1 (by omega) u.id]
              have hz := range_setAt (f := l * 25) (o := 1 + d2) (((Kept.refl wr).drew).range hrl) [.int .i64 u.id] (by rw [ndL_len _ hyk.1 hyk.2]; simp; omega)
              rw [← Nat.add_assoc] at hz
              exact hz)
            have HW9 := hidMk (show SetW w0 W g p q F codes most u (M + 9 * l) n2 rf2 nd2 M2 wb L (l + 1) (fun i => wN nd c root L (i + 1)) W9 from by
              have hgw : g ≠ wb := fun e => HNF.out (e ▸ HF.out)
              have h7 := HSW.out
              refine ⟨h7.ba.poke (b := wb) (.inr rfl) c9, ⟨c9.cellp h7.pg.c0 hgw, c9.cellp h7.pg.c1 hgw, c9.cellp h7.pg.c2 hgw, h7.pg.k1, h7.pg.k2⟩, ⟨fun i hi => ?_, fun i hi hd => ?_⟩, h7.fx.trans (Fx.poke HNF.out (h7.ba.fewer (fun j hj => .inl hj)).flt c9)⟩
              · rw [hW9]; exact there_setCells (((Kept.refl wr).drew).there (h7.ba.flt wb (.inr rfl)) (h7.wy.1 i hi)) wb _ [.int .i64 u.id]
              · rw [hW9]
                exact World.rangeAt_setCells_apart (((Kept.refl wr).drew).range (h7.wy.2 i hi (by omega))) wb (l * 25 + 1 + d2) [.int .i64 u.id] (.inr (.inr (by simp; omega))))
            have HAB := hidMk (pg_aboveS HW9.out.ba HV.out HW9.out.pg (.inl HF.out) (by omega) _ hyo v hv)
            have HLN := hidMk (ndL_len _ hyo.1 hyo.2)
            have hwl : wrap64 ((l : Int) + 1 - 1) = (l : Int) := by rw [show (l : Int) + 1 - 1 = (l : Int) by omega]; exact wrap_fit (by omega) (by omega)
            have hlL' : (l : Int) < (L : Int) := by omega
            have hwi : IntKind.i64.wrap (l : Int) = (l : Int) := by rw [IntKind.wrap_i64]; omega
            have hll : ((l + 1 : Nat) : Int) = (l : Int) + 1 := by omega
            rw [hll] at HDG
            unfold ndV at HAB
            generalize hLY : ndL (newN nd c root L (ea, ec) (l + 1) u.id) = LY at *
            generalize hkv : (wN nd c root L (l + 1)).kids.getD d2 0 = kv at *
            clear hyo hyk hrl hth hdl2 hv hLY hK hd2 HSE HSW hlg hdone c9
            go_upto_region 12 with fail
            go_cut [11] from 55 to 76 (fun s W' => s = .int .i64 0 ∧ W' = W9)
            case first =>
              refine wp_region_held_drew (S := (fun w' => True)) (by kernel_rfl) ?_ (fun hHeld => ?_)
              · trivial
              refine wpAnyH_take (i := 0) (oi := { dst := some 67, op := _, type := _, pos := _, after := _, guard := _ }) (v := ?_) rfl (by kernel_rfl) (by kernel_rfl) (by kernel_rfl) (fun _ _ _ h => h) (Or.inl ⟨by rfl, ?_⟩) (by assumption) ?_
              rotate_left
              · (intro w hSw; go_simp; (try with_reducible rfl))
              (try simp only [Act.put, List.setIfInBounds_toArray, List.set_cons_zero, List.set_cons_succ])
              refine wpAnyH_take (i := 1) (oi := { dst := some 68, op := _, type := _, pos := _, after := _, guard := _ }) (v := ?_) rfl (by kernel_rfl) (by kernel_rfl) (by kernel_rfl) (fun _ _ _ h => h) (Or.inl ⟨by rfl, ?_⟩) (by assumption) ?_
              rotate_left
              · (intro w hSw; go_simp; (try with_reducible rfl))
              (try simp only [Act.put, List.setIfInBounds_toArray, List.set_cons_zero, List.set_cons_succ])
              refine wpAnyH_take (i := 2) (oi := { dst := some 69, op := _, type := _, pos := _, after := _, guard := _ }) (v := ?_) rfl (by kernel_rfl) (by kernel_rfl) (by kernel_rfl) (fun _ _ _ h => h) (Or.inl ⟨by rfl, ?_⟩) (by assumption) ?_
              rotate_left
              · (intro w hSw; go_simp; (try with_reducible rfl))
              (try simp only [Act.put, List.setIfInBounds_toArray, List.set_cons_zero, List.set_cons_succ])
              refine wpAnyH_take (i := 3) (oi := { dst := some 70, op := _, type := _, pos := _, after := _, guard := _ }) (v := ?_) rfl (by kernel_rfl) (by kernel_rfl) (by kernel_rfl) (fun _ _ _ h => h) (Or.inl ⟨by rfl, ?_⟩) (by assumption) ?_
              rotate_left
              · (intro w hSw; go_simp; (try with_reducible rfl))
              (try simp only [Act.put, List.setIfInBounds_toArray, List.set_cons_zero, List.set_cons_succ])
              refine wpAnyH_take (i := 4) (oi := { dst := some 71, op := _, type := _, pos := _, after := _, guard := _ }) (v := ?_) rfl (by kernel_rfl) (by kernel_rfl) (by kernel_rfl) (fun _ _ _ h => h) (Or.inl ⟨by rfl, ?_⟩) (by assumption) ?_
              rotate_left
              · (intro w hSw; go_simp; (try with_reducible rfl))
              (try simp only [Act.put, List.setIfInBounds_toArray, List.set_cons_zero, List.set_cons_succ])
              refine wpAnyH_take (i := 6) (oi := { dst := some 73, op := _, type := _, pos := _, after := _, guard := _ }) (v := ?_) rfl (by kernel_rfl) (by kernel_rfl) (by kernel_rfl) (fun _ _ _ h => h) (Or.inl ⟨by rfl, ?_⟩) (by assumption) ?_
              rotate_left
              · (intro w hSw; go_simp; (try with_reducible rfl))
              (try simp only [Act.put, List.setIfInBounds_toArray, List.set_cons_zero, List.set_cons_succ])
              refine wpAnyH_take (i := 7) (oi := { dst := some 74, op := _, type := _, pos := _, after := _, guard := _ }) (v := ?_) rfl (by kernel_rfl) (by kernel_rfl) (by kernel_rfl) (fun _ _ _ h => h) (Or.inl ⟨by rfl, ?_⟩) (by assumption) ?_
              rotate_left
              · (intro w hSw; go_simp; (try with_reducible rfl))
              (try simp only [Act.put, List.setIfInBounds_toArray, List.set_cons_zero, List.set_cons_succ])
              refine wpAnyH_take (i := 8) (oi := { dst := some 75, op := _, type := _, pos := _, after := _, guard := _ }) (v := ?_) rfl (by kernel_rfl) (by kernel_rfl) (by kernel_rfl) (fun _ _ _ h => h) (Or.inl ⟨by rfl, ?_⟩) (by assumption) ?_
              rotate_left
              · (intro w hSw; go_simp; (try with_reducible rfl))
              (try simp only [Act.put, List.setIfInBounds_toArray, List.set_cons_zero, List.set_cons_succ])
              refine wpAnyH_ready (rs := [5]) (by kernel_rfl) (by simp) ?_
              refine AllReadyH.cons (o := { dst := some 72, op := _, type := _, pos := _, after := _, guard := _ }) rfl (fun K hK => ?_) AllReadyH.nil
              go_simp
              refine (HDG.out wr.drew).mono ?_
              rintro e w5 ⟨rfl, hw5⟩
              rw [hw5]
              (try go_wp2_with fail)
              refine hK.out _ _ ?_ (fun hHeld => ?_)
              · trivial
              clear hK K
              (try simp only [Act.put, List.setIfInBounds_toArray, List.set_cons_zero, List.set_cons_succ])
              refine wpAnyH_take (i := 9) (oi := { dst := some 76, op := _, type := _, pos := _, after := _, guard := _ }) (v := ?_) rfl (by kernel_rfl) (by kernel_rfl) (by kernel_rfl) (fun _ _ _ h => h) (Or.inl ⟨by rfl, ?_⟩) (by assumption) ?_
              rotate_left
              · (intro w hSw; go_simp; (try with_reducible rfl))
              (try simp only [Act.put, List.setIfInBounds_toArray, List.set_cons_zero, List.set_cons_succ])
              refine wpAnyH_ready (rs := [10]) (by kernel_rfl) (by simp) ?_
              refine AllReadyH.cons (o := { dst := none, op := _, type := _, pos := _, after := _, guard := _ }) rfl (fun K hK => ?_) AllReadyH.nil
              go_simp
              refine hK.out _ _ ?_ (fun hHeld => ?_)
              · trivial
              clear hK K
              (try simp only [Act.put, List.setIfInBounds_toArray, List.set_cons_zero, List.set_cons_succ])
              refine wpAnyH_done (by kernel_rfl) ?_ _
              go_wp2_with fail
              go_meet
              exact ⟨rfl, hW9.symm⟩
            case rest =>
              obtain ⟨rfl, hcw⟩ := hcut
              subst hcw
              clear hW9 kc kf
              go_wp2_with (first | (refine wpl_loadN rfl _ rfl wb (l * 25) rfl LY HLN.out HR9.out ?_))
              refine HAB.out.mono ?_
              rintro e w10 ⟨rfl, hb10, hx10⟩
              have HW10 := hidMk (show SetW w0 W g p q F codes most v (M + 9 * (l + 1)) n2 rf2 nd2 M2 wb L (l + 1) (fun i => wN nd c root L (i + 1)) w10 from by
                have h7 := HW9.out
                exact ⟨hb10, hx10.pg h7.pg (.inl HF.out), ⟨fun i hi => hx10.there (.inr rfl) (h7.wy.1 i hi), fun i hi hd => hx10.range (.inr rfl) (h7.wy.2 i hi hd)⟩, h7.fx.trans (hx10.fewer (fun j hj => .inl hj))⟩)
              clear hb10 hx10 HAB HW9 HLN HR9
              go_wp2_with fail
              go_roundg (gk - 1)
              case measure => have := HLG.out; omega
              case rel => exact ⟨l + 1, v, by have := HLG.out; omega, by omega, by omega, rfl, rfl, by congr 1, HW10, HSE2⟩
          · have hee : (u.er == 0) = false := by simpa using her
            have HFIN := hidMk (HSE.out u (by
              obtain ⟨K, hK⟩ : ∃ K, L - l = K + 1 := ⟨L - l - 1, by omega⟩
              rw [hK]
              exact .inl ⟨her, rfl⟩))
            clear hlg hdone
            go_wp2_with fail
            go_ret2
            refine ⟨u, HFIN.out, rfl, (HSW.out.ba.fewer (F' := F) (fun j hj => .inl hj)).raiseA (by omega) (by omega), HSW.out.fx⟩
end
end Go.Proofs.YtjkbhaplngnniaaDoor
