/- pages: Set of a code that is none, and of an entry that is there already. -/
import Derived.Test.YtjkbhaplngnniaaDoorPg10
namespace Go.Proofs.YtjkbhaplngnniaaDoor
open Go.RowKit Go.Maps
set_option linter.unusedSimpArgs false
set_option linter.unusedVariables false

section
variable {w0 W : World} {g p q : Nat} {F : Nat → Prop} {codes most : Int} {n : Nat} {rf : Int → Nat} {nd : Int → ANd} {M : Nat} {n2 : Nat} {rf2 : Int → Nat} {nd2 : Int → ANd} {M2 : Nat}
theorem pg_SetBad (hG : PG W g p codes) (root c : Int) (hc : ¬ (0 ≤ c ∧ c < codes)) (ea : Int) (ec : Bool) : Calls Tryd.prog 28 #[.pointer (some ⟨g, 0, none⟩), .int .i64 root, .int .i64 c, .agg #[.int .i64 ea, .bool ec]] W fun e w' => e = .returned (.tuple #[.int .i64 0, .int .i64 17]) ∧ Kept W w' := by
  obtain ⟨W1, hW1⟩ : ∃ W1, W1 = W.alloc (.cells #[.int .i64 ea, .bool ec] 39) := ⟨_, rfl⟩
  have k1 : Kept W W1 := by rw [hW1]; exact (Kept.refl W).alloc _
  have HWY := hidMk (pg_wayBad (hG.kept k1) root c hc)
  have HK1 := hidMk k1
  clear hG k1 hc
  go_enter Tryd.func28, Tryd.ntmps28
  go_wp2_with fail
  rw [← hW1]
  clear hW1
  refine HWY.out.mono ?_
  rintro e w2 ⟨rfl, hw2⟩
  rw [hw2]
  go_wp2_with fail
  go_ret2
  exact ⟨rfl, HK1.out⟩
set_option maxHeartbeats 4000000 in
set_option maxRecDepth 100000 in
theorem pg_SetSame (h : BA w0 W p q F most n rf nd M n2 rf2 nd2 M2) (hG : PG W g p codes) (hF : F g) (hM : M + 1 ≤ 4611686018427387904) (root c : Int) (h0 : 0 ≤ c) (hc : c < codes) (hw : WayOk rf nd c root (lvls codes)) (ea : Int) (ec : Bool) (he : entN (wN nd c root (lvls codes) 1) c = (ea, ec)) :
    Calls Tryd.prog 28 #[.pointer (some ⟨g, 0, none⟩), .int .i64 root, .int .i64 c, .agg #[.int .i64 ea, .bool ec]] W fun e w' => e = .returned (.tuple #[.int .i64 root, .int .i64 0]) ∧ BA w0 w' p q F most n (KeepZ rf root) nd (M + 1) n2 rf2 nd2 M2 ∧ Fx F W w' := by
  have hlv := lvls_le codes
  have hk2 := hG.k2
  obtain ⟨ow, hAS⟩ := h.as
  obtain ⟨eb, heb⟩ : ∃ b, b = W.heap.size := ⟨_, rfl⟩
  obtain ⟨W1, hW1⟩ : ∃ W1, W1 = W.alloc (.cells #[.int .i64 ea, .bool ec] 39) := ⟨_, rfl⟩
  have k1 : Kept W W1 := by rw [hW1]; exact (Kept.refl W).alloc _
  have r1 : W1.rangeAt eb 0 [.int .i64 ea, .bool ec] := by rw [hW1, heb]; exact new_range W [.int .i64 ea, .bool ec] _
  have hroot : root = 0 ∨ rf root ≠ 0 := hw 0 (by omega)
  have HWY := hidMk (pg_way (hAS.keep k1) (hG.kept k1) root c h0 hc hw)
  have hdl := dig_lt c 1
  obtain ⟨dd, hdd⟩ : ∃ dd : Nat, dig c 1 = (dd : Int) := ⟨(dig c 1).toNat, by omega⟩
  have hd8 : (dd : Int) < 8 := by omega
  have HDG1 := hidMk (fun W => pages_digit c 1 h0 (by omega) (by omega) (by omega) W)
  rw [hdd] at HDG1
  have hyk := wN_ok hAS.ok.2.1 c root (lvls codes) 1
  have HEN := hidMk (fun (Y : World) (b : Nat) (h : Y.rangeAt b 0 (ndL (wN nd c root (lvls codes) 1))) => show Y.cell? ⟨b, 9 + dd * 2, none⟩ = some (.int .i64 ea) ∧ Y.cell? ⟨b, 9 + dd * 2 + 1, none⟩ = some (.bool ec) from by
    have hh := ndL_ent _ hyk.1 hyk.2 dd (by omega)
    have he' := he
    unfold entN at he'
    rw [hdd, show ((dd : Int)).toNat = dd by omega] at he'
    rw [he'] at hh
    rw [show dd * 2 = 2 * dd by omega]
    have h1 := h _ _ hh.1
    have h2 := h _ _ hh.2
    rw [Nat.zero_add] at h1 h2
    exact ⟨h1, h2⟩)
  have heqE : ∀ W, (Op.equalIn 10000 39 (.agg #[.int .i64 ea, .bool ec]) (.agg #[.int .i64 ea, .bool ec])).run Tryd.prog W = .ok true W := fun W => by
    rw [en_eq 9998]; simp
  have HWP := hidMk (show ∀ e w', WayPost W1 nd c root (lvls codes) e w' → ∃ wb, e = .returned (.tuple #[.slice (some ⟨wb, 0, none⟩) (lvls codes) (lvls codes), .int .i64 0]) ∧ Kept W1 w' ∧ w'.rangeAt wb 0 (ndL (wN nd c root (lvls codes) 1)) from fun e w' ⟨wb, a1, a2, a3, a4, a5⟩ => ⟨wb, a1, a4, by have := a5.2 0 (by omega) trivial; simpa using this⟩)
  have HB := hidMk (fun X (kX : Kept W X) => And.intro (And.intro (h.keep kX) (hG.kept kX)) (Fx.of_kept (F := F) kX h.flt))
  have HKP := hidMk (fun X (hb : BA w0 X p q F most n rf nd M n2 rf2 nd2 M2) (hg : PG X g p codes) => pg_Keep hb hg hM root hroot)
  have HK1 := hidMk k1
  have HR1 := hidMk r1
  have hL0 : 0 < lvls codes := by omega
  generalize hL : lvls codes = L at *
  clear h hG hF hw he hAS k1 r1 hyk hdd
  go_enter Tryd.func28, Tryd.ntmps28
  go_wp2_with fail
  rw [← hW1, ← heb]
  clear hW1 heb
  refine HWY.out.mono ?_
  intro e w2 hw2
  obtain ⟨wb, rfl, k2, hr2⟩ := HWP.out e w2 hw2
  obtain ⟨X, hX⟩ : ∃ X, X = w2.drew := ⟨_, rfl⟩
  have HX := hidMk hX
  have kX : Kept w2 X := by rw [hX]; exact (Kept.refl w2).drew
  obtain ⟨e1, e2⟩ := HEN.out X wb (kX.range hr2)
  have x0 : X.cell? ⟨eb, 0, none⟩ = some (.int .i64 ea) := (k2.trans kX).cellp (by have := HR1.out 0 _ rfl; simpa using this)
  have x1 : X.cell? ⟨eb, 1, none⟩ = some (.bool ec) := (k2.trans kX).cellp (by have := HR1.out 1 _ rfl; simpa using this)
  have HBX := hidMk (HB.out X (HK1.out.trans (k2.trans kX)))
  clear hw2 HWY HWP k2 kX hr2 hX HEN HB HK1 HR1
  go_upto_region 4 with fail
  go_cut [32] from 24 to 31 (fun s W' => s = .bool true ∧ W' = X)
  case first =>
    refine wp_region_held_drew (S := (fun w' => w' = X)) (by kernel_rfl) ?_ (fun hHeld => ?_)
    · exact HX.out.symm
    rw [hHeld]
    clear hHeld
    have hHeld : X = X := rfl
    refine wpAnyH_take (i := 0) (oi := { dst := some 24, op := _, type := _, pos := _, after := _, guard := _ }) (v := ?_) rfl (by kernel_rfl) (by kernel_rfl) (by kernel_rfl) (fun _ _ _ h => h) (Or.inl ⟨by rfl, ?_⟩) (by assumption) ?_
    rotate_left
    · (intro w hSw; subst hSw; go_simp; (try with_reducible rfl))
    (try simp only [Act.put, List.setIfInBounds_toArray, List.set_cons_zero, List.set_cons_succ])
    refine wpAnyH_take (i := 1) (oi := { dst := some 25, op := _, type := _, pos := _, after := _, guard := _ }) (v := ?_) rfl (by kernel_rfl) (by kernel_rfl) (by kernel_rfl) (fun _ _ _ h => h) (Or.inl ⟨by rfl, ?_⟩) (by assumption) ?_
    rotate_left
    · (intro w hSw; subst hSw; go_simp; (try with_reducible rfl))
    (try simp only [Act.put, List.setIfInBounds_toArray, List.set_cons_zero, List.set_cons_succ])
    refine wpAnyH_take (i := 3) (oi := { dst := some 27, op := _, type := _, pos := _, after := _, guard := _ }) (v := ?_) rfl (by kernel_rfl) (by kernel_rfl) (by kernel_rfl) (fun _ _ _ h => h) (Or.inl ⟨by rfl, ?_⟩) (by assumption) ?_
    rotate_left
    · (intro w hSw; subst hSw; go_simp; (try with_reducible rfl))
    (try simp only [Act.put, List.setIfInBounds_toArray, List.set_cons_zero, List.set_cons_succ])
    refine wpAnyH_take (i := 4) (oi := { dst := some 28, op := _, type := _, pos := _, after := _, guard := _ }) (v := ?_) rfl (by kernel_rfl) (by kernel_rfl) (by kernel_rfl) (fun _ _ _ h => h) (Or.inl ⟨by rfl, ?_⟩) (by assumption) ?_
    rotate_left
    · (intro w hSw; subst hSw; go_simp; (try with_reducible rfl))
    (try simp only [Act.put, List.setIfInBounds_toArray, List.set_cons_zero, List.set_cons_succ])
    refine wpAnyH_take (i := 7) (oi := { dst := some 31, op := _, type := _, pos := _, after := _, guard := _ }) (v := ?_) rfl (by kernel_rfl) (by kernel_rfl) (by kernel_rfl) (fun _ _ _ h => h) (Or.inl ⟨by rfl, ?_⟩) (by assumption) ?_
    rotate_left
    · (intro w hSw; subst hSw; go_simp; (try with_reducible rfl))
    (try simp only [Act.put, List.setIfInBounds_toArray, List.set_cons_zero, List.set_cons_succ])
    refine wpAnyH_ready (rs := [2]) (by kernel_rfl) (by simp) ?_
    refine AllReadyH.cons (o := { dst := some 26, op := _, type := _, pos := _, after := _, guard := _ }) rfl (fun K hK => ?_) AllReadyH.nil
    go_simp
    refine (HDG1.out X).mono ?_
    rintro e w5 ⟨rfl, hw5⟩
    rw [hw5]
    (try go_wp2_with fail)
    refine hK.out _ _ ?_ (fun hHeld => ?_)
    · (first | rfl | assumption | exact hw5)
    clear hK K
    (try simp only [Act.put, List.setIfInBounds_toArray, List.set_cons_zero, List.set_cons_succ])
    refine wpAnyH_take (i := 5) (oi := { dst := some 29, op := _, type := _, pos := _, after := _, guard := _ }) (v := ?_) rfl (by kernel_rfl) (by kernel_rfl) (by kernel_rfl) (fun _ _ _ h => h) (Or.inl ⟨by rfl, ?_⟩) (by assumption) ?_
    rotate_left
    · (intro w hSw; subst hSw; go_simp; (try with_reducible rfl))
    (try simp only [Act.put, List.setIfInBounds_toArray, List.set_cons_zero, List.set_cons_succ])
    refine wpAnyH_take (i := 6) (oi := { dst := some 30, op := _, type := _, pos := _, after := _, guard := _ }) (v := ?_) rfl (by kernel_rfl) (by kernel_rfl) (by kernel_rfl) (fun _ _ _ h => h) (Or.inl ⟨by rfl, ?_⟩) (by assumption) ?_
    rotate_left
    · (intro w hSw; subst hSw; go_simp; (try with_reducible rfl))
    (try simp only [Act.put, List.setIfInBounds_toArray, List.set_cons_zero, List.set_cons_succ])
    refine wpAnyH_take (i := 8) (oi := { dst := some 32, op := _, type := _, pos := _, after := _, guard := _ }) (v := ?_) rfl (by kernel_rfl) (by kernel_rfl) (by kernel_rfl) (fun _ _ _ h => h) (Or.inl ⟨by rfl, ?_⟩) (by assumption) ?_
    rotate_left
    · (intro w hSw; subst hSw; go_simp; (try with_reducible rfl))
    (try simp only [Act.put, List.setIfInBounds_toArray, List.set_cons_zero, List.set_cons_succ])
    refine wpAnyH_done (by kernel_rfl) ?_ _
    go_wp2_with fail
    go_meet
    exact ⟨rfl, rfl⟩
  case rest =>
    obtain ⟨rfl, rfl⟩ := hcut
    have HKX := hidMk (HKP.out wc HBX.out.1.1 HBX.out.1.2)
    clear e1 e2 x0 x1 HKP
    go_wp2_with fail
    refine HKX.out.mono ?_
    rintro e w6 ⟨rfl, hb6, hx6⟩
    have H6 := hidMk (And.intro hb6 (HBX.out.2.trans hx6))
    clear hb6 hx6
    go_wp2_with fail
    go_ret2
    exact ⟨rfl, H6.out.1, H6.out.2⟩
end
end Go.Proofs.YtjkbhaplngnniaaDoor
