/- pages: Get, Keep, Drop, above. -/
import Derived.Test.YtjkbhaplngnniaaDoorPg2
import Derived.Test.YtjkbhaplngnniaaDoorRefAr8
import Derived.Deep.RegionHeld3
namespace Go.Proofs.YtjkbhaplngnniaaDoor
open Go.RowKit Go.Maps
set_option linter.unusedSimpArgs false
set_option linter.unusedVariables false

/-- The entry of a code. -/
def entN (y : ANd) (c : Int) : Int × Bool := y.vals.getD (dig c 1).toNat (0, false)
theorem enV_at : ∀ (l : List (Int × Bool)) (d : Nat), d < l.length → (enV l)[2 * d]? = some (.int .i64 (l.getD d (0, false)).1) ∧ (enV l)[2 * d + 1]? = some (.bool (l.getD d (0, false)).2) := by
  intro l
  induction l with
  | nil => intro d h; simp at h
  | cons a r ih =>
    intro d h
    cases d with
    | zero => exact ⟨rfl, rfl⟩
    | succ d =>
      have := ih d (by simpa using h)
      rw [show 2 * (d + 1) = 2 * d + 2 by omega]
      exact this
theorem ndL_ent (y : ANd) (hk : y.kids.length = 8) (hv : y.vals.length = 8) (d : Nat) (hd : d < 8) : (ndL y)[9 + 2 * d]? = some (.int .i64 (y.vals.getD d (0, false)).1) ∧ (ndL y)[9 + 2 * d + 1]? = some (.bool (y.vals.getD d (0, false)).2) := by
  have h := enV_at y.vals d (by omega)
  exact ⟨ndL_vals y hk _ _ h.1, by rw [show 9 + 2 * d + 1 = 9 + (2 * d + 1) by omega]; exact ndL_vals y hk _ _ h.2⟩
theorem get_rets10 {R : Ending → World → Prop} {a : Act} {w : World} (g : Nat) (x : Int) (b : Bool) (hr : w.rangeAt g 0 [.int .i64 x, .bool b]) {er : Value} (hp : a.tmps.getD 6 undef = .pointer (some ⟨g, 0, none⟩)) (hq : a.tmps.getD 7 undef = er) (hd : a.defers = [])
    (h : R (.returned (.tuple #[.agg #[.int .i64 x, .bool b], er])) w) : bodyPost Tryd.prog Tryd.f27 R .ret a w := by
  subst hq
  exact bodyPost_ret (results_cell_tmp rfl _ _ g _ hp (run_loadVar_mid w g 0 _ [.int .i64 x, .bool b] _ hr Tryd.underlying39 rfl en_size)) hd h
section
variable {w0 w : World} {g p : Nat} {ow : Option Nat} {codes most : Int} {n : Nat} {rf : Int → Nat} {nd : Int → ANd} {M : Nat}
set_option maxHeartbeats 4000000 in
set_option maxRecDepth 100000 in
theorem pg_Get (hA : AS w0 w p ow most n rf nd M) (hG : PG w g p codes) (root c : Int) (h0 : 0 ≤ c) (hc : c < codes) (hw : WayOk rf nd c root (lvls codes)) : Calls Tryd.prog 27 #[.pointer (some ⟨g, 0, none⟩), .int .i64 root, .int .i64 c] w fun e w' => e = .returned (.tuple #[.agg #[.int .i64 (entN (wN nd c root (lvls codes) 1) c).1, .bool (entN (wN nd c root (lvls codes) 1) c).2], .int .i64 0]) ∧ Kept w w' := by
  have hlv := lvls_le codes
  have hk2 := hG.k2
  obtain ⟨W, hW⟩ : ∃ W, W = w.alloc (.cells #[.int .i64 0, .bool false] 39) := ⟨_, rfl⟩
  have kW : Kept w W := by rw [hW]; exact (Kept.refl w).alloc _
  have HWY := hidMk (pg_way (hA.keep kW) (hG.kept kW) root c h0 hc hw)
  have HKW := hidMk kW
  have ht : W.there w.heap.size 0 2 := by rw [hW]; exact new_there w [.int .i64 0, .bool false] 39 2 rfl
  have HT := hidMk ht
  have hsW : W.heap.size = w.heap.size + 1 := by rw [hW]; simp
  have HDGA := hidMk (fun W => pages_digit c 1 h0 (by omega) (by omega) (by omega) W)
  have hyk := wN_ok hA.ok.2.1 c root (lvls codes) 1
  have hdl := dig_lt c 1
  obtain ⟨dd, hdd⟩ : ∃ dd : Nat, dig c 1 = (dd : Int) := ⟨(dig c 1).toNat, by omega⟩
  have HEN := hidMk (fun (Y : World) (b : Nat) (h : Y.rangeAt b 0 (ndL (wN nd c root (lvls codes) 1))) => show Y.cell? ⟨b, 9 + dd * 2, none⟩ = some (.int .i64 (entN (wN nd c root (lvls codes) 1) c).1) ∧ Y.cell? ⟨b, 9 + dd * 2 + 1, none⟩ = some (.bool (entN (wN nd c root (lvls codes) 1) c).2) from by
    have hh := ndL_ent _ hyk.1 hyk.2 dd (by omega)
    unfold entN
    rw [hdd, show ((dd : Int)).toNat = dd by omega, show dd * 2 = 2 * dd by omega]
    have h1 := h _ _ hh.1
    have h2 := h _ _ hh.2
    rw [Nat.zero_add] at h1 h2
    exact ⟨h1, h2⟩)
  rw [hdd] at HDGA hdl
  have hd8 : (dd : Int) < 8 := hdl.2
  generalize hea : (entN (wN nd c root (lvls codes) 1) c).1 = ea at *
  generalize heb : (entN (wN nd c root (lvls codes) 1) c).2 = eb at *
  obtain ⟨ob, hob⟩ : ∃ b, b = w.heap.size := ⟨_, rfl⟩
  rw [← hob] at HT
  have HOB := hidMk hob
  have hL1 : (1 : Int) ≤ (lvls codes : Int) := by omega
  have hL0 : 0 < lvls codes := by omega
  have HSW := hidMk hsW
  have HWP := hidMk (show ∀ e w', WayPost W nd c root (lvls codes) e w' → ∃ wb, e = .returned (.tuple #[.slice (some ⟨wb, 0, none⟩) (lvls codes) (lvls codes), .int .i64 0]) ∧ Kept W w' ∧ w'.rangeAt wb 0 (ndL (wN nd c root (lvls codes) 1)) from fun e w' ⟨wb, a1, a2, a3, a4, a5⟩ => ⟨wb, a1, a4, by have := a5.2 0 (by omega) trivial; simpa using this⟩)
  generalize hL : lvls codes = L at *
  clear hA hG hw kW ht hyk hdd hea heb hsW
  go_enter Tryd.func27, Tryd.ntmps27
  go_wp2_with fail
  rw [← hW, ← hob]
  clear hW hob
  refine HWY.out.mono ?_
  intro e w2 hw2
  obtain ⟨wb, rfl, k2, hr2⟩ := HWP.out e w2 hw2
  have HK2 := hidMk k2
  have k2d : Kept w2 w2.drew := (Kept.refl w2).drew
  have he := HEN.out w2.drew wb (k2d.range hr2)
  obtain ⟨e1, e2⟩ := he
  have HDG := hidMk (HDGA.out w2.drew)
  have HTB := hidMk (show w2.drew.there ob 0 2 from (k2.trans k2d).there (by have := HOB.out; have := HSW.out; omega) HT.out)
  clear hw2 k2 k2d hr2 HWY HWP HEN HDGA
  go_wp2_with fail
  refine wp_region_held_drew (S := (fun w' => True)) (by kernel_rfl) ?_ (fun hHeld => ?_)
  · trivial
  refine wpAnyH_take (i := 0) (oi := { dst := some 21, op := _, type := _, pos := _, after := _, guard := _ }) (v := ?_) rfl (by kernel_rfl) (by kernel_rfl) (by kernel_rfl) (fun _ _ _ h => h) (Or.inl ⟨by rfl, ?_⟩) (by assumption) ?_
  rotate_left
  · (intro w hSw; go_simp; (try with_reducible rfl))
  (try simp only [Act.put, List.setIfInBounds_toArray, List.set_cons_zero, List.set_cons_succ])
  refine wpAnyH_take (i := 1) (oi := { dst := some 22, op := _, type := _, pos := _, after := _, guard := _ }) (v := ?_) rfl (by kernel_rfl) (by kernel_rfl) (by kernel_rfl) (fun _ _ _ h => h) (Or.inl ⟨by rfl, ?_⟩) (by assumption) ?_
  rotate_left
  · (intro w hSw; go_simp; (try with_reducible rfl))
  (try simp only [Act.put, List.setIfInBounds_toArray, List.set_cons_zero, List.set_cons_succ])
  refine wpAnyH_take (i := 3) (oi := { dst := some 24, op := _, type := _, pos := _, after := _, guard := _ }) (v := ?_) rfl (by kernel_rfl) (by kernel_rfl) (by kernel_rfl) (fun _ _ _ h => h) (Or.inl ⟨by rfl, ?_⟩) (by assumption) ?_
  rotate_left
  · (intro w hSw; go_simp; (try with_reducible rfl))
  (try simp only [Act.put, List.setIfInBounds_toArray, List.set_cons_zero, List.set_cons_succ])
  refine wpAnyH_take (i := 4) (oi := { dst := some 25, op := _, type := _, pos := _, after := _, guard := _ }) (v := ?_) rfl (by kernel_rfl) (by kernel_rfl) (by kernel_rfl) (fun _ _ _ h => h) (Or.inl ⟨by rfl, ?_⟩) (by assumption) ?_
  rotate_left
  · (intro w hSw; go_simp; (try with_reducible rfl))
  (try simp only [Act.put, List.setIfInBounds_toArray, List.set_cons_zero, List.set_cons_succ])
  refine wpAnyH_ready (rs := [2]) (by kernel_rfl) (by simp) ?_
  refine AllReadyH.cons (o := { dst := some 23, op := _, type := _, pos := _, after := _, guard := _ }) rfl (fun K hK => ?_) AllReadyH.nil
  go_simp
  refine HDG.out.mono ?_
  rintro e w5 ⟨rfl, hw5⟩
  rw [hw5]
  (try go_wp2_with fail)
  refine hK.out _ _ ?_ (fun hHeld => ?_)
  · trivial
  clear hK K
  (try simp only [Act.put, List.setIfInBounds_toArray, List.set_cons_zero, List.set_cons_succ])
  refine wpAnyH_take (i := 5) (oi := { dst := some 26, op := _, type := _, pos := _, after := _, guard := _ }) (v := ?_) rfl (by kernel_rfl) (by kernel_rfl) (by kernel_rfl) (fun _ _ _ h => h) (Or.inl ⟨by rfl, ?_⟩) (by assumption) ?_
  rotate_left
  · (intro w hSw; go_simp; (try with_reducible rfl))
  (try simp only [Act.put, List.setIfInBounds_toArray, List.set_cons_zero, List.set_cons_succ])
  refine wpAnyH_ready (rs := [6]) (by kernel_rfl) (by simp) ?_
  refine AllReadyH.cons (o := { dst := some 27, op := _, type := _, pos := _, after := _, guard := _ }) rfl (fun K hK => ?_) AllReadyH.nil
  go_simp
  refine hK.out _ _ ?_ (fun hHeld => ?_)
  · trivial
  clear hK K
  (try simp only [Act.put, List.setIfInBounds_toArray, List.set_cons_zero, List.set_cons_succ])
  refine wpAnyH_ready (rs := [7]) (by kernel_rfl) (by simp) ?_
  refine AllReadyH.cons (o := { dst := none, op := _, type := _, pos := _, after := _, guard := _ }) rfl (fun K hK => ?_) AllReadyH.nil
  rw [if_pos (by rfl)]
  refine wp_store_mid _ _ _ rfl ob 0 #[.int .i64 ea, .bool eb] rfl rfl HTB.out en_size (by simp [Value.oneCell']) ?_
  refine hK.out _ _ ?_ (fun hHeld => ?_)
  · trivial
  clear hK K
  (try simp only [Act.put, List.setIfInBounds_toArray, List.set_cons_zero, List.set_cons_succ])
  refine wpAnyH_take (i := 8) (oi := { dst := some 7, op := _, type := _, pos := _, after := _, guard := _ }) (v := ?_) rfl (by kernel_rfl) (by kernel_rfl) (by kernel_rfl) (fun _ _ _ h => h) (Or.inl ⟨by rfl, ?_⟩) (by assumption) ?_
  rotate_left
  · (intro w hSw; go_simp; (try with_reducible rfl))
  (try simp only [Act.put, List.setIfInBounds_toArray, List.set_cons_zero, List.set_cons_succ])
  refine wpAnyH_done (by kernel_rfl) ?_ _
  go_wp2_with fail
  exact get_rets10 ob ea eb (World.rangeAt_setCells_same _ _ _ _ HTB.out) rfl rfl rfl ⟨rfl, kept_setCells (by have := HOB.out; omega) _ _ ((HKW.out.trans HK2.out).drew)⟩
theorem pg_GetBad (hG : PG w g p codes) (root c : Int) (hc : ¬ (0 ≤ c ∧ c < codes)) : Calls Tryd.prog 27 #[.pointer (some ⟨g, 0, none⟩), .int .i64 root, .int .i64 c] w fun e w' => e = .returned (.tuple #[.agg #[.int .i64 0, .bool false], .int .i64 17]) ∧ Kept w w' := by
  obtain ⟨W, hW⟩ : ∃ W, W = w.alloc (.cells #[.int .i64 0, .bool false] 39) := ⟨_, rfl⟩
  have kW : Kept w W := by rw [hW]; exact (Kept.refl w).alloc _
  have HWY := hidMk (pg_wayBad (hG.kept kW) root c hc)
  have HKW := hidMk kW
  have HT := hidMk (show W.there w.heap.size 0 2 from by rw [hW]; exact new_there w [.int .i64 0, .bool false] 39 2 rfl)
  clear hG kW
  go_enter Tryd.func27, Tryd.ntmps27
  go_wp2_with fail
  rw [← hW]
  clear hW
  refine HWY.out.mono ?_
  rintro e w2 ⟨rfl, hw2⟩
  rw [hw2]
  go_wp2_with (first | (refine wpl_storeT en_size rfl _ _ rfl _ _ rfl [.int .i64 0, .bool false] rfl rfl (by simp [Value.oneCell']) HT.out ?_))
  exact get_rets10 w.heap.size 0 false (World.rangeAt_setCells_same _ _ _ _ HT.out) rfl rfl rfl ⟨rfl, kept_setCells (Nat.le_refl _) _ _ HKW.out⟩
end
section
variable {w0 W : World} {g p q : Nat} {F : Nat → Prop} {codes most : Int} {n : Nat} {rf : Int → Nat} {nd : Int → ANd} {M : Nat} {n2 : Nat} {rf2 : Int → Nat} {nd2 : Int → ANd} {M2 : Nat}
def KeepZ (rf : Int → Nat) (i : Int) : Int → Nat := if i = 0 then rf else KeepR rf i
theorem pg_Keep (h : BA w0 W p q F most n rf nd M n2 rf2 nd2 M2) (hG : PG W g p codes) (hM : M + 1 ≤ 4611686018427387904) (i : Int) (hi : i = 0 ∨ rf i ≠ 0) : Calls Tryd.prog 29 #[.pointer (some ⟨g, 0, none⟩), .int .i64 i] W fun e w' => e = .returned (.int .i64 0) ∧ BA w0 w' p q F most n (KeepZ rf i) nd (M + 1) n2 rf2 nd2 M2 ∧ Fx F W w' := by
  unfold KeepZ
  by_cases h0 : i = 0
  · rw [if_pos h0]
    have HB := hidMk (show BA w0 W p q F most n rf nd (M + 1) n2 rf2 nd2 M2 from by
      obtain ⟨ow, bL, bN, cL, cN, xs, h1, h2, h3, h4⟩ := h
      exact ⟨ow, bL, bN, cL, cN, xs, h1.raise (by omega) hM, h2, h3, h4⟩)
    subst h0
    clear h hi hG
    go_enter Tryd.func29, Tryd.ntmps29
    go_wp2_with fail
    go_ret
    exact ⟨rfl, HB.out, fun b _ => rfl⟩
  · rw [if_neg h0]
    have hz := hi.resolve_left h0
    have HK := hidMk (ba_Keep h hM i)
    unfold atE at HK
    rw [if_neg hz] at HK
    have c0 := hG.c0
    have hib : (i == 0) = false := by simpa using h0
    clear h hi hG hz
    go_enter Tryd.func29, Tryd.ntmps29
    go_wp2_with fail
    refine HK.out.mono ?_
    rintro e w2 ⟨rfl, h2⟩
    have H2 := hidMk h2
    clear h2 HK
    go_wp2_with fail
    go_ret
    exact ⟨rfl, H2.out⟩
/-- What a Drop leaves. -/
def DropZ (nd : Int → ANd) (rf : Int → Nat) (i : Int) (r : Int → Nat) : Prop := (i = 0 ∧ r = rf) ∨ (i ≠ 0 ∧ ∃ K, DropsN (kdA nd) K rf [i] r)
theorem pg_Drop (h : BA w0 W p q F most n rf nd M n2 rf2 nd2 M2) (hG : PG W g p codes) (i : Int) (r : Int → Nat) (hr : DropZ nd rf i r) : Calls Tryd.prog 26 #[.pointer (some ⟨g, 0, none⟩), .int .i64 i] W fun e w' => e = .returned (.int .i64 (if i = 0 then 0 else atE rf i)) ∧ BA w0 w' p q F most n r nd M n2 rf2 nd2 M2 ∧ Fx F W w' := by
  rcases hr with ⟨h0, hr⟩ | ⟨h0, K, hK⟩
  · rw [if_pos h0]
    have HB := hidMk h
    subst h0
    rw [hr]
    clear h hG hr
    go_enter Tryd.func26, Tryd.ntmps26
    go_wp2_with fail
    go_ret
    exact ⟨rfl, HB.out, fun b _ => rfl⟩
  · rw [if_neg h0]
    have HK := hidMk (ba_Drop h i K r hK)
    have c0 := hG.c0
    have hib : (i == 0) = false := by simpa using h0
    generalize atE rf i = er at *
    clear h hG hK
    go_enter Tryd.func26, Tryd.ntmps26
    go_wp2_with fail
    refine HK.out.mono ?_
    rintro e w2 ⟨rfl, h2⟩
    have H2 := hidMk h2
    clear h2 HK
    go_wp2_with fail
    go_ret
    exact ⟨rfl, H2.out⟩
end
end Go.Proofs.YtjkbhaplngnniaaDoor
