/- put, walked. -/
import Derived.Test.YtjkbhaplngnniaaDoorAr8
namespace Go.Proofs.YtjkbhaplngnniaaDoor
open Go.RowKit
set_option linter.unusedSimpArgs false
set_option linter.unusedVariables false
theorem wrap_ok {a : Int} (h1 : -4611686018427387904 ≤ a) (h2 : a ≤ 4611686018427387904) : wrap64 a = a := by unfold wrap64; omega
section
variable {w : World} {p B : Nat} {most : Int} {n : Nat} {rf q : Int → Nat} {nd : Int → ANd} {M : Nat} {wd : Nat → Nat} {v : Value} {xs : List Value}
def PutPost (w : World) (p B : Nat) (most : Int) (n : Nat) (rf : Int → Nat) (nd : Int → ANd) (M : Nat) (v : Value) (x : Nat) (y : ANd) (e : Ending) (w' : World) : Prop :=
  e = .returned (.int .i64 x) ∧ (∃ n' wd' v' xs', n' = max n x ∧ AR w' p B most n' (setR rf x 1) (updN nd x y) M wd' v' xs' ∧ (∀ g, v'.ownBlock = some g → v.ownBlock = some g ∨ w.heap.size ≤ g)) ∧ Chg (fun j => j = p ∨ v.ownBlock = some j) w w'
/-- The marks and the count behind it. -/
theorem ARq.putEnd {W : World} {v' : Value} {xs' : List Value} {n' i : Nat} {y : ANd} (h : ARq W p B most n' rf (setR rf (i + 1 : Nat) 1) (updN nd (i + 1 : Nat) y) M wd v' xs') (hi : i < n') (hr : rf (i + 1 : Nat) = 0) (hM : 1 ≤ M) (hn : ∀ j, j < 25 → xs'[26 * i + j]? = (ndL y)[j]?) :
    W.cell? ⟨p, 3 + i / 64, none⟩ = some (.int .u64 (wd (i / 64))) ∧ W.frozen? ⟨p, 3 + i / 64, none⟩ = false ∧ wd (i / 64) < 18446744073709551616 ∧ usd (setR rf (i + 1 : Nat) 1) n' = usd rf n' + 1 ∧ ∀ w1, OneSet W w1 p (3 + i / 64) (.int .u64 (wd (i / 64) ^^^ 2 ^ (i % 64) : Nat)) → w1.cell? ⟨p, 1, none⟩ = some (.int .i64 (usd rf n')) ∧ w1.frozen? ⟨p, 1, none⟩ = false ∧ (∃ wd', AR (w1.setCell ⟨p, 1, none⟩ (.int .i64 (usd rf n' + 1 : Nat))) p B most n' (setR rf (i + 1 : Nat) 1) (updN nd (i + 1 : Nat) y) M wd' v' xs') ∧ Chg (fun j => j = p) W (w1.setCell ⟨p, 1, none⟩ (.int .i64 (usd rf n' + 1 : Nat))) := by
  have hnl := h.n_le
  have hu : usd (setR rf (i + 1 : Nat) 1) n' = usd rf n' + 1 := usd_set (i + 1) n' (by omega) (by omega) hr (by rw [setR_same]; omega) (fun k hk => by rw [setR_other _ _ (by omega)])
  refine ⟨h.c3 _ (by omega), h.fz _, h.word _ (by omega), hu, fun w1 hw1 => ?_⟩
  have q1 := (hw1.other 1 (by omega)).trans h.c1
  obtain ⟨m1, m2⟩ := h.marks hi (rf' := setR rf (i + 1 : Nat) 1) (w2 := w1.setCell ⟨p, 1, none⟩ (.int .i64 (usd rf n' + 1 : Nat))) (fun j hj => by rw [setR_other _ _ hj]) (by rw [setR_same, hr]; simp) hw1 (by rw [hu]; exact oneSet q1) (fun j hj => by
    by_cases e : j = (i + 1 : Nat)
    · exact .inr e
    · rw [setR_other _ _ e] at hj; exact .inl hj) (fun j hj => by
    have : j ≠ (i + 1 : Nat) := fun e => hj (by omega)
    rw [setR_other _ _ this]; exact h.ok j hj) (fun j => by have := h.rb j; unfold setR; split <;> omega) (fun _ j hj => by rw [updN_same]; exact hn j hj)
  exact ⟨q1, (hw1.fz 1).trans (h.fz 1), ⟨_, m1⟩, m2⟩
set_option maxHeartbeats 4000000 in
set_option maxRecDepth 100000 in
theorem arena_put (h : AR w p B most n rf nd M wd v xs) (hV : Vars w) (hM : 1 ≤ M) (x : Nat) (hx : LowN rf x) (hus : (usd rf n : Int) < most) (y : ANd) (hy : y.kids.length = 8 ∧ y.vals.length = 8) :
    Calls Tryd.prog 58 #[.pointer (some ⟨p, 0, none⟩), .agg (plL y 1).toArray] w (PutPost w p B most n rf nd M v x y) := by
  have hle := hx.le_used h.ok
  have h1x := hx.one
  have hnl := h.n_le
  have hm2 := h.m2
  have hnm := h.nm
  obtain ⟨i, rfl⟩ : ∃ i, x = i + 1 := ⟨x - 1, by omega⟩
  have hul := usd_le rf n
  have e5 : wrap64 ((usd rf n : Int) + 1) = ((usd rf n + 1 : Nat) : Int) := by rw [wrap_ok (by omega) (by omega)]; omega
  have e6 : wrap64 ((i : Int) + 1) = (i : Int) + 1 := wrap_ok (by omega) (by omega)
  obtain ⟨L, hL⟩ : ∃ L, plL y 1 = L := ⟨_, rfl⟩
  rw [hL]
  have hLl : L.length = 26 := by rw [← hL]; exact plL_len y 1 hy.1 hy.2
  have HLO := hidMk (show ∀ u ∈ L, u.oneCell' = true by rw [← hL]; exact plL_one y 1)
  obtain ⟨W, hW⟩ : ∃ W, W = w.alloc (.cells L.toArray 104) := ⟨_, rfl⟩
  have kW : Kept w W := by rw [hW]; exact (Kept.refl w).alloc _
  have HRG := hidMk (show W.rangeAt w.heap.size 0 L by rw [hW]; exact new_range _ _ _)
  have hAW := h.kept kW
  have HLW := hidMk (arena_lowest hAW (hV.kept kW) (i + 1) hx (by omega))
  have HA := hidMk h
  have HKW := hidMk kW
  have HXF := hidMk hx.free
  have hlt := h.lt
  have HLL := hidMk hLl
  have HL := hidMk hL
  obtain ⟨va, vc, hvs, _⟩ := h.rows
  clear h hV hx hAW kW hL hLl
  by_cases hin : i < n
  · subst hvs
    have hi' : (i : Int) < n := by omega
    go_enter Tryd.func58, Tryd.ntmps58
    go_wp2_with fail
    rw [← hW]
    clear hW
    refine HLW.out.mono ?_
    rintro e w2 ⟨rfl, k2⟩
    have K2 := hidMk (HKW.out.trans k2)
    have hA2 := HA.out.kept K2.out
    obtain ⟨g, cg, hvg, hg, _⟩ := hA2.refCell (i := i) hin
    cases hvg
    have c2 := hA2.c2
    have hrg := k2.range HRG.out
    have hth := hA2.there hg hin
    have hone := HLO.out
    have hsz : (Tryd.prog.info? 104).map (·.size) = some L.length := by rw [HLL.out]; exact pl_size
    have hun := Tryd.underlying104
    have hgp := hA2.apart hg
    obtain ⟨a1, a2, a3⟩ := (hA2.kept ((Kept.refl w2).drew)).putIn hin hg HXF.out y hy
    rw [HL.out] at a1 a2 a3
    have HPE := hidMk (a1.putEnd hin HXF.out hM a3)
    have HFL := hidMk (arena_flip i (by omega) (wd (i / 64)) HPE.out.2.2.1 HPE.out.1 HPE.out.2.1)
    have HC2 := hidMk a2
    have gne : w.heap.size ≠ g := by have := (HA.out.apart hg).2.1; omega
    have HGN := hidMk gne
    have HA2 := hidMk hA2
    have e1 : ((i + 1 - 1 : Nat) : Int) = i := by omega
    rw [show i + 1 - 1 = i from rfl]
    clear a1 a2 a3 hA2 k2 e1
    obtain ⟨d69, hu69, hd69⟩ := pl_row
    have HRD := hidMk (((Kept.refl w2).drew).range hrg)
    have HTD := hidMk (show w2.drew.there g (i * 26) L.toArray.size by simp only [List.size_toArray, HLL.out]; exact ((Kept.refl w2).drew).there hgp.2.1 hth)
    have HSZ := hidMk hsz
    have HSY := hidMk (show (Tryd.prog.info? 104).map (·.size) = some L.toArray.size by simp only [List.size_toArray]; exact hsz)
    clear hrg hth hone hsz hun
    go_wp2_with fail
    refine wp_region_any (by kernel_rfl) ?_
    (try (change wpAny _ _ _ _ _ _ _ (World.drew _)))
    --R3 BEGIN skip
    refine wpAny_take (i := 0) (oi := { dst := some 17, op := _, type := _, pos := _, after := _, guard := _ }) (v := ?_) rfl (by kernel_rfl) (by kernel_rfl) (by kernel_rfl) (fun _ _ _ h => h) (Or.inl ⟨by rfl, ?_⟩) ?_
    rotate_left
    · (intro w; go_simp; (try with_reducible rfl))
    (try simp only [Act.put, List.setIfInBounds_toArray, List.set_cons_zero, List.set_cons_succ])
    refine wpAny_take (i := 1) (oi := { dst := some 18, op := _, type := _, pos := _, after := _, guard := _ }) (v := ?_) rfl (by kernel_rfl) (by kernel_rfl) (by kernel_rfl) (fun _ _ _ h => h) (Or.inl ⟨by rfl, ?_⟩) ?_
    rotate_left
    · (intro w; go_simp; (try with_reducible rfl))
    (try simp only [Act.put, List.setIfInBounds_toArray, List.set_cons_zero, List.set_cons_succ])
    refine wpAny_take (i := 2) (oi := { dst := some 19, op := _, type := _, pos := _, after := _, guard := _ }) (v := ?_) rfl (by kernel_rfl) (by kernel_rfl) (by kernel_rfl) (fun _ _ _ h => h) (Or.inl ⟨by rfl, ?_⟩) ?_
    rotate_left
    · (intro w; go_simp; (try with_reducible rfl))
    (try simp only [Act.put, List.setIfInBounds_toArray, List.set_cons_zero, List.set_cons_succ])
    refine wpAny_take (i := 4) (oi := { dst := some 21, op := _, type := _, pos := _, after := _, guard := _ }) (v := ?_) rfl (by kernel_rfl) (by kernel_rfl) (by kernel_rfl) (fun _ _ _ h => h) (Or.inl ⟨by rfl, ?_⟩) ?_
    rotate_left
    · (intro w; go_simp; (try with_reducible rfl))
    (try simp only [Act.put, List.setIfInBounds_toArray, List.set_cons_zero, List.set_cons_succ])
    refine wpAny_ready (rs := [3, 5]) (by kernel_rfl) (by simp) ?_
    refine AllReady.cons (o := { dst := some 20, op := _, type := _, pos := _, after := _, guard := _ }) rfl (fun K hK => ?_) ?_
    · go_simp
      refine hK _ _ ?_
      clear hK K
      (try simp only [Act.put, List.setIfInBounds_toArray, List.set_cons_zero, List.set_cons_succ])
      refine wpAny_ready (rs := [5]) (by kernel_rfl) (by simp) ?_
      refine AllReady.cons (o := { dst := some 22, op := _, type := _, pos := _, after := _, guard := _ }) rfl (fun K hK => ?_) ?_
      · rw [if_pos (by rfl)]
        refine wp_load_mid _ _ rfl _ _ rfl L d69 HRD.out hu69 hd69 HSZ.out ?_
        refine hK _ _ ?_
        clear hK K
        (try simp only [Act.put, List.setIfInBounds_toArray, List.set_cons_zero, List.set_cons_succ])
        refine wpAny_take (i := 6) (oi := { dst := some 23, op := _, type := _, pos := _, after := _, guard := _ }) (v := ?_) rfl (by kernel_rfl) (by kernel_rfl) (by kernel_rfl) (fun _ _ _ h => h) (Or.inl ⟨by rfl, ?_⟩) ?_
        rotate_left
        · (intro w; go_simp; (try with_reducible rfl))
        (try simp only [Act.put, List.setIfInBounds_toArray, List.set_cons_zero, List.set_cons_succ])
        refine wpAny_ready (rs := [7]) (by kernel_rfl) (by simp) ?_
        refine AllReady.cons (o := { dst := none, op := _, type := _, pos := _, after := _, guard := _ }) rfl (fun K hK => ?_) ?_
        · rw [if_pos (by rfl)]
          refine wp_store_mid _ _ _ rfl _ _ L.toArray rfl rfl HTD.out HSY.out (all_oneCell_toArray HLO.out) ?_
          refine hK _ _ ?_
          clear hK K
          (try simp only [Act.put, List.setIfInBounds_toArray, List.set_cons_zero, List.set_cons_succ])
          refine wpAny_done (by kernel_rfl) ?_ _
          go_wp2_with fail
          refine HFL.out.mono ?_
          rintro e w5 ⟨rfl, hw5⟩
          obtain ⟨q5, f5, ⟨wd5, hfin⟩, hchg⟩ := HPE.out.2.2.2.2 w5 hw5
          have HFI := hidMk hfin
          have HCH := hidMk hchg
          clear hfin hchg hw5 HPE HFL
          go_wp2_with fail
          go_ret
          exact ⟨by rfl, ⟨n, wd5, _, _, by omega, HFI.out, fun t ht => .inl ht⟩, (Chg.of_kept K2.out.drew).trans ((HC2.out.mono (fun j _ e => .inr e)).trans (HCH.out.mono (fun j _ e => .inl e)))⟩
        exact AllReady.nil
      exact AllReady.nil
    refine AllReady.cons (o := { dst := some 22, op := _, type := _, pos := _, after := _, guard := _ }) rfl (fun K hK => ?_) ?_
    · rw [if_pos (by rfl)]
      refine wp_load_mid _ _ rfl _ _ rfl L d69 HRD.out hu69 hd69 HSZ.out ?_
      refine hK _ _ ?_
      clear hK K
      (try simp only [Act.put, List.setIfInBounds_toArray, List.set_cons_zero, List.set_cons_succ])
      refine wpAny_ready (rs := [3]) (by kernel_rfl) (by simp) ?_
      refine AllReady.cons (o := { dst := some 20, op := _, type := _, pos := _, after := _, guard := _ }) rfl (fun K hK => ?_) ?_
      · go_simp
        refine hK _ _ ?_
        clear hK K
        (try simp only [Act.put, List.setIfInBounds_toArray, List.set_cons_zero, List.set_cons_succ])
        refine wpAny_take (i := 6) (oi := { dst := some 23, op := _, type := _, pos := _, after := _, guard := _ }) (v := ?_) rfl (by kernel_rfl) (by kernel_rfl) (by kernel_rfl) (fun _ _ _ h => h) (Or.inl ⟨by rfl, ?_⟩) ?_
        rotate_left
        · (intro w; go_simp; (try with_reducible rfl))
        (try simp only [Act.put, List.setIfInBounds_toArray, List.set_cons_zero, List.set_cons_succ])
        refine wpAny_ready (rs := [7]) (by kernel_rfl) (by simp) ?_
        refine AllReady.cons (o := { dst := none, op := _, type := _, pos := _, after := _, guard := _ }) rfl (fun K hK => ?_) ?_
        · rw [if_pos (by rfl)]
          refine wp_store_mid _ _ _ rfl _ _ L.toArray rfl rfl HTD.out HSY.out (all_oneCell_toArray HLO.out) ?_
          refine hK _ _ ?_
          clear hK K
          (try simp only [Act.put, List.setIfInBounds_toArray, List.set_cons_zero, List.set_cons_succ])
          refine wpAny_done (by kernel_rfl) ?_ _
          go_wp2_with fail
          refine HFL.out.mono ?_
          rintro e w5 ⟨rfl, hw5⟩
          obtain ⟨q5, f5, ⟨wd5, hfin⟩, hchg⟩ := HPE.out.2.2.2.2 w5 hw5
          have HFI := hidMk hfin
          have HCH := hidMk hchg
          clear hfin hchg hw5 HPE HFL
          go_wp2_with fail
          go_ret
          exact ⟨by rfl, ⟨n, wd5, _, _, by omega, HFI.out, fun t ht => .inl ht⟩, (Chg.of_kept K2.out.drew).trans ((HC2.out.mono (fun j _ e => .inr e)).trans (HCH.out.mono (fun j _ e => .inl e)))⟩
        exact AllReady.nil
      exact AllReady.nil
    exact AllReady.nil
    --R3 END
  · obtain rfl : i = n := by omega
    subst hvs
    have hi' : ¬ ((i : Int) < i) := by omega
    go_enter Tryd.func58, Tryd.ntmps58
    go_wp2_with fail
    rw [← hW]
    clear hW
    refine HLW.out.mono ?_
    rintro e w2 ⟨rfl, k2⟩
    have K2 := hidMk (HKW.out.trans k2)
    have hA2 := HA.out.kept K2.out
    have c2 := hA2.c2
    have hA2d := hA2.kept ((Kept.refl w2).drew)
    have hA2a := hA2d.kept ((Kept.refl w2.drew).alloc (.cells L.toArray 104))
    have c2d := hA2d.c2
    have c2a := hA2a.c2
    have c2b := (hA2.kept (((Kept.refl w2).alloc (.cells L.toArray 104)).drew)).c2
    have HOW := hidMk hA2a.own
    have HBW := hidMk hA2a.B1
    have HN2 := hidMk hnl
    have HSZW := hidMk (show (w2.drew.alloc (.cells L.toArray 104)).heap.size = w2.heap.size + 1 by simp)
    have HRD := hidMk (((Kept.refl w2).drew).range (k2.range HRG.out))
    have HSZ := hidMk (show (Tryd.prog.info? 104).map (·.size) = some L.length by rw [HLL.out]; exact pl_size)
    have HPU := hidMk (show ∀ (w4 : World) (g4 cap4 : Nat), w4.ownsRow B 104 26 (.slice (some ⟨g4, 0, none⟩) (i + 1) cap4) (i + 1) (xs ++ L) → Chg (fun k => (Value.slice va i vc).ownBlock = some k) (w2.drew.alloc (.cells L.toArray 104)) w4 → ((Value.slice va i vc).ownBlock = some g4 ∨ g4 = (w2.drew.alloc (.cells L.toArray 104)).heap.size) → w4.cell? ⟨p, 2, none⟩ = some (.slice va i vc) ∧ w4.frozen? ⟨p, 2, none⟩ = false ∧ ARq (w4.setCell ⟨p, 2, none⟩ (.slice (some ⟨g4, 0, none⟩) (i + 1) cap4)) p B most (i + 1) rf (setR rf (i + 1 : Nat) 1) (updN nd (i + 1 : Nat) y) M wd (.slice (some ⟨g4, 0, none⟩) (i + 1) cap4) (xs ++ L) ∧ Chg (fun j => j = p ∨ (Value.slice va i vc).ownBlock = some j) w2.drew (w4.setCell ⟨p, 2, none⟩ (.slice (some ⟨g4, 0, none⟩) (i + 1) cap4)) ∧ (∀ j, j < 25 → (xs ++ L)[26 * i + j]? = (ndL y)[j]?) from fun w4 g4 cap4 o4 k4 a4 => by
      rw [← HL.out] at o4 ⊢
      obtain ⟨b1, b2, b3, b4, b5⟩ := ARq.putNew hA2a y hy (by omega) o4 k4
      exact ⟨b1, b2, b3, (Chg.of_kept ((Kept.refl w2.drew).alloc _)).trans b4, b5⟩)
    obtain ⟨d69, hu69, hd69⟩ := pl_row
    have HUN := hidMk (show usd rf (i + 1) = usd rf i by show usd rf i + (if rf (i + 1 : Nat) = 0 then 0 else 1) = _; rw [if_pos HXF.out]; rfl)
    have e7 : wrap64 ((usd rf (i + 1) : Int) + 1) = ((usd rf (i + 1) + 1 : Nat) : Int) := by rw [HUN.out]; exact e5
    rw [show i + 1 - 1 = i from rfl]
    clear hA2 hA2d hA2a k2
    go_wp2_with fail
    refine wp_region_any (by kernel_rfl) ?_
    (try (change wpAny _ _ _ _ _ _ _ (World.drew _)))
    --R4 BEGIN skip
    refine wpAny_take (i := 0) (oi := { dst := some 24, op := _, type := _, pos := _, after := _, guard := _ }) (v := ?_) rfl (by kernel_rfl) (by kernel_rfl) (by kernel_rfl) (fun _ _ _ h => h) (Or.inl ⟨by rfl, ?_⟩) ?_
    rotate_left
    · (intro w; go_simp; (try with_reducible rfl))
    (try simp only [Act.put, List.setIfInBounds_toArray, List.set_cons_zero, List.set_cons_succ])
    refine wpAny_take (i := 1) (oi := { dst := some 25, op := _, type := _, pos := _, after := _, guard := _ }) (v := ?_) rfl (by kernel_rfl) (by kernel_rfl) (by kernel_rfl) (fun _ _ _ h => h) (Or.inl ⟨by rfl, ?_⟩) ?_
    rotate_left
    · (intro w; go_simp; (try with_reducible rfl))
    (try simp only [Act.put, List.setIfInBounds_toArray, List.set_cons_zero, List.set_cons_succ])
    refine wpAny_take (i := 2) (oi := { dst := some 26, op := _, type := _, pos := _, after := _, guard := _ }) (v := ?_) rfl (by kernel_rfl) (by kernel_rfl) (by kernel_rfl) (fun _ _ _ h => h) (Or.inl ⟨by rfl, ?_⟩) ?_
    rotate_left
    · (intro w; go_simp; (try with_reducible rfl))
    (try simp only [Act.put, List.setIfInBounds_toArray, List.set_cons_zero, List.set_cons_succ])
    refine wpAny_take (i := 3) (oi := { dst := some 27, op := _, type := _, pos := _, after := _, guard := _ }) (v := ?_) rfl (by kernel_rfl) (by kernel_rfl) (by kernel_rfl) (fun _ _ _ h => h) (Or.inl ⟨by rfl, ?_⟩) ?_
    rotate_left
    · (intro w; go_simp; (try with_reducible rfl))
    (try simp only [Act.put, List.setIfInBounds_toArray, List.set_cons_zero, List.set_cons_succ])
    refine wpAny_ready (rs := [4, 5]) (by kernel_rfl) (by simp) ?_
    refine AllReady.cons (o := { dst := some 28, op := _, type := _, pos := _, after := _, guard := _ }) rfl (fun K hK => ?_) ?_
    · go_simp
      refine hK _ _ ?_
      clear hK K
      (try simp only [Act.put, List.setIfInBounds_toArray, List.set_cons_zero, List.set_cons_succ])
      refine wpAny_ready (rs := [5]) (by kernel_rfl) (by simp) ?_
      refine AllReady.cons (o := { dst := some 29, op := _, type := _, pos := _, after := _, guard := _ }) rfl (fun K hK => ?_) ?_
      · rw [if_pos (by rfl)]
        refine wp_load_mid _ _ rfl _ _ rfl L d69 HRD.out hu69 hd69 HSZ.out ?_
        refine hK _ _ ?_
        clear hK K
        (try simp only [Act.put, List.setIfInBounds_toArray, List.set_cons_zero, List.set_cons_succ])
        refine wpAny_ready (rs := [6]) (by kernel_rfl) (by simp) ?_
        refine AllReady.cons (o := { dst := some 30, op := _, type := _, pos := _, after := _, guard := _ }) rfl (fun K hK => ?_) ?_
        · rw [if_pos (by rfl)]
          refine wp_buildP HLL.out rfl rfl ?_
          refine hK _ _ ?_
          clear hK K
          (try simp only [Act.put, List.setIfInBounds_toArray, List.set_cons_zero, List.set_cons_succ])
          refine wpAny_ready (rs := [7]) (by kernel_rfl) (by simp) ?_
          refine AllReady.cons (o := { dst := some 31, op := _, type := _, pos := _, after := _, guard := _ }) rfl (fun K hK => ?_) ?_
          · refine step_pushPl _ (by rfl) _ _ (by rfl) B (.slice va i vc) i xs (by rfl) HOW.out HBW.out w2.heap.size L HLL.out HLO.out (by rfl) (new_range w2.drew L _) HN2.out _ (by rfl) ?_
            intro g4 cap4 w4 o4 k4 a4 l4
            obtain ⟨q4, f4, hpu⟩ := HPU.out w4 g4 cap4 o4 k4 a4
            have HP4 := hidMk hpu
            have HA4 := hidMk a4
            clear o4 k4 a4 l4 hpu
            refine hK _ _ ?_
            clear hK K
            (try simp only [Act.put, List.setIfInBounds_toArray, List.set_cons_zero, List.set_cons_succ])
            refine wpAny_take (i := 8) (oi := { dst := some 32, op := _, type := _, pos := _, after := _, guard := _ }) (v := ?_) rfl (by kernel_rfl) (by kernel_rfl) (by kernel_rfl) (fun _ _ _ h => h) (Or.inl ⟨by rfl, ?_⟩) ?_
            rotate_left
            · (intro w; go_simp; (try with_reducible rfl))
            (try simp only [Act.put, List.setIfInBounds_toArray, List.set_cons_zero, List.set_cons_succ])
            refine wpAny_take (i := 9) (oi := { dst := some 33, op := _, type := _, pos := _, after := _, guard := _ }) (v := ?_) rfl (by kernel_rfl) (by kernel_rfl) (by kernel_rfl) (fun _ _ _ h => h) (Or.inl ⟨by rfl, ?_⟩) ?_
            rotate_left
            · (intro w; go_simp; (try with_reducible rfl))
            (try simp only [Act.put, List.setIfInBounds_toArray, List.set_cons_zero, List.set_cons_succ])
            refine wpAny_ready (rs := [10]) (by kernel_rfl) (by simp) ?_
            refine AllReady.cons (o := { dst := none, op := _, type := _, pos := _, after := _, guard := _ }) rfl (fun K hK => ?_) ?_
            · go_simp
              refine hK _ _ ?_
              clear hK K
              (try simp only [Act.put, List.setIfInBounds_toArray, List.set_cons_zero, List.set_cons_succ])
              refine wpAny_done (by kernel_rfl) ?_ _
              have HP := HP4.out
              have HPE := hidMk (HP.1.putEnd (Nat.lt_succ_self i) HXF.out hM HP.2.2)
              have HFL := hidMk (arena_flip i (by omega) (wd (i / 64)) HPE.out.2.2.1 HPE.out.1 HPE.out.2.1)
              have HC2 := hidMk HP.2.1
              clear HP HP4
              go_wp2_with fail
              refine HFL.out.mono ?_
              rintro e w5 ⟨rfl, hw5⟩
              obtain ⟨q5, f5, ⟨wd5, hfin⟩, hchg⟩ := HPE.out.2.2.2.2 w5 hw5
              have HFI := hidMk hfin
              have HCH := hidMk hchg
              clear hfin hchg hw5 HPE HFL
              go_wp2_with fail
              go_ret
              exact ⟨by rfl, ⟨i + 1, wd5, _, _, by omega, HFI.out, fun t ht => by cases ht; rcases HA4.out with h | h; exact .inl h; exact .inr (Nat.le_trans K2.out.size (by rw [h]; simp))⟩, (Chg.of_kept K2.out.drew).trans ((HC2.out).trans (HCH.out.mono (fun j _ e => .inl e)))⟩
            exact AllReady.nil
          exact AllReady.nil
        exact AllReady.nil
      exact AllReady.nil
    refine AllReady.cons (o := { dst := some 29, op := _, type := _, pos := _, after := _, guard := _ }) rfl (fun K hK => ?_) ?_
    · rw [if_pos (by rfl)]
      refine wp_load_mid _ _ rfl _ _ rfl L d69 HRD.out hu69 hd69 HSZ.out ?_
      refine hK _ _ ?_
      clear hK K
      (try simp only [Act.put, List.setIfInBounds_toArray, List.set_cons_zero, List.set_cons_succ])
      refine wpAny_ready (rs := [4, 6]) (by kernel_rfl) (by simp) ?_
      refine AllReady.cons (o := { dst := some 28, op := _, type := _, pos := _, after := _, guard := _ }) rfl (fun K hK => ?_) ?_
      · go_simp
        refine hK _ _ ?_
        clear hK K
        (try simp only [Act.put, List.setIfInBounds_toArray, List.set_cons_zero, List.set_cons_succ])
        refine wpAny_ready (rs := [6]) (by kernel_rfl) (by simp) ?_
        refine AllReady.cons (o := { dst := some 30, op := _, type := _, pos := _, after := _, guard := _ }) rfl (fun K hK => ?_) ?_
        · rw [if_pos (by rfl)]
          refine wp_buildP HLL.out rfl rfl ?_
          refine hK _ _ ?_
          clear hK K
          (try simp only [Act.put, List.setIfInBounds_toArray, List.set_cons_zero, List.set_cons_succ])
          refine wpAny_ready (rs := [7]) (by kernel_rfl) (by simp) ?_
          refine AllReady.cons (o := { dst := some 31, op := _, type := _, pos := _, after := _, guard := _ }) rfl (fun K hK => ?_) ?_
          · refine step_pushPl _ (by rfl) _ _ (by rfl) B (.slice va i vc) i xs (by rfl) HOW.out HBW.out w2.heap.size L HLL.out HLO.out (by rfl) (new_range w2.drew L _) HN2.out _ (by rfl) ?_
            intro g4 cap4 w4 o4 k4 a4 l4
            obtain ⟨q4, f4, hpu⟩ := HPU.out w4 g4 cap4 o4 k4 a4
            have HP4 := hidMk hpu
            have HA4 := hidMk a4
            clear o4 k4 a4 l4 hpu
            refine hK _ _ ?_
            clear hK K
            (try simp only [Act.put, List.setIfInBounds_toArray, List.set_cons_zero, List.set_cons_succ])
            refine wpAny_take (i := 8) (oi := { dst := some 32, op := _, type := _, pos := _, after := _, guard := _ }) (v := ?_) rfl (by kernel_rfl) (by kernel_rfl) (by kernel_rfl) (fun _ _ _ h => h) (Or.inl ⟨by rfl, ?_⟩) ?_
            rotate_left
            · (intro w; go_simp; (try with_reducible rfl))
            (try simp only [Act.put, List.setIfInBounds_toArray, List.set_cons_zero, List.set_cons_succ])
            refine wpAny_take (i := 9) (oi := { dst := some 33, op := _, type := _, pos := _, after := _, guard := _ }) (v := ?_) rfl (by kernel_rfl) (by kernel_rfl) (by kernel_rfl) (fun _ _ _ h => h) (Or.inl ⟨by rfl, ?_⟩) ?_
            rotate_left
            · (intro w; go_simp; (try with_reducible rfl))
            (try simp only [Act.put, List.setIfInBounds_toArray, List.set_cons_zero, List.set_cons_succ])
            refine wpAny_ready (rs := [10]) (by kernel_rfl) (by simp) ?_
            refine AllReady.cons (o := { dst := none, op := _, type := _, pos := _, after := _, guard := _ }) rfl (fun K hK => ?_) ?_
            · go_simp
              refine hK _ _ ?_
              clear hK K
              (try simp only [Act.put, List.setIfInBounds_toArray, List.set_cons_zero, List.set_cons_succ])
              refine wpAny_done (by kernel_rfl) ?_ _
              have HP := HP4.out
              have HPE := hidMk (HP.1.putEnd (Nat.lt_succ_self i) HXF.out hM HP.2.2)
              have HFL := hidMk (arena_flip i (by omega) (wd (i / 64)) HPE.out.2.2.1 HPE.out.1 HPE.out.2.1)
              have HC2 := hidMk HP.2.1
              clear HP HP4
              go_wp2_with fail
              refine HFL.out.mono ?_
              rintro e w5 ⟨rfl, hw5⟩
              obtain ⟨q5, f5, ⟨wd5, hfin⟩, hchg⟩ := HPE.out.2.2.2.2 w5 hw5
              have HFI := hidMk hfin
              have HCH := hidMk hchg
              clear hfin hchg hw5 HPE HFL
              go_wp2_with fail
              go_ret
              exact ⟨by rfl, ⟨i + 1, wd5, _, _, by omega, HFI.out, fun t ht => by cases ht; rcases HA4.out with h | h; exact .inl h; exact .inr (Nat.le_trans K2.out.size (by rw [h]; simp))⟩, (Chg.of_kept K2.out.drew).trans ((HC2.out).trans (HCH.out.mono (fun j _ e => .inl e)))⟩
            exact AllReady.nil
          exact AllReady.nil
        exact AllReady.nil
      refine AllReady.cons (o := { dst := some 30, op := _, type := _, pos := _, after := _, guard := _ }) rfl (fun K hK => ?_) ?_
      · rw [if_pos (by rfl)]
        refine wp_buildP HLL.out rfl rfl ?_
        refine hK _ _ ?_
        clear hK K
        (try simp only [Act.put, List.setIfInBounds_toArray, List.set_cons_zero, List.set_cons_succ])
        refine wpAny_ready (rs := [4]) (by kernel_rfl) (by simp) ?_
        refine AllReady.cons (o := { dst := some 28, op := _, type := _, pos := _, after := _, guard := _ }) rfl (fun K hK => ?_) ?_
        · go_simp
          refine hK _ _ ?_
          clear hK K
          (try simp only [Act.put, List.setIfInBounds_toArray, List.set_cons_zero, List.set_cons_succ])
          refine wpAny_ready (rs := [7]) (by kernel_rfl) (by simp) ?_
          refine AllReady.cons (o := { dst := some 31, op := _, type := _, pos := _, after := _, guard := _ }) rfl (fun K hK => ?_) ?_
          · refine step_pushPl _ (by rfl) _ _ (by rfl) B (.slice va i vc) i xs (by rfl) HOW.out HBW.out w2.heap.size L HLL.out HLO.out (by rfl) (new_range w2.drew L _) HN2.out _ (by rfl) ?_
            intro g4 cap4 w4 o4 k4 a4 l4
            obtain ⟨q4, f4, hpu⟩ := HPU.out w4 g4 cap4 o4 k4 a4
            have HP4 := hidMk hpu
            have HA4 := hidMk a4
            clear o4 k4 a4 l4 hpu
            refine hK _ _ ?_
            clear hK K
            (try simp only [Act.put, List.setIfInBounds_toArray, List.set_cons_zero, List.set_cons_succ])
            refine wpAny_take (i := 8) (oi := { dst := some 32, op := _, type := _, pos := _, after := _, guard := _ }) (v := ?_) rfl (by kernel_rfl) (by kernel_rfl) (by kernel_rfl) (fun _ _ _ h => h) (Or.inl ⟨by rfl, ?_⟩) ?_
            rotate_left
            · (intro w; go_simp; (try with_reducible rfl))
            (try simp only [Act.put, List.setIfInBounds_toArray, List.set_cons_zero, List.set_cons_succ])
            refine wpAny_take (i := 9) (oi := { dst := some 33, op := _, type := _, pos := _, after := _, guard := _ }) (v := ?_) rfl (by kernel_rfl) (by kernel_rfl) (by kernel_rfl) (fun _ _ _ h => h) (Or.inl ⟨by rfl, ?_⟩) ?_
            rotate_left
            · (intro w; go_simp; (try with_reducible rfl))
            (try simp only [Act.put, List.setIfInBounds_toArray, List.set_cons_zero, List.set_cons_succ])
            refine wpAny_ready (rs := [10]) (by kernel_rfl) (by simp) ?_
            refine AllReady.cons (o := { dst := none, op := _, type := _, pos := _, after := _, guard := _ }) rfl (fun K hK => ?_) ?_
            · go_simp
              refine hK _ _ ?_
              clear hK K
              (try simp only [Act.put, List.setIfInBounds_toArray, List.set_cons_zero, List.set_cons_succ])
              refine wpAny_done (by kernel_rfl) ?_ _
              have HP := HP4.out
              have HPE := hidMk (HP.1.putEnd (Nat.lt_succ_self i) HXF.out hM HP.2.2)
              have HFL := hidMk (arena_flip i (by omega) (wd (i / 64)) HPE.out.2.2.1 HPE.out.1 HPE.out.2.1)
              have HC2 := hidMk HP.2.1
              clear HP HP4
              go_wp2_with fail
              refine HFL.out.mono ?_
              rintro e w5 ⟨rfl, hw5⟩
              obtain ⟨q5, f5, ⟨wd5, hfin⟩, hchg⟩ := HPE.out.2.2.2.2 w5 hw5
              have HFI := hidMk hfin
              have HCH := hidMk hchg
              clear hfin hchg hw5 HPE HFL
              go_wp2_with fail
              go_ret
              exact ⟨by rfl, ⟨i + 1, wd5, _, _, by omega, HFI.out, fun t ht => by cases ht; rcases HA4.out with h | h; exact .inl h; exact .inr (Nat.le_trans K2.out.size (by rw [h]; simp))⟩, (Chg.of_kept K2.out.drew).trans ((HC2.out).trans (HCH.out.mono (fun j _ e => .inl e)))⟩
            exact AllReady.nil
          exact AllReady.nil
        exact AllReady.nil
      exact AllReady.nil
    exact AllReady.nil
    --R4 END
end
end Go.Proofs.YtjkbhaplngnniaaDoor
