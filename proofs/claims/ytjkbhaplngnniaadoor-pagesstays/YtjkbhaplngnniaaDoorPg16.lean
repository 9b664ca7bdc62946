/- moietylaw10: do, where it is a Keep. -/
import Derived.Test.YtjkbhaplngnniaaDoorPgT8
import Derived.Deep.CutRange
import Derived.Deep.RegionHeld3
namespace Go.Proofs.YtjkbhaplngnniaaDoor
open Go.RowKit Go.Maps
set_option linter.unusedSimpArgs false
set_option linter.unusedVariables false

section
variable {w0 W : World} {t g p q tb cap : Nat} {codes room : Int} {l : List (Int × Int)} {n : Nat} {rf : Int → Nat} {nd : Int → ANd} {n2 : Nat} {nd2 : Int → ANd} {M : Nat} {lev : Int → Nat}
/-- A count is written. -/
theorem JS.stored (h : JS w0 W t g p q tb cap codes room l n rf nd n2 nd2 M lev) {W2 : World} {n' : Nat} {rf' : Int → Nat} {nd' : Int → ANd} {n2' : Nat} {nd2' : Int → ANd} {M' : Nat} {lev' : Int → Nat} {k : Nat} (hk : k < l.length) (c : Int)
    (hb : BA w0 W2 p q (fun j => j = g ∨ j = t ∨ j = tb) room n' rf' nd' M' n2' rf' nd2' M') (hx : Fx (fun j => j = g ∨ j = t ∨ j = tb) W W2) (sm : ∀ i, rf' i ≠ 0 → nd2' i = nd' i) (iv : PInv n' rf' nd' (tC (l.set k ((l.getD k (0, 0)).1, c))) lev' (lvls codes))
    (rt : ∀ j, j < l.length → 0 < ((l.set k ((l.getD k (0, 0)).1, c)).getD j (0, 0)).2 → RootOk rf' lev' (lvls codes) (l.getD j (0, 0)).1) (hc : 0 ≤ c) (h0 : k = 0 → 0 < c) (cp : (usd rf' n' : Int) ≤ room) (hnd : nd' = nd) (hkp : 0 < (l.getD k (0, 0)).2) :
    JS w0 (W2.setCell ⟨tb, k * 3 + 2, none⟩ (.int .i64 c)) t g p q tb cap codes room (l.set k ((l.getD k (0, 0)).1, c)) n' rf' nd' n2' nd2' M' lev' := by
  have hch : Chg (fun j => j = tb) W2 (W2.setCell ⟨tb, k * 3 + 2, none⟩ (.int .i64 c)) := chg_setCells (S := fun j => j = tb) rfl [.int .i64 c] (k * 3 + 2) (Chg.refl _ _)
  have hpg := hx.pg h.pg (.inl rfl)
  have ht := hb.flt t (.inr (.inl rfl))
  have hg1 : ∀ j, (l.set k ((l.getD k (0, 0)).1, c)).getD j (0, 0) = if j = k then ((l.getD k (0, 0)).1, c) else l.getD j (0, 0) := fun j => by
    by_cases e : j = k
    · subst e; rw [if_pos rfl, List.getD_eq_getElem?_getD, List.getElem?_set_self hk]; rfl
    · rw [if_neg e, List.getD_eq_getElem?_getD, List.getElem?_set_ne (fun e' => e e'.symm), ← List.getD_eq_getElem?_getD]
  have hlen : (l.set k ((l.getD k (0, 0)).1, c)).length = l.length := by simp
  refine ⟨hb.poke (b := tb) (.inr (.inr rfl)) hch, sm, iv, ⟨hch.cellp hpg.c0 h.d3, hch.cellp hpg.c1 h.d3, hch.cellp hpg.c2 h.d3, hpg.k1, hpg.k2⟩, ?_, ?_, h.d1, h.d2, h.d3, fun j hj hp => ?_, fun j => ?_, ?_, cp, fun j hj hp o h1 h2 => ?_⟩
  · have hc0 : ∀ {o : Nat} {v : Value}, W.cell? ⟨t, o, none⟩ = some v → (W2.setCell ⟨tb, k * 3 + 2, none⟩ (.int .i64 c)).cell? ⟨t, o, none⟩ = some v := fun hv => hch.cellp (hx.cell (.inr (.inl rfl)) hv) h.d1
    refine ⟨hc0 h.pl.c0, hc0 h.pl.c1, hc0 h.pl.c2, hc0 h.pl.c3, ?_, fun j => ?_⟩
    · rw [hlen]; exact hc0 h.pl.c4
    · rw [hch.frozen (p := ⟨t, j, none⟩) ht h.d1]
      have e2 : W2.frozen? ⟨t, j, none⟩ = W.frozen? ⟨t, j, none⟩ := by simp only [World.frozen?, hx t (.inr (.inl rfl))]
      rw [e2]; exact h.pl.fz j
  · have ho2 : W2.ownsRow w0.heap.size 49 3 (.slice (some ⟨tb, 0, none⟩) l.length cap) l.length (tL l) := by
      obtain ⟨h0', ⟨h1, _⟩ | ⟨b, cp', cur, hv, hb', hh, r⟩⟩ := h.ow
      · cases h1
      · cases hv
        exact ⟨h0', .inr ⟨tb, _, cur, rfl, hb', by rw [hx tb (.inr (.inr rfl))]; exact hh, r⟩⟩
    have := own_setL [.int .i64 c] (k * 3 + 2) ho2
    rw [hlen, ← tL_set l k c hk]
    exact this
  · rw [hlen] at hj
    have := rt j hj hp
    rw [hg1 j]
    split
    · next e => subst e; exact this
    · exact this
  · rw [hg1 j]; split
    · exact hc
    · exact h.nn j
  · refine ⟨by rw [hlen]; exact h.fs.1, ?_, ?_⟩
    · rw [hg1 0]; split
      · next e => subst e; exact h.fs.2.1
      · exact h.fs.2.1
    · rw [hg1 0]; split
      · next e => exact h0 e.symm
      · exact h.fs.2.2
  · rw [hlen] at hj
    rw [hg1 j] at hp ⊢
    rw [hnd]
    by_cases e : j = k
    · rw [if_pos e]; exact h.hz k hk hkp o h1 h2
    · rw [if_neg e] at hp ⊢; exact h.hz j hj hp o h1 h2
theorem set_bound {l : List (Int × Int)} {C : Int} (h : ∀ k, (l.getD k (0, 0)).2 ≤ C) (k : Nat) (x c : Int) (hc : c ≤ C + 1) : ∀ j, ((l.set k (x, c)).getD j (0, 0)).2 ≤ C + 1 := fun j => by
  by_cases e : j = k
  · subst e
    by_cases hk : j < l.length
    · rw [List.getD_eq_getElem?_getD, List.getElem?_set_self hk]; exact hc
    · rw [List.set_eq_of_length_le (by omega)]; have := h j; omega
  · rw [List.getD_eq_getElem?_getD, List.getElem?_set_ne (fun e' => e e'.symm), ← List.getD_eq_getElem?_getD]; have := h j; omega
theorem app_bound {l : List (Int × Int)} {C : Int} (h0 : 0 ≤ C) (h : ∀ k, (l.getD k (0, 0)).2 ≤ C) (x : Int) : ∀ j, ((l ++ [(x, 1)]).getD j (0, 0)).2 ≤ C + 1 := fun j => by
  by_cases e : j < l.length
  · rw [List.getD_eq_getElem?_getD, List.getElem?_append_left e, ← List.getD_eq_getElem?_getD]; have := h j; omega
  · by_cases e2 : j = l.length
    · subst e2; rw [List.getD_eq_getElem?_getD, List.getElem?_append_right (Nat.le_refl _)]; simp; omega
    · rw [List.getD_eq_getElem?_getD, List.getElem?_eq_none (by simp; omega)]; show (0 : Int) ≤ C + 1; omega
def DoP (w0 : World) (t g p q : Nat) (codes room : Int) (len M : Nat) (C : Int) (e : Ending) (w' : World) : Prop :=
  e = .returned (.bool true) ∧ ∃ tb cap l n rf nd n2 nd2 M' lev, JS w0 w' t g p q tb cap codes room l n rf nd n2 nd2 M' lev ∧ l.length ≤ len + 1 ∧ M' ≤ M + 60 ∧ ∀ k, (l.getD k (0, 0)).2 ≤ C + 1
set_option maxHeartbeats 8000000 in
set_option maxRecDepth 100000 in
theorem do_keep (h : JS w0 W t g p q tb cap codes room l n rf nd n2 nd2 M lev) (hl : l.length ≤ 60) (hM : M + 60 ≤ 4611686018427387904) (C : Int) (hC : 0 ≤ C ∧ C ≤ 1000000) (hcs : ∀ k, (l.getD k (0, 0)).2 ≤ C) (kd of code v : Int) (hd : Bool) (hk3 : kd.tmod 3 = 1) :
    Calls Tryd.prog 17 #[.pointer (some ⟨t, 0, none⟩), .agg #[.int .i64 kd, .int .i64 of, .int .i64 code, .int .i64 v, .bool hd]] W (DoP w0 t g p q codes room l.length M C) := by
  obtain ⟨W1, hW1⟩ : ∃ W1, W1 = W.alloc (.cells #[.int .i64 kd, .int .i64 of, .int .i64 code, .int .i64 v, .bool hd] 41) := ⟨_, rfl⟩
  have k1 : Kept W W1 := by rw [hW1]; exact (Kept.refl W).alloc _
  obtain ⟨ab, hab⟩ : ∃ b, b = W.heap.size := ⟨_, rfl⟩
  have r1 : W1.rangeAt ab 0 [.int .i64 kd, .int .i64 of, .int .i64 code, .int .i64 v, .bool hd] := by rw [hW1, hab]; exact new_range W [.int .i64 kd, .int .i64 of, .int .i64 code, .int .i64 v, .bool hd] _
  have a0 : W1.cell? ⟨ab, 0, none⟩ = some (.int .i64 kd) := by have := r1 0 _ rfl; simpa using this
  have a1 : W1.cell? ⟨ab, 1, none⟩ = some (.int .i64 of) := by have := r1 1 _ rfl; simpa using this
  have HPK := hidMk (js_pick (h.keep k1) hl of)
  have HJ1 := hidMk (h.keep k1)
  have HJ0 := hidMk h
  have HCS := hidMk hcs
  have HC0 := hidMk hC
  have hm : l.length ≤ 60 := hl
  obtain ⟨m, hml⟩ : ∃ m, m = l.length := ⟨_, rfl⟩
  have HML := hidMk hml
  have HM1 := hidMk (show M + 1 ≤ 4611686018427387904 by omega)
  have HMB := hidMk hM
  have HKW := hidMk k1
  clear h hcs hC k1 r1 hml hM hl
  go_enter Tryd.func17, Tryd.ntmps17
  go_wp2_with fail
  rw [← hW1, ← hab]
  clear hW1 hab
  refine HPK.out.mono ?_
  rintro e w2 ⟨k, rfl, hkm, hkc, k2⟩
  have HK2 := hidMk k2
  have HJ := HJ1
  have b0 := k2.cellp a0
  obtain ⟨x, hx⟩ : ∃ x, x = (l.getD k (0, 0)).1 := ⟨_, rfl⟩
  obtain ⟨cc, hcc⟩ : ∃ x, x = (l.getD k (0, 0)).2 := ⟨_, rfl⟩
  have HXC := hidMk (And.intro hx hcc)
  have HRX := hidMk (show x = 0 ∨ rf x ≠ 0 from by rw [hx]; exact (HJ0.out.rt k hkm hkc).imp id (fun e => e.1))
  have hj2 := HJ1.out.keep k2
  obtain ⟨q1, q2, q3⟩ := hj2.cells hkm
  rw [← hx] at q1 q2
  rw [← hcc] at q3
  have HCL := hidMk (show w2.cell? ⟨t, 0, none⟩ = some (.pointer (some ⟨g, 0, none⟩)) ∧ w2.cell? ⟨t, 1, none⟩ = some (.pointer (some ⟨q, 0, none⟩)) ∧ w2.cell? ⟨t, 4, none⟩ = some (.slice (some ⟨tb, 0, none⟩) m cap) ∧ w2.cell? ⟨tb, k * 3, none⟩ = some (.int .i64 x) ∧ w2.cell? ⟨tb, k * 3 + 1, none⟩ = some (.int .i64 x) from ⟨hj2.pl.c0, hj2.pl.c1, by rw [HML.out]; exact hj2.pl.c4, q1, q2⟩)
  have hkm' : (k : Int) < m := by have := HML.out; omega
  have HKM := hidMk (And.intro hkm hkc)
  clear hx hcc hj2 q1 q2 hkm hkc k2 HPK a0 a1
  go_upto_region 20 with fail
  go_cut [180] from 167 to 179 (fun s W' => s = .bool false ∧ Hid (BA w0 W' p q (fun j => j = g ∨ j = t ∨ j = tb) room n (KeepZ rf x) nd (M + 1) n2 rf nd2 M ∧ Fx (fun j => j = g ∨ j = t ∨ j = tb) W W'))
  case first =>
      refine wp_region_held_drew (S := (fun w' => w'.cell? ⟨t, 0, none⟩ = some (.pointer (some ⟨g, 0, none⟩)) ∧ w'.cell? ⟨t, 4, none⟩ = some (.slice (some ⟨tb, 0, none⟩) m cap) ∧ w'.cell? ⟨tb, k * 3, none⟩ = some (.int .i64 x))) (by kernel_rfl) ?_ (fun hHeld => ?_)
      · exact ⟨((Kept.refl w2).drew).cellp HCL.out.1, ((Kept.refl w2).drew).cellp HCL.out.2.2.1, ((Kept.refl w2).drew).cellp HCL.out.2.2.2.1⟩
      refine wpAnyH_take (i := 0) (oi := { dst := some 167, op := _, type := _, pos := _, after := _, guard := _ }) (v := ?_) rfl (by kernel_rfl) (by kernel_rfl) (by kernel_rfl) (fun _ _ _ h => h) (Or.inl ⟨by rfl, ?_⟩) (by assumption) ?_
      rotate_left
      · (intro w hSw; (try obtain ⟨hSw1, hSw2⟩ := hSw); (try obtain ⟨hSw2, hSw3⟩ := hSw2); go_simp; (try with_reducible rfl))
      (try simp only [Act.put, List.setIfInBounds_toArray, List.set_cons_zero, List.set_cons_succ])
      refine wpAnyH_take (i := 1) (oi := { dst := some 168, op := _, type := _, pos := _, after := _, guard := _ }) (v := ?_) rfl (by kernel_rfl) (by kernel_rfl) (by kernel_rfl) (fun _ _ _ h => h) (Or.inl ⟨by rfl, ?_⟩) (by assumption) ?_
      rotate_left
      · (intro w hSw; (try obtain ⟨hSw1, hSw2⟩ := hSw); (try obtain ⟨hSw2, hSw3⟩ := hSw2); go_simp; (try with_reducible rfl))
      (try simp only [Act.put, List.setIfInBounds_toArray, List.set_cons_zero, List.set_cons_succ])
      refine wpAnyH_take (i := 2) (oi := { dst := some 169, op := _, type := _, pos := _, after := _, guard := _ }) (v := ?_) rfl (by kernel_rfl) (by kernel_rfl) (by kernel_rfl) (fun _ _ _ h => h) (Or.inl ⟨by rfl, ?_⟩) (by assumption) ?_
      rotate_left
      · (intro w hSw; (try obtain ⟨hSw1, hSw2⟩ := hSw); (try obtain ⟨hSw2, hSw3⟩ := hSw2); go_simp; (try with_reducible rfl))
      (try simp only [Act.put, List.setIfInBounds_toArray, List.set_cons_zero, List.set_cons_succ])
      refine wpAnyH_take (i := 3) (oi := { dst := some 170, op := _, type := _, pos := _, after := _, guard := _ }) (v := ?_) rfl (by kernel_rfl) (by kernel_rfl) (by kernel_rfl) (fun _ _ _ h => h) (Or.inl ⟨by rfl, ?_⟩) (by assumption) ?_
      rotate_left
      · (intro w hSw; (try obtain ⟨hSw1, hSw2⟩ := hSw); (try obtain ⟨hSw2, hSw3⟩ := hSw2); go_simp; (try with_reducible rfl))
      (try simp only [Act.put, List.setIfInBounds_toArray, List.set_cons_zero, List.set_cons_succ])
      refine wpAnyH_take (i := 4) (oi := { dst := some 171, op := _, type := _, pos := _, after := _, guard := _ }) (v := ?_) rfl (by kernel_rfl) (by kernel_rfl) (by kernel_rfl) (fun _ _ _ h => h) (Or.inl ⟨by rfl, ?_⟩) (by assumption) ?_
      rotate_left
      · (intro w hSw; (try obtain ⟨hSw1, hSw2⟩ := hSw); (try obtain ⟨hSw2, hSw3⟩ := hSw2); go_simp; (try with_reducible rfl))
      (try simp only [Act.put, List.setIfInBounds_toArray, List.set_cons_zero, List.set_cons_succ])
      refine wpAnyH_take (i := 5) (oi := { dst := some 172, op := _, type := _, pos := _, after := _, guard := _ }) (v := ?_) rfl (by kernel_rfl) (by kernel_rfl) (by kernel_rfl) (fun _ _ _ h => h) (Or.inl ⟨by rfl, ?_⟩) (by assumption) ?_
      rotate_left
      · (intro w hSw; (try obtain ⟨hSw1, hSw2⟩ := hSw); (try obtain ⟨hSw2, hSw3⟩ := hSw2); go_simp; (try with_reducible rfl))
      (try simp only [Act.put, List.setIfInBounds_toArray, List.set_cons_zero, List.set_cons_succ])
      refine wpAnyH_take (i := 6) (oi := { dst := some 173, op := _, type := _, pos := _, after := _, guard := _ }) (v := ?_) rfl (by kernel_rfl) (by kernel_rfl) (by kernel_rfl) (fun _ _ _ h => h) (Or.inl ⟨by rfl, ?_⟩) (by assumption) ?_
      rotate_left
      · (intro w hSw; (try obtain ⟨hSw1, hSw2⟩ := hSw); (try obtain ⟨hSw2, hSw3⟩ := hSw2); go_simp; (try with_reducible rfl))
      (try simp only [Act.put, List.setIfInBounds_toArray, List.set_cons_zero, List.set_cons_succ])
      refine wpAnyH_take (i := 7) (oi := { dst := some 174, op := _, type := _, pos := _, after := _, guard := _ }) (v := ?_) rfl (by kernel_rfl) (by kernel_rfl) (by kernel_rfl) (fun _ _ _ h => h) (Or.inl ⟨by rfl, ?_⟩) (by assumption) ?_
      rotate_left
      · (intro w hSw; (try obtain ⟨hSw1, hSw2⟩ := hSw); (try obtain ⟨hSw2, hSw3⟩ := hSw2); go_simp; (try with_reducible rfl))
      (try simp only [Act.put, List.setIfInBounds_toArray, List.set_cons_zero, List.set_cons_succ])
      refine wpAnyH_take (i := 8) (oi := { dst := some 175, op := _, type := _, pos := _, after := _, guard := _ }) (v := ?_) rfl (by kernel_rfl) (by kernel_rfl) (by kernel_rfl) (fun _ _ _ h => h) (Or.inl ⟨by rfl, ?_⟩) (by assumption) ?_
      rotate_left
      · (intro w hSw; (try obtain ⟨hSw1, hSw2⟩ := hSw); (try obtain ⟨hSw2, hSw3⟩ := hSw2); go_simp; (try with_reducible rfl))
      (try simp only [Act.put, List.setIfInBounds_toArray, List.set_cons_zero, List.set_cons_succ])
      refine wpAnyH_take (i := 9) (oi := { dst := some 176, op := _, type := _, pos := _, after := _, guard := _ }) (v := ?_) rfl (by kernel_rfl) (by kernel_rfl) (by kernel_rfl) (fun _ _ _ h => h) (Or.inl ⟨by rfl, ?_⟩) (by assumption) ?_
      rotate_left
      · (intro w hSw; (try obtain ⟨hSw1, hSw2⟩ := hSw); (try obtain ⟨hSw2, hSw3⟩ := hSw2); go_simp; (try with_reducible rfl))
      (try simp only [Act.put, List.setIfInBounds_toArray, List.set_cons_zero, List.set_cons_succ])
      refine wpAnyH_take (i := 10) (oi := { dst := some 177, op := _, type := _, pos := _, after := _, guard := _ }) (v := ?_) rfl (by kernel_rfl) (by kernel_rfl) (by kernel_rfl) (fun _ _ _ h => h) (Or.inl ⟨by rfl, ?_⟩) (by assumption) ?_
      rotate_left
      · (intro w hSw; (try obtain ⟨hSw1, hSw2⟩ := hSw); (try obtain ⟨hSw2, hSw3⟩ := hSw2); go_simp; (try with_reducible rfl))
      (try simp only [Act.put, List.setIfInBounds_toArray, List.set_cons_zero, List.set_cons_succ])
      refine wpAnyH_take (i := 11) (oi := { dst := some 178, op := _, type := _, pos := _, after := _, guard := _ }) (v := ?_) rfl (by kernel_rfl) (by kernel_rfl) (by kernel_rfl) (fun _ _ _ h => h) (Or.inl ⟨by rfl, ?_⟩) (by assumption) ?_
      rotate_left
      · (intro w hSw; (try obtain ⟨hSw1, hSw2⟩ := hSw); (try obtain ⟨hSw2, hSw3⟩ := hSw2); go_simp; (try with_reducible rfl))
      (try simp only [Act.put, List.setIfInBounds_toArray, List.set_cons_zero, List.set_cons_succ])
      refine wpAnyH_ready (rs := [12]) (by kernel_rfl) (by simp) ?_
      refine AllReadyH.cons (o := { dst := some 179, op := _, type := _, pos := _, after := _, guard := _ }) rfl (fun K hK => ?_) AllReadyH.nil
      go_simp
      refine (pg_Keep (HJ.out.ba.keep (HK2.out.drew)) (HJ.out.pg.kept (HK2.out.drew)) HM1.out x HRX.out).mono ?_
      rintro e wK ⟨heK, hbK, hxK⟩
      have HBK := hidMk hbK
      have HXK := hidMk hxK
      clear hbK hxK
      (try obtain ⟨vK, rfl⟩ := heK)
      (try subst heK)
      (try go_wp2_with fail)
      refine hK.out _ _ ?_ (fun hHeld => ?_)
      · exact ⟨HXK.out.cell (.inr (.inl rfl)) hHeld.1, HXK.out.cell (.inr (.inl rfl)) hHeld.2.1, HXK.out.cell (.inr (.inr rfl)) hHeld.2.2⟩
      clear hK K
      (try simp only [Act.put, List.setIfInBounds_toArray, List.set_cons_zero, List.set_cons_succ])
      refine wpAnyH_take (i := 13) (oi := { dst := some 180, op := _, type := _, pos := _, after := _, guard := _ }) (v := ?_) rfl (by kernel_rfl) (by kernel_rfl) (by kernel_rfl) (fun _ _ _ h => h) (Or.inl ⟨by rfl, ?_⟩) (by assumption) ?_
      rotate_left
      · (intro w hSw; (try obtain ⟨hSw1, hSw2⟩ := hSw); (try obtain ⟨hSw2, hSw3⟩ := hSw2); go_simp; (try with_reducible rfl))
      (try simp only [Act.put, List.setIfInBounds_toArray, List.set_cons_zero, List.set_cons_succ])
      refine wpAnyH_done (by kernel_rfl) ?_ _
      go_wp2_with fail
      go_meet
      have hfx : Fx (fun j => j = g ∨ j = t ∨ j = tb) W wK := (Fx.of_kept (F := fun j => j = g ∨ j = t ∨ j = tb) (HKW.out.trans HK2.out.drew) HJ0.out.ba.flt).trans HXK.out
      exact ⟨rfl, hidMk ⟨HBK.out, hfx⟩⟩
  case rest =>
    obtain ⟨rfl, HC3⟩ := hcut
    have hf := HC3.out.2
    have hcl0 := HJ0.out.cells HKM.out.1
    rw [← HXC.out.1, ← HXC.out.2] at hcl0
    have HCL3 := hidMk (show wc.cell? ⟨t, 0, none⟩ = some (.pointer (some ⟨g, 0, none⟩)) ∧ wc.cell? ⟨t, 1, none⟩ = some (.pointer (some ⟨q, 0, none⟩)) ∧ wc.cell? ⟨t, 4, none⟩ = some (.slice (some ⟨tb, 0, none⟩) m cap) ∧ wc.cell? ⟨tb, k * 3, none⟩ = some (.int .i64 x) ∧ wc.cell? ⟨tb, k * 3 + 1, none⟩ = some (.int .i64 x) from ⟨hf.cell (.inr (.inl rfl)) HJ0.out.pl.c0, hf.cell (.inr (.inl rfl)) HJ0.out.pl.c1, by rw [HML.out]; exact hf.cell (.inr (.inl rfl)) HJ0.out.pl.c4, hf.cell (.inr (.inr rfl)) hcl0.1, hf.cell (.inr (.inr rfl)) hcl0.2.1⟩)
    have y1 := HCL3.out.2.2.1
    have y2 := HCL3.out.2.2.2.2
    clear hf hcl0 HCL HRX HJ b0 HK2
    go_upto_if 189 with fail
    go_cut [] from 181 to 202 (fun W' => Hid (BA w0 W' p q (fun j => j = g ∨ j = t ∨ j = tb) room n (KeepZ rf x) nd (M + 1) n2 (KeepZ rf x) nd2 (M + 1) ∧ Fx (fun j => j = g ∨ j = t ∨ j = tb) W W'))
    case first =>
      by_cases hx0 : x = 0
      · have HB := hidMk (show BA w0 wc p q (fun j => j = g ∨ j = t ∨ j = tb) room n (KeepZ rf x) nd (M + 1) n2 (KeepZ rf x) nd2 (M + 1) from by
          have hb := HC3.out.1.raiseR (M' := M + 1) (by omega) HM1.out
          have e : KeepZ rf x = rf := by unfold KeepZ; rw [if_pos hx0]
          rw [e] at hb ⊢
          exact hb)
        have HF := hidMk HC3.out.2
        clear HC3 HCL3
        go_wp2_with fail
        go_meet
        exact hidMk ⟨HB.out, HF.out⟩
      · have hxb : (x == 0) = false := by simpa using hx0
        have HX0 := hidMk hx0
        go_wp2_with fail
        refine wp_region_held_drew (S := (fun w' => w'.cell? ⟨t, 1, none⟩ = some (.pointer (some ⟨q, 0, none⟩)) ∧ w'.cell? ⟨t, 4, none⟩ = some (.slice (some ⟨tb, 0, none⟩) m cap) ∧ w'.cell? ⟨tb, k * 3 + 1, none⟩ = some (.int .i64 x))) (by kernel_rfl) ?_ (fun hHeld => ?_)
        · exact ⟨((Kept.refl wc).drew).cellp HCL3.out.2.1, ((Kept.refl wc).drew).cellp HCL3.out.2.2.1, ((Kept.refl wc).drew).cellp HCL3.out.2.2.2.2⟩
        refine wpAnyH_take (i := 0) (oi := { dst := some 190, op := _, type := _, pos := _, after := _, guard := _ }) (v := ?_) rfl (by kernel_rfl) (by kernel_rfl) (by kernel_rfl) (fun _ _ _ h => h) (Or.inl ⟨by rfl, ?_⟩) (by assumption) ?_
        rotate_left
        · (intro w hSw; (try obtain ⟨hSw1, hSw2⟩ := hSw); (try obtain ⟨hSw2, hSw3⟩ := hSw2); go_simp; (try with_reducible rfl))
        (try simp only [Act.put, List.setIfInBounds_toArray, List.set_cons_zero, List.set_cons_succ])
        refine wpAnyH_take (i := 1) (oi := { dst := some 191, op := _, type := _, pos := _, after := _, guard := _ }) (v := ?_) rfl (by kernel_rfl) (by kernel_rfl) (by kernel_rfl) (fun _ _ _ h => h) (Or.inl ⟨by rfl, ?_⟩) (by assumption) ?_
        rotate_left
        · (intro w hSw; (try obtain ⟨hSw1, hSw2⟩ := hSw); (try obtain ⟨hSw2, hSw3⟩ := hSw2); go_simp; (try with_reducible rfl))
        (try simp only [Act.put, List.setIfInBounds_toArray, List.set_cons_zero, List.set_cons_succ])
        refine wpAnyH_take (i := 2) (oi := { dst := some 192, op := _, type := _, pos := _, after := _, guard := _ }) (v := ?_) rfl (by kernel_rfl) (by kernel_rfl) (by kernel_rfl) (fun _ _ _ h => h) (Or.inl ⟨by rfl, ?_⟩) (by assumption) ?_
        rotate_left
        · (intro w hSw; (try obtain ⟨hSw1, hSw2⟩ := hSw); (try obtain ⟨hSw2, hSw3⟩ := hSw2); go_simp; (try with_reducible rfl))
        (try simp only [Act.put, List.setIfInBounds_toArray, List.set_cons_zero, List.set_cons_succ])
        refine wpAnyH_take (i := 3) (oi := { dst := some 193, op := _, type := _, pos := _, after := _, guard := _ }) (v := ?_) rfl (by kernel_rfl) (by kernel_rfl) (by kernel_rfl) (fun _ _ _ h => h) (Or.inl ⟨by rfl, ?_⟩) (by assumption) ?_
        rotate_left
        · (intro w hSw; (try obtain ⟨hSw1, hSw2⟩ := hSw); (try obtain ⟨hSw2, hSw3⟩ := hSw2); go_simp; (try with_reducible rfl))
        (try simp only [Act.put, List.setIfInBounds_toArray, List.set_cons_zero, List.set_cons_succ])
        refine wpAnyH_take (i := 4) (oi := { dst := some 194, op := _, type := _, pos := _, after := _, guard := _ }) (v := ?_) rfl (by kernel_rfl) (by kernel_rfl) (by kernel_rfl) (fun _ _ _ h => h) (Or.inl ⟨by rfl, ?_⟩) (by assumption) ?_
        rotate_left
        · (intro w hSw; (try obtain ⟨hSw1, hSw2⟩ := hSw); (try obtain ⟨hSw2, hSw3⟩ := hSw2); go_simp; (try with_reducible rfl))
        (try simp only [Act.put, List.setIfInBounds_toArray, List.set_cons_zero, List.set_cons_succ])
        refine wpAnyH_take (i := 5) (oi := { dst := some 195, op := _, type := _, pos := _, after := _, guard := _ }) (v := ?_) rfl (by kernel_rfl) (by kernel_rfl) (by kernel_rfl) (fun _ _ _ h => h) (Or.inl ⟨by rfl, ?_⟩) (by assumption) ?_
        rotate_left
        · (intro w hSw; (try obtain ⟨hSw1, hSw2⟩ := hSw); (try obtain ⟨hSw2, hSw3⟩ := hSw2); go_simp; (try with_reducible rfl))
        (try simp only [Act.put, List.setIfInBounds_toArray, List.set_cons_zero, List.set_cons_succ])
        refine wpAnyH_take (i := 6) (oi := { dst := some 196, op := _, type := _, pos := _, after := _, guard := _ }) (v := ?_) rfl (by kernel_rfl) (by kernel_rfl) (by kernel_rfl) (fun _ _ _ h => h) (Or.inl ⟨by rfl, ?_⟩) (by assumption) ?_
        rotate_left
        · (intro w hSw; (try obtain ⟨hSw1, hSw2⟩ := hSw); (try obtain ⟨hSw2, hSw3⟩ := hSw2); go_simp; (try with_reducible rfl))
        (try simp only [Act.put, List.setIfInBounds_toArray, List.set_cons_zero, List.set_cons_succ])
        refine wpAnyH_take (i := 7) (oi := { dst := some 197, op := _, type := _, pos := _, after := _, guard := _ }) (v := ?_) rfl (by kernel_rfl) (by kernel_rfl) (by kernel_rfl) (fun _ _ _ h => h) (Or.inl ⟨by rfl, ?_⟩) (by assumption) ?_
        rotate_left
        · (intro w hSw; (try obtain ⟨hSw1, hSw2⟩ := hSw); (try obtain ⟨hSw2, hSw3⟩ := hSw2); go_simp; (try with_reducible rfl))
        (try simp only [Act.put, List.setIfInBounds_toArray, List.set_cons_zero, List.set_cons_succ])
        refine wpAnyH_take (i := 8) (oi := { dst := some 198, op := _, type := _, pos := _, after := _, guard := _ }) (v := ?_) rfl (by kernel_rfl) (by kernel_rfl) (by kernel_rfl) (fun _ _ _ h => h) (Or.inl ⟨by rfl, ?_⟩) (by assumption) ?_
        rotate_left
        · (intro w hSw; (try obtain ⟨hSw1, hSw2⟩ := hSw); (try obtain ⟨hSw2, hSw3⟩ := hSw2); go_simp; (try with_reducible rfl))
        (try simp only [Act.put, List.setIfInBounds_toArray, List.set_cons_zero, List.set_cons_succ])
        refine wpAnyH_take (i := 9) (oi := { dst := some 199, op := _, type := _, pos := _, after := _, guard := _ }) (v := ?_) rfl (by kernel_rfl) (by kernel_rfl) (by kernel_rfl) (fun _ _ _ h => h) (Or.inl ⟨by rfl, ?_⟩) (by assumption) ?_
        rotate_left
        · (intro w hSw; (try obtain ⟨hSw1, hSw2⟩ := hSw); (try obtain ⟨hSw2, hSw3⟩ := hSw2); go_simp; (try with_reducible rfl))
        (try simp only [Act.put, List.setIfInBounds_toArray, List.set_cons_zero, List.set_cons_succ])
        refine wpAnyH_take (i := 10) (oi := { dst := some 200, op := _, type := _, pos := _, after := _, guard := _ }) (v := ?_) rfl (by kernel_rfl) (by kernel_rfl) (by kernel_rfl) (fun _ _ _ h => h) (Or.inl ⟨by rfl, ?_⟩) (by assumption) ?_
        rotate_left
        · (intro w hSw; (try obtain ⟨hSw1, hSw2⟩ := hSw); (try obtain ⟨hSw2, hSw3⟩ := hSw2); go_simp; (try with_reducible rfl))
        (try simp only [Act.put, List.setIfInBounds_toArray, List.set_cons_zero, List.set_cons_succ])
        refine wpAnyH_take (i := 11) (oi := { dst := some 201, op := _, type := _, pos := _, after := _, guard := _ }) (v := ?_) rfl (by kernel_rfl) (by kernel_rfl) (by kernel_rfl) (fun _ _ _ h => h) (Or.inl ⟨by rfl, ?_⟩) (by assumption) ?_
        rotate_left
        · (intro w hSw; (try obtain ⟨hSw1, hSw2⟩ := hSw); (try obtain ⟨hSw2, hSw3⟩ := hSw2); go_simp; (try with_reducible rfl))
        (try simp only [Act.put, List.setIfInBounds_toArray, List.set_cons_zero, List.set_cons_succ])
        refine wpAnyH_ready (rs := [12]) (by kernel_rfl) (by simp) ?_
        refine AllReadyH.cons (o := { dst := some 202, op := _, type := _, pos := _, after := _, guard := _ }) rfl (fun K hK => ?_) AllReadyH.nil
        go_simp
        refine (br_KeepZ (HC3.out.1.keep ((Kept.refl wc).drew)) HM1.out x HX0.out).mono ?_
        rintro e wK ⟨heK, hbK, hxK⟩
        have HBK := hidMk hbK
        have HXK := hidMk hxK
        clear hbK hxK
        (try obtain ⟨vK, rfl⟩ := heK)
        (try subst heK)
        (try go_wp2_with fail)
        refine hK.out _ _ ?_ (fun hHeld => ?_)
        · exact ⟨HXK.out.cell (.inr (.inl rfl)) hHeld.1, HXK.out.cell (.inr (.inl rfl)) hHeld.2.1, HXK.out.cell (.inr (.inr rfl)) hHeld.2.2⟩
        clear hK K
        (try simp only [Act.put, List.setIfInBounds_toArray, List.set_cons_zero, List.set_cons_succ])
        refine wpAnyH_done (by kernel_rfl) ?_ _
        go_wp2_with fail
        go_meet
        exact hidMk ⟨HBK.out, (HC3.out.2.trans (Fx.of_kept ((Kept.refl wc).drew) HC3.out.1.flt)).trans HXK.out⟩
    case rest =>
      have HC5 := hcut
      clear hcut y1 y2 HCL3 HC3
      have s4 : wc.cell? ⟨t, 4, none⟩ = some (.slice (some ⟨tb, 0, none⟩) m cap) := by rw [HML.out]; exact HC5.out.2.cell (.inr (.inl rfl)) HJ0.out.pl.c4
      have hcl := HJ0.out.cells HKM.out.1
      rw [← HXC.out.2] at hcl
      have s3 : wc.cell? ⟨tb, k * 3 + 2, none⟩ = some (.int .i64 cc) := HC5.out.2.cell (.inr (.inr rfl)) hcl.2.2
      have sf : wc.frozen? ⟨tb, k * 3 + 2, none⟩ = false := by
        have e2 : wc.frozen? ⟨tb, k * 3 + 2, none⟩ = W.frozen? ⟨tb, k * 3 + 2, none⟩ := by simp only [World.frozen?, HC5.out.2 tb (.inr (.inr rfl))]
        rw [e2]
        obtain ⟨_, ⟨h1, _⟩ | ⟨b, cp', cur, hv, hb', hh, r⟩⟩ := HJ0.out.ow
        · cases h1
        · cases hv; simp [World.frozen?, hh]
      have hcb : 0 < cc ∧ cc ≤ 1000000 := by rw [HXC.out.2]; exact ⟨HKM.out.2, Int.le_trans (HCS.out k) HC0.out.2⟩
      have hwc : wrap64 (cc + 1) = cc + 1 := wrap_fit (by omega) (by omega)
      have HCB := hidMk hcb
      have HS5 := hidMk (show ∀ u : Value, (wc.setCell ⟨tb, k * 3 + 2, none⟩ u).drew.cell? ⟨t, 4, none⟩ = some (.slice (some ⟨tb, 0, none⟩) m cap) from fun u => ((Kept.refl _).drew).cellp (by rw [World.cell?_setCell_other _ _ _ _ (by simp [Ne.symm HJ0.out.d1])]; exact s4))
      have HFIN := hidMk (show JS w0 (wc.setCell ⟨tb, k * 3 + 2, none⟩ (.int .i64 (cc + 1))).drew t g p q tb cap codes room (l.set k ((l.getD k (0, 0)).1, cc + 1)) n (KeepZ rf x) nd n2 nd2 (M + 1) lev from by
        have hj := HJ0.out
        have hkk := HKM.out
        have hrk := hj.rt k hkk.1 hkk.2
        have hxx := HXC.out.1
        have hKl : ∀ i, rf i ≠ 0 → KeepZ rf x i ≠ 0 := fun i hi => by
          unfold KeepZ KeepR
          split
          · exact hi
          · split
            · exact hi
            · unfold setR; split
              · omega
              · exact hi
        have hKb : ∀ i, KeepZ rf x i ≠ 0 → rf i ≠ 0 := fun i hi e => hi (by
          unfold KeepZ KeepR
          split
          · exact e
          · split
            · exact e
            · next h1 h2 => unfold setR; rw [if_neg (fun e' => h2 (by rw [← e']; exact e))]; exact e)
        refine JS.keep (W := wc.setCell ⟨tb, k * 3 + 2, none⟩ (.int .i64 (cc + 1))) ?_ ((Kept.refl _).drew)
        refine hj.stored hkk.1 (cc + 1) HC5.out.1 HC5.out.2 (fun i hi => hj.sm i (hKb i hi)) ?_ (fun j hj' hp => ?_) (by omega) (fun _ => by omega) ?_ rfl hkk.2
        · refine hj.iv.keepZ (by rw [hxx]; exact hrk.imp id (fun e => e.1)) (fun i hi => ?_)
          have := tC_set l k (cc + 1) i hkk.1
          rw [← hxx, ← HXC.out.2] at this
          rw [← hxx]
          have h1 : (cc + 1).toNat = cc.toNat + 1 := by omega
          rw [h1] at this
          by_cases e : x = i
          · rw [if_pos e] at this ⊢; rw [if_pos e] at this; omega
          · rw [if_neg e] at this ⊢; rw [if_neg e] at this; omega
        · have : 0 < (l.getD j (0, 0)).2 := by
            by_cases e : j = k
            · subst e; exact hkk.2
            · rw [List.getD_eq_getElem?_getD, List.getElem?_set_ne (fun e' => e e'.symm), ← List.getD_eq_getElem?_getD] at hp
              exact hp
          exact (hj.rt j hj' this).imp id (fun e => ⟨hKl _ e.1, e.2⟩)
        · rw [usd_congr n (rf' := rf) (fun i _ _ => ⟨fun e => by
            by_cases e' : rf i = 0
            · exact e'
            · exact absurd e (hKl i e'), fun e => by
            by_cases e' : KeepZ rf x i = 0
            · exact e'
            · exact absurd e (hKb i e')⟩)]
          exact hj.cp)
      clear hcl HC5 hm
      go_upto_region 24 with fail
      refine wp_region_held_drew (S := (fun w' => w'.cell? ⟨t, 4, none⟩ = some (.slice (some ⟨tb, 0, none⟩) m cap))) (by kernel_rfl) ?_ (fun hHeld => ?_)
      · exact ((Kept.refl wc).drew).cellp s4
      refine wpAnyH_take (i := 0) (oi := { dst := some 203, op := _, type := _, pos := _, after := _, guard := _ }) (v := ?_) rfl (by kernel_rfl) (by kernel_rfl) (by kernel_rfl) (fun _ _ _ h => h) (Or.inl ⟨by rfl, ?_⟩) (by assumption) ?_
      rotate_left
      · (intro w hSw; go_simp; (try with_reducible rfl))
      (try simp only [Act.put, List.setIfInBounds_toArray, List.set_cons_zero, List.set_cons_succ])
      refine wpAnyH_take (i := 1) (oi := { dst := some 204, op := _, type := _, pos := _, after := _, guard := _ }) (v := ?_) rfl (by kernel_rfl) (by kernel_rfl) (by kernel_rfl) (fun _ _ _ h => h) (Or.inl ⟨by rfl, ?_⟩) (by assumption) ?_
      rotate_left
      · (intro w hSw; go_simp; (try with_reducible rfl))
      (try simp only [Act.put, List.setIfInBounds_toArray, List.set_cons_zero, List.set_cons_succ])
      refine wpAnyH_take (i := 2) (oi := { dst := some 205, op := _, type := _, pos := _, after := _, guard := _ }) (v := ?_) rfl (by kernel_rfl) (by kernel_rfl) (by kernel_rfl) (fun _ _ _ h => h) (Or.inl ⟨by rfl, ?_⟩) (by assumption) ?_
      rotate_left
      · (intro w hSw; go_simp; (try with_reducible rfl))
      (try simp only [Act.put, List.setIfInBounds_toArray, List.set_cons_zero, List.set_cons_succ])
      refine wpAnyH_take (i := 3) (oi := { dst := some 206, op := _, type := _, pos := _, after := _, guard := _ }) (v := ?_) rfl (by kernel_rfl) (by kernel_rfl) (by kernel_rfl) (fun _ _ _ h => h) (Or.inl ⟨by rfl, ?_⟩) (by assumption) ?_
      rotate_left
      · (intro w hSw; go_simp; (try with_reducible rfl))
      (try simp only [Act.put, List.setIfInBounds_toArray, List.set_cons_zero, List.set_cons_succ])
      refine wpAnyH_take (i := 4) (oi := { dst := some 207, op := _, type := _, pos := _, after := _, guard := _ }) (v := ?_) rfl (by kernel_rfl) (by kernel_rfl) (by kernel_rfl) (fun _ _ _ h => h) (Or.inl ⟨by rfl, ?_⟩) (by assumption) ?_
      rotate_left
      · (intro w hSw; go_simp; (try with_reducible rfl))
      (try simp only [Act.put, List.setIfInBounds_toArray, List.set_cons_zero, List.set_cons_succ])
      refine wpAnyH_take (i := 5) (oi := { dst := some 208, op := _, type := _, pos := _, after := _, guard := _ }) (v := ?_) rfl (by kernel_rfl) (by kernel_rfl) (by kernel_rfl) (fun _ _ _ h => h) (Or.inl ⟨by rfl, ?_⟩) (by assumption) ?_
      rotate_left
      · (intro w hSw; go_simp; (try with_reducible rfl))
      (try simp only [Act.put, List.setIfInBounds_toArray, List.set_cons_zero, List.set_cons_succ])
      refine wpAnyH_take (i := 6) (oi := { dst := some 209, op := _, type := _, pos := _, after := _, guard := _ }) (v := ?_) rfl (by kernel_rfl) (by kernel_rfl) (by kernel_rfl) (fun _ _ _ h => h) (Or.inl ⟨by rfl, ?_⟩) (by assumption) ?_
      rotate_left
      · (intro w hSw; go_simp; (try with_reducible rfl))
      (try simp only [Act.put, List.setIfInBounds_toArray, List.set_cons_zero, List.set_cons_succ])
      refine wpAnyH_take (i := 7) (oi := { dst := some 210, op := _, type := _, pos := _, after := _, guard := _ }) (v := ?_) rfl (by kernel_rfl) (by kernel_rfl) (by kernel_rfl) (fun _ _ _ h => h) (Or.inl ⟨by rfl, ?_⟩) (by assumption) ?_
      rotate_left
      · (intro w hSw; go_simp; (try with_reducible rfl))
      (try simp only [Act.put, List.setIfInBounds_toArray, List.set_cons_zero, List.set_cons_succ])
      refine wpAnyH_take (i := 8) (oi := { dst := some 211, op := _, type := _, pos := _, after := _, guard := _ }) (v := ?_) rfl (by kernel_rfl) (by kernel_rfl) (by kernel_rfl) (fun _ _ _ h => h) (Or.inl ⟨by rfl, ?_⟩) (by assumption) ?_
      rotate_left
      · (intro w hSw; go_simp; (try with_reducible rfl))
      (try simp only [Act.put, List.setIfInBounds_toArray, List.set_cons_zero, List.set_cons_succ])
      refine wpAnyH_take (i := 9) (oi := { dst := some 212, op := _, type := _, pos := _, after := _, guard := _ }) (v := ?_) rfl (by kernel_rfl) (by kernel_rfl) (by kernel_rfl) (fun _ _ _ h => h) (Or.inl ⟨by rfl, ?_⟩) (by assumption) ?_
      rotate_left
      · (intro w hSw; go_simp; (try with_reducible rfl))
      (try simp only [Act.put, List.setIfInBounds_toArray, List.set_cons_zero, List.set_cons_succ])
      refine wpAnyH_take (i := 10) (oi := { dst := some 213, op := _, type := _, pos := _, after := _, guard := _ }) (v := ?_) rfl (by kernel_rfl) (by kernel_rfl) (by kernel_rfl) (fun _ _ _ h => h) (Or.inl ⟨by rfl, ?_⟩) (by assumption) ?_
      rotate_left
      · (intro w hSw; go_simp; (try with_reducible rfl))
      (try simp only [Act.put, List.setIfInBounds_toArray, List.set_cons_zero, List.set_cons_succ])
      refine wpAnyH_take (i := 11) (oi := { dst := some 214, op := _, type := _, pos := _, after := _, guard := _ }) (v := ?_) rfl (by kernel_rfl) (by kernel_rfl) (by kernel_rfl) (fun _ _ _ h => h) (Or.inl ⟨by rfl, ?_⟩) (by assumption) ?_
      rotate_left
      · (intro w hSw; go_simp; (try with_reducible rfl))
      (try simp only [Act.put, List.setIfInBounds_toArray, List.set_cons_zero, List.set_cons_succ])
      refine wpAnyH_ready (rs := [12]) (by kernel_rfl) (by simp) ?_
      refine AllReadyH.cons (o := { dst := some 215, op := _, type := _, pos := _, after := _, guard := _ }) rfl (fun K hK => ?_) AllReadyH.nil
      go_simp
      refine hK.out _ _ ?_ (fun hHeld => ?_)
      · (first | assumption | exact HS5.out _)
      clear hK K
      (try simp only [Act.put, List.setIfInBounds_toArray, List.set_cons_zero, List.set_cons_succ])
      refine wpAnyH_take (i := 13) (oi := { dst := some 216, op := _, type := _, pos := _, after := _, guard := _ }) (v := ?_) rfl (by kernel_rfl) (by kernel_rfl) (by kernel_rfl) (fun _ _ _ h => h) (Or.inl ⟨by rfl, ?_⟩) (by assumption) ?_
      rotate_left
      · (intro w hSw; go_simp; (try with_reducible rfl))
      (try simp only [Act.put, List.setIfInBounds_toArray, List.set_cons_zero, List.set_cons_succ])
      refine wpAnyH_take (i := 14) (oi := { dst := some 217, op := _, type := _, pos := _, after := _, guard := _ }) (v := ?_) rfl (by kernel_rfl) (by kernel_rfl) (by kernel_rfl) (fun _ _ _ h => h) (Or.inl ⟨by rfl, ?_⟩) (by assumption) ?_
      rotate_left
      · (intro w hSw; go_simp; (try with_reducible rfl))
      (try simp only [Act.put, List.setIfInBounds_toArray, List.set_cons_zero, List.set_cons_succ])
      refine wpAnyH_take (i := 15) (oi := { dst := some 218, op := _, type := _, pos := _, after := _, guard := _ }) (v := ?_) rfl (by kernel_rfl) (by kernel_rfl) (by kernel_rfl) (fun _ _ _ h => h) (Or.inl ⟨by rfl, ?_⟩) (by assumption) ?_
      rotate_left
      · (intro w hSw; go_simp; (try with_reducible rfl))
      (try simp only [Act.put, List.setIfInBounds_toArray, List.set_cons_zero, List.set_cons_succ])
      refine wpAnyH_ready (rs := [16]) (by kernel_rfl) (by simp) ?_
      refine AllReadyH.cons (o := { dst := none, op := _, type := _, pos := _, after := _, guard := _ }) rfl (fun K hK => ?_) AllReadyH.nil
      go_simp
      refine hK.out _ _ ?_ (fun hHeld => ?_)
      · (first | assumption | exact HS5.out _)
      clear hK K
      (try simp only [Act.put, List.setIfInBounds_toArray, List.set_cons_zero, List.set_cons_succ])
      refine wpAnyH_done (by kernel_rfl) ?_ _
      go_wp2_with fail
      go_ret
      have hf := HFIN.out
      refine ⟨rfl, tb, cap, l.set k ((l.getD k (0, 0)).1, cc + 1), n, KeepZ rf x, nd, n2, nd2, M + 1, lev, ?_, by rw [List.length_set]; omega, by omega, set_bound HCS.out k _ _ (by rw [HXC.out.2]; have := HCS.out k; omega)⟩
      rw [show IntKind.i64.wrap (cc + 1) = cc + 1 from wrap_i (by have := HCB.out; omega) (by have := HCB.out; omega)]
      exact hf
end
end Go.Proofs.YtjkbhaplngnniaaDoor
