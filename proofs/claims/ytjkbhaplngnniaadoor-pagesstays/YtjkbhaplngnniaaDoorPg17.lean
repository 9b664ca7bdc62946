/- moietylaw10: do, where it is a Drop. -/
import Derived.Test.YtjkbhaplngnniaaDoorPg16
namespace Go.Proofs.YtjkbhaplngnniaaDoor
open Go.RowKit Go.Maps
set_option linter.unusedSimpArgs false
set_option linter.unusedVariables false

section
variable {w0 W : World} {t g p q tb cap : Nat} {codes room : Int} {l : List (Int × Int)} {n : Nat} {rf : Int → Nat} {nd : Int → ANd} {n2 : Nat} {nd2 : Int → ANd} {M : Nat} {lev : Int → Nat}
set_option maxHeartbeats 8000000 in
set_option maxRecDepth 100000 in
theorem do_drop (h : JS w0 W t g p q tb cap codes room l n rf nd n2 nd2 M lev) (hl : l.length ≤ 60) (hM : M + 60 ≤ 4611686018427387904) (C : Int) (hC : 0 ≤ C ∧ C ≤ 1000000) (hcs : ∀ k, (l.getD k (0, 0)).2 ≤ C) (kd of code v : Int) (hd : Bool) (hk3 : ¬ kd.tmod 3 = 0) (hk4 : ¬ kd.tmod 3 = 1) :
    Calls Tryd.prog 17 #[.pointer (some ⟨t, 0, none⟩), .agg #[.int .i64 kd, .int .i64 of, .int .i64 code, .int .i64 v, .bool hd]] W (DoP w0 t g p q codes room l.length M C) := by
  obtain ⟨W1, hW1⟩ : ∃ W1, W1 = W.alloc (.cells #[.int .i64 kd, .int .i64 of, .int .i64 code, .int .i64 v, .bool hd] 41) := ⟨_, rfl⟩
  have k1 : Kept W W1 := by rw [hW1]; exact (Kept.refl W).alloc _
  obtain ⟨ab, hab⟩ : ∃ b, b = W.heap.size := ⟨_, rfl⟩
  have r1 : W1.rangeAt ab 0 [.int .i64 kd, .int .i64 of, .int .i64 code, .int .i64 v, .bool hd] := by rw [hW1, hab]; exact new_range W [.int .i64 kd, .int .i64 of, .int .i64 code, .int .i64 v, .bool hd] _
  have a0 : W1.cell? ⟨ab, 0, none⟩ = some (.int .i64 kd) := by have := r1 0 _ rfl; simpa using this
  have a1 : W1.cell? ⟨ab, 1, none⟩ = some (.int .i64 of) := by have := r1 1 _ rfl; simpa using this
  have HPK := hidMk (js_pick (h.keep k1) hl of)
  have HJ1 := hidMk (h.keep k1)
  have HJ0 := hidMk h
  have HCS := hidMk hcs
  have HC0 := hidMk hC
  have hm : l.length ≤ 60 := hl
  obtain ⟨m, hml⟩ : ∃ m, m = l.length := ⟨_, rfl⟩
  have HML := hidMk hml
  have HM1 := hidMk (show M + 1 ≤ 4611686018427387904 by omega)
  have HMB := hidMk hM
  have HKW := hidMk k1
  clear h hcs hC k1 r1 hml hM hl
  have hk3b : (kd.tmod 3 == 0) = false := by simpa using hk3
  have hk4b : (kd.tmod 3 == 1) = false := by simpa using hk4
  go_enter Tryd.func17, Tryd.ntmps17
  go_wp2_with fail
  rw [← hW1, ← hab]
  clear hW1 hab
  refine HPK.out.mono ?_
  rintro e w2 ⟨k, rfl, hkm, hkc, k2⟩
  have HK2 := hidMk k2
  have HJ := HJ1
  have b0 := k2.cellp a0
  obtain ⟨x, hx⟩ : ∃ x, x = (l.getD k (0, 0)).1 := ⟨_, rfl⟩
  obtain ⟨cc, hcc⟩ : ∃ x, x = (l.getD k (0, 0)).2 := ⟨_, rfl⟩
  have HXC := hidMk (And.intro hx hcc)
  have HRX := hidMk (show x = 0 ∨ rf x ≠ 0 from by rw [hx]; exact (HJ0.out.rt k hkm hkc).imp id (fun e => e.1))
  have hj2 := HJ1.out.keep k2
  obtain ⟨q1, q2, q3⟩ := hj2.cells hkm
  rw [← hx] at q1 q2
  rw [← hcc] at q3
  have HCL := hidMk (show w2.cell? ⟨t, 0, none⟩ = some (.pointer (some ⟨g, 0, none⟩)) ∧ w2.cell? ⟨t, 1, none⟩ = some (.pointer (some ⟨q, 0, none⟩)) ∧ w2.cell? ⟨t, 4, none⟩ = some (.slice (some ⟨tb, 0, none⟩) m cap) ∧ w2.cell? ⟨tb, k * 3, none⟩ = some (.int .i64 x) ∧ w2.cell? ⟨tb, k * 3 + 1, none⟩ = some (.int .i64 x) from ⟨hj2.pl.c0, hj2.pl.c1, by rw [HML.out]; exact hj2.pl.c4, q1, q2⟩)
  have hkm' : (k : Int) < m := by have := HML.out; omega
  have HKM := hidMk (And.intro hkm hkc)
  have hDZ : ∃ r r2, DropZ nd rf x r ∧ DropZ nd2 rf x r2 := by
    obtain ⟨_, _, _, _, _, hq9⟩ := HJ0.out.ba.rq
    by_cases e : x = 0
    · exact ⟨rf, rf, .inl ⟨e, rfl⟩, .inl ⟨e, rfl⟩⟩
    · obtain ⟨K, r, hr⟩ := drops_ex (kdA nd) (fun i => (HJ0.out.iv.kok i).1) n (9 * totR rf n + 1) rf [x] HJ0.out.iv.ok (by simp)
      obtain ⟨K2, r2, hr2⟩ := drops_ex (kdA nd2) (fun i => (hq9.kok i).1) n2 (9 * totR rf n2 + 1) rf [x] hq9.ok (by simp)
      exact ⟨r, r2, .inr ⟨e, K, hr⟩, .inr ⟨e, K2, hr2⟩⟩
  obtain ⟨r, r2, hr, hr2⟩ := hDZ
  have HT9 := hidMk (show ∀ i, i ≠ 0 → tC l i = tC (l.set k ((l.getD k (0, 0)).1, cc - 1)) i + if x = i then 1 else 0 from fun i hi => by
    have := tC_set l k (cc - 1) i hkm
    rw [← hx, ← hcc] at this
    rw [← hx]
    have h1 : cc.toNat = (cc - 1).toNat + 1 := by rw [hcc]; have : 0 < (l.getD k (0, 0)).2 := hkc; omega
    rw [h1] at this
    by_cases e : x = i
    · rw [if_pos e] at this ⊢; rw [if_pos e] at this; omega
    · rw [if_neg e] at this ⊢; rw [if_neg e] at this; omega)
  have HR12 := hidMk (show r2 = r from by
    obtain ⟨_, _, _, _, _, hq9⟩ := HJ0.out.ba.rq
    exact drop_both HJ0.out.iv HJ0.out.sm hq9.ok hq9.kok hr hr2 HT9.out)
  have HDR := hidMk (And.intro hr hr2)
  clear hr hr2
  clear hx hcc hj2 q1 q2 hkm hkc k2 HPK a0 a1
  by_cases hk0 : k = 0
  · have HDP := hidMk (pg_Drop (HJ.out.ba.keep HK2.out) (HJ.out.pg.kept HK2.out) 0 rf (.inl ⟨rfl, rfl⟩))
    rw [if_pos rfl] at HDP
    have c0 := HCL.out.1
    have HSM := hidMk (HJ1.out.keep HK2.out)
    subst hk0
    clear HR12 HDR HT9 hkm'
    go_wp2_with fail
    refine HDP.out.mono ?_
    rintro e w3 ⟨rfl, hb3, hx3⟩
    have H3 := hidMk (show JS w0 w3 t g p q tb cap codes room l n rf nd n2 nd2 M lev from by
      have hj := HSM.out
      have ht := hb3.flt t (.inr (.inl rfl))
      refine ⟨hb3, hj.sm, hj.iv, hx3.pg hj.pg (.inl rfl), ⟨hx3.cell (.inr (.inl rfl)) hj.pl.c0, hx3.cell (.inr (.inl rfl)) hj.pl.c1, hx3.cell (.inr (.inl rfl)) hj.pl.c2, hx3.cell (.inr (.inl rfl)) hj.pl.c3, hx3.cell (.inr (.inl rfl)) hj.pl.c4, fun j => ?_⟩, ?_, hj.d1, hj.d2, hj.d3, hj.rt, hj.nn, hj.fs, hj.cp, hj.hz⟩
      · have e2 : w3.frozen? ⟨t, j, none⟩ = w2.frozen? ⟨t, j, none⟩ := by simp only [World.frozen?, hx3 t (.inr (.inl rfl))]
        rw [e2]; exact hj.pl.fz j
      · obtain ⟨h0', ⟨h1, _⟩ | ⟨b, cp', cur, hv, hb', hh, r⟩⟩ := hj.ow
        · cases h1
        · cases hv
          exact ⟨h0', .inr ⟨tb, _, cur, rfl, hb', by rw [hx3 tb (.inr (.inr rfl))]; exact hh, r⟩⟩)
    clear hb3 hx3 HDP
    go_wp2_with fail
    go_ret
    exact ⟨rfl, tb, cap, l, n, rf, nd, n2, nd2, M, lev, H3.out, by omega, by omega, fun k => by have := HCS.out k; omega⟩
  · have hk0' : ((k : Int) == 0) = false := by simpa using hk0
    have HKZ := hidMk hk0
    have HD5 := hidMk (fun (X : World) (hb : BA w0 X p q (fun j => j = g ∨ j = t ∨ j = tb) room n rf nd M n2 rf nd2 M) (hg : PG X g p codes) => show Calls Tryd.prog 26 #[.pointer (some ⟨g, 0, none⟩), .int .i64 x] X fun e w' => e = .returned (.int .i64 0) ∧ BA w0 w' p q (fun j => j = g ∨ j = t ∨ j = tb) room n r nd M n2 rf nd2 M ∧ Fx (fun j => j = g ∨ j = t ∨ j = tb) X w' from by
      have := pg_Drop hb hg x r HDR.out.1
      have e : (if x = 0 then 0 else atE rf x) = 0 := by
        by_cases e : x = 0
        · rw [if_pos e]
        · rw [if_neg e]; unfold atE; rw [if_neg (HRX.out.resolve_left e)]
      rw [e] at this
      exact this)
    go_upto_region 5 with fail
    go_cut [38] from 25 to 37 (fun s W' => s = .bool false ∧ Hid (BA w0 W' p q (fun j => j = g ∨ j = t ∨ j = tb) room n r nd M n2 rf nd2 M ∧ Fx (fun j => j = g ∨ j = t ∨ j = tb) W W'))
    case first =>
      refine wp_region_held_drew (S := (fun w' => w'.cell? ⟨t, 0, none⟩ = some (.pointer (some ⟨g, 0, none⟩)) ∧ w'.cell? ⟨t, 4, none⟩ = some (.slice (some ⟨tb, 0, none⟩) m cap) ∧ w'.cell? ⟨tb, k * 3, none⟩ = some (.int .i64 x))) (by kernel_rfl) ?_ (fun hHeld => ?_)
      · exact ⟨((Kept.refl w2).drew).cellp HCL.out.1, ((Kept.refl w2).drew).cellp HCL.out.2.2.1, ((Kept.refl w2).drew).cellp HCL.out.2.2.2.1⟩
      refine wpAnyH_take (i := 0) (oi := { dst := some 25, op := _, type := _, pos := _, after := _, guard := _ }) (v := ?_) rfl (by kernel_rfl) (by kernel_rfl) (by kernel_rfl) (fun _ _ _ h => h) (Or.inl ⟨by rfl, ?_⟩) (by assumption) ?_
      rotate_left
      · (intro w hSw; (try obtain ⟨hSw1, hSw2⟩ := hSw); (try obtain ⟨hSw2, hSw3⟩ := hSw2); go_simp; (try with_reducible rfl))
      (try simp only [Act.put, List.setIfInBounds_toArray, List.set_cons_zero, List.set_cons_succ])
      refine wpAnyH_take (i := 1) (oi := { dst := some 26, op := _, type := _, pos := _, after := _, guard := _ }) (v := ?_) rfl (by kernel_rfl) (by kernel_rfl) (by kernel_rfl) (fun _ _ _ h => h) (Or.inl ⟨by rfl, ?_⟩) (by assumption) ?_
      rotate_left
      · (intro w hSw; (try obtain ⟨hSw1, hSw2⟩ := hSw); (try obtain ⟨hSw2, hSw3⟩ := hSw2); go_simp; (try with_reducible rfl))
      (try simp only [Act.put, List.setIfInBounds_toArray, List.set_cons_zero, List.set_cons_succ])
      refine wpAnyH_take (i := 2) (oi := { dst := some 27, op := _, type := _, pos := _, after := _, guard := _ }) (v := ?_) rfl (by kernel_rfl) (by kernel_rfl) (by kernel_rfl) (fun _ _ _ h => h) (Or.inl ⟨by rfl, ?_⟩) (by assumption) ?_
      rotate_left
      · (intro w hSw; (try obtain ⟨hSw1, hSw2⟩ := hSw); (try obtain ⟨hSw2, hSw3⟩ := hSw2); go_simp; (try with_reducible rfl))
      (try simp only [Act.put, List.setIfInBounds_toArray, List.set_cons_zero, List.set_cons_succ])
      refine wpAnyH_take (i := 3) (oi := { dst := some 28, op := _, type := _, pos := _, after := _, guard := _ }) (v := ?_) rfl (by kernel_rfl) (by kernel_rfl) (by kernel_rfl) (fun _ _ _ h => h) (Or.inl ⟨by rfl, ?_⟩) (by assumption) ?_
      rotate_left
      · (intro w hSw; (try obtain ⟨hSw1, hSw2⟩ := hSw); (try obtain ⟨hSw2, hSw3⟩ := hSw2); go_simp; (try with_reducible rfl))
      (try simp only [Act.put, List.setIfInBounds_toArray, List.set_cons_zero, List.set_cons_succ])
      refine wpAnyH_take (i := 4) (oi := { dst := some 29, op := _, type := _, pos := _, after := _, guard := _ }) (v := ?_) rfl (by kernel_rfl) (by kernel_rfl) (by kernel_rfl) (fun _ _ _ h => h) (Or.inl ⟨by rfl, ?_⟩) (by assumption) ?_
      rotate_left
      · (intro w hSw; (try obtain ⟨hSw1, hSw2⟩ := hSw); (try obtain ⟨hSw2, hSw3⟩ := hSw2); go_simp; (try with_reducible rfl))
      (try simp only [Act.put, List.setIfInBounds_toArray, List.set_cons_zero, List.set_cons_succ])
      refine wpAnyH_take (i := 5) (oi := { dst := some 30, op := _, type := _, pos := _, after := _, guard := _ }) (v := ?_) rfl (by kernel_rfl) (by kernel_rfl) (by kernel_rfl) (fun _ _ _ h => h) (Or.inl ⟨by rfl, ?_⟩) (by assumption) ?_
      rotate_left
      · (intro w hSw; (try obtain ⟨hSw1, hSw2⟩ := hSw); (try obtain ⟨hSw2, hSw3⟩ := hSw2); go_simp; (try with_reducible rfl))
      (try simp only [Act.put, List.setIfInBounds_toArray, List.set_cons_zero, List.set_cons_succ])
      refine wpAnyH_take (i := 6) (oi := { dst := some 31, op := _, type := _, pos := _, after := _, guard := _ }) (v := ?_) rfl (by kernel_rfl) (by kernel_rfl) (by kernel_rfl) (fun _ _ _ h => h) (Or.inl ⟨by rfl, ?_⟩) (by assumption) ?_
      rotate_left
      · (intro w hSw; (try obtain ⟨hSw1, hSw2⟩ := hSw); (try obtain ⟨hSw2, hSw3⟩ := hSw2); go_simp; (try with_reducible rfl))
      (try simp only [Act.put, List.setIfInBounds_toArray, List.set_cons_zero, List.set_cons_succ])
      refine wpAnyH_take (i := 7) (oi := { dst := some 32, op := _, type := _, pos := _, after := _, guard := _ }) (v := ?_) rfl (by kernel_rfl) (by kernel_rfl) (by kernel_rfl) (fun _ _ _ h => h) (Or.inl ⟨by rfl, ?_⟩) (by assumption) ?_
      rotate_left
      · (intro w hSw; (try obtain ⟨hSw1, hSw2⟩ := hSw); (try obtain ⟨hSw2, hSw3⟩ := hSw2); go_simp; (try with_reducible rfl))
      (try simp only [Act.put, List.setIfInBounds_toArray, List.set_cons_zero, List.set_cons_succ])
      refine wpAnyH_take (i := 8) (oi := { dst := some 33, op := _, type := _, pos := _, after := _, guard := _ }) (v := ?_) rfl (by kernel_rfl) (by kernel_rfl) (by kernel_rfl) (fun _ _ _ h => h) (Or.inl ⟨by rfl, ?_⟩) (by assumption) ?_
      rotate_left
      · (intro w hSw; (try obtain ⟨hSw1, hSw2⟩ := hSw); (try obtain ⟨hSw2, hSw3⟩ := hSw2); go_simp; (try with_reducible rfl))
      (try simp only [Act.put, List.setIfInBounds_toArray, List.set_cons_zero, List.set_cons_succ])
      refine wpAnyH_take (i := 9) (oi := { dst := some 34, op := _, type := _, pos := _, after := _, guard := _ }) (v := ?_) rfl (by kernel_rfl) (by kernel_rfl) (by kernel_rfl) (fun _ _ _ h => h) (Or.inl ⟨by rfl, ?_⟩) (by assumption) ?_
      rotate_left
      · (intro w hSw; (try obtain ⟨hSw1, hSw2⟩ := hSw); (try obtain ⟨hSw2, hSw3⟩ := hSw2); go_simp; (try with_reducible rfl))
      (try simp only [Act.put, List.setIfInBounds_toArray, List.set_cons_zero, List.set_cons_succ])
      refine wpAnyH_take (i := 10) (oi := { dst := some 35, op := _, type := _, pos := _, after := _, guard := _ }) (v := ?_) rfl (by kernel_rfl) (by kernel_rfl) (by kernel_rfl) (fun _ _ _ h => h) (Or.inl ⟨by rfl, ?_⟩) (by assumption) ?_
      rotate_left
      · (intro w hSw; (try obtain ⟨hSw1, hSw2⟩ := hSw); (try obtain ⟨hSw2, hSw3⟩ := hSw2); go_simp; (try with_reducible rfl))
      (try simp only [Act.put, List.setIfInBounds_toArray, List.set_cons_zero, List.set_cons_succ])
      refine wpAnyH_take (i := 11) (oi := { dst := some 36, op := _, type := _, pos := _, after := _, guard := _ }) (v := ?_) rfl (by kernel_rfl) (by kernel_rfl) (by kernel_rfl) (fun _ _ _ h => h) (Or.inl ⟨by rfl, ?_⟩) (by assumption) ?_
      rotate_left
      · (intro w hSw; (try obtain ⟨hSw1, hSw2⟩ := hSw); (try obtain ⟨hSw2, hSw3⟩ := hSw2); go_simp; (try with_reducible rfl))
      (try simp only [Act.put, List.setIfInBounds_toArray, List.set_cons_zero, List.set_cons_succ])
      refine wpAnyH_ready (rs := [12]) (by kernel_rfl) (by simp) ?_
      refine AllReadyH.cons (o := { dst := some 37, op := _, type := _, pos := _, after := _, guard := _ }) rfl (fun K hK => ?_) AllReadyH.nil
      go_simp
      refine (HD5.out _ (HJ.out.ba.keep (HK2.out.drew)) (HJ.out.pg.kept (HK2.out.drew))).mono ?_
      rintro e wK ⟨heK, hbK, hxK⟩
      have HBK := hidMk hbK
      have HXK := hidMk hxK
      clear hbK hxK
      (try obtain ⟨vK, rfl⟩ := heK)
      (try subst heK)
      (try go_wp2_with fail)
      refine hK.out _ _ ?_ (fun hHeld => ?_)
      · exact ⟨HXK.out.cell (.inr (.inl rfl)) hHeld.1, HXK.out.cell (.inr (.inl rfl)) hHeld.2.1, HXK.out.cell (.inr (.inr rfl)) hHeld.2.2⟩
      clear hK K
      (try simp only [Act.put, List.setIfInBounds_toArray, List.set_cons_zero, List.set_cons_succ])
      refine wpAnyH_take (i := 13) (oi := { dst := some 38, op := _, type := _, pos := _, after := _, guard := _ }) (v := ?_) rfl (by kernel_rfl) (by kernel_rfl) (by kernel_rfl) (fun _ _ _ h => h) (Or.inl ⟨by rfl, ?_⟩) (by assumption) ?_
      rotate_left
      · (intro w hSw; (try obtain ⟨hSw1, hSw2⟩ := hSw); (try obtain ⟨hSw2, hSw3⟩ := hSw2); go_simp; (try with_reducible rfl))
      (try simp only [Act.put, List.setIfInBounds_toArray, List.set_cons_zero, List.set_cons_succ])
      refine wpAnyH_done (by kernel_rfl) ?_ _
      go_wp2_with fail
      go_meet
      have hfx : Fx (fun j => j = g ∨ j = t ∨ j = tb) W wK := (Fx.of_kept (F := fun j => j = g ∨ j = t ∨ j = tb) (HKW.out.trans HK2.out.drew) HJ0.out.ba.flt).trans HXK.out
      exact ⟨rfl, hidMk ⟨HBK.out, hfx⟩⟩
    case rest =>
      obtain ⟨rfl, HC3⟩ := hcut
      have hf := HC3.out.2
      have hcl0 := HJ0.out.cells HKM.out.1
      rw [← HXC.out.1, ← HXC.out.2] at hcl0
      have HCL3 := hidMk (show wc.cell? ⟨t, 0, none⟩ = some (.pointer (some ⟨g, 0, none⟩)) ∧ wc.cell? ⟨t, 1, none⟩ = some (.pointer (some ⟨q, 0, none⟩)) ∧ wc.cell? ⟨t, 4, none⟩ = some (.slice (some ⟨tb, 0, none⟩) m cap) ∧ wc.cell? ⟨tb, k * 3, none⟩ = some (.int .i64 x) ∧ wc.cell? ⟨tb, k * 3 + 1, none⟩ = some (.int .i64 x) from ⟨hf.cell (.inr (.inl rfl)) HJ0.out.pl.c0, hf.cell (.inr (.inl rfl)) HJ0.out.pl.c1, by rw [HML.out]; exact hf.cell (.inr (.inl rfl)) HJ0.out.pl.c4, hf.cell (.inr (.inr rfl)) hcl0.1, hf.cell (.inr (.inr rfl)) hcl0.2.1⟩)
      have y1 := HCL3.out.2.2.1
      have y2 := HCL3.out.2.2.2.2
      clear hf hcl0 HCL HRX HJ b0 HK2 HD5
      go_upto_if 47 with fail
      go_cut [] from 39 to 60 (fun W' => Hid (BA w0 W' p q (fun j => j = g ∨ j = t ∨ j = tb) room n r nd M n2 r nd2 M ∧ Fx (fun j => j = g ∨ j = t ∨ j = tb) W W'))
      case first =>
        by_cases hx0 : x = 0
        · have HB := hidMk (show BA w0 wc p q (fun j => j = g ∨ j = t ∨ j = tb) room n r nd M n2 r nd2 M from by
            have hb := HC3.out.1
            have e : r = rf := by
              rcases HDR.out.1 with ⟨_, e⟩ | ⟨e, _⟩
              · exact e
              · exact absurd hx0 e
            rw [e] at hb ⊢
            exact hb)
          have HF := hidMk HC3.out.2
          clear HC3 HCL3
          go_wp2_with fail
          go_meet
          exact hidMk ⟨HB.out, HF.out⟩
        · have hxb : (x == 0) = false := by simpa using hx0
          have HX0 := hidMk hx0
          go_wp2_with fail
          refine wp_region_held_drew (S := (fun w' => w'.cell? ⟨t, 1, none⟩ = some (.pointer (some ⟨q, 0, none⟩)) ∧ w'.cell? ⟨t, 4, none⟩ = some (.slice (some ⟨tb, 0, none⟩) m cap) ∧ w'.cell? ⟨tb, k * 3 + 1, none⟩ = some (.int .i64 x))) (by kernel_rfl) ?_ (fun hHeld => ?_)
          · exact ⟨((Kept.refl wc).drew).cellp HCL3.out.2.1, ((Kept.refl wc).drew).cellp HCL3.out.2.2.1, ((Kept.refl wc).drew).cellp HCL3.out.2.2.2.2⟩
          refine wpAnyH_take (i := 0) (oi := { dst := some 48, op := _, type := _, pos := _, after := _, guard := _ }) (v := ?_) rfl (by kernel_rfl) (by kernel_rfl) (by kernel_rfl) (fun _ _ _ h => h) (Or.inl ⟨by rfl, ?_⟩) (by assumption) ?_
          rotate_left
          · (intro w hSw; (try obtain ⟨hSw1, hSw2⟩ := hSw); (try obtain ⟨hSw2, hSw3⟩ := hSw2); go_simp; (try with_reducible rfl))
          (try simp only [Act.put, List.setIfInBounds_toArray, List.set_cons_zero, List.set_cons_succ])
          refine wpAnyH_take (i := 1) (oi := { dst := some 49, op := _, type := _, pos := _, after := _, guard := _ }) (v := ?_) rfl (by kernel_rfl) (by kernel_rfl) (by kernel_rfl) (fun _ _ _ h => h) (Or.inl ⟨by rfl, ?_⟩) (by assumption) ?_
          rotate_left
          · (intro w hSw; (try obtain ⟨hSw1, hSw2⟩ := hSw); (try obtain ⟨hSw2, hSw3⟩ := hSw2); go_simp; (try with_reducible rfl))
          (try simp only [Act.put, List.setIfInBounds_toArray, List.set_cons_zero, List.set_cons_succ])
          refine wpAnyH_take (i := 2) (oi := { dst := some 50, op := _, type := _, pos := _, after := _, guard := _ }) (v := ?_) rfl (by kernel_rfl) (by kernel_rfl) (by kernel_rfl) (fun _ _ _ h => h) (Or.inl ⟨by rfl, ?_⟩) (by assumption) ?_
          rotate_left
          · (intro w hSw; (try obtain ⟨hSw1, hSw2⟩ := hSw); (try obtain ⟨hSw2, hSw3⟩ := hSw2); go_simp; (try with_reducible rfl))
          (try simp only [Act.put, List.setIfInBounds_toArray, List.set_cons_zero, List.set_cons_succ])
          refine wpAnyH_take (i := 3) (oi := { dst := some 51, op := _, type := _, pos := _, after := _, guard := _ }) (v := ?_) rfl (by kernel_rfl) (by kernel_rfl) (by kernel_rfl) (fun _ _ _ h => h) (Or.inl ⟨by rfl, ?_⟩) (by assumption) ?_
          rotate_left
          · (intro w hSw; (try obtain ⟨hSw1, hSw2⟩ := hSw); (try obtain ⟨hSw2, hSw3⟩ := hSw2); go_simp; (try with_reducible rfl))
          (try simp only [Act.put, List.setIfInBounds_toArray, List.set_cons_zero, List.set_cons_succ])
          refine wpAnyH_take (i := 4) (oi := { dst := some 52, op := _, type := _, pos := _, after := _, guard := _ }) (v := ?_) rfl (by kernel_rfl) (by kernel_rfl) (by kernel_rfl) (fun _ _ _ h => h) (Or.inl ⟨by rfl, ?_⟩) (by assumption) ?_
          rotate_left
          · (intro w hSw; (try obtain ⟨hSw1, hSw2⟩ := hSw); (try obtain ⟨hSw2, hSw3⟩ := hSw2); go_simp; (try with_reducible rfl))
          (try simp only [Act.put, List.setIfInBounds_toArray, List.set_cons_zero, List.set_cons_succ])
          refine wpAnyH_take (i := 5) (oi := { dst := some 53, op := _, type := _, pos := _, after := _, guard := _ }) (v := ?_) rfl (by kernel_rfl) (by kernel_rfl) (by kernel_rfl) (fun _ _ _ h => h) (Or.inl ⟨by rfl, ?_⟩) (by assumption) ?_
          rotate_left
          · (intro w hSw; (try obtain ⟨hSw1, hSw2⟩ := hSw); (try obtain ⟨hSw2, hSw3⟩ := hSw2); go_simp; (try with_reducible rfl))
          (try simp only [Act.put, List.setIfInBounds_toArray, List.set_cons_zero, List.set_cons_succ])
          refine wpAnyH_take (i := 6) (oi := { dst := some 54, op := _, type := _, pos := _, after := _, guard := _ }) (v := ?_) rfl (by kernel_rfl) (by kernel_rfl) (by kernel_rfl) (fun _ _ _ h => h) (Or.inl ⟨by rfl, ?_⟩) (by assumption) ?_
          rotate_left
          · (intro w hSw; (try obtain ⟨hSw1, hSw2⟩ := hSw); (try obtain ⟨hSw2, hSw3⟩ := hSw2); go_simp; (try with_reducible rfl))
          (try simp only [Act.put, List.setIfInBounds_toArray, List.set_cons_zero, List.set_cons_succ])
          refine wpAnyH_take (i := 7) (oi := { dst := some 55, op := _, type := _, pos := _, after := _, guard := _ }) (v := ?_) rfl (by kernel_rfl) (by kernel_rfl) (by kernel_rfl) (fun _ _ _ h => h) (Or.inl ⟨by rfl, ?_⟩) (by assumption) ?_
          rotate_left
          · (intro w hSw; (try obtain ⟨hSw1, hSw2⟩ := hSw); (try obtain ⟨hSw2, hSw3⟩ := hSw2); go_simp; (try with_reducible rfl))
          (try simp only [Act.put, List.setIfInBounds_toArray, List.set_cons_zero, List.set_cons_succ])
          refine wpAnyH_take (i := 8) (oi := { dst := some 56, op := _, type := _, pos := _, after := _, guard := _ }) (v := ?_) rfl (by kernel_rfl) (by kernel_rfl) (by kernel_rfl) (fun _ _ _ h => h) (Or.inl ⟨by rfl, ?_⟩) (by assumption) ?_
          rotate_left
          · (intro w hSw; (try obtain ⟨hSw1, hSw2⟩ := hSw); (try obtain ⟨hSw2, hSw3⟩ := hSw2); go_simp; (try with_reducible rfl))
          (try simp only [Act.put, List.setIfInBounds_toArray, List.set_cons_zero, List.set_cons_succ])
          refine wpAnyH_take (i := 9) (oi := { dst := some 57, op := _, type := _, pos := _, after := _, guard := _ }) (v := ?_) rfl (by kernel_rfl) (by kernel_rfl) (by kernel_rfl) (fun _ _ _ h => h) (Or.inl ⟨by rfl, ?_⟩) (by assumption) ?_
          rotate_left
          · (intro w hSw; (try obtain ⟨hSw1, hSw2⟩ := hSw); (try obtain ⟨hSw2, hSw3⟩ := hSw2); go_simp; (try with_reducible rfl))
          (try simp only [Act.put, List.setIfInBounds_toArray, List.set_cons_zero, List.set_cons_succ])
          refine wpAnyH_take (i := 10) (oi := { dst := some 58, op := _, type := _, pos := _, after := _, guard := _ }) (v := ?_) rfl (by kernel_rfl) (by kernel_rfl) (by kernel_rfl) (fun _ _ _ h => h) (Or.inl ⟨by rfl, ?_⟩) (by assumption) ?_
          rotate_left
          · (intro w hSw; (try obtain ⟨hSw1, hSw2⟩ := hSw); (try obtain ⟨hSw2, hSw3⟩ := hSw2); go_simp; (try with_reducible rfl))
          (try simp only [Act.put, List.setIfInBounds_toArray, List.set_cons_zero, List.set_cons_succ])
          refine wpAnyH_take (i := 11) (oi := { dst := some 59, op := _, type := _, pos := _, after := _, guard := _ }) (v := ?_) rfl (by kernel_rfl) (by kernel_rfl) (by kernel_rfl) (fun _ _ _ h => h) (Or.inl ⟨by rfl, ?_⟩) (by assumption) ?_
          rotate_left
          · (intro w hSw; (try obtain ⟨hSw1, hSw2⟩ := hSw); (try obtain ⟨hSw2, hSw3⟩ := hSw2); go_simp; (try with_reducible rfl))
          (try simp only [Act.put, List.setIfInBounds_toArray, List.set_cons_zero, List.set_cons_succ])
          refine wpAnyH_ready (rs := [12]) (by kernel_rfl) (by simp) ?_
          refine AllReadyH.cons (o := { dst := some 60, op := _, type := _, pos := _, after := _, guard := _ }) rfl (fun K hK => ?_) AllReadyH.nil
          go_simp
          refine (br_DropZ (HC3.out.1.keep ((Kept.refl wc).drew)) x HX0.out r2 HDR.out.2).mono ?_
          rintro e wK ⟨heK, hbK, hxK⟩
          have HBK := hidMk hbK
          have HXK := hidMk hxK
          clear hbK hxK
          (try obtain ⟨vK, rfl⟩ := heK)
          (try subst heK)
          (try go_wp2_with fail)
          refine hK.out _ _ ?_ (fun hHeld => ?_)
          · exact ⟨HXK.out.cell (.inr (.inl rfl)) hHeld.1, HXK.out.cell (.inr (.inl rfl)) hHeld.2.1, HXK.out.cell (.inr (.inr rfl)) hHeld.2.2⟩
          clear hK K
          (try simp only [Act.put, List.setIfInBounds_toArray, List.set_cons_zero, List.set_cons_succ])
          refine wpAnyH_done (by kernel_rfl) ?_ _
          go_wp2_with fail
          go_meet
          exact hidMk ⟨by have := HBK.out; rw [HR12.out] at this; exact this, (HC3.out.2.trans (Fx.of_kept ((Kept.refl wc).drew) HC3.out.1.flt)).trans HXK.out⟩
      case rest =>
        have HC5 := hcut
        clear hcut y1 y2 HCL3 HC3
        have s4 : wc.cell? ⟨t, 4, none⟩ = some (.slice (some ⟨tb, 0, none⟩) m cap) := by rw [HML.out]; exact HC5.out.2.cell (.inr (.inl rfl)) HJ0.out.pl.c4
        have hcl := HJ0.out.cells HKM.out.1
        rw [← HXC.out.2] at hcl
        have s3 : wc.cell? ⟨tb, k * 3 + 2, none⟩ = some (.int .i64 cc) := HC5.out.2.cell (.inr (.inr rfl)) hcl.2.2
        have sf : wc.frozen? ⟨tb, k * 3 + 2, none⟩ = false := by
          have e2 : wc.frozen? ⟨tb, k * 3 + 2, none⟩ = W.frozen? ⟨tb, k * 3 + 2, none⟩ := by simp only [World.frozen?, HC5.out.2 tb (.inr (.inr rfl))]
          rw [e2]
          obtain ⟨_, ⟨h1, _⟩ | ⟨b, cp', cur, hv, hb', hh, r⟩⟩ := HJ0.out.ow
          · cases h1
          · cases hv; simp [World.frozen?, hh]
        have hcb : 0 < cc ∧ cc ≤ 1000000 := by rw [HXC.out.2]; exact ⟨HKM.out.2, Int.le_trans (HCS.out k) HC0.out.2⟩
        have hwc : wrap64 (cc - 1) = cc - 1 := wrap_fit (by omega) (by omega)
        have HCB := hidMk hcb
        have HS5 := hidMk (show ∀ u : Value, (wc.setCell ⟨tb, k * 3 + 2, none⟩ u).drew.cell? ⟨t, 4, none⟩ = some (.slice (some ⟨tb, 0, none⟩) m cap) from fun u => ((Kept.refl _).drew).cellp (by rw [World.cell?_setCell_other _ _ _ _ (by simp [Ne.symm HJ0.out.d1])]; exact s4))
        have HFIN := hidMk (show JS w0 (wc.setCell ⟨tb, k * 3 + 2, none⟩ (.int .i64 (cc - 1))).drew t g p q tb cap codes room (l.set k ((l.getD k (0, 0)).1, cc - 1)) n r nd n2 nd2 M lev from by
          have hj := HJ0.out
          have hkk := HKM.out
          obtain ⟨iv', hle⟩ := hj.iv.dropZ HDR.out.1 HT9.out
          have hrb : ∀ i, r i ≠ 0 → rf i ≠ 0 := fun i hi e => hi (by have := hle i; omega)
          refine JS.keep (W := wc.setCell ⟨tb, k * 3 + 2, none⟩ (.int .i64 (cc - 1))) ?_ ((Kept.refl _).drew)
          refine hj.stored hkk.1 (cc - 1) HC5.out.1 HC5.out.2 (fun i hi => hj.sm i (hrb i hi)) iv' (fun j hj' hp => ?_) (by omega) (fun e => absurd e HKZ.out) ?_ rfl hkk.2
          · have hlp : 0 < (l.getD j (0, 0)).2 := by
              by_cases e : j = k
              · subst e; exact hkk.2
              · rw [List.getD_eq_getElem?_getD, List.getElem?_set_ne (fun e' => e e'.symm), ← List.getD_eq_getElem?_getD] at hp
                exact hp
            rcases hj.rt j hj' hlp with e | ⟨_, e2⟩
            · exact .inl e
            · by_cases e0 : (l.getD j (0, 0)).1 = 0
              · exact .inl e0
              · right
                refine ⟨?_, e2⟩
                have hc := iv'.cnt _ e0
                have hpos := tC_pos (l.set k ((l.getD k (0, 0)).1, cc - 1)) j (by rw [List.length_set]; exact hj')
                have hfst : ((l.set k ((l.getD k (0, 0)).1, cc - 1)).getD j (0, 0)).1 = (l.getD j (0, 0)).1 := by
                  by_cases e : j = k
                  · subst e; rw [List.getD_eq_getElem?_getD, List.getElem?_set_self hj']; rfl
                  · rw [List.getD_eq_getElem?_getD, List.getElem?_set_ne (fun e' => e e'.symm), ← List.getD_eq_getElem?_getD]
                rw [hfst] at hpos
                omega
          · have hu : usd r n ≤ usd rf n := by
              have aux : ∀ m, usd r m ≤ usd rf m := fun m => by
                induction m with
                | zero => exact Nat.le_refl _
                | succ m ih =>
                  show usd r m + (if r ((m + 1 : Nat) : Int) = 0 then 0 else 1) ≤ usd rf m + (if rf ((m + 1 : Nat) : Int) = 0 then 0 else 1)
                  by_cases e : rf ((m + 1 : Nat) : Int) = 0
                  · have : r ((m + 1 : Nat) : Int) = 0 := by have := hle ((m + 1 : Nat) : Int); omega
                    rw [if_pos e, if_pos this]; omega
                  · rw [if_neg e]; split <;> omega
              exact aux n
            have := hj.cp
            omega)
        clear hcl HC5 hm
        go_upto_region 9 with fail
        refine wp_region_held_drew (S := (fun w' => w'.cell? ⟨t, 4, none⟩ = some (.slice (some ⟨tb, 0, none⟩) m cap))) (by kernel_rfl) ?_ (fun hHeld => ?_)
        · exact ((Kept.refl wc).drew).cellp s4
        refine wpAnyH_take (i := 0) (oi := { dst := some 61, op := _, type := _, pos := _, after := _, guard := _ }) (v := ?_) rfl (by kernel_rfl) (by kernel_rfl) (by kernel_rfl) (fun _ _ _ h => h) (Or.inl ⟨by rfl, ?_⟩) (by assumption) ?_
        rotate_left
        · (intro w hSw; go_simp; (try with_reducible rfl))
        (try simp only [Act.put, List.setIfInBounds_toArray, List.set_cons_zero, List.set_cons_succ])
        refine wpAnyH_take (i := 1) (oi := { dst := some 62, op := _, type := _, pos := _, after := _, guard := _ }) (v := ?_) rfl (by kernel_rfl) (by kernel_rfl) (by kernel_rfl) (fun _ _ _ h => h) (Or.inl ⟨by rfl, ?_⟩) (by assumption) ?_
        rotate_left
        · (intro w hSw; go_simp; (try with_reducible rfl))
        (try simp only [Act.put, List.setIfInBounds_toArray, List.set_cons_zero, List.set_cons_succ])
        refine wpAnyH_take (i := 2) (oi := { dst := some 63, op := _, type := _, pos := _, after := _, guard := _ }) (v := ?_) rfl (by kernel_rfl) (by kernel_rfl) (by kernel_rfl) (fun _ _ _ h => h) (Or.inl ⟨by rfl, ?_⟩) (by assumption) ?_
        rotate_left
        · (intro w hSw; go_simp; (try with_reducible rfl))
        (try simp only [Act.put, List.setIfInBounds_toArray, List.set_cons_zero, List.set_cons_succ])
        refine wpAnyH_take (i := 3) (oi := { dst := some 64, op := _, type := _, pos := _, after := _, guard := _ }) (v := ?_) rfl (by kernel_rfl) (by kernel_rfl) (by kernel_rfl) (fun _ _ _ h => h) (Or.inl ⟨by rfl, ?_⟩) (by assumption) ?_
        rotate_left
        · (intro w hSw; go_simp; (try with_reducible rfl))
        (try simp only [Act.put, List.setIfInBounds_toArray, List.set_cons_zero, List.set_cons_succ])
        refine wpAnyH_take (i := 4) (oi := { dst := some 65, op := _, type := _, pos := _, after := _, guard := _ }) (v := ?_) rfl (by kernel_rfl) (by kernel_rfl) (by kernel_rfl) (fun _ _ _ h => h) (Or.inl ⟨by rfl, ?_⟩) (by assumption) ?_
        rotate_left
        · (intro w hSw; go_simp; (try with_reducible rfl))
        (try simp only [Act.put, List.setIfInBounds_toArray, List.set_cons_zero, List.set_cons_succ])
        refine wpAnyH_take (i := 5) (oi := { dst := some 66, op := _, type := _, pos := _, after := _, guard := _ }) (v := ?_) rfl (by kernel_rfl) (by kernel_rfl) (by kernel_rfl) (fun _ _ _ h => h) (Or.inl ⟨by rfl, ?_⟩) (by assumption) ?_
        rotate_left
        · (intro w hSw; go_simp; (try with_reducible rfl))
        (try simp only [Act.put, List.setIfInBounds_toArray, List.set_cons_zero, List.set_cons_succ])
        refine wpAnyH_take (i := 6) (oi := { dst := some 67, op := _, type := _, pos := _, after := _, guard := _ }) (v := ?_) rfl (by kernel_rfl) (by kernel_rfl) (by kernel_rfl) (fun _ _ _ h => h) (Or.inl ⟨by rfl, ?_⟩) (by assumption) ?_
        rotate_left
        · (intro w hSw; go_simp; (try with_reducible rfl))
        (try simp only [Act.put, List.setIfInBounds_toArray, List.set_cons_zero, List.set_cons_succ])
        refine wpAnyH_take (i := 7) (oi := { dst := some 68, op := _, type := _, pos := _, after := _, guard := _ }) (v := ?_) rfl (by kernel_rfl) (by kernel_rfl) (by kernel_rfl) (fun _ _ _ h => h) (Or.inl ⟨by rfl, ?_⟩) (by assumption) ?_
        rotate_left
        · (intro w hSw; go_simp; (try with_reducible rfl))
        (try simp only [Act.put, List.setIfInBounds_toArray, List.set_cons_zero, List.set_cons_succ])
        refine wpAnyH_take (i := 8) (oi := { dst := some 69, op := _, type := _, pos := _, after := _, guard := _ }) (v := ?_) rfl (by kernel_rfl) (by kernel_rfl) (by kernel_rfl) (fun _ _ _ h => h) (Or.inl ⟨by rfl, ?_⟩) (by assumption) ?_
        rotate_left
        · (intro w hSw; go_simp; (try with_reducible rfl))
        (try simp only [Act.put, List.setIfInBounds_toArray, List.set_cons_zero, List.set_cons_succ])
        refine wpAnyH_take (i := 9) (oi := { dst := some 70, op := _, type := _, pos := _, after := _, guard := _ }) (v := ?_) rfl (by kernel_rfl) (by kernel_rfl) (by kernel_rfl) (fun _ _ _ h => h) (Or.inl ⟨by rfl, ?_⟩) (by assumption) ?_
        rotate_left
        · (intro w hSw; go_simp; (try with_reducible rfl))
        (try simp only [Act.put, List.setIfInBounds_toArray, List.set_cons_zero, List.set_cons_succ])
        refine wpAnyH_take (i := 10) (oi := { dst := some 71, op := _, type := _, pos := _, after := _, guard := _ }) (v := ?_) rfl (by kernel_rfl) (by kernel_rfl) (by kernel_rfl) (fun _ _ _ h => h) (Or.inl ⟨by rfl, ?_⟩) (by assumption) ?_
        rotate_left
        · (intro w hSw; go_simp; (try with_reducible rfl))
        (try simp only [Act.put, List.setIfInBounds_toArray, List.set_cons_zero, List.set_cons_succ])
        refine wpAnyH_take (i := 11) (oi := { dst := some 72, op := _, type := _, pos := _, after := _, guard := _ }) (v := ?_) rfl (by kernel_rfl) (by kernel_rfl) (by kernel_rfl) (fun _ _ _ h => h) (Or.inl ⟨by rfl, ?_⟩) (by assumption) ?_
        rotate_left
        · (intro w hSw; go_simp; (try with_reducible rfl))
        (try simp only [Act.put, List.setIfInBounds_toArray, List.set_cons_zero, List.set_cons_succ])
        refine wpAnyH_ready (rs := [12]) (by kernel_rfl) (by simp) ?_
        refine AllReadyH.cons (o := { dst := some 73, op := _, type := _, pos := _, after := _, guard := _ }) rfl (fun K hK => ?_) AllReadyH.nil
        go_simp
        refine hK.out _ _ ?_ (fun hHeld => ?_)
        · (first | assumption | exact HS5.out _)
        clear hK K
        (try simp only [Act.put, List.setIfInBounds_toArray, List.set_cons_zero, List.set_cons_succ])
        refine wpAnyH_take (i := 13) (oi := { dst := some 74, op := _, type := _, pos := _, after := _, guard := _ }) (v := ?_) rfl (by kernel_rfl) (by kernel_rfl) (by kernel_rfl) (fun _ _ _ h => h) (Or.inl ⟨by rfl, ?_⟩) (by assumption) ?_
        rotate_left
        · (intro w hSw; go_simp; (try with_reducible rfl))
        (try simp only [Act.put, List.setIfInBounds_toArray, List.set_cons_zero, List.set_cons_succ])
        refine wpAnyH_take (i := 14) (oi := { dst := some 75, op := _, type := _, pos := _, after := _, guard := _ }) (v := ?_) rfl (by kernel_rfl) (by kernel_rfl) (by kernel_rfl) (fun _ _ _ h => h) (Or.inl ⟨by rfl, ?_⟩) (by assumption) ?_
        rotate_left
        · (intro w hSw; go_simp; (try with_reducible rfl))
        (try simp only [Act.put, List.setIfInBounds_toArray, List.set_cons_zero, List.set_cons_succ])
        refine wpAnyH_take (i := 15) (oi := { dst := some 76, op := _, type := _, pos := _, after := _, guard := _ }) (v := ?_) rfl (by kernel_rfl) (by kernel_rfl) (by kernel_rfl) (fun _ _ _ h => h) (Or.inl ⟨by rfl, ?_⟩) (by assumption) ?_
        rotate_left
        · (intro w hSw; go_simp; (try with_reducible rfl))
        (try simp only [Act.put, List.setIfInBounds_toArray, List.set_cons_zero, List.set_cons_succ])
        refine wpAnyH_ready (rs := [16]) (by kernel_rfl) (by simp) ?_
        refine AllReadyH.cons (o := { dst := none, op := _, type := _, pos := _, after := _, guard := _ }) rfl (fun K hK => ?_) AllReadyH.nil
        go_simp
        refine hK.out _ _ ?_ (fun hHeld => ?_)
        · (first | assumption | exact HS5.out _)
        clear hK K
        (try simp only [Act.put, List.setIfInBounds_toArray, List.set_cons_zero, List.set_cons_succ])
        refine wpAnyH_done (by kernel_rfl) ?_ _
        go_wp2_with fail
        go_ret
        have hf := HFIN.out
        refine ⟨rfl, tb, cap, l.set k ((l.getD k (0, 0)).1, cc - 1), n, r, nd, n2, nd2, M, lev, ?_, by rw [List.length_set]; omega, by omega, set_bound HCS.out k _ _ (by rw [HXC.out.2]; have := HCS.out k; omega)⟩
        rw [show IntKind.i64.wrap (cc - 1) = cc - 1 from wrap_i (by have := HCB.out; omega) (by have := HCB.out; omega)]
        exact hf
end
end Go.Proofs.YtjkbhaplngnniaaDoor
