/- PagesPlays: trees that are played with: each answer, all entries of the last tree, and how many nodes there are. -/
import Derived.Test.YtjkbhaplngnniaaDoorPg27
namespace Go.Proofs.YtjkbhaplngnniaaDoor
open Go.RowKit Go.Maps
set_option linter.unusedSimpArgs false
set_option linter.unusedVariables false

section
variable {w0 W : World} {t g p q : Nat} {codes room : Int} {k : Nat}
theorem LP.cell1 (h : LP w0 W t g p q codes room k) : W.cell? ⟨t, 1, none⟩ = some (.pointer (some ⟨q, 0, none⟩)) := by
  obtain ⟨tb, cap, l, n, rf, nd, n2, nd2, M, lev, h1, h2⟩ := h
  exact h1.pl.c1
theorem lp_Arena (h : LP w0 W t g p q codes room k) : Calls Tryd.prog 12 #[.pointer (some ⟨g, 0, none⟩)] W fun e w' => e = .returned (.pointer (some ⟨p, 0, none⟩)) ∧ w' = W := by
  obtain ⟨tb, cap, l, n, rf, nd, n2, nd2, M, lev, h1, h2⟩ := h
  exact pg_Arena h1.pg
theorem lp_Used (h : LP w0 W t g p q codes room k) : ∃ us : Int, Calls Tryd.prog 18 #[.pointer (some ⟨p, 0, none⟩)] W (fun e w' => e = .returned (.int .i64 us) ∧ w' = W) ∧ Calls Tryd.prog 19 #[.pointer (some ⟨q, 0, none⟩)] W (fun e w' => e = .returned (.int .i64 us) ∧ w' = W) := by
  obtain ⟨tb, cap, l, n, rf, nd, n2, nd2, M, lev, h1, h2⟩ := h
  obtain ⟨ow, hA⟩ := h1.ba.as
  obtain ⟨_, _, _, _, _, hq⟩ := h1.ba.rq
  have := r9_Used hq
  rw [usd_both h1.iv.ok hq.ok] at this
  exact ⟨_, as_Used hA, this⟩
end
set_option maxHeartbeats 16000000 in
set_option maxRecDepth 100000 in
theorem law_PagesPlays (room codes : Int) (a : Option Addr) (n c : Nat) (f : Nat → AcP) (w : World) (hA : AcsP w a n f) (hV : Vars w) : Calls Tryd.prog 4 #[.int .i64 room, .int .i64 codes, .slice a n c] w fun e w' => e = .returned (.bool true) ∧ Kept w w' := by
  have HV := hidMk hV
  have HAC := hidMk hA
  have HKN := hidMk (fun W (h : Kept w W) => l10_known W (hV.kept h))
  obtain ⟨cd, hcd⟩ : ∃ r, codes.tmod 70 = r := ⟨_, rfl⟩
  have hb : -70 < cd ∧ cd < 70 := by have := tmod_bound codes (m := 70) (by omega); rw [← hcd]; exact this
  have hw : wrap64 cd = cd := wrap_fit (by omega) (by omega)
  clear hV hA
  by_cases hok : 1 ≤ room ∧ room ≤ 20000 ∧ 1 ≤ cd
  · obtain ⟨o1, o2, o3⟩ := hok
    have HBG := hidMk (l10_begin room cd w o1 o2 o3 (by omega))
    have HO1 := hidMk o1
    have HCD := hidMk (And.intro o3 hb.2)
    clear o1 o2 o3
    go_enter Tryd.func4, Tryd.ntmps4
    go_wp2_with fail
    refine HBG.out.mono ?_
    rintro e w1 ⟨t, g, p, q, tb0, rfl, hbeg⟩
    have HL1 := hidMk (lp_begin hbeg HO1.out)
    clear hbeg HBG hw hcd hb
    go_wp2_with fail
    go_loopg [8] 42 (fun gg x wr => ∃ k : Nat, k + gg = 42 ∧ k ≤ 40 ∧ x = .int .i64 k ∧ Hid (LP w wr t g p q cd room k))
    case atStart => exact ⟨0, by omega, by omega, rfl, HL1⟩
    case round =>
      clear HL1
      obtain ⟨k, hkg, hk4, rfl, HL⟩ := hrel
      have HDOX := hidMk (show ∀ x : AcP, k ≤ 50 → Calls Tryd.prog 17 #[.pointer (some ⟨t, 0, none⟩), .agg #[.int .i64 x.kd, .int .i64 x.of, .int .i64 x.cd, .int .i64 x.v, .bool x.hd]] wr.drew fun e w' => e = .returned (.bool true) ∧ LP w w' t g p q cd room (k + 1) from fun x hk => lp_do HV.out (HL.out.keep ((Kept.refl wr).drew)) hk x)
      by_cases hkn : k < n
      · by_cases hk6 : k < 40
        · have hk1 : (k : Int) < n := by omega
          have hk2 : (k : Int) < 40 := by omega
          obtain ⟨ba, off, rfl, hra⟩ := acsP_at HAC.out hkn
          have HAK := hidMk (show w.cell? ⟨ba, off + k * 5, none⟩ = some (.int .i64 (f k).kd) ∧ w.cell? ⟨ba, off + k * 5 + 1, none⟩ = some (.int .i64 (f k).of) ∧ w.cell? ⟨ba, off + k * 5 + 2, none⟩ = some (.int .i64 (f k).cd) ∧ w.cell? ⟨ba, off + k * 5 + 3, none⟩ = some (.int .i64 (f k).v) ∧ w.cell? ⟨ba, off + k * 5 + 4, none⟩ = some (.bool (f k).hd) from ⟨by have := hra 0 _ rfl; simpa using this, hra 1 _ rfl, hra 2 _ rfl, hra 3 _ rfl, hra 4 _ rfl⟩)
          have HDO := hidMk (HDOX.out (f k) (by omega))
          generalize (f k).kd = z0 at *
          generalize (f k).of = z1 at *
          generalize (f k).cd = z2 at *
          generalize (f k).v = z3 at *
          generalize (f k).hd = z4 at *
          have HG := hidMk hkg
          clear hra hkg hkn HDOX
          go_upto_region 7 with fail
          refine wp_region_held_drew (S := (fun w' => Kept w w' ∧ w'.cell? ⟨t, 0, none⟩ = some (.pointer (some ⟨g, 0, none⟩)) ∧ w'.cell? ⟨t, 1, none⟩ = some (.pointer (some ⟨q, 0, none⟩)))) (by kernel_rfl) ?_ (fun hHeld => ?_)
          · exact ⟨HL.out.kept.drew, ((Kept.refl wr).drew).cellp HL.out.cell0, ((Kept.refl wr).drew).cellp HL.out.cell1⟩
          refine wpAnyH_take (i := 0) (oi := { dst := some 27, op := _, type := _, pos := _, after := _, guard := _ }) (v := ?_) rfl (by kernel_rfl) (by kernel_rfl) (by kernel_rfl) (fun _ _ _ h => h) (Or.inl ⟨by rfl, ?_⟩) (by assumption) ?_
          rotate_left
          · (intro w9 hSw; have s0 := hSw.2.1; have s1 := hSw.2.2; have d0 := hSw.1.cellp HAK.out.1; have d1 := hSw.1.cellp HAK.out.2.1; have d2 := hSw.1.cellp HAK.out.2.2.1; have d3 := hSw.1.cellp HAK.out.2.2.2.1; have d4 := hSw.1.cellp HAK.out.2.2.2.2; clear hSw; go_simp; (try with_reducible rfl))
          (try simp only [Act.put, List.setIfInBounds_toArray, List.set_cons_zero, List.set_cons_succ])
          refine wpAnyH_take (i := 1) (oi := { dst := some 28, op := _, type := _, pos := _, after := _, guard := _ }) (v := ?_) rfl (by kernel_rfl) (by kernel_rfl) (by kernel_rfl) (fun _ _ _ h => h) (Or.inl ⟨by rfl, ?_⟩) (by assumption) ?_
          rotate_left
          · (intro w9 hSw; have s0 := hSw.2.1; have s1 := hSw.2.2; have d0 := hSw.1.cellp HAK.out.1; have d1 := hSw.1.cellp HAK.out.2.1; have d2 := hSw.1.cellp HAK.out.2.2.1; have d3 := hSw.1.cellp HAK.out.2.2.2.1; have d4 := hSw.1.cellp HAK.out.2.2.2.2; clear hSw; go_simp; (try with_reducible rfl))
          (try simp only [Act.put, List.setIfInBounds_toArray, List.set_cons_zero, List.set_cons_succ])
          refine wpAnyH_take (i := 2) (oi := { dst := some 29, op := _, type := _, pos := _, after := _, guard := _ }) (v := ?_) rfl (by kernel_rfl) (by kernel_rfl) (by kernel_rfl) (fun _ _ _ h => h) (Or.inl ⟨by rfl, ?_⟩) (by assumption) ?_
          rotate_left
          · (intro w9 hSw; have s0 := hSw.2.1; have s1 := hSw.2.2; have d0 := hSw.1.cellp HAK.out.1; have d1 := hSw.1.cellp HAK.out.2.1; have d2 := hSw.1.cellp HAK.out.2.2.1; have d3 := hSw.1.cellp HAK.out.2.2.2.1; have d4 := hSw.1.cellp HAK.out.2.2.2.2; clear hSw; go_simp; (try with_reducible rfl))
          (try simp only [Act.put, List.setIfInBounds_toArray, List.set_cons_zero, List.set_cons_succ])
          refine wpAnyH_take (i := 3) (oi := { dst := some 30, op := _, type := _, pos := _, after := _, guard := _ }) (v := ?_) rfl (by kernel_rfl) (by kernel_rfl) (by kernel_rfl) (fun _ _ _ h => h) (Or.inl ⟨by rfl, ?_⟩) (by assumption) ?_
          rotate_left
          · (intro w9 hSw; have s0 := hSw.2.1; have s1 := hSw.2.2; have d0 := hSw.1.cellp HAK.out.1; have d1 := hSw.1.cellp HAK.out.2.1; have d2 := hSw.1.cellp HAK.out.2.2.1; have d3 := hSw.1.cellp HAK.out.2.2.2.1; have d4 := hSw.1.cellp HAK.out.2.2.2.2; clear hSw; go_simp; (try with_reducible rfl))
          (try simp only [Act.put, List.setIfInBounds_toArray, List.set_cons_zero, List.set_cons_succ])
          refine wpAnyH_take (i := 4) (oi := { dst := some 31, op := _, type := _, pos := _, after := _, guard := _ }) (v := ?_) rfl (by kernel_rfl) (by kernel_rfl) (by kernel_rfl) (fun _ _ _ h => h) (Or.inl ⟨by rfl, ?_⟩) (by assumption) ?_
          rotate_left
          · (intro w9 hSw; have s0 := hSw.2.1; have s1 := hSw.2.2; have d0 := hSw.1.cellp HAK.out.1; have d1 := hSw.1.cellp HAK.out.2.1; have d2 := hSw.1.cellp HAK.out.2.2.1; have d3 := hSw.1.cellp HAK.out.2.2.2.1; have d4 := hSw.1.cellp HAK.out.2.2.2.2; clear hSw; go_simp; (try with_reducible rfl))
          (try simp only [Act.put, List.setIfInBounds_toArray, List.set_cons_zero, List.set_cons_succ])
          refine wpAnyH_ready (rs := [5]) (by kernel_rfl) (by simp) ?_
          refine AllReadyH.cons (o := { dst := some 32, op := _, type := _, pos := _, after := _, guard := _ }) rfl (fun K hK => ?_) AllReadyH.nil
          go_simp
          refine HDO.out.mono ?_
          rintro e w2 ⟨rfl, hl2⟩
          have HL2 := hidMk hl2
          clear hl2
          (try go_wp2_with fail)
          refine hK.out _ _ ?_ (fun hHeld => ?_)
          · exact ⟨HL2.out.kept, HL2.out.cell0, HL2.out.cell1⟩
          clear hK K
          (try simp only [Act.put, List.setIfInBounds_toArray, List.set_cons_zero, List.set_cons_succ])
          refine wpAnyH_take (i := 6) (oi := { dst := some 33, op := _, type := _, pos := _, after := _, guard := _ }) (v := ?_) rfl (by kernel_rfl) (by kernel_rfl) (by kernel_rfl) (fun _ _ _ h => h) (Or.inl ⟨by rfl, ?_⟩) (by assumption) ?_
          rotate_left
          · (intro w9 hSw; have s0 := hSw.2.1; have s1 := hSw.2.2; have d0 := hSw.1.cellp HAK.out.1; have d1 := hSw.1.cellp HAK.out.2.1; have d2 := hSw.1.cellp HAK.out.2.2.1; have d3 := hSw.1.cellp HAK.out.2.2.2.1; have d4 := hSw.1.cellp HAK.out.2.2.2.2; clear hSw; go_simp; (try with_reducible rfl))
          (try simp only [Act.put, List.setIfInBounds_toArray, List.set_cons_zero, List.set_cons_succ])
          refine wpAnyH_take (i := 7) (oi := { dst := some 34, op := _, type := _, pos := _, after := _, guard := _ }) (v := ?_) rfl (by kernel_rfl) (by kernel_rfl) (by kernel_rfl) (fun _ _ _ h => h) (Or.inl ⟨by rfl, ?_⟩) (by assumption) ?_
          rotate_left
          · (intro w9 hSw; have s0 := hSw.2.1; have s1 := hSw.2.2; have d0 := hSw.1.cellp HAK.out.1; have d1 := hSw.1.cellp HAK.out.2.1; have d2 := hSw.1.cellp HAK.out.2.2.1; have d3 := hSw.1.cellp HAK.out.2.2.2.1; have d4 := hSw.1.cellp HAK.out.2.2.2.2; clear hSw; go_simp; (try with_reducible rfl))
          (try simp only [Act.put, List.setIfInBounds_toArray, List.set_cons_zero, List.set_cons_succ])
          refine wpAnyH_take (i := 8) (oi := { dst := some 35, op := _, type := _, pos := _, after := _, guard := _ }) (v := ?_) rfl (by kernel_rfl) (by kernel_rfl) (by kernel_rfl) (fun _ _ _ h => h) (Or.inl ⟨by rfl, ?_⟩) (by assumption) ?_
          rotate_left
          · (intro w9 hSw; have s0 := hSw.2.1; have s1 := hSw.2.2; have d0 := hSw.1.cellp HAK.out.1; have d1 := hSw.1.cellp HAK.out.2.1; have d2 := hSw.1.cellp HAK.out.2.2.1; have d3 := hSw.1.cellp HAK.out.2.2.2.1; have d4 := hSw.1.cellp HAK.out.2.2.2.2; clear hSw; go_simp; (try with_reducible rfl))
          (try simp only [Act.put, List.setIfInBounds_toArray, List.set_cons_zero, List.set_cons_succ])
          refine wpAnyH_take (i := 9) (oi := { dst := some 36, op := _, type := _, pos := _, after := _, guard := _ }) (v := ?_) rfl (by kernel_rfl) (by kernel_rfl) (by kernel_rfl) (fun _ _ _ h => h) (Or.inl ⟨by rfl, ?_⟩) (by assumption) ?_
          rotate_left
          · (intro w9 hSw; have s0 := hSw.2.1; have s1 := hSw.2.2; have d0 := hSw.1.cellp HAK.out.1; have d1 := hSw.1.cellp HAK.out.2.1; have d2 := hSw.1.cellp HAK.out.2.2.1; have d3 := hSw.1.cellp HAK.out.2.2.2.1; have d4 := hSw.1.cellp HAK.out.2.2.2.2; clear hSw; go_simp; (try with_reducible rfl))
          (try simp only [Act.put, List.setIfInBounds_toArray, List.set_cons_zero, List.set_cons_succ])
          refine wpAnyH_take (i := 10) (oi := { dst := some 37, op := _, type := _, pos := _, after := _, guard := _ }) (v := ?_) rfl (by kernel_rfl) (by kernel_rfl) (by kernel_rfl) (fun _ _ _ h => h) (Or.inl ⟨by rfl, ?_⟩) (by assumption) ?_
          rotate_left
          · (intro w9 hSw; have s0 := hSw.2.1; have s1 := hSw.2.2; have d0 := hSw.1.cellp HAK.out.1; have d1 := hSw.1.cellp HAK.out.2.1; have d2 := hSw.1.cellp HAK.out.2.2.1; have d3 := hSw.1.cellp HAK.out.2.2.2.1; have d4 := hSw.1.cellp HAK.out.2.2.2.2; clear hSw; go_simp; (try with_reducible rfl))
          (try simp only [Act.put, List.setIfInBounds_toArray, List.set_cons_zero, List.set_cons_succ])
          refine wpAnyH_take (i := 11) (oi := { dst := some 38, op := _, type := _, pos := _, after := _, guard := _ }) (v := ?_) rfl (by kernel_rfl) (by kernel_rfl) (by kernel_rfl) (fun _ _ _ h => h) (Or.inl ⟨by rfl, ?_⟩) (by assumption) ?_
          rotate_left
          · (intro w9 hSw; have s0 := hSw.2.1; have s1 := hSw.2.2; have d0 := hSw.1.cellp HAK.out.1; have d1 := hSw.1.cellp HAK.out.2.1; have d2 := hSw.1.cellp HAK.out.2.2.1; have d3 := hSw.1.cellp HAK.out.2.2.2.1; have d4 := hSw.1.cellp HAK.out.2.2.2.2; clear hSw; go_simp; (try with_reducible rfl))
          (try simp only [Act.put, List.setIfInBounds_toArray, List.set_cons_zero, List.set_cons_succ])
          refine wpAnyH_take (i := 14) (oi := { dst := some 41, op := _, type := _, pos := _, after := _, guard := _ }) (v := ?_) rfl (by kernel_rfl) (by kernel_rfl) (by kernel_rfl) (fun _ _ _ h => h) (Or.inl ⟨by rfl, ?_⟩) (by assumption) ?_
          rotate_left
          · (intro w9 hSw; have s0 := hSw.2.1; have s1 := hSw.2.2; have d0 := hSw.1.cellp HAK.out.1; have d1 := hSw.1.cellp HAK.out.2.1; have d2 := hSw.1.cellp HAK.out.2.2.1; have d3 := hSw.1.cellp HAK.out.2.2.2.1; have d4 := hSw.1.cellp HAK.out.2.2.2.2; clear hSw; go_simp; (try with_reducible rfl))
          (try simp only [Act.put, List.setIfInBounds_toArray, List.set_cons_zero, List.set_cons_succ])
          refine wpAnyH_take (i := 15) (oi := { dst := some 42, op := _, type := _, pos := _, after := _, guard := _ }) (v := ?_) rfl (by kernel_rfl) (by kernel_rfl) (by kernel_rfl) (fun _ _ _ h => h) (Or.inl ⟨by rfl, ?_⟩) (by assumption) ?_
          rotate_left
          · (intro w9 hSw; have s0 := hSw.2.1; have s1 := hSw.2.2; have d0 := hSw.1.cellp HAK.out.1; have d1 := hSw.1.cellp HAK.out.2.1; have d2 := hSw.1.cellp HAK.out.2.2.1; have d3 := hSw.1.cellp HAK.out.2.2.2.1; have d4 := hSw.1.cellp HAK.out.2.2.2.2; clear hSw; go_simp; (try with_reducible rfl))
          (try simp only [Act.put, List.setIfInBounds_toArray, List.set_cons_zero, List.set_cons_succ])
          refine wpAnyH_take (i := 16) (oi := { dst := some 43, op := _, type := _, pos := _, after := _, guard := _ }) (v := ?_) rfl (by kernel_rfl) (by kernel_rfl) (by kernel_rfl) (fun _ _ _ h => h) (Or.inl ⟨by rfl, ?_⟩) (by assumption) ?_
          rotate_left
          · (intro w9 hSw; have s0 := hSw.2.1; have s1 := hSw.2.2; have d0 := hSw.1.cellp HAK.out.1; have d1 := hSw.1.cellp HAK.out.2.1; have d2 := hSw.1.cellp HAK.out.2.2.1; have d3 := hSw.1.cellp HAK.out.2.2.2.1; have d4 := hSw.1.cellp HAK.out.2.2.2.2; clear hSw; go_simp; (try with_reducible rfl))
          (try simp only [Act.put, List.setIfInBounds_toArray, List.set_cons_zero, List.set_cons_succ])
          refine wpAnyH_take (i := 17) (oi := { dst := some 44, op := _, type := _, pos := _, after := _, guard := _ }) (v := ?_) rfl (by kernel_rfl) (by kernel_rfl) (by kernel_rfl) (fun _ _ _ h => h) (Or.inl ⟨by rfl, ?_⟩) (by assumption) ?_
          rotate_left
          · (intro w9 hSw; have s0 := hSw.2.1; have s1 := hSw.2.2; have d0 := hSw.1.cellp HAK.out.1; have d1 := hSw.1.cellp HAK.out.2.1; have d2 := hSw.1.cellp HAK.out.2.2.1; have d3 := hSw.1.cellp HAK.out.2.2.2.1; have d4 := hSw.1.cellp HAK.out.2.2.2.2; clear hSw; go_simp; (try with_reducible rfl))
          (try simp only [Act.put, List.setIfInBounds_toArray, List.set_cons_zero, List.set_cons_succ])
          refine wpAnyH_ready (rs := [12]) (by kernel_rfl) (by simp) ?_
          refine AllReadyH.cons (o := { dst := some 39, op := _, type := _, pos := _, after := _, guard := _ }) rfl (fun K hK => ?_) AllReadyH.nil
          go_simp
          refine (lp_Arena HL2.out).mono ?_
          rintro e w3 ⟨rfl, hw3⟩
          rw [hw3]
          clear hw3 w3
          (try go_wp2_with fail)
          refine hK.out _ _ ?_ (fun hHeld => ?_)
          · exact ⟨HL2.out.kept, HL2.out.cell0, HL2.out.cell1⟩
          clear hK K
          (try simp only [Act.put, List.setIfInBounds_toArray, List.set_cons_zero, List.set_cons_succ])
          refine wpAnyH_ready (rs := [13]) (by kernel_rfl) (by simp) ?_
          refine AllReadyH.cons (o := { dst := some 40, op := _, type := _, pos := _, after := _, guard := _ }) rfl (fun K hK => ?_) AllReadyH.nil
          obtain ⟨us, hu1, hu2⟩ := lp_Used HL2.out
          have HU2 := hidMk hu2
          go_simp
          refine hu1.mono ?_
          rintro e w3 ⟨rfl, hw3⟩
          rw [hw3]
          clear hw3 w3 hu1 hu2
          (try go_wp2_with fail)
          refine hK.out _ _ ?_ (fun hHeld => ?_)
          · exact ⟨HL2.out.kept, HL2.out.cell0, HL2.out.cell1⟩
          clear hK K
          (try simp only [Act.put, List.setIfInBounds_toArray, List.set_cons_zero, List.set_cons_succ])
          refine wpAnyH_ready (rs := [18]) (by kernel_rfl) (by simp) ?_
          refine AllReadyH.cons (o := { dst := some 45, op := _, type := _, pos := _, after := _, guard := _ }) rfl (fun K hK => ?_) AllReadyH.nil
          go_simp
          refine HU2.out.mono ?_
          rintro e w3 ⟨rfl, hw3⟩
          rw [hw3]
          clear hw3 w3
          (try go_wp2_with fail)
          refine hK.out _ _ ?_ (fun hHeld => ?_)
          · exact ⟨HL2.out.kept, HL2.out.cell0, HL2.out.cell1⟩
          clear hK K
          (try simp only [Act.put, List.setIfInBounds_toArray, List.set_cons_zero, List.set_cons_succ])
          refine wpAnyH_take (i := 19) (oi := { dst := some 46, op := _, type := _, pos := _, after := _, guard := _ }) (v := ?_) rfl (by kernel_rfl) (by kernel_rfl) (by kernel_rfl) (fun _ _ _ h => h) (Or.inl ⟨by rfl, ?_⟩) (by assumption) ?_
          rotate_left
          · (intro w9 hSw; have s0 := hSw.2.1; have s1 := hSw.2.2; have d0 := hSw.1.cellp HAK.out.1; have d1 := hSw.1.cellp HAK.out.2.1; have d2 := hSw.1.cellp HAK.out.2.2.1; have d3 := hSw.1.cellp HAK.out.2.2.2.1; have d4 := hSw.1.cellp HAK.out.2.2.2.2; clear hSw; go_simp; (try with_reducible rfl))
          (try simp only [Act.put, List.setIfInBounds_toArray, List.set_cons_zero, List.set_cons_succ])
          refine wpAnyH_take (i := 20) (oi := { dst := some 47, op := _, type := _, pos := _, after := _, guard := _ }) (v := ?_) rfl (by kernel_rfl) (by kernel_rfl) (by kernel_rfl) (fun _ _ _ h => h) (Or.inl ⟨by rfl, ?_⟩) (by assumption) ?_
          rotate_left
          · (intro w9 hSw; have s0 := hSw.2.1; have s1 := hSw.2.2; have d0 := hSw.1.cellp HAK.out.1; have d1 := hSw.1.cellp HAK.out.2.1; have d2 := hSw.1.cellp HAK.out.2.2.1; have d3 := hSw.1.cellp HAK.out.2.2.2.1; have d4 := hSw.1.cellp HAK.out.2.2.2.2; clear hSw; go_simp; (try with_reducible rfl))
          (try simp only [Act.put, List.setIfInBounds_toArray, List.set_cons_zero, List.set_cons_succ])
          refine wpAnyH_done (by kernel_rfl) ?_ _
          clear hHeld
          obtain ⟨tb, cap, l, nn, rf, nd, n2, nd2, M, lev, hj, hl1, hM1, hcs⟩ := HL2.out
          have y4 := hj.pl.c4
          obtain ⟨m, hml⟩ : ∃ m, m = l.length := ⟨_, rfl⟩
          rw [← hml] at y4
          have HMM := hidMk (show 1 ≤ m ∧ m ≤ 60 from by have := hj.fs.1; omega)
          have hwm : wrap64 ((m : Int) - 1) = (m : Int) - 1 := wrap_fit (by have := HMM.out; omega) (by have := HMM.out; omega)
          have HPK := hidMk (fun z => js_pick hj (by omega) z)
          have HAL := hidMk (fun X (kX : Kept w2 X) (j : Nat) (h1 : j < l.length) (h2 : 0 < (l.getD j (0, 0)).2) => js_alike (hj.keep kX) (by omega) (by have := HCD.out.2; omega) h1 h2)
          clear hj hl1 hM1 hcs hml
          go_wp2_with fail
          refine (HPK.out _).mono ?_
          rintro e w3 ⟨k1, rfl, hk1m, hk1p, kk3⟩
          have HA2 := hidMk (HAL.out w3 kk3 k1 hk1m hk1p)
          have HL3 := hidMk (HL2.out.keep kk3)
          clear kk3 hk1m hk1p HPK HAL HL2 y4 hwm
          go_wp2_with fail
          refine HA2.out.mono ?_
          rintro e w4 ⟨rfl, k4⟩
          have HL4 := hidMk (HL3.out.keep k4)
          clear k4 HA2 HL3
          go_wp2_with fail
          go_roundg (gk - 1)
          case measure => have := HG.out; omega
          case rel => exact ⟨k + 1, by have := HG.out; omega, by omega, by go_num, HL4⟩
        · have hk2 : ¬ ((k : Int) < 40) := by omega
          have hk1 : (k : Int) < n := by omega
          clear hk6 hkn hkg
          have HKL := hidMk HL.out.kept
          clear HL HDOX
          go_wp2_with fail
          refine (HKN.out _ HKL.out).mono ?_
          rintro e w20 ⟨rfl, k20⟩
          have HK20 := hidMk (HKL.out.trans k20)
          go_wp2_with fail
          go_ret
          exact ⟨rfl, HK20.out⟩
      · have hk1 : ¬ ((k : Int) < n) := by omega
        clear hkn hkg
        have HKL := hidMk HL.out.kept
        clear HL HDOX
        go_wp2_with fail
        refine (HKN.out _ HKL.out).mono ?_
        rintro e w20 ⟨rfl, k20⟩
        have HK20 := hidMk (HKL.out.trans k20)
        go_wp2_with fail
        go_ret
        exact ⟨rfl, HK20.out⟩
  · have HBG := hidMk (l10_beginBad room cd w (fun e => hok ⟨e.1, e.2.1, e.2.2.1⟩))
    clear hok hb
    go_enter Tryd.func4, Tryd.ntmps4
    go_wp2_with fail
    refine HBG.out.mono ?_
    rintro e w1 ⟨rfl, k1⟩
    have HK1 := hidMk k1
    clear hw hcd
    go_wp2_with fail
    refine (HKN.out _ HK1.out).mono ?_
    rintro e w20 ⟨rfl, k20⟩
    have HK20 := hidMk (HK1.out.trans k20)
    go_wp2_with fail
    go_ret
    exact ⟨rfl, HK20.out⟩
end Go.Proofs.YtjkbhaplngnniaaDoor
