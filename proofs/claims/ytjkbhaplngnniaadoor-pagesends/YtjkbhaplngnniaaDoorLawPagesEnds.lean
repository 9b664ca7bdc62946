/- PagesEnds: when each root that was told, and kept, is dropped as often, the arena has no nodes. -/
import Derived.Test.YtjkbhaplngnniaaDoorPg20
namespace Go.Proofs.YtjkbhaplngnniaaDoor
open Go.RowKit Go.Maps
set_option linter.unusedSimpArgs false
set_option linter.unusedVariables false

set_option maxHeartbeats 16000000 in
set_option maxRecDepth 100000 in
theorem law_PagesEnds (room codes : Int) (a : Option Addr) (n c : Nat) (f : Nat → AcP) (w : World) (hA : AcsP w a n f) (hV : Vars w) : Calls Tryd.prog 7 #[.int .i64 room, .int .i64 codes, .slice a n c] w fun e w' => e = .returned (.bool true) ∧ Kept w w' := by
  have HV := hidMk hV
  have HAC := hidMk hA
  have HKN := hidMk (fun W (h : Kept w W) => l10_known W (hV.kept h))
  obtain ⟨cd, hcd⟩ : ∃ r, codes.tmod 70 = r := ⟨_, rfl⟩
  have hb : -70 < cd ∧ cd < 70 := by have := tmod_bound codes (m := 70) (by omega); rw [← hcd]; exact this
  have hw : wrap64 cd = cd := wrap_fit (by omega) (by omega)
  clear hV hA
  by_cases hok : 1 ≤ room ∧ room ≤ 20000 ∧ 1 ≤ cd
  · obtain ⟨o1, o2, o3⟩ := hok
    have HBG := hidMk (l10_begin room cd w o1 o2 o3 (by omega))
    have HO1 := hidMk o1
    clear o1 o2 o3
    go_enter Tryd.func7, Tryd.ntmps7
    go_wp2_with fail
    refine HBG.out.mono ?_
    rintro e w1 ⟨t, g, p, q, tb0, rfl, hbeg⟩
    have HL1 := hidMk (lp_begin hbeg HO1.out)
    clear hbeg HBG hw hcd hb
    go_wp2_with fail
    go_loopg [8] 42 (fun gg x wr => ∃ k : Nat, k + gg = 42 ∧ k ≤ 40 ∧ x = .int .i64 k ∧ Hid (LP w wr t g p q cd room k))
    case atStart => exact ⟨0, by omega, by omega, rfl, HL1⟩
    case round =>
      clear HL1
      obtain ⟨k, hkg, hk4, rfl, HL⟩ := hrel
      have HDOX := hidMk (show ∀ x : AcP, k ≤ 50 → Calls Tryd.prog 17 #[.pointer (some ⟨t, 0, none⟩), .agg #[.int .i64 x.kd, .int .i64 x.of, .int .i64 x.cd, .int .i64 x.v, .bool x.hd]] wr fun e w' => e = .returned (.bool true) ∧ LP w w' t g p q cd room (k + 1) from fun x hk => lp_do HV.out HL.out hk x)
      by_cases hkn : k < n
      · by_cases hk6 : k < 40
        · have hk1 : (k : Int) < n := by omega
          have hk2 : (k : Int) < 40 := by omega
          obtain ⟨ba, off, rfl, hra⟩ := acsP_at HAC.out hkn
          have hr := HL.out.kept.range hra
          have c0 : wr.cell? ⟨ba, off + k * 5, none⟩ = some (.int .i64 (f k).kd) := by have := hr 0 _ rfl; simpa using this
          have c1 : wr.cell? ⟨ba, off + k * 5 + 1, none⟩ = some (.int .i64 (f k).of) := hr 1 _ rfl
          have c2 : wr.cell? ⟨ba, off + k * 5 + 2, none⟩ = some (.int .i64 (f k).cd) := hr 2 _ rfl
          have c3 : wr.cell? ⟨ba, off + k * 5 + 3, none⟩ = some (.int .i64 (f k).v) := hr 3 _ rfl
          have c4 : wr.cell? ⟨ba, off + k * 5 + 4, none⟩ = some (.bool (f k).hd) := hr 4 _ rfl
          have HDO := hidMk (HDOX.out (f k) (by omega))
          generalize (f k).kd = z0 at *
          generalize (f k).of = z1 at *
          generalize (f k).cd = z2 at *
          generalize (f k).v = z3 at *
          generalize (f k).hd = z4 at *
          have HG := hidMk hkg
          clear hr hra hkg hkn HDOX HL
          go_wp2_with fail
          refine HDO.out.mono ?_
          rintro e w2 ⟨rfl, hl2⟩
          have HL2 := hidMk hl2
          clear hl2 HDO c0 c1 c2 c3 c4
          go_wp2_with fail
          go_roundg (gk - 1)
          case measure => have := HG.out; omega
          case rel => exact ⟨k + 1, by have := HG.out; omega, by omega, by go_num, HL2⟩
        · have hk2 : ¬ ((k : Int) < 40) := by omega
          have hk1 : (k : Int) < n := by omega
          clear hk6 hkn hkg
          obtain ⟨tb, cap, l, nn, rf, nd, n2, nd2, M, lev, hj, hl1, hM1, hcs⟩ := HL.out
          have HE0 := hidMk hj.es
          have HFS := hidMk hj.fs
          have HCS := hidMk (show ∀ j, (l.getD j (0, 0)).2 ≤ 60 from fun j => by have := hcs j; omega)
          obtain ⟨m, hml⟩ : ∃ m, m = l.length := ⟨_, rfl⟩
          have hm6 : m ≤ 60 := by omega
          have hm1 : 1 ≤ m := by have := hj.fs.1; omega
          have HML := hidMk hml
          clear hj hl1 hM1 hcs hml HL HDOX
          go_wp2_with fail
          go_loopg [9] (m + 1) (fun gg x wr => ∃ (k : Nat) (l2 : List (Int × Int)) (r : Int → Nat), k + gg = m + 2 ∧ 1 ≤ k ∧ k ≤ m ∧ x = .int .i64 k ∧ Hid (l2.length = m ∧ (∀ j, (l2.getD j (0, 0)).2 ≤ 60) ∧ (∀ j, 1 ≤ j → j < k → (l2.getD j (0, 0)).2 = 0) ∧ ES w wr t g p q tb cap cd room l2 nn r nd n2 rf nd2 M lev))
          case atStart => exact ⟨1, l, rf, by omega, by omega, by omega, rfl, hidMk ⟨HML.out.symm, HCS.out, fun j h1 h2 => absurd h1 (by omega), HE0.out⟩⟩
          case round =>
            clear HE0 HFS HCS HML
            obtain ⟨k, l2, r, hkg, hk1, hkm, rfl, HQ⟩ := hrel
            obtain ⟨G, HG⟩ : ∃ G, Hid (G = gk ∧ k + G = m + 2) := ⟨gk, hidMk ⟨rfl, hkg⟩⟩
            have y4 : wr.cell? ⟨t, 4, none⟩ = some (.slice (some ⟨tb, 0, none⟩) m cap) := by have := HQ.out.2.2.2.pl.c4; rw [HQ.out.1] at this; exact this
            by_cases hk : k < m
            · have hk' : (k : Int) < (m : Int) := by omega
              clear hkg
              go_wp2_with fail
              clear y4
              go_loopg [] 100 (fun gg wr => ∃ (l3 : List (Int × Int)) (r3 : Int → Nat), Hid (l3.length = m ∧ (∀ j, (l3.getD j (0, 0)).2 ≤ 60) ∧ (∀ j, 1 ≤ j → j < k → (l3.getD j (0, 0)).2 = 0) ∧ ES w wr t g p q tb cap cd room l3 nn r3 nd n2 rf nd2 M lev) ∧ Hid ((l3.getD k (0, 0)).2 < (gg : Int)))
              case atStart => exact ⟨l2, r, HQ, hidMk (by have := HQ.out.2.1 k; omega)⟩
              case round =>
                clear HQ
                obtain ⟨l3, r3, HQ, HLT⟩ := hrel
                have hlen := HQ.out.1
                have hes := HQ.out.2.2.2
                have y4 : wr.cell? ⟨t, 4, none⟩ = some (.slice (some ⟨tb, 0, none⟩) m cap) := by have := hes.pl.c4; rw [hlen] at this; exact this
                obtain ⟨q1, q2, q3⟩ := hes.cells (k := k) (by omega)
                obtain ⟨cc, hcc⟩ : ∃ x, x = (l3.getD k (0, 0)).2 := ⟨_, rfl⟩
                by_cases hpos : 0 < cc
                · obtain ⟨r4, hcall, hiv⟩ := es_drop hes (k := k) (by omega) (by rw [← hcc]; exact hpos) ((Kept.refl wr).drew)
                  obtain ⟨x, hx⟩ : ∃ x, x = (l3.getD k (0, 0)).1 := ⟨_, rfl⟩
                  have HCL := hidMk (show wr.cell? ⟨t, 0, none⟩ = some (.pointer (some ⟨g, 0, none⟩)) ∧ wr.cell? ⟨t, 4, none⟩ = some (.slice (some ⟨tb, 0, none⟩) m cap) ∧ wr.cell? ⟨tb, k * 3, none⟩ = some (.int .i64 x) from ⟨hes.pl.c0, y4, by rw [hx]; exact q1⟩)
                  have HDR := hidMk hcall
                  rw [← hx] at HDR
                  rw [← hcc] at q3
                  have hcb : cc ≤ 60 := by rw [hcc]; exact HQ.out.2.1 k
                  have HIV := hidMk hiv
                  have HXC := hidMk (And.intro hx hcc)
                  have HES := hidMk hes
                  have HLT2 := hidMk (show cc - 1 < ((gk - 1 : Nat) : Int) ∧ 1 ≤ gk from by have := HLT.out; rw [← hcc] at this; omega)
                  have HQ3 := hidMk q3
                  clear hx hcc hes hcall hiv q1 q2 hlen HLT
                  go_upto_region 13 with fail
                  clear q3 y4
                  refine wp_region_held_drew (S := (fun w' => w'.cell? ⟨t, 0, none⟩ = some (.pointer (some ⟨g, 0, none⟩)) ∧ w'.cell? ⟨t, 4, none⟩ = some (.slice (some ⟨tb, 0, none⟩) m cap) ∧ w'.cell? ⟨tb, k * 3, none⟩ = some (.int .i64 x))) (by kernel_rfl) ?_ (fun hHeld => ?_)
                  · exact ⟨((Kept.refl wr).drew).cellp HCL.out.1, ((Kept.refl wr).drew).cellp HCL.out.2.1, ((Kept.refl wr).drew).cellp HCL.out.2.2⟩
                  refine wpAnyH_take (i := 0) (oi := { dst := some 52, op := _, type := _, pos := _, after := _, guard := _ }) (v := ?_) rfl (by kernel_rfl) (by kernel_rfl) (by kernel_rfl) (fun _ _ _ h => h) (Or.inl ⟨by rfl, ?_⟩) (by assumption) ?_
                  rotate_left
                  · (intro w hSw; obtain ⟨s0, s1, s2⟩ := hSw; go_simp; (try with_reducible rfl))
                  (try simp only [Act.put, List.setIfInBounds_toArray, List.set_cons_zero, List.set_cons_succ])
                  refine wpAnyH_take (i := 1) (oi := { dst := some 53, op := _, type := _, pos := _, after := _, guard := _ }) (v := ?_) rfl (by kernel_rfl) (by kernel_rfl) (by kernel_rfl) (fun _ _ _ h => h) (Or.inl ⟨by rfl, ?_⟩) (by assumption) ?_
                  rotate_left
                  · (intro w hSw; obtain ⟨s0, s1, s2⟩ := hSw; go_simp; (try with_reducible rfl))
                  (try simp only [Act.put, List.setIfInBounds_toArray, List.set_cons_zero, List.set_cons_succ])
                  refine wpAnyH_take (i := 2) (oi := { dst := some 54, op := _, type := _, pos := _, after := _, guard := _ }) (v := ?_) rfl (by kernel_rfl) (by kernel_rfl) (by kernel_rfl) (fun _ _ _ h => h) (Or.inl ⟨by rfl, ?_⟩) (by assumption) ?_
                  rotate_left
                  · (intro w hSw; obtain ⟨s0, s1, s2⟩ := hSw; go_simp; (try with_reducible rfl))
                  (try simp only [Act.put, List.setIfInBounds_toArray, List.set_cons_zero, List.set_cons_succ])
                  refine wpAnyH_take (i := 3) (oi := { dst := some 55, op := _, type := _, pos := _, after := _, guard := _ }) (v := ?_) rfl (by kernel_rfl) (by kernel_rfl) (by kernel_rfl) (fun _ _ _ h => h) (Or.inl ⟨by rfl, ?_⟩) (by assumption) ?_
                  rotate_left
                  · (intro w hSw; obtain ⟨s0, s1, s2⟩ := hSw; go_simp; (try with_reducible rfl))
                  (try simp only [Act.put, List.setIfInBounds_toArray, List.set_cons_zero, List.set_cons_succ])
                  refine wpAnyH_take (i := 4) (oi := { dst := some 56, op := _, type := _, pos := _, after := _, guard := _ }) (v := ?_) rfl (by kernel_rfl) (by kernel_rfl) (by kernel_rfl) (fun _ _ _ h => h) (Or.inl ⟨by rfl, ?_⟩) (by assumption) ?_
                  rotate_left
                  · (intro w hSw; obtain ⟨s0, s1, s2⟩ := hSw; go_simp; (try with_reducible rfl))
                  (try simp only [Act.put, List.setIfInBounds_toArray, List.set_cons_zero, List.set_cons_succ])
                  refine wpAnyH_take (i := 5) (oi := { dst := some 57, op := _, type := _, pos := _, after := _, guard := _ }) (v := ?_) rfl (by kernel_rfl) (by kernel_rfl) (by kernel_rfl) (fun _ _ _ h => h) (Or.inl ⟨by rfl, ?_⟩) (by assumption) ?_
                  rotate_left
                  · (intro w hSw; obtain ⟨s0, s1, s2⟩ := hSw; go_simp; (try with_reducible rfl))
                  (try simp only [Act.put, List.setIfInBounds_toArray, List.set_cons_zero, List.set_cons_succ])
                  refine wpAnyH_take (i := 6) (oi := { dst := some 58, op := _, type := _, pos := _, after := _, guard := _ }) (v := ?_) rfl (by kernel_rfl) (by kernel_rfl) (by kernel_rfl) (fun _ _ _ h => h) (Or.inl ⟨by rfl, ?_⟩) (by assumption) ?_
                  rotate_left
                  · (intro w hSw; obtain ⟨s0, s1, s2⟩ := hSw; go_simp; (try with_reducible rfl))
                  (try simp only [Act.put, List.setIfInBounds_toArray, List.set_cons_zero, List.set_cons_succ])
                  refine wpAnyH_take (i := 7) (oi := { dst := some 59, op := _, type := _, pos := _, after := _, guard := _ }) (v := ?_) rfl (by kernel_rfl) (by kernel_rfl) (by kernel_rfl) (fun _ _ _ h => h) (Or.inl ⟨by rfl, ?_⟩) (by assumption) ?_
                  rotate_left
                  · (intro w hSw; obtain ⟨s0, s1, s2⟩ := hSw; go_simp; (try with_reducible rfl))
                  (try simp only [Act.put, List.setIfInBounds_toArray, List.set_cons_zero, List.set_cons_succ])
                  refine wpAnyH_take (i := 8) (oi := { dst := some 60, op := _, type := _, pos := _, after := _, guard := _ }) (v := ?_) rfl (by kernel_rfl) (by kernel_rfl) (by kernel_rfl) (fun _ _ _ h => h) (Or.inl ⟨by rfl, ?_⟩) (by assumption) ?_
                  rotate_left
                  · (intro w hSw; obtain ⟨s0, s1, s2⟩ := hSw; go_simp; (try with_reducible rfl))
                  (try simp only [Act.put, List.setIfInBounds_toArray, List.set_cons_zero, List.set_cons_succ])
                  refine wpAnyH_take (i := 9) (oi := { dst := some 61, op := _, type := _, pos := _, after := _, guard := _ }) (v := ?_) rfl (by kernel_rfl) (by kernel_rfl) (by kernel_rfl) (fun _ _ _ h => h) (Or.inl ⟨by rfl, ?_⟩) (by assumption) ?_
                  rotate_left
                  · (intro w hSw; obtain ⟨s0, s1, s2⟩ := hSw; go_simp; (try with_reducible rfl))
                  (try simp only [Act.put, List.setIfInBounds_toArray, List.set_cons_zero, List.set_cons_succ])
                  refine wpAnyH_take (i := 10) (oi := { dst := some 62, op := _, type := _, pos := _, after := _, guard := _ }) (v := ?_) rfl (by kernel_rfl) (by kernel_rfl) (by kernel_rfl) (fun _ _ _ h => h) (Or.inl ⟨by rfl, ?_⟩) (by assumption) ?_
                  rotate_left
                  · (intro w hSw; obtain ⟨s0, s1, s2⟩ := hSw; go_simp; (try with_reducible rfl))
                  (try simp only [Act.put, List.setIfInBounds_toArray, List.set_cons_zero, List.set_cons_succ])
                  refine wpAnyH_take (i := 11) (oi := { dst := some 63, op := _, type := _, pos := _, after := _, guard := _ }) (v := ?_) rfl (by kernel_rfl) (by kernel_rfl) (by kernel_rfl) (fun _ _ _ h => h) (Or.inl ⟨by rfl, ?_⟩) (by assumption) ?_
                  rotate_left
                  · (intro w hSw; obtain ⟨s0, s1, s2⟩ := hSw; go_simp; (try with_reducible rfl))
                  (try simp only [Act.put, List.setIfInBounds_toArray, List.set_cons_zero, List.set_cons_succ])
                  refine wpAnyH_ready (rs := [12]) (by kernel_rfl) (by simp) ?_
                  refine AllReadyH.cons (o := { dst := some 64, op := _, type := _, pos := _, after := _, guard := _ }) rfl (fun K hK => ?_) AllReadyH.nil
                  go_simp
                  refine HDR.out.mono ?_
                  rintro e wK ⟨rfl, hbK, hxK⟩
                  have HBK := hidMk hbK
                  have HXK := hidMk hxK
                  clear hbK hxK
                  (try go_wp2_with fail)
                  refine hK.out _ _ ?_ (fun hHeld => ?_)
                  · exact ⟨HXK.out.cell (.inr (.inl rfl)) HCL.out.1, HXK.out.cell (.inr (.inl rfl)) HCL.out.2.1, HXK.out.cell (.inr (.inr rfl)) HCL.out.2.2⟩
                  clear hK K
                  (try simp only [Act.put, List.setIfInBounds_toArray, List.set_cons_zero, List.set_cons_succ])
                  refine wpAnyH_take (i := 13) (oi := { dst := some 65, op := _, type := _, pos := _, after := _, guard := _ }) (v := ?_) rfl (by kernel_rfl) (by kernel_rfl) (by kernel_rfl) (fun _ _ _ h => h) (Or.inl ⟨by rfl, ?_⟩) (by assumption) ?_
                  rotate_left
                  · (intro w hSw; obtain ⟨s0, s1, s2⟩ := hSw; go_simp; (try with_reducible rfl))
                  (try simp only [Act.put, List.setIfInBounds_toArray, List.set_cons_zero, List.set_cons_succ])
                  refine wpAnyH_done (by kernel_rfl) ?_ _
                  clear hHeld
                  have s4 : wK.cell? ⟨t, 4, none⟩ = some (.slice (some ⟨tb, 0, none⟩) m cap) := HXK.out.cell (.inr (.inl rfl)) HCL.out.2.1
                  have s3 : wK.cell? ⟨tb, k * 3 + 2, none⟩ = some (.int .i64 cc) := HXK.out.cell (.inr (.inr rfl)) HQ3.out
                  have sf : wK.frozen? ⟨tb, k * 3 + 2, none⟩ = false := by
                    have e2 : wK.frozen? ⟨tb, k * 3 + 2, none⟩ = wr.frozen? ⟨tb, k * 3 + 2, none⟩ := by simp only [World.frozen?, HXK.out tb (.inr (.inr rfl))]
                    rw [e2]; exact HES.out.frozen _
                  have hwc : wrap64 (cc - 1) = cc - 1 := wrap_fit (by omega) (by omega)
                  have HCB := hidMk (And.intro hpos hcb)
                  have HS5 := hidMk (show ∀ u : Value, (wK.setCell ⟨tb, k * 3 + 2, none⟩ u).drew.cell? ⟨t, 4, none⟩ = some (.slice (some ⟨tb, 0, none⟩) m cap) from fun u => ((Kept.refl _).drew).cellp (by rw [World.cell?_setCell_other _ _ _ _ (by simp [Ne.symm HES.out.d1])]; exact s4))
                  have HFIN := hidMk (show ES w (wK.setCell ⟨tb, k * 3 + 2, none⟩ (.int .i64 (cc - 1))).drew t g p q tb cap cd room (l3.set k ((l3.getD k (0, 0)).1, cc - 1)) nn r4 nd n2 rf nd2 M lev from by
                    refine ES.keep (W := wK.setCell ⟨tb, k * 3 + 2, none⟩ (.int .i64 (cc - 1))) ?_ ((Kept.refl _).drew)
                    exact HES.out.stored (by rw [HQ.out.1]; exact hk) (cc - 1) HBK.out HXK.out (by have := HIV.out; rw [← HXC.out.2] at this; exact this) (by omega))
                  clear HCL HDR HQ3 HIV HES HBK HXK
                  go_upto_region 15 with fail
                  refine wp_region_held_drew (S := (fun w' => w'.cell? ⟨t, 4, none⟩ = some (.slice (some ⟨tb, 0, none⟩) m cap))) (by kernel_rfl) ?_ (fun hHeld => ?_)
                  · exact ((Kept.refl wK).drew).cellp s4
                  refine wpAnyH_take (i := 0) (oi := { dst := some 66, op := _, type := _, pos := _, after := _, guard := _ }) (v := ?_) rfl (by kernel_rfl) (by kernel_rfl) (by kernel_rfl) (fun _ _ _ h => h) (Or.inl ⟨by rfl, ?_⟩) (by assumption) ?_
                  rotate_left
                  · (intro w hSw; go_simp; (try with_reducible rfl))
                  (try simp only [Act.put, List.setIfInBounds_toArray, List.set_cons_zero, List.set_cons_succ])
                  refine wpAnyH_take (i := 1) (oi := { dst := some 67, op := _, type := _, pos := _, after := _, guard := _ }) (v := ?_) rfl (by kernel_rfl) (by kernel_rfl) (by kernel_rfl) (fun _ _ _ h => h) (Or.inl ⟨by rfl, ?_⟩) (by assumption) ?_
                  rotate_left
                  · (intro w hSw; go_simp; (try with_reducible rfl))
                  (try simp only [Act.put, List.setIfInBounds_toArray, List.set_cons_zero, List.set_cons_succ])
                  refine wpAnyH_take (i := 2) (oi := { dst := some 68, op := _, type := _, pos := _, after := _, guard := _ }) (v := ?_) rfl (by kernel_rfl) (by kernel_rfl) (by kernel_rfl) (fun _ _ _ h => h) (Or.inl ⟨by rfl, ?_⟩) (by assumption) ?_
                  rotate_left
                  · (intro w hSw; go_simp; (try with_reducible rfl))
                  (try simp only [Act.put, List.setIfInBounds_toArray, List.set_cons_zero, List.set_cons_succ])
                  refine wpAnyH_take (i := 3) (oi := { dst := some 69, op := _, type := _, pos := _, after := _, guard := _ }) (v := ?_) rfl (by kernel_rfl) (by kernel_rfl) (by kernel_rfl) (fun _ _ _ h => h) (Or.inl ⟨by rfl, ?_⟩) (by assumption) ?_
                  rotate_left
                  · (intro w hSw; go_simp; (try with_reducible rfl))
                  (try simp only [Act.put, List.setIfInBounds_toArray, List.set_cons_zero, List.set_cons_succ])
                  refine wpAnyH_take (i := 4) (oi := { dst := some 70, op := _, type := _, pos := _, after := _, guard := _ }) (v := ?_) rfl (by kernel_rfl) (by kernel_rfl) (by kernel_rfl) (fun _ _ _ h => h) (Or.inl ⟨by rfl, ?_⟩) (by assumption) ?_
                  rotate_left
                  · (intro w hSw; go_simp; (try with_reducible rfl))
                  (try simp only [Act.put, List.setIfInBounds_toArray, List.set_cons_zero, List.set_cons_succ])
                  refine wpAnyH_take (i := 5) (oi := { dst := some 71, op := _, type := _, pos := _, after := _, guard := _ }) (v := ?_) rfl (by kernel_rfl) (by kernel_rfl) (by kernel_rfl) (fun _ _ _ h => h) (Or.inl ⟨by rfl, ?_⟩) (by assumption) ?_
                  rotate_left
                  · (intro w hSw; go_simp; (try with_reducible rfl))
                  (try simp only [Act.put, List.setIfInBounds_toArray, List.set_cons_zero, List.set_cons_succ])
                  refine wpAnyH_take (i := 6) (oi := { dst := some 72, op := _, type := _, pos := _, after := _, guard := _ }) (v := ?_) rfl (by kernel_rfl) (by kernel_rfl) (by kernel_rfl) (fun _ _ _ h => h) (Or.inl ⟨by rfl, ?_⟩) (by assumption) ?_
                  rotate_left
                  · (intro w hSw; go_simp; (try with_reducible rfl))
                  (try simp only [Act.put, List.setIfInBounds_toArray, List.set_cons_zero, List.set_cons_succ])
                  refine wpAnyH_take (i := 7) (oi := { dst := some 73, op := _, type := _, pos := _, after := _, guard := _ }) (v := ?_) rfl (by kernel_rfl) (by kernel_rfl) (by kernel_rfl) (fun _ _ _ h => h) (Or.inl ⟨by rfl, ?_⟩) (by assumption) ?_
                  rotate_left
                  · (intro w hSw; go_simp; (try with_reducible rfl))
                  (try simp only [Act.put, List.setIfInBounds_toArray, List.set_cons_zero, List.set_cons_succ])
                  refine wpAnyH_take (i := 8) (oi := { dst := some 74, op := _, type := _, pos := _, after := _, guard := _ }) (v := ?_) rfl (by kernel_rfl) (by kernel_rfl) (by kernel_rfl) (fun _ _ _ h => h) (Or.inl ⟨by rfl, ?_⟩) (by assumption) ?_
                  rotate_left
                  · (intro w hSw; go_simp; (try with_reducible rfl))
                  (try simp only [Act.put, List.setIfInBounds_toArray, List.set_cons_zero, List.set_cons_succ])
                  refine wpAnyH_take (i := 9) (oi := { dst := some 75, op := _, type := _, pos := _, after := _, guard := _ }) (v := ?_) rfl (by kernel_rfl) (by kernel_rfl) (by kernel_rfl) (fun _ _ _ h => h) (Or.inl ⟨by rfl, ?_⟩) (by assumption) ?_
                  rotate_left
                  · (intro w hSw; go_simp; (try with_reducible rfl))
                  (try simp only [Act.put, List.setIfInBounds_toArray, List.set_cons_zero, List.set_cons_succ])
                  refine wpAnyH_take (i := 10) (oi := { dst := some 76, op := _, type := _, pos := _, after := _, guard := _ }) (v := ?_) rfl (by kernel_rfl) (by kernel_rfl) (by kernel_rfl) (fun _ _ _ h => h) (Or.inl ⟨by rfl, ?_⟩) (by assumption) ?_
                  rotate_left
                  · (intro w hSw; go_simp; (try with_reducible rfl))
                  (try simp only [Act.put, List.setIfInBounds_toArray, List.set_cons_zero, List.set_cons_succ])
                  refine wpAnyH_take (i := 11) (oi := { dst := some 77, op := _, type := _, pos := _, after := _, guard := _ }) (v := ?_) rfl (by kernel_rfl) (by kernel_rfl) (by kernel_rfl) (fun _ _ _ h => h) (Or.inl ⟨by rfl, ?_⟩) (by assumption) ?_
                  rotate_left
                  · (intro w hSw; go_simp; (try with_reducible rfl))
                  (try simp only [Act.put, List.setIfInBounds_toArray, List.set_cons_zero, List.set_cons_succ])
                  refine wpAnyH_ready (rs := [12]) (by kernel_rfl) (by simp) ?_
                  refine AllReadyH.cons (o := { dst := some 78, op := _, type := _, pos := _, after := _, guard := _ }) rfl (fun K hK => ?_) AllReadyH.nil
                  go_simp
                  refine hK.out _ _ ?_ (fun hHeld => ?_)
                  · (first | assumption | exact HS5.out _)
                  clear hK K
                  (try simp only [Act.put, List.setIfInBounds_toArray, List.set_cons_zero, List.set_cons_succ])
                  refine wpAnyH_take (i := 13) (oi := { dst := some 79, op := _, type := _, pos := _, after := _, guard := _ }) (v := ?_) rfl (by kernel_rfl) (by kernel_rfl) (by kernel_rfl) (fun _ _ _ h => h) (Or.inl ⟨by rfl, ?_⟩) (by assumption) ?_
                  rotate_left
                  · (intro w hSw; go_simp; (try with_reducible rfl))
                  (try simp only [Act.put, List.setIfInBounds_toArray, List.set_cons_zero, List.set_cons_succ])
                  refine wpAnyH_take (i := 14) (oi := { dst := some 80, op := _, type := _, pos := _, after := _, guard := _ }) (v := ?_) rfl (by kernel_rfl) (by kernel_rfl) (by kernel_rfl) (fun _ _ _ h => h) (Or.inl ⟨by rfl, ?_⟩) (by assumption) ?_
                  rotate_left
                  · (intro w hSw; go_simp; (try with_reducible rfl))
                  (try simp only [Act.put, List.setIfInBounds_toArray, List.set_cons_zero, List.set_cons_succ])
                  refine wpAnyH_take (i := 15) (oi := { dst := some 81, op := _, type := _, pos := _, after := _, guard := _ }) (v := ?_) rfl (by kernel_rfl) (by kernel_rfl) (by kernel_rfl) (fun _ _ _ h => h) (Or.inl ⟨by rfl, ?_⟩) (by assumption) ?_
                  rotate_left
                  · (intro w hSw; go_simp; (try with_reducible rfl))
                  (try simp only [Act.put, List.setIfInBounds_toArray, List.set_cons_zero, List.set_cons_succ])
                  refine wpAnyH_ready (rs := [16]) (by kernel_rfl) (by simp) ?_
                  refine AllReadyH.cons (o := { dst := none, op := _, type := _, pos := _, after := _, guard := _ }) rfl (fun K hK => ?_) AllReadyH.nil
                  go_simp
                  refine hK.out _ _ ?_ (fun hHeld => ?_)
                  · (first | assumption | exact HS5.out _)
                  clear hK K
                  (try simp only [Act.put, List.setIfInBounds_toArray, List.set_cons_zero, List.set_cons_succ])
                  refine wpAnyH_done (by kernel_rfl) ?_ _
                  go_wp2_with fail
                  rw [show IntKind.i64.wrap (cc - 1) = cc - 1 from wrap_i (by have := HCB.out; omega) (by have := HCB.out; omega)]
                  go_roundg (gk - 1)
                  case measure => have := HLT2.out; omega
                  case rel =>
                    refine ⟨l3.set k ((l3.getD k (0, 0)).1, cc - 1), r4, hidMk ⟨by rw [List.length_set]; exact HQ.out.1, fun j => ?_, fun j h1 h2 => ?_, HFIN.out⟩, hidMk ?_⟩
                    · by_cases e : j = k
                      · subst e; rw [List.getD_eq_getElem?_getD, List.getElem?_set_self (by rw [HQ.out.1]; exact hk)]; have := HCB.out; show cc - 1 ≤ 60; omega
                      · rw [List.getD_eq_getElem?_getD, List.getElem?_set_ne (fun e' => e e'.symm), ← List.getD_eq_getElem?_getD]; exact HQ.out.2.1 j
                    · rw [List.getD_eq_getElem?_getD, List.getElem?_set_ne (by omega), ← List.getD_eq_getElem?_getD]; exact HQ.out.2.2.1 j h1 h2
                    · rw [List.getD_eq_getElem?_getD, List.getElem?_set_self (by rw [HQ.out.1]; exact hk)]; exact HLT2.out.1
                · rw [← hcc] at q3
                  have hz : (l3.getD k (0, 0)).2 = 0 := by have := hes.nn k; omega
                  have HZ := hidMk hz
                  clear hz hcc hes q1 q2 hlen HLT
                  go_wp2_with fail
                  go_roundg (G - 1)
                  case measure => have := HG.out; omega
                  case rel =>
                    refine ⟨k + 1, l3, r3, by have := HG.out; omega, by omega, by omega, by go_num, hidMk ⟨HQ.out.1, HQ.out.2.1, fun j h1 h2 => ?_, HQ.out.2.2.2⟩⟩
                    by_cases e : j = k
                    · rw [e]; exact HZ.out
                    · exact HQ.out.2.2.1 j h1 (by omega)
            · have hk' : ¬ ((k : Int) < (m : Int)) := by omega
              have hes := HQ.out.2.2.2
              have HAR := hidMk (pg_Arena hes.pg)
              have HUS := hidMk (es_Used hes (fun j h1 h2 => HQ.out.2.2.1 j h1 (by have := HQ.out.1; omega)))
              have HKS := hidMk hes.ba.kept
              have y0 := hes.pl.c0
              clear hes HQ hkg
              go_wp2_with fail
              refine HAR.out.mono ?_
              rintro e w15 ⟨rfl, rfl⟩
              go_wp2_with fail
              refine HUS.out.mono ?_
              rintro e w16 ⟨rfl, rfl⟩
              go_wp2_with fail
              refine (HKN.out _ HKS.out).mono ?_
              rintro e w20 ⟨rfl, k20⟩
              have HK20 := hidMk (HKS.out.trans k20)
              go_wp2_with fail
              go_ret
              exact ⟨rfl, HK20.out⟩
      · have hk1 : ¬ ((k : Int) < n) := by omega
        clear hkn hkg
        obtain ⟨tb, cap, l, nn, rf, nd, n2, nd2, M, lev, hj, hl1, hM1, hcs⟩ := HL.out
        have HE0 := hidMk hj.es
        have HFS := hidMk hj.fs
        have HCS := hidMk (show ∀ j, (l.getD j (0, 0)).2 ≤ 60 from fun j => by have := hcs j; omega)
        obtain ⟨m, hml⟩ : ∃ m, m = l.length := ⟨_, rfl⟩
        have hm6 : m ≤ 60 := by omega
        have hm1 : 1 ≤ m := by have := hj.fs.1; omega
        have HML := hidMk hml
        clear hj hl1 hM1 hcs hml HL HDOX
        go_wp2_with fail
        go_loopg [9] (m + 1) (fun gg x wr => ∃ (k : Nat) (l2 : List (Int × Int)) (r : Int → Nat), k + gg = m + 2 ∧ 1 ≤ k ∧ k ≤ m ∧ x = .int .i64 k ∧ Hid (l2.length = m ∧ (∀ j, (l2.getD j (0, 0)).2 ≤ 60) ∧ (∀ j, 1 ≤ j → j < k → (l2.getD j (0, 0)).2 = 0) ∧ ES w wr t g p q tb cap cd room l2 nn r nd n2 rf nd2 M lev))
        case atStart => exact ⟨1, l, rf, by omega, by omega, by omega, rfl, hidMk ⟨HML.out.symm, HCS.out, fun j h1 h2 => absurd h1 (by omega), HE0.out⟩⟩
        case round =>
          clear HE0 HFS HCS HML
          obtain ⟨k, l2, r, hkg, hk1, hkm, rfl, HQ⟩ := hrel
          obtain ⟨G, HG⟩ : ∃ G, Hid (G = gk ∧ k + G = m + 2) := ⟨gk, hidMk ⟨rfl, hkg⟩⟩
          have y4 : wr.cell? ⟨t, 4, none⟩ = some (.slice (some ⟨tb, 0, none⟩) m cap) := by have := HQ.out.2.2.2.pl.c4; rw [HQ.out.1] at this; exact this
          by_cases hk : k < m
          · have hk' : (k : Int) < (m : Int) := by omega
            clear hkg
            go_wp2_with fail
            clear y4
            go_loopg [] 100 (fun gg wr => ∃ (l3 : List (Int × Int)) (r3 : Int → Nat), Hid (l3.length = m ∧ (∀ j, (l3.getD j (0, 0)).2 ≤ 60) ∧ (∀ j, 1 ≤ j → j < k → (l3.getD j (0, 0)).2 = 0) ∧ ES w wr t g p q tb cap cd room l3 nn r3 nd n2 rf nd2 M lev) ∧ Hid ((l3.getD k (0, 0)).2 < (gg : Int)))
            case atStart => exact ⟨l2, r, HQ, hidMk (by have := HQ.out.2.1 k; omega)⟩
            case round =>
              clear HQ
              obtain ⟨l3, r3, HQ, HLT⟩ := hrel
              have hlen := HQ.out.1
              have hes := HQ.out.2.2.2
              have y4 : wr.cell? ⟨t, 4, none⟩ = some (.slice (some ⟨tb, 0, none⟩) m cap) := by have := hes.pl.c4; rw [hlen] at this; exact this
              obtain ⟨q1, q2, q3⟩ := hes.cells (k := k) (by omega)
              obtain ⟨cc, hcc⟩ : ∃ x, x = (l3.getD k (0, 0)).2 := ⟨_, rfl⟩
              by_cases hpos : 0 < cc
              · obtain ⟨r4, hcall, hiv⟩ := es_drop hes (k := k) (by omega) (by rw [← hcc]; exact hpos) ((Kept.refl wr).drew)
                obtain ⟨x, hx⟩ : ∃ x, x = (l3.getD k (0, 0)).1 := ⟨_, rfl⟩
                have HCL := hidMk (show wr.cell? ⟨t, 0, none⟩ = some (.pointer (some ⟨g, 0, none⟩)) ∧ wr.cell? ⟨t, 4, none⟩ = some (.slice (some ⟨tb, 0, none⟩) m cap) ∧ wr.cell? ⟨tb, k * 3, none⟩ = some (.int .i64 x) from ⟨hes.pl.c0, y4, by rw [hx]; exact q1⟩)
                have HDR := hidMk hcall
                rw [← hx] at HDR
                rw [← hcc] at q3
                have hcb : cc ≤ 60 := by rw [hcc]; exact HQ.out.2.1 k
                have HIV := hidMk hiv
                have HXC := hidMk (And.intro hx hcc)
                have HES := hidMk hes
                have HLT2 := hidMk (show cc - 1 < ((gk - 1 : Nat) : Int) ∧ 1 ≤ gk from by have := HLT.out; rw [← hcc] at this; omega)
                have HQ3 := hidMk q3
                clear hx hcc hes hcall hiv q1 q2 hlen HLT
                go_upto_region 13 with fail
                clear q3 y4
                refine wp_region_held_drew (S := (fun w' => w'.cell? ⟨t, 0, none⟩ = some (.pointer (some ⟨g, 0, none⟩)) ∧ w'.cell? ⟨t, 4, none⟩ = some (.slice (some ⟨tb, 0, none⟩) m cap) ∧ w'.cell? ⟨tb, k * 3, none⟩ = some (.int .i64 x))) (by kernel_rfl) ?_ (fun hHeld => ?_)
                · exact ⟨((Kept.refl wr).drew).cellp HCL.out.1, ((Kept.refl wr).drew).cellp HCL.out.2.1, ((Kept.refl wr).drew).cellp HCL.out.2.2⟩
                refine wpAnyH_take (i := 0) (oi := { dst := some 52, op := _, type := _, pos := _, after := _, guard := _ }) (v := ?_) rfl (by kernel_rfl) (by kernel_rfl) (by kernel_rfl) (fun _ _ _ h => h) (Or.inl ⟨by rfl, ?_⟩) (by assumption) ?_
                rotate_left
                · (intro w hSw; obtain ⟨s0, s1, s2⟩ := hSw; go_simp; (try with_reducible rfl))
                (try simp only [Act.put, List.setIfInBounds_toArray, List.set_cons_zero, List.set_cons_succ])
                refine wpAnyH_take (i := 1) (oi := { dst := some 53, op := _, type := _, pos := _, after := _, guard := _ }) (v := ?_) rfl (by kernel_rfl) (by kernel_rfl) (by kernel_rfl) (fun _ _ _ h => h) (Or.inl ⟨by rfl, ?_⟩) (by assumption) ?_
                rotate_left
                · (intro w hSw; obtain ⟨s0, s1, s2⟩ := hSw; go_simp; (try with_reducible rfl))
                (try simp only [Act.put, List.setIfInBounds_toArray, List.set_cons_zero, List.set_cons_succ])
                refine wpAnyH_take (i := 2) (oi := { dst := some 54, op := _, type := _, pos := _, after := _, guard := _ }) (v := ?_) rfl (by kernel_rfl) (by kernel_rfl) (by kernel_rfl) (fun _ _ _ h => h) (Or.inl ⟨by rfl, ?_⟩) (by assumption) ?_
                rotate_left
                · (intro w hSw; obtain ⟨s0, s1, s2⟩ := hSw; go_simp; (try with_reducible rfl))
                (try simp only [Act.put, List.setIfInBounds_toArray, List.set_cons_zero, List.set_cons_succ])
                refine wpAnyH_take (i := 3) (oi := { dst := some 55, op := _, type := _, pos := _, after := _, guard := _ }) (v := ?_) rfl (by kernel_rfl) (by kernel_rfl) (by kernel_rfl) (fun _ _ _ h => h) (Or.inl ⟨by rfl, ?_⟩) (by assumption) ?_
                rotate_left
                · (intro w hSw; obtain ⟨s0, s1, s2⟩ := hSw; go_simp; (try with_reducible rfl))
                (try simp only [Act.put, List.setIfInBounds_toArray, List.set_cons_zero, List.set_cons_succ])
                refine wpAnyH_take (i := 4) (oi := { dst := some 56, op := _, type := _, pos := _, after := _, guard := _ }) (v := ?_) rfl (by kernel_rfl) (by kernel_rfl) (by kernel_rfl) (fun _ _ _ h => h) (Or.inl ⟨by rfl, ?_⟩) (by assumption) ?_
                rotate_left
                · (intro w hSw; obtain ⟨s0, s1, s2⟩ := hSw; go_simp; (try with_reducible rfl))
                (try simp only [Act.put, List.setIfInBounds_toArray, List.set_cons_zero, List.set_cons_succ])
                refine wpAnyH_take (i := 5) (oi := { dst := some 57, op := _, type := _, pos := _, after := _, guard := _ }) (v := ?_) rfl (by kernel_rfl) (by kernel_rfl) (by kernel_rfl) (fun _ _ _ h => h) (Or.inl ⟨by rfl, ?_⟩) (by assumption) ?_
                rotate_left
                · (intro w hSw; obtain ⟨s0, s1, s2⟩ := hSw; go_simp; (try with_reducible rfl))
                (try simp only [Act.put, List.setIfInBounds_toArray, List.set_cons_zero, List.set_cons_succ])
                refine wpAnyH_take (i := 6) (oi := { dst := some 58, op := _, type := _, pos := _, after := _, guard := _ }) (v := ?_) rfl (by kernel_rfl) (by kernel_rfl) (by kernel_rfl) (fun _ _ _ h => h) (Or.inl ⟨by rfl, ?_⟩) (by assumption) ?_
                rotate_left
                · (intro w hSw; obtain ⟨s0, s1, s2⟩ := hSw; go_simp; (try with_reducible rfl))
                (try simp only [Act.put, List.setIfInBounds_toArray, List.set_cons_zero, List.set_cons_succ])
                refine wpAnyH_take (i := 7) (oi := { dst := some 59, op := _, type := _, pos := _, after := _, guard := _ }) (v := ?_) rfl (by kernel_rfl) (by kernel_rfl) (by kernel_rfl) (fun _ _ _ h => h) (Or.inl ⟨by rfl, ?_⟩) (by assumption) ?_
                rotate_left
                · (intro w hSw; obtain ⟨s0, s1, s2⟩ := hSw; go_simp; (try with_reducible rfl))
                (try simp only [Act.put, List.setIfInBounds_toArray, List.set_cons_zero, List.set_cons_succ])
                refine wpAnyH_take (i := 8) (oi := { dst := some 60, op := _, type := _, pos := _, after := _, guard := _ }) (v := ?_) rfl (by kernel_rfl) (by kernel_rfl) (by kernel_rfl) (fun _ _ _ h => h) (Or.inl ⟨by rfl, ?_⟩) (by assumption) ?_
                rotate_left
                · (intro w hSw; obtain ⟨s0, s1, s2⟩ := hSw; go_simp; (try with_reducible rfl))
                (try simp only [Act.put, List.setIfInBounds_toArray, List.set_cons_zero, List.set_cons_succ])
                refine wpAnyH_take (i := 9) (oi := { dst := some 61, op := _, type := _, pos := _, after := _, guard := _ }) (v := ?_) rfl (by kernel_rfl) (by kernel_rfl) (by kernel_rfl) (fun _ _ _ h => h) (Or.inl ⟨by rfl, ?_⟩) (by assumption) ?_
                rotate_left
                · (intro w hSw; obtain ⟨s0, s1, s2⟩ := hSw; go_simp; (try with_reducible rfl))
                (try simp only [Act.put, List.setIfInBounds_toArray, List.set_cons_zero, List.set_cons_succ])
                refine wpAnyH_take (i := 10) (oi := { dst := some 62, op := _, type := _, pos := _, after := _, guard := _ }) (v := ?_) rfl (by kernel_rfl) (by kernel_rfl) (by kernel_rfl) (fun _ _ _ h => h) (Or.inl ⟨by rfl, ?_⟩) (by assumption) ?_
                rotate_left
                · (intro w hSw; obtain ⟨s0, s1, s2⟩ := hSw; go_simp; (try with_reducible rfl))
                (try simp only [Act.put, List.setIfInBounds_toArray, List.set_cons_zero, List.set_cons_succ])
                refine wpAnyH_take (i := 11) (oi := { dst := some 63, op := _, type := _, pos := _, after := _, guard := _ }) (v := ?_) rfl (by kernel_rfl) (by kernel_rfl) (by kernel_rfl) (fun _ _ _ h => h) (Or.inl ⟨by rfl, ?_⟩) (by assumption) ?_
                rotate_left
                · (intro w hSw; obtain ⟨s0, s1, s2⟩ := hSw; go_simp; (try with_reducible rfl))
                (try simp only [Act.put, List.setIfInBounds_toArray, List.set_cons_zero, List.set_cons_succ])
                refine wpAnyH_ready (rs := [12]) (by kernel_rfl) (by simp) ?_
                refine AllReadyH.cons (o := { dst := some 64, op := _, type := _, pos := _, after := _, guard := _ }) rfl (fun K hK => ?_) AllReadyH.nil
                go_simp
                refine HDR.out.mono ?_
                rintro e wK ⟨rfl, hbK, hxK⟩
                have HBK := hidMk hbK
                have HXK := hidMk hxK
                clear hbK hxK
                (try go_wp2_with fail)
                refine hK.out _ _ ?_ (fun hHeld => ?_)
                · exact ⟨HXK.out.cell (.inr (.inl rfl)) HCL.out.1, HXK.out.cell (.inr (.inl rfl)) HCL.out.2.1, HXK.out.cell (.inr (.inr rfl)) HCL.out.2.2⟩
                clear hK K
                (try simp only [Act.put, List.setIfInBounds_toArray, List.set_cons_zero, List.set_cons_succ])
                refine wpAnyH_take (i := 13) (oi := { dst := some 65, op := _, type := _, pos := _, after := _, guard := _ }) (v := ?_) rfl (by kernel_rfl) (by kernel_rfl) (by kernel_rfl) (fun _ _ _ h => h) (Or.inl ⟨by rfl, ?_⟩) (by assumption) ?_
                rotate_left
                · (intro w hSw; obtain ⟨s0, s1, s2⟩ := hSw; go_simp; (try with_reducible rfl))
                (try simp only [Act.put, List.setIfInBounds_toArray, List.set_cons_zero, List.set_cons_succ])
                refine wpAnyH_done (by kernel_rfl) ?_ _
                clear hHeld
                have s4 : wK.cell? ⟨t, 4, none⟩ = some (.slice (some ⟨tb, 0, none⟩) m cap) := HXK.out.cell (.inr (.inl rfl)) HCL.out.2.1
                have s3 : wK.cell? ⟨tb, k * 3 + 2, none⟩ = some (.int .i64 cc) := HXK.out.cell (.inr (.inr rfl)) HQ3.out
                have sf : wK.frozen? ⟨tb, k * 3 + 2, none⟩ = false := by
                  have e2 : wK.frozen? ⟨tb, k * 3 + 2, none⟩ = wr.frozen? ⟨tb, k * 3 + 2, none⟩ := by simp only [World.frozen?, HXK.out tb (.inr (.inr rfl))]
                  rw [e2]; exact HES.out.frozen _
                have hwc : wrap64 (cc - 1) = cc - 1 := wrap_fit (by omega) (by omega)
                have HCB := hidMk (And.intro hpos hcb)
                have HS5 := hidMk (show ∀ u : Value, (wK.setCell ⟨tb, k * 3 + 2, none⟩ u).drew.cell? ⟨t, 4, none⟩ = some (.slice (some ⟨tb, 0, none⟩) m cap) from fun u => ((Kept.refl _).drew).cellp (by rw [World.cell?_setCell_other _ _ _ _ (by simp [Ne.symm HES.out.d1])]; exact s4))
                have HFIN := hidMk (show ES w (wK.setCell ⟨tb, k * 3 + 2, none⟩ (.int .i64 (cc - 1))).drew t g p q tb cap cd room (l3.set k ((l3.getD k (0, 0)).1, cc - 1)) nn r4 nd n2 rf nd2 M lev from by
                  refine ES.keep (W := wK.setCell ⟨tb, k * 3 + 2, none⟩ (.int .i64 (cc - 1))) ?_ ((Kept.refl _).drew)
                  exact HES.out.stored (by rw [HQ.out.1]; exact hk) (cc - 1) HBK.out HXK.out (by have := HIV.out; rw [← HXC.out.2] at this; exact this) (by omega))
                clear HCL HDR HQ3 HIV HES HBK HXK
                go_upto_region 15 with fail
                refine wp_region_held_drew (S := (fun w' => w'.cell? ⟨t, 4, none⟩ = some (.slice (some ⟨tb, 0, none⟩) m cap))) (by kernel_rfl) ?_ (fun hHeld => ?_)
                · exact ((Kept.refl wK).drew).cellp s4
                refine wpAnyH_take (i := 0) (oi := { dst := some 66, op := _, type := _, pos := _, after := _, guard := _ }) (v := ?_) rfl (by kernel_rfl) (by kernel_rfl) (by kernel_rfl) (fun _ _ _ h => h) (Or.inl ⟨by rfl, ?_⟩) (by assumption) ?_
                rotate_left
                · (intro w hSw; go_simp; (try with_reducible rfl))
                (try simp only [Act.put, List.setIfInBounds_toArray, List.set_cons_zero, List.set_cons_succ])
                refine wpAnyH_take (i := 1) (oi := { dst := some 67, op := _, type := _, pos := _, after := _, guard := _ }) (v := ?_) rfl (by kernel_rfl) (by kernel_rfl) (by kernel_rfl) (fun _ _ _ h => h) (Or.inl ⟨by rfl, ?_⟩) (by assumption) ?_
                rotate_left
                · (intro w hSw; go_simp; (try with_reducible rfl))
                (try simp only [Act.put, List.setIfInBounds_toArray, List.set_cons_zero, List.set_cons_succ])
                refine wpAnyH_take (i := 2) (oi := { dst := some 68, op := _, type := _, pos := _, after := _, guard := _ }) (v := ?_) rfl (by kernel_rfl) (by kernel_rfl) (by kernel_rfl) (fun _ _ _ h => h) (Or.inl ⟨by rfl, ?_⟩) (by assumption) ?_
                rotate_left
                · (intro w hSw; go_simp; (try with_reducible rfl))
                (try simp only [Act.put, List.setIfInBounds_toArray, List.set_cons_zero, List.set_cons_succ])
                refine wpAnyH_take (i := 3) (oi := { dst := some 69, op := _, type := _, pos := _, after := _, guard := _ }) (v := ?_) rfl (by kernel_rfl) (by kernel_rfl) (by kernel_rfl) (fun _ _ _ h => h) (Or.inl ⟨by rfl, ?_⟩) (by assumption) ?_
                rotate_left
                · (intro w hSw; go_simp; (try with_reducible rfl))
                (try simp only [Act.put, List.setIfInBounds_toArray, List.set_cons_zero, List.set_cons_succ])
                refine wpAnyH_take (i := 4) (oi := { dst := some 70, op := _, type := _, pos := _, after := _, guard := _ }) (v := ?_) rfl (by kernel_rfl) (by kernel_rfl) (by kernel_rfl) (fun _ _ _ h => h) (Or.inl ⟨by rfl, ?_⟩) (by assumption) ?_
                rotate_left
                · (intro w hSw; go_simp; (try with_reducible rfl))
                (try simp only [Act.put, List.setIfInBounds_toArray, List.set_cons_zero, List.set_cons_succ])
                refine wpAnyH_take (i := 5) (oi := { dst := some 71, op := _, type := _, pos := _, after := _, guard := _ }) (v := ?_) rfl (by kernel_rfl) (by kernel_rfl) (by kernel_rfl) (fun _ _ _ h => h) (Or.inl ⟨by rfl, ?_⟩) (by assumption) ?_
                rotate_left
                · (intro w hSw; go_simp; (try with_reducible rfl))
                (try simp only [Act.put, List.setIfInBounds_toArray, List.set_cons_zero, List.set_cons_succ])
                refine wpAnyH_take (i := 6) (oi := { dst := some 72, op := _, type := _, pos := _, after := _, guard := _ }) (v := ?_) rfl (by kernel_rfl) (by kernel_rfl) (by kernel_rfl) (fun _ _ _ h => h) (Or.inl ⟨by rfl, ?_⟩) (by assumption) ?_
                rotate_left
                · (intro w hSw; go_simp; (try with_reducible rfl))
                (try simp only [Act.put, List.setIfInBounds_toArray, List.set_cons_zero, List.set_cons_succ])
                refine wpAnyH_take (i := 7) (oi := { dst := some 73, op := _, type := _, pos := _, after := _, guard := _ }) (v := ?_) rfl (by kernel_rfl) (by kernel_rfl) (by kernel_rfl) (fun _ _ _ h => h) (Or.inl ⟨by rfl, ?_⟩) (by assumption) ?_
                rotate_left
                · (intro w hSw; go_simp; (try with_reducible rfl))
                (try simp only [Act.put, List.setIfInBounds_toArray, List.set_cons_zero, List.set_cons_succ])
                refine wpAnyH_take (i := 8) (oi := { dst := some 74, op := _, type := _, pos := _, after := _, guard := _ }) (v := ?_) rfl (by kernel_rfl) (by kernel_rfl) (by kernel_rfl) (fun _ _ _ h => h) (Or.inl ⟨by rfl, ?_⟩) (by assumption) ?_
                rotate_left
                · (intro w hSw; go_simp; (try with_reducible rfl))
                (try simp only [Act.put, List.setIfInBounds_toArray, List.set_cons_zero, List.set_cons_succ])
                refine wpAnyH_take (i := 9) (oi := { dst := some 75, op := _, type := _, pos := _, after := _, guard := _ }) (v := ?_) rfl (by kernel_rfl) (by kernel_rfl) (by kernel_rfl) (fun _ _ _ h => h) (Or.inl ⟨by rfl, ?_⟩) (by assumption) ?_
                rotate_left
                · (intro w hSw; go_simp; (try with_reducible rfl))
                (try simp only [Act.put, List.setIfInBounds_toArray, List.set_cons_zero, List.set_cons_succ])
                refine wpAnyH_take (i := 10) (oi := { dst := some 76, op := _, type := _, pos := _, after := _, guard := _ }) (v := ?_) rfl (by kernel_rfl) (by kernel_rfl) (by kernel_rfl) (fun _ _ _ h => h) (Or.inl ⟨by rfl, ?_⟩) (by assumption) ?_
                rotate_left
                · (intro w hSw; go_simp; (try with_reducible rfl))
                (try simp only [Act.put, List.setIfInBounds_toArray, List.set_cons_zero, List.set_cons_succ])
                refine wpAnyH_take (i := 11) (oi := { dst := some 77, op := _, type := _, pos := _, after := _, guard := _ }) (v := ?_) rfl (by kernel_rfl) (by kernel_rfl) (by kernel_rfl) (fun _ _ _ h => h) (Or.inl ⟨by rfl, ?_⟩) (by assumption) ?_
                rotate_left
                · (intro w hSw; go_simp; (try with_reducible rfl))
                (try simp only [Act.put, List.setIfInBounds_toArray, List.set_cons_zero, List.set_cons_succ])
                refine wpAnyH_ready (rs := [12]) (by kernel_rfl) (by simp) ?_
                refine AllReadyH.cons (o := { dst := some 78, op := _, type := _, pos := _, after := _, guard := _ }) rfl (fun K hK => ?_) AllReadyH.nil
                go_simp
                refine hK.out _ _ ?_ (fun hHeld => ?_)
                · (first | assumption | exact HS5.out _)
                clear hK K
                (try simp only [Act.put, List.setIfInBounds_toArray, List.set_cons_zero, List.set_cons_succ])
                refine wpAnyH_take (i := 13) (oi := { dst := some 79, op := _, type := _, pos := _, after := _, guard := _ }) (v := ?_) rfl (by kernel_rfl) (by kernel_rfl) (by kernel_rfl) (fun _ _ _ h => h) (Or.inl ⟨by rfl, ?_⟩) (by assumption) ?_
                rotate_left
                · (intro w hSw; go_simp; (try with_reducible rfl))
                (try simp only [Act.put, List.setIfInBounds_toArray, List.set_cons_zero, List.set_cons_succ])
                refine wpAnyH_take (i := 14) (oi := { dst := some 80, op := _, type := _, pos := _, after := _, guard := _ }) (v := ?_) rfl (by kernel_rfl) (by kernel_rfl) (by kernel_rfl) (fun _ _ _ h => h) (Or.inl ⟨by rfl, ?_⟩) (by assumption) ?_
                rotate_left
                · (intro w hSw; go_simp; (try with_reducible rfl))
                (try simp only [Act.put, List.setIfInBounds_toArray, List.set_cons_zero, List.set_cons_succ])
                refine wpAnyH_take (i := 15) (oi := { dst := some 81, op := _, type := _, pos := _, after := _, guard := _ }) (v := ?_) rfl (by kernel_rfl) (by kernel_rfl) (by kernel_rfl) (fun _ _ _ h => h) (Or.inl ⟨by rfl, ?_⟩) (by assumption) ?_
                rotate_left
                · (intro w hSw; go_simp; (try with_reducible rfl))
                (try simp only [Act.put, List.setIfInBounds_toArray, List.set_cons_zero, List.set_cons_succ])
                refine wpAnyH_ready (rs := [16]) (by kernel_rfl) (by simp) ?_
                refine AllReadyH.cons (o := { dst := none, op := _, type := _, pos := _, after := _, guard := _ }) rfl (fun K hK => ?_) AllReadyH.nil
                go_simp
                refine hK.out _ _ ?_ (fun hHeld => ?_)
                · (first | assumption | exact HS5.out _)
                clear hK K
                (try simp only [Act.put, List.setIfInBounds_toArray, List.set_cons_zero, List.set_cons_succ])
                refine wpAnyH_done (by kernel_rfl) ?_ _
                go_wp2_with fail
                rw [show IntKind.i64.wrap (cc - 1) = cc - 1 from wrap_i (by have := HCB.out; omega) (by have := HCB.out; omega)]
                go_roundg (gk - 1)
                case measure => have := HLT2.out; omega
                case rel =>
                  refine ⟨l3.set k ((l3.getD k (0, 0)).1, cc - 1), r4, hidMk ⟨by rw [List.length_set]; exact HQ.out.1, fun j => ?_, fun j h1 h2 => ?_, HFIN.out⟩, hidMk ?_⟩
                  · by_cases e : j = k
                    · subst e; rw [List.getD_eq_getElem?_getD, List.getElem?_set_self (by rw [HQ.out.1]; exact hk)]; have := HCB.out; show cc - 1 ≤ 60; omega
                    · rw [List.getD_eq_getElem?_getD, List.getElem?_set_ne (fun e' => e e'.symm), ← List.getD_eq_getElem?_getD]; exact HQ.out.2.1 j
                  · rw [List.getD_eq_getElem?_getD, List.getElem?_set_ne (by omega), ← List.getD_eq_getElem?_getD]; exact HQ.out.2.2.1 j h1 h2
                  · rw [List.getD_eq_getElem?_getD, List.getElem?_set_self (by rw [HQ.out.1]; exact hk)]; exact HLT2.out.1
              · rw [← hcc] at q3
                have hz : (l3.getD k (0, 0)).2 = 0 := by have := hes.nn k; omega
                have HZ := hidMk hz
                clear hz hcc hes q1 q2 hlen HLT
                go_wp2_with fail
                go_roundg (G - 1)
                case measure => have := HG.out; omega
                case rel =>
                  refine ⟨k + 1, l3, r3, by have := HG.out; omega, by omega, by omega, by go_num, hidMk ⟨HQ.out.1, HQ.out.2.1, fun j h1 h2 => ?_, HQ.out.2.2.2⟩⟩
                  by_cases e : j = k
                  · rw [e]; exact HZ.out
                  · exact HQ.out.2.2.1 j h1 (by omega)
          · have hk' : ¬ ((k : Int) < (m : Int)) := by omega
            have hes := HQ.out.2.2.2
            have HAR := hidMk (pg_Arena hes.pg)
            have HUS := hidMk (es_Used hes (fun j h1 h2 => HQ.out.2.2.1 j h1 (by have := HQ.out.1; omega)))
            have HKS := hidMk hes.ba.kept
            have y0 := hes.pl.c0
            clear hes HQ hkg
            go_wp2_with fail
            refine HAR.out.mono ?_
            rintro e w15 ⟨rfl, rfl⟩
            go_wp2_with fail
            refine HUS.out.mono ?_
            rintro e w16 ⟨rfl, rfl⟩
            go_wp2_with fail
            refine (HKN.out _ HKS.out).mono ?_
            rintro e w20 ⟨rfl, k20⟩
            have HK20 := hidMk (HKS.out.trans k20)
            go_wp2_with fail
            go_ret
            exact ⟨rfl, HK20.out⟩
  · have HBG := hidMk (l10_beginBad room cd w (fun e => hok ⟨e.1, e.2.1, e.2.2.1⟩))
    clear hok hb
    go_enter Tryd.func7, Tryd.ntmps7
    go_wp2_with fail
    refine HBG.out.mono ?_
    rintro e w1 ⟨rfl, k1⟩
    have HK1 := hidMk k1
    clear hw hcd
    go_wp2_with fail
    refine (HKN.out _ HK1.out).mono ?_
    rintro e w20 ⟨rfl, k20⟩
    have HK20 := hidMk (HK1.out.trans k20)
    go_wp2_with fail
    go_ret
    exact ⟨rfl, HK20.out⟩
end Go.Proofs.YtjkbhaplngnniaaDoor
