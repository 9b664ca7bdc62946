/- PagesDiffer: the codes whose entries are not the same in any two trees. -/
import Derived.Test.YtjkbhaplngnniaaDoorPg26
import Derived.Test.YtjkbhaplngnniaaDoorIntsR
namespace Go.Proofs.YtjkbhaplngnniaaDoor
open Go.RowKit Go.Maps
set_option linter.unusedSimpArgs false
set_option linter.unusedVariables false

set_option maxHeartbeats 16000000 in
set_option maxRecDepth 100000 in
theorem law_PagesDiffer (codes : Int) (a : Option Addr) (n c : Nat) (f : Nat → AcP) (a2 b2 : Int) (w : World) (hA : AcsP w a n f) (hV : Vars w) : Calls Tryd.prog 6 #[.int .i64 codes, .slice a n c, .int .i64 a2, .int .i64 b2] w fun e w' => e = .returned (.bool true) ∧ Kept w w' := by
  have HV := hidMk hV
  have HAC := hidMk hA
  have HKN := hidMk (fun W (h : Kept w W) => l10_known W (hV.kept h))
  obtain ⟨cd, hcd⟩ : ∃ r, codes.tmod 70 = r := ⟨_, rfl⟩
  have hb : -70 < cd ∧ cd < 70 := by have := tmod_bound codes (m := 70) (by omega); rw [← hcd]; exact this
  have hw : wrap64 cd = cd := wrap_fit (by omega) (by omega)
  clear hV hA
  by_cases hok : 1 ≤ (2000 : Int) ∧ (2000 : Int) ≤ 20000 ∧ 1 ≤ cd
  · obtain ⟨o1, o2, o3⟩ := hok
    have HBG := hidMk (l10_begin (2000 : Int) cd w o1 o2 o3 (by omega))
    have HO1 := hidMk o1
    have HCD := hidMk (And.intro o3 hb.2)
    clear o1 o2 o3
    go_enter Tryd.func6, Tryd.ntmps6
    go_wp2_with fail
    refine HBG.out.mono ?_
    rintro e w1 ⟨t, g, p, q, tb0, rfl, hbeg⟩
    have HL1 := hidMk (lp_begin hbeg HO1.out)
    clear hbeg HBG hw hcd hb
    go_wp2_with fail
    go_loopg [10] 42 (fun gg x wr => ∃ k : Nat, k + gg = 42 ∧ k ≤ 40 ∧ x = .int .i64 k ∧ Hid (LP w wr t g p q cd (2000 : Int) k))
    case atStart => exact ⟨0, by omega, by omega, rfl, HL1⟩
    case round =>
      clear HL1
      obtain ⟨k, hkg, hk4, rfl, HL⟩ := hrel
      have HDOX := hidMk (show ∀ x : AcP, k ≤ 50 → Calls Tryd.prog 17 #[.pointer (some ⟨t, 0, none⟩), .agg #[.int .i64 x.kd, .int .i64 x.of, .int .i64 x.cd, .int .i64 x.v, .bool x.hd]] wr fun e w' => e = .returned (.bool true) ∧ LP w w' t g p q cd (2000 : Int) (k + 1) from fun x hk => lp_do HV.out HL.out hk x)
      by_cases hkn : k < n
      · by_cases hk6 : k < 40
        · have hk1 : (k : Int) < n := by omega
          have hk2 : (k : Int) < 40 := by omega
          obtain ⟨ba, off, rfl, hra⟩ := acsP_at HAC.out hkn
          have hr := HL.out.kept.range hra
          have c0 : wr.cell? ⟨ba, off + k * 5, none⟩ = some (.int .i64 (f k).kd) := by have := hr 0 _ rfl; simpa using this
          have c1 : wr.cell? ⟨ba, off + k * 5 + 1, none⟩ = some (.int .i64 (f k).of) := hr 1 _ rfl
          have c2 : wr.cell? ⟨ba, off + k * 5 + 2, none⟩ = some (.int .i64 (f k).cd) := hr 2 _ rfl
          have c3 : wr.cell? ⟨ba, off + k * 5 + 3, none⟩ = some (.int .i64 (f k).v) := hr 3 _ rfl
          have c4 : wr.cell? ⟨ba, off + k * 5 + 4, none⟩ = some (.bool (f k).hd) := hr 4 _ rfl
          have HDO := hidMk (HDOX.out (f k) (by omega))
          generalize (f k).kd = z0 at *
          generalize (f k).of = z1 at *
          generalize (f k).cd = z2 at *
          generalize (f k).v = z3 at *
          generalize (f k).hd = z4 at *
          have HG := hidMk hkg
          clear hr hra hkg hkn HDOX HL
          go_wp2_with fail
          refine HDO.out.mono ?_
          rintro e w2 ⟨rfl, hl2⟩
          have HL2 := hidMk hl2
          clear hl2 HDO c0 c1 c2 c3 c4
          go_wp2_with fail
          go_roundg (gk - 1)
          case measure => have := HG.out; omega
          case rel => exact ⟨k + 1, by have := HG.out; omega, by omega, by go_num, HL2⟩
        · have hk2 : ¬ ((k : Int) < 40) := by omega
          have hk1 : (k : Int) < n := by omega
          clear hk6 hkn hkg
          obtain ⟨tb, cap, l, nn, rf, nd, n2, nd2, M, lev, hj, hl1, hM1, hcs⟩ := HL.out
          have HJ := hidMk hj
          obtain ⟨m, hml⟩ : ∃ m, m = l.length := ⟨_, rfl⟩
          have HML := hidMk hml
          have hm6 : m ≤ 60 := by omega
          have HP1 := hidMk (js_pick hj (by omega) a2)
          have HP2 := hidMk (fun X (kX : Kept wr X) => js_pick (hj.keep kX) (by omega) b2)
          clear hj hl1 hM1 hcs HL HDOX hml
          go_wp2_with fail
          refine HP1.out.mono ?_
          rintro e w3 ⟨k1, rfl, hk1m, hk1p, kk3⟩
          have HK3 := hidMk kk3
          clear kk3 HP1
          go_wp2_with fail
          refine (HP2.out _ HK3.out).mono ?_
          rintro e wq ⟨k2, rfl, hk2m, hk2p, kk4⟩
          have HJQ := hidMk (HJ.out.keep (HK3.out.trans kk4))
          have HK1 := hidMk (And.intro hk1m hk1p)
          have HK2 := hidMk (And.intro hk2m hk2p)
          have hx1 : (k1 : Int) < m := by have := HML.out; omega
          have hx2 : (k2 : Int) < m := by have := HML.out; omega
          clear kk4 HP2 hk1m hk1p hk2m hk2p HJ HK3
          obtain ⟨x, hx⟩ : ∃ x, x = (l.getD k1 (0, 0)).1 := ⟨_, rfl⟩
          obtain ⟨y, hy⟩ : ∃ x, x = (l.getD k2 (0, 0)).1 := ⟨_, rfl⟩
          have HCQ := hidMk (show wq.cell? ⟨t, 0, none⟩ = some (.pointer (some ⟨g, 0, none⟩)) ∧ wq.cell? ⟨t, 1, none⟩ = some (.pointer (some ⟨q, 0, none⟩)) ∧ wq.cell? ⟨t, 3, none⟩ = some (.int .i64 (lvls cd)) ∧ wq.cell? ⟨t, 4, none⟩ = some (.slice (some ⟨tb, 0, none⟩) m cap) ∧ wq.cell? ⟨tb, k1 * 3 + 1, none⟩ = some (.int .i64 x) ∧ wq.cell? ⟨tb, k2 * 3 + 1, none⟩ = some (.int .i64 y) ∧ wq.cell? ⟨tb, k1 * 3, none⟩ = some (.int .i64 x) ∧ wq.cell? ⟨tb, k2 * 3, none⟩ = some (.int .i64 y) from by
            have h1 := HJQ.out.cells HK1.out.1
            have h2 := HJQ.out.cells HK2.out.1
            rw [← hx] at h1
            rw [← hy] at h2
            exact ⟨HJQ.out.pl.c0, HJQ.out.pl.c1, HJQ.out.pl.c3, by rw [HML.out]; exact HJQ.out.pl.c4, h1.2.1, h2.2.1, h1.1, h2.1⟩)
          have HC2 := hidMk HJQ.out.pl.c2
          have HGA := hidMk (fun (c : Nat) (hc : (c : Int) < cd) X (kX : Kept wq X) => js_rget HJQ.out HK1.out.1 HK1.out.2 kX c hc)
          have HGB := hidMk (fun (c : Nat) (hc : (c : Int) < cd) X (kX : Kept wq X) => js_rget HJQ.out HK2.out.1 HK2.out.2 kX c hc)
          have HDF := hidMk (fun X (kX : Kept wq X) => js_Differ HJQ.out HK1.out.1 HK1.out.2 HK2.out.1 HK2.out.2 kX)
          rw [← hx] at HGA HDF
          rw [← hy] at HGB HDF
          obtain ⟨cn, hcn⟩ : ∃ cn : Nat, cd = (cn : Int) := ⟨cd.toNat, by have := HCD.out; omega⟩
          have hcn7 : cn ≤ 70 := by have := HCD.out; omega
          have HKQ := hidMk HJQ.out.ba.kept
          subst hcn
          rw [Int.toNat_natCast] at HDF
          clear hx hy HML HJQ HK1 HK2
          go_wp2_with fail
          go_loopg [13, 14] (cn + 1) (fun gg sv s wr => ∃ j : Nat, j + gg = cn + 1 ∧ j ≤ cn ∧ s = .int .i64 j ∧ Hid (Kept wq wr ∧ OwnI wr wq.heap.size sv ((selL nd (lvls cn) x y 0 j).map fun x => x.1)))
          case atStart => exact ⟨0, by omega, by omega, rfl, hidMk ⟨Kept.refl _, ownI_nil _ _⟩⟩
          case round =>
            obtain ⟨j, hjg, hjc, rfl, HR⟩ := hrel
            have HG := hidMk hjg
            have HKR := hidMk HR.out.1
            have y2 := HR.out.1.cellp HC2.out
            have hlen := selL_len nd (lvls cn) x y 0 j
            clear hjg
            obtain ⟨sa, sc, hsv, hsl⟩ := HR.out.2.sl (by unfold maxLen; rw [List.length_map]; omega)
            subst hsv
            generalize hln : ((selL nd (lvls cn) x y 0 j).map fun x => x.1).length = ln at *
            have HLNE := hidMk hln
            clear hln
            by_cases hj : j < cn
            · have hj' : (j : Int) < (cn : Int) := by omega
              have HG1 := hidMk (HGA.out j hj')
              have HG2 := hidMk (HGB.out j hj')
              obtain ⟨⟨p1, p2⟩, hp⟩ : ∃ z, z = entL nd (lvls cn) x j := ⟨_, rfl⟩
              obtain ⟨⟨q1, q2⟩, hq⟩ : ∃ z, z = entL nd (lvls cn) y j := ⟨_, rfl⟩
              rw [← hp] at HG1
              rw [← hq] at HG2
              simp only at HG1 HG2
              have hsn := selL_snoc nd (lvls cn) x y 0 j
              rw [← hp, ← hq, Int.zero_add] at hsn
              by_cases hE : (p1, p2) = (q1, q2)
              · have heq : ∀ W, (Op.equalIn 10000 39 (.agg #[.int .i64 p1, .bool p2]) (.agg #[.int .i64 q1, .bool q2])).run Tryd.prog W = .ok true W := fun W => by rw [en_eq 9998, decide_eq_true hE]
                have HS2 := hidMk (show selL nd (lvls cn) x y 0 (j + 1) = selL nd (lvls cn) x y 0 j from by rw [hsn]; unfold sel; rw [if_pos hE, List.append_nil])
                clear hsn hp hq hE hsl
                go_upto_region 15 with fail
                clear y2
                refine wp_region_held_drew (S := (fun w' => Kept wq w')) (by kernel_rfl) ?_ (fun hHeld => ?_)
                · exact HKR.out.drew
                refine wpAnyH_take (i := 0) (oi := { dst := some 54, op := _, type := _, pos := _, after := _, guard := _ }) (v := ?_) rfl (by kernel_rfl) (by kernel_rfl) (by kernel_rfl) (fun _ _ _ h => h) (Or.inl ⟨by rfl, ?_⟩) (by assumption) ?_
                rotate_left
                · (intro w hSw; have s0 := hSw.cellp HCQ.out.1; have s1 := hSw.cellp HCQ.out.2.1; have s3 := hSw.cellp HCQ.out.2.2.1; have s4 := hSw.cellp HCQ.out.2.2.2.1; have s5 := hSw.cellp HCQ.out.2.2.2.2.1; have s6 := hSw.cellp HCQ.out.2.2.2.2.2.1; have s7 := hSw.cellp HCQ.out.2.2.2.2.2.2.1; have s8 := hSw.cellp HCQ.out.2.2.2.2.2.2.2; clear hSw; go_simp; (try with_reducible rfl))
                (try simp only [Act.put, List.setIfInBounds_toArray, List.set_cons_zero, List.set_cons_succ])
                refine wpAnyH_take (i := 1) (oi := { dst := some 55, op := _, type := _, pos := _, after := _, guard := _ }) (v := ?_) rfl (by kernel_rfl) (by kernel_rfl) (by kernel_rfl) (fun _ _ _ h => h) (Or.inl ⟨by rfl, ?_⟩) (by assumption) ?_
                rotate_left
                · (intro w hSw; have s0 := hSw.cellp HCQ.out.1; have s1 := hSw.cellp HCQ.out.2.1; have s3 := hSw.cellp HCQ.out.2.2.1; have s4 := hSw.cellp HCQ.out.2.2.2.1; have s5 := hSw.cellp HCQ.out.2.2.2.2.1; have s6 := hSw.cellp HCQ.out.2.2.2.2.2.1; have s7 := hSw.cellp HCQ.out.2.2.2.2.2.2.1; have s8 := hSw.cellp HCQ.out.2.2.2.2.2.2.2; clear hSw; go_simp; (try with_reducible rfl))
                (try simp only [Act.put, List.setIfInBounds_toArray, List.set_cons_zero, List.set_cons_succ])
                refine wpAnyH_take (i := 2) (oi := { dst := some 56, op := _, type := _, pos := _, after := _, guard := _ }) (v := ?_) rfl (by kernel_rfl) (by kernel_rfl) (by kernel_rfl) (fun _ _ _ h => h) (Or.inl ⟨by rfl, ?_⟩) (by assumption) ?_
                rotate_left
                · (intro w hSw; have s0 := hSw.cellp HCQ.out.1; have s1 := hSw.cellp HCQ.out.2.1; have s3 := hSw.cellp HCQ.out.2.2.1; have s4 := hSw.cellp HCQ.out.2.2.2.1; have s5 := hSw.cellp HCQ.out.2.2.2.2.1; have s6 := hSw.cellp HCQ.out.2.2.2.2.2.1; have s7 := hSw.cellp HCQ.out.2.2.2.2.2.2.1; have s8 := hSw.cellp HCQ.out.2.2.2.2.2.2.2; clear hSw; go_simp; (try with_reducible rfl))
                (try simp only [Act.put, List.setIfInBounds_toArray, List.set_cons_zero, List.set_cons_succ])
                refine wpAnyH_take (i := 3) (oi := { dst := some 57, op := _, type := _, pos := _, after := _, guard := _ }) (v := ?_) rfl (by kernel_rfl) (by kernel_rfl) (by kernel_rfl) (fun _ _ _ h => h) (Or.inl ⟨by rfl, ?_⟩) (by assumption) ?_
                rotate_left
                · (intro w hSw; have s0 := hSw.cellp HCQ.out.1; have s1 := hSw.cellp HCQ.out.2.1; have s3 := hSw.cellp HCQ.out.2.2.1; have s4 := hSw.cellp HCQ.out.2.2.2.1; have s5 := hSw.cellp HCQ.out.2.2.2.2.1; have s6 := hSw.cellp HCQ.out.2.2.2.2.2.1; have s7 := hSw.cellp HCQ.out.2.2.2.2.2.2.1; have s8 := hSw.cellp HCQ.out.2.2.2.2.2.2.2; clear hSw; go_simp; (try with_reducible rfl))
                (try simp only [Act.put, List.setIfInBounds_toArray, List.set_cons_zero, List.set_cons_succ])
                refine wpAnyH_take (i := 4) (oi := { dst := some 58, op := _, type := _, pos := _, after := _, guard := _ }) (v := ?_) rfl (by kernel_rfl) (by kernel_rfl) (by kernel_rfl) (fun _ _ _ h => h) (Or.inl ⟨by rfl, ?_⟩) (by assumption) ?_
                rotate_left
                · (intro w hSw; have s0 := hSw.cellp HCQ.out.1; have s1 := hSw.cellp HCQ.out.2.1; have s3 := hSw.cellp HCQ.out.2.2.1; have s4 := hSw.cellp HCQ.out.2.2.2.1; have s5 := hSw.cellp HCQ.out.2.2.2.2.1; have s6 := hSw.cellp HCQ.out.2.2.2.2.2.1; have s7 := hSw.cellp HCQ.out.2.2.2.2.2.2.1; have s8 := hSw.cellp HCQ.out.2.2.2.2.2.2.2; clear hSw; go_simp; (try with_reducible rfl))
                (try simp only [Act.put, List.setIfInBounds_toArray, List.set_cons_zero, List.set_cons_succ])
                refine wpAnyH_take (i := 5) (oi := { dst := some 59, op := _, type := _, pos := _, after := _, guard := _ }) (v := ?_) rfl (by kernel_rfl) (by kernel_rfl) (by kernel_rfl) (fun _ _ _ h => h) (Or.inl ⟨by rfl, ?_⟩) (by assumption) ?_
                rotate_left
                · (intro w hSw; have s0 := hSw.cellp HCQ.out.1; have s1 := hSw.cellp HCQ.out.2.1; have s3 := hSw.cellp HCQ.out.2.2.1; have s4 := hSw.cellp HCQ.out.2.2.2.1; have s5 := hSw.cellp HCQ.out.2.2.2.2.1; have s6 := hSw.cellp HCQ.out.2.2.2.2.2.1; have s7 := hSw.cellp HCQ.out.2.2.2.2.2.2.1; have s8 := hSw.cellp HCQ.out.2.2.2.2.2.2.2; clear hSw; go_simp; (try with_reducible rfl))
                (try simp only [Act.put, List.setIfInBounds_toArray, List.set_cons_zero, List.set_cons_succ])
                refine wpAnyH_take (i := 6) (oi := { dst := some 60, op := _, type := _, pos := _, after := _, guard := _ }) (v := ?_) rfl (by kernel_rfl) (by kernel_rfl) (by kernel_rfl) (fun _ _ _ h => h) (Or.inl ⟨by rfl, ?_⟩) (by assumption) ?_
                rotate_left
                · (intro w hSw; have s0 := hSw.cellp HCQ.out.1; have s1 := hSw.cellp HCQ.out.2.1; have s3 := hSw.cellp HCQ.out.2.2.1; have s4 := hSw.cellp HCQ.out.2.2.2.1; have s5 := hSw.cellp HCQ.out.2.2.2.2.1; have s6 := hSw.cellp HCQ.out.2.2.2.2.2.1; have s7 := hSw.cellp HCQ.out.2.2.2.2.2.2.1; have s8 := hSw.cellp HCQ.out.2.2.2.2.2.2.2; clear hSw; go_simp; (try with_reducible rfl))
                (try simp only [Act.put, List.setIfInBounds_toArray, List.set_cons_zero, List.set_cons_succ])
                refine wpAnyH_take (i := 7) (oi := { dst := some 61, op := _, type := _, pos := _, after := _, guard := _ }) (v := ?_) rfl (by kernel_rfl) (by kernel_rfl) (by kernel_rfl) (fun _ _ _ h => h) (Or.inl ⟨by rfl, ?_⟩) (by assumption) ?_
                rotate_left
                · (intro w hSw; have s0 := hSw.cellp HCQ.out.1; have s1 := hSw.cellp HCQ.out.2.1; have s3 := hSw.cellp HCQ.out.2.2.1; have s4 := hSw.cellp HCQ.out.2.2.2.1; have s5 := hSw.cellp HCQ.out.2.2.2.2.1; have s6 := hSw.cellp HCQ.out.2.2.2.2.2.1; have s7 := hSw.cellp HCQ.out.2.2.2.2.2.2.1; have s8 := hSw.cellp HCQ.out.2.2.2.2.2.2.2; clear hSw; go_simp; (try with_reducible rfl))
                (try simp only [Act.put, List.setIfInBounds_toArray, List.set_cons_zero, List.set_cons_succ])
                refine wpAnyH_take (i := 8) (oi := { dst := some 62, op := _, type := _, pos := _, after := _, guard := _ }) (v := ?_) rfl (by kernel_rfl) (by kernel_rfl) (by kernel_rfl) (fun _ _ _ h => h) (Or.inl ⟨by rfl, ?_⟩) (by assumption) ?_
                rotate_left
                · (intro w hSw; have s0 := hSw.cellp HCQ.out.1; have s1 := hSw.cellp HCQ.out.2.1; have s3 := hSw.cellp HCQ.out.2.2.1; have s4 := hSw.cellp HCQ.out.2.2.2.1; have s5 := hSw.cellp HCQ.out.2.2.2.2.1; have s6 := hSw.cellp HCQ.out.2.2.2.2.2.1; have s7 := hSw.cellp HCQ.out.2.2.2.2.2.2.1; have s8 := hSw.cellp HCQ.out.2.2.2.2.2.2.2; clear hSw; go_simp; (try with_reducible rfl))
                (try simp only [Act.put, List.setIfInBounds_toArray, List.set_cons_zero, List.set_cons_succ])
                refine wpAnyH_take (i := 9) (oi := { dst := some 63, op := _, type := _, pos := _, after := _, guard := _ }) (v := ?_) rfl (by kernel_rfl) (by kernel_rfl) (by kernel_rfl) (fun _ _ _ h => h) (Or.inl ⟨by rfl, ?_⟩) (by assumption) ?_
                rotate_left
                · (intro w hSw; have s0 := hSw.cellp HCQ.out.1; have s1 := hSw.cellp HCQ.out.2.1; have s3 := hSw.cellp HCQ.out.2.2.1; have s4 := hSw.cellp HCQ.out.2.2.2.1; have s5 := hSw.cellp HCQ.out.2.2.2.2.1; have s6 := hSw.cellp HCQ.out.2.2.2.2.2.1; have s7 := hSw.cellp HCQ.out.2.2.2.2.2.2.1; have s8 := hSw.cellp HCQ.out.2.2.2.2.2.2.2; clear hSw; go_simp; (try with_reducible rfl))
                (try simp only [Act.put, List.setIfInBounds_toArray, List.set_cons_zero, List.set_cons_succ])
                refine wpAnyH_take (i := 10) (oi := { dst := some 64, op := _, type := _, pos := _, after := _, guard := _ }) (v := ?_) rfl (by kernel_rfl) (by kernel_rfl) (by kernel_rfl) (fun _ _ _ h => h) (Or.inl ⟨by rfl, ?_⟩) (by assumption) ?_
                rotate_left
                · (intro w hSw; have s0 := hSw.cellp HCQ.out.1; have s1 := hSw.cellp HCQ.out.2.1; have s3 := hSw.cellp HCQ.out.2.2.1; have s4 := hSw.cellp HCQ.out.2.2.2.1; have s5 := hSw.cellp HCQ.out.2.2.2.2.1; have s6 := hSw.cellp HCQ.out.2.2.2.2.2.1; have s7 := hSw.cellp HCQ.out.2.2.2.2.2.2.1; have s8 := hSw.cellp HCQ.out.2.2.2.2.2.2.2; clear hSw; go_simp; (try with_reducible rfl))
                (try simp only [Act.put, List.setIfInBounds_toArray, List.set_cons_zero, List.set_cons_succ])
                refine wpAnyH_take (i := 11) (oi := { dst := some 65, op := _, type := _, pos := _, after := _, guard := _ }) (v := ?_) rfl (by kernel_rfl) (by kernel_rfl) (by kernel_rfl) (fun _ _ _ h => h) (Or.inl ⟨by rfl, ?_⟩) (by assumption) ?_
                rotate_left
                · (intro w hSw; have s0 := hSw.cellp HCQ.out.1; have s1 := hSw.cellp HCQ.out.2.1; have s3 := hSw.cellp HCQ.out.2.2.1; have s4 := hSw.cellp HCQ.out.2.2.2.1; have s5 := hSw.cellp HCQ.out.2.2.2.2.1; have s6 := hSw.cellp HCQ.out.2.2.2.2.2.1; have s7 := hSw.cellp HCQ.out.2.2.2.2.2.2.1; have s8 := hSw.cellp HCQ.out.2.2.2.2.2.2.2; clear hSw; go_simp; (try with_reducible rfl))
                (try simp only [Act.put, List.setIfInBounds_toArray, List.set_cons_zero, List.set_cons_succ])
                refine wpAnyH_take (i := 12) (oi := { dst := some 66, op := _, type := _, pos := _, after := _, guard := _ }) (v := ?_) rfl (by kernel_rfl) (by kernel_rfl) (by kernel_rfl) (fun _ _ _ h => h) (Or.inl ⟨by rfl, ?_⟩) (by assumption) ?_
                rotate_left
                · (intro w hSw; have s0 := hSw.cellp HCQ.out.1; have s1 := hSw.cellp HCQ.out.2.1; have s3 := hSw.cellp HCQ.out.2.2.1; have s4 := hSw.cellp HCQ.out.2.2.2.1; have s5 := hSw.cellp HCQ.out.2.2.2.2.1; have s6 := hSw.cellp HCQ.out.2.2.2.2.2.1; have s7 := hSw.cellp HCQ.out.2.2.2.2.2.2.1; have s8 := hSw.cellp HCQ.out.2.2.2.2.2.2.2; clear hSw; go_simp; (try with_reducible rfl))
                (try simp only [Act.put, List.setIfInBounds_toArray, List.set_cons_zero, List.set_cons_succ])
                refine wpAnyH_take (i := 13) (oi := { dst := some 67, op := _, type := _, pos := _, after := _, guard := _ }) (v := ?_) rfl (by kernel_rfl) (by kernel_rfl) (by kernel_rfl) (fun _ _ _ h => h) (Or.inl ⟨by rfl, ?_⟩) (by assumption) ?_
                rotate_left
                · (intro w hSw; have s0 := hSw.cellp HCQ.out.1; have s1 := hSw.cellp HCQ.out.2.1; have s3 := hSw.cellp HCQ.out.2.2.1; have s4 := hSw.cellp HCQ.out.2.2.2.1; have s5 := hSw.cellp HCQ.out.2.2.2.2.1; have s6 := hSw.cellp HCQ.out.2.2.2.2.2.1; have s7 := hSw.cellp HCQ.out.2.2.2.2.2.2.1; have s8 := hSw.cellp HCQ.out.2.2.2.2.2.2.2; clear hSw; go_simp; (try with_reducible rfl))
                (try simp only [Act.put, List.setIfInBounds_toArray, List.set_cons_zero, List.set_cons_succ])
                refine wpAnyH_take (i := 14) (oi := { dst := some 68, op := _, type := _, pos := _, after := _, guard := _ }) (v := ?_) rfl (by kernel_rfl) (by kernel_rfl) (by kernel_rfl) (fun _ _ _ h => h) (Or.inl ⟨by rfl, ?_⟩) (by assumption) ?_
                rotate_left
                · (intro w hSw; have s0 := hSw.cellp HCQ.out.1; have s1 := hSw.cellp HCQ.out.2.1; have s3 := hSw.cellp HCQ.out.2.2.1; have s4 := hSw.cellp HCQ.out.2.2.2.1; have s5 := hSw.cellp HCQ.out.2.2.2.2.1; have s6 := hSw.cellp HCQ.out.2.2.2.2.2.1; have s7 := hSw.cellp HCQ.out.2.2.2.2.2.2.1; have s8 := hSw.cellp HCQ.out.2.2.2.2.2.2.2; clear hSw; go_simp; (try with_reducible rfl))
                (try simp only [Act.put, List.setIfInBounds_toArray, List.set_cons_zero, List.set_cons_succ])
                refine wpAnyH_take (i := 15) (oi := { dst := some 69, op := _, type := _, pos := _, after := _, guard := _ }) (v := ?_) rfl (by kernel_rfl) (by kernel_rfl) (by kernel_rfl) (fun _ _ _ h => h) (Or.inl ⟨by rfl, ?_⟩) (by assumption) ?_
                rotate_left
                · (intro w hSw; have s0 := hSw.cellp HCQ.out.1; have s1 := hSw.cellp HCQ.out.2.1; have s3 := hSw.cellp HCQ.out.2.2.1; have s4 := hSw.cellp HCQ.out.2.2.2.1; have s5 := hSw.cellp HCQ.out.2.2.2.2.1; have s6 := hSw.cellp HCQ.out.2.2.2.2.2.1; have s7 := hSw.cellp HCQ.out.2.2.2.2.2.2.1; have s8 := hSw.cellp HCQ.out.2.2.2.2.2.2.2; clear hSw; go_simp; (try with_reducible rfl))
                (try simp only [Act.put, List.setIfInBounds_toArray, List.set_cons_zero, List.set_cons_succ])
                refine wpAnyH_take (i := 16) (oi := { dst := some 70, op := _, type := _, pos := _, after := _, guard := _ }) (v := ?_) rfl (by kernel_rfl) (by kernel_rfl) (by kernel_rfl) (fun _ _ _ h => h) (Or.inl ⟨by rfl, ?_⟩) (by assumption) ?_
                rotate_left
                · (intro w hSw; have s0 := hSw.cellp HCQ.out.1; have s1 := hSw.cellp HCQ.out.2.1; have s3 := hSw.cellp HCQ.out.2.2.1; have s4 := hSw.cellp HCQ.out.2.2.2.1; have s5 := hSw.cellp HCQ.out.2.2.2.2.1; have s6 := hSw.cellp HCQ.out.2.2.2.2.2.1; have s7 := hSw.cellp HCQ.out.2.2.2.2.2.2.1; have s8 := hSw.cellp HCQ.out.2.2.2.2.2.2.2; clear hSw; go_simp; (try with_reducible rfl))
                (try simp only [Act.put, List.setIfInBounds_toArray, List.set_cons_zero, List.set_cons_succ])
                refine wpAnyH_take (i := 18) (oi := { dst := some 72, op := _, type := _, pos := _, after := _, guard := _ }) (v := ?_) rfl (by kernel_rfl) (by kernel_rfl) (by kernel_rfl) (fun _ _ _ h => h) (Or.inl ⟨by rfl, ?_⟩) (by assumption) ?_
                rotate_left
                · (intro w hSw; have s0 := hSw.cellp HCQ.out.1; have s1 := hSw.cellp HCQ.out.2.1; have s3 := hSw.cellp HCQ.out.2.2.1; have s4 := hSw.cellp HCQ.out.2.2.2.1; have s5 := hSw.cellp HCQ.out.2.2.2.2.1; have s6 := hSw.cellp HCQ.out.2.2.2.2.2.1; have s7 := hSw.cellp HCQ.out.2.2.2.2.2.2.1; have s8 := hSw.cellp HCQ.out.2.2.2.2.2.2.2; clear hSw; go_simp; (try with_reducible rfl))
                (try simp only [Act.put, List.setIfInBounds_toArray, List.set_cons_zero, List.set_cons_succ])
                refine wpAnyH_take (i := 19) (oi := { dst := some 73, op := _, type := _, pos := _, after := _, guard := _ }) (v := ?_) rfl (by kernel_rfl) (by kernel_rfl) (by kernel_rfl) (fun _ _ _ h => h) (Or.inl ⟨by rfl, ?_⟩) (by assumption) ?_
                rotate_left
                · (intro w hSw; have s0 := hSw.cellp HCQ.out.1; have s1 := hSw.cellp HCQ.out.2.1; have s3 := hSw.cellp HCQ.out.2.2.1; have s4 := hSw.cellp HCQ.out.2.2.2.1; have s5 := hSw.cellp HCQ.out.2.2.2.2.1; have s6 := hSw.cellp HCQ.out.2.2.2.2.2.1; have s7 := hSw.cellp HCQ.out.2.2.2.2.2.2.1; have s8 := hSw.cellp HCQ.out.2.2.2.2.2.2.2; clear hSw; go_simp; (try with_reducible rfl))
                (try simp only [Act.put, List.setIfInBounds_toArray, List.set_cons_zero, List.set_cons_succ])
                refine wpAnyH_take (i := 20) (oi := { dst := some 74, op := _, type := _, pos := _, after := _, guard := _ }) (v := ?_) rfl (by kernel_rfl) (by kernel_rfl) (by kernel_rfl) (fun _ _ _ h => h) (Or.inl ⟨by rfl, ?_⟩) (by assumption) ?_
                rotate_left
                · (intro w hSw; have s0 := hSw.cellp HCQ.out.1; have s1 := hSw.cellp HCQ.out.2.1; have s3 := hSw.cellp HCQ.out.2.2.1; have s4 := hSw.cellp HCQ.out.2.2.2.1; have s5 := hSw.cellp HCQ.out.2.2.2.2.1; have s6 := hSw.cellp HCQ.out.2.2.2.2.2.1; have s7 := hSw.cellp HCQ.out.2.2.2.2.2.2.1; have s8 := hSw.cellp HCQ.out.2.2.2.2.2.2.2; clear hSw; go_simp; (try with_reducible rfl))
                (try simp only [Act.put, List.setIfInBounds_toArray, List.set_cons_zero, List.set_cons_succ])
                refine wpAnyH_take (i := 21) (oi := { dst := some 75, op := _, type := _, pos := _, after := _, guard := _ }) (v := ?_) rfl (by kernel_rfl) (by kernel_rfl) (by kernel_rfl) (fun _ _ _ h => h) (Or.inl ⟨by rfl, ?_⟩) (by assumption) ?_
                rotate_left
                · (intro w hSw; have s0 := hSw.cellp HCQ.out.1; have s1 := hSw.cellp HCQ.out.2.1; have s3 := hSw.cellp HCQ.out.2.2.1; have s4 := hSw.cellp HCQ.out.2.2.2.1; have s5 := hSw.cellp HCQ.out.2.2.2.2.1; have s6 := hSw.cellp HCQ.out.2.2.2.2.2.1; have s7 := hSw.cellp HCQ.out.2.2.2.2.2.2.1; have s8 := hSw.cellp HCQ.out.2.2.2.2.2.2.2; clear hSw; go_simp; (try with_reducible rfl))
                (try simp only [Act.put, List.setIfInBounds_toArray, List.set_cons_zero, List.set_cons_succ])
                refine wpAnyH_take (i := 22) (oi := { dst := some 76, op := _, type := _, pos := _, after := _, guard := _ }) (v := ?_) rfl (by kernel_rfl) (by kernel_rfl) (by kernel_rfl) (fun _ _ _ h => h) (Or.inl ⟨by rfl, ?_⟩) (by assumption) ?_
                rotate_left
                · (intro w hSw; have s0 := hSw.cellp HCQ.out.1; have s1 := hSw.cellp HCQ.out.2.1; have s3 := hSw.cellp HCQ.out.2.2.1; have s4 := hSw.cellp HCQ.out.2.2.2.1; have s5 := hSw.cellp HCQ.out.2.2.2.2.1; have s6 := hSw.cellp HCQ.out.2.2.2.2.2.1; have s7 := hSw.cellp HCQ.out.2.2.2.2.2.2.1; have s8 := hSw.cellp HCQ.out.2.2.2.2.2.2.2; clear hSw; go_simp; (try with_reducible rfl))
                (try simp only [Act.put, List.setIfInBounds_toArray, List.set_cons_zero, List.set_cons_succ])
                refine wpAnyH_take (i := 23) (oi := { dst := some 77, op := _, type := _, pos := _, after := _, guard := _ }) (v := ?_) rfl (by kernel_rfl) (by kernel_rfl) (by kernel_rfl) (fun _ _ _ h => h) (Or.inl ⟨by rfl, ?_⟩) (by assumption) ?_
                rotate_left
                · (intro w hSw; have s0 := hSw.cellp HCQ.out.1; have s1 := hSw.cellp HCQ.out.2.1; have s3 := hSw.cellp HCQ.out.2.2.1; have s4 := hSw.cellp HCQ.out.2.2.2.1; have s5 := hSw.cellp HCQ.out.2.2.2.2.1; have s6 := hSw.cellp HCQ.out.2.2.2.2.2.1; have s7 := hSw.cellp HCQ.out.2.2.2.2.2.2.1; have s8 := hSw.cellp HCQ.out.2.2.2.2.2.2.2; clear hSw; go_simp; (try with_reducible rfl))
                (try simp only [Act.put, List.setIfInBounds_toArray, List.set_cons_zero, List.set_cons_succ])
                refine wpAnyH_take (i := 24) (oi := { dst := some 78, op := _, type := _, pos := _, after := _, guard := _ }) (v := ?_) rfl (by kernel_rfl) (by kernel_rfl) (by kernel_rfl) (fun _ _ _ h => h) (Or.inl ⟨by rfl, ?_⟩) (by assumption) ?_
                rotate_left
                · (intro w hSw; have s0 := hSw.cellp HCQ.out.1; have s1 := hSw.cellp HCQ.out.2.1; have s3 := hSw.cellp HCQ.out.2.2.1; have s4 := hSw.cellp HCQ.out.2.2.2.1; have s5 := hSw.cellp HCQ.out.2.2.2.2.1; have s6 := hSw.cellp HCQ.out.2.2.2.2.2.1; have s7 := hSw.cellp HCQ.out.2.2.2.2.2.2.1; have s8 := hSw.cellp HCQ.out.2.2.2.2.2.2.2; clear hSw; go_simp; (try with_reducible rfl))
                (try simp only [Act.put, List.setIfInBounds_toArray, List.set_cons_zero, List.set_cons_succ])
                refine wpAnyH_take (i := 25) (oi := { dst := some 79, op := _, type := _, pos := _, after := _, guard := _ }) (v := ?_) rfl (by kernel_rfl) (by kernel_rfl) (by kernel_rfl) (fun _ _ _ h => h) (Or.inl ⟨by rfl, ?_⟩) (by assumption) ?_
                rotate_left
                · (intro w hSw; have s0 := hSw.cellp HCQ.out.1; have s1 := hSw.cellp HCQ.out.2.1; have s3 := hSw.cellp HCQ.out.2.2.1; have s4 := hSw.cellp HCQ.out.2.2.2.1; have s5 := hSw.cellp HCQ.out.2.2.2.2.1; have s6 := hSw.cellp HCQ.out.2.2.2.2.2.1; have s7 := hSw.cellp HCQ.out.2.2.2.2.2.2.1; have s8 := hSw.cellp HCQ.out.2.2.2.2.2.2.2; clear hSw; go_simp; (try with_reducible rfl))
                (try simp only [Act.put, List.setIfInBounds_toArray, List.set_cons_zero, List.set_cons_succ])
                refine wpAnyH_take (i := 26) (oi := { dst := some 80, op := _, type := _, pos := _, after := _, guard := _ }) (v := ?_) rfl (by kernel_rfl) (by kernel_rfl) (by kernel_rfl) (fun _ _ _ h => h) (Or.inl ⟨by rfl, ?_⟩) (by assumption) ?_
                rotate_left
                · (intro w hSw; have s0 := hSw.cellp HCQ.out.1; have s1 := hSw.cellp HCQ.out.2.1; have s3 := hSw.cellp HCQ.out.2.2.1; have s4 := hSw.cellp HCQ.out.2.2.2.1; have s5 := hSw.cellp HCQ.out.2.2.2.2.1; have s6 := hSw.cellp HCQ.out.2.2.2.2.2.1; have s7 := hSw.cellp HCQ.out.2.2.2.2.2.2.1; have s8 := hSw.cellp HCQ.out.2.2.2.2.2.2.2; clear hSw; go_simp; (try with_reducible rfl))
                (try simp only [Act.put, List.setIfInBounds_toArray, List.set_cons_zero, List.set_cons_succ])
                refine wpAnyH_take (i := 27) (oi := { dst := some 81, op := _, type := _, pos := _, after := _, guard := _ }) (v := ?_) rfl (by kernel_rfl) (by kernel_rfl) (by kernel_rfl) (fun _ _ _ h => h) (Or.inl ⟨by rfl, ?_⟩) (by assumption) ?_
                rotate_left
                · (intro w hSw; have s0 := hSw.cellp HCQ.out.1; have s1 := hSw.cellp HCQ.out.2.1; have s3 := hSw.cellp HCQ.out.2.2.1; have s4 := hSw.cellp HCQ.out.2.2.2.1; have s5 := hSw.cellp HCQ.out.2.2.2.2.1; have s6 := hSw.cellp HCQ.out.2.2.2.2.2.1; have s7 := hSw.cellp HCQ.out.2.2.2.2.2.2.1; have s8 := hSw.cellp HCQ.out.2.2.2.2.2.2.2; clear hSw; go_simp; (try with_reducible rfl))
                (try simp only [Act.put, List.setIfInBounds_toArray, List.set_cons_zero, List.set_cons_succ])
                refine wpAnyH_take (i := 28) (oi := { dst := some 82, op := _, type := _, pos := _, after := _, guard := _ }) (v := ?_) rfl (by kernel_rfl) (by kernel_rfl) (by kernel_rfl) (fun _ _ _ h => h) (Or.inl ⟨by rfl, ?_⟩) (by assumption) ?_
                rotate_left
                · (intro w hSw; have s0 := hSw.cellp HCQ.out.1; have s1 := hSw.cellp HCQ.out.2.1; have s3 := hSw.cellp HCQ.out.2.2.1; have s4 := hSw.cellp HCQ.out.2.2.2.1; have s5 := hSw.cellp HCQ.out.2.2.2.2.1; have s6 := hSw.cellp HCQ.out.2.2.2.2.2.1; have s7 := hSw.cellp HCQ.out.2.2.2.2.2.2.1; have s8 := hSw.cellp HCQ.out.2.2.2.2.2.2.2; clear hSw; go_simp; (try with_reducible rfl))
                (try simp only [Act.put, List.setIfInBounds_toArray, List.set_cons_zero, List.set_cons_succ])
                refine wpAnyH_take (i := 29) (oi := { dst := some 83, op := _, type := _, pos := _, after := _, guard := _ }) (v := ?_) rfl (by kernel_rfl) (by kernel_rfl) (by kernel_rfl) (fun _ _ _ h => h) (Or.inl ⟨by rfl, ?_⟩) (by assumption) ?_
                rotate_left
                · (intro w hSw; have s0 := hSw.cellp HCQ.out.1; have s1 := hSw.cellp HCQ.out.2.1; have s3 := hSw.cellp HCQ.out.2.2.1; have s4 := hSw.cellp HCQ.out.2.2.2.1; have s5 := hSw.cellp HCQ.out.2.2.2.2.1; have s6 := hSw.cellp HCQ.out.2.2.2.2.2.1; have s7 := hSw.cellp HCQ.out.2.2.2.2.2.2.1; have s8 := hSw.cellp HCQ.out.2.2.2.2.2.2.2; clear hSw; go_simp; (try with_reducible rfl))
                (try simp only [Act.put, List.setIfInBounds_toArray, List.set_cons_zero, List.set_cons_succ])
                refine wpAnyH_take (i := 30) (oi := { dst := some 84, op := _, type := _, pos := _, after := _, guard := _ }) (v := ?_) rfl (by kernel_rfl) (by kernel_rfl) (by kernel_rfl) (fun _ _ _ h => h) (Or.inl ⟨by rfl, ?_⟩) (by assumption) ?_
                rotate_left
                · (intro w hSw; have s0 := hSw.cellp HCQ.out.1; have s1 := hSw.cellp HCQ.out.2.1; have s3 := hSw.cellp HCQ.out.2.2.1; have s4 := hSw.cellp HCQ.out.2.2.2.1; have s5 := hSw.cellp HCQ.out.2.2.2.2.1; have s6 := hSw.cellp HCQ.out.2.2.2.2.2.1; have s7 := hSw.cellp HCQ.out.2.2.2.2.2.2.1; have s8 := hSw.cellp HCQ.out.2.2.2.2.2.2.2; clear hSw; go_simp; (try with_reducible rfl))
                (try simp only [Act.put, List.setIfInBounds_toArray, List.set_cons_zero, List.set_cons_succ])
                refine wpAnyH_take (i := 31) (oi := { dst := some 85, op := _, type := _, pos := _, after := _, guard := _ }) (v := ?_) rfl (by kernel_rfl) (by kernel_rfl) (by kernel_rfl) (fun _ _ _ h => h) (Or.inl ⟨by rfl, ?_⟩) (by assumption) ?_
                rotate_left
                · (intro w hSw; have s0 := hSw.cellp HCQ.out.1; have s1 := hSw.cellp HCQ.out.2.1; have s3 := hSw.cellp HCQ.out.2.2.1; have s4 := hSw.cellp HCQ.out.2.2.2.1; have s5 := hSw.cellp HCQ.out.2.2.2.2.1; have s6 := hSw.cellp HCQ.out.2.2.2.2.2.1; have s7 := hSw.cellp HCQ.out.2.2.2.2.2.2.1; have s8 := hSw.cellp HCQ.out.2.2.2.2.2.2.2; clear hSw; go_simp; (try with_reducible rfl))
                (try simp only [Act.put, List.setIfInBounds_toArray, List.set_cons_zero, List.set_cons_succ])
                refine wpAnyH_take (i := 32) (oi := { dst := some 86, op := _, type := _, pos := _, after := _, guard := _ }) (v := ?_) rfl (by kernel_rfl) (by kernel_rfl) (by kernel_rfl) (fun _ _ _ h => h) (Or.inl ⟨by rfl, ?_⟩) (by assumption) ?_
                rotate_left
                · (intro w hSw; have s0 := hSw.cellp HCQ.out.1; have s1 := hSw.cellp HCQ.out.2.1; have s3 := hSw.cellp HCQ.out.2.2.1; have s4 := hSw.cellp HCQ.out.2.2.2.1; have s5 := hSw.cellp HCQ.out.2.2.2.2.1; have s6 := hSw.cellp HCQ.out.2.2.2.2.2.1; have s7 := hSw.cellp HCQ.out.2.2.2.2.2.2.1; have s8 := hSw.cellp HCQ.out.2.2.2.2.2.2.2; clear hSw; go_simp; (try with_reducible rfl))
                (try simp only [Act.put, List.setIfInBounds_toArray, List.set_cons_zero, List.set_cons_succ])
                refine wpAnyH_take (i := 33) (oi := { dst := some 87, op := _, type := _, pos := _, after := _, guard := _ }) (v := ?_) rfl (by kernel_rfl) (by kernel_rfl) (by kernel_rfl) (fun _ _ _ h => h) (Or.inl ⟨by rfl, ?_⟩) (by assumption) ?_
                rotate_left
                · (intro w hSw; have s0 := hSw.cellp HCQ.out.1; have s1 := hSw.cellp HCQ.out.2.1; have s3 := hSw.cellp HCQ.out.2.2.1; have s4 := hSw.cellp HCQ.out.2.2.2.1; have s5 := hSw.cellp HCQ.out.2.2.2.2.1; have s6 := hSw.cellp HCQ.out.2.2.2.2.2.1; have s7 := hSw.cellp HCQ.out.2.2.2.2.2.2.1; have s8 := hSw.cellp HCQ.out.2.2.2.2.2.2.2; clear hSw; go_simp; (try with_reducible rfl))
                (try simp only [Act.put, List.setIfInBounds_toArray, List.set_cons_zero, List.set_cons_succ])
                refine wpAnyH_take (i := 34) (oi := { dst := some 88, op := _, type := _, pos := _, after := _, guard := _ }) (v := ?_) rfl (by kernel_rfl) (by kernel_rfl) (by kernel_rfl) (fun _ _ _ h => h) (Or.inl ⟨by rfl, ?_⟩) (by assumption) ?_
                rotate_left
                · (intro w hSw; have s0 := hSw.cellp HCQ.out.1; have s1 := hSw.cellp HCQ.out.2.1; have s3 := hSw.cellp HCQ.out.2.2.1; have s4 := hSw.cellp HCQ.out.2.2.2.1; have s5 := hSw.cellp HCQ.out.2.2.2.2.1; have s6 := hSw.cellp HCQ.out.2.2.2.2.2.1; have s7 := hSw.cellp HCQ.out.2.2.2.2.2.2.1; have s8 := hSw.cellp HCQ.out.2.2.2.2.2.2.2; clear hSw; go_simp; (try with_reducible rfl))
                (try simp only [Act.put, List.setIfInBounds_toArray, List.set_cons_zero, List.set_cons_succ])
                refine wpAnyH_ready (rs := [17]) (by kernel_rfl) (by simp) ?_
                refine AllReadyH.cons (o := { dst := some 71, op := _, type := _, pos := _, after := _, guard := _ }) rfl (fun K hK => ?_) AllReadyH.nil
                go_simp
                refine (HG1.out _ hHeld).mono ?_
                rintro e wA ⟨rfl, kwA⟩
                have HwA := hidMk kwA
                clear kwA
                (try go_wp2_with fail)
                refine hK.out _ _ ?_ (fun hHeld => ?_)
                · (first | exact hHeld.trans HwB.out | exact hHeld.trans HwA.out)
                clear hK K
                (try simp only [Act.put, List.setIfInBounds_toArray, List.set_cons_zero, List.set_cons_succ])
                refine wpAnyH_ready (rs := [35]) (by kernel_rfl) (by simp) ?_
                refine AllReadyH.cons (o := { dst := some 89, op := _, type := _, pos := _, after := _, guard := _ }) rfl (fun K hK => ?_) AllReadyH.nil
                go_simp
                refine (HG2.out _ hHeld).mono ?_
                rintro e wB ⟨rfl, kwB⟩
                have HwB := hidMk kwB
                clear kwB
                (try go_wp2_with fail)
                refine hK.out _ _ ?_ (fun hHeld => ?_)
                · (first | exact hHeld.trans HwB.out | exact hHeld.trans HwA.out)
                clear hK K
                (try simp only [Act.put, List.setIfInBounds_toArray, List.set_cons_zero, List.set_cons_succ])
                refine wpAnyH_take (i := 36) (oi := { dst := some 90, op := _, type := _, pos := _, after := _, guard := _ }) (v := ?_) rfl (by kernel_rfl) (by kernel_rfl) (by kernel_rfl) (fun _ _ _ h => h) (Or.inl ⟨by rfl, ?_⟩) (by assumption) ?_
                rotate_left
                · (intro w hSw; have s0 := hSw.cellp HCQ.out.1; have s1 := hSw.cellp HCQ.out.2.1; have s3 := hSw.cellp HCQ.out.2.2.1; have s4 := hSw.cellp HCQ.out.2.2.2.1; have s5 := hSw.cellp HCQ.out.2.2.2.2.1; have s6 := hSw.cellp HCQ.out.2.2.2.2.2.1; have s7 := hSw.cellp HCQ.out.2.2.2.2.2.2.1; have s8 := hSw.cellp HCQ.out.2.2.2.2.2.2.2; clear hSw; go_simp; (try with_reducible rfl))
                (try simp only [Act.put, List.setIfInBounds_toArray, List.set_cons_zero, List.set_cons_succ])
                refine wpAnyH_done (by kernel_rfl) ?_ _
                clear hHeld
                go_wp2_with fail
                go_roundg (gk - 1)
                case measure => have := HG.out; omega
                case rel => exact ⟨j + 1, by have := HG.out; omega, by omega, by go_num, hidMk ⟨(HKR.out.drew.trans HwA.out).trans HwB.out, by rw [HS2.out]; exact HR.out.2.kp ((((Kept.refl _).drew).trans HwA.out).trans HwB.out)⟩⟩
              · have heq : ∀ W, (Op.equalIn 10000 39 (.agg #[.int .i64 p1, .bool p2]) (.agg #[.int .i64 q1, .bool q2])).run Tryd.prog W = .ok false W := fun W => by rw [en_eq 9998, decide_eq_false hE]
                have HS2 := hidMk (show selL nd (lvls cn) x y 0 (j + 1) = selL nd (lvls cn) x y 0 j ++ [((j : Int), p1, p2)] from by rw [hsn]; unfold sel; rw [if_neg hE])
                clear hsn hp hq hE hsl
                have HLN := hidMk (show ((selL nd (lvls cn) x y 0 j).map fun x => x.1).length ≤ 70 from by rw [List.length_map]; omega)
                go_upto_region 15 with fail
                clear y2
                refine wp_region_held_drew (S := (fun w' => Kept wq w')) (by kernel_rfl) ?_ (fun hHeld => ?_)
                · exact HKR.out.drew
                refine wpAnyH_take (i := 0) (oi := { dst := some 54, op := _, type := _, pos := _, after := _, guard := _ }) (v := ?_) rfl (by kernel_rfl) (by kernel_rfl) (by kernel_rfl) (fun _ _ _ h => h) (Or.inl ⟨by rfl, ?_⟩) (by assumption) ?_
                rotate_left
                · (intro w hSw; have s0 := hSw.cellp HCQ.out.1; have s1 := hSw.cellp HCQ.out.2.1; have s3 := hSw.cellp HCQ.out.2.2.1; have s4 := hSw.cellp HCQ.out.2.2.2.1; have s5 := hSw.cellp HCQ.out.2.2.2.2.1; have s6 := hSw.cellp HCQ.out.2.2.2.2.2.1; have s7 := hSw.cellp HCQ.out.2.2.2.2.2.2.1; have s8 := hSw.cellp HCQ.out.2.2.2.2.2.2.2; clear hSw; go_simp; (try with_reducible rfl))
                (try simp only [Act.put, List.setIfInBounds_toArray, List.set_cons_zero, List.set_cons_succ])
                refine wpAnyH_take (i := 1) (oi := { dst := some 55, op := _, type := _, pos := _, after := _, guard := _ }) (v := ?_) rfl (by kernel_rfl) (by kernel_rfl) (by kernel_rfl) (fun _ _ _ h => h) (Or.inl ⟨by rfl, ?_⟩) (by assumption) ?_
                rotate_left
                · (intro w hSw; have s0 := hSw.cellp HCQ.out.1; have s1 := hSw.cellp HCQ.out.2.1; have s3 := hSw.cellp HCQ.out.2.2.1; have s4 := hSw.cellp HCQ.out.2.2.2.1; have s5 := hSw.cellp HCQ.out.2.2.2.2.1; have s6 := hSw.cellp HCQ.out.2.2.2.2.2.1; have s7 := hSw.cellp HCQ.out.2.2.2.2.2.2.1; have s8 := hSw.cellp HCQ.out.2.2.2.2.2.2.2; clear hSw; go_simp; (try with_reducible rfl))
                (try simp only [Act.put, List.setIfInBounds_toArray, List.set_cons_zero, List.set_cons_succ])
                refine wpAnyH_take (i := 2) (oi := { dst := some 56, op := _, type := _, pos := _, after := _, guard := _ }) (v := ?_) rfl (by kernel_rfl) (by kernel_rfl) (by kernel_rfl) (fun _ _ _ h => h) (Or.inl ⟨by rfl, ?_⟩) (by assumption) ?_
                rotate_left
                · (intro w hSw; have s0 := hSw.cellp HCQ.out.1; have s1 := hSw.cellp HCQ.out.2.1; have s3 := hSw.cellp HCQ.out.2.2.1; have s4 := hSw.cellp HCQ.out.2.2.2.1; have s5 := hSw.cellp HCQ.out.2.2.2.2.1; have s6 := hSw.cellp HCQ.out.2.2.2.2.2.1; have s7 := hSw.cellp HCQ.out.2.2.2.2.2.2.1; have s8 := hSw.cellp HCQ.out.2.2.2.2.2.2.2; clear hSw; go_simp; (try with_reducible rfl))
                (try simp only [Act.put, List.setIfInBounds_toArray, List.set_cons_zero, List.set_cons_succ])
                refine wpAnyH_take (i := 3) (oi := { dst := some 57, op := _, type := _, pos := _, after := _, guard := _ }) (v := ?_) rfl (by kernel_rfl) (by kernel_rfl) (by kernel_rfl) (fun _ _ _ h => h) (Or.inl ⟨by rfl, ?_⟩) (by assumption) ?_
                rotate_left
                · (intro w hSw; have s0 := hSw.cellp HCQ.out.1; have s1 := hSw.cellp HCQ.out.2.1; have s3 := hSw.cellp HCQ.out.2.2.1; have s4 := hSw.cellp HCQ.out.2.2.2.1; have s5 := hSw.cellp HCQ.out.2.2.2.2.1; have s6 := hSw.cellp HCQ.out.2.2.2.2.2.1; have s7 := hSw.cellp HCQ.out.2.2.2.2.2.2.1; have s8 := hSw.cellp HCQ.out.2.2.2.2.2.2.2; clear hSw; go_simp; (try with_reducible rfl))
                (try simp only [Act.put, List.setIfInBounds_toArray, List.set_cons_zero, List.set_cons_succ])
                refine wpAnyH_take (i := 4) (oi := { dst := some 58, op := _, type := _, pos := _, after := _, guard := _ }) (v := ?_) rfl (by kernel_rfl) (by kernel_rfl) (by kernel_rfl) (fun _ _ _ h => h) (Or.inl ⟨by rfl, ?_⟩) (by assumption) ?_
                rotate_left
                · (intro w hSw; have s0 := hSw.cellp HCQ.out.1; have s1 := hSw.cellp HCQ.out.2.1; have s3 := hSw.cellp HCQ.out.2.2.1; have s4 := hSw.cellp HCQ.out.2.2.2.1; have s5 := hSw.cellp HCQ.out.2.2.2.2.1; have s6 := hSw.cellp HCQ.out.2.2.2.2.2.1; have s7 := hSw.cellp HCQ.out.2.2.2.2.2.2.1; have s8 := hSw.cellp HCQ.out.2.2.2.2.2.2.2; clear hSw; go_simp; (try with_reducible rfl))
                (try simp only [Act.put, List.setIfInBounds_toArray, List.set_cons_zero, List.set_cons_succ])
                refine wpAnyH_take (i := 5) (oi := { dst := some 59, op := _, type := _, pos := _, after := _, guard := _ }) (v := ?_) rfl (by kernel_rfl) (by kernel_rfl) (by kernel_rfl) (fun _ _ _ h => h) (Or.inl ⟨by rfl, ?_⟩) (by assumption) ?_
                rotate_left
                · (intro w hSw; have s0 := hSw.cellp HCQ.out.1; have s1 := hSw.cellp HCQ.out.2.1; have s3 := hSw.cellp HCQ.out.2.2.1; have s4 := hSw.cellp HCQ.out.2.2.2.1; have s5 := hSw.cellp HCQ.out.2.2.2.2.1; have s6 := hSw.cellp HCQ.out.2.2.2.2.2.1; have s7 := hSw.cellp HCQ.out.2.2.2.2.2.2.1; have s8 := hSw.cellp HCQ.out.2.2.2.2.2.2.2; clear hSw; go_simp; (try with_reducible rfl))
                (try simp only [Act.put, List.setIfInBounds_toArray, List.set_cons_zero, List.set_cons_succ])
                refine wpAnyH_take (i := 6) (oi := { dst := some 60, op := _, type := _, pos := _, after := _, guard := _ }) (v := ?_) rfl (by kernel_rfl) (by kernel_rfl) (by kernel_rfl) (fun _ _ _ h => h) (Or.inl ⟨by rfl, ?_⟩) (by assumption) ?_
                rotate_left
                · (intro w hSw; have s0 := hSw.cellp HCQ.out.1; have s1 := hSw.cellp HCQ.out.2.1; have s3 := hSw.cellp HCQ.out.2.2.1; have s4 := hSw.cellp HCQ.out.2.2.2.1; have s5 := hSw.cellp HCQ.out.2.2.2.2.1; have s6 := hSw.cellp HCQ.out.2.2.2.2.2.1; have s7 := hSw.cellp HCQ.out.2.2.2.2.2.2.1; have s8 := hSw.cellp HCQ.out.2.2.2.2.2.2.2; clear hSw; go_simp; (try with_reducible rfl))
                (try simp only [Act.put, List.setIfInBounds_toArray, List.set_cons_zero, List.set_cons_succ])
                refine wpAnyH_take (i := 7) (oi := { dst := some 61, op := _, type := _, pos := _, after := _, guard := _ }) (v := ?_) rfl (by kernel_rfl) (by kernel_rfl) (by kernel_rfl) (fun _ _ _ h => h) (Or.inl ⟨by rfl, ?_⟩) (by assumption) ?_
                rotate_left
                · (intro w hSw; have s0 := hSw.cellp HCQ.out.1; have s1 := hSw.cellp HCQ.out.2.1; have s3 := hSw.cellp HCQ.out.2.2.1; have s4 := hSw.cellp HCQ.out.2.2.2.1; have s5 := hSw.cellp HCQ.out.2.2.2.2.1; have s6 := hSw.cellp HCQ.out.2.2.2.2.2.1; have s7 := hSw.cellp HCQ.out.2.2.2.2.2.2.1; have s8 := hSw.cellp HCQ.out.2.2.2.2.2.2.2; clear hSw; go_simp; (try with_reducible rfl))
                (try simp only [Act.put, List.setIfInBounds_toArray, List.set_cons_zero, List.set_cons_succ])
                refine wpAnyH_take (i := 8) (oi := { dst := some 62, op := _, type := _, pos := _, after := _, guard := _ }) (v := ?_) rfl (by kernel_rfl) (by kernel_rfl) (by kernel_rfl) (fun _ _ _ h => h) (Or.inl ⟨by rfl, ?_⟩) (by assumption) ?_
                rotate_left
                · (intro w hSw; have s0 := hSw.cellp HCQ.out.1; have s1 := hSw.cellp HCQ.out.2.1; have s3 := hSw.cellp HCQ.out.2.2.1; have s4 := hSw.cellp HCQ.out.2.2.2.1; have s5 := hSw.cellp HCQ.out.2.2.2.2.1; have s6 := hSw.cellp HCQ.out.2.2.2.2.2.1; have s7 := hSw.cellp HCQ.out.2.2.2.2.2.2.1; have s8 := hSw.cellp HCQ.out.2.2.2.2.2.2.2; clear hSw; go_simp; (try with_reducible rfl))
                (try simp only [Act.put, List.setIfInBounds_toArray, List.set_cons_zero, List.set_cons_succ])
                refine wpAnyH_take (i := 9) (oi := { dst := some 63, op := _, type := _, pos := _, after := _, guard := _ }) (v := ?_) rfl (by kernel_rfl) (by kernel_rfl) (by kernel_rfl) (fun _ _ _ h => h) (Or.inl ⟨by rfl, ?_⟩) (by assumption) ?_
                rotate_left
                · (intro w hSw; have s0 := hSw.cellp HCQ.out.1; have s1 := hSw.cellp HCQ.out.2.1; have s3 := hSw.cellp HCQ.out.2.2.1; have s4 := hSw.cellp HCQ.out.2.2.2.1; have s5 := hSw.cellp HCQ.out.2.2.2.2.1; have s6 := hSw.cellp HCQ.out.2.2.2.2.2.1; have s7 := hSw.cellp HCQ.out.2.2.2.2.2.2.1; have s8 := hSw.cellp HCQ.out.2.2.2.2.2.2.2; clear hSw; go_simp; (try with_reducible rfl))
                (try simp only [Act.put, List.setIfInBounds_toArray, List.set_cons_zero, List.set_cons_succ])
                refine wpAnyH_take (i := 10) (oi := { dst := some 64, op := _, type := _, pos := _, after := _, guard := _ }) (v := ?_) rfl (by kernel_rfl) (by kernel_rfl) (by kernel_rfl) (fun _ _ _ h => h) (Or.inl ⟨by rfl, ?_⟩) (by assumption) ?_
                rotate_left
                · (intro w hSw; have s0 := hSw.cellp HCQ.out.1; have s1 := hSw.cellp HCQ.out.2.1; have s3 := hSw.cellp HCQ.out.2.2.1; have s4 := hSw.cellp HCQ.out.2.2.2.1; have s5 := hSw.cellp HCQ.out.2.2.2.2.1; have s6 := hSw.cellp HCQ.out.2.2.2.2.2.1; have s7 := hSw.cellp HCQ.out.2.2.2.2.2.2.1; have s8 := hSw.cellp HCQ.out.2.2.2.2.2.2.2; clear hSw; go_simp; (try with_reducible rfl))
                (try simp only [Act.put, List.setIfInBounds_toArray, List.set_cons_zero, List.set_cons_succ])
                refine wpAnyH_take (i := 11) (oi := { dst := some 65, op := _, type := _, pos := _, after := _, guard := _ }) (v := ?_) rfl (by kernel_rfl) (by kernel_rfl) (by kernel_rfl) (fun _ _ _ h => h) (Or.inl ⟨by rfl, ?_⟩) (by assumption) ?_
                rotate_left
                · (intro w hSw; have s0 := hSw.cellp HCQ.out.1; have s1 := hSw.cellp HCQ.out.2.1; have s3 := hSw.cellp HCQ.out.2.2.1; have s4 := hSw.cellp HCQ.out.2.2.2.1; have s5 := hSw.cellp HCQ.out.2.2.2.2.1; have s6 := hSw.cellp HCQ.out.2.2.2.2.2.1; have s7 := hSw.cellp HCQ.out.2.2.2.2.2.2.1; have s8 := hSw.cellp HCQ.out.2.2.2.2.2.2.2; clear hSw; go_simp; (try with_reducible rfl))
                (try simp only [Act.put, List.setIfInBounds_toArray, List.set_cons_zero, List.set_cons_succ])
                refine wpAnyH_take (i := 12) (oi := { dst := some 66, op := _, type := _, pos := _, after := _, guard := _ }) (v := ?_) rfl (by kernel_rfl) (by kernel_rfl) (by kernel_rfl) (fun _ _ _ h => h) (Or.inl ⟨by rfl, ?_⟩) (by assumption) ?_
                rotate_left
                · (intro w hSw; have s0 := hSw.cellp HCQ.out.1; have s1 := hSw.cellp HCQ.out.2.1; have s3 := hSw.cellp HCQ.out.2.2.1; have s4 := hSw.cellp HCQ.out.2.2.2.1; have s5 := hSw.cellp HCQ.out.2.2.2.2.1; have s6 := hSw.cellp HCQ.out.2.2.2.2.2.1; have s7 := hSw.cellp HCQ.out.2.2.2.2.2.2.1; have s8 := hSw.cellp HCQ.out.2.2.2.2.2.2.2; clear hSw; go_simp; (try with_reducible rfl))
                (try simp only [Act.put, List.setIfInBounds_toArray, List.set_cons_zero, List.set_cons_succ])
                refine wpAnyH_take (i := 13) (oi := { dst := some 67, op := _, type := _, pos := _, after := _, guard := _ }) (v := ?_) rfl (by kernel_rfl) (by kernel_rfl) (by kernel_rfl) (fun _ _ _ h => h) (Or.inl ⟨by rfl, ?_⟩) (by assumption) ?_
                rotate_left
                · (intro w hSw; have s0 := hSw.cellp HCQ.out.1; have s1 := hSw.cellp HCQ.out.2.1; have s3 := hSw.cellp HCQ.out.2.2.1; have s4 := hSw.cellp HCQ.out.2.2.2.1; have s5 := hSw.cellp HCQ.out.2.2.2.2.1; have s6 := hSw.cellp HCQ.out.2.2.2.2.2.1; have s7 := hSw.cellp HCQ.out.2.2.2.2.2.2.1; have s8 := hSw.cellp HCQ.out.2.2.2.2.2.2.2; clear hSw; go_simp; (try with_reducible rfl))
                (try simp only [Act.put, List.setIfInBounds_toArray, List.set_cons_zero, List.set_cons_succ])
                refine wpAnyH_take (i := 14) (oi := { dst := some 68, op := _, type := _, pos := _, after := _, guard := _ }) (v := ?_) rfl (by kernel_rfl) (by kernel_rfl) (by kernel_rfl) (fun _ _ _ h => h) (Or.inl ⟨by rfl, ?_⟩) (by assumption) ?_
                rotate_left
                · (intro w hSw; have s0 := hSw.cellp HCQ.out.1; have s1 := hSw.cellp HCQ.out.2.1; have s3 := hSw.cellp HCQ.out.2.2.1; have s4 := hSw.cellp HCQ.out.2.2.2.1; have s5 := hSw.cellp HCQ.out.2.2.2.2.1; have s6 := hSw.cellp HCQ.out.2.2.2.2.2.1; have s7 := hSw.cellp HCQ.out.2.2.2.2.2.2.1; have s8 := hSw.cellp HCQ.out.2.2.2.2.2.2.2; clear hSw; go_simp; (try with_reducible rfl))
                (try simp only [Act.put, List.setIfInBounds_toArray, List.set_cons_zero, List.set_cons_succ])
                refine wpAnyH_take (i := 15) (oi := { dst := some 69, op := _, type := _, pos := _, after := _, guard := _ }) (v := ?_) rfl (by kernel_rfl) (by kernel_rfl) (by kernel_rfl) (fun _ _ _ h => h) (Or.inl ⟨by rfl, ?_⟩) (by assumption) ?_
                rotate_left
                · (intro w hSw; have s0 := hSw.cellp HCQ.out.1; have s1 := hSw.cellp HCQ.out.2.1; have s3 := hSw.cellp HCQ.out.2.2.1; have s4 := hSw.cellp HCQ.out.2.2.2.1; have s5 := hSw.cellp HCQ.out.2.2.2.2.1; have s6 := hSw.cellp HCQ.out.2.2.2.2.2.1; have s7 := hSw.cellp HCQ.out.2.2.2.2.2.2.1; have s8 := hSw.cellp HCQ.out.2.2.2.2.2.2.2; clear hSw; go_simp; (try with_reducible rfl))
                (try simp only [Act.put, List.setIfInBounds_toArray, List.set_cons_zero, List.set_cons_succ])
                refine wpAnyH_take (i := 16) (oi := { dst := some 70, op := _, type := _, pos := _, after := _, guard := _ }) (v := ?_) rfl (by kernel_rfl) (by kernel_rfl) (by kernel_rfl) (fun _ _ _ h => h) (Or.inl ⟨by rfl, ?_⟩) (by assumption) ?_
                rotate_left
                · (intro w hSw; have s0 := hSw.cellp HCQ.out.1; have s1 := hSw.cellp HCQ.out.2.1; have s3 := hSw.cellp HCQ.out.2.2.1; have s4 := hSw.cellp HCQ.out.2.2.2.1; have s5 := hSw.cellp HCQ.out.2.2.2.2.1; have s6 := hSw.cellp HCQ.out.2.2.2.2.2.1; have s7 := hSw.cellp HCQ.out.2.2.2.2.2.2.1; have s8 := hSw.cellp HCQ.out.2.2.2.2.2.2.2; clear hSw; go_simp; (try with_reducible rfl))
                (try simp only [Act.put, List.setIfInBounds_toArray, List.set_cons_zero, List.set_cons_succ])
                refine wpAnyH_take (i := 18) (oi := { dst := some 72, op := _, type := _, pos := _, after := _, guard := _ }) (v := ?_) rfl (by kernel_rfl) (by kernel_rfl) (by kernel_rfl) (fun _ _ _ h => h) (Or.inl ⟨by rfl, ?_⟩) (by assumption) ?_
                rotate_left
                · (intro w hSw; have s0 := hSw.cellp HCQ.out.1; have s1 := hSw.cellp HCQ.out.2.1; have s3 := hSw.cellp HCQ.out.2.2.1; have s4 := hSw.cellp HCQ.out.2.2.2.1; have s5 := hSw.cellp HCQ.out.2.2.2.2.1; have s6 := hSw.cellp HCQ.out.2.2.2.2.2.1; have s7 := hSw.cellp HCQ.out.2.2.2.2.2.2.1; have s8 := hSw.cellp HCQ.out.2.2.2.2.2.2.2; clear hSw; go_simp; (try with_reducible rfl))
                (try simp only [Act.put, List.setIfInBounds_toArray, List.set_cons_zero, List.set_cons_succ])
                refine wpAnyH_take (i := 19) (oi := { dst := some 73, op := _, type := _, pos := _, after := _, guard := _ }) (v := ?_) rfl (by kernel_rfl) (by kernel_rfl) (by kernel_rfl) (fun _ _ _ h => h) (Or.inl ⟨by rfl, ?_⟩) (by assumption) ?_
                rotate_left
                · (intro w hSw; have s0 := hSw.cellp HCQ.out.1; have s1 := hSw.cellp HCQ.out.2.1; have s3 := hSw.cellp HCQ.out.2.2.1; have s4 := hSw.cellp HCQ.out.2.2.2.1; have s5 := hSw.cellp HCQ.out.2.2.2.2.1; have s6 := hSw.cellp HCQ.out.2.2.2.2.2.1; have s7 := hSw.cellp HCQ.out.2.2.2.2.2.2.1; have s8 := hSw.cellp HCQ.out.2.2.2.2.2.2.2; clear hSw; go_simp; (try with_reducible rfl))
                (try simp only [Act.put, List.setIfInBounds_toArray, List.set_cons_zero, List.set_cons_succ])
                refine wpAnyH_take (i := 20) (oi := { dst := some 74, op := _, type := _, pos := _, after := _, guard := _ }) (v := ?_) rfl (by kernel_rfl) (by kernel_rfl) (by kernel_rfl) (fun _ _ _ h => h) (Or.inl ⟨by rfl, ?_⟩) (by assumption) ?_
                rotate_left
                · (intro w hSw; have s0 := hSw.cellp HCQ.out.1; have s1 := hSw.cellp HCQ.out.2.1; have s3 := hSw.cellp HCQ.out.2.2.1; have s4 := hSw.cellp HCQ.out.2.2.2.1; have s5 := hSw.cellp HCQ.out.2.2.2.2.1; have s6 := hSw.cellp HCQ.out.2.2.2.2.2.1; have s7 := hSw.cellp HCQ.out.2.2.2.2.2.2.1; have s8 := hSw.cellp HCQ.out.2.2.2.2.2.2.2; clear hSw; go_simp; (try with_reducible rfl))
                (try simp only [Act.put, List.setIfInBounds_toArray, List.set_cons_zero, List.set_cons_succ])
                refine wpAnyH_take (i := 21) (oi := { dst := some 75, op := _, type := _, pos := _, after := _, guard := _ }) (v := ?_) rfl (by kernel_rfl) (by kernel_rfl) (by kernel_rfl) (fun _ _ _ h => h) (Or.inl ⟨by rfl, ?_⟩) (by assumption) ?_
                rotate_left
                · (intro w hSw; have s0 := hSw.cellp HCQ.out.1; have s1 := hSw.cellp HCQ.out.2.1; have s3 := hSw.cellp HCQ.out.2.2.1; have s4 := hSw.cellp HCQ.out.2.2.2.1; have s5 := hSw.cellp HCQ.out.2.2.2.2.1; have s6 := hSw.cellp HCQ.out.2.2.2.2.2.1; have s7 := hSw.cellp HCQ.out.2.2.2.2.2.2.1; have s8 := hSw.cellp HCQ.out.2.2.2.2.2.2.2; clear hSw; go_simp; (try with_reducible rfl))
                (try simp only [Act.put, List.setIfInBounds_toArray, List.set_cons_zero, List.set_cons_succ])
                refine wpAnyH_take (i := 22) (oi := { dst := some 76, op := _, type := _, pos := _, after := _, guard := _ }) (v := ?_) rfl (by kernel_rfl) (by kernel_rfl) (by kernel_rfl) (fun _ _ _ h => h) (Or.inl ⟨by rfl, ?_⟩) (by assumption) ?_
                rotate_left
                · (intro w hSw; have s0 := hSw.cellp HCQ.out.1; have s1 := hSw.cellp HCQ.out.2.1; have s3 := hSw.cellp HCQ.out.2.2.1; have s4 := hSw.cellp HCQ.out.2.2.2.1; have s5 := hSw.cellp HCQ.out.2.2.2.2.1; have s6 := hSw.cellp HCQ.out.2.2.2.2.2.1; have s7 := hSw.cellp HCQ.out.2.2.2.2.2.2.1; have s8 := hSw.cellp HCQ.out.2.2.2.2.2.2.2; clear hSw; go_simp; (try with_reducible rfl))
                (try simp only [Act.put, List.setIfInBounds_toArray, List.set_cons_zero, List.set_cons_succ])
                refine wpAnyH_take (i := 23) (oi := { dst := some 77, op := _, type := _, pos := _, after := _, guard := _ }) (v := ?_) rfl (by kernel_rfl) (by kernel_rfl) (by kernel_rfl) (fun _ _ _ h => h) (Or.inl ⟨by rfl, ?_⟩) (by assumption) ?_
                rotate_left
                · (intro w hSw; have s0 := hSw.cellp HCQ.out.1; have s1 := hSw.cellp HCQ.out.2.1; have s3 := hSw.cellp HCQ.out.2.2.1; have s4 := hSw.cellp HCQ.out.2.2.2.1; have s5 := hSw.cellp HCQ.out.2.2.2.2.1; have s6 := hSw.cellp HCQ.out.2.2.2.2.2.1; have s7 := hSw.cellp HCQ.out.2.2.2.2.2.2.1; have s8 := hSw.cellp HCQ.out.2.2.2.2.2.2.2; clear hSw; go_simp; (try with_reducible rfl))
                (try simp only [Act.put, List.setIfInBounds_toArray, List.set_cons_zero, List.set_cons_succ])
                refine wpAnyH_take (i := 24) (oi := { dst := some 78, op := _, type := _, pos := _, after := _, guard := _ }) (v := ?_) rfl (by kernel_rfl) (by kernel_rfl) (by kernel_rfl) (fun _ _ _ h => h) (Or.inl ⟨by rfl, ?_⟩) (by assumption) ?_
                rotate_left
                · (intro w hSw; have s0 := hSw.cellp HCQ.out.1; have s1 := hSw.cellp HCQ.out.2.1; have s3 := hSw.cellp HCQ.out.2.2.1; have s4 := hSw.cellp HCQ.out.2.2.2.1; have s5 := hSw.cellp HCQ.out.2.2.2.2.1; have s6 := hSw.cellp HCQ.out.2.2.2.2.2.1; have s7 := hSw.cellp HCQ.out.2.2.2.2.2.2.1; have s8 := hSw.cellp HCQ.out.2.2.2.2.2.2.2; clear hSw; go_simp; (try with_reducible rfl))
                (try simp only [Act.put, List.setIfInBounds_toArray, List.set_cons_zero, List.set_cons_succ])
                refine wpAnyH_take (i := 25) (oi := { dst := some 79, op := _, type := _, pos := _, after := _, guard := _ }) (v := ?_) rfl (by kernel_rfl) (by kernel_rfl) (by kernel_rfl) (fun _ _ _ h => h) (Or.inl ⟨by rfl, ?_⟩) (by assumption) ?_
                rotate_left
                · (intro w hSw; have s0 := hSw.cellp HCQ.out.1; have s1 := hSw.cellp HCQ.out.2.1; have s3 := hSw.cellp HCQ.out.2.2.1; have s4 := hSw.cellp HCQ.out.2.2.2.1; have s5 := hSw.cellp HCQ.out.2.2.2.2.1; have s6 := hSw.cellp HCQ.out.2.2.2.2.2.1; have s7 := hSw.cellp HCQ.out.2.2.2.2.2.2.1; have s8 := hSw.cellp HCQ.out.2.2.2.2.2.2.2; clear hSw; go_simp; (try with_reducible rfl))
                (try simp only [Act.put, List.setIfInBounds_toArray, List.set_cons_zero, List.set_cons_succ])
                refine wpAnyH_take (i := 26) (oi := { dst := some 80, op := _, type := _, pos := _, after := _, guard := _ }) (v := ?_) rfl (by kernel_rfl) (by kernel_rfl) (by kernel_rfl) (fun _ _ _ h => h) (Or.inl ⟨by rfl, ?_⟩) (by assumption) ?_
                rotate_left
                · (intro w hSw; have s0 := hSw.cellp HCQ.out.1; have s1 := hSw.cellp HCQ.out.2.1; have s3 := hSw.cellp HCQ.out.2.2.1; have s4 := hSw.cellp HCQ.out.2.2.2.1; have s5 := hSw.cellp HCQ.out.2.2.2.2.1; have s6 := hSw.cellp HCQ.out.2.2.2.2.2.1; have s7 := hSw.cellp HCQ.out.2.2.2.2.2.2.1; have s8 := hSw.cellp HCQ.out.2.2.2.2.2.2.2; clear hSw; go_simp; (try with_reducible rfl))
                (try simp only [Act.put, List.setIfInBounds_toArray, List.set_cons_zero, List.set_cons_succ])
                refine wpAnyH_take (i := 27) (oi := { dst := some 81, op := _, type := _, pos := _, after := _, guard := _ }) (v := ?_) rfl (by kernel_rfl) (by kernel_rfl) (by kernel_rfl) (fun _ _ _ h => h) (Or.inl ⟨by rfl, ?_⟩) (by assumption) ?_
                rotate_left
                · (intro w hSw; have s0 := hSw.cellp HCQ.out.1; have s1 := hSw.cellp HCQ.out.2.1; have s3 := hSw.cellp HCQ.out.2.2.1; have s4 := hSw.cellp HCQ.out.2.2.2.1; have s5 := hSw.cellp HCQ.out.2.2.2.2.1; have s6 := hSw.cellp HCQ.out.2.2.2.2.2.1; have s7 := hSw.cellp HCQ.out.2.2.2.2.2.2.1; have s8 := hSw.cellp HCQ.out.2.2.2.2.2.2.2; clear hSw; go_simp; (try with_reducible rfl))
                (try simp only [Act.put, List.setIfInBounds_toArray, List.set_cons_zero, List.set_cons_succ])
                refine wpAnyH_take (i := 28) (oi := { dst := some 82, op := _, type := _, pos := _, after := _, guard := _ }) (v := ?_) rfl (by kernel_rfl) (by kernel_rfl) (by kernel_rfl) (fun _ _ _ h => h) (Or.inl ⟨by rfl, ?_⟩) (by assumption) ?_
                rotate_left
                · (intro w hSw; have s0 := hSw.cellp HCQ.out.1; have s1 := hSw.cellp HCQ.out.2.1; have s3 := hSw.cellp HCQ.out.2.2.1; have s4 := hSw.cellp HCQ.out.2.2.2.1; have s5 := hSw.cellp HCQ.out.2.2.2.2.1; have s6 := hSw.cellp HCQ.out.2.2.2.2.2.1; have s7 := hSw.cellp HCQ.out.2.2.2.2.2.2.1; have s8 := hSw.cellp HCQ.out.2.2.2.2.2.2.2; clear hSw; go_simp; (try with_reducible rfl))
                (try simp only [Act.put, List.setIfInBounds_toArray, List.set_cons_zero, List.set_cons_succ])
                refine wpAnyH_take (i := 29) (oi := { dst := some 83, op := _, type := _, pos := _, after := _, guard := _ }) (v := ?_) rfl (by kernel_rfl) (by kernel_rfl) (by kernel_rfl) (fun _ _ _ h => h) (Or.inl ⟨by rfl, ?_⟩) (by assumption) ?_
                rotate_left
                · (intro w hSw; have s0 := hSw.cellp HCQ.out.1; have s1 := hSw.cellp HCQ.out.2.1; have s3 := hSw.cellp HCQ.out.2.2.1; have s4 := hSw.cellp HCQ.out.2.2.2.1; have s5 := hSw.cellp HCQ.out.2.2.2.2.1; have s6 := hSw.cellp HCQ.out.2.2.2.2.2.1; have s7 := hSw.cellp HCQ.out.2.2.2.2.2.2.1; have s8 := hSw.cellp HCQ.out.2.2.2.2.2.2.2; clear hSw; go_simp; (try with_reducible rfl))
                (try simp only [Act.put, List.setIfInBounds_toArray, List.set_cons_zero, List.set_cons_succ])
                refine wpAnyH_take (i := 30) (oi := { dst := some 84, op := _, type := _, pos := _, after := _, guard := _ }) (v := ?_) rfl (by kernel_rfl) (by kernel_rfl) (by kernel_rfl) (fun _ _ _ h => h) (Or.inl ⟨by rfl, ?_⟩) (by assumption) ?_
                rotate_left
                · (intro w hSw; have s0 := hSw.cellp HCQ.out.1; have s1 := hSw.cellp HCQ.out.2.1; have s3 := hSw.cellp HCQ.out.2.2.1; have s4 := hSw.cellp HCQ.out.2.2.2.1; have s5 := hSw.cellp HCQ.out.2.2.2.2.1; have s6 := hSw.cellp HCQ.out.2.2.2.2.2.1; have s7 := hSw.cellp HCQ.out.2.2.2.2.2.2.1; have s8 := hSw.cellp HCQ.out.2.2.2.2.2.2.2; clear hSw; go_simp; (try with_reducible rfl))
                (try simp only [Act.put, List.setIfInBounds_toArray, List.set_cons_zero, List.set_cons_succ])
                refine wpAnyH_take (i := 31) (oi := { dst := some 85, op := _, type := _, pos := _, after := _, guard := _ }) (v := ?_) rfl (by kernel_rfl) (by kernel_rfl) (by kernel_rfl) (fun _ _ _ h => h) (Or.inl ⟨by rfl, ?_⟩) (by assumption) ?_
                rotate_left
                · (intro w hSw; have s0 := hSw.cellp HCQ.out.1; have s1 := hSw.cellp HCQ.out.2.1; have s3 := hSw.cellp HCQ.out.2.2.1; have s4 := hSw.cellp HCQ.out.2.2.2.1; have s5 := hSw.cellp HCQ.out.2.2.2.2.1; have s6 := hSw.cellp HCQ.out.2.2.2.2.2.1; have s7 := hSw.cellp HCQ.out.2.2.2.2.2.2.1; have s8 := hSw.cellp HCQ.out.2.2.2.2.2.2.2; clear hSw; go_simp; (try with_reducible rfl))
                (try simp only [Act.put, List.setIfInBounds_toArray, List.set_cons_zero, List.set_cons_succ])
                refine wpAnyH_take (i := 32) (oi := { dst := some 86, op := _, type := _, pos := _, after := _, guard := _ }) (v := ?_) rfl (by kernel_rfl) (by kernel_rfl) (by kernel_rfl) (fun _ _ _ h => h) (Or.inl ⟨by rfl, ?_⟩) (by assumption) ?_
                rotate_left
                · (intro w hSw; have s0 := hSw.cellp HCQ.out.1; have s1 := hSw.cellp HCQ.out.2.1; have s3 := hSw.cellp HCQ.out.2.2.1; have s4 := hSw.cellp HCQ.out.2.2.2.1; have s5 := hSw.cellp HCQ.out.2.2.2.2.1; have s6 := hSw.cellp HCQ.out.2.2.2.2.2.1; have s7 := hSw.cellp HCQ.out.2.2.2.2.2.2.1; have s8 := hSw.cellp HCQ.out.2.2.2.2.2.2.2; clear hSw; go_simp; (try with_reducible rfl))
                (try simp only [Act.put, List.setIfInBounds_toArray, List.set_cons_zero, List.set_cons_succ])
                refine wpAnyH_take (i := 33) (oi := { dst := some 87, op := _, type := _, pos := _, after := _, guard := _ }) (v := ?_) rfl (by kernel_rfl) (by kernel_rfl) (by kernel_rfl) (fun _ _ _ h => h) (Or.inl ⟨by rfl, ?_⟩) (by assumption) ?_
                rotate_left
                · (intro w hSw; have s0 := hSw.cellp HCQ.out.1; have s1 := hSw.cellp HCQ.out.2.1; have s3 := hSw.cellp HCQ.out.2.2.1; have s4 := hSw.cellp HCQ.out.2.2.2.1; have s5 := hSw.cellp HCQ.out.2.2.2.2.1; have s6 := hSw.cellp HCQ.out.2.2.2.2.2.1; have s7 := hSw.cellp HCQ.out.2.2.2.2.2.2.1; have s8 := hSw.cellp HCQ.out.2.2.2.2.2.2.2; clear hSw; go_simp; (try with_reducible rfl))
                (try simp only [Act.put, List.setIfInBounds_toArray, List.set_cons_zero, List.set_cons_succ])
                refine wpAnyH_take (i := 34) (oi := { dst := some 88, op := _, type := _, pos := _, after := _, guard := _ }) (v := ?_) rfl (by kernel_rfl) (by kernel_rfl) (by kernel_rfl) (fun _ _ _ h => h) (Or.inl ⟨by rfl, ?_⟩) (by assumption) ?_
                rotate_left
                · (intro w hSw; have s0 := hSw.cellp HCQ.out.1; have s1 := hSw.cellp HCQ.out.2.1; have s3 := hSw.cellp HCQ.out.2.2.1; have s4 := hSw.cellp HCQ.out.2.2.2.1; have s5 := hSw.cellp HCQ.out.2.2.2.2.1; have s6 := hSw.cellp HCQ.out.2.2.2.2.2.1; have s7 := hSw.cellp HCQ.out.2.2.2.2.2.2.1; have s8 := hSw.cellp HCQ.out.2.2.2.2.2.2.2; clear hSw; go_simp; (try with_reducible rfl))
                (try simp only [Act.put, List.setIfInBounds_toArray, List.set_cons_zero, List.set_cons_succ])
                refine wpAnyH_ready (rs := [17]) (by kernel_rfl) (by simp) ?_
                refine AllReadyH.cons (o := { dst := some 71, op := _, type := _, pos := _, after := _, guard := _ }) rfl (fun K hK => ?_) AllReadyH.nil
                go_simp
                refine (HG1.out _ hHeld).mono ?_
                rintro e wA ⟨rfl, kwA⟩
                have HwA := hidMk kwA
                clear kwA
                (try go_wp2_with fail)
                refine hK.out _ _ ?_ (fun hHeld => ?_)
                · (first | exact hHeld.trans HwB.out | exact hHeld.trans HwA.out)
                clear hK K
                (try simp only [Act.put, List.setIfInBounds_toArray, List.set_cons_zero, List.set_cons_succ])
                refine wpAnyH_ready (rs := [35]) (by kernel_rfl) (by simp) ?_
                refine AllReadyH.cons (o := { dst := some 89, op := _, type := _, pos := _, after := _, guard := _ }) rfl (fun K hK => ?_) AllReadyH.nil
                go_simp
                refine (HG2.out _ hHeld).mono ?_
                rintro e wB ⟨rfl, kwB⟩
                have HwB := hidMk kwB
                clear kwB
                (try go_wp2_with fail)
                refine hK.out _ _ ?_ (fun hHeld => ?_)
                · (first | exact hHeld.trans HwB.out | exact hHeld.trans HwA.out)
                clear hK K
                (try simp only [Act.put, List.setIfInBounds_toArray, List.set_cons_zero, List.set_cons_succ])
                refine wpAnyH_take (i := 36) (oi := { dst := some 90, op := _, type := _, pos := _, after := _, guard := _ }) (v := ?_) rfl (by kernel_rfl) (by kernel_rfl) (by kernel_rfl) (fun _ _ _ h => h) (Or.inl ⟨by rfl, ?_⟩) (by assumption) ?_
                rotate_left
                · (intro w hSw; have s0 := hSw.cellp HCQ.out.1; have s1 := hSw.cellp HCQ.out.2.1; have s3 := hSw.cellp HCQ.out.2.2.1; have s4 := hSw.cellp HCQ.out.2.2.2.1; have s5 := hSw.cellp HCQ.out.2.2.2.2.1; have s6 := hSw.cellp HCQ.out.2.2.2.2.2.1; have s7 := hSw.cellp HCQ.out.2.2.2.2.2.2.1; have s8 := hSw.cellp HCQ.out.2.2.2.2.2.2.2; clear hSw; go_simp; (try with_reducible rfl))
                (try simp only [Act.put, List.setIfInBounds_toArray, List.set_cons_zero, List.set_cons_succ])
                refine wpAnyH_done (by kernel_rfl) ?_ _
                clear hHeld
                have HOB := hidMk (show ∀ o, OwnI (wB.alloc o) wq.heap.size (.slice sa ln sc) ((selL nd (lvls cn) x y 0 j).map fun x => x.1) from fun o => HR.out.2.kp (((((Kept.refl _).drew).trans HwA.out).trans HwB.out).alloc o))
                have HKB := hidMk (show Kept wq wB from (HKR.out.drew.trans HwA.out).trans HwB.out)
                have HWS := hidMk (show wq.heap.size ≤ wB.heap.size from HKB.out.size)
                go_wp2_with (at_builtin; refine wpList_pushI _ (by rfl) _ _ (by rfl) wq.heap.size (.slice sa ln sc) ((selL nd (lvls cn) x y 0 j).map fun x => x.1) (by rfl) (HOB.out _) (by have := HWS.out; simp; omega) wB.heap.size (j : Int) (by rfl) (new_cell_at _ _ _ rfl) (by have := HLN.out; omega) (wB.heap.size + 1) (by simp) ?_; intro g6 cap6 w6 o6 k6 a6 l6; have H6 := hidMk o6; have C6 := hidMk (Chg.kept (HKB.out.alloc _) k6 (fun z hz => ((HOB.out (.cells #[.int .i64 (j : Int)] 3)).lt z hz).1)); clear o6 k6 a6 l6)
                go_roundg (gk - 1)
                case measure => have := HG.out; omega
                case rel => exact ⟨j + 1, by have := HG.out; omega, by omega, by go_num, hidMk ⟨C6.out, by have h6 := H6.out; rw [List.length_map] at h6; rw [HS2.out, List.map_append]; exact h6⟩⟩
            · have hje : j = cn := by omega
              subst hje
              have hj' : ¬ ((j : Int) < (j : Int)) := by omega
              have HLN := hidMk (show ((selL nd (lvls j) x y 0 j).map fun x => x.1).length ≤ maxLen from by unfold maxLen; rw [List.length_map]; omega)
              clear hsl
              go_upto_region 17 with fail
              clear y2
              refine wp_region_held_drew (S := (fun w' => Kept wq w')) (by kernel_rfl) ?_ (fun hHeld => ?_)
              · exact HKR.out.drew
              refine wpAnyH_take (i := 0) (oi := { dst := some 96, op := _, type := _, pos := _, after := _, guard := _ }) (v := ?_) rfl (by kernel_rfl) (by kernel_rfl) (by kernel_rfl) (fun _ _ _ h => h) (Or.inl ⟨by rfl, ?_⟩) (by assumption) ?_
              rotate_left
              · (intro w hSw; have s0 := hSw.cellp HCQ.out.1; have s1 := hSw.cellp HCQ.out.2.1; have s3 := hSw.cellp HCQ.out.2.2.1; have s4 := hSw.cellp HCQ.out.2.2.2.1; have s5 := hSw.cellp HCQ.out.2.2.2.2.1; have s6 := hSw.cellp HCQ.out.2.2.2.2.2.1; have s7 := hSw.cellp HCQ.out.2.2.2.2.2.2.1; have s8 := hSw.cellp HCQ.out.2.2.2.2.2.2.2; clear hSw; go_simp; (try with_reducible rfl))
              (try simp only [Act.put, List.setIfInBounds_toArray, List.set_cons_zero, List.set_cons_succ])
              refine wpAnyH_take (i := 1) (oi := { dst := some 97, op := _, type := _, pos := _, after := _, guard := _ }) (v := ?_) rfl (by kernel_rfl) (by kernel_rfl) (by kernel_rfl) (fun _ _ _ h => h) (Or.inl ⟨by rfl, ?_⟩) (by assumption) ?_
              rotate_left
              · (intro w hSw; have s0 := hSw.cellp HCQ.out.1; have s1 := hSw.cellp HCQ.out.2.1; have s3 := hSw.cellp HCQ.out.2.2.1; have s4 := hSw.cellp HCQ.out.2.2.2.1; have s5 := hSw.cellp HCQ.out.2.2.2.2.1; have s6 := hSw.cellp HCQ.out.2.2.2.2.2.1; have s7 := hSw.cellp HCQ.out.2.2.2.2.2.2.1; have s8 := hSw.cellp HCQ.out.2.2.2.2.2.2.2; clear hSw; go_simp; (try with_reducible rfl))
              (try simp only [Act.put, List.setIfInBounds_toArray, List.set_cons_zero, List.set_cons_succ])
              refine wpAnyH_take (i := 2) (oi := { dst := some 98, op := _, type := _, pos := _, after := _, guard := _ }) (v := ?_) rfl (by kernel_rfl) (by kernel_rfl) (by kernel_rfl) (fun _ _ _ h => h) (Or.inl ⟨by rfl, ?_⟩) (by assumption) ?_
              rotate_left
              · (intro w hSw; have s0 := hSw.cellp HCQ.out.1; have s1 := hSw.cellp HCQ.out.2.1; have s3 := hSw.cellp HCQ.out.2.2.1; have s4 := hSw.cellp HCQ.out.2.2.2.1; have s5 := hSw.cellp HCQ.out.2.2.2.2.1; have s6 := hSw.cellp HCQ.out.2.2.2.2.2.1; have s7 := hSw.cellp HCQ.out.2.2.2.2.2.2.1; have s8 := hSw.cellp HCQ.out.2.2.2.2.2.2.2; clear hSw; go_simp; (try with_reducible rfl))
              (try simp only [Act.put, List.setIfInBounds_toArray, List.set_cons_zero, List.set_cons_succ])
              refine wpAnyH_take (i := 3) (oi := { dst := some 99, op := _, type := _, pos := _, after := _, guard := _ }) (v := ?_) rfl (by kernel_rfl) (by kernel_rfl) (by kernel_rfl) (fun _ _ _ h => h) (Or.inl ⟨by rfl, ?_⟩) (by assumption) ?_
              rotate_left
              · (intro w hSw; have s0 := hSw.cellp HCQ.out.1; have s1 := hSw.cellp HCQ.out.2.1; have s3 := hSw.cellp HCQ.out.2.2.1; have s4 := hSw.cellp HCQ.out.2.2.2.1; have s5 := hSw.cellp HCQ.out.2.2.2.2.1; have s6 := hSw.cellp HCQ.out.2.2.2.2.2.1; have s7 := hSw.cellp HCQ.out.2.2.2.2.2.2.1; have s8 := hSw.cellp HCQ.out.2.2.2.2.2.2.2; clear hSw; go_simp; (try with_reducible rfl))
              (try simp only [Act.put, List.setIfInBounds_toArray, List.set_cons_zero, List.set_cons_succ])
              refine wpAnyH_take (i := 4) (oi := { dst := some 100, op := _, type := _, pos := _, after := _, guard := _ }) (v := ?_) rfl (by kernel_rfl) (by kernel_rfl) (by kernel_rfl) (fun _ _ _ h => h) (Or.inl ⟨by rfl, ?_⟩) (by assumption) ?_
              rotate_left
              · (intro w hSw; have s0 := hSw.cellp HCQ.out.1; have s1 := hSw.cellp HCQ.out.2.1; have s3 := hSw.cellp HCQ.out.2.2.1; have s4 := hSw.cellp HCQ.out.2.2.2.1; have s5 := hSw.cellp HCQ.out.2.2.2.2.1; have s6 := hSw.cellp HCQ.out.2.2.2.2.2.1; have s7 := hSw.cellp HCQ.out.2.2.2.2.2.2.1; have s8 := hSw.cellp HCQ.out.2.2.2.2.2.2.2; clear hSw; go_simp; (try with_reducible rfl))
              (try simp only [Act.put, List.setIfInBounds_toArray, List.set_cons_zero, List.set_cons_succ])
              refine wpAnyH_take (i := 5) (oi := { dst := some 101, op := _, type := _, pos := _, after := _, guard := _ }) (v := ?_) rfl (by kernel_rfl) (by kernel_rfl) (by kernel_rfl) (fun _ _ _ h => h) (Or.inl ⟨by rfl, ?_⟩) (by assumption) ?_
              rotate_left
              · (intro w hSw; have s0 := hSw.cellp HCQ.out.1; have s1 := hSw.cellp HCQ.out.2.1; have s3 := hSw.cellp HCQ.out.2.2.1; have s4 := hSw.cellp HCQ.out.2.2.2.1; have s5 := hSw.cellp HCQ.out.2.2.2.2.1; have s6 := hSw.cellp HCQ.out.2.2.2.2.2.1; have s7 := hSw.cellp HCQ.out.2.2.2.2.2.2.1; have s8 := hSw.cellp HCQ.out.2.2.2.2.2.2.2; clear hSw; go_simp; (try with_reducible rfl))
              (try simp only [Act.put, List.setIfInBounds_toArray, List.set_cons_zero, List.set_cons_succ])
              refine wpAnyH_take (i := 6) (oi := { dst := some 102, op := _, type := _, pos := _, after := _, guard := _ }) (v := ?_) rfl (by kernel_rfl) (by kernel_rfl) (by kernel_rfl) (fun _ _ _ h => h) (Or.inl ⟨by rfl, ?_⟩) (by assumption) ?_
              rotate_left
              · (intro w hSw; have s0 := hSw.cellp HCQ.out.1; have s1 := hSw.cellp HCQ.out.2.1; have s3 := hSw.cellp HCQ.out.2.2.1; have s4 := hSw.cellp HCQ.out.2.2.2.1; have s5 := hSw.cellp HCQ.out.2.2.2.2.1; have s6 := hSw.cellp HCQ.out.2.2.2.2.2.1; have s7 := hSw.cellp HCQ.out.2.2.2.2.2.2.1; have s8 := hSw.cellp HCQ.out.2.2.2.2.2.2.2; clear hSw; go_simp; (try with_reducible rfl))
              (try simp only [Act.put, List.setIfInBounds_toArray, List.set_cons_zero, List.set_cons_succ])
              refine wpAnyH_take (i := 7) (oi := { dst := some 103, op := _, type := _, pos := _, after := _, guard := _ }) (v := ?_) rfl (by kernel_rfl) (by kernel_rfl) (by kernel_rfl) (fun _ _ _ h => h) (Or.inl ⟨by rfl, ?_⟩) (by assumption) ?_
              rotate_left
              · (intro w hSw; have s0 := hSw.cellp HCQ.out.1; have s1 := hSw.cellp HCQ.out.2.1; have s3 := hSw.cellp HCQ.out.2.2.1; have s4 := hSw.cellp HCQ.out.2.2.2.1; have s5 := hSw.cellp HCQ.out.2.2.2.2.1; have s6 := hSw.cellp HCQ.out.2.2.2.2.2.1; have s7 := hSw.cellp HCQ.out.2.2.2.2.2.2.1; have s8 := hSw.cellp HCQ.out.2.2.2.2.2.2.2; clear hSw; go_simp; (try with_reducible rfl))
              (try simp only [Act.put, List.setIfInBounds_toArray, List.set_cons_zero, List.set_cons_succ])
              refine wpAnyH_take (i := 8) (oi := { dst := some 104, op := _, type := _, pos := _, after := _, guard := _ }) (v := ?_) rfl (by kernel_rfl) (by kernel_rfl) (by kernel_rfl) (fun _ _ _ h => h) (Or.inl ⟨by rfl, ?_⟩) (by assumption) ?_
              rotate_left
              · (intro w hSw; have s0 := hSw.cellp HCQ.out.1; have s1 := hSw.cellp HCQ.out.2.1; have s3 := hSw.cellp HCQ.out.2.2.1; have s4 := hSw.cellp HCQ.out.2.2.2.1; have s5 := hSw.cellp HCQ.out.2.2.2.2.1; have s6 := hSw.cellp HCQ.out.2.2.2.2.2.1; have s7 := hSw.cellp HCQ.out.2.2.2.2.2.2.1; have s8 := hSw.cellp HCQ.out.2.2.2.2.2.2.2; clear hSw; go_simp; (try with_reducible rfl))
              (try simp only [Act.put, List.setIfInBounds_toArray, List.set_cons_zero, List.set_cons_succ])
              refine wpAnyH_take (i := 9) (oi := { dst := some 105, op := _, type := _, pos := _, after := _, guard := _ }) (v := ?_) rfl (by kernel_rfl) (by kernel_rfl) (by kernel_rfl) (fun _ _ _ h => h) (Or.inl ⟨by rfl, ?_⟩) (by assumption) ?_
              rotate_left
              · (intro w hSw; have s0 := hSw.cellp HCQ.out.1; have s1 := hSw.cellp HCQ.out.2.1; have s3 := hSw.cellp HCQ.out.2.2.1; have s4 := hSw.cellp HCQ.out.2.2.2.1; have s5 := hSw.cellp HCQ.out.2.2.2.2.1; have s6 := hSw.cellp HCQ.out.2.2.2.2.2.1; have s7 := hSw.cellp HCQ.out.2.2.2.2.2.2.1; have s8 := hSw.cellp HCQ.out.2.2.2.2.2.2.2; clear hSw; go_simp; (try with_reducible rfl))
              (try simp only [Act.put, List.setIfInBounds_toArray, List.set_cons_zero, List.set_cons_succ])
              refine wpAnyH_take (i := 10) (oi := { dst := some 106, op := _, type := _, pos := _, after := _, guard := _ }) (v := ?_) rfl (by kernel_rfl) (by kernel_rfl) (by kernel_rfl) (fun _ _ _ h => h) (Or.inl ⟨by rfl, ?_⟩) (by assumption) ?_
              rotate_left
              · (intro w hSw; have s0 := hSw.cellp HCQ.out.1; have s1 := hSw.cellp HCQ.out.2.1; have s3 := hSw.cellp HCQ.out.2.2.1; have s4 := hSw.cellp HCQ.out.2.2.2.1; have s5 := hSw.cellp HCQ.out.2.2.2.2.1; have s6 := hSw.cellp HCQ.out.2.2.2.2.2.1; have s7 := hSw.cellp HCQ.out.2.2.2.2.2.2.1; have s8 := hSw.cellp HCQ.out.2.2.2.2.2.2.2; clear hSw; go_simp; (try with_reducible rfl))
              (try simp only [Act.put, List.setIfInBounds_toArray, List.set_cons_zero, List.set_cons_succ])
              refine wpAnyH_take (i := 11) (oi := { dst := some 107, op := _, type := _, pos := _, after := _, guard := _ }) (v := ?_) rfl (by kernel_rfl) (by kernel_rfl) (by kernel_rfl) (fun _ _ _ h => h) (Or.inl ⟨by rfl, ?_⟩) (by assumption) ?_
              rotate_left
              · (intro w hSw; have s0 := hSw.cellp HCQ.out.1; have s1 := hSw.cellp HCQ.out.2.1; have s3 := hSw.cellp HCQ.out.2.2.1; have s4 := hSw.cellp HCQ.out.2.2.2.1; have s5 := hSw.cellp HCQ.out.2.2.2.2.1; have s6 := hSw.cellp HCQ.out.2.2.2.2.2.1; have s7 := hSw.cellp HCQ.out.2.2.2.2.2.2.1; have s8 := hSw.cellp HCQ.out.2.2.2.2.2.2.2; clear hSw; go_simp; (try with_reducible rfl))
              (try simp only [Act.put, List.setIfInBounds_toArray, List.set_cons_zero, List.set_cons_succ])
              refine wpAnyH_take (i := 12) (oi := { dst := some 108, op := _, type := _, pos := _, after := _, guard := _ }) (v := ?_) rfl (by kernel_rfl) (by kernel_rfl) (by kernel_rfl) (fun _ _ _ h => h) (Or.inl ⟨by rfl, ?_⟩) (by assumption) ?_
              rotate_left
              · (intro w hSw; have s0 := hSw.cellp HCQ.out.1; have s1 := hSw.cellp HCQ.out.2.1; have s3 := hSw.cellp HCQ.out.2.2.1; have s4 := hSw.cellp HCQ.out.2.2.2.1; have s5 := hSw.cellp HCQ.out.2.2.2.2.1; have s6 := hSw.cellp HCQ.out.2.2.2.2.2.1; have s7 := hSw.cellp HCQ.out.2.2.2.2.2.2.1; have s8 := hSw.cellp HCQ.out.2.2.2.2.2.2.2; clear hSw; go_simp; (try with_reducible rfl))
              (try simp only [Act.put, List.setIfInBounds_toArray, List.set_cons_zero, List.set_cons_succ])
              refine wpAnyH_take (i := 13) (oi := { dst := some 109, op := _, type := _, pos := _, after := _, guard := _ }) (v := ?_) rfl (by kernel_rfl) (by kernel_rfl) (by kernel_rfl) (fun _ _ _ h => h) (Or.inl ⟨by rfl, ?_⟩) (by assumption) ?_
              rotate_left
              · (intro w hSw; have s0 := hSw.cellp HCQ.out.1; have s1 := hSw.cellp HCQ.out.2.1; have s3 := hSw.cellp HCQ.out.2.2.1; have s4 := hSw.cellp HCQ.out.2.2.2.1; have s5 := hSw.cellp HCQ.out.2.2.2.2.1; have s6 := hSw.cellp HCQ.out.2.2.2.2.2.1; have s7 := hSw.cellp HCQ.out.2.2.2.2.2.2.1; have s8 := hSw.cellp HCQ.out.2.2.2.2.2.2.2; clear hSw; go_simp; (try with_reducible rfl))
              (try simp only [Act.put, List.setIfInBounds_toArray, List.set_cons_zero, List.set_cons_succ])
              refine wpAnyH_take (i := 14) (oi := { dst := some 110, op := _, type := _, pos := _, after := _, guard := _ }) (v := ?_) rfl (by kernel_rfl) (by kernel_rfl) (by kernel_rfl) (fun _ _ _ h => h) (Or.inl ⟨by rfl, ?_⟩) (by assumption) ?_
              rotate_left
              · (intro w hSw; have s0 := hSw.cellp HCQ.out.1; have s1 := hSw.cellp HCQ.out.2.1; have s3 := hSw.cellp HCQ.out.2.2.1; have s4 := hSw.cellp HCQ.out.2.2.2.1; have s5 := hSw.cellp HCQ.out.2.2.2.2.1; have s6 := hSw.cellp HCQ.out.2.2.2.2.2.1; have s7 := hSw.cellp HCQ.out.2.2.2.2.2.2.1; have s8 := hSw.cellp HCQ.out.2.2.2.2.2.2.2; clear hSw; go_simp; (try with_reducible rfl))
              (try simp only [Act.put, List.setIfInBounds_toArray, List.set_cons_zero, List.set_cons_succ])
              refine wpAnyH_take (i := 15) (oi := { dst := some 111, op := _, type := _, pos := _, after := _, guard := _ }) (v := ?_) rfl (by kernel_rfl) (by kernel_rfl) (by kernel_rfl) (fun _ _ _ h => h) (Or.inl ⟨by rfl, ?_⟩) (by assumption) ?_
              rotate_left
              · (intro w hSw; have s0 := hSw.cellp HCQ.out.1; have s1 := hSw.cellp HCQ.out.2.1; have s3 := hSw.cellp HCQ.out.2.2.1; have s4 := hSw.cellp HCQ.out.2.2.2.1; have s5 := hSw.cellp HCQ.out.2.2.2.2.1; have s6 := hSw.cellp HCQ.out.2.2.2.2.2.1; have s7 := hSw.cellp HCQ.out.2.2.2.2.2.2.1; have s8 := hSw.cellp HCQ.out.2.2.2.2.2.2.2; clear hSw; go_simp; (try with_reducible rfl))
              (try simp only [Act.put, List.setIfInBounds_toArray, List.set_cons_zero, List.set_cons_succ])
              refine wpAnyH_take (i := 16) (oi := { dst := some 112, op := _, type := _, pos := _, after := _, guard := _ }) (v := ?_) rfl (by kernel_rfl) (by kernel_rfl) (by kernel_rfl) (fun _ _ _ h => h) (Or.inl ⟨by rfl, ?_⟩) (by assumption) ?_
              rotate_left
              · (intro w hSw; have s0 := hSw.cellp HCQ.out.1; have s1 := hSw.cellp HCQ.out.2.1; have s3 := hSw.cellp HCQ.out.2.2.1; have s4 := hSw.cellp HCQ.out.2.2.2.1; have s5 := hSw.cellp HCQ.out.2.2.2.2.1; have s6 := hSw.cellp HCQ.out.2.2.2.2.2.1; have s7 := hSw.cellp HCQ.out.2.2.2.2.2.2.1; have s8 := hSw.cellp HCQ.out.2.2.2.2.2.2.2; clear hSw; go_simp; (try with_reducible rfl))
              (try simp only [Act.put, List.setIfInBounds_toArray, List.set_cons_zero, List.set_cons_succ])
              refine wpAnyH_take (i := 17) (oi := { dst := some 113, op := _, type := _, pos := _, after := _, guard := _ }) (v := ?_) rfl (by kernel_rfl) (by kernel_rfl) (by kernel_rfl) (fun _ _ _ h => h) (Or.inl ⟨by rfl, ?_⟩) (by assumption) ?_
              rotate_left
              · (intro w hSw; have s0 := hSw.cellp HCQ.out.1; have s1 := hSw.cellp HCQ.out.2.1; have s3 := hSw.cellp HCQ.out.2.2.1; have s4 := hSw.cellp HCQ.out.2.2.2.1; have s5 := hSw.cellp HCQ.out.2.2.2.2.1; have s6 := hSw.cellp HCQ.out.2.2.2.2.2.1; have s7 := hSw.cellp HCQ.out.2.2.2.2.2.2.1; have s8 := hSw.cellp HCQ.out.2.2.2.2.2.2.2; clear hSw; go_simp; (try with_reducible rfl))
              (try simp only [Act.put, List.setIfInBounds_toArray, List.set_cons_zero, List.set_cons_succ])
              refine wpAnyH_take (i := 18) (oi := { dst := some 114, op := _, type := _, pos := _, after := _, guard := _ }) (v := ?_) rfl (by kernel_rfl) (by kernel_rfl) (by kernel_rfl) (fun _ _ _ h => h) (Or.inl ⟨by rfl, ?_⟩) (by assumption) ?_
              rotate_left
              · (intro w hSw; have s0 := hSw.cellp HCQ.out.1; have s1 := hSw.cellp HCQ.out.2.1; have s3 := hSw.cellp HCQ.out.2.2.1; have s4 := hSw.cellp HCQ.out.2.2.2.1; have s5 := hSw.cellp HCQ.out.2.2.2.2.1; have s6 := hSw.cellp HCQ.out.2.2.2.2.2.1; have s7 := hSw.cellp HCQ.out.2.2.2.2.2.2.1; have s8 := hSw.cellp HCQ.out.2.2.2.2.2.2.2; clear hSw; go_simp; (try with_reducible rfl))
              (try simp only [Act.put, List.setIfInBounds_toArray, List.set_cons_zero, List.set_cons_succ])
              refine wpAnyH_take (i := 19) (oi := { dst := some 115, op := _, type := _, pos := _, after := _, guard := _ }) (v := ?_) rfl (by kernel_rfl) (by kernel_rfl) (by kernel_rfl) (fun _ _ _ h => h) (Or.inl ⟨by rfl, ?_⟩) (by assumption) ?_
              rotate_left
              · (intro w hSw; have s0 := hSw.cellp HCQ.out.1; have s1 := hSw.cellp HCQ.out.2.1; have s3 := hSw.cellp HCQ.out.2.2.1; have s4 := hSw.cellp HCQ.out.2.2.2.1; have s5 := hSw.cellp HCQ.out.2.2.2.2.1; have s6 := hSw.cellp HCQ.out.2.2.2.2.2.1; have s7 := hSw.cellp HCQ.out.2.2.2.2.2.2.1; have s8 := hSw.cellp HCQ.out.2.2.2.2.2.2.2; clear hSw; go_simp; (try with_reducible rfl))
              (try simp only [Act.put, List.setIfInBounds_toArray, List.set_cons_zero, List.set_cons_succ])
              refine wpAnyH_ready (rs := [20]) (by kernel_rfl) (by simp) ?_
              refine AllReadyH.cons (o := { dst := some 116, op := _, type := _, pos := _, after := _, guard := _ }) rfl (fun K hK => ?_) AllReadyH.nil
              go_simp
              refine (HDF.out _ hHeld).mono ?_
              rintro e wD ⟨v, rfl, hoD, kD⟩
              have HOD := hidMk hoD
              have HKD := hidMk kD
              clear hoD kD
              (try go_wp2_with fail)
              refine hK.out _ _ ?_ (fun hHeld => ?_)
              · exact hHeld.trans HKD.out
              clear hK K
              (try simp only [Act.put, List.setIfInBounds_toArray, List.set_cons_zero, List.set_cons_succ])
              refine wpAnyH_take (i := 21) (oi := { dst := some 95, op := _, type := _, pos := _, after := _, guard := _ }) (v := ?_) rfl (by kernel_rfl) (by kernel_rfl) (by kernel_rfl) (fun _ _ _ h => h) (Or.inl ⟨by rfl, ?_⟩) (by assumption) ?_
              rotate_left
              · (intro w hSw; have s0 := hSw.cellp HCQ.out.1; have s1 := hSw.cellp HCQ.out.2.1; have s3 := hSw.cellp HCQ.out.2.2.1; have s4 := hSw.cellp HCQ.out.2.2.2.1; have s5 := hSw.cellp HCQ.out.2.2.2.2.1; have s6 := hSw.cellp HCQ.out.2.2.2.2.2.1; have s7 := hSw.cellp HCQ.out.2.2.2.2.2.2.1; have s8 := hSw.cellp HCQ.out.2.2.2.2.2.2.2; clear hSw; go_simp; (try with_reducible rfl))
              (try simp only [Act.put, List.setIfInBounds_toArray, List.set_cons_zero, List.set_cons_succ])
              refine wpAnyH_take (i := 22) (oi := { dst := some 117, op := _, type := _, pos := _, after := _, guard := _ }) (v := ?_) rfl (by kernel_rfl) (by kernel_rfl) (by kernel_rfl) (fun _ _ _ h => h) (Or.inl ⟨by rfl, ?_⟩) (by assumption) ?_
              rotate_left
              · (intro w hSw; have s0 := hSw.cellp HCQ.out.1; have s1 := hSw.cellp HCQ.out.2.1; have s3 := hSw.cellp HCQ.out.2.2.1; have s4 := hSw.cellp HCQ.out.2.2.2.1; have s5 := hSw.cellp HCQ.out.2.2.2.2.1; have s6 := hSw.cellp HCQ.out.2.2.2.2.2.1; have s7 := hSw.cellp HCQ.out.2.2.2.2.2.2.1; have s8 := hSw.cellp HCQ.out.2.2.2.2.2.2.2; clear hSw; go_simp; (try with_reducible rfl))
              (try simp only [Act.put, List.setIfInBounds_toArray, List.set_cons_zero, List.set_cons_succ])
              refine wpAnyH_take (i := 23) (oi := { dst := some 118, op := _, type := _, pos := _, after := _, guard := _ }) (v := ?_) rfl (by kernel_rfl) (by kernel_rfl) (by kernel_rfl) (fun _ _ _ h => h) (Or.inl ⟨by rfl, ?_⟩) (by assumption) ?_
              rotate_left
              · (intro w hSw; have s0 := hSw.cellp HCQ.out.1; have s1 := hSw.cellp HCQ.out.2.1; have s3 := hSw.cellp HCQ.out.2.2.1; have s4 := hSw.cellp HCQ.out.2.2.2.1; have s5 := hSw.cellp HCQ.out.2.2.2.2.1; have s6 := hSw.cellp HCQ.out.2.2.2.2.2.1; have s7 := hSw.cellp HCQ.out.2.2.2.2.2.2.1; have s8 := hSw.cellp HCQ.out.2.2.2.2.2.2.2; clear hSw; go_simp; (try with_reducible rfl))
              (try simp only [Act.put, List.setIfInBounds_toArray, List.set_cons_zero, List.set_cons_succ])
              refine wpAnyH_take (i := 24) (oi := { dst := some 15, op := _, type := _, pos := _, after := _, guard := _ }) (v := ?_) rfl (by kernel_rfl) (by kernel_rfl) (by kernel_rfl) (fun _ _ _ h => h) (Or.inl ⟨by rfl, ?_⟩) (by assumption) ?_
              rotate_left
              · (intro w hSw; have s0 := hSw.cellp HCQ.out.1; have s1 := hSw.cellp HCQ.out.2.1; have s3 := hSw.cellp HCQ.out.2.2.1; have s4 := hSw.cellp HCQ.out.2.2.2.1; have s5 := hSw.cellp HCQ.out.2.2.2.2.1; have s6 := hSw.cellp HCQ.out.2.2.2.2.2.1; have s7 := hSw.cellp HCQ.out.2.2.2.2.2.2.1; have s8 := hSw.cellp HCQ.out.2.2.2.2.2.2.2; clear hSw; go_simp; (try with_reducible rfl))
              (try simp only [Act.put, List.setIfInBounds_toArray, List.set_cons_zero, List.set_cons_succ])
              refine wpAnyH_take (i := 25) (oi := { dst := some 16, op := _, type := _, pos := _, after := _, guard := _ }) (v := ?_) rfl (by kernel_rfl) (by kernel_rfl) (by kernel_rfl) (fun _ _ _ h => h) (Or.inl ⟨by rfl, ?_⟩) (by assumption) ?_
              rotate_left
              · (intro w hSw; have s0 := hSw.cellp HCQ.out.1; have s1 := hSw.cellp HCQ.out.2.1; have s3 := hSw.cellp HCQ.out.2.2.1; have s4 := hSw.cellp HCQ.out.2.2.2.1; have s5 := hSw.cellp HCQ.out.2.2.2.2.1; have s6 := hSw.cellp HCQ.out.2.2.2.2.2.1; have s7 := hSw.cellp HCQ.out.2.2.2.2.2.2.1; have s8 := hSw.cellp HCQ.out.2.2.2.2.2.2.2; clear hSw; go_simp; (try with_reducible rfl))
              (try simp only [Act.put, List.setIfInBounds_toArray, List.set_cons_zero, List.set_cons_succ])
              refine wpAnyH_done (by kernel_rfl) ?_ _
              clear hHeld
              obtain ⟨va, vc, hva, hvs⟩ := HOD.out.sl HLN.out
              have HKD2 := hidMk (show Kept wq wD from HKR.out.drew.trans HKD.out)
              have HRW := hidMk (HR.out.2.kp (((Kept.refl wr).drew).trans HKD.out))
              obtain ⟨ra, rc, hra, hrs⟩ := HRW.out.sl HLN.out
              subst hva
              have hra2 := hra
              clear hra
              injection hra2 with e1 e2 e3
              subst e1 e3
              have HIN := hidMk (ref_Ints va sa _ _ vc sc _ _ wD hvs hrs)
              rw [decide_eq_true rfl] at HIN
              generalize ((selL nd (lvls j) x y 0 j).map fun x => x.1).length = z at *
              clear hvs hrs
              go_wp2_with fail
              refine HIN.out.mono ?_
              rintro e w18 ⟨rfl, k18⟩
              have HK18 := hidMk ((HKQ.out.trans HKD2.out).trans k18)
              clear k18 HIN
              go_wp2_with fail
              refine (HKN.out _ HK18.out).mono ?_
              rintro e w20 ⟨rfl, k20⟩
              have HK20 := hidMk (HK18.out.trans k20)
              go_wp2_with fail
              go_ret
              exact ⟨rfl, HK20.out⟩
      · have hk1 : ¬ ((k : Int) < n) := by omega
        clear hkn hkg
        obtain ⟨tb, cap, l, nn, rf, nd, n2, nd2, M, lev, hj, hl1, hM1, hcs⟩ := HL.out
        have HJ := hidMk hj
        obtain ⟨m, hml⟩ : ∃ m, m = l.length := ⟨_, rfl⟩
        have HML := hidMk hml
        have hm6 : m ≤ 60 := by omega
        have HP1 := hidMk (js_pick hj (by omega) a2)
        have HP2 := hidMk (fun X (kX : Kept wr X) => js_pick (hj.keep kX) (by omega) b2)
        clear hj hl1 hM1 hcs HL HDOX hml
        go_wp2_with fail
        refine HP1.out.mono ?_
        rintro e w3 ⟨k1, rfl, hk1m, hk1p, kk3⟩
        have HK3 := hidMk kk3
        clear kk3 HP1
        go_wp2_with fail
        refine (HP2.out _ HK3.out).mono ?_
        rintro e wq ⟨k2, rfl, hk2m, hk2p, kk4⟩
        have HJQ := hidMk (HJ.out.keep (HK3.out.trans kk4))
        have HK1 := hidMk (And.intro hk1m hk1p)
        have HK2 := hidMk (And.intro hk2m hk2p)
        have hx1 : (k1 : Int) < m := by have := HML.out; omega
        have hx2 : (k2 : Int) < m := by have := HML.out; omega
        clear kk4 HP2 hk1m hk1p hk2m hk2p HJ HK3
        obtain ⟨x, hx⟩ : ∃ x, x = (l.getD k1 (0, 0)).1 := ⟨_, rfl⟩
        obtain ⟨y, hy⟩ : ∃ x, x = (l.getD k2 (0, 0)).1 := ⟨_, rfl⟩
        have HCQ := hidMk (show wq.cell? ⟨t, 0, none⟩ = some (.pointer (some ⟨g, 0, none⟩)) ∧ wq.cell? ⟨t, 1, none⟩ = some (.pointer (some ⟨q, 0, none⟩)) ∧ wq.cell? ⟨t, 3, none⟩ = some (.int .i64 (lvls cd)) ∧ wq.cell? ⟨t, 4, none⟩ = some (.slice (some ⟨tb, 0, none⟩) m cap) ∧ wq.cell? ⟨tb, k1 * 3 + 1, none⟩ = some (.int .i64 x) ∧ wq.cell? ⟨tb, k2 * 3 + 1, none⟩ = some (.int .i64 y) ∧ wq.cell? ⟨tb, k1 * 3, none⟩ = some (.int .i64 x) ∧ wq.cell? ⟨tb, k2 * 3, none⟩ = some (.int .i64 y) from by
          have h1 := HJQ.out.cells HK1.out.1
          have h2 := HJQ.out.cells HK2.out.1
          rw [← hx] at h1
          rw [← hy] at h2
          exact ⟨HJQ.out.pl.c0, HJQ.out.pl.c1, HJQ.out.pl.c3, by rw [HML.out]; exact HJQ.out.pl.c4, h1.2.1, h2.2.1, h1.1, h2.1⟩)
        have HC2 := hidMk HJQ.out.pl.c2
        have HGA := hidMk (fun (c : Nat) (hc : (c : Int) < cd) X (kX : Kept wq X) => js_rget HJQ.out HK1.out.1 HK1.out.2 kX c hc)
        have HGB := hidMk (fun (c : Nat) (hc : (c : Int) < cd) X (kX : Kept wq X) => js_rget HJQ.out HK2.out.1 HK2.out.2 kX c hc)
        have HDF := hidMk (fun X (kX : Kept wq X) => js_Differ HJQ.out HK1.out.1 HK1.out.2 HK2.out.1 HK2.out.2 kX)
        rw [← hx] at HGA HDF
        rw [← hy] at HGB HDF
        obtain ⟨cn, hcn⟩ : ∃ cn : Nat, cd = (cn : Int) := ⟨cd.toNat, by have := HCD.out; omega⟩
        have hcn7 : cn ≤ 70 := by have := HCD.out; omega
        have HKQ := hidMk HJQ.out.ba.kept
        subst hcn
        rw [Int.toNat_natCast] at HDF
        clear hx hy HML HJQ HK1 HK2
        go_wp2_with fail
        go_loopg [13, 14] (cn + 1) (fun gg sv s wr => ∃ j : Nat, j + gg = cn + 1 ∧ j ≤ cn ∧ s = .int .i64 j ∧ Hid (Kept wq wr ∧ OwnI wr wq.heap.size sv ((selL nd (lvls cn) x y 0 j).map fun x => x.1)))
        case atStart => exact ⟨0, by omega, by omega, rfl, hidMk ⟨Kept.refl _, ownI_nil _ _⟩⟩
        case round =>
          obtain ⟨j, hjg, hjc, rfl, HR⟩ := hrel
          have HG := hidMk hjg
          have HKR := hidMk HR.out.1
          have y2 := HR.out.1.cellp HC2.out
          have hlen := selL_len nd (lvls cn) x y 0 j
          clear hjg
          obtain ⟨sa, sc, hsv, hsl⟩ := HR.out.2.sl (by unfold maxLen; rw [List.length_map]; omega)
          subst hsv
          generalize hln : ((selL nd (lvls cn) x y 0 j).map fun x => x.1).length = ln at *
          have HLNE := hidMk hln
          clear hln
          by_cases hj : j < cn
          · have hj' : (j : Int) < (cn : Int) := by omega
            have HG1 := hidMk (HGA.out j hj')
            have HG2 := hidMk (HGB.out j hj')
            obtain ⟨⟨p1, p2⟩, hp⟩ : ∃ z, z = entL nd (lvls cn) x j := ⟨_, rfl⟩
            obtain ⟨⟨q1, q2⟩, hq⟩ : ∃ z, z = entL nd (lvls cn) y j := ⟨_, rfl⟩
            rw [← hp] at HG1
            rw [← hq] at HG2
            simp only at HG1 HG2
            have hsn := selL_snoc nd (lvls cn) x y 0 j
            rw [← hp, ← hq, Int.zero_add] at hsn
            by_cases hE : (p1, p2) = (q1, q2)
            · have heq : ∀ W, (Op.equalIn 10000 39 (.agg #[.int .i64 p1, .bool p2]) (.agg #[.int .i64 q1, .bool q2])).run Tryd.prog W = .ok true W := fun W => by rw [en_eq 9998, decide_eq_true hE]
              have HS2 := hidMk (show selL nd (lvls cn) x y 0 (j + 1) = selL nd (lvls cn) x y 0 j from by rw [hsn]; unfold sel; rw [if_pos hE, List.append_nil])
              clear hsn hp hq hE hsl
              go_upto_region 15 with fail
              clear y2
              refine wp_region_held_drew (S := (fun w' => Kept wq w')) (by kernel_rfl) ?_ (fun hHeld => ?_)
              · exact HKR.out.drew
              refine wpAnyH_take (i := 0) (oi := { dst := some 54, op := _, type := _, pos := _, after := _, guard := _ }) (v := ?_) rfl (by kernel_rfl) (by kernel_rfl) (by kernel_rfl) (fun _ _ _ h => h) (Or.inl ⟨by rfl, ?_⟩) (by assumption) ?_
              rotate_left
              · (intro w hSw; have s0 := hSw.cellp HCQ.out.1; have s1 := hSw.cellp HCQ.out.2.1; have s3 := hSw.cellp HCQ.out.2.2.1; have s4 := hSw.cellp HCQ.out.2.2.2.1; have s5 := hSw.cellp HCQ.out.2.2.2.2.1; have s6 := hSw.cellp HCQ.out.2.2.2.2.2.1; have s7 := hSw.cellp HCQ.out.2.2.2.2.2.2.1; have s8 := hSw.cellp HCQ.out.2.2.2.2.2.2.2; clear hSw; go_simp; (try with_reducible rfl))
              (try simp only [Act.put, List.setIfInBounds_toArray, List.set_cons_zero, List.set_cons_succ])
              refine wpAnyH_take (i := 1) (oi := { dst := some 55, op := _, type := _, pos := _, after := _, guard := _ }) (v := ?_) rfl (by kernel_rfl) (by kernel_rfl) (by kernel_rfl) (fun _ _ _ h => h) (Or.inl ⟨by rfl, ?_⟩) (by assumption) ?_
              rotate_left
              · (intro w hSw; have s0 := hSw.cellp HCQ.out.1; have s1 := hSw.cellp HCQ.out.2.1; have s3 := hSw.cellp HCQ.out.2.2.1; have s4 := hSw.cellp HCQ.out.2.2.2.1; have s5 := hSw.cellp HCQ.out.2.2.2.2.1; have s6 := hSw.cellp HCQ.out.2.2.2.2.2.1; have s7 := hSw.cellp HCQ.out.2.2.2.2.2.2.1; have s8 := hSw.cellp HCQ.out.2.2.2.2.2.2.2; clear hSw; go_simp; (try with_reducible rfl))
              (try simp only [Act.put, List.setIfInBounds_toArray, List.set_cons_zero, List.set_cons_succ])
              refine wpAnyH_take (i := 2) (oi := { dst := some 56, op := _, type := _, pos := _, after := _, guard := _ }) (v := ?_) rfl (by kernel_rfl) (by kernel_rfl) (by kernel_rfl) (fun _ _ _ h => h) (Or.inl ⟨by rfl, ?_⟩) (by assumption) ?_
              rotate_left
              · (intro w hSw; have s0 := hSw.cellp HCQ.out.1; have s1 := hSw.cellp HCQ.out.2.1; have s3 := hSw.cellp HCQ.out.2.2.1; have s4 := hSw.cellp HCQ.out.2.2.2.1; have s5 := hSw.cellp HCQ.out.2.2.2.2.1; have s6 := hSw.cellp HCQ.out.2.2.2.2.2.1; have s7 := hSw.cellp HCQ.out.2.2.2.2.2.2.1; have s8 := hSw.cellp HCQ.out.2.2.2.2.2.2.2; clear hSw; go_simp; (try with_reducible rfl))
              (try simp only [Act.put, List.setIfInBounds_toArray, List.set_cons_zero, List.set_cons_succ])
              refine wpAnyH_take (i := 3) (oi := { dst := some 57, op := _, type := _, pos := _, after := _, guard := _ }) (v := ?_) rfl (by kernel_rfl) (by kernel_rfl) (by kernel_rfl) (fun _ _ _ h => h) (Or.inl ⟨by rfl, ?_⟩) (by assumption) ?_
              rotate_left
              · (intro w hSw; have s0 := hSw.cellp HCQ.out.1; have s1 := hSw.cellp HCQ.out.2.1; have s3 := hSw.cellp HCQ.out.2.2.1; have s4 := hSw.cellp HCQ.out.2.2.2.1; have s5 := hSw.cellp HCQ.out.2.2.2.2.1; have s6 := hSw.cellp HCQ.out.2.2.2.2.2.1; have s7 := hSw.cellp HCQ.out.2.2.2.2.2.2.1; have s8 := hSw.cellp HCQ.out.2.2.2.2.2.2.2; clear hSw; go_simp; (try with_reducible rfl))
              (try simp only [Act.put, List.setIfInBounds_toArray, List.set_cons_zero, List.set_cons_succ])
              refine wpAnyH_take (i := 4) (oi := { dst := some 58, op := _, type := _, pos := _, after := _, guard := _ }) (v := ?_) rfl (by kernel_rfl) (by kernel_rfl) (by kernel_rfl) (fun _ _ _ h => h) (Or.inl ⟨by rfl, ?_⟩) (by assumption) ?_
              rotate_left
              · (intro w hSw; have s0 := hSw.cellp HCQ.out.1; have s1 := hSw.cellp HCQ.out.2.1; have s3 := hSw.cellp HCQ.out.2.2.1; have s4 := hSw.cellp HCQ.out.2.2.2.1; have s5 := hSw.cellp HCQ.out.2.2.2.2.1; have s6 := hSw.cellp HCQ.out.2.2.2.2.2.1; have s7 := hSw.cellp HCQ.out.2.2.2.2.2.2.1; have s8 := hSw.cellp HCQ.out.2.2.2.2.2.2.2; clear hSw; go_simp; (try with_reducible rfl))
              (try simp only [Act.put, List.setIfInBounds_toArray, List.set_cons_zero, List.set_cons_succ])
              refine wpAnyH_take (i := 5) (oi := { dst := some 59, op := _, type := _, pos := _, after := _, guard := _ }) (v := ?_) rfl (by kernel_rfl) (by kernel_rfl) (by kernel_rfl) (fun _ _ _ h => h) (Or.inl ⟨by rfl, ?_⟩) (by assumption) ?_
              rotate_left
              · (intro w hSw; have s0 := hSw.cellp HCQ.out.1; have s1 := hSw.cellp HCQ.out.2.1; have s3 := hSw.cellp HCQ.out.2.2.1; have s4 := hSw.cellp HCQ.out.2.2.2.1; have s5 := hSw.cellp HCQ.out.2.2.2.2.1; have s6 := hSw.cellp HCQ.out.2.2.2.2.2.1; have s7 := hSw.cellp HCQ.out.2.2.2.2.2.2.1; have s8 := hSw.cellp HCQ.out.2.2.2.2.2.2.2; clear hSw; go_simp; (try with_reducible rfl))
              (try simp only [Act.put, List.setIfInBounds_toArray, List.set_cons_zero, List.set_cons_succ])
              refine wpAnyH_take (i := 6) (oi := { dst := some 60, op := _, type := _, pos := _, after := _, guard := _ }) (v := ?_) rfl (by kernel_rfl) (by kernel_rfl) (by kernel_rfl) (fun _ _ _ h => h) (Or.inl ⟨by rfl, ?_⟩) (by assumption) ?_
              rotate_left
              · (intro w hSw; have s0 := hSw.cellp HCQ.out.1; have s1 := hSw.cellp HCQ.out.2.1; have s3 := hSw.cellp HCQ.out.2.2.1; have s4 := hSw.cellp HCQ.out.2.2.2.1; have s5 := hSw.cellp HCQ.out.2.2.2.2.1; have s6 := hSw.cellp HCQ.out.2.2.2.2.2.1; have s7 := hSw.cellp HCQ.out.2.2.2.2.2.2.1; have s8 := hSw.cellp HCQ.out.2.2.2.2.2.2.2; clear hSw; go_simp; (try with_reducible rfl))
              (try simp only [Act.put, List.setIfInBounds_toArray, List.set_cons_zero, List.set_cons_succ])
              refine wpAnyH_take (i := 7) (oi := { dst := some 61, op := _, type := _, pos := _, after := _, guard := _ }) (v := ?_) rfl (by kernel_rfl) (by kernel_rfl) (by kernel_rfl) (fun _ _ _ h => h) (Or.inl ⟨by rfl, ?_⟩) (by assumption) ?_
              rotate_left
              · (intro w hSw; have s0 := hSw.cellp HCQ.out.1; have s1 := hSw.cellp HCQ.out.2.1; have s3 := hSw.cellp HCQ.out.2.2.1; have s4 := hSw.cellp HCQ.out.2.2.2.1; have s5 := hSw.cellp HCQ.out.2.2.2.2.1; have s6 := hSw.cellp HCQ.out.2.2.2.2.2.1; have s7 := hSw.cellp HCQ.out.2.2.2.2.2.2.1; have s8 := hSw.cellp HCQ.out.2.2.2.2.2.2.2; clear hSw; go_simp; (try with_reducible rfl))
              (try simp only [Act.put, List.setIfInBounds_toArray, List.set_cons_zero, List.set_cons_succ])
              refine wpAnyH_take (i := 8) (oi := { dst := some 62, op := _, type := _, pos := _, after := _, guard := _ }) (v := ?_) rfl (by kernel_rfl) (by kernel_rfl) (by kernel_rfl) (fun _ _ _ h => h) (Or.inl ⟨by rfl, ?_⟩) (by assumption) ?_
              rotate_left
              · (intro w hSw; have s0 := hSw.cellp HCQ.out.1; have s1 := hSw.cellp HCQ.out.2.1; have s3 := hSw.cellp HCQ.out.2.2.1; have s4 := hSw.cellp HCQ.out.2.2.2.1; have s5 := hSw.cellp HCQ.out.2.2.2.2.1; have s6 := hSw.cellp HCQ.out.2.2.2.2.2.1; have s7 := hSw.cellp HCQ.out.2.2.2.2.2.2.1; have s8 := hSw.cellp HCQ.out.2.2.2.2.2.2.2; clear hSw; go_simp; (try with_reducible rfl))
              (try simp only [Act.put, List.setIfInBounds_toArray, List.set_cons_zero, List.set_cons_succ])
              refine wpAnyH_take (i := 9) (oi := { dst := some 63, op := _, type := _, pos := _, after := _, guard := _ }) (v := ?_) rfl (by kernel_rfl) (by kernel_rfl) (by kernel_rfl) (fun _ _ _ h => h) (Or.inl ⟨by rfl, ?_⟩) (by assumption) ?_
              rotate_left
              · (intro w hSw; have s0 := hSw.cellp HCQ.out.1; have s1 := hSw.cellp HCQ.out.2.1; have s3 := hSw.cellp HCQ.out.2.2.1; have s4 := hSw.cellp HCQ.out.2.2.2.1; have s5 := hSw.cellp HCQ.out.2.2.2.2.1; have s6 := hSw.cellp HCQ.out.2.2.2.2.2.1; have s7 := hSw.cellp HCQ.out.2.2.2.2.2.2.1; have s8 := hSw.cellp HCQ.out.2.2.2.2.2.2.2; clear hSw; go_simp; (try with_reducible rfl))
              (try simp only [Act.put, List.setIfInBounds_toArray, List.set_cons_zero, List.set_cons_succ])
              refine wpAnyH_take (i := 10) (oi := { dst := some 64, op := _, type := _, pos := _, after := _, guard := _ }) (v := ?_) rfl (by kernel_rfl) (by kernel_rfl) (by kernel_rfl) (fun _ _ _ h => h) (Or.inl ⟨by rfl, ?_⟩) (by assumption) ?_
              rotate_left
              · (intro w hSw; have s0 := hSw.cellp HCQ.out.1; have s1 := hSw.cellp HCQ.out.2.1; have s3 := hSw.cellp HCQ.out.2.2.1; have s4 := hSw.cellp HCQ.out.2.2.2.1; have s5 := hSw.cellp HCQ.out.2.2.2.2.1; have s6 := hSw.cellp HCQ.out.2.2.2.2.2.1; have s7 := hSw.cellp HCQ.out.2.2.2.2.2.2.1; have s8 := hSw.cellp HCQ.out.2.2.2.2.2.2.2; clear hSw; go_simp; (try with_reducible rfl))
              (try simp only [Act.put, List.setIfInBounds_toArray, List.set_cons_zero, List.set_cons_succ])
              refine wpAnyH_take (i := 11) (oi := { dst := some 65, op := _, type := _, pos := _, after := _, guard := _ }) (v := ?_) rfl (by kernel_rfl) (by kernel_rfl) (by kernel_rfl) (fun _ _ _ h => h) (Or.inl ⟨by rfl, ?_⟩) (by assumption) ?_
              rotate_left
              · (intro w hSw; have s0 := hSw.cellp HCQ.out.1; have s1 := hSw.cellp HCQ.out.2.1; have s3 := hSw.cellp HCQ.out.2.2.1; have s4 := hSw.cellp HCQ.out.2.2.2.1; have s5 := hSw.cellp HCQ.out.2.2.2.2.1; have s6 := hSw.cellp HCQ.out.2.2.2.2.2.1; have s7 := hSw.cellp HCQ.out.2.2.2.2.2.2.1; have s8 := hSw.cellp HCQ.out.2.2.2.2.2.2.2; clear hSw; go_simp; (try with_reducible rfl))
              (try simp only [Act.put, List.setIfInBounds_toArray, List.set_cons_zero, List.set_cons_succ])
              refine wpAnyH_take (i := 12) (oi := { dst := some 66, op := _, type := _, pos := _, after := _, guard := _ }) (v := ?_) rfl (by kernel_rfl) (by kernel_rfl) (by kernel_rfl) (fun _ _ _ h => h) (Or.inl ⟨by rfl, ?_⟩) (by assumption) ?_
              rotate_left
              · (intro w hSw; have s0 := hSw.cellp HCQ.out.1; have s1 := hSw.cellp HCQ.out.2.1; have s3 := hSw.cellp HCQ.out.2.2.1; have s4 := hSw.cellp HCQ.out.2.2.2.1; have s5 := hSw.cellp HCQ.out.2.2.2.2.1; have s6 := hSw.cellp HCQ.out.2.2.2.2.2.1; have s7 := hSw.cellp HCQ.out.2.2.2.2.2.2.1; have s8 := hSw.cellp HCQ.out.2.2.2.2.2.2.2; clear hSw; go_simp; (try with_reducible rfl))
              (try simp only [Act.put, List.setIfInBounds_toArray, List.set_cons_zero, List.set_cons_succ])
              refine wpAnyH_take (i := 13) (oi := { dst := some 67, op := _, type := _, pos := _, after := _, guard := _ }) (v := ?_) rfl (by kernel_rfl) (by kernel_rfl) (by kernel_rfl) (fun _ _ _ h => h) (Or.inl ⟨by rfl, ?_⟩) (by assumption) ?_
              rotate_left
              · (intro w hSw; have s0 := hSw.cellp HCQ.out.1; have s1 := hSw.cellp HCQ.out.2.1; have s3 := hSw.cellp HCQ.out.2.2.1; have s4 := hSw.cellp HCQ.out.2.2.2.1; have s5 := hSw.cellp HCQ.out.2.2.2.2.1; have s6 := hSw.cellp HCQ.out.2.2.2.2.2.1; have s7 := hSw.cellp HCQ.out.2.2.2.2.2.2.1; have s8 := hSw.cellp HCQ.out.2.2.2.2.2.2.2; clear hSw; go_simp; (try with_reducible rfl))
              (try simp only [Act.put, List.setIfInBounds_toArray, List.set_cons_zero, List.set_cons_succ])
              refine wpAnyH_take (i := 14) (oi := { dst := some 68, op := _, type := _, pos := _, after := _, guard := _ }) (v := ?_) rfl (by kernel_rfl) (by kernel_rfl) (by kernel_rfl) (fun _ _ _ h => h) (Or.inl ⟨by rfl, ?_⟩) (by assumption) ?_
              rotate_left
              · (intro w hSw; have s0 := hSw.cellp HCQ.out.1; have s1 := hSw.cellp HCQ.out.2.1; have s3 := hSw.cellp HCQ.out.2.2.1; have s4 := hSw.cellp HCQ.out.2.2.2.1; have s5 := hSw.cellp HCQ.out.2.2.2.2.1; have s6 := hSw.cellp HCQ.out.2.2.2.2.2.1; have s7 := hSw.cellp HCQ.out.2.2.2.2.2.2.1; have s8 := hSw.cellp HCQ.out.2.2.2.2.2.2.2; clear hSw; go_simp; (try with_reducible rfl))
              (try simp only [Act.put, List.setIfInBounds_toArray, List.set_cons_zero, List.set_cons_succ])
              refine wpAnyH_take (i := 15) (oi := { dst := some 69, op := _, type := _, pos := _, after := _, guard := _ }) (v := ?_) rfl (by kernel_rfl) (by kernel_rfl) (by kernel_rfl) (fun _ _ _ h => h) (Or.inl ⟨by rfl, ?_⟩) (by assumption) ?_
              rotate_left
              · (intro w hSw; have s0 := hSw.cellp HCQ.out.1; have s1 := hSw.cellp HCQ.out.2.1; have s3 := hSw.cellp HCQ.out.2.2.1; have s4 := hSw.cellp HCQ.out.2.2.2.1; have s5 := hSw.cellp HCQ.out.2.2.2.2.1; have s6 := hSw.cellp HCQ.out.2.2.2.2.2.1; have s7 := hSw.cellp HCQ.out.2.2.2.2.2.2.1; have s8 := hSw.cellp HCQ.out.2.2.2.2.2.2.2; clear hSw; go_simp; (try with_reducible rfl))
              (try simp only [Act.put, List.setIfInBounds_toArray, List.set_cons_zero, List.set_cons_succ])
              refine wpAnyH_take (i := 16) (oi := { dst := some 70, op := _, type := _, pos := _, after := _, guard := _ }) (v := ?_) rfl (by kernel_rfl) (by kernel_rfl) (by kernel_rfl) (fun _ _ _ h => h) (Or.inl ⟨by rfl, ?_⟩) (by assumption) ?_
              rotate_left
              · (intro w hSw; have s0 := hSw.cellp HCQ.out.1; have s1 := hSw.cellp HCQ.out.2.1; have s3 := hSw.cellp HCQ.out.2.2.1; have s4 := hSw.cellp HCQ.out.2.2.2.1; have s5 := hSw.cellp HCQ.out.2.2.2.2.1; have s6 := hSw.cellp HCQ.out.2.2.2.2.2.1; have s7 := hSw.cellp HCQ.out.2.2.2.2.2.2.1; have s8 := hSw.cellp HCQ.out.2.2.2.2.2.2.2; clear hSw; go_simp; (try with_reducible rfl))
              (try simp only [Act.put, List.setIfInBounds_toArray, List.set_cons_zero, List.set_cons_succ])
              refine wpAnyH_take (i := 18) (oi := { dst := some 72, op := _, type := _, pos := _, after := _, guard := _ }) (v := ?_) rfl (by kernel_rfl) (by kernel_rfl) (by kernel_rfl) (fun _ _ _ h => h) (Or.inl ⟨by rfl, ?_⟩) (by assumption) ?_
              rotate_left
              · (intro w hSw; have s0 := hSw.cellp HCQ.out.1; have s1 := hSw.cellp HCQ.out.2.1; have s3 := hSw.cellp HCQ.out.2.2.1; have s4 := hSw.cellp HCQ.out.2.2.2.1; have s5 := hSw.cellp HCQ.out.2.2.2.2.1; have s6 := hSw.cellp HCQ.out.2.2.2.2.2.1; have s7 := hSw.cellp HCQ.out.2.2.2.2.2.2.1; have s8 := hSw.cellp HCQ.out.2.2.2.2.2.2.2; clear hSw; go_simp; (try with_reducible rfl))
              (try simp only [Act.put, List.setIfInBounds_toArray, List.set_cons_zero, List.set_cons_succ])
              refine wpAnyH_take (i := 19) (oi := { dst := some 73, op := _, type := _, pos := _, after := _, guard := _ }) (v := ?_) rfl (by kernel_rfl) (by kernel_rfl) (by kernel_rfl) (fun _ _ _ h => h) (Or.inl ⟨by rfl, ?_⟩) (by assumption) ?_
              rotate_left
              · (intro w hSw; have s0 := hSw.cellp HCQ.out.1; have s1 := hSw.cellp HCQ.out.2.1; have s3 := hSw.cellp HCQ.out.2.2.1; have s4 := hSw.cellp HCQ.out.2.2.2.1; have s5 := hSw.cellp HCQ.out.2.2.2.2.1; have s6 := hSw.cellp HCQ.out.2.2.2.2.2.1; have s7 := hSw.cellp HCQ.out.2.2.2.2.2.2.1; have s8 := hSw.cellp HCQ.out.2.2.2.2.2.2.2; clear hSw; go_simp; (try with_reducible rfl))
              (try simp only [Act.put, List.setIfInBounds_toArray, List.set_cons_zero, List.set_cons_succ])
              refine wpAnyH_take (i := 20) (oi := { dst := some 74, op := _, type := _, pos := _, after := _, guard := _ }) (v := ?_) rfl (by kernel_rfl) (by kernel_rfl) (by kernel_rfl) (fun _ _ _ h => h) (Or.inl ⟨by rfl, ?_⟩) (by assumption) ?_
              rotate_left
              · (intro w hSw; have s0 := hSw.cellp HCQ.out.1; have s1 := hSw.cellp HCQ.out.2.1; have s3 := hSw.cellp HCQ.out.2.2.1; have s4 := hSw.cellp HCQ.out.2.2.2.1; have s5 := hSw.cellp HCQ.out.2.2.2.2.1; have s6 := hSw.cellp HCQ.out.2.2.2.2.2.1; have s7 := hSw.cellp HCQ.out.2.2.2.2.2.2.1; have s8 := hSw.cellp HCQ.out.2.2.2.2.2.2.2; clear hSw; go_simp; (try with_reducible rfl))
              (try simp only [Act.put, List.setIfInBounds_toArray, List.set_cons_zero, List.set_cons_succ])
              refine wpAnyH_take (i := 21) (oi := { dst := some 75, op := _, type := _, pos := _, after := _, guard := _ }) (v := ?_) rfl (by kernel_rfl) (by kernel_rfl) (by kernel_rfl) (fun _ _ _ h => h) (Or.inl ⟨by rfl, ?_⟩) (by assumption) ?_
              rotate_left
              · (intro w hSw; have s0 := hSw.cellp HCQ.out.1; have s1 := hSw.cellp HCQ.out.2.1; have s3 := hSw.cellp HCQ.out.2.2.1; have s4 := hSw.cellp HCQ.out.2.2.2.1; have s5 := hSw.cellp HCQ.out.2.2.2.2.1; have s6 := hSw.cellp HCQ.out.2.2.2.2.2.1; have s7 := hSw.cellp HCQ.out.2.2.2.2.2.2.1; have s8 := hSw.cellp HCQ.out.2.2.2.2.2.2.2; clear hSw; go_simp; (try with_reducible rfl))
              (try simp only [Act.put, List.setIfInBounds_toArray, List.set_cons_zero, List.set_cons_succ])
              refine wpAnyH_take (i := 22) (oi := { dst := some 76, op := _, type := _, pos := _, after := _, guard := _ }) (v := ?_) rfl (by kernel_rfl) (by kernel_rfl) (by kernel_rfl) (fun _ _ _ h => h) (Or.inl ⟨by rfl, ?_⟩) (by assumption) ?_
              rotate_left
              · (intro w hSw; have s0 := hSw.cellp HCQ.out.1; have s1 := hSw.cellp HCQ.out.2.1; have s3 := hSw.cellp HCQ.out.2.2.1; have s4 := hSw.cellp HCQ.out.2.2.2.1; have s5 := hSw.cellp HCQ.out.2.2.2.2.1; have s6 := hSw.cellp HCQ.out.2.2.2.2.2.1; have s7 := hSw.cellp HCQ.out.2.2.2.2.2.2.1; have s8 := hSw.cellp HCQ.out.2.2.2.2.2.2.2; clear hSw; go_simp; (try with_reducible rfl))
              (try simp only [Act.put, List.setIfInBounds_toArray, List.set_cons_zero, List.set_cons_succ])
              refine wpAnyH_take (i := 23) (oi := { dst := some 77, op := _, type := _, pos := _, after := _, guard := _ }) (v := ?_) rfl (by kernel_rfl) (by kernel_rfl) (by kernel_rfl) (fun _ _ _ h => h) (Or.inl ⟨by rfl, ?_⟩) (by assumption) ?_
              rotate_left
              · (intro w hSw; have s0 := hSw.cellp HCQ.out.1; have s1 := hSw.cellp HCQ.out.2.1; have s3 := hSw.cellp HCQ.out.2.2.1; have s4 := hSw.cellp HCQ.out.2.2.2.1; have s5 := hSw.cellp HCQ.out.2.2.2.2.1; have s6 := hSw.cellp HCQ.out.2.2.2.2.2.1; have s7 := hSw.cellp HCQ.out.2.2.2.2.2.2.1; have s8 := hSw.cellp HCQ.out.2.2.2.2.2.2.2; clear hSw; go_simp; (try with_reducible rfl))
              (try simp only [Act.put, List.setIfInBounds_toArray, List.set_cons_zero, List.set_cons_succ])
              refine wpAnyH_take (i := 24) (oi := { dst := some 78, op := _, type := _, pos := _, after := _, guard := _ }) (v := ?_) rfl (by kernel_rfl) (by kernel_rfl) (by kernel_rfl) (fun _ _ _ h => h) (Or.inl ⟨by rfl, ?_⟩) (by assumption) ?_
              rotate_left
              · (intro w hSw; have s0 := hSw.cellp HCQ.out.1; have s1 := hSw.cellp HCQ.out.2.1; have s3 := hSw.cellp HCQ.out.2.2.1; have s4 := hSw.cellp HCQ.out.2.2.2.1; have s5 := hSw.cellp HCQ.out.2.2.2.2.1; have s6 := hSw.cellp HCQ.out.2.2.2.2.2.1; have s7 := hSw.cellp HCQ.out.2.2.2.2.2.2.1; have s8 := hSw.cellp HCQ.out.2.2.2.2.2.2.2; clear hSw; go_simp; (try with_reducible rfl))
              (try simp only [Act.put, List.setIfInBounds_toArray, List.set_cons_zero, List.set_cons_succ])
              refine wpAnyH_take (i := 25) (oi := { dst := some 79, op := _, type := _, pos := _, after := _, guard := _ }) (v := ?_) rfl (by kernel_rfl) (by kernel_rfl) (by kernel_rfl) (fun _ _ _ h => h) (Or.inl ⟨by rfl, ?_⟩) (by assumption) ?_
              rotate_left
              · (intro w hSw; have s0 := hSw.cellp HCQ.out.1; have s1 := hSw.cellp HCQ.out.2.1; have s3 := hSw.cellp HCQ.out.2.2.1; have s4 := hSw.cellp HCQ.out.2.2.2.1; have s5 := hSw.cellp HCQ.out.2.2.2.2.1; have s6 := hSw.cellp HCQ.out.2.2.2.2.2.1; have s7 := hSw.cellp HCQ.out.2.2.2.2.2.2.1; have s8 := hSw.cellp HCQ.out.2.2.2.2.2.2.2; clear hSw; go_simp; (try with_reducible rfl))
              (try simp only [Act.put, List.setIfInBounds_toArray, List.set_cons_zero, List.set_cons_succ])
              refine wpAnyH_take (i := 26) (oi := { dst := some 80, op := _, type := _, pos := _, after := _, guard := _ }) (v := ?_) rfl (by kernel_rfl) (by kernel_rfl) (by kernel_rfl) (fun _ _ _ h => h) (Or.inl ⟨by rfl, ?_⟩) (by assumption) ?_
              rotate_left
              · (intro w hSw; have s0 := hSw.cellp HCQ.out.1; have s1 := hSw.cellp HCQ.out.2.1; have s3 := hSw.cellp HCQ.out.2.2.1; have s4 := hSw.cellp HCQ.out.2.2.2.1; have s5 := hSw.cellp HCQ.out.2.2.2.2.1; have s6 := hSw.cellp HCQ.out.2.2.2.2.2.1; have s7 := hSw.cellp HCQ.out.2.2.2.2.2.2.1; have s8 := hSw.cellp HCQ.out.2.2.2.2.2.2.2; clear hSw; go_simp; (try with_reducible rfl))
              (try simp only [Act.put, List.setIfInBounds_toArray, List.set_cons_zero, List.set_cons_succ])
              refine wpAnyH_take (i := 27) (oi := { dst := some 81, op := _, type := _, pos := _, after := _, guard := _ }) (v := ?_) rfl (by kernel_rfl) (by kernel_rfl) (by kernel_rfl) (fun _ _ _ h => h) (Or.inl ⟨by rfl, ?_⟩) (by assumption) ?_
              rotate_left
              · (intro w hSw; have s0 := hSw.cellp HCQ.out.1; have s1 := hSw.cellp HCQ.out.2.1; have s3 := hSw.cellp HCQ.out.2.2.1; have s4 := hSw.cellp HCQ.out.2.2.2.1; have s5 := hSw.cellp HCQ.out.2.2.2.2.1; have s6 := hSw.cellp HCQ.out.2.2.2.2.2.1; have s7 := hSw.cellp HCQ.out.2.2.2.2.2.2.1; have s8 := hSw.cellp HCQ.out.2.2.2.2.2.2.2; clear hSw; go_simp; (try with_reducible rfl))
              (try simp only [Act.put, List.setIfInBounds_toArray, List.set_cons_zero, List.set_cons_succ])
              refine wpAnyH_take (i := 28) (oi := { dst := some 82, op := _, type := _, pos := _, after := _, guard := _ }) (v := ?_) rfl (by kernel_rfl) (by kernel_rfl) (by kernel_rfl) (fun _ _ _ h => h) (Or.inl ⟨by rfl, ?_⟩) (by assumption) ?_
              rotate_left
              · (intro w hSw; have s0 := hSw.cellp HCQ.out.1; have s1 := hSw.cellp HCQ.out.2.1; have s3 := hSw.cellp HCQ.out.2.2.1; have s4 := hSw.cellp HCQ.out.2.2.2.1; have s5 := hSw.cellp HCQ.out.2.2.2.2.1; have s6 := hSw.cellp HCQ.out.2.2.2.2.2.1; have s7 := hSw.cellp HCQ.out.2.2.2.2.2.2.1; have s8 := hSw.cellp HCQ.out.2.2.2.2.2.2.2; clear hSw; go_simp; (try with_reducible rfl))
              (try simp only [Act.put, List.setIfInBounds_toArray, List.set_cons_zero, List.set_cons_succ])
              refine wpAnyH_take (i := 29) (oi := { dst := some 83, op := _, type := _, pos := _, after := _, guard := _ }) (v := ?_) rfl (by kernel_rfl) (by kernel_rfl) (by kernel_rfl) (fun _ _ _ h => h) (Or.inl ⟨by rfl, ?_⟩) (by assumption) ?_
              rotate_left
              · (intro w hSw; have s0 := hSw.cellp HCQ.out.1; have s1 := hSw.cellp HCQ.out.2.1; have s3 := hSw.cellp HCQ.out.2.2.1; have s4 := hSw.cellp HCQ.out.2.2.2.1; have s5 := hSw.cellp HCQ.out.2.2.2.2.1; have s6 := hSw.cellp HCQ.out.2.2.2.2.2.1; have s7 := hSw.cellp HCQ.out.2.2.2.2.2.2.1; have s8 := hSw.cellp HCQ.out.2.2.2.2.2.2.2; clear hSw; go_simp; (try with_reducible rfl))
              (try simp only [Act.put, List.setIfInBounds_toArray, List.set_cons_zero, List.set_cons_succ])
              refine wpAnyH_take (i := 30) (oi := { dst := some 84, op := _, type := _, pos := _, after := _, guard := _ }) (v := ?_) rfl (by kernel_rfl) (by kernel_rfl) (by kernel_rfl) (fun _ _ _ h => h) (Or.inl ⟨by rfl, ?_⟩) (by assumption) ?_
              rotate_left
              · (intro w hSw; have s0 := hSw.cellp HCQ.out.1; have s1 := hSw.cellp HCQ.out.2.1; have s3 := hSw.cellp HCQ.out.2.2.1; have s4 := hSw.cellp HCQ.out.2.2.2.1; have s5 := hSw.cellp HCQ.out.2.2.2.2.1; have s6 := hSw.cellp HCQ.out.2.2.2.2.2.1; have s7 := hSw.cellp HCQ.out.2.2.2.2.2.2.1; have s8 := hSw.cellp HCQ.out.2.2.2.2.2.2.2; clear hSw; go_simp; (try with_reducible rfl))
              (try simp only [Act.put, List.setIfInBounds_toArray, List.set_cons_zero, List.set_cons_succ])
              refine wpAnyH_take (i := 31) (oi := { dst := some 85, op := _, type := _, pos := _, after := _, guard := _ }) (v := ?_) rfl (by kernel_rfl) (by kernel_rfl) (by kernel_rfl) (fun _ _ _ h => h) (Or.inl ⟨by rfl, ?_⟩) (by assumption) ?_
              rotate_left
              · (intro w hSw; have s0 := hSw.cellp HCQ.out.1; have s1 := hSw.cellp HCQ.out.2.1; have s3 := hSw.cellp HCQ.out.2.2.1; have s4 := hSw.cellp HCQ.out.2.2.2.1; have s5 := hSw.cellp HCQ.out.2.2.2.2.1; have s6 := hSw.cellp HCQ.out.2.2.2.2.2.1; have s7 := hSw.cellp HCQ.out.2.2.2.2.2.2.1; have s8 := hSw.cellp HCQ.out.2.2.2.2.2.2.2; clear hSw; go_simp; (try with_reducible rfl))
              (try simp only [Act.put, List.setIfInBounds_toArray, List.set_cons_zero, List.set_cons_succ])
              refine wpAnyH_take (i := 32) (oi := { dst := some 86, op := _, type := _, pos := _, after := _, guard := _ }) (v := ?_) rfl (by kernel_rfl) (by kernel_rfl) (by kernel_rfl) (fun _ _ _ h => h) (Or.inl ⟨by rfl, ?_⟩) (by assumption) ?_
              rotate_left
              · (intro w hSw; have s0 := hSw.cellp HCQ.out.1; have s1 := hSw.cellp HCQ.out.2.1; have s3 := hSw.cellp HCQ.out.2.2.1; have s4 := hSw.cellp HCQ.out.2.2.2.1; have s5 := hSw.cellp HCQ.out.2.2.2.2.1; have s6 := hSw.cellp HCQ.out.2.2.2.2.2.1; have s7 := hSw.cellp HCQ.out.2.2.2.2.2.2.1; have s8 := hSw.cellp HCQ.out.2.2.2.2.2.2.2; clear hSw; go_simp; (try with_reducible rfl))
              (try simp only [Act.put, List.setIfInBounds_toArray, List.set_cons_zero, List.set_cons_succ])
              refine wpAnyH_take (i := 33) (oi := { dst := some 87, op := _, type := _, pos := _, after := _, guard := _ }) (v := ?_) rfl (by kernel_rfl) (by kernel_rfl) (by kernel_rfl) (fun _ _ _ h => h) (Or.inl ⟨by rfl, ?_⟩) (by assumption) ?_
              rotate_left
              · (intro w hSw; have s0 := hSw.cellp HCQ.out.1; have s1 := hSw.cellp HCQ.out.2.1; have s3 := hSw.cellp HCQ.out.2.2.1; have s4 := hSw.cellp HCQ.out.2.2.2.1; have s5 := hSw.cellp HCQ.out.2.2.2.2.1; have s6 := hSw.cellp HCQ.out.2.2.2.2.2.1; have s7 := hSw.cellp HCQ.out.2.2.2.2.2.2.1; have s8 := hSw.cellp HCQ.out.2.2.2.2.2.2.2; clear hSw; go_simp; (try with_reducible rfl))
              (try simp only [Act.put, List.setIfInBounds_toArray, List.set_cons_zero, List.set_cons_succ])
              refine wpAnyH_take (i := 34) (oi := { dst := some 88, op := _, type := _, pos := _, after := _, guard := _ }) (v := ?_) rfl (by kernel_rfl) (by kernel_rfl) (by kernel_rfl) (fun _ _ _ h => h) (Or.inl ⟨by rfl, ?_⟩) (by assumption) ?_
              rotate_left
              · (intro w hSw; have s0 := hSw.cellp HCQ.out.1; have s1 := hSw.cellp HCQ.out.2.1; have s3 := hSw.cellp HCQ.out.2.2.1; have s4 := hSw.cellp HCQ.out.2.2.2.1; have s5 := hSw.cellp HCQ.out.2.2.2.2.1; have s6 := hSw.cellp HCQ.out.2.2.2.2.2.1; have s7 := hSw.cellp HCQ.out.2.2.2.2.2.2.1; have s8 := hSw.cellp HCQ.out.2.2.2.2.2.2.2; clear hSw; go_simp; (try with_reducible rfl))
              (try simp only [Act.put, List.setIfInBounds_toArray, List.set_cons_zero, List.set_cons_succ])
              refine wpAnyH_ready (rs := [17]) (by kernel_rfl) (by simp) ?_
              refine AllReadyH.cons (o := { dst := some 71, op := _, type := _, pos := _, after := _, guard := _ }) rfl (fun K hK => ?_) AllReadyH.nil
              go_simp
              refine (HG1.out _ hHeld).mono ?_
              rintro e wA ⟨rfl, kwA⟩
              have HwA := hidMk kwA
              clear kwA
              (try go_wp2_with fail)
              refine hK.out _ _ ?_ (fun hHeld => ?_)
              · (first | exact hHeld.trans HwB.out | exact hHeld.trans HwA.out)
              clear hK K
              (try simp only [Act.put, List.setIfInBounds_toArray, List.set_cons_zero, List.set_cons_succ])
              refine wpAnyH_ready (rs := [35]) (by kernel_rfl) (by simp) ?_
              refine AllReadyH.cons (o := { dst := some 89, op := _, type := _, pos := _, after := _, guard := _ }) rfl (fun K hK => ?_) AllReadyH.nil
              go_simp
              refine (HG2.out _ hHeld).mono ?_
              rintro e wB ⟨rfl, kwB⟩
              have HwB := hidMk kwB
              clear kwB
              (try go_wp2_with fail)
              refine hK.out _ _ ?_ (fun hHeld => ?_)
              · (first | exact hHeld.trans HwB.out | exact hHeld.trans HwA.out)
              clear hK K
              (try simp only [Act.put, List.setIfInBounds_toArray, List.set_cons_zero, List.set_cons_succ])
              refine wpAnyH_take (i := 36) (oi := { dst := some 90, op := _, type := _, pos := _, after := _, guard := _ }) (v := ?_) rfl (by kernel_rfl) (by kernel_rfl) (by kernel_rfl) (fun _ _ _ h => h) (Or.inl ⟨by rfl, ?_⟩) (by assumption) ?_
              rotate_left
              · (intro w hSw; have s0 := hSw.cellp HCQ.out.1; have s1 := hSw.cellp HCQ.out.2.1; have s3 := hSw.cellp HCQ.out.2.2.1; have s4 := hSw.cellp HCQ.out.2.2.2.1; have s5 := hSw.cellp HCQ.out.2.2.2.2.1; have s6 := hSw.cellp HCQ.out.2.2.2.2.2.1; have s7 := hSw.cellp HCQ.out.2.2.2.2.2.2.1; have s8 := hSw.cellp HCQ.out.2.2.2.2.2.2.2; clear hSw; go_simp; (try with_reducible rfl))
              (try simp only [Act.put, List.setIfInBounds_toArray, List.set_cons_zero, List.set_cons_succ])
              refine wpAnyH_done (by kernel_rfl) ?_ _
              clear hHeld
              go_wp2_with fail
              go_roundg (gk - 1)
              case measure => have := HG.out; omega
              case rel => exact ⟨j + 1, by have := HG.out; omega, by omega, by go_num, hidMk ⟨(HKR.out.drew.trans HwA.out).trans HwB.out, by rw [HS2.out]; exact HR.out.2.kp ((((Kept.refl _).drew).trans HwA.out).trans HwB.out)⟩⟩
            · have heq : ∀ W, (Op.equalIn 10000 39 (.agg #[.int .i64 p1, .bool p2]) (.agg #[.int .i64 q1, .bool q2])).run Tryd.prog W = .ok false W := fun W => by rw [en_eq 9998, decide_eq_false hE]
              have HS2 := hidMk (show selL nd (lvls cn) x y 0 (j + 1) = selL nd (lvls cn) x y 0 j ++ [((j : Int), p1, p2)] from by rw [hsn]; unfold sel; rw [if_neg hE])
              clear hsn hp hq hE hsl
              have HLN := hidMk (show ((selL nd (lvls cn) x y 0 j).map fun x => x.1).length ≤ 70 from by rw [List.length_map]; omega)
              go_upto_region 15 with fail
              clear y2
              refine wp_region_held_drew (S := (fun w' => Kept wq w')) (by kernel_rfl) ?_ (fun hHeld => ?_)
              · exact HKR.out.drew
              refine wpAnyH_take (i := 0) (oi := { dst := some 54, op := _, type := _, pos := _, after := _, guard := _ }) (v := ?_) rfl (by kernel_rfl) (by kernel_rfl) (by kernel_rfl) (fun _ _ _ h => h) (Or.inl ⟨by rfl, ?_⟩) (by assumption) ?_
              rotate_left
              · (intro w hSw; have s0 := hSw.cellp HCQ.out.1; have s1 := hSw.cellp HCQ.out.2.1; have s3 := hSw.cellp HCQ.out.2.2.1; have s4 := hSw.cellp HCQ.out.2.2.2.1; have s5 := hSw.cellp HCQ.out.2.2.2.2.1; have s6 := hSw.cellp HCQ.out.2.2.2.2.2.1; have s7 := hSw.cellp HCQ.out.2.2.2.2.2.2.1; have s8 := hSw.cellp HCQ.out.2.2.2.2.2.2.2; clear hSw; go_simp; (try with_reducible rfl))
              (try simp only [Act.put, List.setIfInBounds_toArray, List.set_cons_zero, List.set_cons_succ])
              refine wpAnyH_take (i := 1) (oi := { dst := some 55, op := _, type := _, pos := _, after := _, guard := _ }) (v := ?_) rfl (by kernel_rfl) (by kernel_rfl) (by kernel_rfl) (fun _ _ _ h => h) (Or.inl ⟨by rfl, ?_⟩) (by assumption) ?_
              rotate_left
              · (intro w hSw; have s0 := hSw.cellp HCQ.out.1; have s1 := hSw.cellp HCQ.out.2.1; have s3 := hSw.cellp HCQ.out.2.2.1; have s4 := hSw.cellp HCQ.out.2.2.2.1; have s5 := hSw.cellp HCQ.out.2.2.2.2.1; have s6 := hSw.cellp HCQ.out.2.2.2.2.2.1; have s7 := hSw.cellp HCQ.out.2.2.2.2.2.2.1; have s8 := hSw.cellp HCQ.out.2.2.2.2.2.2.2; clear hSw; go_simp; (try with_reducible rfl))
              (try simp only [Act.put, List.setIfInBounds_toArray, List.set_cons_zero, List.set_cons_succ])
              refine wpAnyH_take (i := 2) (oi := { dst := some 56, op := _, type := _, pos := _, after := _, guard := _ }) (v := ?_) rfl (by kernel_rfl) (by kernel_rfl) (by kernel_rfl) (fun _ _ _ h => h) (Or.inl ⟨by rfl, ?_⟩) (by assumption) ?_
              rotate_left
              · (intro w hSw; have s0 := hSw.cellp HCQ.out.1; have s1 := hSw.cellp HCQ.out.2.1; have s3 := hSw.cellp HCQ.out.2.2.1; have s4 := hSw.cellp HCQ.out.2.2.2.1; have s5 := hSw.cellp HCQ.out.2.2.2.2.1; have s6 := hSw.cellp HCQ.out.2.2.2.2.2.1; have s7 := hSw.cellp HCQ.out.2.2.2.2.2.2.1; have s8 := hSw.cellp HCQ.out.2.2.2.2.2.2.2; clear hSw; go_simp; (try with_reducible rfl))
              (try simp only [Act.put, List.setIfInBounds_toArray, List.set_cons_zero, List.set_cons_succ])
              refine wpAnyH_take (i := 3) (oi := { dst := some 57, op := _, type := _, pos := _, after := _, guard := _ }) (v := ?_) rfl (by kernel_rfl) (by kernel_rfl) (by kernel_rfl) (fun _ _ _ h => h) (Or.inl ⟨by rfl, ?_⟩) (by assumption) ?_
              rotate_left
              · (intro w hSw; have s0 := hSw.cellp HCQ.out.1; have s1 := hSw.cellp HCQ.out.2.1; have s3 := hSw.cellp HCQ.out.2.2.1; have s4 := hSw.cellp HCQ.out.2.2.2.1; have s5 := hSw.cellp HCQ.out.2.2.2.2.1; have s6 := hSw.cellp HCQ.out.2.2.2.2.2.1; have s7 := hSw.cellp HCQ.out.2.2.2.2.2.2.1; have s8 := hSw.cellp HCQ.out.2.2.2.2.2.2.2; clear hSw; go_simp; (try with_reducible rfl))
              (try simp only [Act.put, List.setIfInBounds_toArray, List.set_cons_zero, List.set_cons_succ])
              refine wpAnyH_take (i := 4) (oi := { dst := some 58, op := _, type := _, pos := _, after := _, guard := _ }) (v := ?_) rfl (by kernel_rfl) (by kernel_rfl) (by kernel_rfl) (fun _ _ _ h => h) (Or.inl ⟨by rfl, ?_⟩) (by assumption) ?_
              rotate_left
              · (intro w hSw; have s0 := hSw.cellp HCQ.out.1; have s1 := hSw.cellp HCQ.out.2.1; have s3 := hSw.cellp HCQ.out.2.2.1; have s4 := hSw.cellp HCQ.out.2.2.2.1; have s5 := hSw.cellp HCQ.out.2.2.2.2.1; have s6 := hSw.cellp HCQ.out.2.2.2.2.2.1; have s7 := hSw.cellp HCQ.out.2.2.2.2.2.2.1; have s8 := hSw.cellp HCQ.out.2.2.2.2.2.2.2; clear hSw; go_simp; (try with_reducible rfl))
              (try simp only [Act.put, List.setIfInBounds_toArray, List.set_cons_zero, List.set_cons_succ])
              refine wpAnyH_take (i := 5) (oi := { dst := some 59, op := _, type := _, pos := _, after := _, guard := _ }) (v := ?_) rfl (by kernel_rfl) (by kernel_rfl) (by kernel_rfl) (fun _ _ _ h => h) (Or.inl ⟨by rfl, ?_⟩) (by assumption) ?_
              rotate_left
              · (intro w hSw; have s0 := hSw.cellp HCQ.out.1; have s1 := hSw.cellp HCQ.out.2.1; have s3 := hSw.cellp HCQ.out.2.2.1; have s4 := hSw.cellp HCQ.out.2.2.2.1; have s5 := hSw.cellp HCQ.out.2.2.2.2.1; have s6 := hSw.cellp HCQ.out.2.2.2.2.2.1; have s7 := hSw.cellp HCQ.out.2.2.2.2.2.2.1; have s8 := hSw.cellp HCQ.out.2.2.2.2.2.2.2; clear hSw; go_simp; (try with_reducible rfl))
              (try simp only [Act.put, List.setIfInBounds_toArray, List.set_cons_zero, List.set_cons_succ])
              refine wpAnyH_take (i := 6) (oi := { dst := some 60, op := _, type := _, pos := _, after := _, guard := _ }) (v := ?_) rfl (by kernel_rfl) (by kernel_rfl) (by kernel_rfl) (fun _ _ _ h => h) (Or.inl ⟨by rfl, ?_⟩) (by assumption) ?_
              rotate_left
              · (intro w hSw; have s0 := hSw.cellp HCQ.out.1; have s1 := hSw.cellp HCQ.out.2.1; have s3 := hSw.cellp HCQ.out.2.2.1; have s4 := hSw.cellp HCQ.out.2.2.2.1; have s5 := hSw.cellp HCQ.out.2.2.2.2.1; have s6 := hSw.cellp HCQ.out.2.2.2.2.2.1; have s7 := hSw.cellp HCQ.out.2.2.2.2.2.2.1; have s8 := hSw.cellp HCQ.out.2.2.2.2.2.2.2; clear hSw; go_simp; (try with_reducible rfl))
              (try simp only [Act.put, List.setIfInBounds_toArray, List.set_cons_zero, List.set_cons_succ])
              refine wpAnyH_take (i := 7) (oi := { dst := some 61, op := _, type := _, pos := _, after := _, guard := _ }) (v := ?_) rfl (by kernel_rfl) (by kernel_rfl) (by kernel_rfl) (fun _ _ _ h => h) (Or.inl ⟨by rfl, ?_⟩) (by assumption) ?_
              rotate_left
              · (intro w hSw; have s0 := hSw.cellp HCQ.out.1; have s1 := hSw.cellp HCQ.out.2.1; have s3 := hSw.cellp HCQ.out.2.2.1; have s4 := hSw.cellp HCQ.out.2.2.2.1; have s5 := hSw.cellp HCQ.out.2.2.2.2.1; have s6 := hSw.cellp HCQ.out.2.2.2.2.2.1; have s7 := hSw.cellp HCQ.out.2.2.2.2.2.2.1; have s8 := hSw.cellp HCQ.out.2.2.2.2.2.2.2; clear hSw; go_simp; (try with_reducible rfl))
              (try simp only [Act.put, List.setIfInBounds_toArray, List.set_cons_zero, List.set_cons_succ])
              refine wpAnyH_take (i := 8) (oi := { dst := some 62, op := _, type := _, pos := _, after := _, guard := _ }) (v := ?_) rfl (by kernel_rfl) (by kernel_rfl) (by kernel_rfl) (fun _ _ _ h => h) (Or.inl ⟨by rfl, ?_⟩) (by assumption) ?_
              rotate_left
              · (intro w hSw; have s0 := hSw.cellp HCQ.out.1; have s1 := hSw.cellp HCQ.out.2.1; have s3 := hSw.cellp HCQ.out.2.2.1; have s4 := hSw.cellp HCQ.out.2.2.2.1; have s5 := hSw.cellp HCQ.out.2.2.2.2.1; have s6 := hSw.cellp HCQ.out.2.2.2.2.2.1; have s7 := hSw.cellp HCQ.out.2.2.2.2.2.2.1; have s8 := hSw.cellp HCQ.out.2.2.2.2.2.2.2; clear hSw; go_simp; (try with_reducible rfl))
              (try simp only [Act.put, List.setIfInBounds_toArray, List.set_cons_zero, List.set_cons_succ])
              refine wpAnyH_take (i := 9) (oi := { dst := some 63, op := _, type := _, pos := _, after := _, guard := _ }) (v := ?_) rfl (by kernel_rfl) (by kernel_rfl) (by kernel_rfl) (fun _ _ _ h => h) (Or.inl ⟨by rfl, ?_⟩) (by assumption) ?_
              rotate_left
              · (intro w hSw; have s0 := hSw.cellp HCQ.out.1; have s1 := hSw.cellp HCQ.out.2.1; have s3 := hSw.cellp HCQ.out.2.2.1; have s4 := hSw.cellp HCQ.out.2.2.2.1; have s5 := hSw.cellp HCQ.out.2.2.2.2.1; have s6 := hSw.cellp HCQ.out.2.2.2.2.2.1; have s7 := hSw.cellp HCQ.out.2.2.2.2.2.2.1; have s8 := hSw.cellp HCQ.out.2.2.2.2.2.2.2; clear hSw; go_simp; (try with_reducible rfl))
              (try simp only [Act.put, List.setIfInBounds_toArray, List.set_cons_zero, List.set_cons_succ])
              refine wpAnyH_take (i := 10) (oi := { dst := some 64, op := _, type := _, pos := _, after := _, guard := _ }) (v := ?_) rfl (by kernel_rfl) (by kernel_rfl) (by kernel_rfl) (fun _ _ _ h => h) (Or.inl ⟨by rfl, ?_⟩) (by assumption) ?_
              rotate_left
              · (intro w hSw; have s0 := hSw.cellp HCQ.out.1; have s1 := hSw.cellp HCQ.out.2.1; have s3 := hSw.cellp HCQ.out.2.2.1; have s4 := hSw.cellp HCQ.out.2.2.2.1; have s5 := hSw.cellp HCQ.out.2.2.2.2.1; have s6 := hSw.cellp HCQ.out.2.2.2.2.2.1; have s7 := hSw.cellp HCQ.out.2.2.2.2.2.2.1; have s8 := hSw.cellp HCQ.out.2.2.2.2.2.2.2; clear hSw; go_simp; (try with_reducible rfl))
              (try simp only [Act.put, List.setIfInBounds_toArray, List.set_cons_zero, List.set_cons_succ])
              refine wpAnyH_take (i := 11) (oi := { dst := some 65, op := _, type := _, pos := _, after := _, guard := _ }) (v := ?_) rfl (by kernel_rfl) (by kernel_rfl) (by kernel_rfl) (fun _ _ _ h => h) (Or.inl ⟨by rfl, ?_⟩) (by assumption) ?_
              rotate_left
              · (intro w hSw; have s0 := hSw.cellp HCQ.out.1; have s1 := hSw.cellp HCQ.out.2.1; have s3 := hSw.cellp HCQ.out.2.2.1; have s4 := hSw.cellp HCQ.out.2.2.2.1; have s5 := hSw.cellp HCQ.out.2.2.2.2.1; have s6 := hSw.cellp HCQ.out.2.2.2.2.2.1; have s7 := hSw.cellp HCQ.out.2.2.2.2.2.2.1; have s8 := hSw.cellp HCQ.out.2.2.2.2.2.2.2; clear hSw; go_simp; (try with_reducible rfl))
              (try simp only [Act.put, List.setIfInBounds_toArray, List.set_cons_zero, List.set_cons_succ])
              refine wpAnyH_take (i := 12) (oi := { dst := some 66, op := _, type := _, pos := _, after := _, guard := _ }) (v := ?_) rfl (by kernel_rfl) (by kernel_rfl) (by kernel_rfl) (fun _ _ _ h => h) (Or.inl ⟨by rfl, ?_⟩) (by assumption) ?_
              rotate_left
              · (intro w hSw; have s0 := hSw.cellp HCQ.out.1; have s1 := hSw.cellp HCQ.out.2.1; have s3 := hSw.cellp HCQ.out.2.2.1; have s4 := hSw.cellp HCQ.out.2.2.2.1; have s5 := hSw.cellp HCQ.out.2.2.2.2.1; have s6 := hSw.cellp HCQ.out.2.2.2.2.2.1; have s7 := hSw.cellp HCQ.out.2.2.2.2.2.2.1; have s8 := hSw.cellp HCQ.out.2.2.2.2.2.2.2; clear hSw; go_simp; (try with_reducible rfl))
              (try simp only [Act.put, List.setIfInBounds_toArray, List.set_cons_zero, List.set_cons_succ])
              refine wpAnyH_take (i := 13) (oi := { dst := some 67, op := _, type := _, pos := _, after := _, guard := _ }) (v := ?_) rfl (by kernel_rfl) (by kernel_rfl) (by kernel_rfl) (fun _ _ _ h => h) (Or.inl ⟨by rfl, ?_⟩) (by assumption) ?_
              rotate_left
              · (intro w hSw; have s0 := hSw.cellp HCQ.out.1; have s1 := hSw.cellp HCQ.out.2.1; have s3 := hSw.cellp HCQ.out.2.2.1; have s4 := hSw.cellp HCQ.out.2.2.2.1; have s5 := hSw.cellp HCQ.out.2.2.2.2.1; have s6 := hSw.cellp HCQ.out.2.2.2.2.2.1; have s7 := hSw.cellp HCQ.out.2.2.2.2.2.2.1; have s8 := hSw.cellp HCQ.out.2.2.2.2.2.2.2; clear hSw; go_simp; (try with_reducible rfl))
              (try simp only [Act.put, List.setIfInBounds_toArray, List.set_cons_zero, List.set_cons_succ])
              refine wpAnyH_take (i := 14) (oi := { dst := some 68, op := _, type := _, pos := _, after := _, guard := _ }) (v := ?_) rfl (by kernel_rfl) (by kernel_rfl) (by kernel_rfl) (fun _ _ _ h => h) (Or.inl ⟨by rfl, ?_⟩) (by assumption) ?_
              rotate_left
              · (intro w hSw; have s0 := hSw.cellp HCQ.out.1; have s1 := hSw.cellp HCQ.out.2.1; have s3 := hSw.cellp HCQ.out.2.2.1; have s4 := hSw.cellp HCQ.out.2.2.2.1; have s5 := hSw.cellp HCQ.out.2.2.2.2.1; have s6 := hSw.cellp HCQ.out.2.2.2.2.2.1; have s7 := hSw.cellp HCQ.out.2.2.2.2.2.2.1; have s8 := hSw.cellp HCQ.out.2.2.2.2.2.2.2; clear hSw; go_simp; (try with_reducible rfl))
              (try simp only [Act.put, List.setIfInBounds_toArray, List.set_cons_zero, List.set_cons_succ])
              refine wpAnyH_take (i := 15) (oi := { dst := some 69, op := _, type := _, pos := _, after := _, guard := _ }) (v := ?_) rfl (by kernel_rfl) (by kernel_rfl) (by kernel_rfl) (fun _ _ _ h => h) (Or.inl ⟨by rfl, ?_⟩) (by assumption) ?_
              rotate_left
              · (intro w hSw; have s0 := hSw.cellp HCQ.out.1; have s1 := hSw.cellp HCQ.out.2.1; have s3 := hSw.cellp HCQ.out.2.2.1; have s4 := hSw.cellp HCQ.out.2.2.2.1; have s5 := hSw.cellp HCQ.out.2.2.2.2.1; have s6 := hSw.cellp HCQ.out.2.2.2.2.2.1; have s7 := hSw.cellp HCQ.out.2.2.2.2.2.2.1; have s8 := hSw.cellp HCQ.out.2.2.2.2.2.2.2; clear hSw; go_simp; (try with_reducible rfl))
              (try simp only [Act.put, List.setIfInBounds_toArray, List.set_cons_zero, List.set_cons_succ])
              refine wpAnyH_take (i := 16) (oi := { dst := some 70, op := _, type := _, pos := _, after := _, guard := _ }) (v := ?_) rfl (by kernel_rfl) (by kernel_rfl) (by kernel_rfl) (fun _ _ _ h => h) (Or.inl ⟨by rfl, ?_⟩) (by assumption) ?_
              rotate_left
              · (intro w hSw; have s0 := hSw.cellp HCQ.out.1; have s1 := hSw.cellp HCQ.out.2.1; have s3 := hSw.cellp HCQ.out.2.2.1; have s4 := hSw.cellp HCQ.out.2.2.2.1; have s5 := hSw.cellp HCQ.out.2.2.2.2.1; have s6 := hSw.cellp HCQ.out.2.2.2.2.2.1; have s7 := hSw.cellp HCQ.out.2.2.2.2.2.2.1; have s8 := hSw.cellp HCQ.out.2.2.2.2.2.2.2; clear hSw; go_simp; (try with_reducible rfl))
              (try simp only [Act.put, List.setIfInBounds_toArray, List.set_cons_zero, List.set_cons_succ])
              refine wpAnyH_take (i := 18) (oi := { dst := some 72, op := _, type := _, pos := _, after := _, guard := _ }) (v := ?_) rfl (by kernel_rfl) (by kernel_rfl) (by kernel_rfl) (fun _ _ _ h => h) (Or.inl ⟨by rfl, ?_⟩) (by assumption) ?_
              rotate_left
              · (intro w hSw; have s0 := hSw.cellp HCQ.out.1; have s1 := hSw.cellp HCQ.out.2.1; have s3 := hSw.cellp HCQ.out.2.2.1; have s4 := hSw.cellp HCQ.out.2.2.2.1; have s5 := hSw.cellp HCQ.out.2.2.2.2.1; have s6 := hSw.cellp HCQ.out.2.2.2.2.2.1; have s7 := hSw.cellp HCQ.out.2.2.2.2.2.2.1; have s8 := hSw.cellp HCQ.out.2.2.2.2.2.2.2; clear hSw; go_simp; (try with_reducible rfl))
              (try simp only [Act.put, List.setIfInBounds_toArray, List.set_cons_zero, List.set_cons_succ])
              refine wpAnyH_take (i := 19) (oi := { dst := some 73, op := _, type := _, pos := _, after := _, guard := _ }) (v := ?_) rfl (by kernel_rfl) (by kernel_rfl) (by kernel_rfl) (fun _ _ _ h => h) (Or.inl ⟨by rfl, ?_⟩) (by assumption) ?_
              rotate_left
              · (intro w hSw; have s0 := hSw.cellp HCQ.out.1; have s1 := hSw.cellp HCQ.out.2.1; have s3 := hSw.cellp HCQ.out.2.2.1; have s4 := hSw.cellp HCQ.out.2.2.2.1; have s5 := hSw.cellp HCQ.out.2.2.2.2.1; have s6 := hSw.cellp HCQ.out.2.2.2.2.2.1; have s7 := hSw.cellp HCQ.out.2.2.2.2.2.2.1; have s8 := hSw.cellp HCQ.out.2.2.2.2.2.2.2; clear hSw; go_simp; (try with_reducible rfl))
              (try simp only [Act.put, List.setIfInBounds_toArray, List.set_cons_zero, List.set_cons_succ])
              refine wpAnyH_take (i := 20) (oi := { dst := some 74, op := _, type := _, pos := _, after := _, guard := _ }) (v := ?_) rfl (by kernel_rfl) (by kernel_rfl) (by kernel_rfl) (fun _ _ _ h => h) (Or.inl ⟨by rfl, ?_⟩) (by assumption) ?_
              rotate_left
              · (intro w hSw; have s0 := hSw.cellp HCQ.out.1; have s1 := hSw.cellp HCQ.out.2.1; have s3 := hSw.cellp HCQ.out.2.2.1; have s4 := hSw.cellp HCQ.out.2.2.2.1; have s5 := hSw.cellp HCQ.out.2.2.2.2.1; have s6 := hSw.cellp HCQ.out.2.2.2.2.2.1; have s7 := hSw.cellp HCQ.out.2.2.2.2.2.2.1; have s8 := hSw.cellp HCQ.out.2.2.2.2.2.2.2; clear hSw; go_simp; (try with_reducible rfl))
              (try simp only [Act.put, List.setIfInBounds_toArray, List.set_cons_zero, List.set_cons_succ])
              refine wpAnyH_take (i := 21) (oi := { dst := some 75, op := _, type := _, pos := _, after := _, guard := _ }) (v := ?_) rfl (by kernel_rfl) (by kernel_rfl) (by kernel_rfl) (fun _ _ _ h => h) (Or.inl ⟨by rfl, ?_⟩) (by assumption) ?_
              rotate_left
              · (intro w hSw; have s0 := hSw.cellp HCQ.out.1; have s1 := hSw.cellp HCQ.out.2.1; have s3 := hSw.cellp HCQ.out.2.2.1; have s4 := hSw.cellp HCQ.out.2.2.2.1; have s5 := hSw.cellp HCQ.out.2.2.2.2.1; have s6 := hSw.cellp HCQ.out.2.2.2.2.2.1; have s7 := hSw.cellp HCQ.out.2.2.2.2.2.2.1; have s8 := hSw.cellp HCQ.out.2.2.2.2.2.2.2; clear hSw; go_simp; (try with_reducible rfl))
              (try simp only [Act.put, List.setIfInBounds_toArray, List.set_cons_zero, List.set_cons_succ])
              refine wpAnyH_take (i := 22) (oi := { dst := some 76, op := _, type := _, pos := _, after := _, guard := _ }) (v := ?_) rfl (by kernel_rfl) (by kernel_rfl) (by kernel_rfl) (fun _ _ _ h => h) (Or.inl ⟨by rfl, ?_⟩) (by assumption) ?_
              rotate_left
              · (intro w hSw; have s0 := hSw.cellp HCQ.out.1; have s1 := hSw.cellp HCQ.out.2.1; have s3 := hSw.cellp HCQ.out.2.2.1; have s4 := hSw.cellp HCQ.out.2.2.2.1; have s5 := hSw.cellp HCQ.out.2.2.2.2.1; have s6 := hSw.cellp HCQ.out.2.2.2.2.2.1; have s7 := hSw.cellp HCQ.out.2.2.2.2.2.2.1; have s8 := hSw.cellp HCQ.out.2.2.2.2.2.2.2; clear hSw; go_simp; (try with_reducible rfl))
              (try simp only [Act.put, List.setIfInBounds_toArray, List.set_cons_zero, List.set_cons_succ])
              refine wpAnyH_take (i := 23) (oi := { dst := some 77, op := _, type := _, pos := _, after := _, guard := _ }) (v := ?_) rfl (by kernel_rfl) (by kernel_rfl) (by kernel_rfl) (fun _ _ _ h => h) (Or.inl ⟨by rfl, ?_⟩) (by assumption) ?_
              rotate_left
              · (intro w hSw; have s0 := hSw.cellp HCQ.out.1; have s1 := hSw.cellp HCQ.out.2.1; have s3 := hSw.cellp HCQ.out.2.2.1; have s4 := hSw.cellp HCQ.out.2.2.2.1; have s5 := hSw.cellp HCQ.out.2.2.2.2.1; have s6 := hSw.cellp HCQ.out.2.2.2.2.2.1; have s7 := hSw.cellp HCQ.out.2.2.2.2.2.2.1; have s8 := hSw.cellp HCQ.out.2.2.2.2.2.2.2; clear hSw; go_simp; (try with_reducible rfl))
              (try simp only [Act.put, List.setIfInBounds_toArray, List.set_cons_zero, List.set_cons_succ])
              refine wpAnyH_take (i := 24) (oi := { dst := some 78, op := _, type := _, pos := _, after := _, guard := _ }) (v := ?_) rfl (by kernel_rfl) (by kernel_rfl) (by kernel_rfl) (fun _ _ _ h => h) (Or.inl ⟨by rfl, ?_⟩) (by assumption) ?_
              rotate_left
              · (intro w hSw; have s0 := hSw.cellp HCQ.out.1; have s1 := hSw.cellp HCQ.out.2.1; have s3 := hSw.cellp HCQ.out.2.2.1; have s4 := hSw.cellp HCQ.out.2.2.2.1; have s5 := hSw.cellp HCQ.out.2.2.2.2.1; have s6 := hSw.cellp HCQ.out.2.2.2.2.2.1; have s7 := hSw.cellp HCQ.out.2.2.2.2.2.2.1; have s8 := hSw.cellp HCQ.out.2.2.2.2.2.2.2; clear hSw; go_simp; (try with_reducible rfl))
              (try simp only [Act.put, List.setIfInBounds_toArray, List.set_cons_zero, List.set_cons_succ])
              refine wpAnyH_take (i := 25) (oi := { dst := some 79, op := _, type := _, pos := _, after := _, guard := _ }) (v := ?_) rfl (by kernel_rfl) (by kernel_rfl) (by kernel_rfl) (fun _ _ _ h => h) (Or.inl ⟨by rfl, ?_⟩) (by assumption) ?_
              rotate_left
              · (intro w hSw; have s0 := hSw.cellp HCQ.out.1; have s1 := hSw.cellp HCQ.out.2.1; have s3 := hSw.cellp HCQ.out.2.2.1; have s4 := hSw.cellp HCQ.out.2.2.2.1; have s5 := hSw.cellp HCQ.out.2.2.2.2.1; have s6 := hSw.cellp HCQ.out.2.2.2.2.2.1; have s7 := hSw.cellp HCQ.out.2.2.2.2.2.2.1; have s8 := hSw.cellp HCQ.out.2.2.2.2.2.2.2; clear hSw; go_simp; (try with_reducible rfl))
              (try simp only [Act.put, List.setIfInBounds_toArray, List.set_cons_zero, List.set_cons_succ])
              refine wpAnyH_take (i := 26) (oi := { dst := some 80, op := _, type := _, pos := _, after := _, guard := _ }) (v := ?_) rfl (by kernel_rfl) (by kernel_rfl) (by kernel_rfl) (fun _ _ _ h => h) (Or.inl ⟨by rfl, ?_⟩) (by assumption) ?_
              rotate_left
              · (intro w hSw; have s0 := hSw.cellp HCQ.out.1; have s1 := hSw.cellp HCQ.out.2.1; have s3 := hSw.cellp HCQ.out.2.2.1; have s4 := hSw.cellp HCQ.out.2.2.2.1; have s5 := hSw.cellp HCQ.out.2.2.2.2.1; have s6 := hSw.cellp HCQ.out.2.2.2.2.2.1; have s7 := hSw.cellp HCQ.out.2.2.2.2.2.2.1; have s8 := hSw.cellp HCQ.out.2.2.2.2.2.2.2; clear hSw; go_simp; (try with_reducible rfl))
              (try simp only [Act.put, List.setIfInBounds_toArray, List.set_cons_zero, List.set_cons_succ])
              refine wpAnyH_take (i := 27) (oi := { dst := some 81, op := _, type := _, pos := _, after := _, guard := _ }) (v := ?_) rfl (by kernel_rfl) (by kernel_rfl) (by kernel_rfl) (fun _ _ _ h => h) (Or.inl ⟨by rfl, ?_⟩) (by assumption) ?_
              rotate_left
              · (intro w hSw; have s0 := hSw.cellp HCQ.out.1; have s1 := hSw.cellp HCQ.out.2.1; have s3 := hSw.cellp HCQ.out.2.2.1; have s4 := hSw.cellp HCQ.out.2.2.2.1; have s5 := hSw.cellp HCQ.out.2.2.2.2.1; have s6 := hSw.cellp HCQ.out.2.2.2.2.2.1; have s7 := hSw.cellp HCQ.out.2.2.2.2.2.2.1; have s8 := hSw.cellp HCQ.out.2.2.2.2.2.2.2; clear hSw; go_simp; (try with_reducible rfl))
              (try simp only [Act.put, List.setIfInBounds_toArray, List.set_cons_zero, List.set_cons_succ])
              refine wpAnyH_take (i := 28) (oi := { dst := some 82, op := _, type := _, pos := _, after := _, guard := _ }) (v := ?_) rfl (by kernel_rfl) (by kernel_rfl) (by kernel_rfl) (fun _ _ _ h => h) (Or.inl ⟨by rfl, ?_⟩) (by assumption) ?_
              rotate_left
              · (intro w hSw; have s0 := hSw.cellp HCQ.out.1; have s1 := hSw.cellp HCQ.out.2.1; have s3 := hSw.cellp HCQ.out.2.2.1; have s4 := hSw.cellp HCQ.out.2.2.2.1; have s5 := hSw.cellp HCQ.out.2.2.2.2.1; have s6 := hSw.cellp HCQ.out.2.2.2.2.2.1; have s7 := hSw.cellp HCQ.out.2.2.2.2.2.2.1; have s8 := hSw.cellp HCQ.out.2.2.2.2.2.2.2; clear hSw; go_simp; (try with_reducible rfl))
              (try simp only [Act.put, List.setIfInBounds_toArray, List.set_cons_zero, List.set_cons_succ])
              refine wpAnyH_take (i := 29) (oi := { dst := some 83, op := _, type := _, pos := _, after := _, guard := _ }) (v := ?_) rfl (by kernel_rfl) (by kernel_rfl) (by kernel_rfl) (fun _ _ _ h => h) (Or.inl ⟨by rfl, ?_⟩) (by assumption) ?_
              rotate_left
              · (intro w hSw; have s0 := hSw.cellp HCQ.out.1; have s1 := hSw.cellp HCQ.out.2.1; have s3 := hSw.cellp HCQ.out.2.2.1; have s4 := hSw.cellp HCQ.out.2.2.2.1; have s5 := hSw.cellp HCQ.out.2.2.2.2.1; have s6 := hSw.cellp HCQ.out.2.2.2.2.2.1; have s7 := hSw.cellp HCQ.out.2.2.2.2.2.2.1; have s8 := hSw.cellp HCQ.out.2.2.2.2.2.2.2; clear hSw; go_simp; (try with_reducible rfl))
              (try simp only [Act.put, List.setIfInBounds_toArray, List.set_cons_zero, List.set_cons_succ])
              refine wpAnyH_take (i := 30) (oi := { dst := some 84, op := _, type := _, pos := _, after := _, guard := _ }) (v := ?_) rfl (by kernel_rfl) (by kernel_rfl) (by kernel_rfl) (fun _ _ _ h => h) (Or.inl ⟨by rfl, ?_⟩) (by assumption) ?_
              rotate_left
              · (intro w hSw; have s0 := hSw.cellp HCQ.out.1; have s1 := hSw.cellp HCQ.out.2.1; have s3 := hSw.cellp HCQ.out.2.2.1; have s4 := hSw.cellp HCQ.out.2.2.2.1; have s5 := hSw.cellp HCQ.out.2.2.2.2.1; have s6 := hSw.cellp HCQ.out.2.2.2.2.2.1; have s7 := hSw.cellp HCQ.out.2.2.2.2.2.2.1; have s8 := hSw.cellp HCQ.out.2.2.2.2.2.2.2; clear hSw; go_simp; (try with_reducible rfl))
              (try simp only [Act.put, List.setIfInBounds_toArray, List.set_cons_zero, List.set_cons_succ])
              refine wpAnyH_take (i := 31) (oi := { dst := some 85, op := _, type := _, pos := _, after := _, guard := _ }) (v := ?_) rfl (by kernel_rfl) (by kernel_rfl) (by kernel_rfl) (fun _ _ _ h => h) (Or.inl ⟨by rfl, ?_⟩) (by assumption) ?_
              rotate_left
              · (intro w hSw; have s0 := hSw.cellp HCQ.out.1; have s1 := hSw.cellp HCQ.out.2.1; have s3 := hSw.cellp HCQ.out.2.2.1; have s4 := hSw.cellp HCQ.out.2.2.2.1; have s5 := hSw.cellp HCQ.out.2.2.2.2.1; have s6 := hSw.cellp HCQ.out.2.2.2.2.2.1; have s7 := hSw.cellp HCQ.out.2.2.2.2.2.2.1; have s8 := hSw.cellp HCQ.out.2.2.2.2.2.2.2; clear hSw; go_simp; (try with_reducible rfl))
              (try simp only [Act.put, List.setIfInBounds_toArray, List.set_cons_zero, List.set_cons_succ])
              refine wpAnyH_take (i := 32) (oi := { dst := some 86, op := _, type := _, pos := _, after := _, guard := _ }) (v := ?_) rfl (by kernel_rfl) (by kernel_rfl) (by kernel_rfl) (fun _ _ _ h => h) (Or.inl ⟨by rfl, ?_⟩) (by assumption) ?_
              rotate_left
              · (intro w hSw; have s0 := hSw.cellp HCQ.out.1; have s1 := hSw.cellp HCQ.out.2.1; have s3 := hSw.cellp HCQ.out.2.2.1; have s4 := hSw.cellp HCQ.out.2.2.2.1; have s5 := hSw.cellp HCQ.out.2.2.2.2.1; have s6 := hSw.cellp HCQ.out.2.2.2.2.2.1; have s7 := hSw.cellp HCQ.out.2.2.2.2.2.2.1; have s8 := hSw.cellp HCQ.out.2.2.2.2.2.2.2; clear hSw; go_simp; (try with_reducible rfl))
              (try simp only [Act.put, List.setIfInBounds_toArray, List.set_cons_zero, List.set_cons_succ])
              refine wpAnyH_take (i := 33) (oi := { dst := some 87, op := _, type := _, pos := _, after := _, guard := _ }) (v := ?_) rfl (by kernel_rfl) (by kernel_rfl) (by kernel_rfl) (fun _ _ _ h => h) (Or.inl ⟨by rfl, ?_⟩) (by assumption) ?_
              rotate_left
              · (intro w hSw; have s0 := hSw.cellp HCQ.out.1; have s1 := hSw.cellp HCQ.out.2.1; have s3 := hSw.cellp HCQ.out.2.2.1; have s4 := hSw.cellp HCQ.out.2.2.2.1; have s5 := hSw.cellp HCQ.out.2.2.2.2.1; have s6 := hSw.cellp HCQ.out.2.2.2.2.2.1; have s7 := hSw.cellp HCQ.out.2.2.2.2.2.2.1; have s8 := hSw.cellp HCQ.out.2.2.2.2.2.2.2; clear hSw; go_simp; (try with_reducible rfl))
              (try simp only [Act.put, List.setIfInBounds_toArray, List.set_cons_zero, List.set_cons_succ])
              refine wpAnyH_take (i := 34) (oi := { dst := some 88, op := _, type := _, pos := _, after := _, guard := _ }) (v := ?_) rfl (by kernel_rfl) (by kernel_rfl) (by kernel_rfl) (fun _ _ _ h => h) (Or.inl ⟨by rfl, ?_⟩) (by assumption) ?_
              rotate_left
              · (intro w hSw; have s0 := hSw.cellp HCQ.out.1; have s1 := hSw.cellp HCQ.out.2.1; have s3 := hSw.cellp HCQ.out.2.2.1; have s4 := hSw.cellp HCQ.out.2.2.2.1; have s5 := hSw.cellp HCQ.out.2.2.2.2.1; have s6 := hSw.cellp HCQ.out.2.2.2.2.2.1; have s7 := hSw.cellp HCQ.out.2.2.2.2.2.2.1; have s8 := hSw.cellp HCQ.out.2.2.2.2.2.2.2; clear hSw; go_simp; (try with_reducible rfl))
              (try simp only [Act.put, List.setIfInBounds_toArray, List.set_cons_zero, List.set_cons_succ])
              refine wpAnyH_ready (rs := [17]) (by kernel_rfl) (by simp) ?_
              refine AllReadyH.cons (o := { dst := some 71, op := _, type := _, pos := _, after := _, guard := _ }) rfl (fun K hK => ?_) AllReadyH.nil
              go_simp
              refine (HG1.out _ hHeld).mono ?_
              rintro e wA ⟨rfl, kwA⟩
              have HwA := hidMk kwA
              clear kwA
              (try go_wp2_with fail)
              refine hK.out _ _ ?_ (fun hHeld => ?_)
              · (first | exact hHeld.trans HwB.out | exact hHeld.trans HwA.out)
              clear hK K
              (try simp only [Act.put, List.setIfInBounds_toArray, List.set_cons_zero, List.set_cons_succ])
              refine wpAnyH_ready (rs := [35]) (by kernel_rfl) (by simp) ?_
              refine AllReadyH.cons (o := { dst := some 89, op := _, type := _, pos := _, after := _, guard := _ }) rfl (fun K hK => ?_) AllReadyH.nil
              go_simp
              refine (HG2.out _ hHeld).mono ?_
              rintro e wB ⟨rfl, kwB⟩
              have HwB := hidMk kwB
              clear kwB
              (try go_wp2_with fail)
              refine hK.out _ _ ?_ (fun hHeld => ?_)
              · (first | exact hHeld.trans HwB.out | exact hHeld.trans HwA.out)
              clear hK K
              (try simp only [Act.put, List.setIfInBounds_toArray, List.set_cons_zero, List.set_cons_succ])
              refine wpAnyH_take (i := 36) (oi := { dst := some 90, op := _, type := _, pos := _, after := _, guard := _ }) (v := ?_) rfl (by kernel_rfl) (by kernel_rfl) (by kernel_rfl) (fun _ _ _ h => h) (Or.inl ⟨by rfl, ?_⟩) (by assumption) ?_
              rotate_left
              · (intro w hSw; have s0 := hSw.cellp HCQ.out.1; have s1 := hSw.cellp HCQ.out.2.1; have s3 := hSw.cellp HCQ.out.2.2.1; have s4 := hSw.cellp HCQ.out.2.2.2.1; have s5 := hSw.cellp HCQ.out.2.2.2.2.1; have s6 := hSw.cellp HCQ.out.2.2.2.2.2.1; have s7 := hSw.cellp HCQ.out.2.2.2.2.2.2.1; have s8 := hSw.cellp HCQ.out.2.2.2.2.2.2.2; clear hSw; go_simp; (try with_reducible rfl))
              (try simp only [Act.put, List.setIfInBounds_toArray, List.set_cons_zero, List.set_cons_succ])
              refine wpAnyH_done (by kernel_rfl) ?_ _
              clear hHeld
              have HOB := hidMk (show ∀ o, OwnI (wB.alloc o) wq.heap.size (.slice sa ln sc) ((selL nd (lvls cn) x y 0 j).map fun x => x.1) from fun o => HR.out.2.kp (((((Kept.refl _).drew).trans HwA.out).trans HwB.out).alloc o))
              have HKB := hidMk (show Kept wq wB from (HKR.out.drew.trans HwA.out).trans HwB.out)
              have HWS := hidMk (show wq.heap.size ≤ wB.heap.size from HKB.out.size)
              go_wp2_with (at_builtin; refine wpList_pushI _ (by rfl) _ _ (by rfl) wq.heap.size (.slice sa ln sc) ((selL nd (lvls cn) x y 0 j).map fun x => x.1) (by rfl) (HOB.out _) (by have := HWS.out; simp; omega) wB.heap.size (j : Int) (by rfl) (new_cell_at _ _ _ rfl) (by have := HLN.out; omega) (wB.heap.size + 1) (by simp) ?_; intro g6 cap6 w6 o6 k6 a6 l6; have H6 := hidMk o6; have C6 := hidMk (Chg.kept (HKB.out.alloc _) k6 (fun z hz => ((HOB.out (.cells #[.int .i64 (j : Int)] 3)).lt z hz).1)); clear o6 k6 a6 l6)
              go_roundg (gk - 1)
              case measure => have := HG.out; omega
              case rel => exact ⟨j + 1, by have := HG.out; omega, by omega, by go_num, hidMk ⟨C6.out, by have h6 := H6.out; rw [List.length_map] at h6; rw [HS2.out, List.map_append]; exact h6⟩⟩
          · have hje : j = cn := by omega
            subst hje
            have hj' : ¬ ((j : Int) < (j : Int)) := by omega
            have HLN := hidMk (show ((selL nd (lvls j) x y 0 j).map fun x => x.1).length ≤ maxLen from by unfold maxLen; rw [List.length_map]; omega)
            clear hsl
            go_upto_region 17 with fail
            clear y2
            refine wp_region_held_drew (S := (fun w' => Kept wq w')) (by kernel_rfl) ?_ (fun hHeld => ?_)
            · exact HKR.out.drew
            refine wpAnyH_take (i := 0) (oi := { dst := some 96, op := _, type := _, pos := _, after := _, guard := _ }) (v := ?_) rfl (by kernel_rfl) (by kernel_rfl) (by kernel_rfl) (fun _ _ _ h => h) (Or.inl ⟨by rfl, ?_⟩) (by assumption) ?_
            rotate_left
            · (intro w hSw; have s0 := hSw.cellp HCQ.out.1; have s1 := hSw.cellp HCQ.out.2.1; have s3 := hSw.cellp HCQ.out.2.2.1; have s4 := hSw.cellp HCQ.out.2.2.2.1; have s5 := hSw.cellp HCQ.out.2.2.2.2.1; have s6 := hSw.cellp HCQ.out.2.2.2.2.2.1; have s7 := hSw.cellp HCQ.out.2.2.2.2.2.2.1; have s8 := hSw.cellp HCQ.out.2.2.2.2.2.2.2; clear hSw; go_simp; (try with_reducible rfl))
            (try simp only [Act.put, List.setIfInBounds_toArray, List.set_cons_zero, List.set_cons_succ])
            refine wpAnyH_take (i := 1) (oi := { dst := some 97, op := _, type := _, pos := _, after := _, guard := _ }) (v := ?_) rfl (by kernel_rfl) (by kernel_rfl) (by kernel_rfl) (fun _ _ _ h => h) (Or.inl ⟨by rfl, ?_⟩) (by assumption) ?_
            rotate_left
            · (intro w hSw; have s0 := hSw.cellp HCQ.out.1; have s1 := hSw.cellp HCQ.out.2.1; have s3 := hSw.cellp HCQ.out.2.2.1; have s4 := hSw.cellp HCQ.out.2.2.2.1; have s5 := hSw.cellp HCQ.out.2.2.2.2.1; have s6 := hSw.cellp HCQ.out.2.2.2.2.2.1; have s7 := hSw.cellp HCQ.out.2.2.2.2.2.2.1; have s8 := hSw.cellp HCQ.out.2.2.2.2.2.2.2; clear hSw; go_simp; (try with_reducible rfl))
            (try simp only [Act.put, List.setIfInBounds_toArray, List.set_cons_zero, List.set_cons_succ])
            refine wpAnyH_take (i := 2) (oi := { dst := some 98, op := _, type := _, pos := _, after := _, guard := _ }) (v := ?_) rfl (by kernel_rfl) (by kernel_rfl) (by kernel_rfl) (fun _ _ _ h => h) (Or.inl ⟨by rfl, ?_⟩) (by assumption) ?_
            rotate_left
            · (intro w hSw; have s0 := hSw.cellp HCQ.out.1; have s1 := hSw.cellp HCQ.out.2.1; have s3 := hSw.cellp HCQ.out.2.2.1; have s4 := hSw.cellp HCQ.out.2.2.2.1; have s5 := hSw.cellp HCQ.out.2.2.2.2.1; have s6 := hSw.cellp HCQ.out.2.2.2.2.2.1; have s7 := hSw.cellp HCQ.out.2.2.2.2.2.2.1; have s8 := hSw.cellp HCQ.out.2.2.2.2.2.2.2; clear hSw; go_simp; (try with_reducible rfl))
            (try simp only [Act.put, List.setIfInBounds_toArray, List.set_cons_zero, List.set_cons_succ])
            refine wpAnyH_take (i := 3) (oi := { dst := some 99, op := _, type := _, pos := _, after := _, guard := _ }) (v := ?_) rfl (by kernel_rfl) (by kernel_rfl) (by kernel_rfl) (fun _ _ _ h => h) (Or.inl ⟨by rfl, ?_⟩) (by assumption) ?_
            rotate_left
            · (intro w hSw; have s0 := hSw.cellp HCQ.out.1; have s1 := hSw.cellp HCQ.out.2.1; have s3 := hSw.cellp HCQ.out.2.2.1; have s4 := hSw.cellp HCQ.out.2.2.2.1; have s5 := hSw.cellp HCQ.out.2.2.2.2.1; have s6 := hSw.cellp HCQ.out.2.2.2.2.2.1; have s7 := hSw.cellp HCQ.out.2.2.2.2.2.2.1; have s8 := hSw.cellp HCQ.out.2.2.2.2.2.2.2; clear hSw; go_simp; (try with_reducible rfl))
            (try simp only [Act.put, List.setIfInBounds_toArray, List.set_cons_zero, List.set_cons_succ])
            refine wpAnyH_take (i := 4) (oi := { dst := some 100, op := _, type := _, pos := _, after := _, guard := _ }) (v := ?_) rfl (by kernel_rfl) (by kernel_rfl) (by kernel_rfl) (fun _ _ _ h => h) (Or.inl ⟨by rfl, ?_⟩) (by assumption) ?_
            rotate_left
            · (intro w hSw; have s0 := hSw.cellp HCQ.out.1; have s1 := hSw.cellp HCQ.out.2.1; have s3 := hSw.cellp HCQ.out.2.2.1; have s4 := hSw.cellp HCQ.out.2.2.2.1; have s5 := hSw.cellp HCQ.out.2.2.2.2.1; have s6 := hSw.cellp HCQ.out.2.2.2.2.2.1; have s7 := hSw.cellp HCQ.out.2.2.2.2.2.2.1; have s8 := hSw.cellp HCQ.out.2.2.2.2.2.2.2; clear hSw; go_simp; (try with_reducible rfl))
            (try simp only [Act.put, List.setIfInBounds_toArray, List.set_cons_zero, List.set_cons_succ])
            refine wpAnyH_take (i := 5) (oi := { dst := some 101, op := _, type := _, pos := _, after := _, guard := _ }) (v := ?_) rfl (by kernel_rfl) (by kernel_rfl) (by kernel_rfl) (fun _ _ _ h => h) (Or.inl ⟨by rfl, ?_⟩) (by assumption) ?_
            rotate_left
            · (intro w hSw; have s0 := hSw.cellp HCQ.out.1; have s1 := hSw.cellp HCQ.out.2.1; have s3 := hSw.cellp HCQ.out.2.2.1; have s4 := hSw.cellp HCQ.out.2.2.2.1; have s5 := hSw.cellp HCQ.out.2.2.2.2.1; have s6 := hSw.cellp HCQ.out.2.2.2.2.2.1; have s7 := hSw.cellp HCQ.out.2.2.2.2.2.2.1; have s8 := hSw.cellp HCQ.out.2.2.2.2.2.2.2; clear hSw; go_simp; (try with_reducible rfl))
            (try simp only [Act.put, List.setIfInBounds_toArray, List.set_cons_zero, List.set_cons_succ])
            refine wpAnyH_take (i := 6) (oi := { dst := some 102, op := _, type := _, pos := _, after := _, guard := _ }) (v := ?_) rfl (by kernel_rfl) (by kernel_rfl) (by kernel_rfl) (fun _ _ _ h => h) (Or.inl ⟨by rfl, ?_⟩) (by assumption) ?_
            rotate_left
            · (intro w hSw; have s0 := hSw.cellp HCQ.out.1; have s1 := hSw.cellp HCQ.out.2.1; have s3 := hSw.cellp HCQ.out.2.2.1; have s4 := hSw.cellp HCQ.out.2.2.2.1; have s5 := hSw.cellp HCQ.out.2.2.2.2.1; have s6 := hSw.cellp HCQ.out.2.2.2.2.2.1; have s7 := hSw.cellp HCQ.out.2.2.2.2.2.2.1; have s8 := hSw.cellp HCQ.out.2.2.2.2.2.2.2; clear hSw; go_simp; (try with_reducible rfl))
            (try simp only [Act.put, List.setIfInBounds_toArray, List.set_cons_zero, List.set_cons_succ])
            refine wpAnyH_take (i := 7) (oi := { dst := some 103, op := _, type := _, pos := _, after := _, guard := _ }) (v := ?_) rfl (by kernel_rfl) (by kernel_rfl) (by kernel_rfl) (fun _ _ _ h => h) (Or.inl ⟨by rfl, ?_⟩) (by assumption) ?_
            rotate_left
            · (intro w hSw; have s0 := hSw.cellp HCQ.out.1; have s1 := hSw.cellp HCQ.out.2.1; have s3 := hSw.cellp HCQ.out.2.2.1; have s4 := hSw.cellp HCQ.out.2.2.2.1; have s5 := hSw.cellp HCQ.out.2.2.2.2.1; have s6 := hSw.cellp HCQ.out.2.2.2.2.2.1; have s7 := hSw.cellp HCQ.out.2.2.2.2.2.2.1; have s8 := hSw.cellp HCQ.out.2.2.2.2.2.2.2; clear hSw; go_simp; (try with_reducible rfl))
            (try simp only [Act.put, List.setIfInBounds_toArray, List.set_cons_zero, List.set_cons_succ])
            refine wpAnyH_take (i := 8) (oi := { dst := some 104, op := _, type := _, pos := _, after := _, guard := _ }) (v := ?_) rfl (by kernel_rfl) (by kernel_rfl) (by kernel_rfl) (fun _ _ _ h => h) (Or.inl ⟨by rfl, ?_⟩) (by assumption) ?_
            rotate_left
            · (intro w hSw; have s0 := hSw.cellp HCQ.out.1; have s1 := hSw.cellp HCQ.out.2.1; have s3 := hSw.cellp HCQ.out.2.2.1; have s4 := hSw.cellp HCQ.out.2.2.2.1; have s5 := hSw.cellp HCQ.out.2.2.2.2.1; have s6 := hSw.cellp HCQ.out.2.2.2.2.2.1; have s7 := hSw.cellp HCQ.out.2.2.2.2.2.2.1; have s8 := hSw.cellp HCQ.out.2.2.2.2.2.2.2; clear hSw; go_simp; (try with_reducible rfl))
            (try simp only [Act.put, List.setIfInBounds_toArray, List.set_cons_zero, List.set_cons_succ])
            refine wpAnyH_take (i := 9) (oi := { dst := some 105, op := _, type := _, pos := _, after := _, guard := _ }) (v := ?_) rfl (by kernel_rfl) (by kernel_rfl) (by kernel_rfl) (fun _ _ _ h => h) (Or.inl ⟨by rfl, ?_⟩) (by assumption) ?_
            rotate_left
            · (intro w hSw; have s0 := hSw.cellp HCQ.out.1; have s1 := hSw.cellp HCQ.out.2.1; have s3 := hSw.cellp HCQ.out.2.2.1; have s4 := hSw.cellp HCQ.out.2.2.2.1; have s5 := hSw.cellp HCQ.out.2.2.2.2.1; have s6 := hSw.cellp HCQ.out.2.2.2.2.2.1; have s7 := hSw.cellp HCQ.out.2.2.2.2.2.2.1; have s8 := hSw.cellp HCQ.out.2.2.2.2.2.2.2; clear hSw; go_simp; (try with_reducible rfl))
            (try simp only [Act.put, List.setIfInBounds_toArray, List.set_cons_zero, List.set_cons_succ])
            refine wpAnyH_take (i := 10) (oi := { dst := some 106, op := _, type := _, pos := _, after := _, guard := _ }) (v := ?_) rfl (by kernel_rfl) (by kernel_rfl) (by kernel_rfl) (fun _ _ _ h => h) (Or.inl ⟨by rfl, ?_⟩) (by assumption) ?_
            rotate_left
            · (intro w hSw; have s0 := hSw.cellp HCQ.out.1; have s1 := hSw.cellp HCQ.out.2.1; have s3 := hSw.cellp HCQ.out.2.2.1; have s4 := hSw.cellp HCQ.out.2.2.2.1; have s5 := hSw.cellp HCQ.out.2.2.2.2.1; have s6 := hSw.cellp HCQ.out.2.2.2.2.2.1; have s7 := hSw.cellp HCQ.out.2.2.2.2.2.2.1; have s8 := hSw.cellp HCQ.out.2.2.2.2.2.2.2; clear hSw; go_simp; (try with_reducible rfl))
            (try simp only [Act.put, List.setIfInBounds_toArray, List.set_cons_zero, List.set_cons_succ])
            refine wpAnyH_take (i := 11) (oi := { dst := some 107, op := _, type := _, pos := _, after := _, guard := _ }) (v := ?_) rfl (by kernel_rfl) (by kernel_rfl) (by kernel_rfl) (fun _ _ _ h => h) (Or.inl ⟨by rfl, ?_⟩) (by assumption) ?_
            rotate_left
            · (intro w hSw; have s0 := hSw.cellp HCQ.out.1; have s1 := hSw.cellp HCQ.out.2.1; have s3 := hSw.cellp HCQ.out.2.2.1; have s4 := hSw.cellp HCQ.out.2.2.2.1; have s5 := hSw.cellp HCQ.out.2.2.2.2.1; have s6 := hSw.cellp HCQ.out.2.2.2.2.2.1; have s7 := hSw.cellp HCQ.out.2.2.2.2.2.2.1; have s8 := hSw.cellp HCQ.out.2.2.2.2.2.2.2; clear hSw; go_simp; (try with_reducible rfl))
            (try simp only [Act.put, List.setIfInBounds_toArray, List.set_cons_zero, List.set_cons_succ])
            refine wpAnyH_take (i := 12) (oi := { dst := some 108, op := _, type := _, pos := _, after := _, guard := _ }) (v := ?_) rfl (by kernel_rfl) (by kernel_rfl) (by kernel_rfl) (fun _ _ _ h => h) (Or.inl ⟨by rfl, ?_⟩) (by assumption) ?_
            rotate_left
            · (intro w hSw; have s0 := hSw.cellp HCQ.out.1; have s1 := hSw.cellp HCQ.out.2.1; have s3 := hSw.cellp HCQ.out.2.2.1; have s4 := hSw.cellp HCQ.out.2.2.2.1; have s5 := hSw.cellp HCQ.out.2.2.2.2.1; have s6 := hSw.cellp HCQ.out.2.2.2.2.2.1; have s7 := hSw.cellp HCQ.out.2.2.2.2.2.2.1; have s8 := hSw.cellp HCQ.out.2.2.2.2.2.2.2; clear hSw; go_simp; (try with_reducible rfl))
            (try simp only [Act.put, List.setIfInBounds_toArray, List.set_cons_zero, List.set_cons_succ])
            refine wpAnyH_take (i := 13) (oi := { dst := some 109, op := _, type := _, pos := _, after := _, guard := _ }) (v := ?_) rfl (by kernel_rfl) (by kernel_rfl) (by kernel_rfl) (fun _ _ _ h => h) (Or.inl ⟨by rfl, ?_⟩) (by assumption) ?_
            rotate_left
            · (intro w hSw; have s0 := hSw.cellp HCQ.out.1; have s1 := hSw.cellp HCQ.out.2.1; have s3 := hSw.cellp HCQ.out.2.2.1; have s4 := hSw.cellp HCQ.out.2.2.2.1; have s5 := hSw.cellp HCQ.out.2.2.2.2.1; have s6 := hSw.cellp HCQ.out.2.2.2.2.2.1; have s7 := hSw.cellp HCQ.out.2.2.2.2.2.2.1; have s8 := hSw.cellp HCQ.out.2.2.2.2.2.2.2; clear hSw; go_simp; (try with_reducible rfl))
            (try simp only [Act.put, List.setIfInBounds_toArray, List.set_cons_zero, List.set_cons_succ])
            refine wpAnyH_take (i := 14) (oi := { dst := some 110, op := _, type := _, pos := _, after := _, guard := _ }) (v := ?_) rfl (by kernel_rfl) (by kernel_rfl) (by kernel_rfl) (fun _ _ _ h => h) (Or.inl ⟨by rfl, ?_⟩) (by assumption) ?_
            rotate_left
            · (intro w hSw; have s0 := hSw.cellp HCQ.out.1; have s1 := hSw.cellp HCQ.out.2.1; have s3 := hSw.cellp HCQ.out.2.2.1; have s4 := hSw.cellp HCQ.out.2.2.2.1; have s5 := hSw.cellp HCQ.out.2.2.2.2.1; have s6 := hSw.cellp HCQ.out.2.2.2.2.2.1; have s7 := hSw.cellp HCQ.out.2.2.2.2.2.2.1; have s8 := hSw.cellp HCQ.out.2.2.2.2.2.2.2; clear hSw; go_simp; (try with_reducible rfl))
            (try simp only [Act.put, List.setIfInBounds_toArray, List.set_cons_zero, List.set_cons_succ])
            refine wpAnyH_take (i := 15) (oi := { dst := some 111, op := _, type := _, pos := _, after := _, guard := _ }) (v := ?_) rfl (by kernel_rfl) (by kernel_rfl) (by kernel_rfl) (fun _ _ _ h => h) (Or.inl ⟨by rfl, ?_⟩) (by assumption) ?_
            rotate_left
            · (intro w hSw; have s0 := hSw.cellp HCQ.out.1; have s1 := hSw.cellp HCQ.out.2.1; have s3 := hSw.cellp HCQ.out.2.2.1; have s4 := hSw.cellp HCQ.out.2.2.2.1; have s5 := hSw.cellp HCQ.out.2.2.2.2.1; have s6 := hSw.cellp HCQ.out.2.2.2.2.2.1; have s7 := hSw.cellp HCQ.out.2.2.2.2.2.2.1; have s8 := hSw.cellp HCQ.out.2.2.2.2.2.2.2; clear hSw; go_simp; (try with_reducible rfl))
            (try simp only [Act.put, List.setIfInBounds_toArray, List.set_cons_zero, List.set_cons_succ])
            refine wpAnyH_take (i := 16) (oi := { dst := some 112, op := _, type := _, pos := _, after := _, guard := _ }) (v := ?_) rfl (by kernel_rfl) (by kernel_rfl) (by kernel_rfl) (fun _ _ _ h => h) (Or.inl ⟨by rfl, ?_⟩) (by assumption) ?_
            rotate_left
            · (intro w hSw; have s0 := hSw.cellp HCQ.out.1; have s1 := hSw.cellp HCQ.out.2.1; have s3 := hSw.cellp HCQ.out.2.2.1; have s4 := hSw.cellp HCQ.out.2.2.2.1; have s5 := hSw.cellp HCQ.out.2.2.2.2.1; have s6 := hSw.cellp HCQ.out.2.2.2.2.2.1; have s7 := hSw.cellp HCQ.out.2.2.2.2.2.2.1; have s8 := hSw.cellp HCQ.out.2.2.2.2.2.2.2; clear hSw; go_simp; (try with_reducible rfl))
            (try simp only [Act.put, List.setIfInBounds_toArray, List.set_cons_zero, List.set_cons_succ])
            refine wpAnyH_take (i := 17) (oi := { dst := some 113, op := _, type := _, pos := _, after := _, guard := _ }) (v := ?_) rfl (by kernel_rfl) (by kernel_rfl) (by kernel_rfl) (fun _ _ _ h => h) (Or.inl ⟨by rfl, ?_⟩) (by assumption) ?_
            rotate_left
            · (intro w hSw; have s0 := hSw.cellp HCQ.out.1; have s1 := hSw.cellp HCQ.out.2.1; have s3 := hSw.cellp HCQ.out.2.2.1; have s4 := hSw.cellp HCQ.out.2.2.2.1; have s5 := hSw.cellp HCQ.out.2.2.2.2.1; have s6 := hSw.cellp HCQ.out.2.2.2.2.2.1; have s7 := hSw.cellp HCQ.out.2.2.2.2.2.2.1; have s8 := hSw.cellp HCQ.out.2.2.2.2.2.2.2; clear hSw; go_simp; (try with_reducible rfl))
            (try simp only [Act.put, List.setIfInBounds_toArray, List.set_cons_zero, List.set_cons_succ])
            refine wpAnyH_take (i := 18) (oi := { dst := some 114, op := _, type := _, pos := _, after := _, guard := _ }) (v := ?_) rfl (by kernel_rfl) (by kernel_rfl) (by kernel_rfl) (fun _ _ _ h => h) (Or.inl ⟨by rfl, ?_⟩) (by assumption) ?_
            rotate_left
            · (intro w hSw; have s0 := hSw.cellp HCQ.out.1; have s1 := hSw.cellp HCQ.out.2.1; have s3 := hSw.cellp HCQ.out.2.2.1; have s4 := hSw.cellp HCQ.out.2.2.2.1; have s5 := hSw.cellp HCQ.out.2.2.2.2.1; have s6 := hSw.cellp HCQ.out.2.2.2.2.2.1; have s7 := hSw.cellp HCQ.out.2.2.2.2.2.2.1; have s8 := hSw.cellp HCQ.out.2.2.2.2.2.2.2; clear hSw; go_simp; (try with_reducible rfl))
            (try simp only [Act.put, List.setIfInBounds_toArray, List.set_cons_zero, List.set_cons_succ])
            refine wpAnyH_take (i := 19) (oi := { dst := some 115, op := _, type := _, pos := _, after := _, guard := _ }) (v := ?_) rfl (by kernel_rfl) (by kernel_rfl) (by kernel_rfl) (fun _ _ _ h => h) (Or.inl ⟨by rfl, ?_⟩) (by assumption) ?_
            rotate_left
            · (intro w hSw; have s0 := hSw.cellp HCQ.out.1; have s1 := hSw.cellp HCQ.out.2.1; have s3 := hSw.cellp HCQ.out.2.2.1; have s4 := hSw.cellp HCQ.out.2.2.2.1; have s5 := hSw.cellp HCQ.out.2.2.2.2.1; have s6 := hSw.cellp HCQ.out.2.2.2.2.2.1; have s7 := hSw.cellp HCQ.out.2.2.2.2.2.2.1; have s8 := hSw.cellp HCQ.out.2.2.2.2.2.2.2; clear hSw; go_simp; (try with_reducible rfl))
            (try simp only [Act.put, List.setIfInBounds_toArray, List.set_cons_zero, List.set_cons_succ])
            refine wpAnyH_ready (rs := [20]) (by kernel_rfl) (by simp) ?_
            refine AllReadyH.cons (o := { dst := some 116, op := _, type := _, pos := _, after := _, guard := _ }) rfl (fun K hK => ?_) AllReadyH.nil
            go_simp
            refine (HDF.out _ hHeld).mono ?_
            rintro e wD ⟨v, rfl, hoD, kD⟩
            have HOD := hidMk hoD
            have HKD := hidMk kD
            clear hoD kD
            (try go_wp2_with fail)
            refine hK.out _ _ ?_ (fun hHeld => ?_)
            · exact hHeld.trans HKD.out
            clear hK K
            (try simp only [Act.put, List.setIfInBounds_toArray, List.set_cons_zero, List.set_cons_succ])
            refine wpAnyH_take (i := 21) (oi := { dst := some 95, op := _, type := _, pos := _, after := _, guard := _ }) (v := ?_) rfl (by kernel_rfl) (by kernel_rfl) (by kernel_rfl) (fun _ _ _ h => h) (Or.inl ⟨by rfl, ?_⟩) (by assumption) ?_
            rotate_left
            · (intro w hSw; have s0 := hSw.cellp HCQ.out.1; have s1 := hSw.cellp HCQ.out.2.1; have s3 := hSw.cellp HCQ.out.2.2.1; have s4 := hSw.cellp HCQ.out.2.2.2.1; have s5 := hSw.cellp HCQ.out.2.2.2.2.1; have s6 := hSw.cellp HCQ.out.2.2.2.2.2.1; have s7 := hSw.cellp HCQ.out.2.2.2.2.2.2.1; have s8 := hSw.cellp HCQ.out.2.2.2.2.2.2.2; clear hSw; go_simp; (try with_reducible rfl))
            (try simp only [Act.put, List.setIfInBounds_toArray, List.set_cons_zero, List.set_cons_succ])
            refine wpAnyH_take (i := 22) (oi := { dst := some 117, op := _, type := _, pos := _, after := _, guard := _ }) (v := ?_) rfl (by kernel_rfl) (by kernel_rfl) (by kernel_rfl) (fun _ _ _ h => h) (Or.inl ⟨by rfl, ?_⟩) (by assumption) ?_
            rotate_left
            · (intro w hSw; have s0 := hSw.cellp HCQ.out.1; have s1 := hSw.cellp HCQ.out.2.1; have s3 := hSw.cellp HCQ.out.2.2.1; have s4 := hSw.cellp HCQ.out.2.2.2.1; have s5 := hSw.cellp HCQ.out.2.2.2.2.1; have s6 := hSw.cellp HCQ.out.2.2.2.2.2.1; have s7 := hSw.cellp HCQ.out.2.2.2.2.2.2.1; have s8 := hSw.cellp HCQ.out.2.2.2.2.2.2.2; clear hSw; go_simp; (try with_reducible rfl))
            (try simp only [Act.put, List.setIfInBounds_toArray, List.set_cons_zero, List.set_cons_succ])
            refine wpAnyH_take (i := 23) (oi := { dst := some 118, op := _, type := _, pos := _, after := _, guard := _ }) (v := ?_) rfl (by kernel_rfl) (by kernel_rfl) (by kernel_rfl) (fun _ _ _ h => h) (Or.inl ⟨by rfl, ?_⟩) (by assumption) ?_
            rotate_left
            · (intro w hSw; have s0 := hSw.cellp HCQ.out.1; have s1 := hSw.cellp HCQ.out.2.1; have s3 := hSw.cellp HCQ.out.2.2.1; have s4 := hSw.cellp HCQ.out.2.2.2.1; have s5 := hSw.cellp HCQ.out.2.2.2.2.1; have s6 := hSw.cellp HCQ.out.2.2.2.2.2.1; have s7 := hSw.cellp HCQ.out.2.2.2.2.2.2.1; have s8 := hSw.cellp HCQ.out.2.2.2.2.2.2.2; clear hSw; go_simp; (try with_reducible rfl))
            (try simp only [Act.put, List.setIfInBounds_toArray, List.set_cons_zero, List.set_cons_succ])
            refine wpAnyH_take (i := 24) (oi := { dst := some 15, op := _, type := _, pos := _, after := _, guard := _ }) (v := ?_) rfl (by kernel_rfl) (by kernel_rfl) (by kernel_rfl) (fun _ _ _ h => h) (Or.inl ⟨by rfl, ?_⟩) (by assumption) ?_
            rotate_left
            · (intro w hSw; have s0 := hSw.cellp HCQ.out.1; have s1 := hSw.cellp HCQ.out.2.1; have s3 := hSw.cellp HCQ.out.2.2.1; have s4 := hSw.cellp HCQ.out.2.2.2.1; have s5 := hSw.cellp HCQ.out.2.2.2.2.1; have s6 := hSw.cellp HCQ.out.2.2.2.2.2.1; have s7 := hSw.cellp HCQ.out.2.2.2.2.2.2.1; have s8 := hSw.cellp HCQ.out.2.2.2.2.2.2.2; clear hSw; go_simp; (try with_reducible rfl))
            (try simp only [Act.put, List.setIfInBounds_toArray, List.set_cons_zero, List.set_cons_succ])
            refine wpAnyH_take (i := 25) (oi := { dst := some 16, op := _, type := _, pos := _, after := _, guard := _ }) (v := ?_) rfl (by kernel_rfl) (by kernel_rfl) (by kernel_rfl) (fun _ _ _ h => h) (Or.inl ⟨by rfl, ?_⟩) (by assumption) ?_
            rotate_left
            · (intro w hSw; have s0 := hSw.cellp HCQ.out.1; have s1 := hSw.cellp HCQ.out.2.1; have s3 := hSw.cellp HCQ.out.2.2.1; have s4 := hSw.cellp HCQ.out.2.2.2.1; have s5 := hSw.cellp HCQ.out.2.2.2.2.1; have s6 := hSw.cellp HCQ.out.2.2.2.2.2.1; have s7 := hSw.cellp HCQ.out.2.2.2.2.2.2.1; have s8 := hSw.cellp HCQ.out.2.2.2.2.2.2.2; clear hSw; go_simp; (try with_reducible rfl))
            (try simp only [Act.put, List.setIfInBounds_toArray, List.set_cons_zero, List.set_cons_succ])
            refine wpAnyH_done (by kernel_rfl) ?_ _
            clear hHeld
            obtain ⟨va, vc, hva, hvs⟩ := HOD.out.sl HLN.out
            have HKD2 := hidMk (show Kept wq wD from HKR.out.drew.trans HKD.out)
            have HRW := hidMk (HR.out.2.kp (((Kept.refl wr).drew).trans HKD.out))
            obtain ⟨ra, rc, hra, hrs⟩ := HRW.out.sl HLN.out
            subst hva
            have hra2 := hra
            clear hra
            injection hra2 with e1 e2 e3
            subst e1 e3
            have HIN := hidMk (ref_Ints va sa _ _ vc sc _ _ wD hvs hrs)
            rw [decide_eq_true rfl] at HIN
            generalize ((selL nd (lvls j) x y 0 j).map fun x => x.1).length = z at *
            clear hvs hrs
            go_wp2_with fail
            refine HIN.out.mono ?_
            rintro e w18 ⟨rfl, k18⟩
            have HK18 := hidMk ((HKQ.out.trans HKD2.out).trans k18)
            clear k18 HIN
            go_wp2_with fail
            refine (HKN.out _ HK18.out).mono ?_
            rintro e w20 ⟨rfl, k20⟩
            have HK20 := hidMk (HK18.out.trans k20)
            go_wp2_with fail
            go_ret
            exact ⟨rfl, HK20.out⟩
  · have HBG := hidMk (l10_beginBad (2000 : Int) cd w (fun e => hok ⟨e.1, e.2.1, e.2.2.1⟩))
    clear hok hb
    go_enter Tryd.func6, Tryd.ntmps6
    go_wp2_with fail
    refine HBG.out.mono ?_
    rintro e w1 ⟨rfl, k1⟩
    have HK1 := hidMk k1
    clear hw hcd
    go_wp2_with fail
    refine (HKN.out _ HK1.out).mono ?_
    rintro e w20 ⟨rfl, k20⟩
    have HK20 := hidMk (HK1.out.trans k20)
    go_wp2_with fail
    go_ret
    exact ⟨rfl, HK20.out⟩
end Go.Proofs.YtjkbhaplngnniaaDoor
