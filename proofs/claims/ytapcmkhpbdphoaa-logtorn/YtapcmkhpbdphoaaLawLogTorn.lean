/- LogTorn: if the power goes when a record is added, the log, opened again, has the records from before, or these and that one. -/
import Derived.Test.YtapcmkhpbdphoaaLgH
import Derived.Test.YtapcmkhpbdphoaaRefRec2
namespace Go.Proofs.Ytapcmkhpbdphoaa
open Go.RowKit Go.Maps
set_option linter.unusedSimpArgs false
set_option linter.unusedVariables false

/-- Between two rounds. -/
structure TnJ (w wr : World) (pp f d p g K : Nat) (va : Option Addr) (vn vc : Nat) (qs : List Sv) (s : Bf) (rs : List (List Int)) (k : Nat) : Prop where
  lg : Lg wr (fun j => j < w.heap.size ∨ j = pp) p f d g K va vn vc qs 8 0 8 s rs
  wt : s.wt = false
  wr_ : s.wr ≤ 12 * (k : Int)
  y0 : wr.cell? ⟨pp, 0, none⟩ = some (.pointer (some ⟨f, 0, none⟩))
  y1 : wr.cell? ⟨pp, 1, none⟩ = some (.pointer (some ⟨p, 0, none⟩))
  le : rs.length ≤ k
  kp : Kept w wr
set_option maxHeartbeats 4000000 in
set_option maxRecDepth 100000 in
theorem law_LogTorn (a : Option Addr) (n c : Nat) (l : List (Sv × List Int)) (a1 : Option Addr) (n1 cc : Nat) (l1 : List Int) (bh by_ : Int) (w : World) (hs : Bq w a n l) (hs1 : Sl .u8 w a1 n1 l1) (hb1 : ∀ x ∈ l1, isB x) (hcap : n1 ≤ cc) (hnil : a1 = none → cc = 0) (hbh : isI bh) (hby : isI by_) : Calls Try.prog 4 #[.slice a n c, .slice a1 n1 cc, .int .i64 bh, .int .i64 by_] w fun e w' => e = .returned (.bool true) ∧ Kept w w' := by
  have HS := hidMk hs
  have hbig := hs.big
  unfold maxLen at hbig
  have HS1 := hidMk hs1
  have HB1 := hidMk hb1
  have HNIL := hidMk hnil
  have HBH := hidMk hbh
  have HBY := hidMk hby
  have hbig1 := hs1.big
  unfold maxLen at hbig1
  clear hs hs1 hb1 hcap hnil hbh hby
  go_enter Try.func4, Try.ntmps4
  go_wp2_with fail
  refine (law25_begin w 0 8 (by omega) (by omega)).mono ?_
  rintro e w1 ⟨pp, f, d, p, g, K, va, vn, vc, qs, rfl, b1, b2, b3, b4, b5⟩
  have HJ0 := hidMk (show TnJ w w1 pp f d p g K va vn vc qs (zst 8 0) [] 0 from ⟨b3, rfl, by simp [zst], b1, b2, Nat.le_refl _, b5⟩)
  have HPP := hidMk b4
  clear b1 b2 b3 b4 b5
  go_wp2_with fail
  go_loopg [10] 21 (fun gg x wr => ∃ (k : Nat) (va : Option Addr) (vn vc : Nat) (qs : List Sv) (s : Bf) (rs : List (List Int)), k + gg = 21 ∧ k ≤ n ∧ k ≤ 20 ∧ x = .int .i64 (k : Int) ∧ Hid (TnJ w wr pp f d p g K va vn vc qs s rs k))
  case atStart => exact ⟨0, va, vn, vc, qs, zst 8 0, [], by omega, by omega, by omega, rfl, HJ0⟩
  case round =>
    clear HJ0
    obtain ⟨k, va, vn, vc, qs, s, rs, hkg, hkn, hk40, rfl, HJ⟩ := hrel
    have HKG := hidMk hkg
    clear hkg
    by_cases hk : k < n ∧ k < 20
    · obtain ⟨hk1, hk2⟩ := hk
      have hk1' : (k : Int) < (n : Int) := by omega
      have hk2' : (k : Int) < 20 := by omega
      obtain ⟨lb, lo, ha, hlbl, hcs⟩ := HS.out.cells (by omega)
      subst ha
      have HLBL := hidMk hlbl
      have c1 := HJ.out.kp.cellp (hcs k hk1)
      have y1 := HJ.out.y1
      obtain ⟨hsl, hxb⟩ := HS.out.row k hk1
      generalize bA l k = X at *
      obtain ⟨⟨xa, xn, xc⟩, xl⟩ := X
      unfold slv3 at c1
      dsimp only at c1 hsl hxb
      have HADD := hidMk (add_n (HJ.out.lg.kept (Kept.refl wr).drew) HJ.out.wt (by have := HJ.out.wr_; omega) (by have := HJ.out.le; omega) xa xn xc xl ((hsl.kept HJ.out.kp).kept (Kept.refl wr).drew) hxb (fun hx ad e => .inl (by
        obtain ⟨b, o, e2, hlt, _⟩ := hsl.cells hx
        rw [e2] at e
        cases e
        exact hlt)))
      clear hsl hxb hcs hlbl
      go_wp2_with fail
      refine wp_region_held_drew (S := (fun w9 => w9.cell? ⟨pp, 1, none⟩ = some (.pointer (some ⟨p, 0, none⟩)) ∧ w9.cell? ⟨lb, lo + k, none⟩ = some (.slice xa xn xc))) (by kernel_rfl) ?_ (fun hHeld => ?_)
      · exact ⟨y1, c1⟩
      refine wpAnyH_take (i := 0) (oi := { dst := some 32, op := _, type := _, pos := _, after := _, guard := _ }) (v := ?_) rfl (by kernel_rfl) (by kernel_rfl) (by kernel_rfl) (fun _ _ _ h => h) (Or.inl ⟨by rfl, ?_⟩) (by assumption) ?_
      rotate_left
      · (intro w9 hSw; (try dsimp only at hSw); obtain ⟨s0, s1⟩ := hSw; go_simp; (try with_reducible rfl))
      (try simp only [Act.put, List.setIfInBounds_toArray, List.set_cons_zero, List.set_cons_succ])
      refine wpAnyH_take (i := 1) (oi := { dst := some 33, op := _, type := _, pos := _, after := _, guard := _ }) (v := ?_) rfl (by kernel_rfl) (by kernel_rfl) (by kernel_rfl) (fun _ _ _ h => h) (Or.inl ⟨by rfl, ?_⟩) (by assumption) ?_
      rotate_left
      · (intro w9 hSw; (try dsimp only at hSw); obtain ⟨s0, s1⟩ := hSw; go_simp; (try with_reducible rfl))
      (try simp only [Act.put, List.setIfInBounds_toArray, List.set_cons_zero, List.set_cons_succ])
      refine wpAnyH_take (i := 2) (oi := { dst := some 34, op := _, type := _, pos := _, after := _, guard := _ }) (v := ?_) rfl (by kernel_rfl) (by kernel_rfl) (by kernel_rfl) (fun _ _ _ h => h) (Or.inl ⟨by rfl, ?_⟩) (by assumption) ?_
      rotate_left
      · (intro w9 hSw; (try dsimp only at hSw); obtain ⟨s0, s1⟩ := hSw; go_simp; (try with_reducible rfl))
      (try simp only [Act.put, List.setIfInBounds_toArray, List.set_cons_zero, List.set_cons_succ])
      refine wpAnyH_take (i := 3) (oi := { dst := some 35, op := _, type := _, pos := _, after := _, guard := _ }) (v := ?_) rfl (by kernel_rfl) (by kernel_rfl) (by kernel_rfl) (fun _ _ _ h => h) (Or.inl ⟨by rfl, ?_⟩) (by assumption) ?_
      rotate_left
      · (intro w9 hSw; (try dsimp only at hSw); obtain ⟨s0, s1⟩ := hSw; go_simp; (try with_reducible rfl))
      (try simp only [Act.put, List.setIfInBounds_toArray, List.set_cons_zero, List.set_cons_succ])
      refine wpAnyH_take (i := 4) (oi := { dst := some 36, op := _, type := _, pos := _, after := _, guard := _ }) (v := ?_) rfl (by kernel_rfl) (by kernel_rfl) (by kernel_rfl) (fun _ _ _ h => h) (Or.inl ⟨by rfl, ?_⟩) (by assumption) ?_
      rotate_left
      · (intro w9 hSw; (try dsimp only at hSw); obtain ⟨s0, s1⟩ := hSw; go_simp; (try with_reducible rfl))
      (try simp only [Act.put, List.setIfInBounds_toArray, List.set_cons_zero, List.set_cons_succ])
      refine wpAnyH_take (i := 5) (oi := { dst := some 37, op := _, type := _, pos := _, after := _, guard := _ }) (v := ?_) rfl (by kernel_rfl) (by kernel_rfl) (by kernel_rfl) (fun _ _ _ h => h) (Or.inl ⟨by rfl, ?_⟩) (by assumption) ?_
      rotate_left
      · (intro w9 hSw; (try dsimp only at hSw); obtain ⟨s0, s1⟩ := hSw; go_simp; (try with_reducible rfl))
      (try simp only [Act.put, List.setIfInBounds_toArray, List.set_cons_zero, List.set_cons_succ])
      refine wpAnyH_take (i := 6) (oi := { dst := some 38, op := _, type := _, pos := _, after := _, guard := _ }) (v := ?_) rfl (by kernel_rfl) (by kernel_rfl) (by kernel_rfl) (fun _ _ _ h => h) (Or.inl ⟨by rfl, ?_⟩) (by assumption) ?_
      rotate_left
      · (intro w9 hSw; (try dsimp only at hSw); obtain ⟨s0, s1⟩ := hSw; go_simp; (try with_reducible rfl))
      (try simp only [Act.put, List.setIfInBounds_toArray, List.set_cons_zero, List.set_cons_succ])
      refine wpAnyH_take (i := 7) (oi := { dst := some 39, op := _, type := _, pos := _, after := _, guard := _ }) (v := ?_) rfl (by kernel_rfl) (by kernel_rfl) (by kernel_rfl) (fun _ _ _ h => h) (Or.inl ⟨by rfl, ?_⟩) (by assumption) ?_
      rotate_left
      · (intro w9 hSw; (try dsimp only at hSw); obtain ⟨s0, s1⟩ := hSw; go_simp; (try with_reducible rfl))
      (try simp only [Act.put, List.setIfInBounds_toArray, List.set_cons_zero, List.set_cons_succ])
      refine wpAnyH_ready (rs := [8]) (by kernel_rfl) (by simp) ?_
      refine AllReadyH.cons (o := { dst := some 40, op := _, type := _, pos := _, after := _, guard := _ }) rfl (fun K hK => ?_) AllReadyH.nil
      go_simp
      refine HADD.out.mono ?_
      rintro e w4 ⟨x, va4, vn4, vc4, qs4, s4, rfl, t1, t2, t3, t4, t5⟩
      have T1 := hidMk t1
      have LG4 := hidMk t2
      have T3 := hidMk t3
      have T4 := hidMk t4
      have C4 := hidMk (show Chg (fun j => ¬ (j < w.heap.size ∨ j = pp)) wr w4 from (Chg.refl _ _).drew.trans t5)
      clear t1 t2 t3 t4 t5
      have y14 := C4.out.cellp y1 (not_not_intro (.inr rfl))
      have c14 := C4.out.cellp c1 (not_not_intro (.inl HLBL.out))
      (try go_wp2_with fail)
      refine hK.out _ _ ?_ (fun hHeld => ?_)
      · exact ⟨y14, c14⟩
      clear hK K
      (try simp only [Act.put, List.setIfInBounds_toArray, List.set_cons_zero, List.set_cons_succ])
      refine wpAnyH_done (by kernel_rfl) ?_ _
      have HY0 := hidMk (C4.out.cellp HJ.out.y0 (not_not_intro (.inr rfl)))
      have HK4 := hidMk (show Kept w w4 from Chg.kept HJ.out.kp C4.out (fun j e => by omega))
      have HWR4 := hidMk (show s4.wr ≤ 12 * ((k + 1 : Nat) : Int) by have := T4.out; have := HJ.out.wr_; omega)
      clear HADD
      go_wp2_with fail
      go_roundg (gk - 1)
      case measure => have := HKG.out; omega
      case rel => exact ⟨k + 1, va4, vn4, vc4, qs4, s4, (if x = 0 then rs ++ [xl] else rs), by have := HKG.out; omega, by omega, by omega, by go_num, hidMk ⟨LG4.out, T3.out, HWR4.out, HY0.out, y14, by have := HJ.out.le; split <;> (try rw [List.length_append, List.length_singleton]) <;> omega, HK4.out⟩⟩
    · have LG := hidMk HJ.out.lg
      have y0 := HJ.out.y0
      have y1 := HJ.out.y1
      have HY0 := hidMk HJ.out.y0
      have HY1 := hidMk HJ.out.y1
      have HWT := hidMk HJ.out.wt
      have HWR := hidMk (show s.wr ≤ 300 by have := HJ.out.wr_; omega)
      have HKP := hidMk HJ.out.kp
      have HRL := hidMk (show ∀ r ∈ rs, r.length ≤ 1000 from fun r hr => by have := (HJ.out.lg.ok r hr).2.1; omega)
      have HRN := hidMk (show rs.length ≤ 20 from by have := HJ.out.le; omega)
      have HQN := hidMk (show ∀ qs' : List Sv, rs.length = qs'.length → qs'.length ≤ 100000 from fun qs' e => by have := HRN.out; omega)
      clear HJ
      have hcase : (¬ k < n) ∨ (k < n ∧ ¬ k < 20) := by omega
      rcases hcase with hk1 | ⟨hk1, hk2⟩
      · have hk1' : ¬ ((k : Int) < (n : Int)) := by omega
        clear hk
        go_wp2_with fail
        refine (log_Records LG.out.lc LG.out.fl LG.out.rz HRL.out (HQN.out _ LG.out.rz.len)).mono ?_
        rintro e w3 ⟨v3, q3, rfl, z3, b3, k3⟩
        obtain ⟨a3, c3, rfl, _, _, _⟩ := z3.shape
        have Z3 := hidMk z3
        have B3 := hidMk b3
        have K3 := hidMk k3
        clear z3 b3 k3 y1
        have y1 := K3.out.cellp HY1.out
        go_wp2_with fail
        refine (log_Used (LG.out.lc.kept K3.out) (LG.out.fl.kept K3.out)).mono ?_
        rintro e w4 ⟨rfl, k4⟩
        have K34 := hidMk k4
        have K4 := hidMk (K3.out.trans k4)
        clear k4 y1
        obtain ⟨u, hu⟩ : ∃ u, u = (catR rs).length := ⟨_, rfl⟩
        rw [← hu]
        have HU := hidMk hu
        have HUB := hidMk (show u ≤ 256 from by have := LG.out.le; omega)
        have HFW := hidMk (show w.heap.size ≤ f ∧ pp ≠ f from by have h := LG.out.tp.2.1; omega)
        have HPF := hidMk (show ¬ pp = f from HFW.out.2)
        have HFW := hidMk HFW.out.1
        clear hu
        by_cases hbad : n1 = 0 ∨ 250 < n1
        · have HBAD := hidMk hbad
          have HP := hidMk (ref24_Put_bad a1 n1 cc w4 hbad)
          clear hbad y0
          go_wp2_with fail
          refine HP.out.mono ?_
          rintro e w5 ⟨rfl, hw5⟩
          rw [hw5]
          clear hw5 w5
          have y0 := K4.out.cellp HY0.out
          go_wp2_with fail
          refine (bk_Stop (LG.out.fl.kept K4.out) bh by_).mono ?_
          rintro e w6 ⟨rfl, f6, c6⟩
          have C6 := hidMk c6
          have KW6 := hidMk (show Kept w w6 from Chg.kept (HKP.out.trans K4.out) C6.out (fun j e => by subst e; exact HFW.out))
          clear f6 c6 y0
          by_cases hst : stE s bh by_ = 0
          · rw [hst]
            clear hst
            have y1 := C6.out.cellp (K4.out.cellp HY1.out) HPF.out
            go_wp2_with fail
            refine (log_Add_bad (f := f) (C6.out.cellp (K4.out.cellp LG.out.lc.c0) LG.out.ne.1) a1 n1 cc HBAD.out).mono ?_
            rintro e w7 ⟨rfl, k7⟩
            have KW7 := hidMk (KW6.out.trans k7)
            clear k7
            go_wp2_with fail
            refine (law25_known _).mono ?_
            rintro e wk ⟨rfl, kk⟩
            have KKF := hidMk kk
            clear kk
            go_wp2_with fail
            go_ret
            exact ⟨rfl, KW7.out.trans KKF.out⟩
          · have hst1 : (stE s bh by_ == 0) = false := by simpa using hst
            have hst2 : (stE s bh by_ != 0) = true := by simpa using hst
            generalize stE s bh by_ = sx at *
            go_wp2_with fail
            refine (law25_known _).mono ?_
            rintro e wk ⟨rfl, kk⟩
            have KKF := hidMk kk
            clear kk
            go_wp2_with fail
            go_ret
            exact ⟨rfl, KW6.out.trans KKF.out⟩
        · have HRO := hidMk (show RecOk l1 from ⟨by have := HS1.out.len; omega, by have := HS1.out.len; omega, HB1.out⟩)
          have HAD := hidMk (show ∀ ad, a1 = some ad → ad.block < w.heap.size from fun ad e => by
            obtain ⟨b, o, e2, hlt, _⟩ := HS1.out.cells (by omega)
            rw [e2] at e
            cases e
            exact hlt)
          have HP := hidMk (ref24_Put a1 n1 cc l1 w4 (HS1.out.kept (HKP.out.trans K4.out)) HB1.out HNIL.out (by omega) (by omega))
          clear hbad y0
          go_wp2_with fail
          refine HP.out.mono ?_
          rintro e w5 ⟨v5, rfl, o5, k5⟩
          obtain ⟨a5, c5, rfl⟩ := o5.form
          have HRS := hidMk (recB_small HRO.out)
          obtain ⟨rl, hrl⟩ : ∃ rl, rl = (recB l1).length := ⟨_, rfl⟩
          have HRLE := hidMk hrl
          rw [← hrl] at HRS ⊢
          have K35 := hidMk (K34.out.trans k5)
          have K5 := hidMk (K4.out.trans k5)
          have LG5 := hidMk (LG.out.more (Chg.of_kept K5.out))
          have HWB := hidMk (show (∀ g, (Value.slice a3 q3.length c3).ownBlock = some g → ¬ ¬ ((g < w.heap.size ∨ g = pp) ∨ (wr.heap.size ≤ g ∧ g < w5.heap.size))) ∧ (∀ x ∈ q3, ∀ ad, x.1 = some ad → ¬ ¬ ((ad.block < w.heap.size ∨ ad.block = pp) ∨ (wr.heap.size ≤ ad.block ∧ ad.block < w5.heap.size))) from ⟨fun g hg => not_not_intro (.inr (by have := Z3.out.olt g hg; have := K35.out.size; omega)), fun x hx ad e => not_not_intro (.inr (by have := B3.out x hx ad e; have := (Z3.out.ap x hx ad e).2; have := K35.out.size; omega))⟩)
          clear o5 k5 hrl
          have y0 := K5.out.cellp HY0.out
          go_wp2_with fail
          refine (bk_Stop LG5.out.fl bh by_).mono ?_
          rintro e w6 ⟨rfl, f6, c6⟩
          have F6 := hidMk f6
          have C6 := hidMk c6
          have KW6 := hidMk (show Kept w w6 from Chg.kept (HKP.out.trans K5.out) C6.out (fun j e => by subst e; exact HFW.out))
          clear f6 c6 y0
          by_cases hst : stE s bh by_ = 0
          · have HST0 := hidMk hst
            have HYB := hidMk (show 0 ≤ bh ∧ 0 ≤ by_ ∧ by_ ≤ 32 from by
              have h := hst
              unfold stE at h
              split at h
              · omega
              · omega)
            rw [hst]
            have LG6 := hidMk (LG5.out.stop F6.out C6.out HBH.out hst)
            have HSWR := hidMk (show (stS s bh by_).wr = s.wr by unfold stS; rw [if_pos hst])
            have HSL6 := hidMk (show Sl .u8 w6 a1 n1 l1 from (HS1.out.kept (HKP.out.trans K5.out)).chgB C6.out (fun ad e e2 => by have := HAD.out ad e; have := HFW.out; omega))
            clear hst
            have y1 := C6.out.cellp (K5.out.cellp HY1.out) HPF.out
            by_cases hfull : 256 < u + rl
            · go_wp2_with fail
              refine (log_Add_full LG6.out a1 n1 cc l1 HSL6.out HRO.out (by rw [← HU.out, ← HRLE.out]; omega)).mono ?_
              rintro e w7 ⟨rfl, k7⟩
              have KW7 := hidMk (KW6.out.trans k7)
              clear k7
              go_wp2_with fail
              refine (law25_known _).mono ?_
              rintro e wk ⟨rfl, kk⟩
              have KKF := hidMk kk
              clear kk
              go_wp2_with fail
              go_ret
              exact ⟨rfl, KW7.out.trans KKF.out⟩
            · go_wp2_with fail
              refine (log_Add LG6.out a1 n1 cc l1 HSL6.out HRO.out (by rw [← HU.out, ← HRLE.out]; omega) (fun ad e => .inl (.inl (HAD.out ad e))) (by rw [HSWR.out]; have := HWR.out; omega) (by have := HRN.out; omega)).mono ?_
              rintro e w7 (⟨rfl, _, _, _, _, _, _, _, _, c7⟩ | ⟨rfl, e1, i, s7, e2, f7, e3, e4, e5, e6, c7⟩)
              · have KW7 := hidMk (show Kept w w7 from Chg.kept KW6.out c7 (fun j e => by omega))
                clear c7
                go_wp2_with fail
                refine (law25_known _).mono ?_
                rintro e wk ⟨rfl, kk⟩
                have KKF := hidMk kk
                clear kk
                go_wp2_with fail
                go_ret
                exact ⟨rfl, KW7.out.trans KKF.out⟩
              · have HFUL := hidMk (show u + rl ≤ 256 by omega)
                clear hfull
                have hbe : bh = (i : Int) := by have h := e2; unfold stS at h; rw [if_pos HST0.out] at h; exact h
                subst hbe
                obtain ⟨y, hy⟩ : ∃ y : Nat, by_ = y := ⟨by_.toNat, by have := HYB.out; omega⟩
                subst hy
                have HSF := hidMk (show (stS s (i : Int) (y : Int)).F = s.F ∧ (stS s (i : Int) (y : Int)).by_ = (y : Int) ∧ (stS s (i : Int) (y : Int)).wr = s.wr from by unfold stS; rw [if_pos HST0.out]; exact ⟨rfl, rfl, rfl⟩)
                obtain ⟨q, hq⟩ : ∃ q, q = u / 32 := ⟨_, rfl⟩
                rw [HSF.out.1, HSF.out.2.1, ← HU.out, ← hq, Int.toNat_natCast] at e4
                rw [← HU.out, ← hq] at e3
                have HC := hidMk (show (q + i) * 32 + y ≤ 256 by have := HYB.out; omega)
                have HQI := hidMk (show q ≤ 8 ∧ i ≤ 8 ∧ y ≤ 32 by have := HYB.out; omega)
                have HAI := hidMk (show AllIs (reg (upS s7).F 0 8) (if (catR rs).length + (recB l1).length ≤ (q + i) * 32 + y then rs ++ [l1] else rs) (if (catR rs).length + (recB l1).length ≤ (q + i) * 32 + y then (catR (rs ++ [l1])).length else (catR rs).length) from torn_all (s := s) LG.out.fl.len (by omega) (by omega) LG.out.rg LG.out.ok HRO.out (by rw [← HU.out, ← HRLE.out]; exact HFUL.out) (by have := HC.out; omega) (by show s7.F = _; rw [e4, show (0 + q + i) * 32 + y = 0 * 32 + ((q + i) * 32 + y) by omega]))
                rw [← HU.out, ← HRLE.out] at HAI
                have F7 := hidMk f7
                have C7 := hidMk c7
                have HDIV := hidMk (div32 u q hq)
                have hq1 : (q : Int) ≤ 8 := by have := HQI.out; omega
                have hi1 : (i : Int) ≤ 8 := by have := HQI.out; omega
                have hyy : (y : Int) ≤ 32 := by have := HQI.out; omega
                have hu1 : (u : Int) ≤ 256 := by have := HUB.out; omega
                have hr1 : (rl : Int) ≤ 257 := by have := HRS.out; omega
                have y07 := C7.out.cellp (C6.out.cellp (K5.out.cellp HY0.out) HPF.out) (not_not_intro (.inl (.inr rfl)))
                clear e1 e2 e3 e4 e5 e6 f7 c7 hq y1
                have y0 := y07
                go_wp2_with fail
                refine (bk_Up F7.out).mono ?_
                rintro e w8 ⟨rfl, f8, c8⟩
                have F8 := hidMk f8
                have C8 := hidMk c8
                have y08 := C8.out.cellp y07 HPF.out
                have ZW8 := hidMk (show Rz w8 wr.heap.size (.slice a3 q3.length c3) q3 rs from (((Z3.out.kept K35.out).chg C6.out (fun g hg e => HWB.out.1 g hg (by rw [e]; exact LG5.out.tp.2.1)) (fun x hx ad e e2 => HWB.out.2 x hx ad e (by rw [e2]; exact LG5.out.tp.2.1))).chg C7.out (fun g hg => HWB.out.1 g hg) (fun x hx ad e => HWB.out.2 x hx ad e)).chg C8.out (fun g hg e => HWB.out.1 g hg (by rw [e]; exact LG5.out.tp.2.1)) (fun x hx ad e e2 => HWB.out.2 x hx ad e (by rw [e2]; exact LG5.out.tp.2.1)))
                have SL8 := hidMk (show Sl .u8 w8 a1 n1 l1 from (((HS1.out.kept (HKP.out.trans K5.out)).chgB C6.out (fun ad e e2 => by have := HAD.out ad e; have := HFW.out; omega)).chgB C7.out (fun ad e => not_not_intro (.inl (.inl (HAD.out ad e))))).chgB C8.out (fun ad e e2 => by have := HAD.out ad e; have := HFW.out; omega))
                have KW8 := hidMk (show Kept w w8 from Chg.kept (Chg.kept KW6.out C7.out (fun j e => by omega)) C8.out (fun j e => by subst e; exact HFW.out))
                clear f8 c8 y0 y07
                have y0 := y08
                by_cases hcmp : u + rl ≤ (q + i) * 32 + y
                · rw [if_pos hcmp, if_pos hcmp] at HAI
                  have hcmp' : (u : Int) + (rl : Int) ≤ ((q : Int) + (i : Int)) * 32 + (y : Int) := by omega
                  have HOPN := hidMk (log_Open F8.out rfl 0 8 (by omega) (by omega) (by omega) _ _ HAI.out)
                  clear hcmp
                  have HRS9 := hidMk (show ∀ r ∈ rs ++ [l1], RecOk r from fun r hr => by rcases List.mem_append.1 hr with hr | hr; exact LG.out.ok r hr; simp at hr; subst hr; exact HRO.out)
                  have HRL9 := hidMk (show ∀ r ∈ rs ++ [l1], r.length ≤ 1000 from fun r hr => by have := (HRS9.out r hr).2.1; omega)
                  have HRB9 := hidMk (show ∀ r ∈ rs ++ [l1], ∀ x ∈ r, isB x from fun r hr => (HRS9.out r hr).2.2)
                  have HRN9 := hidMk (show (rs ++ [l1]).length ≤ 100000 from by have := HRN.out; (try rw [List.length_append, List.length_singleton]); omega)
                  have HQN9 := hidMk (show ∀ qs' : List Sv, (rs ++ [l1]).length = qs'.length → qs'.length ≤ 100000 from fun qs' e => by have := HRN9.out; omega)
                  go_wp2_with fail
                  refine HOPN.out.mono ?_
                  rintro e w9 ⟨p9, g9, K9, va9, vn9, vc9, qs9, cl9, rfl, t1, _, _, _, _, _, _, t8, _, _, _, t12⟩
                  have LC9 := hidMk t1
                  have RZ9 := hidMk t8
                  have K89 := hidMk t12
                  have FL9 := hidMk (F8.out.kept t12)
                  have ZW9 := hidMk (ZW8.out.kept t12)
                  clear t1 t8 t12 HOPN
                  have hdiv := HDIV.out
                  go_wp2_with (at_builtin; refine wpList_catZ _ (by rfl) _ _ (by rfl) (by rfl) wr.heap.size _ q3 rs (by rfl) ZW9.out ?c1 ?_)
                  case c1 => exact HQN.out _ ZW9.out.len
                  intro v10 w10 z10 k10
                  obtain ⟨a10, c10, rfl, _, _, _⟩ := z10.shape
                  have Z10 := hidMk z10
                  have K10 := hidMk k10
                  clear z10 k10 hdiv
                  have KA := hidMk ((Kept.refl w10).alloc (.cells #[.slice a1 n1 cc] 33))
                  have HSLA := hidMk ((SL8.out.kept K89.out).kept (K10.out.trans KA.out))
                  have HSD := hidMk (show ∀ ad, a1 = some ad → (Value.slice a10 q3.length c10).ownBlock ≠ some ad.block ∧ ad.block < (w10.alloc (.cells #[.slice a1 n1 cc] 33)).heap.size from fun ad e => by
                    have h1 := HAD.out ad e
                    have h2 := HKP.out.size
                    have h3 := KW8.out.size
                    have h4 := K89.out.size
                    have h5 := K10.out.size
                    refine ⟨fun e2 => ?_, by rw [World.size_alloc]; omega⟩
                    have := (Z10.out.olt _ e2).1
                    omega)
                  go_wp2_with (at_builtin; refine wpList_pushZ _ (by rfl) _ _ (by rfl) w9.heap.size _ q3 rs (by rfl) (Z10.out.kept KA.out) (Nat.le_trans K10.out.size KA.out.size) w10.heap.size (a1, n1, cc) l1 (by rfl) (by simp [slv3]) HSLA.out HSD.out (HQN.out _ Z10.out.len) ?_; intro g12 cap12 w12 z12 k12 g12'; have Z12 := hidMk z12; have K12 := hidMk (show Kept w9 w12 from Chg.kept (K10.out.trans KA.out) k12 (fun j e => (Z10.out.olt j e).1)); clear z12 k12 g12')
                  have LC9 := hidMk (LC9.out.kept K12.out)
                  have FL9 := hidMk (FL9.out.kept K12.out)
                  have RZ9 := hidMk (RZ9.out.kept K12.out)
                  have ZW12 := hidMk (ZW9.out.kept K12.out)
                  have KW12 := hidMk (KW8.out.trans (K89.out.trans K12.out))
                  go_wp2_with fail
                  refine (log_Records LC9.out FL9.out RZ9.out HRL9.out (HQN9.out _ RZ9.out.len)).mono ?_
                  rintro e w13 ⟨v13, q13, rfl, z13, b13, k13⟩
                  obtain ⟨a13, c13, rfl, _, _, _⟩ := z13.shape
                  have Z13 := hidMk z13
                  have K13 := hidMk k13
                  clear z13 b13 k13
                  go_wp2_with fail
                  refine (ref24_Same Z13.out (Z12.out.kept K13.out) HRB9.out HRN9.out).mono ?_
                  rintro e w14 ⟨rfl, k14⟩
                  have K14 := hidMk (KW12.out.trans (K13.out.trans k14))
                  clear k14
                  go_wp2_with fail
                  refine (law25_known _).mono ?_
                  rintro e wk ⟨rfl, kk⟩
                  have KKF := hidMk kk
                  clear kk
                  go_wp2_with fail
                  go_ret
                  exact ⟨rfl, K14.out.trans KKF.out⟩
                · rw [if_neg hcmp, if_neg hcmp] at HAI
                  have hcmp' : ((q : Int) + (i : Int)) * 32 + (y : Int) < (u : Int) + (rl : Int) := by omega
                  have HOPN := hidMk (log_Open F8.out rfl 0 8 (by omega) (by omega) (by omega) _ _ HAI.out)
                  clear hcmp
                  have HRS9 := hidMk (show ∀ r ∈ rs, RecOk r from LG.out.ok)
                  have HRL9 := hidMk (show ∀ r ∈ rs, r.length ≤ 1000 from fun r hr => by have := (HRS9.out r hr).2.1; omega)
                  have HRB9 := hidMk (show ∀ r ∈ rs, ∀ x ∈ r, isB x from fun r hr => (HRS9.out r hr).2.2)
                  have HRN9 := hidMk (show (rs).length ≤ 100000 from by have := HRN.out; (try rw [List.length_append, List.length_singleton]); omega)
                  have HQN9 := hidMk (show ∀ qs' : List Sv, (rs).length = qs'.length → qs'.length ≤ 100000 from fun qs' e => by have := HRN9.out; omega)
                  go_wp2_with fail
                  refine HOPN.out.mono ?_
                  rintro e w9 ⟨p9, g9, K9, va9, vn9, vc9, qs9, cl9, rfl, t1, _, _, _, _, _, _, t8, _, _, _, t12⟩
                  have LC9 := hidMk t1
                  have RZ9 := hidMk t8
                  have K89 := hidMk t12
                  have FL9 := hidMk (F8.out.kept t12)
                  have ZW9 := hidMk (ZW8.out.kept t12)
                  clear t1 t8 t12 HOPN
                  have hdiv := HDIV.out
                  go_wp2_with (at_builtin; refine wpList_catZ _ (by rfl) _ _ (by rfl) (by rfl) wr.heap.size _ q3 rs (by rfl) ZW9.out ?c1 ?_)
                  case c1 => exact HQN.out _ ZW9.out.len
                  intro v10 w10 z10 k10
                  obtain ⟨a10, c10, rfl, _, _, _⟩ := z10.shape
                  have Z10 := hidMk z10
                  have K10 := hidMk k10
                  clear z10 k10 hdiv
                  have KA := hidMk ((Kept.refl w10).alloc (.cells #[.slice a1 n1 cc] 33))
                  have HSLA := hidMk ((SL8.out.kept K89.out).kept (K10.out.trans KA.out))
                  have HSD := hidMk (show ∀ ad, a1 = some ad → (Value.slice a10 q3.length c10).ownBlock ≠ some ad.block ∧ ad.block < (w10.alloc (.cells #[.slice a1 n1 cc] 33)).heap.size from fun ad e => by
                    have h1 := HAD.out ad e
                    have h2 := HKP.out.size
                    have h3 := KW8.out.size
                    have h4 := K89.out.size
                    have h5 := K10.out.size
                    refine ⟨fun e2 => ?_, by rw [World.size_alloc]; omega⟩
                    have := (Z10.out.olt _ e2).1
                    omega)
                  go_wp2_with (at_builtin; refine wpList_pushZ _ (by rfl) _ _ (by rfl) w9.heap.size _ q3 rs (by rfl) (Z10.out.kept KA.out) (Nat.le_trans K10.out.size KA.out.size) w10.heap.size (a1, n1, cc) l1 (by rfl) (by simp [slv3]) HSLA.out HSD.out (HQN.out _ Z10.out.len) ?_; intro g12 cap12 w12 z12 k12 g12'; have Z12 := hidMk z12; have K12 := hidMk (show Kept w9 w12 from Chg.kept (K10.out.trans KA.out) k12 (fun j e => (Z10.out.olt j e).1)); clear z12 k12 g12')
                  have LC9 := hidMk (LC9.out.kept K12.out)
                  have FL9 := hidMk (FL9.out.kept K12.out)
                  have RZ9 := hidMk (RZ9.out.kept K12.out)
                  have ZW12 := hidMk (ZW9.out.kept K12.out)
                  have KW12 := hidMk (KW8.out.trans (K89.out.trans K12.out))
                  go_wp2_with fail
                  refine (log_Records LC9.out FL9.out RZ9.out HRL9.out (HQN9.out _ RZ9.out.len)).mono ?_
                  rintro e w13 ⟨v13, q13, rfl, z13, b13, k13⟩
                  obtain ⟨a13, c13, rfl, _, _, _⟩ := z13.shape
                  have Z13 := hidMk z13
                  have K13 := hidMk k13
                  clear z13 b13 k13
                  go_wp2_with fail
                  refine (ref24_Same Z13.out (ZW12.out.kept K13.out) HRB9.out HRN9.out).mono ?_
                  rintro e w14 ⟨rfl, k14⟩
                  have K14 := hidMk (KW12.out.trans (K13.out.trans k14))
                  clear k14
                  go_wp2_with fail
                  refine (law25_known _).mono ?_
                  rintro e wk ⟨rfl, kk⟩
                  have KKF := hidMk kk
                  clear kk
                  go_wp2_with fail
                  go_ret
                  exact ⟨rfl, K14.out.trans KKF.out⟩
          · have hst1 : (stE s bh by_ == 0) = false := by simpa using hst
            have hst2 : (stE s bh by_ != 0) = true := by simpa using hst
            generalize stE s bh by_ = sx at *
            go_wp2_with fail
            refine (law25_known _).mono ?_
            rintro e wk ⟨rfl, kk⟩
            have KKF := hidMk kk
            clear kk
            go_wp2_with fail
            go_ret
            exact ⟨rfl, KW6.out.trans KKF.out⟩
      · have hk1' : (k : Int) < (n : Int) := by omega
        have hk2' : ¬ ((k : Int) < 20) := by omega
        clear hk
        go_wp2_with fail
        refine (log_Records LG.out.lc LG.out.fl LG.out.rz HRL.out (HQN.out _ LG.out.rz.len)).mono ?_
        rintro e w3 ⟨v3, q3, rfl, z3, b3, k3⟩
        obtain ⟨a3, c3, rfl, _, _, _⟩ := z3.shape
        have Z3 := hidMk z3
        have B3 := hidMk b3
        have K3 := hidMk k3
        clear z3 b3 k3 y1
        have y1 := K3.out.cellp HY1.out
        go_wp2_with fail
        refine (log_Used (LG.out.lc.kept K3.out) (LG.out.fl.kept K3.out)).mono ?_
        rintro e w4 ⟨rfl, k4⟩
        have K34 := hidMk k4
        have K4 := hidMk (K3.out.trans k4)
        clear k4 y1
        obtain ⟨u, hu⟩ : ∃ u, u = (catR rs).length := ⟨_, rfl⟩
        rw [← hu]
        have HU := hidMk hu
        have HUB := hidMk (show u ≤ 256 from by have := LG.out.le; omega)
        have HFW := hidMk (show w.heap.size ≤ f ∧ pp ≠ f from by have h := LG.out.tp.2.1; omega)
        have HPF := hidMk (show ¬ pp = f from HFW.out.2)
        have HFW := hidMk HFW.out.1
        clear hu
        by_cases hbad : n1 = 0 ∨ 250 < n1
        · have HBAD := hidMk hbad
          have HP := hidMk (ref24_Put_bad a1 n1 cc w4 hbad)
          clear hbad y0
          go_wp2_with fail
          refine HP.out.mono ?_
          rintro e w5 ⟨rfl, hw5⟩
          rw [hw5]
          clear hw5 w5
          have y0 := K4.out.cellp HY0.out
          go_wp2_with fail
          refine (bk_Stop (LG.out.fl.kept K4.out) bh by_).mono ?_
          rintro e w6 ⟨rfl, f6, c6⟩
          have C6 := hidMk c6
          have KW6 := hidMk (show Kept w w6 from Chg.kept (HKP.out.trans K4.out) C6.out (fun j e => by subst e; exact HFW.out))
          clear f6 c6 y0
          by_cases hst : stE s bh by_ = 0
          · rw [hst]
            clear hst
            have y1 := C6.out.cellp (K4.out.cellp HY1.out) HPF.out
            go_wp2_with fail
            refine (log_Add_bad (f := f) (C6.out.cellp (K4.out.cellp LG.out.lc.c0) LG.out.ne.1) a1 n1 cc HBAD.out).mono ?_
            rintro e w7 ⟨rfl, k7⟩
            have KW7 := hidMk (KW6.out.trans k7)
            clear k7
            go_wp2_with fail
            refine (law25_known _).mono ?_
            rintro e wk ⟨rfl, kk⟩
            have KKF := hidMk kk
            clear kk
            go_wp2_with fail
            go_ret
            exact ⟨rfl, KW7.out.trans KKF.out⟩
          · have hst1 : (stE s bh by_ == 0) = false := by simpa using hst
            have hst2 : (stE s bh by_ != 0) = true := by simpa using hst
            generalize stE s bh by_ = sx at *
            go_wp2_with fail
            refine (law25_known _).mono ?_
            rintro e wk ⟨rfl, kk⟩
            have KKF := hidMk kk
            clear kk
            go_wp2_with fail
            go_ret
            exact ⟨rfl, KW6.out.trans KKF.out⟩
        · have HRO := hidMk (show RecOk l1 from ⟨by have := HS1.out.len; omega, by have := HS1.out.len; omega, HB1.out⟩)
          have HAD := hidMk (show ∀ ad, a1 = some ad → ad.block < w.heap.size from fun ad e => by
            obtain ⟨b, o, e2, hlt, _⟩ := HS1.out.cells (by omega)
            rw [e2] at e
            cases e
            exact hlt)
          have HP := hidMk (ref24_Put a1 n1 cc l1 w4 (HS1.out.kept (HKP.out.trans K4.out)) HB1.out HNIL.out (by omega) (by omega))
          clear hbad y0
          go_wp2_with fail
          refine HP.out.mono ?_
          rintro e w5 ⟨v5, rfl, o5, k5⟩
          obtain ⟨a5, c5, rfl⟩ := o5.form
          have HRS := hidMk (recB_small HRO.out)
          obtain ⟨rl, hrl⟩ : ∃ rl, rl = (recB l1).length := ⟨_, rfl⟩
          have HRLE := hidMk hrl
          rw [← hrl] at HRS ⊢
          have K35 := hidMk (K34.out.trans k5)
          have K5 := hidMk (K4.out.trans k5)
          have LG5 := hidMk (LG.out.more (Chg.of_kept K5.out))
          have HWB := hidMk (show (∀ g, (Value.slice a3 q3.length c3).ownBlock = some g → ¬ ¬ ((g < w.heap.size ∨ g = pp) ∨ (wr.heap.size ≤ g ∧ g < w5.heap.size))) ∧ (∀ x ∈ q3, ∀ ad, x.1 = some ad → ¬ ¬ ((ad.block < w.heap.size ∨ ad.block = pp) ∨ (wr.heap.size ≤ ad.block ∧ ad.block < w5.heap.size))) from ⟨fun g hg => not_not_intro (.inr (by have := Z3.out.olt g hg; have := K35.out.size; omega)), fun x hx ad e => not_not_intro (.inr (by have := B3.out x hx ad e; have := (Z3.out.ap x hx ad e).2; have := K35.out.size; omega))⟩)
          clear o5 k5 hrl
          have y0 := K5.out.cellp HY0.out
          go_wp2_with fail
          refine (bk_Stop LG5.out.fl bh by_).mono ?_
          rintro e w6 ⟨rfl, f6, c6⟩
          have F6 := hidMk f6
          have C6 := hidMk c6
          have KW6 := hidMk (show Kept w w6 from Chg.kept (HKP.out.trans K5.out) C6.out (fun j e => by subst e; exact HFW.out))
          clear f6 c6 y0
          by_cases hst : stE s bh by_ = 0
          · have HST0 := hidMk hst
            have HYB := hidMk (show 0 ≤ bh ∧ 0 ≤ by_ ∧ by_ ≤ 32 from by
              have h := hst
              unfold stE at h
              split at h
              · omega
              · omega)
            rw [hst]
            have LG6 := hidMk (LG5.out.stop F6.out C6.out HBH.out hst)
            have HSWR := hidMk (show (stS s bh by_).wr = s.wr by unfold stS; rw [if_pos hst])
            have HSL6 := hidMk (show Sl .u8 w6 a1 n1 l1 from (HS1.out.kept (HKP.out.trans K5.out)).chgB C6.out (fun ad e e2 => by have := HAD.out ad e; have := HFW.out; omega))
            clear hst
            have y1 := C6.out.cellp (K5.out.cellp HY1.out) HPF.out
            by_cases hfull : 256 < u + rl
            · go_wp2_with fail
              refine (log_Add_full LG6.out a1 n1 cc l1 HSL6.out HRO.out (by rw [← HU.out, ← HRLE.out]; omega)).mono ?_
              rintro e w7 ⟨rfl, k7⟩
              have KW7 := hidMk (KW6.out.trans k7)
              clear k7
              go_wp2_with fail
              refine (law25_known _).mono ?_
              rintro e wk ⟨rfl, kk⟩
              have KKF := hidMk kk
              clear kk
              go_wp2_with fail
              go_ret
              exact ⟨rfl, KW7.out.trans KKF.out⟩
            · go_wp2_with fail
              refine (log_Add LG6.out a1 n1 cc l1 HSL6.out HRO.out (by rw [← HU.out, ← HRLE.out]; omega) (fun ad e => .inl (.inl (HAD.out ad e))) (by rw [HSWR.out]; have := HWR.out; omega) (by have := HRN.out; omega)).mono ?_
              rintro e w7 (⟨rfl, _, _, _, _, _, _, _, _, c7⟩ | ⟨rfl, e1, i, s7, e2, f7, e3, e4, e5, e6, c7⟩)
              · have KW7 := hidMk (show Kept w w7 from Chg.kept KW6.out c7 (fun j e => by omega))
                clear c7
                go_wp2_with fail
                refine (law25_known _).mono ?_
                rintro e wk ⟨rfl, kk⟩
                have KKF := hidMk kk
                clear kk
                go_wp2_with fail
                go_ret
                exact ⟨rfl, KW7.out.trans KKF.out⟩
              · have HFUL := hidMk (show u + rl ≤ 256 by omega)
                clear hfull
                have hbe : bh = (i : Int) := by have h := e2; unfold stS at h; rw [if_pos HST0.out] at h; exact h
                subst hbe
                obtain ⟨y, hy⟩ : ∃ y : Nat, by_ = y := ⟨by_.toNat, by have := HYB.out; omega⟩
                subst hy
                have HSF := hidMk (show (stS s (i : Int) (y : Int)).F = s.F ∧ (stS s (i : Int) (y : Int)).by_ = (y : Int) ∧ (stS s (i : Int) (y : Int)).wr = s.wr from by unfold stS; rw [if_pos HST0.out]; exact ⟨rfl, rfl, rfl⟩)
                obtain ⟨q, hq⟩ : ∃ q, q = u / 32 := ⟨_, rfl⟩
                rw [HSF.out.1, HSF.out.2.1, ← HU.out, ← hq, Int.toNat_natCast] at e4
                rw [← HU.out, ← hq] at e3
                have HC := hidMk (show (q + i) * 32 + y ≤ 256 by have := HYB.out; omega)
                have HQI := hidMk (show q ≤ 8 ∧ i ≤ 8 ∧ y ≤ 32 by have := HYB.out; omega)
                have HAI := hidMk (show AllIs (reg (upS s7).F 0 8) (if (catR rs).length + (recB l1).length ≤ (q + i) * 32 + y then rs ++ [l1] else rs) (if (catR rs).length + (recB l1).length ≤ (q + i) * 32 + y then (catR (rs ++ [l1])).length else (catR rs).length) from torn_all (s := s) LG.out.fl.len (by omega) (by omega) LG.out.rg LG.out.ok HRO.out (by rw [← HU.out, ← HRLE.out]; exact HFUL.out) (by have := HC.out; omega) (by show s7.F = _; rw [e4, show (0 + q + i) * 32 + y = 0 * 32 + ((q + i) * 32 + y) by omega]))
                rw [← HU.out, ← HRLE.out] at HAI
                have F7 := hidMk f7
                have C7 := hidMk c7
                have HDIV := hidMk (div32 u q hq)
                have hq1 : (q : Int) ≤ 8 := by have := HQI.out; omega
                have hi1 : (i : Int) ≤ 8 := by have := HQI.out; omega
                have hyy : (y : Int) ≤ 32 := by have := HQI.out; omega
                have hu1 : (u : Int) ≤ 256 := by have := HUB.out; omega
                have hr1 : (rl : Int) ≤ 257 := by have := HRS.out; omega
                have y07 := C7.out.cellp (C6.out.cellp (K5.out.cellp HY0.out) HPF.out) (not_not_intro (.inl (.inr rfl)))
                clear e1 e2 e3 e4 e5 e6 f7 c7 hq y1
                have y0 := y07
                go_wp2_with fail
                refine (bk_Up F7.out).mono ?_
                rintro e w8 ⟨rfl, f8, c8⟩
                have F8 := hidMk f8
                have C8 := hidMk c8
                have y08 := C8.out.cellp y07 HPF.out
                have ZW8 := hidMk (show Rz w8 wr.heap.size (.slice a3 q3.length c3) q3 rs from (((Z3.out.kept K35.out).chg C6.out (fun g hg e => HWB.out.1 g hg (by rw [e]; exact LG5.out.tp.2.1)) (fun x hx ad e e2 => HWB.out.2 x hx ad e (by rw [e2]; exact LG5.out.tp.2.1))).chg C7.out (fun g hg => HWB.out.1 g hg) (fun x hx ad e => HWB.out.2 x hx ad e)).chg C8.out (fun g hg e => HWB.out.1 g hg (by rw [e]; exact LG5.out.tp.2.1)) (fun x hx ad e e2 => HWB.out.2 x hx ad e (by rw [e2]; exact LG5.out.tp.2.1)))
                have SL8 := hidMk (show Sl .u8 w8 a1 n1 l1 from (((HS1.out.kept (HKP.out.trans K5.out)).chgB C6.out (fun ad e e2 => by have := HAD.out ad e; have := HFW.out; omega)).chgB C7.out (fun ad e => not_not_intro (.inl (.inl (HAD.out ad e))))).chgB C8.out (fun ad e e2 => by have := HAD.out ad e; have := HFW.out; omega))
                have KW8 := hidMk (show Kept w w8 from Chg.kept (Chg.kept KW6.out C7.out (fun j e => by omega)) C8.out (fun j e => by subst e; exact HFW.out))
                clear f8 c8 y0 y07
                have y0 := y08
                by_cases hcmp : u + rl ≤ (q + i) * 32 + y
                · rw [if_pos hcmp, if_pos hcmp] at HAI
                  have hcmp' : (u : Int) + (rl : Int) ≤ ((q : Int) + (i : Int)) * 32 + (y : Int) := by omega
                  have HOPN := hidMk (log_Open F8.out rfl 0 8 (by omega) (by omega) (by omega) _ _ HAI.out)
                  clear hcmp
                  have HRS9 := hidMk (show ∀ r ∈ rs ++ [l1], RecOk r from fun r hr => by rcases List.mem_append.1 hr with hr | hr; exact LG.out.ok r hr; simp at hr; subst hr; exact HRO.out)
                  have HRL9 := hidMk (show ∀ r ∈ rs ++ [l1], r.length ≤ 1000 from fun r hr => by have := (HRS9.out r hr).2.1; omega)
                  have HRB9 := hidMk (show ∀ r ∈ rs ++ [l1], ∀ x ∈ r, isB x from fun r hr => (HRS9.out r hr).2.2)
                  have HRN9 := hidMk (show (rs ++ [l1]).length ≤ 100000 from by have := HRN.out; (try rw [List.length_append, List.length_singleton]); omega)
                  have HQN9 := hidMk (show ∀ qs' : List Sv, (rs ++ [l1]).length = qs'.length → qs'.length ≤ 100000 from fun qs' e => by have := HRN9.out; omega)
                  go_wp2_with fail
                  refine HOPN.out.mono ?_
                  rintro e w9 ⟨p9, g9, K9, va9, vn9, vc9, qs9, cl9, rfl, t1, _, _, _, _, _, _, t8, _, _, _, t12⟩
                  have LC9 := hidMk t1
                  have RZ9 := hidMk t8
                  have K89 := hidMk t12
                  have FL9 := hidMk (F8.out.kept t12)
                  have ZW9 := hidMk (ZW8.out.kept t12)
                  clear t1 t8 t12 HOPN
                  have hdiv := HDIV.out
                  go_wp2_with (at_builtin; refine wpList_catZ _ (by rfl) _ _ (by rfl) (by rfl) wr.heap.size _ q3 rs (by rfl) ZW9.out ?c1 ?_)
                  case c1 => exact HQN.out _ ZW9.out.len
                  intro v10 w10 z10 k10
                  obtain ⟨a10, c10, rfl, _, _, _⟩ := z10.shape
                  have Z10 := hidMk z10
                  have K10 := hidMk k10
                  clear z10 k10 hdiv
                  have KA := hidMk ((Kept.refl w10).alloc (.cells #[.slice a1 n1 cc] 33))
                  have HSLA := hidMk ((SL8.out.kept K89.out).kept (K10.out.trans KA.out))
                  have HSD := hidMk (show ∀ ad, a1 = some ad → (Value.slice a10 q3.length c10).ownBlock ≠ some ad.block ∧ ad.block < (w10.alloc (.cells #[.slice a1 n1 cc] 33)).heap.size from fun ad e => by
                    have h1 := HAD.out ad e
                    have h2 := HKP.out.size
                    have h3 := KW8.out.size
                    have h4 := K89.out.size
                    have h5 := K10.out.size
                    refine ⟨fun e2 => ?_, by rw [World.size_alloc]; omega⟩
                    have := (Z10.out.olt _ e2).1
                    omega)
                  go_wp2_with (at_builtin; refine wpList_pushZ _ (by rfl) _ _ (by rfl) w9.heap.size _ q3 rs (by rfl) (Z10.out.kept KA.out) (Nat.le_trans K10.out.size KA.out.size) w10.heap.size (a1, n1, cc) l1 (by rfl) (by simp [slv3]) HSLA.out HSD.out (HQN.out _ Z10.out.len) ?_; intro g12 cap12 w12 z12 k12 g12'; have Z12 := hidMk z12; have K12 := hidMk (show Kept w9 w12 from Chg.kept (K10.out.trans KA.out) k12 (fun j e => (Z10.out.olt j e).1)); clear z12 k12 g12')
                  have LC9 := hidMk (LC9.out.kept K12.out)
                  have FL9 := hidMk (FL9.out.kept K12.out)
                  have RZ9 := hidMk (RZ9.out.kept K12.out)
                  have ZW12 := hidMk (ZW9.out.kept K12.out)
                  have KW12 := hidMk (KW8.out.trans (K89.out.trans K12.out))
                  go_wp2_with fail
                  refine (log_Records LC9.out FL9.out RZ9.out HRL9.out (HQN9.out _ RZ9.out.len)).mono ?_
                  rintro e w13 ⟨v13, q13, rfl, z13, b13, k13⟩
                  obtain ⟨a13, c13, rfl, _, _, _⟩ := z13.shape
                  have Z13 := hidMk z13
                  have K13 := hidMk k13
                  clear z13 b13 k13
                  go_wp2_with fail
                  refine (ref24_Same Z13.out (Z12.out.kept K13.out) HRB9.out HRN9.out).mono ?_
                  rintro e w14 ⟨rfl, k14⟩
                  have K14 := hidMk (KW12.out.trans (K13.out.trans k14))
                  clear k14
                  go_wp2_with fail
                  refine (law25_known _).mono ?_
                  rintro e wk ⟨rfl, kk⟩
                  have KKF := hidMk kk
                  clear kk
                  go_wp2_with fail
                  go_ret
                  exact ⟨rfl, K14.out.trans KKF.out⟩
                · rw [if_neg hcmp, if_neg hcmp] at HAI
                  have hcmp' : ((q : Int) + (i : Int)) * 32 + (y : Int) < (u : Int) + (rl : Int) := by omega
                  have HOPN := hidMk (log_Open F8.out rfl 0 8 (by omega) (by omega) (by omega) _ _ HAI.out)
                  clear hcmp
                  have HRS9 := hidMk (show ∀ r ∈ rs, RecOk r from LG.out.ok)
                  have HRL9 := hidMk (show ∀ r ∈ rs, r.length ≤ 1000 from fun r hr => by have := (HRS9.out r hr).2.1; omega)
                  have HRB9 := hidMk (show ∀ r ∈ rs, ∀ x ∈ r, isB x from fun r hr => (HRS9.out r hr).2.2)
                  have HRN9 := hidMk (show (rs).length ≤ 100000 from by have := HRN.out; (try rw [List.length_append, List.length_singleton]); omega)
                  have HQN9 := hidMk (show ∀ qs' : List Sv, (rs).length = qs'.length → qs'.length ≤ 100000 from fun qs' e => by have := HRN9.out; omega)
                  go_wp2_with fail
                  refine HOPN.out.mono ?_
                  rintro e w9 ⟨p9, g9, K9, va9, vn9, vc9, qs9, cl9, rfl, t1, _, _, _, _, _, _, t8, _, _, _, t12⟩
                  have LC9 := hidMk t1
                  have RZ9 := hidMk t8
                  have K89 := hidMk t12
                  have FL9 := hidMk (F8.out.kept t12)
                  have ZW9 := hidMk (ZW8.out.kept t12)
                  clear t1 t8 t12 HOPN
                  have hdiv := HDIV.out
                  go_wp2_with (at_builtin; refine wpList_catZ _ (by rfl) _ _ (by rfl) (by rfl) wr.heap.size _ q3 rs (by rfl) ZW9.out ?c1 ?_)
                  case c1 => exact HQN.out _ ZW9.out.len
                  intro v10 w10 z10 k10
                  obtain ⟨a10, c10, rfl, _, _, _⟩ := z10.shape
                  have Z10 := hidMk z10
                  have K10 := hidMk k10
                  clear z10 k10 hdiv
                  have KA := hidMk ((Kept.refl w10).alloc (.cells #[.slice a1 n1 cc] 33))
                  have HSLA := hidMk ((SL8.out.kept K89.out).kept (K10.out.trans KA.out))
                  have HSD := hidMk (show ∀ ad, a1 = some ad → (Value.slice a10 q3.length c10).ownBlock ≠ some ad.block ∧ ad.block < (w10.alloc (.cells #[.slice a1 n1 cc] 33)).heap.size from fun ad e => by
                    have h1 := HAD.out ad e
                    have h2 := HKP.out.size
                    have h3 := KW8.out.size
                    have h4 := K89.out.size
                    have h5 := K10.out.size
                    refine ⟨fun e2 => ?_, by rw [World.size_alloc]; omega⟩
                    have := (Z10.out.olt _ e2).1
                    omega)
                  go_wp2_with (at_builtin; refine wpList_pushZ _ (by rfl) _ _ (by rfl) w9.heap.size _ q3 rs (by rfl) (Z10.out.kept KA.out) (Nat.le_trans K10.out.size KA.out.size) w10.heap.size (a1, n1, cc) l1 (by rfl) (by simp [slv3]) HSLA.out HSD.out (HQN.out _ Z10.out.len) ?_; intro g12 cap12 w12 z12 k12 g12'; have Z12 := hidMk z12; have K12 := hidMk (show Kept w9 w12 from Chg.kept (K10.out.trans KA.out) k12 (fun j e => (Z10.out.olt j e).1)); clear z12 k12 g12')
                  have LC9 := hidMk (LC9.out.kept K12.out)
                  have FL9 := hidMk (FL9.out.kept K12.out)
                  have RZ9 := hidMk (RZ9.out.kept K12.out)
                  have ZW12 := hidMk (ZW9.out.kept K12.out)
                  have KW12 := hidMk (KW8.out.trans (K89.out.trans K12.out))
                  go_wp2_with fail
                  refine (log_Records LC9.out FL9.out RZ9.out HRL9.out (HQN9.out _ RZ9.out.len)).mono ?_
                  rintro e w13 ⟨v13, q13, rfl, z13, b13, k13⟩
                  obtain ⟨a13, c13, rfl, _, _, _⟩ := z13.shape
                  have Z13 := hidMk z13
                  have K13 := hidMk k13
                  clear z13 b13 k13
                  go_wp2_with fail
                  refine (ref24_Same Z13.out (ZW12.out.kept K13.out) HRB9.out HRN9.out).mono ?_
                  rintro e w14 ⟨rfl, k14⟩
                  have K14 := hidMk (KW12.out.trans (K13.out.trans k14))
                  clear k14
                  go_wp2_with fail
                  refine (law25_known _).mono ?_
                  rintro e wk ⟨rfl, kk⟩
                  have KKF := hidMk kk
                  clear kk
                  go_wp2_with fail
                  go_ret
                  exact ⟨rfl, K14.out.trans KKF.out⟩
          · have hst1 : (stE s bh by_ == 0) = false := by simpa using hst
            have hst2 : (stE s bh by_ != 0) = true := by simpa using hst
            generalize stE s bh by_ = sx at *
            go_wp2_with fail
            refine (law25_known _).mono ?_
            rintro e wk ⟨rfl, kk⟩
            have KKF := hidMk kk
            clear kk
            go_wp2_with fail
            go_ret
            exact ⟨rfl, KW6.out.trans KKF.out⟩
end Go.Proofs.Ytapcmkhpbdphoaa
