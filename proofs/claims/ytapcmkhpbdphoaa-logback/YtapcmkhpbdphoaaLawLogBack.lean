/- LogBack: what was added is there, in order, when the log is opened again. -/
import Derived.Test.YtapcmkhpbdphoaaLgG
namespace Go.Proofs.Ytapcmkhpbdphoaa
open Go.RowKit Go.Maps
set_option linter.unusedSimpArgs false
set_option linter.unusedVariables false

/-- Between two rounds. -/
structure BkJ (w wr : World) (T : Nat → Prop) (pp f d p g K : Nat) (va : Option Addr) (vn vc : Nat) (qs : List Sv) (s : Bf) (rs : List (List Int)) (sv : Value) (qw : List Sv) (k : Nat) : Prop where
  lg : Lg wr T p f d g K va vn vc qs 8 2 8 s rs
  wt : s.wt = false
  wr_ : s.wr ≤ 12 * (k : Int)
  t0 : ∀ j, j < w.heap.size → T j
  tp : T pp
  rz : Rz wr w.heap.size sv qw rs
  to_ : ∀ g, sv.ownBlock = some g → T g
  tq : ∀ q ∈ qw, ∀ ad, q.1 = some ad → T ad.block
  np : sv.ownBlock ≠ some pp
  y0 : wr.cell? ⟨pp, 0, none⟩ = some (.pointer (some ⟨f, 0, none⟩))
  y1 : wr.cell? ⟨pp, 1, none⟩ = some (.pointer (some ⟨p, 0, none⟩))
  le : rs.length ≤ k
  kp : Kept w wr
set_option maxHeartbeats 4000000 in
set_option maxRecDepth 100000 in
theorem law_LogBack (a : Option Addr) (n c : Nat) (l : List (Sv × List Int)) (w : World) (hs : Bq w a n l) : Calls Try.prog 3 #[.slice a n c] w fun e w' => e = .returned (.bool true) ∧ Kept w w' := by
  have HS := hidMk hs
  have hbig := hs.big
  unfold maxLen at hbig
  clear hs
  go_enter Try.func3, Try.ntmps3
  go_wp2_with fail
  refine (law25_begin w 2 8 (by omega) (by omega)).mono ?_
  rintro e w1 ⟨pp, f, d, p, g, K, va, vn, vc, qs, rfl, b1, b2, b3, b4, b5⟩
  have HJ0 := hidMk (show BkJ w w1 (fun j => j < w.heap.size ∨ j = pp) pp f d p g K va vn vc qs (zst 8 0) [] (.slice none 0 0) [] 0 from ⟨b3, rfl, by simp [zst], fun j hj => .inl hj, .inr rfl, Rz.nil _ _, by simp [Value.ownBlock], by simp, by simp [Value.ownBlock], b1, b2, Nat.le_refl _, b5⟩)
  clear b1 b2 b3 b4 b5
  go_wp2_with fail
  go_loopg [4, 5] 41 (fun gg sv x wr => ∃ (k : Nat) (T : Nat → Prop) (va : Option Addr) (vn vc : Nat) (qs : List Sv) (s : Bf) (rs : List (List Int)) (qw : List Sv), k + gg = 41 ∧ k ≤ n ∧ k ≤ 40 ∧ x = .int .i64 (k : Int) ∧ Hid (BkJ w wr T pp f d p g K va vn vc qs s rs sv qw k))
  case atStart => exact ⟨0, _, va, vn, vc, qs, zst 8 0, [], [], by omega, by omega, by omega, rfl, HJ0⟩
  case round =>
    clear HJ0
    obtain ⟨k, T, va, vn, vc, qs, s, rs, qw, hkg, hkn, hk40, rfl, HJ⟩ := hrel
    have HKG := hidMk hkg
    clear hkg
    obtain ⟨sa, sc, hsv, _, _, _⟩ := HJ.out.rz.shape
    subst hsv
    have HQL := hidMk (show qw.length ≤ 100000 from by have := HJ.out.rz.len; have := HJ.out.le; omega)
    by_cases hk : k < n ∧ k < 40
    · obtain ⟨hk1, hk2⟩ := hk
      have hk1' : (k : Int) < (n : Int) := by omega
      have hk2' : (k : Int) < 40 := by omega
      have HT0 := hidMk HJ.out.t0
      have HTP := hidMk HJ.out.tp
      obtain ⟨lb, lo, ha, hlbl, hcs⟩ := HS.out.cells (by omega)
      subst ha
      have HLBL := hidMk hlbl
      have c1 := HJ.out.kp.cellp (hcs k hk1)
      have y1 := HJ.out.y1
      obtain ⟨hsl, hxb⟩ := HS.out.row k hk1
      generalize bA l k = X at *
      obtain ⟨⟨xa, xn, xc⟩, xl⟩ := X
      unfold slv3 at c1
      dsimp only at c1 hsl hxb
      have HXI := hidMk (show 0 < xn → ∀ ad, xa = some ad → ad.block < w.heap.size from fun hx ad e => by
        obtain ⟨b, o, e2, hlt, _⟩ := hsl.cells hx
        rw [e2] at e
        cases e
        exact hlt)
      have HSL := hidMk hsl
      have HXB := hidMk hxb
      have HADD := hidMk (add_n (HJ.out.lg.kept (Kept.refl wr).drew) HJ.out.wt (by have := HJ.out.wr_; omega) (by have := HJ.out.le; omega) xa xn xc xl ((hsl.kept HJ.out.kp).kept (Kept.refl wr).drew) hxb (fun hx ad e => HT0.out _ (HXI.out hx ad e)))
      clear hsl hxb hcs hlbl
      go_wp2_with fail
      refine wp_region_held_drew (S := (fun w9 => w9.cell? ⟨pp, 1, none⟩ = some (.pointer (some ⟨p, 0, none⟩)) ∧ w9.cell? ⟨lb, lo + k, none⟩ = some (.slice xa xn xc))) (by kernel_rfl) ?_ (fun hHeld => ?_)
      · exact ⟨y1, c1⟩
      refine wpAnyH_take (i := 0) (oi := { dst := some 21, op := _, type := _, pos := _, after := _, guard := _ }) (v := ?_) rfl (by kernel_rfl) (by kernel_rfl) (by kernel_rfl) (fun _ _ _ h => h) (Or.inl ⟨by rfl, ?_⟩) (by assumption) ?_
      rotate_left
      · (intro w9 hSw; (try dsimp only at hSw); obtain ⟨s0, s1⟩ := hSw; go_simp; (try with_reducible rfl))
      (try simp only [Act.put, List.setIfInBounds_toArray, List.set_cons_zero, List.set_cons_succ])
      refine wpAnyH_take (i := 1) (oi := { dst := some 22, op := _, type := _, pos := _, after := _, guard := _ }) (v := ?_) rfl (by kernel_rfl) (by kernel_rfl) (by kernel_rfl) (fun _ _ _ h => h) (Or.inl ⟨by rfl, ?_⟩) (by assumption) ?_
      rotate_left
      · (intro w9 hSw; (try dsimp only at hSw); obtain ⟨s0, s1⟩ := hSw; go_simp; (try with_reducible rfl))
      (try simp only [Act.put, List.setIfInBounds_toArray, List.set_cons_zero, List.set_cons_succ])
      refine wpAnyH_take (i := 2) (oi := { dst := some 23, op := _, type := _, pos := _, after := _, guard := _ }) (v := ?_) rfl (by kernel_rfl) (by kernel_rfl) (by kernel_rfl) (fun _ _ _ h => h) (Or.inl ⟨by rfl, ?_⟩) (by assumption) ?_
      rotate_left
      · (intro w9 hSw; (try dsimp only at hSw); obtain ⟨s0, s1⟩ := hSw; go_simp; (try with_reducible rfl))
      (try simp only [Act.put, List.setIfInBounds_toArray, List.set_cons_zero, List.set_cons_succ])
      refine wpAnyH_take (i := 3) (oi := { dst := some 24, op := _, type := _, pos := _, after := _, guard := _ }) (v := ?_) rfl (by kernel_rfl) (by kernel_rfl) (by kernel_rfl) (fun _ _ _ h => h) (Or.inl ⟨by rfl, ?_⟩) (by assumption) ?_
      rotate_left
      · (intro w9 hSw; (try dsimp only at hSw); obtain ⟨s0, s1⟩ := hSw; go_simp; (try with_reducible rfl))
      (try simp only [Act.put, List.setIfInBounds_toArray, List.set_cons_zero, List.set_cons_succ])
      refine wpAnyH_take (i := 4) (oi := { dst := some 25, op := _, type := _, pos := _, after := _, guard := _ }) (v := ?_) rfl (by kernel_rfl) (by kernel_rfl) (by kernel_rfl) (fun _ _ _ h => h) (Or.inl ⟨by rfl, ?_⟩) (by assumption) ?_
      rotate_left
      · (intro w9 hSw; (try dsimp only at hSw); obtain ⟨s0, s1⟩ := hSw; go_simp; (try with_reducible rfl))
      (try simp only [Act.put, List.setIfInBounds_toArray, List.set_cons_zero, List.set_cons_succ])
      refine wpAnyH_take (i := 5) (oi := { dst := some 26, op := _, type := _, pos := _, after := _, guard := _ }) (v := ?_) rfl (by kernel_rfl) (by kernel_rfl) (by kernel_rfl) (fun _ _ _ h => h) (Or.inl ⟨by rfl, ?_⟩) (by assumption) ?_
      rotate_left
      · (intro w9 hSw; (try dsimp only at hSw); obtain ⟨s0, s1⟩ := hSw; go_simp; (try with_reducible rfl))
      (try simp only [Act.put, List.setIfInBounds_toArray, List.set_cons_zero, List.set_cons_succ])
      refine wpAnyH_take (i := 6) (oi := { dst := some 27, op := _, type := _, pos := _, after := _, guard := _ }) (v := ?_) rfl (by kernel_rfl) (by kernel_rfl) (by kernel_rfl) (fun _ _ _ h => h) (Or.inl ⟨by rfl, ?_⟩) (by assumption) ?_
      rotate_left
      · (intro w9 hSw; (try dsimp only at hSw); obtain ⟨s0, s1⟩ := hSw; go_simp; (try with_reducible rfl))
      (try simp only [Act.put, List.setIfInBounds_toArray, List.set_cons_zero, List.set_cons_succ])
      refine wpAnyH_take (i := 7) (oi := { dst := some 28, op := _, type := _, pos := _, after := _, guard := _ }) (v := ?_) rfl (by kernel_rfl) (by kernel_rfl) (by kernel_rfl) (fun _ _ _ h => h) (Or.inl ⟨by rfl, ?_⟩) (by assumption) ?_
      rotate_left
      · (intro w9 hSw; (try dsimp only at hSw); obtain ⟨s0, s1⟩ := hSw; go_simp; (try with_reducible rfl))
      (try simp only [Act.put, List.setIfInBounds_toArray, List.set_cons_zero, List.set_cons_succ])
      refine wpAnyH_ready (rs := [8]) (by kernel_rfl) (by simp) ?_
      refine AllReadyH.cons (o := { dst := some 29, op := _, type := _, pos := _, after := _, guard := _ }) rfl (fun K hK => ?_) AllReadyH.nil
      go_simp
      refine HADD.out.mono ?_
      rintro e w4 ⟨x, va4, vn4, vc4, qs4, s4, rfl, t1, t2, t3, t4, t5⟩
      have T1 := hidMk t1
      have LG4 := hidMk t2
      have T3 := hidMk t3
      have T4 := hidMk t4
      have C4 := hidMk (show Chg (fun j => ¬ T j) wr w4 from (Chg.refl _ _).drew.trans t5)
      clear t1 t2 t3 t4 t5
      have y14 := C4.out.cellp y1 (not_not_intro HTP.out)
      have c14 := C4.out.cellp c1 (not_not_intro (HT0.out _ HLBL.out))
      (try go_wp2_with fail)
      refine hK.out _ _ ?_ (fun hHeld => ?_)
      · exact ⟨y14, c14⟩
      clear hK K
      (try simp only [Act.put, List.setIfInBounds_toArray, List.set_cons_zero, List.set_cons_succ])
      refine wpAnyH_take (i := 9) (oi := { dst := some 30, op := _, type := _, pos := _, after := _, guard := _ }) (v := ?_) rfl (by kernel_rfl) (by kernel_rfl) (by kernel_rfl) (fun _ _ _ h => h) (Or.inl ⟨by rfl, ?_⟩) (by assumption) ?_
      rotate_left
      · (intro w9 hSw; (try dsimp only at hSw); obtain ⟨s0, s1⟩ := hSw; go_simp; (try with_reducible rfl))
      (try simp only [Act.put, List.setIfInBounds_toArray, List.set_cons_zero, List.set_cons_succ])
      refine wpAnyH_done (by kernel_rfl) ?_ _
      have HJ4 := hidMk (show Rz w4 w.heap.size (.slice sa qw.length sc) qw rs from HJ.out.rz.chg C4.out (fun g hg => not_not_intro (HJ.out.to_ g hg)) (fun q hq ad e => not_not_intro (HJ.out.tq q hq ad e)))
      have HY0 := hidMk (C4.out.cellp HJ.out.y0 (not_not_intro HTP.out))
      have HK4 := hidMk (show Kept w w4 from Chg.kept HJ.out.kp C4.out (fun j e => by
        by_cases hj : j < w.heap.size
        · exact absurd (HT0.out j hj) e
        · omega))
      have HWR4 := hidMk (show s4.wr ≤ 12 * ((k + 1 : Nat) : Int) by have := T4.out; have := HJ.out.wr_; omega)
      clear HADD
      by_cases hx : x = 0
      · subst hx
        rw [if_pos rfl] at LG4
        have HRO := hidMk (T1.out rfl)
        clear T1
        have HXN := hidMk (show 0 < xn from by have := HRO.out.1; have := HSL.out.len; omega)
        have k45 : Kept w4 (w4.alloc (.cells #[.slice xa xn xc] 33)) := (Kept.refl _).alloc _
        have HSD := hidMk (show ∀ ad, xa = some ad → (Value.slice sa qw.length sc).ownBlock ≠ some ad.block ∧ ad.block < (w4.alloc (.cells #[.slice xa xn xc] 33)).heap.size from fun ad e => by
          have h1 := HXI.out HXN.out ad e
          have h2 := HK4.out.size
          refine ⟨fun e2 => ?_, by rw [World.size_alloc]; omega⟩
          have := (HJ.out.rz.olt _ e2).1
          omega)
        have HK45 := hidMk k45
        clear k45 y1 c1
        go_wp2_with (at_builtin; refine wpList_pushZ _ (by rfl) _ _ (by rfl) w.heap.size _ qw rs (by rfl) (HJ4.out.kept HK45.out) (Nat.le_trans HK4.out.size HK45.out.size) w4.heap.size (xa, xn, xc) xl (by rfl) (by simp [slv3]) ((HSL.out.kept HK4.out).kept HK45.out) HSD.out HQL.out ?_; intro g9 cap9 w9 z9 k9 g9'; have Z9 := hidMk z9; have K9 := hidMk k9; have G9 := hidMk g9'; clear z9 k9 g9')
        go_roundg (gk - 1)
        case measure => have := HKG.out; omega
        case rel =>
          have hT9 : Chg T w4 w9 := (Chg.of_kept HK45.out).thn K9.out (fun j hj e => HJ.out.to_ j e)
          have hLG9 := LG4.out.more hT9
          refine ⟨k + 1, _, va4, vn4, vc4, qs4, s4, rs ++ [xl], qw ++ [(xa, xn, xc)], by have := HKG.out; omega, by omega, by omega, by go_num, hidMk ⟨hLG9, T3.out, HWR4.out, fun j hj => .inl (HT0.out j hj), .inl HTP.out, Z9.out, fun g hg => ?_, fun q hq ad e => ?_, fun e => ?_, ?_, ?_, by rw [List.length_append, List.length_singleton]; have := HJ.out.le; omega, ?_⟩⟩
          · simp only [Value.ownBlock, Option.some.injEq] at hg
            rcases G9.out with e | e
            · exact .inl (HJ.out.to_ g (by rw [e, hg]))
            · have h1 := Z9.out.olt g9 rfl
              rw [World.size_alloc] at e
              exact .inr (by omega)
          · rcases List.mem_append.1 hq with hq | hq
            · exact .inl (HJ.out.tq q hq ad e)
            · simp at hq
              subst hq
              exact .inl (HT0.out _ (HXI.out HXN.out ad e))
          · simp only [Value.ownBlock, Option.some.injEq] at e
            rcases G9.out with e2 | e2
            · exact HJ.out.np (by rw [e2, e])
            · have h1 : pp < w4.heap.size := cell_lt y14
              rw [World.size_alloc] at e2
              omega
          · exact K9.out.cellp (HK45.out.cellp HY0.out) HJ.out.np
          · exact K9.out.cellp (HK45.out.cellp y14) HJ.out.np
          · exact Chg.kept (HK4.out.trans HK45.out) K9.out (fun j e => (HJ.out.rz.olt j e).1)
      · have hx1 : (x == 0) = false := by simpa using hx
        rw [if_neg hx] at LG4
        clear T1
        go_wp2_with fail
        go_roundg (gk - 1)
        case measure => have := HKG.out; omega
        case rel => exact ⟨k + 1, T, va4, vn4, vc4, qs4, s4, rs, qw, by have := HKG.out; omega, by omega, by omega, by go_num, hidMk ⟨LG4.out, T3.out, HWR4.out, HT0.out, HTP.out, HJ4.out, HJ.out.to_, HJ.out.tq, HJ.out.np, HY0.out, y14, by have := HJ.out.le; omega, HK4.out⟩⟩
    · have LG := hidMk HJ.out.lg
      have y0 := HJ.out.y0
      have HY1 := hidMk HJ.out.y1
      have HRZ := hidMk HJ.out.rz
      have HKP := hidMk HJ.out.kp
      have HRL := hidMk (show ∀ r ∈ rs, r.length ≤ 1000 from fun r hr => by have := (HJ.out.lg.ok r hr).2.1; omega)
      have HRB := hidMk (show ∀ r ∈ rs, ∀ x ∈ r, isB x from fun r hr => (HJ.out.lg.ok r hr).2.2)
      have HRN := hidMk (show rs.length ≤ 100000 from by have := HJ.out.le; omega)
      have HQN := hidMk (show ∀ qs' : List Sv, rs.length = qs'.length → qs'.length ≤ 100000 from fun qs' e => by have := HRN.out; omega)
      have HFIN : Hid (∀ (W : World), Kept w W → ∀ (a2 : Act), True) := hidMk (fun _ _ _ => trivial)
      clear HJ HFIN
      have hcase : (¬ k < n) ∨ (k < n ∧ ¬ k < 40) := by omega
      rcases hcase with hk1 | ⟨hk1, hk2⟩
      · have hk1' : ¬ ((k : Int) < (n : Int)) := by omega
        clear hk
        go_wp2_with fail
        refine (log_Open LG.out.fl LG.out.off 2 8 (by omega) (by omega) (by omega) rs (catR rs).length (by rw [LG.out.rg]; exact logB_all LG.out.ok)).mono ?_
        intro e w6 h6
        obtain ⟨p6, g6, K6, va6, vn6, vc6, qs6, rfl, hp6, lg6, k6⟩ := lg_open (T := T) LG.out.fl LG.out.sok LG.out.off (by omega) (by omega) (by omega) LG.out.ok LG.out.le LG.out.rg LG.out.tb ⟨LG.out.tp.2.1, LG.out.tp.2.2.1⟩ h6
        have LG6 := hidMk lg6
        have KK6 := hidMk k6
        clear h6 lg6 hp6 k6 y0
        go_wp2_with fail
        refine (log_Records LG6.out.lc LG6.out.fl LG6.out.rz HRL.out (HQN.out _ LG6.out.rz.len)).mono ?_
        rintro e w7 ⟨v7, q7, rfl, z7, b7, k7⟩
        obtain ⟨a7, c7, rfl, _, _, _⟩ := z7.shape
        have Z7 := hidMk z7
        have KK7 := hidMk (KK6.out.trans k7)
        have K67 := hidMk k7
        clear z7 b7 k7
        go_wp2_with fail
        refine (ref24_Same Z7.out (HRZ.out.kept KK7.out) HRB.out HRN.out).mono ?_
        rintro e w8 ⟨rfl, k8⟩
        have KK8 := hidMk (KK7.out.trans k8)
        have K68 := hidMk (K67.out.trans k8)
        clear k8 Z7 KK7 K67
        have y1 := KK8.out.cellp HY1.out
        go_wp2_with fail
        refine (log_Records (LG.out.lc.kept KK8.out) (LG.out.fl.kept KK8.out) (LG.out.rz.kept KK8.out) HRL.out (HQN.out _ LG.out.rz.len)).mono ?_
        rintro e w9 ⟨v9, q9, rfl, z9, b9, k9⟩
        obtain ⟨a9, c9, rfl, _, _, _⟩ := z9.shape
        have Z9 := hidMk z9
        have KK9 := hidMk (KK8.out.trans k9)
        have K69 := hidMk (K68.out.trans k9)
        clear z9 b9 k9 KK8 K68 y1
        go_wp2_with fail
        refine (ref24_Same Z9.out (HRZ.out.kept KK9.out) HRB.out HRN.out).mono ?_
        rintro e w10 ⟨rfl, k10⟩
        have KK10 := hidMk (KK9.out.trans k10)
        have K610 := hidMk (K69.out.trans k10)
        clear k10 Z9 KK9 K69
        go_wp2_with fail
        refine (log_Clean (LG6.out.lc.kept K610.out) (LG6.out.fl.kept K610.out)).mono ?_
        rintro e w11 ⟨rfl, k11⟩
        have KK11 := hidMk (KK10.out.trans k11)
        clear k11
        go_wp2_with fail
        refine (law25_known w11).mono ?_
        rintro e w12 ⟨rfl, k12⟩
        have KK12 := hidMk (KK11.out.trans k12)
        clear k12
        go_wp2_with fail
        go_ret
        exact ⟨rfl, HKP.out.trans KK12.out⟩
      · have hk1' : (k : Int) < (n : Int) := by omega
        have hk2' : ¬ ((k : Int) < 40) := by omega
        clear hk
        go_wp2_with fail
        refine (log_Open LG.out.fl LG.out.off 2 8 (by omega) (by omega) (by omega) rs (catR rs).length (by rw [LG.out.rg]; exact logB_all LG.out.ok)).mono ?_
        intro e w6 h6
        obtain ⟨p6, g6, K6, va6, vn6, vc6, qs6, rfl, hp6, lg6, k6⟩ := lg_open (T := T) LG.out.fl LG.out.sok LG.out.off (by omega) (by omega) (by omega) LG.out.ok LG.out.le LG.out.rg LG.out.tb ⟨LG.out.tp.2.1, LG.out.tp.2.2.1⟩ h6
        have LG6 := hidMk lg6
        have KK6 := hidMk k6
        clear h6 lg6 hp6 k6 y0
        go_wp2_with fail
        refine (log_Records LG6.out.lc LG6.out.fl LG6.out.rz HRL.out (HQN.out _ LG6.out.rz.len)).mono ?_
        rintro e w7 ⟨v7, q7, rfl, z7, b7, k7⟩
        obtain ⟨a7, c7, rfl, _, _, _⟩ := z7.shape
        have Z7 := hidMk z7
        have KK7 := hidMk (KK6.out.trans k7)
        have K67 := hidMk k7
        clear z7 b7 k7
        go_wp2_with fail
        refine (ref24_Same Z7.out (HRZ.out.kept KK7.out) HRB.out HRN.out).mono ?_
        rintro e w8 ⟨rfl, k8⟩
        have KK8 := hidMk (KK7.out.trans k8)
        have K68 := hidMk (K67.out.trans k8)
        clear k8 Z7 KK7 K67
        have y1 := KK8.out.cellp HY1.out
        go_wp2_with fail
        refine (log_Records (LG.out.lc.kept KK8.out) (LG.out.fl.kept KK8.out) (LG.out.rz.kept KK8.out) HRL.out (HQN.out _ LG.out.rz.len)).mono ?_
        rintro e w9 ⟨v9, q9, rfl, z9, b9, k9⟩
        obtain ⟨a9, c9, rfl, _, _, _⟩ := z9.shape
        have Z9 := hidMk z9
        have KK9 := hidMk (KK8.out.trans k9)
        have K69 := hidMk (K68.out.trans k9)
        clear z9 b9 k9 KK8 K68 y1
        go_wp2_with fail
        refine (ref24_Same Z9.out (HRZ.out.kept KK9.out) HRB.out HRN.out).mono ?_
        rintro e w10 ⟨rfl, k10⟩
        have KK10 := hidMk (KK9.out.trans k10)
        have K610 := hidMk (K69.out.trans k10)
        clear k10 Z9 KK9 K69
        go_wp2_with fail
        refine (log_Clean (LG6.out.lc.kept K610.out) (LG6.out.fl.kept K610.out)).mono ?_
        rintro e w11 ⟨rfl, k11⟩
        have KK11 := hidMk (KK10.out.trans k11)
        clear k11
        go_wp2_with fail
        refine (law25_known w11).mono ?_
        rintro e w12 ⟨rfl, k12⟩
        have KK12 := hidMk (KK11.out.trans k12)
        clear k12
        go_wp2_with fail
        go_ret
        exact ⟨rfl, HKP.out.trans KK12.out⟩
end Go.Proofs.Ytapcmkhpbdphoaa
