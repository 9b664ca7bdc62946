/- moietylaw29.ParseWrites. -/
import Derived.Test.YtpehinmckppjoaaGreatDoorWPsTB
import Derived.Test.YtpehinmckppjoaaGreatDoorWPsNBB
namespace Go.Proofs.YtpehinmckppjoaaGreatDoor
open Go.RowKit Go.Maps
set_option linter.unusedSimpArgs false
set_option linter.unusedVariables false

/-- What the line of a command is: its words, that are read as it was, or none. -/
theorem line_is {ms : List ByteArray} {ds : List Dm} (hok : CatOk ds ms) {x : Cm} (hx : XSm x) : (∃ t : ByteArray, lineP ms ds x = (t, 0) ∧ t.size ≤ 10000 ∧ parseP ms ds (lineW t) = (bareP x, 0, 0)) ∨ ∃ t : ByteArray, lineP ms ds x = (t, 2) := by
  unfold lineP
  cases hw : writeP ms ds x with
  | none => exact .inr ⟨_, rfl⟩
  | some l =>
    refine .inl ⟨_, rfl, ?_, parse_line hok hx.n hw⟩
    have e := refS_words hw
    have h := refS_size hok hx
    rw [e] at h
    omega
set_option maxHeartbeats 1500000 in
set_option maxRecDepth 100000 in
theorem law_ParseWrites (a : Option Addr) (n c : Nat) (ds : List Dm) (na : Nat → Option Addr × Nat × Nat) (b : Option Addr) (m d : Nat) (ms : List ByteArray) (lv sc : Int) (x : Cm) (w : World) (hs : Dss w a n ds na) (hm : Ss w b m ms) (hmz : ∀ i, i < ms.length → (msA ms i).size ≤ maxLen) (hxn : isI x.n) (hV : FV w) (hVs : Vars w) :
    Calls Tryz.prog 4 #[.agg #[.slice a n c, .slice b m d, .int .i64 lv, .int .i64 sc], cmV x] w fun e w' => e = .returned (.bool true) ∧ Kept w w' := by
  have HO := hidMk (show ∀ y, Kept w y → _ from fun y hy => law29_open a n c ds na b m d ms lv sc y (hs.kept hy) (hm.kept hy) hmz)
  have HKN := hidMk (show ∀ y, Kept w y → _ from fun y hy => law29_known y (hV.kept hy) (hVs.kept hy))
  have HPA := hidMk (show ∀ y, Kept w y → ∀ pd, (∃ w0 tp ma mc dv, DP w0 y pd ds tp ma mc ms lv sc dv) → CatOk ds ms → ∀ s : ByteArray, s.size ≤ 10000 → _ from fun y hy pd hd hok s hsz => by
    obtain ⟨w0, tp, ma, mc, dv, hd⟩ := hd
    exact ps_Parse (W := y) (w0 := y) ⟨_, _, _, _, _, _, _, hd⟩ hok (hV.kept hy) (hVs.kept hy) s hsz)
  have HLI0 := hidMk (show ∀ y, Kept w y → ∀ pd, (∃ w0 tp ma mc dv, DP w0 y pd ds tp ma mc ms lv sc dv) → CatOk ds ms → XOk x → _ from fun y hy pd hd hok hx => by
    obtain ⟨w0, tp, ma, mc, dv, hd⟩ := hd
    exact ps_Line (W := y) ⟨_, _, _, _, _, _, _, hd⟩ hok (hV.kept hy) x hx)
  have HQL0 := hidMk (show ∀ y pq, (∃ rt, RDm y pq ds rt ms) → CatOk ds ms → XSm x → _ from fun y pq hr hok hx => q_Line (W := y) hr hok x hx)
  have HBA0 := hidMk (fun w => q_Bare w x)
  have HEQ0 := hidMk (eqlM (bareP x) (bareP x))
  have HLP := hidMk (fun (hok : CatOk ds ms) (hx : XSm x) => line_is hok hx)
  rw [cmB_same] at HEQ0
  have HXN := hidMk hxn
  obtain ⟨xu, hxu⟩ : ∃ t, x.u = t := ⟨_, rfl⟩
  obtain ⟨xs, hxs⟩ : ∃ t, x.s = t := ⟨_, rfl⟩
  obtain ⟨xo, hxo⟩ : ∃ t, x.o = t := ⟨_, rfl⟩
  have HXS := hidMk (show xu.size ≤ 500 → xs.size ≤ 500 → xo.size ≤ 500 → XSm x from fun h1 h2 h3 => ⟨by rw [hxu]; exact h1, by rw [hxs]; exact h2, by rw [hxo]; exact h3, hxn⟩)
  obtain ⟨cx, hcx⟩ : ∃ cx, cmL x = cx := ⟨_, rfl⟩
  obtain ⟨cb, hcb⟩ : ∃ cb, cmL (bareP x) = cb := ⟨_, rfl⟩
  have g1 : cx[1]? = some (.string xu) := by rw [← hcx, ← hxu]; rfl
  have g2 : cx[2]? = some (.string xs) := by rw [← hcx, ← hxs]; rfl
  have g3 : cx[3]? = some (.string xo) := by rw [← hcx, ← hxo]; rfl
  obtain ⟨dd, hd1, hd2, hd3⟩ := cmd_type
  have HTY := hidMk (And.intro hd1 (And.intro hd2 hd3))
  have hcl : cx.length = 12 := by rw [← hcx]; rfl
  have hbl : cb.length = 12 := by rw [← hcb]; rfl
  have HLI := hidMk (show (Tryz.prog.info? 35).map (·.size) = some cx.length from by rw [hcl]; exact hd3)
  have HLB := hidMk (show (Tryz.prog.info? 35).map (·.size) = some cb.length from by rw [hbl]; exact hd3)
  have HSI := hidMk (show (Tryz.prog.info? 35).map (·.size) = some cb.toArray.size from by rw [List.size_toArray, hbl]; exact hd3)
  have HCB := hidMk hbl
  have HCO := hidMk (show cb.toArray.all (·.oneCell') = true from by rw [← hcb]; exact cm_one (bareP x))
  have HTN := hidMk (fun z => there_new z cm0 35)
  have HTZ := hidMk (show ∀ z, (World.alloc z (.cells (cmL cm0).toArray 35)).there z.heap.size 0 cb.toArray.size from fun z => by
    have e : cb.toArray.size = 12 := by rw [List.size_toArray, HCB.out]
    rw [e]
    exact HTN.out z)
  have HX0 := hidMk (show ∀ ob y, Kept ((w.alloc ob).alloc (.cells cx.toArray 35)) y → ∀ j u, cx[j]? = some u → y.cell? ⟨w.heap.size + 1, j, none⟩ = some u from fun ob y hy j u hu => by
    rw [← hcx] at hy hu
    exact hy.cellp ((cm_row (w.alloc ob) x 35 (w.heap.size + 1) (by first | (simp only [World.alloc_eq, Array.size_push]) | rfl | simp)).1 j u hu))
  unfold cmV at *
  rw [hcx] at HLI0 HQL0 HBA0 ⊢
  rw [hcb] at HBA0 HEQ0
  have HBA := HBA0
  have HEQ := HEQ0
  have HLL := HLI0
  have HQL := HQL0
  clear HBA0 HEQ0 HLI0 HQL0 hs hm hmz hV hVs hxn hd1 hd2 hd3 hcl hbl hxu hxs hxo
  go_enter Tryz.func4, Tryz.ntmps4
  go_wp2_with fail
  refine (HO.out _ (((Kept.refl w).alloc _).alloc _)).mono ?_
  rintro e w1 ⟨⟨⟨vd, vq, rfl⟩, _⟩ | ⟨pd, pq, at_, rfl, hc, hd, hr⟩, k1⟩
  · have K1 := hidMk ((((Kept.refl w).alloc _).alloc _).trans k1)
    clear k1
    go_wp2_with fail
    refine (HKN.out _ K1.out).mono ?_
    rintro e w2 ⟨rfl, k2⟩
    have K2 := hidMk (K1.out.trans k2)
    clear k2
    go_wp2_with fail
    go_ret
    exact ⟨rfl, K2.out⟩
  have K1 := hidMk ((((Kept.refl w).alloc _).alloc _).trans k1)
  have HXC := hidMk (fun y (hy : Kept w1 y) j u hu => HX0.out _ y (k1.trans hy) j u hu)
  have HRX := hidMk (show ∀ y, Kept w1 y → y.rangeAt (w.heap.size + 1) 0 cx from fun y hy j u hu => by
    rw [Nat.zero_add]
    exact HXC.out y hy j u hu)
  have f1 := HXC.out _ (Kept.refl w1) _ _ g1
  have f2 := HXC.out _ (Kept.refl w1) _ _ g2
  have f3 := HXC.out _ (Kept.refl w1) _ _ g3
  have HOK := hidMk (cat_ok hc)
  have HD := hidMk (show ∀ y, Kept w1 y → ∃ w0 tp ma mc dv, DP w0 y pd ds tp ma mc ms lv sc dv from fun y hy => by
    obtain ⟨w0, tp, ma, mc, dv, hd⟩ := hd
    exact ⟨_, _, _, _, _, hd.kept hy⟩)
  have HR := hidMk (show ∀ y, Kept w1 y → ∃ rt, RDm y pq ds rt ms from fun y hy => by
    obtain ⟨rt, hr⟩ := hr
    exact ⟨_, hr.kept hy⟩)
  clear k1 hc hd hr HO HX0 HXC g1 g2 g3
  by_cases h1 : (500 : Int) < (xu.size : Int)
  · go_wp2_with fail
    refine (HKN.out _ K1.out).mono ?_
    rintro e w2 ⟨rfl, k2⟩
    have K2 := hidMk (K1.out.trans k2)
    clear k2
    go_wp2_with fail
    go_ret
    exact ⟨rfl, K2.out⟩
  by_cases h2 : (500 : Int) < (xs.size : Int)
  · go_wp2_with fail
    refine (HKN.out _ K1.out).mono ?_
    rintro e w2 ⟨rfl, k2⟩
    have K2 := hidMk (K1.out.trans k2)
    clear k2
    go_wp2_with fail
    go_ret
    exact ⟨rfl, K2.out⟩
  by_cases h3 : (500 : Int) < (xo.size : Int)
  · go_wp2_with fail
    refine (HKN.out _ K1.out).mono ?_
    rintro e w2 ⟨rfl, k2⟩
    have K2 := hidMk (K1.out.trans k2)
    clear k2
    go_wp2_with fail
    go_ret
    exact ⟨rfl, K2.out⟩
  have hsm : XSm x := HXS.out (by omega) (by omega) (by omega)
  have hxok : XOk x := ⟨by have := hsm.u; omega, by have := hsm.s; omega, by have := hsm.o; omega, hsm.n⟩
  have HLX := hidMk (fun y (hy : Kept w1 y) => HLL.out y (K1.out.trans hy) pd (HD.out y hy) HOK.out hxok)
  have HQX := hidMk (fun y (hy : Kept w1 y) => HQL.out y pq (HR.out y hy) HOK.out hsm)
  have hlp := HLP.out HOK.out hsm
  obtain ⟨lp, wy, hlw⟩ : ∃ t k, lineP ms ds x = (t, k) := ⟨_, _, rfl⟩
  rw [hlw] at HLX HQX hlp
  simp only [Prod.mk.injEq] at HLX HQX hlp
  have HCC := hidMk hlp
  clear hsm hxok hlp hlw HLL HQL HLP HXS
  go_wp2_with (refine wpList_load_mid rfl 35 _ rfl (w.heap.size + 1) 0 rfl cx dd (HRX.out _ (Kept.refl _)) HTY.out.1 HTY.out.2.1 HLI.out ?_)
  refine (HLX.out _ (Kept.refl _)).mono ?_
  rintro e w2 ⟨rfl, k2⟩
  have K2 := hidMk k2
  clear k2
  go_wp2_with (refine wpList_load_mid rfl 35 _ rfl (w.heap.size + 1) 0 rfl cx dd (HRX.out _ K2.out) HTY.out.1 HTY.out.2.1 HLI.out ?_)
  refine (HQX.out _ K2.out).mono ?_
  rintro e w3 ⟨rfl, k3⟩
  have K3 := hidMk (K2.out.trans k3)
  clear k3 f1 f2 f3 h1 h2 h3
  rcases HCC.out with ⟨t, ⟨rfl, rfl⟩, htz, hpp⟩ | ⟨t, rfl, rfl⟩
  rotate_left
  · go_wp2_with fail
    refine (HKN.out _ (K1.out.trans K3.out)).mono ?_
    rintro e w4 ⟨rfl, k4⟩
    have K4 := hidMk ((K1.out.trans K3.out).trans k4)
    clear k4
    go_wp2_with fail
    go_ret
    exact ⟨rfl, K4.out⟩
  have HP := hidMk (fun y (hy : Kept w1 y) => HPA.out y (K1.out.trans hy) pd (HD.out y hy) HOK.out lp htz)
  rw [hpp] at HP
  simp only at HP
  rw [hcb] at HP
  clear hpp htz HPA HCC
  go_wp2_with fail
  refine (HP.out _ K3.out).mono ?_
  rintro e w4 ⟨rfl, k4⟩
  have K4 := hidMk (K3.out.trans k4)
  clear k4
  go_wp2_with (refine wpList_store_mid rfl 35 _ _ rfl w4.heap.size 0 cb.toArray rfl rfl (HTZ.out w4) HSI.out HCO.out ?_)
  have k45 : Kept w4 ((w4.alloc (.cells (cmL cm0).toArray 35)).setCells w4.heap.size 0 cb) := kept_setCells (Nat.le_refl _) cb 0 _ ((Kept.refl w4).alloc _)
  have hr7 := World.rangeAt_setCells_same (w4.alloc (.cells (cmL cm0).toArray 35)) w4.heap.size 0 cb (by rw [HCB.out]; exact HTN.out w4)
  obtain ⟨w5, hw5⟩ : ∃ w5, w5 = ((w4.alloc (.cells (cmL cm0).toArray 35)).setCells w4.heap.size 0 cb) := ⟨_, rfl⟩
  rw [← hw5] at k45 hr7
  have K5 := hidMk (K4.out.trans k45)
  have HR7 := hidMk (show ∀ z, Kept w5 z → z.rangeAt w4.heap.size 0 cb from fun z hz j u hu => hz.cellp (hr7 j u hu))
  simp only [cmL, cm0] at hw5
  rw [← hw5]
  clear k45 hr7 hw5 HTZ HTN hcx hcb
  generalize w4.heap.size = b7 at *
  have heq := HEQ.out
  refine wp_region_held_drew (S := (fun w' => w'.rangeAt b7 0 cb ∧ w'.rangeAt (w.heap.size + 1) 0 cx)) (by kernel_rfl) ?_ (fun hHeld => ?_)
  · exact ⟨HR7.out _ (by (repeat (first | (with_reducible exact Kept.refl _) | (with_reducible refine Kept.alloc ?_ _) | (with_reducible refine Kept.drew ?_) | (with_reducible refine Kept.drewN ?_ _)))), HRX.out _ (K5.out.trans (by (repeat (first | (with_reducible exact Kept.refl _) | (with_reducible refine Kept.alloc ?_ _) | (with_reducible refine Kept.drew ?_) | (with_reducible refine Kept.drewN ?_ _)))))⟩
  refine wpAnyH_take (i := 0) (oi := { dst := some 72, op := _, type := _, pos := _, after := _, guard := _ }) (v := _) rfl (by kernel_rfl) (by kernel_rfl) (by kernel_rfl) (fun _ _ _ h => h) (yieldsIf_load_mid (by rfl) 35 _ rfl b7 0 rfl cb dd (fun w h => h.1) HTY.out.1 HTY.out.2.1 HLB.out) (by assumption) ?_
  (try simp only [Act.put, List.setIfInBounds_toArray, List.set_cons_zero, List.set_cons_succ])
  refine wpAnyH_take (i := 1) (oi := { dst := some 73, op := _, type := _, pos := _, after := _, guard := _ }) (v := _) rfl (by kernel_rfl) (by kernel_rfl) (by kernel_rfl) (fun _ _ _ h => h) (yieldsIf_load_mid (by rfl) 35 _ rfl (w.heap.size + 1) 0 rfl cx dd (fun w h => h.2) HTY.out.1 HTY.out.2.1 HLI.out) (by assumption) ?_
  (try simp only [Act.put, List.setIfInBounds_toArray, List.set_cons_zero, List.set_cons_succ])
  refine wpAnyH_ready (rs := [2]) (by kernel_rfl) (by simp) ?_
  refine AllReadyH.cons (o := { dst := some 74, op := _, type := _, pos := _, after := _, guard := _ }) rfl (fun K hK => ?_) AllReadyH.nil
  go_simp
  refine (HBA.out _).mono ?_
  rintro e w6 ⟨rfl, k6⟩
  have K6 := hidMk (show Kept w5 w6 from Kept.trans (by (repeat (first | (with_reducible exact Kept.refl _) | (with_reducible refine Kept.alloc ?_ _) | (with_reducible refine Kept.drew ?_) | (with_reducible refine Kept.drewN ?_ _)))) k6)
  clear k6
  (try go_wp2_with fail)
  refine hK.out _ _ ?_ (fun hHeld => ?_)
  · (first | exact ⟨HR7.out _ K7.out, HRX.out _ (K5.out.trans K7.out)⟩ | exact ⟨HR7.out _ K6.out, HRX.out _ (K5.out.trans K6.out)⟩)
  clear hK K
  (try simp only [Act.put, List.setIfInBounds_toArray, List.set_cons_zero, List.set_cons_succ])
  refine wpAnyH_take (i := 3) (oi := { dst := some 75, op := _, type := _, pos := _, after := _, guard := _ }) (v := ?_) rfl (by kernel_rfl) (by kernel_rfl) (by kernel_rfl) (fun _ _ _ h => h) (Or.inl ⟨by rfl, ?_⟩) (by assumption) ?_
  rotate_left
  · (intro w hSw; go_simp; (try with_reducible rfl))
  (try simp only [Act.put, List.setIfInBounds_toArray, List.set_cons_zero, List.set_cons_succ])
  refine wpAnyH_take (i := 4) (oi := { dst := some 76, op := _, type := _, pos := _, after := _, guard := _ }) (v := ?_) rfl (by kernel_rfl) (by kernel_rfl) (by kernel_rfl) (fun _ _ _ h => h) (Or.inl ⟨by rfl, ?_⟩) (by assumption) ?_
  rotate_left
  · (intro w hSw; go_simp; (try with_reducible rfl))
  (try simp only [Act.put, List.setIfInBounds_toArray, List.set_cons_zero, List.set_cons_succ])
  refine wpAnyH_take (i := 5) (oi := { dst := some 77, op := _, type := _, pos := _, after := _, guard := _ }) (v := ?_) rfl (by kernel_rfl) (by kernel_rfl) (by kernel_rfl) (fun _ _ _ h => h) (Or.inl ⟨by rfl, ?_⟩) (by assumption) ?_
  rotate_left
  · (intro w hSw; go_simp; (try with_reducible rfl))
  (try simp only [Act.put, List.setIfInBounds_toArray, List.set_cons_zero, List.set_cons_succ])
  refine wpAnyH_take (i := 6) (oi := { dst := some 78, op := _, type := _, pos := _, after := _, guard := _ }) (v := ?_) rfl (by kernel_rfl) (by kernel_rfl) (by kernel_rfl) (fun _ _ _ h => h) (Or.inl ⟨by rfl, ?_⟩) (by assumption) ?_
  rotate_left
  · (intro w hSw; go_simp; (try with_reducible rfl))
  (try simp only [Act.put, List.setIfInBounds_toArray, List.set_cons_zero, List.set_cons_succ])
  refine wpAnyH_take (i := 7) (oi := { dst := some 79, op := _, type := _, pos := _, after := _, guard := _ }) (v := ?_) rfl (by kernel_rfl) (by kernel_rfl) (by kernel_rfl) (fun _ _ _ h => h) (Or.inl ⟨by rfl, ?_⟩) (by assumption) ?_
  rotate_left
  · (intro w hSw; go_simp; (try with_reducible rfl))
  (try simp only [Act.put, List.setIfInBounds_toArray, List.set_cons_zero, List.set_cons_succ])
  refine wpAnyH_take (i := 8) (oi := { dst := some 80, op := _, type := _, pos := _, after := _, guard := _ }) (v := ?_) rfl (by kernel_rfl) (by kernel_rfl) (by kernel_rfl) (fun _ _ _ h => h) (Or.inl ⟨by rfl, ?_⟩) (by assumption) ?_
  rotate_left
  · (intro w hSw; go_simp; (try with_reducible rfl))
  (try simp only [Act.put, List.setIfInBounds_toArray, List.set_cons_zero, List.set_cons_succ])
  refine wpAnyH_ready (rs := [9]) (by kernel_rfl) (by simp) ?_
  refine AllReadyH.cons (o := { dst := some 81, op := _, type := _, pos := _, after := _, guard := _ }) rfl (fun K hK => ?_) AllReadyH.nil
  go_simp
  refine (HKN.out _ (K1.out.trans (K5.out.trans K6.out))).mono ?_
  rintro e w7 ⟨rfl, k7⟩
  have K7 := hidMk (K6.out.trans k7)
  clear k7
  (try go_wp2_with fail)
  refine hK.out _ _ ?_ (fun hHeld => ?_)
  · (first | exact ⟨HR7.out _ K7.out, HRX.out _ (K5.out.trans K7.out)⟩ | exact ⟨HR7.out _ K6.out, HRX.out _ (K5.out.trans K6.out)⟩)
  clear hK K
  (try simp only [Act.put, List.setIfInBounds_toArray, List.set_cons_zero, List.set_cons_succ])
  refine wpAnyH_take (i := 10) (oi := { dst := some 82, op := _, type := _, pos := _, after := _, guard := _ }) (v := ?_) rfl (by kernel_rfl) (by kernel_rfl) (by kernel_rfl) (fun _ _ _ h => h) (Or.inl ⟨by rfl, ?_⟩) (by assumption) ?_
  rotate_left
  · (intro w hSw; go_simp; (try with_reducible rfl))
  (try simp only [Act.put, List.setIfInBounds_toArray, List.set_cons_zero, List.set_cons_succ])
  refine wpAnyH_take (i := 11) (oi := { dst := some 4, op := _, type := _, pos := _, after := _, guard := _ }) (v := ?_) rfl (by kernel_rfl) (by kernel_rfl) (by kernel_rfl) (fun _ _ _ h => h) (Or.inl ⟨by rfl, ?_⟩) (by assumption) ?_
  rotate_left
  · (intro w hSw; go_simp; (try with_reducible rfl))
  (try simp only [Act.put, List.setIfInBounds_toArray, List.set_cons_zero, List.set_cons_succ])
  refine wpAnyH_done (by kernel_rfl) ?_ _
  go_wp2_with fail
  go_ret
  exact ⟨rfl, K1.out.trans (K5.out.trans K7.out)⟩
end Go.Proofs.YtpehinmckppjoaaGreatDoor
