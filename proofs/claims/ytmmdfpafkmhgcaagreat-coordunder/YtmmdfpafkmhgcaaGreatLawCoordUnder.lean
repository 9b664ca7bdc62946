/- CoordUnder. -/
import Derived.Test.YtmmdfpafkmhgcaaGreatRefCo8
namespace Go.Proofs.YtmmdfpafkmhgcaaGreat
open Go.RowKit Go.Maps
set_option linter.unusedSimpArgs false
set_option linter.unusedVariables false

theorem und_short {ds : List Dm} {ms : List ByteArray} (h : Ct ds ms) (cm : Int) (at_ : Nat → Int) : (undL ms ds cm at_).length ≤ 51840000 := by
  have h1 := mulK_le (f := fun k => leas ds k) (m := ms.length) (by have := h.m4; omega) (fun k => leas60 h k)
  have h2 := undF_all h cm at_ (L := (mulK (fun k => leas ds k) ms.length 4).toNat) (by omega)
  have h3 := undF_len (ms := ms) (ds := ds) cm at_ (mulK (fun k => leas ds k) ms.length 4).toNat
  rw [h2] at h3
  omega
theorem bool_of (P : Prop) : ∃ b : Bool, (b = true ↔ P) := by
  by_cases h : P
  · exact ⟨true, ⟨fun _ => h, fun _ => rfl⟩⟩
  · exact ⟨false, ⟨fun e => (by cases e), fun e => absurd e h⟩⟩
theorem bool_eq {b c : Bool} {P : Prop} (h : b = true ↔ P) (k : c = true ↔ P) : b = c := by
  cases b <;> cases c <;> simp_all
/-- The definition's space stands, and but its block nothing turned. -/
def SU (W0 : World) (r q : Nat) (ds : List Dm) (X Y : World) : Prop := (∃ y4 y5 pp, RQ W0 r q ds y4 y5 pp Y) ∧ Chg (fun j => j = r) X Y
section
variable {W0 X Y Z : World} {r q : Nat} {ds : List Dm} {ms : List ByteArray} {rt : Nat → Nat} {y4 y5 : Value} {pp : Option (Nat × Nat)}
theorem SU.keep (h : SU W0 r q ds X Y) (k : Kept Y Z) : SU W0 r q ds X Z := by
  obtain ⟨⟨y4, y5, pp, h1⟩, h2⟩ := h
  exact ⟨⟨y4, y5, pp, h1.keep k⟩, h2.trans (Chg.of_kept k)⟩
theorem SU.kp (h : SU W0 r q ds X Y) : Kept W0 Y := by
  obtain ⟨⟨y4, y5, pp, h1⟩, h2⟩ := h
  exact h1.kp
theorem SU.rr (h : SU W0 r q ds X Y) (k : RR W0 r q ds y4 y5 pp Y Z) : SU W0 r q ds X Z := by
  obtain ⟨⟨p', h1, _⟩, h2⟩ := k
  exact ⟨⟨_, _, _, h1⟩, h.2.trans h2⟩
end
set_option maxHeartbeats 8000000 in
set_option maxRecDepth 100000 in
theorem law_CoordUnder (a : Option Addr) (n c : Nat) (ds : List Dm) (na : Nat → Option Addr × Nat × Nat) (b : Option Addr) (m d : Nat) (ms : List ByteArray) (lv sc cm : Int) (at_ : Nat → Int) (em : Int) (et : Nat → Int) (nn : Int) (w : World) (hs : Dss w a n ds na) (hm : Ss w b m ms) (hmz : ∀ i, i < ms.length → (msA ms i).size ≤ maxLen) :
    Calls Tryz.prog 4 #[.agg #[.slice a n c, .slice b m d, .int .i64 lv, .int .i64 sc], cellV cm at_, cellV em et, .int .i64 nn] w fun e w' => e = .returned (.bool true) ∧ Kept w w' := by
  obtain ⟨tb, htb⟩ : ∃ x, x = w.heap.size := ⟨_, rfl⟩
  obtain ⟨cb, hcb⟩ : ∃ x, x = w.heap.size + 1 := ⟨_, rfl⟩
  obtain ⟨eb, heb⟩ : ∃ x, x = w.heap.size + 1 + 1 := ⟨_, rfl⟩
  obtain ⟨W1, hW1⟩ : ∃ X, X = ((w.alloc (.cells #[.slice a n c, .slice b m d, .int .i64 lv, .int .i64 sc] 25)).alloc (.cells #[.int .i64 cm, .int .i64 (at_ 0), .int .i64 (at_ 1), .int .i64 (at_ 2), .int .i64 (at_ 3)] 28)).alloc (.cells #[.int .i64 em, .int .i64 (et 0), .int .i64 (et 1), .int .i64 (et 2), .int .i64 (et 3)] 28) := ⟨_, rfl⟩
  have k1 : Kept w W1 := by rw [hW1]; exact (((Kept.refl w).alloc _).alloc _).alloc _
  have HK1 := hidMk k1
  have HTC := hidMk (show W1.cell? ⟨tb, 0, none⟩ = some (.slice a n c) ∧ W1.cell? ⟨tb, 1, none⟩ = some (.slice b m d) ∧ W1.cell? ⟨tb, 2, none⟩ = some (.int .i64 lv) ∧ W1.cell? ⟨tb, 3, none⟩ = some (.int .i64 sc) from by
    rw [hW1]
    exact ⟨(((Kept.refl _).alloc _).alloc _).cellp (new_cell _ _ _ _ 0 _ htb rfl), (((Kept.refl _).alloc _).alloc _).cellp (new_cell _ _ _ _ 1 _ htb rfl), (((Kept.refl _).alloc _).alloc _).cellp (new_cell _ _ _ _ 2 _ htb rfl), (((Kept.refl _).alloc _).alloc _).cellp (new_cell _ _ _ _ 3 _ htb rfl)⟩)
  have HCC := hidMk (show C5 cb cm at_ W1 from by
    rw [hW1, hcb]
    have := C5.new (w.alloc (.cells #[.slice a n c, .slice b m d, .int .i64 lv, .int .i64 sc] 25)) cm at_ 28
    rw [World.size_alloc] at this
    exact this.kept ((Kept.refl _).alloc _))
  have HEC := hidMk (show C5 eb em et W1 from by
    rw [hW1, heb]
    have := C5.new ((w.alloc (.cells #[.slice a n c, .slice b m d, .int .i64 lv, .int .i64 sc] 25)).alloc (.cells #[.int .i64 cm, .int .i64 (at_ 0), .int .i64 (at_ 1), .int .i64 (at_ 2), .int .i64 (at_ 3)] 28)) em et 28
    rwa [World.size_alloc, World.size_alloc] at this)
  have HOP := hidMk (law7_open a n c ds na b m d ms lv sc W1 (hs.kept k1) (hm.kept k1) hmz)
  clear hs hm hmz k1
  have HCB := hidMk (show cb = w.heap.size + 1 ∧ eb = w.heap.size + 1 + 1 from ⟨hcb, heb⟩)
  have HW1S := hidMk (show W1.heap.size = w.heap.size + 1 + 1 + 1 from by rw [hW1, World.size_alloc, World.size_alloc, World.size_alloc])
  unfold cellV
  go_enter Tryz.func4, Tryz.ntmps4
  obtain ⟨y0, y1, y2, y3⟩ := HTC.out
  rw [hW1, htb] at y0 y1 y2 y3
  go_wp2_with fail
  rw [← hW1]
  rw [← heb, ← hcb, ← htb]
  clear hW1 hcb heb htb y0 y1 y2 y3 HTC
  refine HOP.out.mono ?_
  rintro e w1 (⟨W0, s, p, tp, rv, q, rt, rfl, _, hcat, hsw, hrd, hk, hw1⟩ | ⟨v1, v2, rfl, hno, hk⟩)
  · have hq1 := rq_open W0 q ds
    rw [← hw1] at hq1
    have HE := hidMk (show RE W0 W0.heap.size q ds ms rt from ⟨rfl, hrd, hsw.ct⟩)
    have HKW := hidMk hk
    have HSW := hidMk hsw
    have HNR := hidMk (show cb ≠ W0.heap.size ∧ eb ≠ W0.heap.size from by have h1 := HCB.out; have h2 := HW1S.out; have h3 := hk.size; omega)
    obtain ⟨r, hr⟩ : ∃ r, r = W0.heap.size := ⟨_, rfl⟩
    rw [← hr] at hq1 HE HNR
    have HQ1 := hidMk hq1
    rw [← hr]
    have HC1 := hidMk (show C5 cb cm at_ w1 ∧ C5 eb em et w1 from ⟨HCC.out.kept (HKW.out.trans hq1.kp), HEC.out.kept (HKW.out.trans hq1.kp)⟩)
    have HCL := hidMk (show ∀ Y, SU W0 r q ds w1 Y → C5 cb cm at_ Y ∧ C5 eb em et Y from fun Y h => ⟨HC1.out.1.chg h.2 HNR.out.1, HC1.out.2.chg h.2 HNR.out.2⟩)
    have hct := hsw.ct
    have hus := und_short hct cm at_
    clear hw1 hsw hrd hk hcat HOP HCC HEC hr HCB HW1S HC1 HNR hq1 hct
    go_upto_region 4 with fail
    obtain ⟨ob, hob⟩ := bool_of (okC ms ds nn ∧ inC ms ds (prQ (fun k => leas ds k) nn 4) (lfF ds nn ds.length) cm at_)
    obtain ⟨wi, hwi⟩ := bool_of (inC ms ds cm at_ em et)
    have HSU1 := hidMk (show SU W0 r q ds w1 w1.drew from ⟨⟨_, _, _, HQ1.out.keep ((Kept.refl _).drew)⟩, Chg.of_kept ((Kept.refl _).drew)⟩)
    have HL2 := hidMk (sw_Under (HSW.out.keep (HQ1.out.kp.trans ((Kept.refl w1).drew))) cm at_)
    have HL5 := hidMk (show ∀ Y, RQ W0 r q ds (.slice none 0 0) (.slice none 0 0) none Y → _ from fun Y h => r7_Under HE.out h cm at_)
    have HL11 := hidMk (show ∀ Y, SU W0 r q ds w1 Y → _ from fun Y h => (sw_Inside (HSW.out.keep h.kp) cm at_ nn).mono fun e w' h2 => (show e = .returned (.bool ob) ∧ SU W0 r q ds w1 w' from by
      obtain ⟨b1, rfl, h3, h4⟩ := h2
      exact ⟨by rw [bool_eq h3 hob], h.keep h4⟩))
    have HL15 := hidMk (show ∀ Y, SU W0 r q ds w1 Y → _ from fun Y h => (r7_Inside HE.out h.1.choose_spec.choose_spec.choose_spec cm at_ nn).mono fun e w' h2 => (show e = .returned (.bool ob) ∧ SU W0 r q ds w1 w' from by
      obtain ⟨b1, rfl, h3, h4⟩ := h2
      exact ⟨by rw [bool_eq h3 hob], h.rr h4⟩))
    have HL22 := hidMk (show ∀ Y, SU W0 r q ds w1 Y → _ from fun Y h => (sw_Within (HSW.out.keep h.kp) cm at_ em et).mono fun e w' h2 => (show e = .returned (.bool wi) ∧ SU W0 r q ds w1 w' from by
      obtain ⟨b1, rfl, h3, h4⟩ := h2
      exact ⟨by rw [bool_eq h3 hwi], h.keep h4⟩))
    have HL26 := hidMk (show ∀ Y, SU W0 r q ds w1 Y → _ from fun Y h => (r7_Within HE.out h.1.choose_spec.choose_spec.choose_spec cm at_ em et).mono fun e w' h2 => (show e = .returned (.bool wi) ∧ SU W0 r q ds w1 w' from by
      obtain ⟨b1, rfl, h3, h4⟩ := h2
      exact ⟨by rw [bool_eq h3 hwi], h.rr h4⟩))
    have HL30 := hidMk (show ∀ Y, SU W0 r q ds w1 Y → _ from fun Y h => (law7_known Y).mono fun e w' h2 => (show e = _ ∧ SU W0 r q ds w1 w' from ⟨h2.1, h.keep h2.2⟩))
    have HRL := hidMk HQ1.out.lt
    clear HE HSW hob hwi
    unfold cellV at *
    generalize undL ms ds cm at_ = ul at *
    refine wp_region_held_drew (S := (fun w' => SU W0 r q ds w1 w')) (by kernel_rfl) ?_ (fun hHeld => ?_)
    · exact HSU1.out
    refine wpAnyH_take (i := 0) (oi := { dst := some 21, op := _, type := _, pos := _, after := _, guard := _ }) (v := ?_) rfl (by kernel_rfl) (by kernel_rfl) (by kernel_rfl) (fun _ _ _ h => h) (Or.inl ⟨by rfl, ?_⟩) (by assumption) ?_
    rotate_left
    · (intro w9 hSw; clear hSw; go_simp; (try with_reducible rfl))
    (try simp only [Act.put, List.setIfInBounds_toArray, List.set_cons_zero, List.set_cons_succ])
    refine wpAnyH_take (i := 1) (oi := { dst := some 22, op := _, type := _, pos := _, after := _, guard := _ }) (v := ?_) rfl (by kernel_rfl) (by kernel_rfl) (by kernel_rfl) (fun _ _ _ h => h) (Or.inl ⟨by rfl, ?_⟩) (by assumption) ?_
    rotate_left
    · (intro w9 hSw; obtain ⟨⟨b0, b1, b2, b3, b4⟩, _⟩ := HCL.out w9 hSw; clear hSw; go_simp; (try with_reducible rfl))
    (try simp only [Act.put, List.setIfInBounds_toArray, List.set_cons_zero, List.set_cons_succ])
    refine wpAnyH_take (i := 3) (oi := { dst := some 24, op := _, type := _, pos := _, after := _, guard := _ }) (v := ?_) rfl (by kernel_rfl) (by kernel_rfl) (by kernel_rfl) (fun _ _ _ h => h) (Or.inl ⟨by rfl, ?_⟩) (by assumption) ?_
    rotate_left
    · (intro w9 hSw; clear hSw; go_simp; (try with_reducible rfl))
    (try simp only [Act.put, List.setIfInBounds_toArray, List.set_cons_zero, List.set_cons_succ])
    refine wpAnyH_take (i := 4) (oi := { dst := some 25, op := _, type := _, pos := _, after := _, guard := _ }) (v := ?_) rfl (by kernel_rfl) (by kernel_rfl) (by kernel_rfl) (fun _ _ _ h => h) (Or.inl ⟨by rfl, ?_⟩) (by assumption) ?_
    rotate_left
    · (intro w9 hSw; obtain ⟨⟨b0, b1, b2, b3, b4⟩, _⟩ := HCL.out w9 hSw; clear hSw; go_simp; (try with_reducible rfl))
    (try simp only [Act.put, List.setIfInBounds_toArray, List.set_cons_zero, List.set_cons_succ])
    refine wpAnyH_ready (rs := [2]) (by kernel_rfl) (by simp) ?_
    refine AllReadyH.cons (o := { dst := some 23, op := _, type := _, pos := _, after := _, guard := _ }) rfl (fun K hK => ?_) AllReadyH.nil
    go_simp
    refine HL2.out.mono ?_
    rintro e wU ⟨v, rfl, ho, kU⟩
    have HAA := hidMk (HSU1.out.keep kU)
    have HQU := hidMk (HQ1.out.keep (((Kept.refl w1).drew).trans kU))
    have HOU := hidMk ho
    have HVR := hidMk (show ∀ g, v.ownBlock = some g → ¬ g = r from fun g hg e => by have h1 := (ho.lt g hg).1; have h2 := HRL.out; have h3 := ((Kept.refl w1).drew).size; omega)
    clear ho kU
    (try go_wp2_with fail)
    refine hK.out _ _ ?_ (fun hHeld => ?_)
    · exact HAA.out
    clear hK K
    (try simp only [Act.put, List.setIfInBounds_toArray, List.set_cons_zero, List.set_cons_succ])
    refine wpAnyH_ready (rs := [5]) (by kernel_rfl) (by simp) ?_
    refine AllReadyH.cons (o := { dst := some 26, op := _, type := _, pos := _, after := _, guard := _ }) rfl (fun K hK => ?_) AllReadyH.nil
    go_simp
    refine (HL5.out _ HQU.out).mono ?_
    rintro e wV ⟨v2, z4, z5, zp, rfl, ho2, hq2, hc2⟩
    have HAA := hidMk (show SU W0 r q ds w1 wV from ⟨⟨_, _, _, hq2⟩, HAA.out.2.trans hc2⟩)
    have HO1 := hidMk (HOU.out.chg hc2 HVR.out)
    have HO2 := hidMk ho2
    clear ho2 hq2 hc2
    (try go_wp2_with fail)
    refine hK.out _ _ ?_ (fun hHeld => ?_)
    · exact HAA.out
    clear hK K
    (try simp only [Act.put, List.setIfInBounds_toArray, List.set_cons_zero, List.set_cons_succ])
    refine wpAnyH_ready (rs := [6]) (by kernel_rfl) (by simp) ?_
    refine AllReadyH.cons (o := { dst := some 27, op := _, type := _, pos := _, after := _, guard := _ }) rfl (fun K hK => ?_) AllReadyH.nil
    go_simp
    obtain ⟨ua, uc, hv, hsu⟩ := HO1.out.sl (by unfold maxLen; omega)
    obtain ⟨va, vc, hv2, hsv⟩ := HO2.out.sl (by unfold maxLen; omega)
    subst hv
    subst hv2
    have HIT := hidMk (ref_Ints ua va ul.length ul.length uc vc ul ul _ hsu hsv)
    clear hsu hsv
    simp only [decide_true] at HIT
    refine HIT.out.mono ?_
    rintro e wI ⟨rfl, kI⟩
    have HAA := hidMk (HAA.out.keep kI)
    clear kI HIT
    (try go_wp2_with fail)
    refine hK.out _ _ ?_ (fun hHeld => ?_)
    · exact HAA.out
    clear hK K
    (try simp only [Act.put, List.setIfInBounds_toArray, List.set_cons_zero, List.set_cons_succ])
    refine wpAnyH_take (i := 7) (oi := { dst := some 28, op := _, type := _, pos := _, after := _, guard := _ }) (v := ?_) rfl (by kernel_rfl) (by kernel_rfl) (by kernel_rfl) (fun _ _ _ h => h) (Or.inl ⟨by rfl, ?_⟩) (by assumption) ?_
    rotate_left
    · (intro w9 hSw; clear hSw; go_simp; (try with_reducible rfl))
    (try simp only [Act.put, List.setIfInBounds_toArray, List.set_cons_zero, List.set_cons_succ])
    refine wpAnyH_take (i := 8) (oi := { dst := some 29, op := _, type := _, pos := _, after := _, guard := _ }) (v := ?_) rfl (by kernel_rfl) (by kernel_rfl) (by kernel_rfl) (fun _ _ _ h => h) (Or.inl ⟨by rfl, ?_⟩) (by assumption) ?_
    rotate_left
    · (intro w9 hSw; clear hSw; go_simp; (try with_reducible rfl))
    (try simp only [Act.put, List.setIfInBounds_toArray, List.set_cons_zero, List.set_cons_succ])
    refine wpAnyH_take (i := 9) (oi := { dst := some 30, op := _, type := _, pos := _, after := _, guard := _ }) (v := ?_) rfl (by kernel_rfl) (by kernel_rfl) (by kernel_rfl) (fun _ _ _ h => h) (Or.inl ⟨by rfl, ?_⟩) (by assumption) ?_
    rotate_left
    · (intro w9 hSw; obtain ⟨⟨b0, b1, b2, b3, b4⟩, _⟩ := HCL.out w9 hSw; clear hSw; go_simp; (try with_reducible rfl))
    (try simp only [Act.put, List.setIfInBounds_toArray, List.set_cons_zero, List.set_cons_succ])
    refine wpAnyH_take (i := 10) (oi := { dst := some 31, op := _, type := _, pos := _, after := _, guard := _ }) (v := ?_) rfl (by kernel_rfl) (by kernel_rfl) (by kernel_rfl) (fun _ _ _ h => h) (Or.inl ⟨by rfl, ?_⟩) (by assumption) ?_
    rotate_left
    · (intro w9 hSw; clear hSw; go_simp; (try with_reducible rfl))
    (try simp only [Act.put, List.setIfInBounds_toArray, List.set_cons_zero, List.set_cons_succ])
    refine wpAnyH_take (i := 12) (oi := { dst := some 33, op := _, type := _, pos := _, after := _, guard := _ }) (v := ?_) rfl (by kernel_rfl) (by kernel_rfl) (by kernel_rfl) (fun _ _ _ h => h) (Or.inl ⟨by rfl, ?_⟩) (by assumption) ?_
    rotate_left
    · (intro w9 hSw; clear hSw; go_simp; (try with_reducible rfl))
    (try simp only [Act.put, List.setIfInBounds_toArray, List.set_cons_zero, List.set_cons_succ])
    refine wpAnyH_take (i := 13) (oi := { dst := some 34, op := _, type := _, pos := _, after := _, guard := _ }) (v := ?_) rfl (by kernel_rfl) (by kernel_rfl) (by kernel_rfl) (fun _ _ _ h => h) (Or.inl ⟨by rfl, ?_⟩) (by assumption) ?_
    rotate_left
    · (intro w9 hSw; obtain ⟨⟨b0, b1, b2, b3, b4⟩, _⟩ := HCL.out w9 hSw; clear hSw; go_simp; (try with_reducible rfl))
    (try simp only [Act.put, List.setIfInBounds_toArray, List.set_cons_zero, List.set_cons_succ])
    refine wpAnyH_take (i := 14) (oi := { dst := some 35, op := _, type := _, pos := _, after := _, guard := _ }) (v := ?_) rfl (by kernel_rfl) (by kernel_rfl) (by kernel_rfl) (fun _ _ _ h => h) (Or.inl ⟨by rfl, ?_⟩) (by assumption) ?_
    rotate_left
    · (intro w9 hSw; clear hSw; go_simp; (try with_reducible rfl))
    (try simp only [Act.put, List.setIfInBounds_toArray, List.set_cons_zero, List.set_cons_succ])
    refine wpAnyH_ready (rs := [11]) (by kernel_rfl) (by simp) ?_
    refine AllReadyH.cons (o := { dst := some 32, op := _, type := _, pos := _, after := _, guard := _ }) rfl (fun K hK => ?_) AllReadyH.nil
    go_simp
    refine (HL11.out _ hHeld).mono ?_
    rintro e wA ⟨rfl, hA⟩
    have HAA := hidMk hA
    clear hA
    (try go_wp2_with fail)
    refine hK.out _ _ ?_ (fun hHeld => ?_)
    · exact HAA.out
    clear hK K
    (try simp only [Act.put, List.setIfInBounds_toArray, List.set_cons_zero, List.set_cons_succ])
    refine wpAnyH_ready (rs := [15]) (by kernel_rfl) (by simp) ?_
    refine AllReadyH.cons (o := { dst := some 36, op := _, type := _, pos := _, after := _, guard := _ }) rfl (fun K hK => ?_) AllReadyH.nil
    go_simp
    refine (HL15.out _ hHeld).mono ?_
    rintro e wA ⟨rfl, hA⟩
    have HAA := hidMk hA
    clear hA
    (try go_wp2_with fail)
    refine hK.out _ _ ?_ (fun hHeld => ?_)
    · exact HAA.out
    clear hK K
    (try simp only [Act.put, List.setIfInBounds_toArray, List.set_cons_zero, List.set_cons_succ])
    refine wpAnyH_take (i := 16) (oi := { dst := some 37, op := _, type := _, pos := _, after := _, guard := _ }) (v := ?_) rfl (by kernel_rfl) (by kernel_rfl) (by kernel_rfl) (fun _ _ _ h => h) (Or.inl ⟨by rfl, ?_⟩) (by assumption) ?_
    rotate_left
    · (intro w9 hSw; clear hSw; go_simp; (try with_reducible rfl))
    (try simp only [Act.put, List.setIfInBounds_toArray, List.set_cons_zero, List.set_cons_succ])
    refine wpAnyH_take (i := 17) (oi := { dst := some 38, op := _, type := _, pos := _, after := _, guard := _ }) (v := ?_) rfl (by kernel_rfl) (by kernel_rfl) (by kernel_rfl) (fun _ _ _ h => h) (Or.inl ⟨by rfl, ?_⟩) (by assumption) ?_
    rotate_left
    · (intro w9 hSw; clear hSw; go_simp; (try with_reducible rfl))
    (try simp only [Act.put, List.setIfInBounds_toArray, List.set_cons_zero, List.set_cons_succ])
    refine wpAnyH_take (i := 18) (oi := { dst := some 39, op := _, type := _, pos := _, after := _, guard := _ }) (v := ?_) rfl (by kernel_rfl) (by kernel_rfl) (by kernel_rfl) (fun _ _ _ h => h) (Or.inl ⟨by rfl, ?_⟩) (by assumption) ?_
    rotate_left
    · (intro w9 hSw; clear hSw; go_simp; (try with_reducible rfl))
    (try simp only [Act.put, List.setIfInBounds_toArray, List.set_cons_zero, List.set_cons_succ])
    refine wpAnyH_take (i := 19) (oi := { dst := some 40, op := _, type := _, pos := _, after := _, guard := _ }) (v := ?_) rfl (by kernel_rfl) (by kernel_rfl) (by kernel_rfl) (fun _ _ _ h => h) (Or.inl ⟨by rfl, ?_⟩) (by assumption) ?_
    rotate_left
    · (intro w9 hSw; clear hSw; go_simp; (try with_reducible rfl))
    (try simp only [Act.put, List.setIfInBounds_toArray, List.set_cons_zero, List.set_cons_succ])
    refine wpAnyH_take (i := 20) (oi := { dst := some 41, op := _, type := _, pos := _, after := _, guard := _ }) (v := ?_) rfl (by kernel_rfl) (by kernel_rfl) (by kernel_rfl) (fun _ _ _ h => h) (Or.inl ⟨by rfl, ?_⟩) (by assumption) ?_
    rotate_left
    · (intro w9 hSw; obtain ⟨⟨b0, b1, b2, b3, b4⟩, _⟩ := HCL.out w9 hSw; clear hSw; go_simp; (try with_reducible rfl))
    (try simp only [Act.put, List.setIfInBounds_toArray, List.set_cons_zero, List.set_cons_succ])
    refine wpAnyH_take (i := 21) (oi := { dst := some 42, op := _, type := _, pos := _, after := _, guard := _ }) (v := ?_) rfl (by kernel_rfl) (by kernel_rfl) (by kernel_rfl) (fun _ _ _ h => h) (Or.inl ⟨by rfl, ?_⟩) (by assumption) ?_
    rotate_left
    · (intro w9 hSw; obtain ⟨_, ⟨b0, b1, b2, b3, b4⟩⟩ := HCL.out w9 hSw; clear hSw; go_simp; (try with_reducible rfl))
    (try simp only [Act.put, List.setIfInBounds_toArray, List.set_cons_zero, List.set_cons_succ])
    refine wpAnyH_take (i := 23) (oi := { dst := some 44, op := _, type := _, pos := _, after := _, guard := _ }) (v := ?_) rfl (by kernel_rfl) (by kernel_rfl) (by kernel_rfl) (fun _ _ _ h => h) (Or.inl ⟨by rfl, ?_⟩) (by assumption) ?_
    rotate_left
    · (intro w9 hSw; clear hSw; go_simp; (try with_reducible rfl))
    (try simp only [Act.put, List.setIfInBounds_toArray, List.set_cons_zero, List.set_cons_succ])
    refine wpAnyH_take (i := 24) (oi := { dst := some 45, op := _, type := _, pos := _, after := _, guard := _ }) (v := ?_) rfl (by kernel_rfl) (by kernel_rfl) (by kernel_rfl) (fun _ _ _ h => h) (Or.inl ⟨by rfl, ?_⟩) (by assumption) ?_
    rotate_left
    · (intro w9 hSw; obtain ⟨⟨b0, b1, b2, b3, b4⟩, _⟩ := HCL.out w9 hSw; clear hSw; go_simp; (try with_reducible rfl))
    (try simp only [Act.put, List.setIfInBounds_toArray, List.set_cons_zero, List.set_cons_succ])
    refine wpAnyH_take (i := 25) (oi := { dst := some 46, op := _, type := _, pos := _, after := _, guard := _ }) (v := ?_) rfl (by kernel_rfl) (by kernel_rfl) (by kernel_rfl) (fun _ _ _ h => h) (Or.inl ⟨by rfl, ?_⟩) (by assumption) ?_
    rotate_left
    · (intro w9 hSw; obtain ⟨_, ⟨b0, b1, b2, b3, b4⟩⟩ := HCL.out w9 hSw; clear hSw; go_simp; (try with_reducible rfl))
    (try simp only [Act.put, List.setIfInBounds_toArray, List.set_cons_zero, List.set_cons_succ])
    refine wpAnyH_ready (rs := [22]) (by kernel_rfl) (by simp) ?_
    refine AllReadyH.cons (o := { dst := some 43, op := _, type := _, pos := _, after := _, guard := _ }) rfl (fun K hK => ?_) AllReadyH.nil
    go_simp
    refine (HL22.out _ hHeld).mono ?_
    rintro e wA ⟨rfl, hA⟩
    have HAA := hidMk hA
    clear hA
    (try go_wp2_with fail)
    refine hK.out _ _ ?_ (fun hHeld => ?_)
    · exact HAA.out
    clear hK K
    (try simp only [Act.put, List.setIfInBounds_toArray, List.set_cons_zero, List.set_cons_succ])
    refine wpAnyH_ready (rs := [26]) (by kernel_rfl) (by simp) ?_
    refine AllReadyH.cons (o := { dst := some 47, op := _, type := _, pos := _, after := _, guard := _ }) rfl (fun K hK => ?_) AllReadyH.nil
    go_simp
    refine (HL26.out _ hHeld).mono ?_
    rintro e wA ⟨rfl, hA⟩
    have HAA := hidMk hA
    clear hA
    (try go_wp2_with fail)
    refine hK.out _ _ ?_ (fun hHeld => ?_)
    · exact HAA.out
    clear hK K
    (try simp only [Act.put, List.setIfInBounds_toArray, List.set_cons_zero, List.set_cons_succ])
    refine wpAnyH_take (i := 27) (oi := { dst := some 48, op := _, type := _, pos := _, after := _, guard := _ }) (v := ?_) rfl (by kernel_rfl) (by kernel_rfl) (by kernel_rfl) (fun _ _ _ h => h) (Or.inl ⟨by rfl, ?_⟩) (by assumption) ?_
    rotate_left
    · (intro w9 hSw; clear hSw; go_simp; (try with_reducible rfl))
    (try simp only [Act.put, List.setIfInBounds_toArray, List.set_cons_zero, List.set_cons_succ])
    refine wpAnyH_take (i := 28) (oi := { dst := some 49, op := _, type := _, pos := _, after := _, guard := _ }) (v := ?_) rfl (by kernel_rfl) (by kernel_rfl) (by kernel_rfl) (fun _ _ _ h => h) (Or.inl ⟨by rfl, ?_⟩) (by assumption) ?_
    rotate_left
    · (intro w9 hSw; clear hSw; go_simp; (try with_reducible rfl))
    (try simp only [Act.put, List.setIfInBounds_toArray, List.set_cons_zero, List.set_cons_succ])
    refine wpAnyH_take (i := 29) (oi := { dst := some 50, op := _, type := _, pos := _, after := _, guard := _ }) (v := ?_) rfl (by kernel_rfl) (by kernel_rfl) (by kernel_rfl) (fun _ _ _ h => h) (Or.inl ⟨by rfl, ?_⟩) (by assumption) ?_
    rotate_left
    · (intro w9 hSw; clear hSw; go_simp; (try with_reducible rfl))
    (try simp only [Act.put, List.setIfInBounds_toArray, List.set_cons_zero, List.set_cons_succ])
    refine wpAnyH_ready (rs := [30]) (by kernel_rfl) (by simp) ?_
    refine AllReadyH.cons (o := { dst := some 51, op := _, type := _, pos := _, after := _, guard := _ }) rfl (fun K hK => ?_) AllReadyH.nil
    go_simp
    refine (HL30.out _ hHeld).mono ?_
    rintro e wA ⟨rfl, hA⟩
    have HAA := hidMk hA
    clear hA
    (try go_wp2_with fail)
    refine hK.out _ _ ?_ (fun hHeld => ?_)
    · exact HAA.out
    clear hK K
    (try simp only [Act.put, List.setIfInBounds_toArray, List.set_cons_zero, List.set_cons_succ])
    refine wpAnyH_take (i := 31) (oi := { dst := some 52, op := _, type := _, pos := _, after := _, guard := _ }) (v := ?_) rfl (by kernel_rfl) (by kernel_rfl) (by kernel_rfl) (fun _ _ _ h => h) (Or.inl ⟨by rfl, ?_⟩) (by assumption) ?_
    rotate_left
    · (intro w9 hSw; clear hSw; go_simp; (try with_reducible rfl))
    (try simp only [Act.put, List.setIfInBounds_toArray, List.set_cons_zero, List.set_cons_succ])
    refine wpAnyH_take (i := 32) (oi := { dst := some 8, op := _, type := _, pos := _, after := _, guard := _ }) (v := ?_) rfl (by kernel_rfl) (by kernel_rfl) (by kernel_rfl) (fun _ _ _ h => h) (Or.inl ⟨by rfl, ?_⟩) (by assumption) ?_
    rotate_left
    · (intro w9 hSw; clear hSw; go_simp; (try with_reducible rfl))
    (try simp only [Act.put, List.setIfInBounds_toArray, List.set_cons_zero, List.set_cons_succ])
    refine wpAnyH_done (by kernel_rfl) ?_ _
    have HKF := hidMk hHeld.kp
    clear hHeld
    go_wp2_with fail
    go_ret
    exact ⟨rfl, HK1.out.trans (HKW.out.trans HKF.out)⟩
  · have HK2 := hidMk hk
    clear hk HOP
    go_wp2_with fail
    refine (law7_known _).mono ?_
    rintro e w3 ⟨rfl, k3⟩
    have HK4 := hidMk k3
    clear k3
    go_wp2_with fail
    go_ret
    exact ⟨rfl, HK1.out.trans (HK2.out.trans HK4.out)⟩
end Go.Proofs.YtmmdfpafkmhgcaaGreat
