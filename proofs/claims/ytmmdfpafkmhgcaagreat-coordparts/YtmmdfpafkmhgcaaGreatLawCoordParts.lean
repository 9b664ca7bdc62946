/- CoordParts. -/
import Derived.Test.YtmmdfpafkmhgcaaGreatCoFr
namespace Go.Proofs.YtmmdfpafkmhgcaaGreat
open Go.RowKit Go.Maps
set_option linter.unusedSimpArgs false
set_option linter.unusedVariables false

theorem abv_trans {l : List Nd} (h : Tr l) {x y z : Int} (h1 : x ∈ abvA l y) (h2 : y ∈ abvA l z) : x ∈ abvA l z := by
  obtain ⟨t1, a1, b1⟩ := (abvA_mem h.nl).1 h1
  obtain ⟨t2, a2, b2⟩ := (abvA_mem h.nl).1 h2
  obtain ⟨e1, e2⟩ := hl_ends h.nl z
  have e3 := hl_upN h.nl (t := t2) (x := z) (fun j hj => e1.2 j (by omega))
  rw [b2] at e3
  refine (abvA_mem h.nl).2 ⟨t2 + t1, by omega, ?_⟩
  rw [← upN_add, b2, b1]
theorem in_trans {ds : List Dm} {ms : List ByteArray} (h : Ct ds ms) {am cm em : Int} {a c e : Nat → Int} (h1 : inC ms ds am a cm c) (h2 : inC ms ds cm c em e) : inC ms ds am a em e :=
  ⟨h1.1, h2.2.1, h1.2.2.1.trans h2.2.2.1, fun j hj => abv_trans (h.tr j hj) (h2.2.2.2 j hj) (h1.2.2.2 j hj)⟩
theorem prods_ne : ∀ (ls : List (List Int)), (∀ l, l ∈ ls → l ≠ []) → prods ls ≠ [] := by
  intro ls
  induction ls with
  | nil => intro _; simp [prods]
  | cons l r ih =>
    intro h
    have h1 := h l (by simp)
    have h2 := ih (fun x hx => h x (by simp [hx]))
    cases l with
    | nil => exact absurd rfl h1
    | cons v t =>
      cases hr : prods r with
      | nil => exact absurd hr h2
      | cons x y => simp [prods, hr]
theorem span_ne {ds : List Dm} {ms : List ByteArray} (h : Ct ds ms) {at_ : Nat → Int} {k : Nat} (hk : k < ds.length) (hi : 0 ≤ at_ k ∧ at_ k < (dmL ds k).length) : spanL ds at_ k ≠ [] := by
  obtain ⟨i, hii⟩ : ∃ i : Nat, at_ k = i := ⟨(at_ k).toNat, by omega⟩
  have hil : i < (dmL ds k).length := by omega
  have hne := lvS_ne (h.tr k hk) hil
  cases hl : lvS (dmL ds k) i with
  | nil => exact absurd hl hne
  | cons x t =>
    obtain ⟨m1, m2⟩ := (lvS_mem (h.tr k hk) hil).1 (show x ∈ lvS (dmL ds k) i by rw [hl]; simp)
    obtain ⟨r, hr, e⟩ := List.getElem_of_mem m1
    have : at_ k ∈ abvA (dmL ds k) ((lvsN (dmL ds k))[r] : Nat) := by rw [e, hii]; unfold inB at m2; simpa using m2
    have hs := (in_span h hk hi hr).1 this
    exact List.ne_nil_of_mem (spanL_mem.2 hs)
theorem und_ne {ds : List Dm} {ms : List ByteArray} (h : Ct ds ms) {cm : Int} {at_ : Nat → Int} (hr : rightB ms ds cm at_ = true) : 0 < (undL ms ds cm at_).length := by
  unfold undL
  rw [if_pos hr, List.length_map]
  refine List.length_pos_iff.2 (prods_ne _ (fun l hl => ?_))
  simp only [lsK, List.mem_map, List.mem_range] at hl
  obtain ⟨k, hk, rfl⟩ := hl
  have h4 := h.d4
  have := (right_iff.1 hr).2 k (by omega)
  rw [many_in hk] at this
  exact span_ne h hk this
theorem und_le {ds : List Dm} {ms : List ByteArray} (h : Ct ds ms) (cm : Int) (at_ : Nat → Int) : (undL ms ds cm at_).length ≤ 12960000 := by
  unfold undL
  split
  · rw [List.length_map]
    refine prods_small (fun l hl => ?_) (by rw [lsK_len]; exact h.d4)
    simp only [lsK, List.mem_map, List.mem_range] at hl
    obtain ⟨k, hk, rfl⟩ := hl
    have h1 := span_bound (dmL ds k) (at_ k)
    have h2 := lvs_len (h.tr k hk)
    have h3 := h.le k hk
    unfold spanL
    rw [rngI_len]
    omega
  · simp
set_option maxHeartbeats 8000000 in
set_option maxRecDepth 100000 in
theorem law_CoordParts (a : Option Addr) (n c : Nat) (ds : List Dm) (na : Nat → Option Addr × Nat × Nat) (b : Option Addr) (m d : Nat) (ms : List ByteArray) (lv sc cm : Int) (at_ : Nat → Int) (em : Int) (et : Nat → Int) (w : World) (hs : Dss w a n ds na) (hm : Ss w b m ms) (hmz : ∀ i, i < ms.length → (msA ms i).size ≤ maxLen) :
    Calls Tryz.prog 6 #[.agg #[.slice a n c, .slice b m d, .int .i64 lv, .int .i64 sc], cellV cm at_, cellV em et] w fun e w' => e = .returned (.bool true) ∧ Kept w w' := by
  obtain ⟨tb, htb⟩ : ∃ x, x = w.heap.size := ⟨_, rfl⟩
  obtain ⟨cb, hcb⟩ : ∃ x, x = w.heap.size + 1 := ⟨_, rfl⟩
  obtain ⟨eb, heb⟩ : ∃ x, x = w.heap.size + 1 + 1 := ⟨_, rfl⟩
  obtain ⟨W1, hW1⟩ : ∃ X, X = ((w.alloc (.cells #[.slice a n c, .slice b m d, .int .i64 lv, .int .i64 sc] 25)).alloc (.cells #[.int .i64 cm, .int .i64 (at_ 0), .int .i64 (at_ 1), .int .i64 (at_ 2), .int .i64 (at_ 3)] 28)).alloc (.cells #[.int .i64 em, .int .i64 (et 0), .int .i64 (et 1), .int .i64 (et 2), .int .i64 (et 3)] 28) := ⟨_, rfl⟩
  have k1 : Kept w W1 := by rw [hW1]; exact (((Kept.refl w).alloc _).alloc _).alloc _
  have HK1 := hidMk k1
  have HTC := hidMk (show W1.cell? ⟨tb, 0, none⟩ = some (.slice a n c) ∧ W1.cell? ⟨tb, 1, none⟩ = some (.slice b m d) ∧ W1.cell? ⟨tb, 2, none⟩ = some (.int .i64 lv) ∧ W1.cell? ⟨tb, 3, none⟩ = some (.int .i64 sc) from by
    rw [hW1]
    exact ⟨(((Kept.refl _).alloc _).alloc _).cellp (new_cell _ _ _ _ 0 _ htb rfl), (((Kept.refl _).alloc _).alloc _).cellp (new_cell _ _ _ _ 1 _ htb rfl), (((Kept.refl _).alloc _).alloc _).cellp (new_cell _ _ _ _ 2 _ htb rfl), (((Kept.refl _).alloc _).alloc _).cellp (new_cell _ _ _ _ 3 _ htb rfl)⟩)
  have HCC := hidMk (show ∀ X, Kept W1 X → X.cell? ⟨cb, 0, none⟩ = some (.int .i64 cm) ∧ X.cell? ⟨cb, 1, none⟩ = some (.int .i64 (at_ 0)) ∧ X.cell? ⟨cb, 2, none⟩ = some (.int .i64 (at_ 1)) ∧ X.cell? ⟨cb, 3, none⟩ = some (.int .i64 (at_ 2)) ∧ X.cell? ⟨cb, 4, none⟩ = some (.int .i64 (at_ 3)) from fun X kX => by
    have hcb' : cb = (w.alloc (.cells #[.slice a n c, .slice b m d, .int .i64 lv, .int .i64 sc] 25)).heap.size := by rw [World.size_alloc]; exact hcb
    have hx : ∀ (i : Nat) (v : Value), (#[.int .i64 cm, .int .i64 (at_ 0), .int .i64 (at_ 1), .int .i64 (at_ 2), .int .i64 (at_ 3)] : Array Value)[i]? = some v → X.cell? ⟨cb, i, none⟩ = some v := fun i v hv => kX.cellp (by rw [hW1]; exact ((Kept.refl _).alloc _).cellp (new_cell _ _ _ _ i _ hcb' hv))
    exact ⟨hx 0 _ rfl, hx 1 _ rfl, hx 2 _ rfl, hx 3 _ rfl, hx 4 _ rfl⟩)
  have HEC := hidMk (show ∀ X, Kept W1 X → X.cell? ⟨eb, 0, none⟩ = some (.int .i64 em) ∧ X.cell? ⟨eb, 1, none⟩ = some (.int .i64 (et 0)) ∧ X.cell? ⟨eb, 2, none⟩ = some (.int .i64 (et 1)) ∧ X.cell? ⟨eb, 3, none⟩ = some (.int .i64 (et 2)) ∧ X.cell? ⟨eb, 4, none⟩ = some (.int .i64 (et 3)) from fun X kX => by
    have heb' : eb = ((w.alloc (.cells #[.slice a n c, .slice b m d, .int .i64 lv, .int .i64 sc] 25)).alloc (.cells #[.int .i64 cm, .int .i64 (at_ 0), .int .i64 (at_ 1), .int .i64 (at_ 2), .int .i64 (at_ 3)] 28)).heap.size := by rw [World.size_alloc, World.size_alloc]; exact heb
    have hx : ∀ (i : Nat) (v : Value), (#[.int .i64 em, .int .i64 (et 0), .int .i64 (et 1), .int .i64 (et 2), .int .i64 (et 3)] : Array Value)[i]? = some v → X.cell? ⟨eb, i, none⟩ = some v := fun i v hv => kX.cellp (by rw [hW1]; exact new_cell _ _ _ _ i _ heb' hv)
    exact ⟨hx 0 _ rfl, hx 1 _ rfl, hx 2 _ rfl, hx 3 _ rfl, hx 4 _ rfl⟩)
  have HOP := hidMk (law7_open a n c ds na b m d ms lv sc W1 (hs.kept k1) (hm.kept k1) hmz)
  have HSW := hidMk (show ∀ (X : World) s p tp rv, SW X s p ds ms tp rv → (∀ Y, Kept X Y → Calls Tryz.prog 27 #[.pointer (some ⟨s, 0, none⟩), .agg #[.int .i64 cm, .int .i64 (at_ 0), .int .i64 (at_ 1), .int .i64 (at_ 2), .int .i64 (at_ 3)], .agg #[.int .i64 em, .int .i64 (et 0), .int .i64 (et 1), .int .i64 (et 2), .int .i64 (et 3)]] Y fun e w' => ∃ r, e = .returned (.bool r) ∧ (r = true ↔ inC ms ds cm at_ em et) ∧ Kept Y w') ∧
      (∀ Y, Kept X Y → Calls Tryz.prog 23 #[.pointer (some ⟨s, 0, none⟩), .agg #[.int .i64 cm, .int .i64 (at_ 0), .int .i64 (at_ 1), .int .i64 (at_ 2), .int .i64 (at_ 3)]] Y (UndP Y (undL ms ds cm at_))) ∧
      (∀ Y, Kept X Y → ∀ i, Calls Tryz.prog 25 #[.pointer (some ⟨s, 0, none⟩), .agg #[.int .i64 em, .int .i64 (et 0), .int .i64 (et 1), .int .i64 (et 2), .int .i64 (et 3)], .int .i64 i] Y fun e w' => ∃ r, e = .returned (.bool r) ∧ (r = true ↔ okC ms ds i ∧ inC ms ds (prQ (fun k => leas ds k) i 4) (lfF ds i ds.length) em et) ∧ Kept Y w') from fun X s p tp rv h =>
    ⟨fun Y k => sw_Within (h.keep k) cm at_ em et, fun Y k => sw_Under (h.keep k) cm at_, fun Y k i => sw_Inside (h.keep k) em et i⟩)
  clear hs hm hmz k1
  unfold cellV
  go_enter Tryz.func6, Tryz.ntmps6
  obtain ⟨y0, y1, y2, y3⟩ := HTC.out
  rw [hW1, htb] at y0 y1 y2 y3
  go_wp2_with fail
  rw [← hW1]
  rw [← heb, ← hcb, ← htb]
  clear hW1 hcb heb htb y0 y1 y2 y3
  refine HOP.out.mono ?_
  rintro e w1 (⟨W0, s, p, tp, rv, q, rt, rfl, _, hcat, hsw, _, hk, hw1⟩ | ⟨v1, v2, rfl, hno, hk⟩)
  · have k01 : Kept W0 w1 := by rw [hw1]; exact (Kept.refl _).alloc _
    have HK2 := hidMk (hk.trans k01)
    have hs1 := hsw.keep k01
    have HCT := hidMk hs1.ct
    have HSS := hidMk (HSW.out w1 s p tp rv hs1)
    generalize W0.heap.size = rb at *
    clear hsw hw1 hk k01 hs1 HSW HOP
    obtain ⟨c0, c1, c2, c3, c4⟩ := HCC.out w1 HK2.out
    obtain ⟨e0, e1, e2, e3, e4⟩ := HEC.out w1 HK2.out
    go_wp2_with fail
    refine (HSS.out.1 _ (Kept.refl _)).mono ?_
    rintro e w2 ⟨r, rfl, hr, k2⟩
    have HR := hidMk hr
    have HK3 := hidMk k2
    clear hr k2 c0 c1 c2 c3 c4 e0 e1 e2 e3 e4
    cases r with
    | false =>
      go_wp2_with fail
      refine (law7_known _).mono ?_
      rintro e w3 ⟨rfl, k3⟩
      have HK4 := hidMk k3
      clear k3
      go_wp2_with fail
      go_ret
      exact ⟨rfl, HK1.out.trans (HK2.out.trans (HK3.out.trans HK4.out))⟩
    | true =>
      have HIN := hidMk (HR.out.1 rfl)
      obtain ⟨c0, c1, c2, c3, c4⟩ := HCC.out w2 (HK2.out.trans HK3.out)
      go_wp2_with fail
      refine (HSS.out.2.1 _ HK3.out).mono ?_
      rintro e w3 ⟨v, rfl, ho, k3⟩
      have hul := und_le HCT.out cm at_
      obtain ⟨la, lc, hva, hsl⟩ := ho.sl (by unfold maxLen; omega)
      subst hva
      have HSL := hidMk hsl
      have HK4 := hidMk (HK3.out.trans k3)
      have HNE := hidMk (und_ne HCT.out HIN.out.1)
      have HALL := hidMk (show ∀ i, i ∈ undL ms ds cm at_ → okC ms ds i ∧ inC ms ds (prQ (fun k => leas ds k) i 4) (lfF ds i ds.length) em et from fun i hi => by
        obtain ⟨h1, h2⟩ := (mem_und HCT.out).1 hi
        exact ⟨h1, in_trans HCT.out h2 HIN.out⟩)
      clear ho k3 c0 c1 c2 c3 c4 hsl
      generalize undL ms ds cm at_ = ul at *
      obtain ⟨N, hN⟩ : ∃ N, N = ul.length := ⟨_, rfl⟩
      rw [← hN] at HSL HNE hul ⊢
      have HN := hidMk hN
      clear hN
      go_wp2_with fail
      go_loopg [11] (N + 1) (fun gg x wr => ∃ j : Nat, j + gg = N + 1 ∧ j ≤ N ∧ x = .int .i64 j ∧ Hid (Kept w3 wr))
      case atStart => exact ⟨0, by omega, by omega, rfl, hidMk (Kept.refl _)⟩
      case round =>
        obtain ⟨j, hjg, hjN, rfl, HS⟩ := hrel
        have HG := hidMk hjg
        clear hjg
        by_cases hj : j < N
        · have hj' : (j : Int) < (N : Int) := by omega
          obtain ⟨b2, o2, hla, _, hcc⟩ := HSL.out.cells (by omega)
          have hcv := hcc j hj
          rw [hla] at HSL
          subst hla
          obtain ⟨x, hx⟩ : ∃ x, x = ul.getD j 0 := ⟨_, rfl⟩
          have HXM := hidMk (show x ∈ ul from by
            have hl := HN.out
            rw [hx, List.getD_eq_getElem?_getD, List.getElem?_eq_getElem (by omega)]
            exact List.getElem_mem _)
          rw [← hx] at hcv
          have HCV := hidMk hcv
          have HKD := hidMk (HS.out.drew)
          have HKW := hidMk (show ∀ Y, Kept w3 Y → Kept W1 Y from fun Y k => HK2.out.trans (HK4.out.trans k))
          have HI2 := hidMk (show ∀ Y, Kept w3 Y → Calls Tryz.prog 25 #[.pointer (some ⟨s, 0, none⟩), .agg #[.int .i64 em, .int .i64 (et 0), .int .i64 (et 1), .int .i64 (et 2), .int .i64 (et 3)], .int .i64 x] Y fun e w' => e = .returned (.bool true) ∧ Kept Y w' from fun Y k => by
            refine (HSS.out.2.2 Y (HK4.out.trans k) x).mono ?_
            rintro e w' ⟨r, rfl, hr, k'⟩
            rw [hr.2 (HALL.out x HXM.out)]
            exact ⟨rfl, k'⟩)
          clear hcv hcc hx
          go_upto_region 8 with fail
          refine wp_region_held_drew (S := (fun w' => Kept w3 w')) (by kernel_rfl) ?_ (fun hHeld => ?_)
          · exact HKD.out
          refine wpAnyH_take (i := 0) (oi := { dst := some 37, op := _, type := _, pos := _, after := _, guard := _ }) (v := ?_) rfl (by kernel_rfl) (by kernel_rfl) (by kernel_rfl) (fun _ _ _ h => h) (Or.inl ⟨by rfl, ?_⟩) (by assumption) ?_
          rotate_left
          · (intro w9 hSw; obtain ⟨e0, e1, e2, e3, e4⟩ := HEC.out w9 (HKW.out w9 hSw); have cv := hSw.cellp HCV.out; clear hSw; go_simp; (try with_reducible rfl))
          (try simp only [Act.put, List.setIfInBounds_toArray, List.set_cons_zero, List.set_cons_succ])
          refine wpAnyH_take (i := 1) (oi := { dst := some 38, op := _, type := _, pos := _, after := _, guard := _ }) (v := ?_) rfl (by kernel_rfl) (by kernel_rfl) (by kernel_rfl) (fun _ _ _ h => h) (Or.inl ⟨by rfl, ?_⟩) (by assumption) ?_
          rotate_left
          · (intro w9 hSw; obtain ⟨e0, e1, e2, e3, e4⟩ := HEC.out w9 (HKW.out w9 hSw); have cv := hSw.cellp HCV.out; clear hSw; go_simp; (try with_reducible rfl))
          (try simp only [Act.put, List.setIfInBounds_toArray, List.set_cons_zero, List.set_cons_succ])
          refine wpAnyH_take (i := 2) (oi := { dst := some 39, op := _, type := _, pos := _, after := _, guard := _ }) (v := ?_) rfl (by kernel_rfl) (by kernel_rfl) (by kernel_rfl) (fun _ _ _ h => h) (Or.inl ⟨by rfl, ?_⟩) (by assumption) ?_
          rotate_left
          · (intro w9 hSw; obtain ⟨e0, e1, e2, e3, e4⟩ := HEC.out w9 (HKW.out w9 hSw); have cv := hSw.cellp HCV.out; clear hSw; go_simp; (try with_reducible rfl))
          (try simp only [Act.put, List.setIfInBounds_toArray, List.set_cons_zero, List.set_cons_succ])
          refine wpAnyH_take (i := 3) (oi := { dst := some 40, op := _, type := _, pos := _, after := _, guard := _ }) (v := ?_) rfl (by kernel_rfl) (by kernel_rfl) (by kernel_rfl) (fun _ _ _ h => h) (Or.inl ⟨by rfl, ?_⟩) (by assumption) ?_
          rotate_left
          · (intro w9 hSw; obtain ⟨e0, e1, e2, e3, e4⟩ := HEC.out w9 (HKW.out w9 hSw); have cv := hSw.cellp HCV.out; clear hSw; go_simp; (try with_reducible rfl))
          (try simp only [Act.put, List.setIfInBounds_toArray, List.set_cons_zero, List.set_cons_succ])
          refine wpAnyH_take (i := 4) (oi := { dst := some 41, op := _, type := _, pos := _, after := _, guard := _ }) (v := ?_) rfl (by kernel_rfl) (by kernel_rfl) (by kernel_rfl) (fun _ _ _ h => h) (Or.inl ⟨by rfl, ?_⟩) (by assumption) ?_
          rotate_left
          · (intro w9 hSw; obtain ⟨e0, e1, e2, e3, e4⟩ := HEC.out w9 (HKW.out w9 hSw); have cv := hSw.cellp HCV.out; clear hSw; go_simp; (try with_reducible rfl))
          (try simp only [Act.put, List.setIfInBounds_toArray, List.set_cons_zero, List.set_cons_succ])
          refine wpAnyH_take (i := 5) (oi := { dst := some 42, op := _, type := _, pos := _, after := _, guard := _ }) (v := ?_) rfl (by kernel_rfl) (by kernel_rfl) (by kernel_rfl) (fun _ _ _ h => h) (Or.inl ⟨by rfl, ?_⟩) (by assumption) ?_
          rotate_left
          · (intro w9 hSw; obtain ⟨e0, e1, e2, e3, e4⟩ := HEC.out w9 (HKW.out w9 hSw); have cv := hSw.cellp HCV.out; clear hSw; go_simp; (try with_reducible rfl))
          (try simp only [Act.put, List.setIfInBounds_toArray, List.set_cons_zero, List.set_cons_succ])
          refine wpAnyH_ready (rs := [6]) (by kernel_rfl) (by simp) ?_
          refine AllReadyH.cons (o := { dst := some 43, op := _, type := _, pos := _, after := _, guard := _ }) rfl (fun K hK => ?_) AllReadyH.nil
          go_simp
          refine (HI2.out _ HKD.out).mono ?_
          rintro e wI ⟨rfl, kI⟩
          have HKI := hidMk (HKD.out.trans kI)
          clear kI
          (try go_wp2_with fail)
          refine hK.out _ _ ?_ (fun hHeld => ?_)
          · exact HKI.out
          clear hK K
          (try simp only [Act.put, List.setIfInBounds_toArray, List.set_cons_zero, List.set_cons_succ])
          refine wpAnyH_take (i := 7) (oi := { dst := some 44, op := _, type := _, pos := _, after := _, guard := _ }) (v := ?_) rfl (by kernel_rfl) (by kernel_rfl) (by kernel_rfl) (fun _ _ _ h => h) (Or.inl ⟨by rfl, ?_⟩) (by assumption) ?_
          rotate_left
          · (intro w9 hSw; obtain ⟨e0, e1, e2, e3, e4⟩ := HEC.out w9 (HKW.out w9 hSw); have cv := hSw.cellp HCV.out; clear hSw; go_simp; (try with_reducible rfl))
          (try simp only [Act.put, List.setIfInBounds_toArray, List.set_cons_zero, List.set_cons_succ])
          refine wpAnyH_done (by kernel_rfl) ?_ _
          clear hHeld
          go_wp2_with fail
          go_roundg (gk - 1)
          case measure => have := HG.out; omega
          case rel => exact ⟨j + 1, by have := HG.out; omega, by omega, by go_num, HKI⟩
        · have hje : j = N := by omega
          subst hje
          have hj' : ¬ ((j : Int) < (j : Int)) := by omega
          have h0 : (0 : Int) < (j : Int) := by have := HNE.out; omega
          go_wp2_with fail
          refine (law7_known _).mono ?_
          rintro e w5 ⟨rfl, k5⟩
          have HK5 := hidMk k5
          clear k5
          go_wp2_with fail
          go_ret
          exact ⟨rfl, HK1.out.trans (HK2.out.trans (HK4.out.trans (HS.out.trans HK5.out)))⟩
  · have HK2 := hidMk hk
    clear hk HOP
    go_wp2_with fail
    refine (law7_known _).mono ?_
    rintro e w3 ⟨rfl, k3⟩
    have HK4 := hidMk k3
    clear k3
    go_wp2_with fail
    go_ret
    exact ⟨rfl, HK1.out.trans (HK2.out.trans HK4.out)⟩
end Go.Proofs.YtmmdfpafkmhgcaaGreat
