/- The definition's space: Index, Code. -/
import Derived.Test.YtmmdfpafkmhgcaaGreatRefCo3
namespace Go.Proofs.YtmmdfpafkmhgcaaGreat
open Go.RowKit Go.Maps
set_option linter.unusedSimpArgs false
set_option linter.unusedVariables false

/-- The four places, and nothing behind them. -/
def atc (at_ : Nat → Int) (k : Nat) : Int := if k < 4 then at_ k else 0
theorem wrapI (n : Int) : IntKind.i64.wrap n = wrap64 n := by rw [IntKind.wrap_i64]; unfold wrap64; omega
theorem atc_num (f at_ : Nat → Int) (m : Int) : numK f (atc at_) m 4 = numK f at_ m 4 := num_congr 4 (fun j hj => if_pos hj)
theorem cell_box (X : World) (cm : Int) (at_ : Nat → Int) (t : TypeId) {cb : Nat} (hcb : cb = X.heap.size) (Y : World) (k : Kept (X.alloc (.cells #[.int .i64 cm, .int .i64 (at_ 0), .int .i64 (at_ 1), .int .i64 (at_ 2), .int .i64 (at_ 3)] t)) Y) : (Y.cell? ⟨cb, 0, none⟩ = some (.int .i64 cm) ∧ Y.cell? ⟨cb, 1, none⟩ = some (.int .i64 (at_ 0)) ∧ Y.cell? ⟨cb, 2, none⟩ = some (.int .i64 (at_ 1)) ∧ Y.cell? ⟨cb, 3, none⟩ = some (.int .i64 (at_ 2)) ∧ Y.cell? ⟨cb, 4, none⟩ = some (.int .i64 (at_ 3))) ∧ ∀ j, j < 4 → Y.cell? ⟨cb, 1 + j, none⟩ = some (.int .i64 (at_ j)) := by
  have h0 : ∀ (i : Nat) (v : Value), (#[.int .i64 cm, .int .i64 (at_ 0), .int .i64 (at_ 1), .int .i64 (at_ 2), .int .i64 (at_ 3)] : Array Value)[i]? = some v → Y.cell? ⟨cb, i, none⟩ = some v := fun i v hv => k.cellp (new_cell _ _ _ _ i _ hcb hv)
  refine ⟨⟨h0 0 _ rfl, h0 1 _ rfl, h0 2 _ rfl, h0 3 _ rfl, h0 4 _ rfl⟩, fun j hj => ?_⟩
  have : j = 0 ∨ j = 1 ∨ j = 2 ∨ j = 3 := by omega
  rcases this with rfl | rfl | rfl | rfl
  · exact h0 1 _ rfl
  · exact h0 2 _ rfl
  · exact h0 3 _ rfl
  · exact h0 4 _ rfl
section
variable {W0 X Y : World} {r q : Nat} {ds : List Dm} {ms : List ByteArray} {rt : Nat → Nat} {y4 y5 : Value} {pp : Option (Nat × Nat)}
theorem right_le (h : Ct ds ms) {cm : Int} {at_ : Nat → Int} (hr : rightB ms ds cm at_ = true) : (0 ≤ cm ∧ cm ≤ 1000) ∧ (∀ k, 0 ≤ atc at_ k ∧ atc at_ k ≤ 1000) ∧ ∀ k, k < ds.length → 0 ≤ at_ k ∧ at_ k < (dmL ds k).length := by
  obtain ⟨h1, h2⟩ := right_iff.1 hr
  have h3 := h.m4
  refine ⟨by omega, fun k => ?_, fun k hk => ?_⟩
  · unfold atc
    by_cases c : k < 4
    · rw [if_pos c]; have h4 := h2 k c; have h5 := manyB h k; omega
    · rw [if_neg c]; omega
  · have h4 := h2 k (by have := h.d4; omega)
    rw [many_in hk] at h4
    exact h4
set_option maxHeartbeats 8000000 in
set_option maxRecDepth 100000 in
theorem r7_Index (hE : RE W0 r q ds ms rt) (h : RQ W0 r q ds y4 y5 pp X) (cm : Int) (at_ : Nat → Int) : Calls Tryz.prog 21 #[.pointer (some ⟨r, 0, none⟩), cellV cm at_] X fun e w' => e = .returned (.int .i64 (if rightB ms ds cm at_ then numK (fun k => many ds k) at_ cm 4 else -1)) ∧ Kept X w' := by
  obtain ⟨cb, hcb⟩ : ∃ x, x = X.heap.size := ⟨_, rfl⟩
  obtain ⟨W1, hW1⟩ : ∃ V, V = X.alloc (.cells #[.int .i64 cm, .int .i64 (at_ 0), .int .i64 (at_ 1), .int .i64 (at_ 2), .int .i64 (at_ 3)] 28) := ⟨_, rfl⟩
  have k1 : Kept X W1 := by rw [hW1]; exact (Kept.refl X).alloc _
  have HK1 := hidMk k1
  have HCC := hidMk (show ∀ Y, Kept W1 Y → _ from fun Y k => cell_box X cm at_ 28 hcb Y (by rw [← hW1]; exact k))
  have HRT := hidMk (show ∀ Y, Kept W1 Y → _ from fun Y k => ref6_Right (hE.rd.kept (h.kp.trans (k1.trans k))) hE.ct.d4 cm at_)
  have HC0 := hidMk (show ∀ Y, Kept W1 Y → Y.cell? ⟨r, 0, none⟩ = some (.pointer (some ⟨q, 0, none⟩)) from fun Y k => (k1.trans k).cellp h.c0)
  obtain ⟨tb, tc, ma, mc, hg⟩ := hE.get
  have HGT := hidMk (show ∀ Y, Kept W1 Y → _ from fun Y k => hg Y (h.kp.trans (k1.trans k)))
  have hd4 := hE.ct.d4
  have HRL := hidMk (fun hr => right_le hE.ct (cm := cm) (at_ := at_) hr)
  have HST := hidMk (show rightB ms ds cm at_ = true → ∀ k, k < 4 → _ from fun hr k hk => numK_step (f := fun k => (many ds k : Int)) (a := atc at_) (right_le hE.ct hr).1 (fun k => manyB hE.ct k) (right_le hE.ct hr).2.1 hk)
  have HFN := hidMk (show rightB ms ds cm at_ = true → numK (fun k => (many ds k : Int)) (atc at_) cm ds.length = numK (fun k => (many ds k : Int)) at_ cm 4 from fun hr => by
    rw [← atc_num]
    refine numK_out hd4 (fun k hk => by show (many ds k : Int) = 1; rw [many_out (by omega)]; rfl) (fun k hk hk4 => ?_)
    have h1 := (right_iff.1 hr).2 k hk4
    rw [many_out (by omega)] at h1
    unfold atc
    rw [if_pos hk4]
    omega)
  obtain ⟨z, HZ⟩ : ∃ z, Hid (z = (if rightB ms ds cm at_ then numK (fun k => many ds k) at_ cm 4 else -1)) := ⟨_, hidMk rfl⟩
  rw [← HZ.out]
  obtain ⟨D, hD⟩ : ∃ D, D = ds.length := ⟨_, rfl⟩
  rw [← hD] at hd4
  have HDD := hidMk hD
  unfold cellV at *
  clear hg hE h k1 hD
  go_enter Tryz.func21, Tryz.ntmps21
  go_upto_region 1 with fail
  rw [← hW1, ← hcb]
  clear hW1 hcb
  refine wp_region_held_drew (S := (fun w' => Kept W1 w')) (by kernel_rfl) ?_ (fun hHeld => ?_)
  · exact (Kept.refl W1).drew
  refine wpAnyH_take (i := 0) (oi := { dst := some 7, op := _, type := _, pos := _, after := _, guard := _ }) (v := ?_) rfl (by kernel_rfl) (by kernel_rfl) (by kernel_rfl) (fun _ _ _ h => h) (Or.inl ⟨by rfl, ?_⟩) (by assumption) ?_
  rotate_left
  · (intro w9 hSw; have c0 := HC0.out w9 hSw; obtain ⟨⟨e0, e1, e2, e3, e4⟩, _⟩ := HCC.out w9 hSw; clear hSw; go_simp; (try with_reducible rfl))
  (try simp only [Act.put, List.setIfInBounds_toArray, List.set_cons_zero, List.set_cons_succ])
  refine wpAnyH_take (i := 1) (oi := { dst := some 8, op := _, type := _, pos := _, after := _, guard := _ }) (v := ?_) rfl (by kernel_rfl) (by kernel_rfl) (by kernel_rfl) (fun _ _ _ h => h) (Or.inl ⟨by rfl, ?_⟩) (by assumption) ?_
  rotate_left
  · (intro w9 hSw; have c0 := HC0.out w9 hSw; obtain ⟨⟨e0, e1, e2, e3, e4⟩, _⟩ := HCC.out w9 hSw; clear hSw; go_simp; (try with_reducible rfl))
  (try simp only [Act.put, List.setIfInBounds_toArray, List.set_cons_zero, List.set_cons_succ])
  refine wpAnyH_take (i := 2) (oi := { dst := some 9, op := _, type := _, pos := _, after := _, guard := _ }) (v := ?_) rfl (by kernel_rfl) (by kernel_rfl) (by kernel_rfl) (fun _ _ _ h => h) (Or.inl ⟨by rfl, ?_⟩) (by assumption) ?_
  rotate_left
  · (intro w9 hSw; have c0 := HC0.out w9 hSw; obtain ⟨⟨e0, e1, e2, e3, e4⟩, _⟩ := HCC.out w9 hSw; clear hSw; go_simp; (try with_reducible rfl))
  (try simp only [Act.put, List.setIfInBounds_toArray, List.set_cons_zero, List.set_cons_succ])
  refine wpAnyH_take (i := 3) (oi := { dst := some 10, op := _, type := _, pos := _, after := _, guard := _ }) (v := ?_) rfl (by kernel_rfl) (by kernel_rfl) (by kernel_rfl) (fun _ _ _ h => h) (Or.inl ⟨by rfl, ?_⟩) (by assumption) ?_
  rotate_left
  · (intro w9 hSw; have c0 := HC0.out w9 hSw; obtain ⟨⟨e0, e1, e2, e3, e4⟩, _⟩ := HCC.out w9 hSw; clear hSw; go_simp; (try with_reducible rfl))
  (try simp only [Act.put, List.setIfInBounds_toArray, List.set_cons_zero, List.set_cons_succ])
  refine wpAnyH_take (i := 4) (oi := { dst := some 11, op := _, type := _, pos := _, after := _, guard := _ }) (v := ?_) rfl (by kernel_rfl) (by kernel_rfl) (by kernel_rfl) (fun _ _ _ h => h) (Or.inl ⟨by rfl, ?_⟩) (by assumption) ?_
  rotate_left
  · (intro w9 hSw; have c0 := HC0.out w9 hSw; obtain ⟨⟨e0, e1, e2, e3, e4⟩, _⟩ := HCC.out w9 hSw; clear hSw; go_simp; (try with_reducible rfl))
  (try simp only [Act.put, List.setIfInBounds_toArray, List.set_cons_zero, List.set_cons_succ])
  refine wpAnyH_ready (rs := [5]) (by kernel_rfl) (by simp) ?_
  refine AllReadyH.cons (o := { dst := some 12, op := _, type := _, pos := _, after := _, guard := _ }) rfl (fun K hK => ?_) AllReadyH.nil
  go_simp
  refine (HRT.out _ hHeld).mono ?_
  rintro e wR ⟨rfl, kR⟩
  have HKR := hidMk (hHeld.trans kR)
  clear kR
  (try go_wp2_with fail)
  refine hK.out _ _ ?_ (fun hHeld => ?_)
  · exact HKR.out
  clear hK K
  (try simp only [Act.put, List.setIfInBounds_toArray, List.set_cons_zero, List.set_cons_succ])
  refine wpAnyH_take (i := 6) (oi := { dst := some 13, op := _, type := _, pos := _, after := _, guard := _ }) (v := ?_) rfl (by kernel_rfl) (by kernel_rfl) (by kernel_rfl) (fun _ _ _ h => h) (Or.inl ⟨by rfl, ?_⟩) (by assumption) ?_
  rotate_left
  · (intro w9 hSw; have c0 := HC0.out w9 hSw; obtain ⟨⟨e0, e1, e2, e3, e4⟩, _⟩ := HCC.out w9 hSw; clear hSw; go_simp; (try with_reducible rfl))
  (try simp only [Act.put, List.setIfInBounds_toArray, List.set_cons_zero, List.set_cons_succ])
  refine wpAnyH_done (by kernel_rfl) ?_ _
  clear hHeld
  cases hr : rightB ms ds cm at_ with
  | false =>
    go_wp2_with fail
    go_ret
    have := HZ.out
    rw [hr] at this
    rw [this]
    exact ⟨rfl, HK1.out.trans HKR.out⟩
  | true =>
    have HRB := hidMk (HRL.out hr)
    have HS2 := hidMk (HST.out hr)
    have HF2 := hidMk (HFN.out hr)
    obtain ⟨nk, hnk⟩ : ∃ nk : Nat → Int, nk = numK (fun k => (many ds k : Int)) (atc at_) cm := ⟨_, rfl⟩
    rw [← hnk] at HS2 HF2
    have HN0 := hidMk (show nk 0 = cm from by rw [hnk]; rfl)
    clear hnk HRL HST HFN HRT
    have c0 := HC0.out wR HKR.out
    obtain ⟨⟨e0, _⟩, _⟩ := HCC.out wR HKR.out
    go_wp2_with fail
    go_loopg [5, 6] (D + 1) (fun gg s x wr => ∃ i : Nat, i + gg = D + 1 ∧ i ≤ D ∧ s = .int .i64 (nk i) ∧ x = .int .i64 i ∧ Hid (Kept W1 wr))
    case atStart => exact ⟨0, by omega, by omega, by rw [HN0.out], rfl, HKR⟩
    case round =>
      clear HKR c0 e0
      obtain ⟨i, hig, hiD, rfl, rfl, HS⟩ := hrel
      have HG := hidMk hig
      clear hig
      have c0 := HC0.out wr HS.out
      have q4 := (HGT.out wr HS.out).1
      rw [← HDD.out] at q4
      by_cases hi : i < D
      · have hi' : (i : Int) < (D : Int) := by omega
        have hi4 : (i : Int) < 4 := by omega
        have hid : i < ds.length := by have := HDD.out; omega
        have HTE := hidMk (show ∀ Y, Kept W1 Y → Y.cell? ⟨tb, i, none⟩ = some (.pointer (some ⟨rt i, 0, none⟩)) from fun Y k => ((HGT.out Y k).2.2 i hid).1)
        have HTQ := hidMk (show ∀ Y, Kept W1 Y → Y.cell? ⟨q, 4, none⟩ = some (.slice (some ⟨tb, 0, none⟩) D tc) from fun Y k => by rw [HDD.out]; exact (HGT.out Y k).1)
        obtain ⟨b5, c5, hc5⟩ := ((HGT.out wr HS.out).2.2 i hid).2
        have HLC := hidMk (show ∀ Y, Kept wr Y → Y.cell? ⟨rt i, 0, none⟩ = some (.slice (some ⟨b5, 0, none⟩) (dmL ds i).length c5) from fun Y k => k.cellp hc5)
        have HAJ := hidMk (show ∀ Y, Kept W1 Y → Y.cell? ⟨cb, 1 + i, none⟩ = some (.int .i64 (at_ i)) from fun Y k => (HCC.out Y k).2 i (by omega))
        obtain ⟨s1, s2⟩ := HS2.out i (by omega)
        rw [show atc at_ i = at_ i from if_pos (by omega)] at s2
        rw [many_in hid] at s1 s2
        obtain ⟨ni1, hni1⟩ : ∃ z, z = nk (i + 1) := ⟨_, rfl⟩
        rw [← hni1] at s2
        have HNI := hidMk hni1
        clear hni1 hc5
        generalize (dmL ds i).length = n5 at *
        generalize nk i = ni at *
        generalize at_ i = ai at HAJ s2
        go_upto_region 7 with fail
        clear c0 q4
        refine wp_region_held_drew (S := (fun w' => Kept wr w')) (by kernel_rfl) ?_ (fun hHeld => ?_)
        · exact (Kept.refl wr).drew
        refine wpAnyH_take (i := 0) (oi := { dst := some 28, op := _, type := _, pos := _, after := _, guard := _ }) (v := ?_) rfl (by kernel_rfl) (by kernel_rfl) (by kernel_rfl) (fun _ _ _ h => h) (Or.inl ⟨by rfl, ?_⟩) (by assumption) ?_
        rotate_left
        · (intro w9 hSw; have k9 := HS.out.trans hSw; have c0 := HC0.out w9 k9; have te := HTE.out w9 k9; have tq := HTQ.out w9 k9; have lc := HLC.out w9 hSw; have aj := HAJ.out w9 k9; clear hSw k9; go_simp; (try with_reducible rfl))
        (try simp only [Act.put, List.setIfInBounds_toArray, List.set_cons_zero, List.set_cons_succ])
        refine wpAnyH_take (i := 1) (oi := { dst := some 29, op := _, type := _, pos := _, after := _, guard := _ }) (v := ?_) rfl (by kernel_rfl) (by kernel_rfl) (by kernel_rfl) (fun _ _ _ h => h) (Or.inl ⟨by rfl, ?_⟩) (by assumption) ?_
        rotate_left
        · (intro w9 hSw; have k9 := HS.out.trans hSw; have c0 := HC0.out w9 k9; have te := HTE.out w9 k9; have tq := HTQ.out w9 k9; have lc := HLC.out w9 hSw; have aj := HAJ.out w9 k9; clear hSw k9; go_simp; (try with_reducible rfl))
        (try simp only [Act.put, List.setIfInBounds_toArray, List.set_cons_zero, List.set_cons_succ])
        refine wpAnyH_take (i := 2) (oi := { dst := some 30, op := _, type := _, pos := _, after := _, guard := _ }) (v := ?_) rfl (by kernel_rfl) (by kernel_rfl) (by kernel_rfl) (fun _ _ _ h => h) (Or.inl ⟨by rfl, ?_⟩) (by assumption) ?_
        rotate_left
        · (intro w9 hSw; have k9 := HS.out.trans hSw; have c0 := HC0.out w9 k9; have te := HTE.out w9 k9; have tq := HTQ.out w9 k9; have lc := HLC.out w9 hSw; have aj := HAJ.out w9 k9; clear hSw k9; go_simp; (try with_reducible rfl))
        (try simp only [Act.put, List.setIfInBounds_toArray, List.set_cons_zero, List.set_cons_succ])
        refine wpAnyH_take (i := 3) (oi := { dst := some 31, op := _, type := _, pos := _, after := _, guard := _ }) (v := ?_) rfl (by kernel_rfl) (by kernel_rfl) (by kernel_rfl) (fun _ _ _ h => h) (Or.inl ⟨by rfl, ?_⟩) (by assumption) ?_
        rotate_left
        · (intro w9 hSw; have k9 := HS.out.trans hSw; have c0 := HC0.out w9 k9; have te := HTE.out w9 k9; have tq := HTQ.out w9 k9; have lc := HLC.out w9 hSw; have aj := HAJ.out w9 k9; clear hSw k9; go_simp; (try with_reducible rfl))
        (try simp only [Act.put, List.setIfInBounds_toArray, List.set_cons_zero, List.set_cons_succ])
        refine wpAnyH_take (i := 4) (oi := { dst := some 32, op := _, type := _, pos := _, after := _, guard := _ }) (v := ?_) rfl (by kernel_rfl) (by kernel_rfl) (by kernel_rfl) (fun _ _ _ h => h) (Or.inl ⟨by rfl, ?_⟩) (by assumption) ?_
        rotate_left
        · (intro w9 hSw; have k9 := HS.out.trans hSw; have c0 := HC0.out w9 k9; have te := HTE.out w9 k9; have tq := HTQ.out w9 k9; have lc := HLC.out w9 hSw; have aj := HAJ.out w9 k9; clear hSw k9; go_simp; (try with_reducible rfl))
        (try simp only [Act.put, List.setIfInBounds_toArray, List.set_cons_zero, List.set_cons_succ])
        refine wpAnyH_take (i := 5) (oi := { dst := some 33, op := _, type := _, pos := _, after := _, guard := _ }) (v := ?_) rfl (by kernel_rfl) (by kernel_rfl) (by kernel_rfl) (fun _ _ _ h => h) (Or.inl ⟨by rfl, ?_⟩) (by assumption) ?_
        rotate_left
        · (intro w9 hSw; have k9 := HS.out.trans hSw; have c0 := HC0.out w9 k9; have te := HTE.out w9 k9; have tq := HTQ.out w9 k9; have lc := HLC.out w9 hSw; have aj := HAJ.out w9 k9; clear hSw k9; go_simp; (try with_reducible rfl))
        (try simp only [Act.put, List.setIfInBounds_toArray, List.set_cons_zero, List.set_cons_succ])
        refine wpAnyH_take (i := 6) (oi := { dst := some 34, op := _, type := _, pos := _, after := _, guard := _ }) (v := ?_) rfl (by kernel_rfl) (by kernel_rfl) (by kernel_rfl) (fun _ _ _ h => h) (Or.inl ⟨by rfl, ?_⟩) (by assumption) ?_
        rotate_left
        · (intro w9 hSw; have k9 := HS.out.trans hSw; have c0 := HC0.out w9 k9; have te := HTE.out w9 k9; have tq := HTQ.out w9 k9; have lc := HLC.out w9 hSw; have aj := HAJ.out w9 k9; clear hSw k9; go_simp; (try with_reducible rfl))
        (try simp only [Act.put, List.setIfInBounds_toArray, List.set_cons_zero, List.set_cons_succ])
        refine wpAnyH_take (i := 7) (oi := { dst := some 35, op := _, type := _, pos := _, after := _, guard := _ }) (v := ?_) rfl (by kernel_rfl) (by kernel_rfl) (by kernel_rfl) (fun _ _ _ h => h) (Or.inl ⟨by rfl, ?_⟩) (by assumption) ?_
        rotate_left
        · (intro w9 hSw; have k9 := HS.out.trans hSw; have c0 := HC0.out w9 k9; have te := HTE.out w9 k9; have tq := HTQ.out w9 k9; have lc := HLC.out w9 hSw; have aj := HAJ.out w9 k9; clear hSw k9; go_simp; (try with_reducible rfl))
        (try simp only [Act.put, List.setIfInBounds_toArray, List.set_cons_zero, List.set_cons_succ])
        refine wpAnyH_take (i := 8) (oi := { dst := some 36, op := _, type := _, pos := _, after := _, guard := _ }) (v := ?_) rfl (by kernel_rfl) (by kernel_rfl) (by kernel_rfl) (fun _ _ _ h => h) (Or.inl ⟨by rfl, ?_⟩) (by assumption) ?_
        rotate_left
        · (intro w9 hSw; have k9 := HS.out.trans hSw; have c0 := HC0.out w9 k9; have te := HTE.out w9 k9; have tq := HTQ.out w9 k9; have lc := HLC.out w9 hSw; have aj := HAJ.out w9 k9; clear hSw k9; go_simp; (try with_reducible rfl))
        (try simp only [Act.put, List.setIfInBounds_toArray, List.set_cons_zero, List.set_cons_succ])
        refine wpAnyH_take (i := 9) (oi := { dst := some 37, op := _, type := _, pos := _, after := _, guard := _ }) (v := ?_) rfl (by kernel_rfl) (by kernel_rfl) (by kernel_rfl) (fun _ _ _ h => h) (Or.inl ⟨by rfl, ?_⟩) (by assumption) ?_
        rotate_left
        · (intro w9 hSw; have k9 := HS.out.trans hSw; have c0 := HC0.out w9 k9; have te := HTE.out w9 k9; have tq := HTQ.out w9 k9; have lc := HLC.out w9 hSw; have aj := HAJ.out w9 k9; clear hSw k9; go_simp; (try with_reducible rfl))
        (try simp only [Act.put, List.setIfInBounds_toArray, List.set_cons_zero, List.set_cons_succ])
        refine wpAnyH_take (i := 10) (oi := { dst := some 38, op := _, type := _, pos := _, after := _, guard := _ }) (v := ?_) rfl (by kernel_rfl) (by kernel_rfl) (by kernel_rfl) (fun _ _ _ h => h) (Or.inl ⟨by rfl, ?_⟩) (by assumption) ?_
        rotate_left
        · (intro w9 hSw; have k9 := HS.out.trans hSw; have c0 := HC0.out w9 k9; have te := HTE.out w9 k9; have tq := HTQ.out w9 k9; have lc := HLC.out w9 hSw; have aj := HAJ.out w9 k9; clear hSw k9; go_simp; (try with_reducible rfl))
        (try simp only [Act.put, List.setIfInBounds_toArray, List.set_cons_zero, List.set_cons_succ])
        refine wpAnyH_take (i := 11) (oi := { dst := some 39, op := _, type := _, pos := _, after := _, guard := _ }) (v := ?_) rfl (by kernel_rfl) (by kernel_rfl) (by kernel_rfl) (fun _ _ _ h => h) (Or.inl ⟨by rfl, ?_⟩) (by assumption) ?_
        rotate_left
        · (intro w9 hSw; have k9 := HS.out.trans hSw; have c0 := HC0.out w9 k9; have te := HTE.out w9 k9; have tq := HTQ.out w9 k9; have lc := HLC.out w9 hSw; have aj := HAJ.out w9 k9; clear hSw k9; go_simp; (try with_reducible rfl))
        (try simp only [Act.put, List.setIfInBounds_toArray, List.set_cons_zero, List.set_cons_succ])
        refine wpAnyH_take (i := 12) (oi := { dst := some 40, op := _, type := _, pos := _, after := _, guard := _ }) (v := ?_) rfl (by kernel_rfl) (by kernel_rfl) (by kernel_rfl) (fun _ _ _ h => h) (Or.inl ⟨by rfl, ?_⟩) (by assumption) ?_
        rotate_left
        · (intro w9 hSw; have k9 := HS.out.trans hSw; have c0 := HC0.out w9 k9; have te := HTE.out w9 k9; have tq := HTQ.out w9 k9; have lc := HLC.out w9 hSw; have aj := HAJ.out w9 k9; clear hSw k9; go_simp; (try with_reducible rfl))
        (try simp only [Act.put, List.setIfInBounds_toArray, List.set_cons_zero, List.set_cons_succ])
        refine wpAnyH_take (i := 13) (oi := { dst := some 41, op := _, type := _, pos := _, after := _, guard := _ }) (v := ?_) rfl (by kernel_rfl) (by kernel_rfl) (by kernel_rfl) (fun _ _ _ h => h) (Or.inl ⟨by rfl, ?_⟩) (by assumption) ?_
        rotate_left
        · (intro w9 hSw; have k9 := HS.out.trans hSw; have c0 := HC0.out w9 k9; have te := HTE.out w9 k9; have tq := HTQ.out w9 k9; have lc := HLC.out w9 hSw; have aj := HAJ.out w9 k9; clear hSw k9; go_simp; (try with_reducible rfl))
        (try simp only [Act.put, List.setIfInBounds_toArray, List.set_cons_zero, List.set_cons_succ])
        refine wpAnyH_take (i := 14) (oi := { dst := some 42, op := _, type := _, pos := _, after := _, guard := _ }) (v := ?_) rfl (by kernel_rfl) (by kernel_rfl) (by kernel_rfl) (fun _ _ _ h => h) (Or.inl ⟨by rfl, ?_⟩) (by assumption) ?_
        rotate_left
        · (intro w9 hSw; have k9 := HS.out.trans hSw; have c0 := HC0.out w9 k9; have te := HTE.out w9 k9; have tq := HTQ.out w9 k9; have lc := HLC.out w9 hSw; have aj := HAJ.out w9 k9; clear hSw k9; go_simp; (try with_reducible rfl))
        (try simp only [Act.put, List.setIfInBounds_toArray, List.set_cons_zero, List.set_cons_succ])
        refine wpAnyH_take (i := 15) (oi := { dst := some 43, op := _, type := _, pos := _, after := _, guard := _ }) (v := ?_) rfl (by kernel_rfl) (by kernel_rfl) (by kernel_rfl) (fun _ _ _ h => h) (Or.inl ⟨by rfl, ?_⟩) (by assumption) ?_
        rotate_left
        · (intro w9 hSw; have k9 := HS.out.trans hSw; have c0 := HC0.out w9 k9; have te := HTE.out w9 k9; have tq := HTQ.out w9 k9; have lc := HLC.out w9 hSw; have aj := HAJ.out w9 k9; clear hSw k9; go_simp; (try with_reducible rfl))
        (try simp only [Act.put, List.setIfInBounds_toArray, List.set_cons_zero, List.set_cons_succ])
        refine wpAnyH_take (i := 16) (oi := { dst := some 44, op := _, type := _, pos := _, after := _, guard := _ }) (v := ?_) rfl (by kernel_rfl) (by kernel_rfl) (by kernel_rfl) (fun _ _ _ h => h) (Or.inl ⟨by rfl, ?_⟩) (by assumption) ?_
        rotate_left
        · (intro w9 hSw; have k9 := HS.out.trans hSw; have c0 := HC0.out w9 k9; have te := HTE.out w9 k9; have tq := HTQ.out w9 k9; have lc := HLC.out w9 hSw; have aj := HAJ.out w9 k9; clear hSw k9; go_simp; (try with_reducible rfl))
        (try simp only [Act.put, List.setIfInBounds_toArray, List.set_cons_zero, List.set_cons_succ])
        refine wpAnyH_take (i := 17) (oi := { dst := some 45, op := _, type := _, pos := _, after := _, guard := _ }) (v := ?_) rfl (by kernel_rfl) (by kernel_rfl) (by kernel_rfl) (fun _ _ _ h => h) (Or.inl ⟨by rfl, ?_⟩) (by assumption) ?_
        rotate_left
        · (intro w9 hSw; have k9 := HS.out.trans hSw; have c0 := HC0.out w9 k9; have te := HTE.out w9 k9; have tq := HTQ.out w9 k9; have lc := HLC.out w9 hSw; have aj := HAJ.out w9 k9; clear hSw k9; go_simp; (try with_reducible rfl))
        (try simp only [Act.put, List.setIfInBounds_toArray, List.set_cons_zero, List.set_cons_succ])
        refine wpAnyH_take (i := 18) (oi := { dst := some 46, op := _, type := _, pos := _, after := _, guard := _ }) (v := ?_) rfl (by kernel_rfl) (by kernel_rfl) (by kernel_rfl) (fun _ _ _ h => h) (Or.inl ⟨by rfl, ?_⟩) (by assumption) ?_
        rotate_left
        · (intro w9 hSw; have k9 := HS.out.trans hSw; have c0 := HC0.out w9 k9; have te := HTE.out w9 k9; have tq := HTQ.out w9 k9; have lc := HLC.out w9 hSw; have aj := HAJ.out w9 k9; clear hSw k9; go_simp; (try with_reducible rfl))
        (try simp only [Act.put, List.setIfInBounds_toArray, List.set_cons_zero, List.set_cons_succ])
        refine wpAnyH_take (i := 19) (oi := { dst := some 47, op := _, type := _, pos := _, after := _, guard := _ }) (v := ?_) rfl (by kernel_rfl) (by kernel_rfl) (by kernel_rfl) (fun _ _ _ h => h) (Or.inl ⟨by rfl, ?_⟩) (by assumption) ?_
        rotate_left
        · (intro w9 hSw; have k9 := HS.out.trans hSw; have c0 := HC0.out w9 k9; have te := HTE.out w9 k9; have tq := HTQ.out w9 k9; have lc := HLC.out w9 hSw; have aj := HAJ.out w9 k9; clear hSw k9; go_simp; (try with_reducible rfl))
        (try simp only [Act.put, List.setIfInBounds_toArray, List.set_cons_zero, List.set_cons_succ])
        refine wpAnyH_take (i := 20) (oi := { dst := some 48, op := _, type := _, pos := _, after := _, guard := _ }) (v := ?_) rfl (by kernel_rfl) (by kernel_rfl) (by kernel_rfl) (fun _ _ _ h => h) (Or.inl ⟨by rfl, ?_⟩) (by assumption) ?_
        rotate_left
        · (intro w9 hSw; have k9 := HS.out.trans hSw; have c0 := HC0.out w9 k9; have te := HTE.out w9 k9; have tq := HTQ.out w9 k9; have lc := HLC.out w9 hSw; have aj := HAJ.out w9 k9; clear hSw k9; go_simp; (try with_reducible rfl))
        (try simp only [Act.put, List.setIfInBounds_toArray, List.set_cons_zero, List.set_cons_succ])
        refine wpAnyH_take (i := 21) (oi := { dst := some 5, op := _, type := _, pos := _, after := _, guard := _ }) (v := ?_) rfl (by kernel_rfl) (by kernel_rfl) (by kernel_rfl) (fun _ _ _ h => h) (Or.inl ⟨by rfl, ?_⟩) (by assumption) ?_
        rotate_left
        · (intro w9 hSw; have k9 := HS.out.trans hSw; have c0 := HC0.out w9 k9; have te := HTE.out w9 k9; have tq := HTQ.out w9 k9; have lc := HLC.out w9 hSw; have aj := HAJ.out w9 k9; clear hSw k9; go_simp; (try with_reducible rfl))
        (try simp only [Act.put, List.setIfInBounds_toArray, List.set_cons_zero, List.set_cons_succ])
        refine wpAnyH_done (by kernel_rfl) ?_ _
        clear hHeld
        go_wp2_with fail
        go_roundg (gk - 1)
        case measure => have := HG.out; omega
        case rel => exact ⟨i + 1, by have := HG.out; omega, by omega, by rw [← HNI.out, wrapI, wrapI, s1, s2], by go_num, hidMk HS.out.drew⟩
      · have hie : i = D := by omega
        subst hie
        have hi' : ¬ ((i : Int) < (i : Int)) := by omega
        go_wp2_with fail
        go_ret
        have hz := HZ.out
        rw [hr, if_pos rfl, ← HF2.out, ← HDD.out] at hz
        rw [hz]
        exact ⟨rfl, HK1.out.trans HS.out⟩
theorem rank_neg {l : List Nd} {i : Int} (hi : 0 ≤ i ∧ i < l.length) : rankI l i < 0 ↔ leafI l i = false := by
  unfold rankI leafI
  have hp : isP l i := hi
  cases hl : leafB l i.toNat with
  | true => rw [if_pos ⟨hp, rfl⟩]; simp [hp]
  | false => simp
theorem rank_le {l : List Nd} (i : Int) : -1 ≤ rankI l i ∧ rankI l i ≤ (lvsN l).length := by
  unfold rankI
  split
  · have : rnk l i.toNat ≤ (lvsN l).length := List.findIdx_le_length
    omega
  · omega
set_option maxHeartbeats 8000000 in
set_option maxRecDepth 100000 in
theorem r7_Code (hE : RE W0 r q ds ms rt) (h : RQ W0 r q ds y4 y5 pp X) (cm : Int) (at_ : Nat → Int) : Calls Tryz.prog 19 #[.pointer (some ⟨r, 0, none⟩), cellV cm at_] X (RP W0 r q ds y4 y5 pp X (.int .i64 (codeI ms ds cm at_))) := by
  obtain ⟨cb, hcb⟩ : ∃ x, x = X.heap.size := ⟨_, rfl⟩
  obtain ⟨W1, hW1⟩ : ∃ V, V = X.alloc (.cells #[.int .i64 cm, .int .i64 (at_ 0), .int .i64 (at_ 1), .int .i64 (at_ 2), .int .i64 (at_ 3)] 28) := ⟨_, rfl⟩
  have k1 : Kept X W1 := by rw [hW1]; exact (Kept.refl X).alloc _
  have HK1 := hidMk k1
  have HCC := hidMk (show ∀ Y, Kept W1 Y → _ from fun Y k => cell_box X cm at_ 28 hcb Y (by rw [← hW1]; exact k))
  have HNR := hidMk (show cb ≠ r ∧ cb < W1.heap.size from ⟨by have := h.lt; omega, by have := (HCC.out W1 (Kept.refl _)).1.1; exact cell_lt this⟩)
  have HRT := hidMk (show ∀ Y, Kept W1 Y → _ from fun Y k => ref6_Right (hE.rd.kept (h.kp.trans (k1.trans k))) hE.ct.d4 cm at_)
  have HC0 := hidMk (show ∀ Y, Kept W1 Y → Y.cell? ⟨r, 0, none⟩ = some (.pointer (some ⟨q, 0, none⟩)) from fun Y k => (k1.trans k).cellp h.c0)
  have HQ := hidMk h
  have HE := hidMk hE
  obtain ⟨tb, tc, ma, mc, hg⟩ := hE.get
  have HGT := hidMk hg
  have hd4 := hE.ct.d4
  obtain ⟨z, HZ⟩ : ∃ z, Hid (z = codeI ms ds cm at_) := ⟨_, hidMk rfl⟩
  rw [← HZ.out]
  obtain ⟨D, hD⟩ : ∃ D, D = ds.length := ⟨_, rfl⟩
  rw [← hD] at hd4
  have HDD := hidMk hD
  unfold cellV at *
  clear hg hE h k1 hD
  go_enter Tryz.func19, Tryz.ntmps19
  go_upto_region 1 with fail
  rw [← hW1, ← hcb]
  clear hW1 hcb
  refine wp_region_held_drew (S := (fun w' => Kept W1 w')) (by kernel_rfl) ?_ (fun hHeld => ?_)
  · exact (Kept.refl W1).drew
  refine wpAnyH_take (i := 0) (oi := { dst := some 8, op := _, type := _, pos := _, after := _, guard := _ }) (v := ?_) rfl (by kernel_rfl) (by kernel_rfl) (by kernel_rfl) (fun _ _ _ h => h) (Or.inl ⟨by rfl, ?_⟩) (by assumption) ?_
  rotate_left
  · (intro w9 hSw; have c0 := HC0.out w9 hSw; obtain ⟨⟨e0, e1, e2, e3, e4⟩, _⟩ := HCC.out w9 hSw; clear hSw; go_simp; (try with_reducible rfl))
  (try simp only [Act.put, List.setIfInBounds_toArray, List.set_cons_zero, List.set_cons_succ])
  refine wpAnyH_take (i := 1) (oi := { dst := some 9, op := _, type := _, pos := _, after := _, guard := _ }) (v := ?_) rfl (by kernel_rfl) (by kernel_rfl) (by kernel_rfl) (fun _ _ _ h => h) (Or.inl ⟨by rfl, ?_⟩) (by assumption) ?_
  rotate_left
  · (intro w9 hSw; have c0 := HC0.out w9 hSw; obtain ⟨⟨e0, e1, e2, e3, e4⟩, _⟩ := HCC.out w9 hSw; clear hSw; go_simp; (try with_reducible rfl))
  (try simp only [Act.put, List.setIfInBounds_toArray, List.set_cons_zero, List.set_cons_succ])
  refine wpAnyH_take (i := 2) (oi := { dst := some 10, op := _, type := _, pos := _, after := _, guard := _ }) (v := ?_) rfl (by kernel_rfl) (by kernel_rfl) (by kernel_rfl) (fun _ _ _ h => h) (Or.inl ⟨by rfl, ?_⟩) (by assumption) ?_
  rotate_left
  · (intro w9 hSw; have c0 := HC0.out w9 hSw; obtain ⟨⟨e0, e1, e2, e3, e4⟩, _⟩ := HCC.out w9 hSw; clear hSw; go_simp; (try with_reducible rfl))
  (try simp only [Act.put, List.setIfInBounds_toArray, List.set_cons_zero, List.set_cons_succ])
  refine wpAnyH_take (i := 3) (oi := { dst := some 11, op := _, type := _, pos := _, after := _, guard := _ }) (v := ?_) rfl (by kernel_rfl) (by kernel_rfl) (by kernel_rfl) (fun _ _ _ h => h) (Or.inl ⟨by rfl, ?_⟩) (by assumption) ?_
  rotate_left
  · (intro w9 hSw; have c0 := HC0.out w9 hSw; obtain ⟨⟨e0, e1, e2, e3, e4⟩, _⟩ := HCC.out w9 hSw; clear hSw; go_simp; (try with_reducible rfl))
  (try simp only [Act.put, List.setIfInBounds_toArray, List.set_cons_zero, List.set_cons_succ])
  refine wpAnyH_take (i := 4) (oi := { dst := some 12, op := _, type := _, pos := _, after := _, guard := _ }) (v := ?_) rfl (by kernel_rfl) (by kernel_rfl) (by kernel_rfl) (fun _ _ _ h => h) (Or.inl ⟨by rfl, ?_⟩) (by assumption) ?_
  rotate_left
  · (intro w9 hSw; have c0 := HC0.out w9 hSw; obtain ⟨⟨e0, e1, e2, e3, e4⟩, _⟩ := HCC.out w9 hSw; clear hSw; go_simp; (try with_reducible rfl))
  (try simp only [Act.put, List.setIfInBounds_toArray, List.set_cons_zero, List.set_cons_succ])
  refine wpAnyH_ready (rs := [5]) (by kernel_rfl) (by simp) ?_
  refine AllReadyH.cons (o := { dst := some 13, op := _, type := _, pos := _, after := _, guard := _ }) rfl (fun K hK => ?_) AllReadyH.nil
  go_simp
  refine (HRT.out _ hHeld).mono ?_
  rintro e wR ⟨rfl, kR⟩
  have HKR := hidMk (hHeld.trans kR)
  clear kR
  (try go_wp2_with fail)
  refine hK.out _ _ ?_ (fun hHeld => ?_)
  · exact HKR.out
  clear hK K
  (try simp only [Act.put, List.setIfInBounds_toArray, List.set_cons_zero, List.set_cons_succ])
  refine wpAnyH_take (i := 6) (oi := { dst := some 14, op := _, type := _, pos := _, after := _, guard := _ }) (v := ?_) rfl (by kernel_rfl) (by kernel_rfl) (by kernel_rfl) (fun _ _ _ h => h) (Or.inl ⟨by rfl, ?_⟩) (by assumption) ?_
  rotate_left
  · (intro w9 hSw; have c0 := HC0.out w9 hSw; obtain ⟨⟨e0, e1, e2, e3, e4⟩, _⟩ := HCC.out w9 hSw; clear hSw; go_simp; (try with_reducible rfl))
  (try simp only [Act.put, List.setIfInBounds_toArray, List.set_cons_zero, List.set_cons_succ])
  refine wpAnyH_done (by kernel_rfl) ?_ _
  clear hHeld
  cases hr : rightB ms ds cm at_ with
  | false =>
    go_wp2_with fail
    go_ret
    have hz := HZ.out
    unfold codeI at hz
    rw [if_neg (fun e => by rw [hr] at e; cases e.1)] at hz
    rw [hz]
    exact ⟨rfl, HQ.out.rr (HK1.out.trans HKR.out)⟩
  | true =>
    obtain ⟨hcm, hatc, hin⟩ := right_le HE.out.ct hr
    have HIN := hidMk hin
    have HPP := hidMk (r7_prepare HE.out (HQ.out.keep (HK1.out.trans HKR.out)))
    clear hin HRT HC0
    go_wp2_with fail
    refine HPP.out.mono ?_
    rintro e w2 ⟨rfl, ⟨B2, H2, hq2, hnx⟩, hc2⟩
    have HQ2 := hidMk hq2
    have HNX := hidMk (hnx.le (HK1.out.trans HKR.out).size)
    clear hnx
    have HX2 := hidMk (show Chg (fun j => j = r) X w2 from (Chg.of_kept (HK1.out.trans HKR.out)).trans hc2)
    have HC2 := hidMk (show (w2.cell? ⟨cb, 0, none⟩ = some (.int .i64 cm)) ∧ ∀ j, j < 4 → w2.cell? ⟨cb, 1 + j, none⟩ = some (.int .i64 (at_ j)) from by
      obtain ⟨⟨e0, _⟩, ej⟩ := HCC.out wR HKR.out
      exact ⟨hc2.cellp e0 HNR.out.1, fun j hj => hc2.cellp (ej j hj) HNR.out.1⟩)
    have e0 := HC2.out.1
    obtain ⟨nk, hnk⟩ : ∃ nk : Nat → Int, nk = numK (fun k => (leas ds k : Int)) (rkF ds at_ ds.length) cm := ⟨_, rfl⟩
    have HNK := hidMk hnk
    have HN0 := hidMk (show nk 0 = cm from by rw [hnk]; rfl)
    clear hnk hq2 hc2 HPP HCC
    go_wp2_with fail
    go_loopg [5, 6] (D + 1) (fun gg s x wr => ∃ i : Nat, i + gg = D + 1 ∧ i ≤ D ∧ s = .int .i64 (nk i) ∧ x = .int .i64 i ∧ Hid (Kept w2 wr ∧ leavesB ds at_ i))
    case atStart => exact ⟨0, by omega, by omega, by rw [HN0.out], rfl, hidMk ⟨Kept.refl _, fun j hj => absurd hj (by omega)⟩⟩
    case round =>
      clear e0
      obtain ⟨i, hig, hiD, rfl, rfl, HS0⟩ := hrel
      have HG := hidMk hig
      clear hig
      have HS := hidMk HS0.out.1
      have HLB := hidMk HS0.out.2
      clear HS0
      have hqr := HQ2.out.keep HS.out
      have c0 := hqr.c0
      have q4 := (HGT.out wr hqr.kp).1
      rw [← HDD.out] at q4
      by_cases hi : i < D
      · have hi' : (i : Int) < (D : Int) := by omega
        have hi4 : (i : Int) < 4 := by omega
        have hid : i < ds.length := by have := HDD.out; omega
        obtain ⟨rg, rc, hr2, hrk⟩ := hqr.rank HE.out.ct.one HE.out.ct.d1
        obtain ⟨rg2, rc2, hrg, hri⟩ := hrk i hid
        obtain ⟨lg, lc, hl1, hlk⟩ := hqr.leaf HE.out.ct.d1
        obtain ⟨la, lc2, hlg, _⟩ := hlk i hid
        obtain ⟨ai, hai⟩ : ∃ a : Nat, at_ i = a := ⟨(at_ i).toNat, by have := HIN.out i hid; omega⟩
        have hail : ai < (dmL ds i).length := by have := HIN.out i hid; omega
        have hail' : (ai : Int) < ((dmL ds i).length : Int) := by omega
        have HR2 := hidMk (show wr.cell? ⟨r, 2, none⟩ = some (.slice (some ⟨rg, 0, none⟩) D rc) from by rw [HDD.out]; exact hr2)
        have HRG := hidMk hrg
        have HRI := hidMk (hri ai hail)
        have HAJ := hidMk (show wr.cell? ⟨cb, 1 + i, none⟩ = some (.int .i64 (ai : Nat)) from by rw [← hai]; exact HS.out.cellp (HC2.out.2 i (by omega)))
        have HL1 := hidMk (show wr.drew.cell? ⟨r, 1, none⟩ = some (.slice (some ⟨lg, 0, none⟩) D lc) from by rw [HDD.out]; exact ((Kept.refl wr).drew).cellp hl1)
        have HLG := hidMk (((Kept.refl wr).drew).cellp hlg)
        have HLV := hidMk (show rankI (dmL ds i) (ai : Nat) < 0 ↔ leafI (dmL ds i) (at_ i) = false from by rw [hai]; exact rank_neg (by omega))
        have HRE := hidMk (show rkF ds at_ ds.length i = rankI (dmL ds i) (ai : Nat) from by unfold rkF; rw [if_pos hid, hai])
        have HSX := hidMk (show ¬ rankI (dmL ds i) (ai : Nat) < 0 → ∀ (hb : leavesB ds at_ i), wrap64 (nk i * ((lvsN (dmL ds i)).length : Int)) = nk i * ((lvsN (dmL ds i)).length : Int) ∧ wrap64 (nk i * ((lvsN (dmL ds i)).length : Int) + rankI (dmL ds i) (ai : Nat)) = nk (i + 1) from fun hnn hb => by
          have e1 : nk i = numK (fun k => (leas ds k : Int)) (fun k => if k ≤ i then rkF ds at_ ds.length k else 0) cm i := by rw [HNK.out]; exact num_congr i (fun j hj => (if_pos (by omega)).symm)
          have e2 : nk (i + 1) = numK (fun k => (leas ds k : Int)) (fun k => if k ≤ i then rkF ds at_ ds.length k else 0) cm (i + 1) := by rw [HNK.out]; exact num_congr (i + 1) (fun j hj => (if_pos (by omega)).symm)
          have st := numK_step (f := fun k => (leas ds k : Int)) (a := fun k => if k ≤ i then rkF ds at_ ds.length k else 0) hcm (fun k => leasB HE.out.ct k) (fun k => by
            show 0 ≤ (if k ≤ i then rkF ds at_ ds.length k else 0) ∧ (if k ≤ i then rkF ds at_ ds.length k else 0) ≤ 1000
            by_cases c : k ≤ i
            · rw [if_pos c]
              have hkd : k < ds.length := by omega
              unfold rkF
              rw [if_pos hkd]
              have h1 := rank_le (l := dmL ds k) (at_ k)
              have h2 := lvs_len (HE.out.ct.tr k hkd)
              have h3 := HE.out.ct.le k hkd
              have h4 : ¬ rankI (dmL ds k) (at_ k) < 0 := by
                by_cases c2 : k = i
                · subst c2; rw [hai]; exact hnn
                · intro e
                  have := (rank_neg (HIN.out k hkd)).1 e
                  rw [hb k (by omega)] at this
                  cases this
              omega
            · rw [if_neg c]; omega) (k := i) (by omega)
          rw [← e1, ← e2] at st
          simp only [Nat.le_refl, if_true] at st
          rw [HRE.out, leas_in hid] at st
          exact st)
        clear hqr hr2 hrk hrg hri hl1 hlk hlg
        generalize hgr : rankI (dmL ds i) (ai : Nat) = rk at *
        generalize (dmL ds i).length = n5 at *
        generalize (lvsN (dmL ds i)).length = n6 at *
        obtain ⟨ni1, hni1⟩ : ∃ y, y = nk (i + 1) := ⟨_, rfl⟩
        rw [← hni1] at HSX
        have HNI := hidMk hni1
        clear hni1
        generalize nk i = ni at *
        go_upto_region 8 with fail
        clear c0 q4
        refine wp_region_held_drew (S := (fun w' => Kept wr w')) (by kernel_rfl) ?_ (fun hHeld => ?_)
        · exact (Kept.refl wr).drew
        refine wpAnyH_take (i := 0) (oi := { dst := some 31, op := _, type := _, pos := _, after := _, guard := _ }) (v := ?_) rfl (by kernel_rfl) (by kernel_rfl) (by kernel_rfl) (fun _ _ _ h => h) (Or.inl ⟨by rfl, ?_⟩) (by assumption) ?_
        rotate_left
        · (intro w9 hSw; have r2 := hSw.cellp HR2.out; have rg := hSw.cellp HRG.out; have ri := hSw.cellp HRI.out; have aj := hSw.cellp HAJ.out; clear hSw; go_simp; (try with_reducible rfl))
        (try simp only [Act.put, List.setIfInBounds_toArray, List.set_cons_zero, List.set_cons_succ])
        refine wpAnyH_take (i := 1) (oi := { dst := some 32, op := _, type := _, pos := _, after := _, guard := _ }) (v := ?_) rfl (by kernel_rfl) (by kernel_rfl) (by kernel_rfl) (fun _ _ _ h => h) (Or.inl ⟨by rfl, ?_⟩) (by assumption) ?_
        rotate_left
        · (intro w9 hSw; have r2 := hSw.cellp HR2.out; have rg := hSw.cellp HRG.out; have ri := hSw.cellp HRI.out; have aj := hSw.cellp HAJ.out; clear hSw; go_simp; (try with_reducible rfl))
        (try simp only [Act.put, List.setIfInBounds_toArray, List.set_cons_zero, List.set_cons_succ])
        refine wpAnyH_take (i := 2) (oi := { dst := some 33, op := _, type := _, pos := _, after := _, guard := _ }) (v := ?_) rfl (by kernel_rfl) (by kernel_rfl) (by kernel_rfl) (fun _ _ _ h => h) (Or.inl ⟨by rfl, ?_⟩) (by assumption) ?_
        rotate_left
        · (intro w9 hSw; have r2 := hSw.cellp HR2.out; have rg := hSw.cellp HRG.out; have ri := hSw.cellp HRI.out; have aj := hSw.cellp HAJ.out; clear hSw; go_simp; (try with_reducible rfl))
        (try simp only [Act.put, List.setIfInBounds_toArray, List.set_cons_zero, List.set_cons_succ])
        refine wpAnyH_take (i := 3) (oi := { dst := some 34, op := _, type := _, pos := _, after := _, guard := _ }) (v := ?_) rfl (by kernel_rfl) (by kernel_rfl) (by kernel_rfl) (fun _ _ _ h => h) (Or.inl ⟨by rfl, ?_⟩) (by assumption) ?_
        rotate_left
        · (intro w9 hSw; have r2 := hSw.cellp HR2.out; have rg := hSw.cellp HRG.out; have ri := hSw.cellp HRI.out; have aj := hSw.cellp HAJ.out; clear hSw; go_simp; (try with_reducible rfl))
        (try simp only [Act.put, List.setIfInBounds_toArray, List.set_cons_zero, List.set_cons_succ])
        refine wpAnyH_take (i := 4) (oi := { dst := some 35, op := _, type := _, pos := _, after := _, guard := _ }) (v := ?_) rfl (by kernel_rfl) (by kernel_rfl) (by kernel_rfl) (fun _ _ _ h => h) (Or.inl ⟨by rfl, ?_⟩) (by assumption) ?_
        rotate_left
        · (intro w9 hSw; have r2 := hSw.cellp HR2.out; have rg := hSw.cellp HRG.out; have ri := hSw.cellp HRI.out; have aj := hSw.cellp HAJ.out; clear hSw; go_simp; (try with_reducible rfl))
        (try simp only [Act.put, List.setIfInBounds_toArray, List.set_cons_zero, List.set_cons_succ])
        refine wpAnyH_take (i := 5) (oi := { dst := some 36, op := _, type := _, pos := _, after := _, guard := _ }) (v := ?_) rfl (by kernel_rfl) (by kernel_rfl) (by kernel_rfl) (fun _ _ _ h => h) (Or.inl ⟨by rfl, ?_⟩) (by assumption) ?_
        rotate_left
        · (intro w9 hSw; have r2 := hSw.cellp HR2.out; have rg := hSw.cellp HRG.out; have ri := hSw.cellp HRI.out; have aj := hSw.cellp HAJ.out; clear hSw; go_simp; (try with_reducible rfl))
        (try simp only [Act.put, List.setIfInBounds_toArray, List.set_cons_zero, List.set_cons_succ])
        refine wpAnyH_take (i := 6) (oi := { dst := some 37, op := _, type := _, pos := _, after := _, guard := _ }) (v := ?_) rfl (by kernel_rfl) (by kernel_rfl) (by kernel_rfl) (fun _ _ _ h => h) (Or.inl ⟨by rfl, ?_⟩) (by assumption) ?_
        rotate_left
        · (intro w9 hSw; have r2 := hSw.cellp HR2.out; have rg := hSw.cellp HRG.out; have ri := hSw.cellp HRI.out; have aj := hSw.cellp HAJ.out; clear hSw; go_simp; (try with_reducible rfl))
        (try simp only [Act.put, List.setIfInBounds_toArray, List.set_cons_zero, List.set_cons_succ])
        refine wpAnyH_take (i := 7) (oi := { dst := some 38, op := _, type := _, pos := _, after := _, guard := _ }) (v := ?_) rfl (by kernel_rfl) (by kernel_rfl) (by kernel_rfl) (fun _ _ _ h => h) (Or.inl ⟨by rfl, ?_⟩) (by assumption) ?_
        rotate_left
        · (intro w9 hSw; have r2 := hSw.cellp HR2.out; have rg := hSw.cellp HRG.out; have ri := hSw.cellp HRI.out; have aj := hSw.cellp HAJ.out; clear hSw; go_simp; (try with_reducible rfl))
        (try simp only [Act.put, List.setIfInBounds_toArray, List.set_cons_zero, List.set_cons_succ])
        refine wpAnyH_take (i := 8) (oi := { dst := some 39, op := _, type := _, pos := _, after := _, guard := _ }) (v := ?_) rfl (by kernel_rfl) (by kernel_rfl) (by kernel_rfl) (fun _ _ _ h => h) (Or.inl ⟨by rfl, ?_⟩) (by assumption) ?_
        rotate_left
        · (intro w9 hSw; have r2 := hSw.cellp HR2.out; have rg := hSw.cellp HRG.out; have ri := hSw.cellp HRI.out; have aj := hSw.cellp HAJ.out; clear hSw; go_simp; (try with_reducible rfl))
        (try simp only [Act.put, List.setIfInBounds_toArray, List.set_cons_zero, List.set_cons_succ])
        refine wpAnyH_take (i := 9) (oi := { dst := some 40, op := _, type := _, pos := _, after := _, guard := _ }) (v := ?_) rfl (by kernel_rfl) (by kernel_rfl) (by kernel_rfl) (fun _ _ _ h => h) (Or.inl ⟨by rfl, ?_⟩) (by assumption) ?_
        rotate_left
        · (intro w9 hSw; have r2 := hSw.cellp HR2.out; have rg := hSw.cellp HRG.out; have ri := hSw.cellp HRI.out; have aj := hSw.cellp HAJ.out; clear hSw; go_simp; (try with_reducible rfl))
        (try simp only [Act.put, List.setIfInBounds_toArray, List.set_cons_zero, List.set_cons_succ])
        refine wpAnyH_take (i := 10) (oi := { dst := some 41, op := _, type := _, pos := _, after := _, guard := _ }) (v := ?_) rfl (by kernel_rfl) (by kernel_rfl) (by kernel_rfl) (fun _ _ _ h => h) (Or.inl ⟨by rfl, ?_⟩) (by assumption) ?_
        rotate_left
        · (intro w9 hSw; have r2 := hSw.cellp HR2.out; have rg := hSw.cellp HRG.out; have ri := hSw.cellp HRI.out; have aj := hSw.cellp HAJ.out; clear hSw; go_simp; (try with_reducible rfl))
        (try simp only [Act.put, List.setIfInBounds_toArray, List.set_cons_zero, List.set_cons_succ])
        refine wpAnyH_take (i := 11) (oi := { dst := some 42, op := _, type := _, pos := _, after := _, guard := _ }) (v := ?_) rfl (by kernel_rfl) (by kernel_rfl) (by kernel_rfl) (fun _ _ _ h => h) (Or.inl ⟨by rfl, ?_⟩) (by assumption) ?_
        rotate_left
        · (intro w9 hSw; have r2 := hSw.cellp HR2.out; have rg := hSw.cellp HRG.out; have ri := hSw.cellp HRI.out; have aj := hSw.cellp HAJ.out; clear hSw; go_simp; (try with_reducible rfl))
        (try simp only [Act.put, List.setIfInBounds_toArray, List.set_cons_zero, List.set_cons_succ])
        refine wpAnyH_take (i := 12) (oi := { dst := some 43, op := _, type := _, pos := _, after := _, guard := _ }) (v := ?_) rfl (by kernel_rfl) (by kernel_rfl) (by kernel_rfl) (fun _ _ _ h => h) (Or.inl ⟨by rfl, ?_⟩) (by assumption) ?_
        rotate_left
        · (intro w9 hSw; have r2 := hSw.cellp HR2.out; have rg := hSw.cellp HRG.out; have ri := hSw.cellp HRI.out; have aj := hSw.cellp HAJ.out; clear hSw; go_simp; (try with_reducible rfl))
        (try simp only [Act.put, List.setIfInBounds_toArray, List.set_cons_zero, List.set_cons_succ])
        refine wpAnyH_take (i := 13) (oi := { dst := some 7, op := _, type := _, pos := _, after := _, guard := _ }) (v := ?_) rfl (by kernel_rfl) (by kernel_rfl) (by kernel_rfl) (fun _ _ _ h => h) (Or.inl ⟨by rfl, ?_⟩) (by assumption) ?_
        rotate_left
        · (intro w9 hSw; have r2 := hSw.cellp HR2.out; have rg := hSw.cellp HRG.out; have ri := hSw.cellp HRI.out; have aj := hSw.cellp HAJ.out; clear hSw; go_simp; (try with_reducible rfl))
        (try simp only [Act.put, List.setIfInBounds_toArray, List.set_cons_zero, List.set_cons_succ])
        refine wpAnyH_done (by kernel_rfl) ?_ _
        clear hHeld
        by_cases hneg : rk < 0
        · go_wp2_with fail
          go_ret
          have hz := HZ.out
          unfold codeI at hz
          rw [if_neg (fun e => by have h1 := HLV.out.1 hneg; rw [e.2 i hid] at h1; cases h1)] at hz
          rw [hz]
          exact ⟨rfl, ⟨_, HQ2.out.keep HS.out.drew, HNX.out⟩, HX2.out.trans (Chg.of_kept HS.out.drew)⟩
        · obtain ⟨s1, s2⟩ := HSX.out hneg HLB.out
          have l1 := HL1.out
          have l2 := HLG.out
          have hnn : 0 ≤ rk := by omega
          go_wp2_with fail
          go_roundg (gk - 1)
          case measure => have := HG.out; omega
          case rel => exact ⟨i + 1, by have := HG.out; omega, by omega, by rw [← HNI.out], by go_num, hidMk ⟨HS.out.drew, fun j hj => by
            by_cases c : j = i
            · subst c
              cases hl : leafI (dmL ds j) (at_ j) with
              | true => rfl
              | false => exact absurd (HLV.out.2 hl) (by omega)
            · exact HLB.out j (by omega)⟩⟩
      · have hie : i = D := by omega
        subst hie
        have hi' : ¬ ((i : Int) < (i : Int)) := by omega
        clear hqr
        go_wp2_with fail
        go_ret
        have hz := HZ.out
        unfold codeI at hz
        rw [if_pos ⟨hr, by rw [← HDD.out]; exact HLB.out⟩] at hz
        have hn : nk i = z := by
          rw [hz, HNK.out, HDD.out]
          exact numK_out HE.out.ct.d4 (fun k hk => by show (leas ds k : Int) = 1; rw [leas_out (by omega)]; rfl) (fun k hk _ => by unfold rkF; rw [if_neg (by omega)])
        rw [hn]
        exact ⟨rfl, ⟨_, HQ2.out.keep HS.out, HNX.out⟩, HX2.out.trans (Chg.of_kept HS.out)⟩
end
end Go.Proofs.YtmmdfpafkmhgcaaGreat
