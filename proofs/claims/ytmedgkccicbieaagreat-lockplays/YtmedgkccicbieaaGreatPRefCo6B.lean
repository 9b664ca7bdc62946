/- The definition's space: Index, Code. · The definition's space: Cell, Leaf. · The definition's space: Leaf. -/
import Derived.Test.YtmedgkccicbieaaGreatPTk
import Derived.Test.YtmedgkccicbieaaGreatPRefCo3B
namespace Go.Proofs.YtmedgkccicbieaaGreat
open Go.RowKit Go.Maps
set_option linter.unusedSimpArgs false
set_option linter.unusedVariables false

def atc (at_ : Nat → Int) (k : Nat) : Int := if k < 4 then at_ k else 0
theorem wrapI (n : Int) : IntKind.i64.wrap n = wrap64 n := by rw [IntKind.wrap_i64]; unfold wrap64; omega
theorem atc_num (f at_ : Nat → Int) (m : Int) : numK f (atc at_) m 4 = numK f at_ m 4 := num_congr 4 (fun j hj => if_pos hj)
theorem cell_box (X : World) (cm : Int) (at_ : Nat → Int) (t : TypeId) {cb : Nat} (hcb : cb = X.heap.size) (Y : World) (k : Kept (X.alloc (.cells #[.int .i64 cm, .int .i64 (at_ 0), .int .i64 (at_ 1), .int .i64 (at_ 2), .int .i64 (at_ 3)] t)) Y) : (Y.cell? ⟨cb, 0, none⟩ = some (.int .i64 cm) ∧ Y.cell? ⟨cb, 1, none⟩ = some (.int .i64 (at_ 0)) ∧ Y.cell? ⟨cb, 2, none⟩ = some (.int .i64 (at_ 1)) ∧ Y.cell? ⟨cb, 3, none⟩ = some (.int .i64 (at_ 2)) ∧ Y.cell? ⟨cb, 4, none⟩ = some (.int .i64 (at_ 3))) ∧ ∀ j, j < 4 → Y.cell? ⟨cb, 1 + j, none⟩ = some (.int .i64 (at_ j)) := by
  have h0 : ∀ (i : Nat) (v : Value), (#[.int .i64 cm, .int .i64 (at_ 0), .int .i64 (at_ 1), .int .i64 (at_ 2), .int .i64 (at_ 3)] : Array Value)[i]? = some v → Y.cell? ⟨cb, i, none⟩ = some v := fun i v hv => k.cellp (new_cell _ _ _ _ i _ hcb hv)
  refine ⟨⟨h0 0 _ rfl, h0 1 _ rfl, h0 2 _ rfl, h0 3 _ rfl, h0 4 _ rfl⟩, fun j hj => ?_⟩
  have : j = 0 ∨ j = 1 ∨ j = 2 ∨ j = 3 := by omega
  rcases this with rfl | rfl | rfl | rfl
  · exact h0 1 _ rfl
  · exact h0 2 _ rfl
  · exact h0 3 _ rfl
  · exact h0 4 _ rfl
section
variable {W0 X Y : World} {r q : Nat} {ds : List Dm} {ms : List ByteArray} {rt : Nat → Nat} {y4 y5 : Value} {pp : Option (Nat × Nat)}
theorem right_le (h : Ct ds ms) {cm : Int} {at_ : Nat → Int} (hr : rightB ms ds cm at_ = true) : (0 ≤ cm ∧ cm ≤ 1000) ∧ (∀ k, 0 ≤ atc at_ k ∧ atc at_ k ≤ 1000) ∧ ∀ k, k < ds.length → 0 ≤ at_ k ∧ at_ k < (dmL ds k).length := by
  obtain ⟨h1, h2⟩ := right_iff.1 hr
  have h3 := h.m4
  refine ⟨by omega, fun k => ?_, fun k hk => ?_⟩
  · unfold atc
    by_cases c : k < 4
    · rw [if_pos c]; have h4 := h2 k c; have h5 := manyB h k; omega
    · rw [if_neg c]; omega
  · have h4 := h2 k (by have := h.d4; omega)
    rw [many_in hk] at h4
    exact h4
set_option maxHeartbeats 8000000 in
set_option maxRecDepth 100000 in
theorem r7_Index (hE : RE W0 r q ds ms rt) (h : RQ W0 r q ds y4 y5 pp X) (cm : Int) (at_ : Nat → Int) : Calls Tryz.prog 55 #[.pointer (some ⟨r, 0, none⟩), cellV cm at_] X fun e w' => e = .returned (.int .i64 (if rightB ms ds cm at_ then numK (fun k => many ds k) at_ cm 4 else -1)) ∧ Kept X w' := by
  obtain ⟨cb, hcb⟩ : ∃ x, x = X.heap.size := ⟨_, rfl⟩
  obtain ⟨W1, hW1⟩ : ∃ V, V = X.alloc (.cells #[.int .i64 cm, .int .i64 (at_ 0), .int .i64 (at_ 1), .int .i64 (at_ 2), .int .i64 (at_ 3)] 29) := ⟨_, rfl⟩
  have k1 : Kept X W1 := by rw [hW1]; exact (Kept.refl X).alloc _
  have HK1 := hidMk k1
  have HCC := hidMk (show ∀ Y, Kept W1 Y → _ from fun Y k => cell_box X cm at_ 29 hcb Y (by rw [← hW1]; exact k))
  have HRT := hidMk (show ∀ Y, Kept W1 Y → _ from fun Y k => ref6_Right (hE.rd.kept (h.kp.trans (k1.trans k))) hE.ct.d4 cm at_)
  have HC0 := hidMk (show ∀ Y, Kept W1 Y → Y.cell? ⟨r, 0, none⟩ = some (.pointer (some ⟨q, 0, none⟩)) from fun Y k => (k1.trans k).cellp h.c0)
  obtain ⟨tb, tc, ma, mc, hg⟩ := hE.get
  have HGT := hidMk (show ∀ Y, Kept W1 Y → _ from fun Y k => hg Y (h.kp.trans (k1.trans k)))
  have hd4 := hE.ct.d4
  have HRL := hidMk (fun hr => right_le hE.ct (cm := cm) (at_ := at_) hr)
  have HST := hidMk (show rightB ms ds cm at_ = true → ∀ k, k < 4 → _ from fun hr k hk => numK_step (f := fun k => (many ds k : Int)) (a := atc at_) (right_le hE.ct hr).1 (fun k => manyB hE.ct k) (right_le hE.ct hr).2.1 hk)
  have HFN := hidMk (show rightB ms ds cm at_ = true → numK (fun k => (many ds k : Int)) (atc at_) cm ds.length = numK (fun k => (many ds k : Int)) at_ cm 4 from fun hr => by
    rw [← atc_num]
    refine numK_out hd4 (fun k hk => by show (many ds k : Int) = 1; rw [many_out (by omega)]; rfl) (fun k hk hk4 => ?_)
    have h1 := (right_iff.1 hr).2 k hk4
    rw [many_out (by omega)] at h1
    unfold atc
    rw [if_pos hk4]
    omega)
  obtain ⟨z, HZ⟩ : ∃ z, Hid (z = (if rightB ms ds cm at_ then numK (fun k => many ds k) at_ cm 4 else -1)) := ⟨_, hidMk rfl⟩
  rw [← HZ.out]
  obtain ⟨D, hD⟩ : ∃ D, D = ds.length := ⟨_, rfl⟩
  rw [← hD] at hd4
  have HDD := hidMk hD
  unfold cellV at *
  clear hg hE h k1 hD
  go_enter Tryz.func55, Tryz.ntmps55
  go_upto_region 1 with fail
  rw [← hW1, ← hcb]
  clear hW1 hcb
  refine wp_region_held_drew (S := (fun w' => Kept W1 w')) (by kernel_rfl) ?_ (fun hHeld => ?_)
  · exact (Kept.refl W1).drew
  refine tkL 0 7 (v := ?_) rfl ?_ ?_
  rotate_left
  · (intro w9 hSw; have c0 := HC0.out w9 hSw; obtain ⟨⟨e0, e1, e2, e3, e4⟩, _⟩ := HCC.out w9 hSw; clear hSw; go_simp; (try with_reducible rfl))
  (try simp only [tkS])
  refine tkL 1 8 (v := ?_) rfl ?_ ?_
  rotate_left
  · (intro w9 hSw; have c0 := HC0.out w9 hSw; obtain ⟨⟨e0, e1, e2, e3, e4⟩, _⟩ := HCC.out w9 hSw; clear hSw; go_simp; (try with_reducible rfl))
  (try simp only [tkS])
  refine tkL 2 9 (v := ?_) rfl ?_ ?_
  rotate_left
  · (intro w9 hSw; have c0 := HC0.out w9 hSw; obtain ⟨⟨e0, e1, e2, e3, e4⟩, _⟩ := HCC.out w9 hSw; clear hSw; go_simp; (try with_reducible rfl))
  (try simp only [tkS])
  refine tkL 3 10 (v := ?_) rfl ?_ ?_
  rotate_left
  · (intro w9 hSw; have c0 := HC0.out w9 hSw; obtain ⟨⟨e0, e1, e2, e3, e4⟩, _⟩ := HCC.out w9 hSw; clear hSw; go_simp; (try with_reducible rfl))
  (try simp only [tkS])
  refine tkL 4 11 (v := ?_) rfl ?_ ?_
  rotate_left
  · (intro w9 hSw; have c0 := HC0.out w9 hSw; obtain ⟨⟨e0, e1, e2, e3, e4⟩, _⟩ := HCC.out w9 hSw; clear hSw; go_simp; (try with_reducible rfl))
  (try simp only [tkS])
  refine wpAnyH_ready (rs := [5]) (by kernel_rfl) (by simp) ?_
  refine AllReadyH.cons (o := ⟨some 12, _, _, _, _, _⟩) rfl (fun K hK => ?_) AllReadyH.nil
  go_simp
  refine (HRT.out _ hHeld).mono ?_
  rintro e wR ⟨rfl, kR⟩
  have HKR := hidMk (hHeld.trans kR)
  clear kR
  (try go_wp2_with fail)
  refine hK.out _ _ ?_ (fun hHeld => ?_)
  · exact HKR.out
  clear hK K
  (try simp only [tkS])
  refine tkL 6 13 (v := ?_) rfl ?_ ?_
  rotate_left
  · (intro w9 hSw; have c0 := HC0.out w9 hSw; obtain ⟨⟨e0, e1, e2, e3, e4⟩, _⟩ := HCC.out w9 hSw; clear hSw; go_simp; (try with_reducible rfl))
  (try simp only [tkS])
  refine wpAnyH_done (by kernel_rfl) ?_ _
  clear hHeld
  cases hr : rightB ms ds cm at_ with
  | false =>
    go_wp2_with fail
    go_ret
    have := HZ.out
    rw [hr] at this
    rw [this]
    exact ⟨rfl, HK1.out.trans HKR.out⟩
  | true =>
    have HRB := hidMk (HRL.out hr)
    have HS2 := hidMk (HST.out hr)
    have HF2 := hidMk (HFN.out hr)
    obtain ⟨nk, hnk⟩ : ∃ nk : Nat → Int, nk = numK (fun k => (many ds k : Int)) (atc at_) cm := ⟨_, rfl⟩
    rw [← hnk] at HS2 HF2
    have HN0 := hidMk (show nk 0 = cm from by rw [hnk]; rfl)
    clear hnk HRL HST HFN HRT
    have c0 := HC0.out wR HKR.out
    obtain ⟨⟨e0, _⟩, _⟩ := HCC.out wR HKR.out
    go_wp2_with fail
    go_loopg [5, 6] (D + 1) (fun gg s x wr => ∃ i : Nat, i + gg = D + 1 ∧ i ≤ D ∧ s = .int .i64 (nk i) ∧ x = .int .i64 i ∧ Hid (Kept W1 wr))
    case atStart => exact ⟨0, by omega, by omega, by rw [HN0.out], rfl, HKR⟩
    case round =>
      clear HKR c0 e0
      obtain ⟨i, hig, hiD, rfl, rfl, HS⟩ := hrel
      have HG := hidMk hig
      clear hig
      have c0 := HC0.out wr HS.out
      have q4 := (HGT.out wr HS.out).1
      rw [← HDD.out] at q4
      by_cases hi : i < D
      · have hi' : (i : Int) < (D : Int) := by omega
        have hi4 : (i : Int) < 4 := by omega
        have hid : i < ds.length := by have := HDD.out; omega
        have HTE := hidMk (show ∀ Y, Kept W1 Y → Y.cell? ⟨tb, i, none⟩ = some (.pointer (some ⟨rt i, 0, none⟩)) from fun Y k => ((HGT.out Y k).2.2 i hid).1)
        have HTQ := hidMk (show ∀ Y, Kept W1 Y → Y.cell? ⟨q, 4, none⟩ = some (.slice (some ⟨tb, 0, none⟩) D tc) from fun Y k => by rw [HDD.out]; exact (HGT.out Y k).1)
        obtain ⟨b5, c5, hc5⟩ := ((HGT.out wr HS.out).2.2 i hid).2
        have HLC := hidMk (show ∀ Y, Kept wr Y → Y.cell? ⟨rt i, 0, none⟩ = some (.slice (some ⟨b5, 0, none⟩) (dmL ds i).length c5) from fun Y k => k.cellp hc5)
        have HAJ := hidMk (show ∀ Y, Kept W1 Y → Y.cell? ⟨cb, 1 + i, none⟩ = some (.int .i64 (at_ i)) from fun Y k => (HCC.out Y k).2 i (by omega))
        obtain ⟨s1, s2⟩ := HS2.out i (by omega)
        rw [show atc at_ i = at_ i from if_pos (by omega)] at s2
        rw [many_in hid] at s1 s2
        obtain ⟨ni1, hni1⟩ : ∃ z, z = nk (i + 1) := ⟨_, rfl⟩
        rw [← hni1] at s2
        have HNI := hidMk hni1
        clear hni1 hc5
        generalize (dmL ds i).length = n5 at *
        generalize nk i = ni at *
        generalize at_ i = ai at HAJ s2
        go_upto_region 7 with fail
        clear c0 q4
        refine wp_region_held_drew (S := (fun w' => Kept wr w')) (by kernel_rfl) ?_ (fun hHeld => ?_)
        · exact (Kept.refl wr).drew
        refine tkL 0 28 (v := ?_) rfl ?_ ?_
        rotate_left
        · (intro w9 hSw; have k9 := HS.out.trans hSw; have c0 := HC0.out w9 k9; have te := HTE.out w9 k9; have tq := HTQ.out w9 k9; have lc := HLC.out w9 hSw; have aj := HAJ.out w9 k9; clear hSw k9; go_simp; (try with_reducible rfl))
        (try simp only [tkS])
        refine tkL 1 29 (v := ?_) rfl ?_ ?_
        rotate_left
        · (intro w9 hSw; have k9 := HS.out.trans hSw; have c0 := HC0.out w9 k9; have te := HTE.out w9 k9; have tq := HTQ.out w9 k9; have lc := HLC.out w9 hSw; have aj := HAJ.out w9 k9; clear hSw k9; go_simp; (try with_reducible rfl))
        (try simp only [tkS])
        refine tkL 2 30 (v := ?_) rfl ?_ ?_
        rotate_left
        · (intro w9 hSw; have k9 := HS.out.trans hSw; have c0 := HC0.out w9 k9; have te := HTE.out w9 k9; have tq := HTQ.out w9 k9; have lc := HLC.out w9 hSw; have aj := HAJ.out w9 k9; clear hSw k9; go_simp; (try with_reducible rfl))
        (try simp only [tkS])
        refine tkL 3 31 (v := ?_) rfl ?_ ?_
        rotate_left
        · (intro w9 hSw; have k9 := HS.out.trans hSw; have c0 := HC0.out w9 k9; have te := HTE.out w9 k9; have tq := HTQ.out w9 k9; have lc := HLC.out w9 hSw; have aj := HAJ.out w9 k9; clear hSw k9; go_simp; (try with_reducible rfl))
        (try simp only [tkS])
        refine tkL 4 32 (v := ?_) rfl ?_ ?_
        rotate_left
        · (intro w9 hSw; have k9 := HS.out.trans hSw; have c0 := HC0.out w9 k9; have te := HTE.out w9 k9; have tq := HTQ.out w9 k9; have lc := HLC.out w9 hSw; have aj := HAJ.out w9 k9; clear hSw k9; go_simp; (try with_reducible rfl))
        (try simp only [tkS])
        refine tkL 5 33 (v := ?_) rfl ?_ ?_
        rotate_left
        · (intro w9 hSw; have k9 := HS.out.trans hSw; have c0 := HC0.out w9 k9; have te := HTE.out w9 k9; have tq := HTQ.out w9 k9; have lc := HLC.out w9 hSw; have aj := HAJ.out w9 k9; clear hSw k9; go_simp; (try with_reducible rfl))
        (try simp only [tkS])
        refine tkL 6 34 (v := ?_) rfl ?_ ?_
        rotate_left
        · (intro w9 hSw; have k9 := HS.out.trans hSw; have c0 := HC0.out w9 k9; have te := HTE.out w9 k9; have tq := HTQ.out w9 k9; have lc := HLC.out w9 hSw; have aj := HAJ.out w9 k9; clear hSw k9; go_simp; (try with_reducible rfl))
        (try simp only [tkS])
        refine tkL 7 35 (v := ?_) rfl ?_ ?_
        rotate_left
        · (intro w9 hSw; have k9 := HS.out.trans hSw; have c0 := HC0.out w9 k9; have te := HTE.out w9 k9; have tq := HTQ.out w9 k9; have lc := HLC.out w9 hSw; have aj := HAJ.out w9 k9; clear hSw k9; go_simp; (try with_reducible rfl))
        (try simp only [tkS])
        refine tkL 8 36 (v := ?_) rfl ?_ ?_
        rotate_left
        · (intro w9 hSw; have k9 := HS.out.trans hSw; have c0 := HC0.out w9 k9; have te := HTE.out w9 k9; have tq := HTQ.out w9 k9; have lc := HLC.out w9 hSw; have aj := HAJ.out w9 k9; clear hSw k9; go_simp; (try with_reducible rfl))
        (try simp only [tkS])
        refine tkL 9 37 (v := ?_) rfl ?_ ?_
        rotate_left
        · (intro w9 hSw; have k9 := HS.out.trans hSw; have c0 := HC0.out w9 k9; have te := HTE.out w9 k9; have tq := HTQ.out w9 k9; have lc := HLC.out w9 hSw; have aj := HAJ.out w9 k9; clear hSw k9; go_simp; (try with_reducible rfl))
        (try simp only [tkS])
        refine tkL 10 38 (v := ?_) rfl ?_ ?_
        rotate_left
        · (intro w9 hSw; have k9 := HS.out.trans hSw; have c0 := HC0.out w9 k9; have te := HTE.out w9 k9; have tq := HTQ.out w9 k9; have lc := HLC.out w9 hSw; have aj := HAJ.out w9 k9; clear hSw k9; go_simp; (try with_reducible rfl))
        (try simp only [tkS])
        refine tkL 11 39 (v := ?_) rfl ?_ ?_
        rotate_left
        · (intro w9 hSw; have k9 := HS.out.trans hSw; have c0 := HC0.out w9 k9; have te := HTE.out w9 k9; have tq := HTQ.out w9 k9; have lc := HLC.out w9 hSw; have aj := HAJ.out w9 k9; clear hSw k9; go_simp; (try with_reducible rfl))
        (try simp only [tkS])
        refine tkL 12 40 (v := ?_) rfl ?_ ?_
        rotate_left
        · (intro w9 hSw; have k9 := HS.out.trans hSw; have c0 := HC0.out w9 k9; have te := HTE.out w9 k9; have tq := HTQ.out w9 k9; have lc := HLC.out w9 hSw; have aj := HAJ.out w9 k9; clear hSw k9; go_simp; (try with_reducible rfl))
        (try simp only [tkS])
        refine tkL 13 41 (v := ?_) rfl ?_ ?_
        rotate_left
        · (intro w9 hSw; have k9 := HS.out.trans hSw; have c0 := HC0.out w9 k9; have te := HTE.out w9 k9; have tq := HTQ.out w9 k9; have lc := HLC.out w9 hSw; have aj := HAJ.out w9 k9; clear hSw k9; go_simp; (try with_reducible rfl))
        (try simp only [tkS])
        refine tkL 14 42 (v := ?_) rfl ?_ ?_
        rotate_left
        · (intro w9 hSw; have k9 := HS.out.trans hSw; have c0 := HC0.out w9 k9; have te := HTE.out w9 k9; have tq := HTQ.out w9 k9; have lc := HLC.out w9 hSw; have aj := HAJ.out w9 k9; clear hSw k9; go_simp; (try with_reducible rfl))
        (try simp only [tkS])
        refine tkL 15 43 (v := ?_) rfl ?_ ?_
        rotate_left
        · (intro w9 hSw; have k9 := HS.out.trans hSw; have c0 := HC0.out w9 k9; have te := HTE.out w9 k9; have tq := HTQ.out w9 k9; have lc := HLC.out w9 hSw; have aj := HAJ.out w9 k9; clear hSw k9; go_simp; (try with_reducible rfl))
        (try simp only [tkS])
        refine tkL 16 44 (v := ?_) rfl ?_ ?_
        rotate_left
        · (intro w9 hSw; have k9 := HS.out.trans hSw; have c0 := HC0.out w9 k9; have te := HTE.out w9 k9; have tq := HTQ.out w9 k9; have lc := HLC.out w9 hSw; have aj := HAJ.out w9 k9; clear hSw k9; go_simp; (try with_reducible rfl))
        (try simp only [tkS])
        refine tkL 17 45 (v := ?_) rfl ?_ ?_
        rotate_left
        · (intro w9 hSw; have k9 := HS.out.trans hSw; have c0 := HC0.out w9 k9; have te := HTE.out w9 k9; have tq := HTQ.out w9 k9; have lc := HLC.out w9 hSw; have aj := HAJ.out w9 k9; clear hSw k9; go_simp; (try with_reducible rfl))
        (try simp only [tkS])
        refine tkL 18 46 (v := ?_) rfl ?_ ?_
        rotate_left
        · (intro w9 hSw; have k9 := HS.out.trans hSw; have c0 := HC0.out w9 k9; have te := HTE.out w9 k9; have tq := HTQ.out w9 k9; have lc := HLC.out w9 hSw; have aj := HAJ.out w9 k9; clear hSw k9; go_simp; (try with_reducible rfl))
        (try simp only [tkS])
        refine tkL 19 47 (v := ?_) rfl ?_ ?_
        rotate_left
        · (intro w9 hSw; have k9 := HS.out.trans hSw; have c0 := HC0.out w9 k9; have te := HTE.out w9 k9; have tq := HTQ.out w9 k9; have lc := HLC.out w9 hSw; have aj := HAJ.out w9 k9; clear hSw k9; go_simp; (try with_reducible rfl))
        (try simp only [tkS])
        refine tkL 20 48 (v := ?_) rfl ?_ ?_
        rotate_left
        · (intro w9 hSw; have k9 := HS.out.trans hSw; have c0 := HC0.out w9 k9; have te := HTE.out w9 k9; have tq := HTQ.out w9 k9; have lc := HLC.out w9 hSw; have aj := HAJ.out w9 k9; clear hSw k9; go_simp; (try with_reducible rfl))
        (try simp only [tkS])
        refine tkL 21 5 (v := ?_) rfl ?_ ?_
        rotate_left
        · (intro w9 hSw; have k9 := HS.out.trans hSw; have c0 := HC0.out w9 k9; have te := HTE.out w9 k9; have tq := HTQ.out w9 k9; have lc := HLC.out w9 hSw; have aj := HAJ.out w9 k9; clear hSw k9; go_simp; (try with_reducible rfl))
        (try simp only [tkS])
        refine wpAnyH_done (by kernel_rfl) ?_ _
        clear hHeld
        go_wp2_with fail
        go_roundg (gk - 1)
        case measure => have := HG.out; omega
        case rel => exact ⟨i + 1, by have := HG.out; omega, by omega, by rw [← HNI.out, wrapI, wrapI, s1, s2], by go_num, hidMk HS.out.drew⟩
      · have hie : i = D := by omega
        subst hie
        have hi' : ¬ ((i : Int) < (i : Int)) := by omega
        go_wp2_with fail
        go_ret
        have hz := HZ.out
        rw [hr, if_pos rfl, ← HF2.out, ← HDD.out] at hz
        rw [hz]
        exact ⟨rfl, HK1.out.trans HS.out⟩
end

structure CBk (X : World) (lb : Nat) (v : Int) (f : Nat → Int) : Prop where
  c0 : X.cell? ⟨lb, 0, none⟩ = some (.int .i64 v)
  ck : ∀ k, k < 4 → X.cell? ⟨lb, 1 + k, none⟩ = some (.int .i64 (f k))
  fz : ∀ k, X.frozen? ⟨lb, k, none⟩ = false
theorem CBk.put0 {X : World} {lb : Nat} {v : Int} {f : Nat → Int} (h : CBk X lb v f) (u : Int) : CBk (X.setCell ⟨lb, 0, none⟩ (.int .i64 u)) lb u f :=
  ⟨World.cell?_setCell_same _ _ _ h.c0, fun k hk => by rw [World.cell?_setCell_other _ _ _ _ (by intro e; injection e with _ e1 _; omega)]; exact h.ck k hk, fun k => by rw [World.frozen?_setCell]; exact h.fz k⟩
theorem CBk.putk {X : World} {lb : Nat} {v : Int} {f g : Nat → Int} (h : CBk X lb v f) {j : Nat} (hj : j < 4) (u : Int) (hg : g j = u) (hg' : ∀ k, k < 4 → k ≠ j → g k = f k) : CBk (X.setCell ⟨lb, 1 + j, none⟩ (.int .i64 u)) lb v g := by
  refine ⟨by rw [World.cell?_setCell_other _ _ _ _ (by intro e; injection e with _ e1 _; omega)]; exact h.c0, fun k hk => ?_, fun k => by rw [World.frozen?_setCell]; exact h.fz k⟩
  by_cases e : k = j
  · subst e; rw [World.cell?_setCell_same _ _ _ (h.ck k hk), hg]
  · rw [World.cell?_setCell_other _ _ _ _ (by intro e'; injection e' with _ e1 _; omega), h.ck k hk, hg' k hk e]
theorem cbk_new (X : World) (t : TypeId) {lb : Nat} (h : lb = X.heap.size) : CBk (X.alloc (.cells #[.int .i64 0, .int .i64 0, .int .i64 0, .int .i64 0, .int .i64 0] t)) lb 0 (fun _ => 0) := by
  refine ⟨new_cell _ _ _ _ 0 _ h rfl, fun k hk => ?_, fun k => new_frozen _ _ _ h k⟩
  have : k = 0 ∨ k = 1 ∨ k = 2 ∨ k = 3 := by omega
  rcases this with rfl | rfl | rfl | rfl
  · exact new_cell _ _ _ _ 1 _ h rfl
  · exact new_cell _ _ _ _ 2 _ h rfl
  · exact new_cell _ _ _ _ 3 _ h rfl
  · exact new_cell _ _ _ _ 4 _ h rfl
theorem prQ_out {f : Nat → Int} {N : Int} {d : Nat} (hf : ∀ k, d ≤ k → f k = 1) : ∀ j, j ≤ 4 - d → prQ f N j = N := by
  intro j
  induction j with
  | zero => intro _; rfl
  | succ j ih => intro h; show (prQ f N j).tdiv (f (3 - j)) = N; rw [ih (by omega), hf _ (by omega), Int.tdiv_one]
theorem prQ_next (f : Nat → Int) (N : Int) {i : Nat} (h1 : 1 ≤ i) (h4 : i ≤ 4) : (prQ f N (4 - i)).tdiv (f (i - 1)) = prQ f N (4 - (i - 1)) ∧ (prQ f N (4 - i)).tmod (f (i - 1)) = prA f N (i - 1) := by
  refine ⟨?_, ?_⟩
  · rw [show 4 - (i - 1) = (4 - i) + 1 by omega]
    show _ = (prQ f N (4 - i)).tdiv (f (3 - (4 - i)))
    rw [show 3 - (4 - i) = i - 1 by omega]
  · unfold prA
    rw [show 3 - (i - 1) = 4 - i by omega]
section
variable {W0 X Y : World} {r q : Nat} {ds : List Dm} {ms : List ByteArray} {rt : Nat → Nat} {y4 y5 : Value} {pp : Option (Nat × Nat)}
end

theorem Chg.thn2 {S S' : Nat → Prop} {x y z : World} (h : Chg S x y) (k : Chg S' y z) (hs : ∀ j, j < x.heap.size → S' j → S j) : Chg S x z :=
  ⟨k.os.trans h.os, k.tape.trans h.tape, k.output.trans h.output, Nat.le_trans h.size k.size, fun j hj hb => (k.block j (Nat.lt_of_lt_of_le hj h.size) (fun e => hb (hs j hj e))).trans (h.block j hj hb)⟩
theorem set5_chg {S : Nat → Prop} {x y : World} {b : Nat} (k : Chg S x y) (hb : S b ∨ x.heap.size ≤ b) (v0 v1 v2 v3 v4 : Value) : Chg S x (set5 y b v0 v1 v2 v3 v4) :=
  ((((k.setCell (p := ⟨b, 0, none⟩) hb _).setCell (p := ⟨b, 1, none⟩) hb _).setCell (p := ⟨b, 2, none⟩) hb _).setCell (p := ⟨b, 3, none⟩) hb _).setCell (p := ⟨b, 4, none⟩) hb _
theorem CBk.chg {S : Nat → Prop} {X Y : World} {lb : Nat} {v : Int} {f : Nat → Int} (h : CBk X lb v f) (k : Chg S X Y) (hS : ¬ S lb) : CBk Y lb v f :=
  ⟨k.cellp h.c0 hS, fun j hj => k.cellp (h.ck j hj) hS, fun j => (k.frozen (p := ⟨lb, j, none⟩) (cell_lt (p := ⟨lb, 0, none⟩) h.c0) hS).trans (h.fz j)⟩
section
variable {W0 X Y : World} {r q : Nat} {ds : List Dm} {ms : List ByteArray} {rt : Nat → Nat} {y4 y5 : Value} {pp : Option (Nat × Nat)}
set_option maxHeartbeats 8000000 in
set_option maxRecDepth 100000 in
theorem r7_Leaf (hE : RE W0 r q ds ms rt) (h : RQ W0 r q ds y4 y5 pp X) (n : Int) : Calls Tryz.prog 65 #[.pointer (some ⟨r, 0, none⟩), .int .i64 n] X fun e w' => (if 0 ≤ n ∧ n < mulK (fun k => leas ds k) ms.length 4 then e = .returned (.tuple #[cellV (prQ (fun k => leas ds k) n 4) (lfF ds n ds.length), .bool true]) else e = .returned (.tuple #[cellV 0 (fun _ => 0), .bool false])) ∧ RR W0 r q ds y4 y5 pp X w' := by
  obtain ⟨cb, hcb⟩ : ∃ x, x = X.heap.size := ⟨_, rfl⟩
  obtain ⟨W1, hW1⟩ : ∃ V, V = X.alloc (.cells #[.int .i64 0, .int .i64 0, .int .i64 0, .int .i64 0, .int .i64 0] 29) := ⟨_, rfl⟩
  have k1 : Kept X W1 := by rw [hW1]; exact (Kept.refl X).alloc _
  have HK1 := hidMk k1
  have HLT := hidMk (show X.heap.size ≤ cb by omega)
  have HCB := hidMk (show CBk W1 cb 0 (fun _ => 0) from by rw [hW1]; exact cbk_new X _ hcb)
  have HCS := hidMk (show ∀ Y, Kept W1 Y → _ from fun Y k => r7_Leaves hE (h.keep (k1.trans k)))
  obtain ⟨tb, tc, ma, mc, hg⟩ := hE.get
  have HGT := hidMk hg
  have hd4 := hE.ct.d4
  have HMB := hidMk (mulK_bound (f := fun k => (leas ds k : Int)) (m := ms.length) (by have := hE.ct.m4; omega) (fun k => leasB hE.ct k)).2.2.2.2
  have HPO := hidMk (fun k => hE.ct.leas k)
  have HPB := hidMk (fun k => leasB hE.ct k)
  have HOU := hidMk (show ∀ k, ds.length ≤ k → (leas ds k : Int) = 1 from fun k hk => by rw [leas_out (by omega)]; rfl)
  have HMI := hidMk (show ∀ k, k < ds.length → (leas ds k : Int) = ((lvsN (dmL ds k)).length : Int) from fun k hk => by rw [leas_in hk])
  obtain ⟨D, hD⟩ : ∃ D, D = ds.length := ⟨_, rfl⟩
  rw [← hD] at hd4 HOU HMI
  have HDD := hidMk hD
  have HHO := hidMk (show cb ≠ r ∧ W0.heap.size ≤ cb ∧ ∀ B H, pp = some (B, H) → H ≤ cb from ⟨by have := h.lt; omega, by have := h.kp.size; omega, fun B H e => by have := (h.hole e).2; omega⟩)
  have HC1 := hidMk hE.ct.d1
  have HQ := hidMk h
  unfold cellV
  clear hg hE h k1 hD
  generalize hM : mulK (fun k => (leas ds k : Int)) (ms.length : Int) 4 = M at *
  by_cases hi : 0 ≤ n
  · have hin : ¬ n < 0 := by omega
    by_cases hm : n < M
    · have hmn : ¬ (M ≤ n) := by omega
      simp only [if_pos (And.intro hi hm)]
      obtain ⟨f, hf⟩ : ∃ f : Nat → Int, f = fun k => (leas ds k : Int) := ⟨_, rfl⟩
      rw [← hf]
      have HF := hidMk hf
      have HQB := hidMk (show ∀ i, 0 ≤ prQ f n i ∧ prQ f n i ≤ 1000000000000000 from fun i => prQ_bound (by have := HMB.out; omega) (fun k => by rw [hf]; exact ⟨HPO.out k, (HPB.out k).2⟩) i)
      have HFL := hidMk (show ∀ k, k < D → f k = ((lvsN (dmL ds k)).length : Int) from fun k hk => by rw [hf]; exact HMI.out k hk)
      have HFP := hidMk (show ∀ k, 1 ≤ f k ∧ f k ≤ 1000 from fun k => by rw [hf]; exact ⟨HPO.out k, (HPB.out k).2⟩)
      have HFO := hidMk (show ∀ k, D ≤ k → f k = 1 from fun k hk => by rw [hf]; exact HOU.out k hk)
      clear hf hM HMI HPO HPB HOU
      go_enter Tryz.func65, Tryz.ntmps65
      go_upto_region 1 with fail
      rw [← hW1, ← hcb]
      clear hW1 hcb
      go_wp2_with fail
      refine (HCS.out _ (Kept.refl _)).mono ?_
      rintro e w2 ⟨rfl, ⟨B2, H2, hq2, hnx⟩, hc2⟩
      have HQ2 := hidMk hq2
      have HNX := hidMk hnx
      have HC2 := hidMk hc2
      have HCW := hidMk (show CBk w2 cb 0 (fun _ => 0) from HCB.out.chg hc2 HHO.out.1)
      clear hq2 hnx hc2
      go_upto_region 4 with fail
      obtain ⟨W5, hW5⟩ : ∃ V, V = w2.alloc (.cells #[.int .i64 0, .int .i64 0, .int .i64 0, .int .i64 0, .int .i64 0] 29) := ⟨_, rfl⟩
      obtain ⟨lb, hlb⟩ : ∃ x, x = w2.heap.size := ⟨_, rfl⟩
      have HK5 := hidMk (show Kept w2 W5 from by rw [hW5]; exact (Kept.refl w2).alloc _)
      have HB0 := hidMk (show CBk W5 lb 0 (fun k => if D ≤ k then lfF ds n ds.length k else 0) from by
        rw [hW5]
        have hb := cbk_new w2 29 hlb
        exact ⟨hb.c0, fun k hk => by
          rw [hb.ck k hk]
          by_cases c : D ≤ k
          · rw [if_pos c, lf_out (by have := HDD.out; omega)]
          · rw [if_neg c], hb.fz⟩)
      have HLB := hidMk (show w2.heap.size ≤ lb by omega)
      rw [← hW5, ← hlb]
      clear hW5 hlb HCS
      have c0 := (HQ2.out.keep HK5.out).c0
      have q4 := (HGT.out W5 (HQ2.out.keep HK5.out).kp).1
      rw [← HDD.out] at q4
      have HQ0 := hidMk (show prQ f n (4 - D) = n from prQ_out HFO.out (4 - D) (Nat.le_refl _))
      go_wp2_with fail
      clear c0 q4
      go_loopg [1, 7] (D + 1) (fun gg s x wr => ∃ i : Nat, i + 1 = gg ∧ i ≤ D ∧ s = .int .i64 (prQ f n (4 - i)) ∧ x = .int .i64 i ∧ Hid (CBk wr lb 0 (fun k => if i ≤ k then lfF ds n ds.length k else 0) ∧ Kept w2 wr))
      case atStart => exact ⟨D, by omega, by omega, by rw [HQ0.out], rfl, hidMk ⟨HB0.out, HK5.out⟩⟩
      case round =>
        clear HB0 HK5
        obtain ⟨i, hig, hiD, rfl, rfl, HS⟩ := hrel
        have HG := hidMk hig
        clear hig
        by_cases hi0 : 0 < i
        · have hi' : (0 : Int) < (i : Int) := by omega
          obtain ⟨j, hj⟩ : ∃ j, i = j + 1 := ⟨i - 1, by omega⟩
          subst hj
          have hw1 : wrap64 (((j + 1 : Nat) : Int) - 1) = (j : Int) := by rw [wrap_c (by omega) (by omega)]; omega
          have hjD : (j : Int) < (D : Int) := by omega
          have hj4 : (j : Int) < 4 := by omega
          have hjd : j < ds.length := by have := HDD.out; omega
          obtain ⟨p1, p2⟩ := prQ_next f n (i := j + 1) (by omega) (by omega)
          rw [Nat.add_sub_cancel] at p1 p2
          have hfl := HFL.out j (by omega)
          have hfp := HFP.out j
          have hqb := HQB.out (4 - (j + 1))
          have hnx : CBk (wr.setCell ⟨lb, 1 + j, none⟩ (.int .i64 (lfF ds n ds.length j))) lb 0 (fun k => if j ≤ k then lfF ds n ds.length k else 0) := HS.out.1.putk (by omega) _ (if_pos (Nat.le_refl j)) (fun k hk hne => by
            by_cases c : j ≤ k
            · rw [if_pos c, if_pos (by omega)]
            · rw [if_neg c, if_neg (by omega)])
          have HNX2 := hidMk hnx
          have HKX := hidMk (show Kept w2 (wr.setCell ⟨lb, 1 + j, none⟩ (.int .i64 (lfF ds n ds.length j))) from HS.out.2.setCell (p := ⟨lb, 1 + j, none⟩) HLB.out _)
          obtain ⟨lg, lc, hl1, hlk⟩ := (HQ2.out.keep HS.out.2).leaf HC1.out
          obtain ⟨la, lc2, hlg, hsl⟩ := hlk j hjd
          rw [← HDD.out] at hl1
          have hrm := rem_bound hqb.1 hfp
          rw [p2] at hrm
          obtain ⟨rr, hrr⟩ : ∃ rr : Nat, prA f n j = rr := ⟨(prA f n j).toNat, by omega⟩
          have hrl : rr < (lvsN (dmL ds j)).length := by rw [hfl, hrr] at hrm; omega
          have hrl' : (rr : Int) < ((lvsN (dmL ds j)).length : Int) := by omega
          obtain ⟨b5, o5, hla, _, hcc⟩ := hsl.cells (by omega)
          subst hla
          have hel := hcc rr hrl
          have hlv : (ints (lvsN (dmL ds j))).getD rr 0 = lfF ds n ds.length j := by
            unfold lfF
            rw [if_pos hjd]
            have : prA (fun k => (leas ds k : Int)) n j = rr := by rw [← HF.out]; exact hrr
            rw [this, Int.toNat_natCast]
          rw [hlv] at hel
          rw [hrr] at p2
          clear hcc hsl hlk hlv hrm
          generalize lfF ds n ds.length j = lfj at *
          have ec := HS.out.1.ck j (by omega)
          have ef := HS.out.1.fz (1 + j)
          obtain ⟨qi1, hqi1⟩ : ∃ z, z = prQ f n (4 - j) := ⟨_, rfl⟩
          have HQI := hidMk hqi1
          rw [← hqi1] at p1
          generalize hqq : prQ f n (4 - (j + 1)) = qq at *
          rw [hfl] at p1 p2 hfp
          generalize (lvsN (dmL ds j)).length = n5 at *
          have hn00 : ¬ n5 = 0 := by omega
          have hn0 : ¬ (n5 : Int) = 0 := by omega
          have hnb : ((n5 : Int) == 0) = false := by simpa using hn0
          have hwm : wrap64 (rr : Int) = (rr : Int) := wrap_c (by omega) (by omega)
          have hwd : wrap64 qi1 = qi1 := by
            have h3 : 0 ≤ qq.tdiv (n5 : Int) ∧ qq.tdiv (n5 : Int) ≤ 1000000000000000 := by
              rw [Int.tdiv_eq_ediv_of_nonneg hqb.1]
              exact ⟨Int.ediv_nonneg hqb.1 (by omega), Int.le_trans (Int.ediv_le_self _ hqb.1) hqb.2⟩
            rw [p1] at h3
            exact wrap_c (by omega) (by omega)
          clear hqb hfp hfl hnx hqi1 hqq
          go_wp2_with fail
          go_roundg (gk - 1)
          case measure => have := HG.out; omega
          case rel => exact ⟨j, by have := HG.out; omega, by omega, by rw [← HQI.out, hwd], by go_num, hidMk ⟨HNX2.out, HKX.out⟩⟩
        · have hie : i = 0 := by omega
          subst hie
          have hi' : ¬ ((0 : Int) < ((0 : Nat) : Int)) := by omega
          have HV1 := hidMk (HS.out.1.put0 (prQ f n 4))
          have HKV := hidMk (show Kept w2 (wr.setCell ⟨lb, 0, none⟩ (.int .i64 (prQ f n 4))) from HS.out.2.setCell (p := ⟨lb, 0, none⟩) HLB.out _)
          have l0 := HS.out.1.c0
          have lf := HS.out.1.fz 0
          clear HS HG
          have HKA := hidMk HKV.out
          have g0 := HV1.out.c0
          have g1 : (wr.setCell ⟨lb, 0, none⟩ (.int .i64 (prQ f n 4))).cell? ⟨lb, 1, none⟩ = some (.int .i64 (lfF ds n ds.length 0)) := HV1.out.ck 0 (by omega)
          have g2 : (wr.setCell ⟨lb, 0, none⟩ (.int .i64 (prQ f n 4))).cell? ⟨lb, 2, none⟩ = some (.int .i64 (lfF ds n ds.length 1)) := HV1.out.ck 1 (by omega)
          have g3 : (wr.setCell ⟨lb, 0, none⟩ (.int .i64 (prQ f n 4))).cell? ⟨lb, 3, none⟩ = some (.int .i64 (lfF ds n ds.length 2)) := HV1.out.ck 2 (by omega)
          have g4 : (wr.setCell ⟨lb, 0, none⟩ (.int .i64 (prQ f n 4))).cell? ⟨lb, 4, none⟩ = some (.int .i64 (lfF ds n ds.length 3)) := HV1.out.ck 3 (by omega)
          have hcbl : cb < w2.heap.size := cell_lt HCW.out.c0
          have s0 := HKA.out.cellp HCW.out.c0
          have s1 : (wr.setCell ⟨lb, 0, none⟩ (.int .i64 (prQ f n 4))).cell? ⟨cb, 1, none⟩ = some (.int .i64 0) := HKA.out.cellp (HCW.out.ck 0 (by omega))
          have s2 : (wr.setCell ⟨lb, 0, none⟩ (.int .i64 (prQ f n 4))).cell? ⟨cb, 2, none⟩ = some (.int .i64 0) := HKA.out.cellp (HCW.out.ck 1 (by omega))
          have s3 : (wr.setCell ⟨lb, 0, none⟩ (.int .i64 (prQ f n 4))).cell? ⟨cb, 3, none⟩ = some (.int .i64 0) := HKA.out.cellp (HCW.out.ck 2 (by omega))
          have s4 : (wr.setCell ⟨lb, 0, none⟩ (.int .i64 (prQ f n 4))).cell? ⟨cb, 4, none⟩ = some (.int .i64 0) := HKA.out.cellp (HCW.out.ck 3 (by omega))
          have f0 : (wr.setCell ⟨lb, 0, none⟩ (.int .i64 (prQ f n 4))).frozen? ⟨cb, 0, none⟩ = false := (HKA.out.frozen (p := ⟨cb, 0, none⟩) hcbl).trans (HCW.out.fz 0)
          have f1 : (wr.setCell ⟨lb, 0, none⟩ (.int .i64 (prQ f n 4))).frozen? ⟨cb, 1, none⟩ = false := (HKA.out.frozen (p := ⟨cb, 1, none⟩) hcbl).trans (HCW.out.fz 1)
          have f2 : (wr.setCell ⟨lb, 0, none⟩ (.int .i64 (prQ f n 4))).frozen? ⟨cb, 2, none⟩ = false := (HKA.out.frozen (p := ⟨cb, 2, none⟩) hcbl).trans (HCW.out.fz 2)
          have f3 : (wr.setCell ⟨lb, 0, none⟩ (.int .i64 (prQ f n 4))).frozen? ⟨cb, 3, none⟩ = false := (HKA.out.frozen (p := ⟨cb, 3, none⟩) hcbl).trans (HCW.out.fz 3)
          have f4 : (wr.setCell ⟨lb, 0, none⟩ (.int .i64 (prQ f n 4))).frozen? ⟨cb, 4, none⟩ = false := (HKA.out.frozen (p := ⟨cb, 4, none⟩) hcbl).trans (HCW.out.fz 4)
          obtain ⟨V1, hV1⟩ : ∃ V, V = wr.setCell ⟨lb, 0, none⟩ (.int .i64 (prQ f n 4)) := ⟨_, rfl⟩
          obtain ⟨V, hV⟩ : ∃ V, V = set5 V1 cb (.int .i64 (prQ f n 4)) (.int .i64 (lfF ds n ds.length 0)) (.int .i64 (lfF ds n ds.length 1)) (.int .i64 (lfF ds n ds.length 2)) (.int .i64 (lfF ds n ds.length 3)) := ⟨_, rfl⟩
          have c5 := set5_cells (X := V1) (b := cb) (by rw [hV1]; exact s0) (by rw [hV1]; exact s1) (by rw [hV1]; exact s2) (by rw [hV1]; exact s3) (by rw [hV1]; exact s4) (.int .i64 (prQ f n 4)) (.int .i64 (lfF ds n ds.length 0)) (.int .i64 (lfF ds n ds.length 1)) (.int .i64 (lfF ds n ds.length 2)) (.int .i64 (lfF ds n ds.length 3))
          have k1v : Kept w2 V1 := by rw [hV1]; exact HKA.out
          have kk := set5_chg (S := fun j => j = cb) (Chg.of_kept k1v) (.inl rfl) (.int .i64 (prQ f n 4)) (.int .i64 (lfF ds n ds.length 0)) (.int .i64 (lfF ds n ds.length 1)) (.int .i64 (lfF ds n ds.length 2)) (.int .i64 (lfF ds n ds.length 3))
          rw [← hV] at c5 kk
          have HC5 := hidMk c5
          have HRR := hidMk (show RR W0 r q ds y4 y5 pp X V from by
            refine ⟨⟨_, HQ2.out.chg kk (fun j e => by have e' : j = cb := e; subst e'; exact ⟨HHO.out.2.1, HHO.out.1⟩) (fun B H e j e2 e3 => ?_), HNX.out.le HK1.out.size⟩, ?_⟩
            · cases e
              have e' : j = cb := e2
              rw [e'] at e3
              rcases HNX.out.get rfl with h9 | h9
              · have := HHO.out.2.2 _ _ h9; omega
              · have h10 : cb < W1.heap.size := cell_lt HCB.out.c0
                omega
            · have h1 : Chg (fun j => j = r) X w2 := (Chg.of_kept HK1.out).trans HC2.out
              exact h1.thn2 kk (fun j hj e => by have e' : j = cb := e; have := HLT.out; omega))
          clear c5 kk
          go_wp2_with fail
          unfold set5 at hV
          rw [hV1] at hV
          rw [← hV]
          refine bodyPost_ret (v := .tuple #[.agg #[.int .i64 (prQ f n 4), .int .i64 (lfF ds n ds.length 0), .int .i64 (lfF ds n ds.length 1), .int .i64 (lfF ds n ds.length 2), .int .i64 (lfF ds n ds.length 3)], .bool true]) ?_ rfl ⟨rfl, HRR.out⟩
          simp only [results, show Tryz.f65.results = #[.cell 4 29, .tmp 5] from rfl]
          clear s0 s1 s2 s3 s4 g0 g1 g2 g3 g4 hV hV1
          obtain ⟨s0, s1, s2, s3, s4⟩ := HC5.out
          go_simp
    · have hmn : M ≤ n := by omega
      simp only [if_neg (fun e : 0 ≤ n ∧ n < M => hm e.2)]
      go_enter Tryz.func65, Tryz.ntmps65
      go_upto_region 1 with fail
      rw [← hW1, ← hcb]
      clear hW1 hcb
      go_wp2_with fail
      refine (HCS.out _ (Kept.refl _)).mono ?_
      rintro e w2 ⟨rfl, ⟨B2, H2, hq2, hnx⟩, hc2⟩
      have HQ2 := hidMk hq2
      have HNX := hidMk hnx
      have HC2 := hidMk hc2
      have HCW := hidMk (show CBk w2 cb 0 (fun _ => 0) from HCB.out.chg hc2 HHO.out.1)
      clear hq2 hnx hc2
      have s0 := HCW.out.c0
      have s1 : w2.cell? ⟨cb, 1, none⟩ = some (.int .i64 0) := HCW.out.ck 0 (by omega)
      have s2 : w2.cell? ⟨cb, 2, none⟩ = some (.int .i64 0) := HCW.out.ck 1 (by omega)
      have s3 : w2.cell? ⟨cb, 3, none⟩ = some (.int .i64 0) := HCW.out.ck 2 (by omega)
      have s4 : w2.cell? ⟨cb, 4, none⟩ = some (.int .i64 0) := HCW.out.ck 3 (by omega)
      have f0 := HCW.out.fz 0
      have f1 := HCW.out.fz 1
      have f2 := HCW.out.fz 2
      have f3 := HCW.out.fz 3
      have f4 := HCW.out.fz 4
      go_wp2_with fail
      obtain ⟨V, hV⟩ : ∃ V, V = set5 w2 cb (.int .i64 0) (.int .i64 0) (.int .i64 0) (.int .i64 0) (.int .i64 0) := ⟨_, rfl⟩
      have c5 := set5_cells s0 s1 s2 s3 s4 (.int .i64 0) (.int .i64 0) (.int .i64 0) (.int .i64 0) (.int .i64 0)
      have kk := set5_chg (S := fun j => j = cb) (Chg.refl _ w2) (.inl rfl) (.int .i64 0) (.int .i64 0) (.int .i64 0) (.int .i64 0) (.int .i64 0)
      rw [← hV] at c5 kk
      have HRR := hidMk (show RR W0 r q ds y4 y5 pp X V from by
        refine ⟨⟨_, HQ2.out.chg kk (fun j e => by have e' : j = cb := e; subst e'; exact ⟨HHO.out.2.1, HHO.out.1⟩) (fun B H e j e2 e3 => ?_), HNX.out.le HK1.out.size⟩, ?_⟩
        · cases e
          have e' : j = cb := e2
          rw [e'] at e3
          rcases HNX.out.get rfl with h9 | h9
          · have := HHO.out.2.2 _ _ h9; omega
          · have h10 : cb < W1.heap.size := cell_lt HCB.out.c0
            omega
        · have h1 : Chg (fun j => j = r) X w2 := (Chg.of_kept HK1.out).trans HC2.out
          exact h1.thn2 kk (fun j hj e => by have e' : j = cb := e; have := HLT.out; omega))
      unfold set5 at hV
      rw [← hV]
      clear s0 s1 s2 s3 s4 hV
      refine bodyPost_ret (v := .tuple #[.agg #[.int .i64 0, .int .i64 0, .int .i64 0, .int .i64 0, .int .i64 0], .bool false]) ?_ rfl ⟨rfl, HRR.out⟩
      simp only [results, show Tryz.f65.results = #[.cell 4 29, .tmp 5] from rfl]
      obtain ⟨s0, s1, s2, s3, s4⟩ := c5
      go_simp
  · have hin : n < 0 := by omega
    simp only [if_neg (fun e : 0 ≤ n ∧ n < M => hi e.1)]
    go_enter Tryz.func65, Tryz.ntmps65
    go_upto_region 1 with fail
    rw [← hW1, ← hcb]
    clear hW1 hcb
    have s0 := HCB.out.c0
    have s1 : W1.cell? ⟨cb, 1, none⟩ = some (.int .i64 0) := HCB.out.ck 0 (by omega)
    have s2 : W1.cell? ⟨cb, 2, none⟩ = some (.int .i64 0) := HCB.out.ck 1 (by omega)
    have s3 : W1.cell? ⟨cb, 3, none⟩ = some (.int .i64 0) := HCB.out.ck 2 (by omega)
    have s4 : W1.cell? ⟨cb, 4, none⟩ = some (.int .i64 0) := HCB.out.ck 3 (by omega)
    have f0 := HCB.out.fz 0
    have f1 := HCB.out.fz 1
    have f2 := HCB.out.fz 2
    have f3 := HCB.out.fz 3
    have f4 := HCB.out.fz 4
    go_wp2_with fail
    obtain ⟨V, hV⟩ : ∃ V, V = set5 W1 cb (.int .i64 0) (.int .i64 0) (.int .i64 0) (.int .i64 0) (.int .i64 0) := ⟨_, rfl⟩
    have c5 := set5_cells s0 s1 s2 s3 s4 (.int .i64 0) (.int .i64 0) (.int .i64 0) (.int .i64 0) (.int .i64 0)
    have kk := set5_kept (HK1.out) HLT.out (.int .i64 0) (.int .i64 0) (.int .i64 0) (.int .i64 0) (.int .i64 0)
    rw [← hV] at c5 kk
    unfold set5 at hV
    rw [← hV]
    clear s0 s1 s2 s3 s4 hV
    refine bodyPost_ret (v := .tuple #[.agg #[.int .i64 0, .int .i64 0, .int .i64 0, .int .i64 0, .int .i64 0], .bool false]) ?_ rfl ⟨rfl, HQ.out.rr kk⟩
    simp only [results, show Tryz.f65.results = #[.cell 4 29, .tmp 5] from rfl]
    obtain ⟨s0, s1, s2, s3, s4⟩ := c5
    go_simp
end
end Go.Proofs.YtmedgkccicbieaaGreat
