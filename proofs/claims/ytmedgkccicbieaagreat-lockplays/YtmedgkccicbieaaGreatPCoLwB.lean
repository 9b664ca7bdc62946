/- The definition's space: Within, Inside, Swap. · coord: what the rows that play with both spaces share. -/
import Derived.Test.YtmedgkccicbieaaGreatPTk
import Derived.Test.YtmedgkccicbieaaGreatPRefCo6B
import Derived.Test.YtmedgkccicbieaaGreatPCellsFr
namespace Go.Proofs.YtmedgkccicbieaaGreat
open Go.RowKit Go.Maps
set_option linter.unusedSimpArgs false
set_option linter.unusedVariables false

section
variable {W0 X Y Z V : World} {r q : Nat} {ds : List Dm} {ms : List ByteArray} {rt : Nat → Nat} {y4 y5 : Value} {pp pp' : Option (Nat × Nat)}
theorem rr_trans (h : RQ W0 r q ds y4 y5 pp' Y) (hn : Nx pp pp' X.heap.size) (hc : Chg (fun j => j = r) X Y) (k : Kept Y Z) (h2 : RR W0 r q ds y4 y5 pp' Z V) : RR W0 r q ds y4 y5 pp X V := by
  obtain ⟨⟨p3, h3, h4⟩, h5⟩ := h2
  exact ⟨⟨p3, h3, hn.trans h4 (Nat.le_trans hc.size k.size)⟩, (hc.trans (Chg.of_kept k)).trans h5⟩
def WinP (W0 : World) (r q : Nat) (ds : List Dm) (y4 y5 : Value) (pp : Option (Nat × Nat)) (X : World) (p : Prop) (e : Ending) (w' : World) : Prop := ∃ b, e = .returned (.bool b) ∧ (b = true ↔ p) ∧ RR W0 r q ds y4 y5 pp X w'
set_option maxHeartbeats 8000000 in
set_option maxRecDepth 100000 in
theorem r7_Within (hE : RE W0 r q ds ms rt) (h : RQ W0 r q ds y4 y5 pp X) (cm : Int) (at_ : Nat → Int) (em : Int) (et : Nat → Int) : Calls Tryz.prog 61 #[.pointer (some ⟨r, 0, none⟩), cellV cm at_, cellV em et] X (WinP W0 r q ds y4 y5 pp X (inC ms ds cm at_ em et)) := by
  obtain ⟨cb, hcb⟩ : ∃ x, x = X.heap.size := ⟨_, rfl⟩
  obtain ⟨eb, heb⟩ : ∃ x, x = X.heap.size + 1 := ⟨_, rfl⟩
  obtain ⟨WA, hWA⟩ : ∃ V, V = X.alloc (.cells #[.int .i64 cm, .int .i64 (at_ 0), .int .i64 (at_ 1), .int .i64 (at_ 2), .int .i64 (at_ 3)] 29) := ⟨_, rfl⟩
  obtain ⟨W1, hW1⟩ : ∃ V, V = WA.alloc (.cells #[.int .i64 em, .int .i64 (et 0), .int .i64 (et 1), .int .i64 (et 2), .int .i64 (et 3)] 29) := ⟨_, rfl⟩
  have kA : Kept X WA := by rw [hWA]; exact (Kept.refl X).alloc _
  have kA1 : Kept WA W1 := by rw [hW1]; exact (Kept.refl WA).alloc _
  have k1 : Kept X W1 := kA.trans kA1
  have HK1 := hidMk k1
  have HCC := hidMk (show ∀ Y, Kept W1 Y → _ from fun Y k => cell_box X cm at_ 29 hcb Y (by rw [← hWA]; exact kA1.trans k))
  have heb' : eb = WA.heap.size := by rw [hWA, World.size_alloc]; exact heb
  have HEC := hidMk (show ∀ Y, Kept W1 Y → _ from fun Y k => cell_box WA em et 29 heb' Y (by rw [← hW1]; exact k))
  have HNR := hidMk (show cb ≠ r ∧ eb ≠ r from by have := h.lt; omega)
  have HC0 := hidMk (show ∀ Y, Kept W1 Y → Y.cell? ⟨r, 0, none⟩ = some (.pointer (some ⟨q, 0, none⟩)) from fun Y k => (k1.trans k).cellp h.c0)
  have HRC := hidMk (show ∀ Y, Kept W1 Y → _ from fun Y k => ref6_Right (hE.rd.kept (h.kp.trans (k1.trans k))) hE.ct.d4 cm at_)
  have HRE := hidMk (show ∀ Y, Kept W1 Y → _ from fun Y k => ref6_Right (hE.rd.kept (h.kp.trans (k1.trans k))) hE.ct.d4 em et)
  have HQ := hidMk h
  have HE := hidMk hE
  obtain ⟨tb, tc, ma, mc, hg⟩ := hE.get
  have HGT := hidMk hg
  have hd4 := hE.ct.d4
  obtain ⟨D, hD⟩ : ∃ D, D = ds.length := ⟨_, rfl⟩
  rw [← hD] at hd4
  have HDD := hidMk hD
  have HHC := hidMk hcb
  have HHE := hidMk heb
  rw [hWA] at hW1
  unfold cellV at *
  clear hg hE h k1 hD kA kA1 hWA heb'
  cases hr1 : rightB ms ds cm at_ with
  | false =>
    rw [hr1] at HRC
    go_enter Tryz.func61, Tryz.ntmps61
    go_upto_region 1 with fail
    rw [← hW1, ← heb, ← hcb]
    clear hW1 heb hcb
    refine wp_region_held_drew (S := (fun w' => Kept W1 w')) (by kernel_rfl) ?_ (fun hHeld => ?_)
    · exact (Kept.refl W1).drew
    refine tkL 0 8 (v := ?_) rfl ?_ ?_
    rotate_left
    · (intro w9 hSw; have c0 := HC0.out w9 hSw; obtain ⟨⟨e0, e1, e2, e3, e4⟩, _⟩ := HCC.out w9 hSw; obtain ⟨⟨d0, d1, d2, d3, d4⟩, _⟩ := HEC.out w9 hSw; clear hSw; go_simp; (try with_reducible rfl))
    (try simp only [tkS])
    refine tkL 1 9 (v := ?_) rfl ?_ ?_
    rotate_left
    · (intro w9 hSw; have c0 := HC0.out w9 hSw; obtain ⟨⟨e0, e1, e2, e3, e4⟩, _⟩ := HCC.out w9 hSw; obtain ⟨⟨d0, d1, d2, d3, d4⟩, _⟩ := HEC.out w9 hSw; clear hSw; go_simp; (try with_reducible rfl))
    (try simp only [tkS])
    refine tkL 2 10 (v := ?_) rfl ?_ ?_
    rotate_left
    · (intro w9 hSw; have c0 := HC0.out w9 hSw; obtain ⟨⟨e0, e1, e2, e3, e4⟩, _⟩ := HCC.out w9 hSw; obtain ⟨⟨d0, d1, d2, d3, d4⟩, _⟩ := HEC.out w9 hSw; clear hSw; go_simp; (try with_reducible rfl))
    (try simp only [tkS])
    refine tkL 3 11 (v := ?_) rfl ?_ ?_
    rotate_left
    · (intro w9 hSw; have c0 := HC0.out w9 hSw; obtain ⟨⟨e0, e1, e2, e3, e4⟩, _⟩ := HCC.out w9 hSw; obtain ⟨⟨d0, d1, d2, d3, d4⟩, _⟩ := HEC.out w9 hSw; clear hSw; go_simp; (try with_reducible rfl))
    (try simp only [tkS])
    refine tkL 4 12 (v := ?_) rfl ?_ ?_
    rotate_left
    · (intro w9 hSw; have c0 := HC0.out w9 hSw; obtain ⟨⟨e0, e1, e2, e3, e4⟩, _⟩ := HCC.out w9 hSw; obtain ⟨⟨d0, d1, d2, d3, d4⟩, _⟩ := HEC.out w9 hSw; clear hSw; go_simp; (try with_reducible rfl))
    (try simp only [tkS])
    refine wpAnyH_ready (rs := [5]) (by kernel_rfl) (by simp) ?_
    refine AllReadyH.cons (o := ⟨some 13, _, _, _, _, _⟩) rfl (fun K hK => ?_) AllReadyH.nil
    go_simp
    refine (HRC.out _ hHeld).mono ?_
    rintro e wR ⟨rfl, kR⟩
    have HKR := hidMk (hHeld.trans kR)
    clear kR
    (try go_wp2_with fail)
    refine hK.out _ _ ?_ (fun hHeld => ?_)
    · exact HKR.out
    clear hK K
    (try simp only [tkS])
    refine tkL 6 14 (v := ?_) rfl ?_ ?_
    rotate_left
    · (intro w9 hSw; have c0 := HC0.out w9 hSw; obtain ⟨⟨e0, e1, e2, e3, e4⟩, _⟩ := HCC.out w9 hSw; obtain ⟨⟨d0, d1, d2, d3, d4⟩, _⟩ := HEC.out w9 hSw; clear hSw; go_simp; (try with_reducible rfl))
    (try simp only [tkS])
    refine tkL 7 15 (v := ?_) rfl ?_ ?_
    rotate_left
    · (intro w9 hSw; have c0 := HC0.out w9 hSw; obtain ⟨⟨e0, e1, e2, e3, e4⟩, _⟩ := HCC.out w9 hSw; obtain ⟨⟨d0, d1, d2, d3, d4⟩, _⟩ := HEC.out w9 hSw; clear hSw; go_simp; (try with_reducible rfl))
    (try simp only [tkS])
    refine tkN 8 16 rfl ?_
    (try simp only [tkS])
    refine tkN 9 17 rfl ?_
    (try simp only [tkS])
    refine tkN 10 18 rfl ?_
    (try simp only [tkS])
    refine tkN 11 19 rfl ?_
    (try simp only [tkS])
    refine tkN 12 20 rfl ?_
    (try simp only [tkS])
    refine tkN 13 21 rfl ?_
    (try simp only [tkS])
    refine tkN 14 22 rfl ?_
    (try simp only [tkS])
    refine tkL 15 23 (v := ?_) rfl ?_ ?_
    rotate_left
    · (intro w9 hSw; have c0 := HC0.out w9 hSw; obtain ⟨⟨e0, e1, e2, e3, e4⟩, _⟩ := HCC.out w9 hSw; obtain ⟨⟨d0, d1, d2, d3, d4⟩, _⟩ := HEC.out w9 hSw; clear hSw; go_simp; (try with_reducible rfl))
    (try simp only [tkS])
    refine tkL 16 24 (v := ?_) rfl ?_ ?_
    rotate_left
    · (intro w9 hSw; have c0 := HC0.out w9 hSw; obtain ⟨⟨e0, e1, e2, e3, e4⟩, _⟩ := HCC.out w9 hSw; obtain ⟨⟨d0, d1, d2, d3, d4⟩, _⟩ := HEC.out w9 hSw; clear hSw; go_simp; (try with_reducible rfl))
    (try simp only [tkS])
    refine tkN 17 25 rfl ?_
    (try simp only [tkS])
    refine tkN 18 26 rfl ?_
    (try simp only [tkS])
    refine tkN 19 27 rfl ?_
    (try simp only [tkS])
    refine tkN 20 28 rfl ?_
    (try simp only [tkS])
    refine tkN 21 29 rfl ?_
    (try simp only [tkS])
    refine tkL 22 30 (v := ?_) rfl ?_ ?_
    rotate_left
    · (intro w9 hSw; have c0 := HC0.out w9 hSw; obtain ⟨⟨e0, e1, e2, e3, e4⟩, _⟩ := HCC.out w9 hSw; obtain ⟨⟨d0, d1, d2, d3, d4⟩, _⟩ := HEC.out w9 hSw; clear hSw; go_simp; (try with_reducible rfl))
    (try simp only [tkS])
    refine wpAnyH_done (by kernel_rfl) ?_ _
    clear hHeld
    go_wp2_with fail
    go_ret
    exact ⟨false, rfl, ⟨fun e => (by cases e), fun e => (by have := e.1; rw [hr1] at this; cases this)⟩, HQ.out.rr (HK1.out.trans HKR.out)⟩
  | true =>
    rw [hr1] at HRC
    cases hr2 : rightB ms ds em et with
    | false =>
      rw [hr2] at HRE
      go_enter Tryz.func61, Tryz.ntmps61
      go_upto_region 1 with fail
      rw [← hW1, ← heb, ← hcb]
      clear hW1 heb hcb
      refine wp_region_held_drew (S := (fun w' => Kept W1 w')) (by kernel_rfl) ?_ (fun hHeld => ?_)
      · exact (Kept.refl W1).drew
      refine tkL 0 8 (v := ?_) rfl ?_ ?_
      rotate_left
      · (intro w9 hSw; have c0 := HC0.out w9 hSw; obtain ⟨⟨e0, e1, e2, e3, e4⟩, _⟩ := HCC.out w9 hSw; obtain ⟨⟨d0, d1, d2, d3, d4⟩, _⟩ := HEC.out w9 hSw; clear hSw; go_simp; (try with_reducible rfl))
      (try simp only [tkS])
      refine tkL 1 9 (v := ?_) rfl ?_ ?_
      rotate_left
      · (intro w9 hSw; have c0 := HC0.out w9 hSw; obtain ⟨⟨e0, e1, e2, e3, e4⟩, _⟩ := HCC.out w9 hSw; obtain ⟨⟨d0, d1, d2, d3, d4⟩, _⟩ := HEC.out w9 hSw; clear hSw; go_simp; (try with_reducible rfl))
      (try simp only [tkS])
      refine tkL 2 10 (v := ?_) rfl ?_ ?_
      rotate_left
      · (intro w9 hSw; have c0 := HC0.out w9 hSw; obtain ⟨⟨e0, e1, e2, e3, e4⟩, _⟩ := HCC.out w9 hSw; obtain ⟨⟨d0, d1, d2, d3, d4⟩, _⟩ := HEC.out w9 hSw; clear hSw; go_simp; (try with_reducible rfl))
      (try simp only [tkS])
      refine tkL 3 11 (v := ?_) rfl ?_ ?_
      rotate_left
      · (intro w9 hSw; have c0 := HC0.out w9 hSw; obtain ⟨⟨e0, e1, e2, e3, e4⟩, _⟩ := HCC.out w9 hSw; obtain ⟨⟨d0, d1, d2, d3, d4⟩, _⟩ := HEC.out w9 hSw; clear hSw; go_simp; (try with_reducible rfl))
      (try simp only [tkS])
      refine tkL 4 12 (v := ?_) rfl ?_ ?_
      rotate_left
      · (intro w9 hSw; have c0 := HC0.out w9 hSw; obtain ⟨⟨e0, e1, e2, e3, e4⟩, _⟩ := HCC.out w9 hSw; obtain ⟨⟨d0, d1, d2, d3, d4⟩, _⟩ := HEC.out w9 hSw; clear hSw; go_simp; (try with_reducible rfl))
      (try simp only [tkS])
      refine wpAnyH_ready (rs := [5]) (by kernel_rfl) (by simp) ?_
      refine AllReadyH.cons (o := ⟨some 13, _, _, _, _, _⟩) rfl (fun K hK => ?_) AllReadyH.nil
      go_simp
      refine (HRC.out _ hHeld).mono ?_
      rintro e wR ⟨rfl, kR⟩
      have HKR := hidMk (hHeld.trans kR)
      clear kR
      (try go_wp2_with fail)
      refine hK.out _ _ ?_ (fun hHeld => ?_)
      · (first | exact HKE.out | exact HKR.out)
      clear hK K
      (try simp only [tkS])
      refine tkL 6 14 (v := ?_) rfl ?_ ?_
      rotate_left
      · (intro w9 hSw; have c0 := HC0.out w9 hSw; obtain ⟨⟨e0, e1, e2, e3, e4⟩, _⟩ := HCC.out w9 hSw; obtain ⟨⟨d0, d1, d2, d3, d4⟩, _⟩ := HEC.out w9 hSw; clear hSw; go_simp; (try with_reducible rfl))
      (try simp only [tkS])
      refine tkL 7 15 (v := ?_) rfl ?_ ?_
      rotate_left
      · (intro w9 hSw; have c0 := HC0.out w9 hSw; obtain ⟨⟨e0, e1, e2, e3, e4⟩, _⟩ := HCC.out w9 hSw; obtain ⟨⟨d0, d1, d2, d3, d4⟩, _⟩ := HEC.out w9 hSw; clear hSw; go_simp; (try with_reducible rfl))
      (try simp only [tkS])
      refine tkL 8 16 (v := ?_) rfl ?_ ?_
      rotate_left
      · (intro w9 hSw; have c0 := HC0.out w9 hSw; obtain ⟨⟨e0, e1, e2, e3, e4⟩, _⟩ := HCC.out w9 hSw; obtain ⟨⟨d0, d1, d2, d3, d4⟩, _⟩ := HEC.out w9 hSw; clear hSw; go_simp; (try with_reducible rfl))
      (try simp only [tkS])
      refine tkL 9 17 (v := ?_) rfl ?_ ?_
      rotate_left
      · (intro w9 hSw; have c0 := HC0.out w9 hSw; obtain ⟨⟨e0, e1, e2, e3, e4⟩, _⟩ := HCC.out w9 hSw; obtain ⟨⟨d0, d1, d2, d3, d4⟩, _⟩ := HEC.out w9 hSw; clear hSw; go_simp; (try with_reducible rfl))
      (try simp only [tkS])
      refine tkL 10 18 (v := ?_) rfl ?_ ?_
      rotate_left
      · (intro w9 hSw; have c0 := HC0.out w9 hSw; obtain ⟨⟨e0, e1, e2, e3, e4⟩, _⟩ := HCC.out w9 hSw; obtain ⟨⟨d0, d1, d2, d3, d4⟩, _⟩ := HEC.out w9 hSw; clear hSw; go_simp; (try with_reducible rfl))
      (try simp only [tkS])
      refine tkL 11 19 (v := ?_) rfl ?_ ?_
      rotate_left
      · (intro w9 hSw; have c0 := HC0.out w9 hSw; obtain ⟨⟨e0, e1, e2, e3, e4⟩, _⟩ := HCC.out w9 hSw; obtain ⟨⟨d0, d1, d2, d3, d4⟩, _⟩ := HEC.out w9 hSw; clear hSw; go_simp; (try with_reducible rfl))
      (try simp only [tkS])
      refine tkL 12 20 (v := ?_) rfl ?_ ?_
      rotate_left
      · (intro w9 hSw; have c0 := HC0.out w9 hSw; obtain ⟨⟨e0, e1, e2, e3, e4⟩, _⟩ := HCC.out w9 hSw; obtain ⟨⟨d0, d1, d2, d3, d4⟩, _⟩ := HEC.out w9 hSw; clear hSw; go_simp; (try with_reducible rfl))
      (try simp only [tkS])
      refine wpAnyH_ready (rs := [13]) (by kernel_rfl) (by simp) ?_
      refine AllReadyH.cons (o := ⟨some 21, _, _, _, _, _⟩) rfl (fun K hK => ?_) AllReadyH.nil
      go_simp
      refine (HRE.out _ HKR.out).mono ?_
      rintro e wE ⟨rfl, kE⟩
      have HKE := hidMk (HKR.out.trans kE)
      clear kE
      (try go_wp2_with fail)
      refine hK.out _ _ ?_ (fun hHeld => ?_)
      · (first | exact HKE.out | exact HKR.out)
      clear hK K
      (try simp only [tkS])
      refine tkL 14 22 (v := ?_) rfl ?_ ?_
      rotate_left
      · (intro w9 hSw; have c0 := HC0.out w9 hSw; obtain ⟨⟨e0, e1, e2, e3, e4⟩, _⟩ := HCC.out w9 hSw; obtain ⟨⟨d0, d1, d2, d3, d4⟩, _⟩ := HEC.out w9 hSw; clear hSw; go_simp; (try with_reducible rfl))
      (try simp only [tkS])
      refine tkL 15 23 (v := ?_) rfl ?_ ?_
      rotate_left
      · (intro w9 hSw; have c0 := HC0.out w9 hSw; obtain ⟨⟨e0, e1, e2, e3, e4⟩, _⟩ := HCC.out w9 hSw; obtain ⟨⟨d0, d1, d2, d3, d4⟩, _⟩ := HEC.out w9 hSw; clear hSw; go_simp; (try with_reducible rfl))
      (try simp only [tkS])
      refine tkL 16 24 (v := ?_) rfl ?_ ?_
      rotate_left
      · (intro w9 hSw; have c0 := HC0.out w9 hSw; obtain ⟨⟨e0, e1, e2, e3, e4⟩, _⟩ := HCC.out w9 hSw; obtain ⟨⟨d0, d1, d2, d3, d4⟩, _⟩ := HEC.out w9 hSw; clear hSw; go_simp; (try with_reducible rfl))
      (try simp only [tkS])
      refine tkN 17 25 rfl ?_
      (try simp only [tkS])
      refine tkN 18 26 rfl ?_
      (try simp only [tkS])
      refine tkN 19 27 rfl ?_
      (try simp only [tkS])
      refine tkN 20 28 rfl ?_
      (try simp only [tkS])
      refine tkN 21 29 rfl ?_
      (try simp only [tkS])
      refine tkL 22 30 (v := ?_) rfl ?_ ?_
      rotate_left
      · (intro w9 hSw; have c0 := HC0.out w9 hSw; obtain ⟨⟨e0, e1, e2, e3, e4⟩, _⟩ := HCC.out w9 hSw; obtain ⟨⟨d0, d1, d2, d3, d4⟩, _⟩ := HEC.out w9 hSw; clear hSw; go_simp; (try with_reducible rfl))
      (try simp only [tkS])
      refine wpAnyH_done (by kernel_rfl) ?_ _
      clear hHeld
      go_wp2_with fail
      go_ret
      exact ⟨false, rfl, ⟨fun e => (by cases e), fun e => (by have := e.2.1; rw [hr2] at this; cases this)⟩, HQ.out.rr (HK1.out.trans HKE.out)⟩
    | true =>
      rw [hr2] at HRE
      by_cases hm : cm = em
      · subst hm
        go_enter Tryz.func61, Tryz.ntmps61
        go_upto_region 1 with fail
        rw [← hW1, ← heb, ← hcb]
        clear hW1 heb hcb
        refine wp_region_held_drew (S := (fun w' => Kept W1 w')) (by kernel_rfl) ?_ (fun hHeld => ?_)
        · exact (Kept.refl W1).drew
        refine tkL 0 8 (v := ?_) rfl ?_ ?_
        rotate_left
        · (intro w9 hSw; have c0 := HC0.out w9 hSw; obtain ⟨⟨e0, e1, e2, e3, e4⟩, _⟩ := HCC.out w9 hSw; obtain ⟨⟨d0, d1, d2, d3, d4⟩, _⟩ := HEC.out w9 hSw; clear hSw; go_simp; (try with_reducible rfl))
        (try simp only [tkS])
        refine tkL 1 9 (v := ?_) rfl ?_ ?_
        rotate_left
        · (intro w9 hSw; have c0 := HC0.out w9 hSw; obtain ⟨⟨e0, e1, e2, e3, e4⟩, _⟩ := HCC.out w9 hSw; obtain ⟨⟨d0, d1, d2, d3, d4⟩, _⟩ := HEC.out w9 hSw; clear hSw; go_simp; (try with_reducible rfl))
        (try simp only [tkS])
        refine tkL 2 10 (v := ?_) rfl ?_ ?_
        rotate_left
        · (intro w9 hSw; have c0 := HC0.out w9 hSw; obtain ⟨⟨e0, e1, e2, e3, e4⟩, _⟩ := HCC.out w9 hSw; obtain ⟨⟨d0, d1, d2, d3, d4⟩, _⟩ := HEC.out w9 hSw; clear hSw; go_simp; (try with_reducible rfl))
        (try simp only [tkS])
        refine tkL 3 11 (v := ?_) rfl ?_ ?_
        rotate_left
        · (intro w9 hSw; have c0 := HC0.out w9 hSw; obtain ⟨⟨e0, e1, e2, e3, e4⟩, _⟩ := HCC.out w9 hSw; obtain ⟨⟨d0, d1, d2, d3, d4⟩, _⟩ := HEC.out w9 hSw; clear hSw; go_simp; (try with_reducible rfl))
        (try simp only [tkS])
        refine tkL 4 12 (v := ?_) rfl ?_ ?_
        rotate_left
        · (intro w9 hSw; have c0 := HC0.out w9 hSw; obtain ⟨⟨e0, e1, e2, e3, e4⟩, _⟩ := HCC.out w9 hSw; obtain ⟨⟨d0, d1, d2, d3, d4⟩, _⟩ := HEC.out w9 hSw; clear hSw; go_simp; (try with_reducible rfl))
        (try simp only [tkS])
        refine wpAnyH_ready (rs := [5]) (by kernel_rfl) (by simp) ?_
        refine AllReadyH.cons (o := ⟨some 13, _, _, _, _, _⟩) rfl (fun K hK => ?_) AllReadyH.nil
        go_simp
        refine (HRC.out _ hHeld).mono ?_
        rintro e wR ⟨rfl, kR⟩
        have HKR := hidMk (hHeld.trans kR)
        clear kR
        (try go_wp2_with fail)
        refine hK.out _ _ ?_ (fun hHeld => ?_)
        · (first | exact HKE.out | exact HKR.out)
        clear hK K
        (try simp only [tkS])
        refine tkL 6 14 (v := ?_) rfl ?_ ?_
        rotate_left
        · (intro w9 hSw; have c0 := HC0.out w9 hSw; obtain ⟨⟨e0, e1, e2, e3, e4⟩, _⟩ := HCC.out w9 hSw; obtain ⟨⟨d0, d1, d2, d3, d4⟩, _⟩ := HEC.out w9 hSw; clear hSw; go_simp; (try with_reducible rfl))
        (try simp only [tkS])
        refine tkL 7 15 (v := ?_) rfl ?_ ?_
        rotate_left
        · (intro w9 hSw; have c0 := HC0.out w9 hSw; obtain ⟨⟨e0, e1, e2, e3, e4⟩, _⟩ := HCC.out w9 hSw; obtain ⟨⟨d0, d1, d2, d3, d4⟩, _⟩ := HEC.out w9 hSw; clear hSw; go_simp; (try with_reducible rfl))
        (try simp only [tkS])
        refine tkL 8 16 (v := ?_) rfl ?_ ?_
        rotate_left
        · (intro w9 hSw; have c0 := HC0.out w9 hSw; obtain ⟨⟨e0, e1, e2, e3, e4⟩, _⟩ := HCC.out w9 hSw; obtain ⟨⟨d0, d1, d2, d3, d4⟩, _⟩ := HEC.out w9 hSw; clear hSw; go_simp; (try with_reducible rfl))
        (try simp only [tkS])
        refine tkL 9 17 (v := ?_) rfl ?_ ?_
        rotate_left
        · (intro w9 hSw; have c0 := HC0.out w9 hSw; obtain ⟨⟨e0, e1, e2, e3, e4⟩, _⟩ := HCC.out w9 hSw; obtain ⟨⟨d0, d1, d2, d3, d4⟩, _⟩ := HEC.out w9 hSw; clear hSw; go_simp; (try with_reducible rfl))
        (try simp only [tkS])
        refine tkL 10 18 (v := ?_) rfl ?_ ?_
        rotate_left
        · (intro w9 hSw; have c0 := HC0.out w9 hSw; obtain ⟨⟨e0, e1, e2, e3, e4⟩, _⟩ := HCC.out w9 hSw; obtain ⟨⟨d0, d1, d2, d3, d4⟩, _⟩ := HEC.out w9 hSw; clear hSw; go_simp; (try with_reducible rfl))
        (try simp only [tkS])
        refine tkL 11 19 (v := ?_) rfl ?_ ?_
        rotate_left
        · (intro w9 hSw; have c0 := HC0.out w9 hSw; obtain ⟨⟨e0, e1, e2, e3, e4⟩, _⟩ := HCC.out w9 hSw; obtain ⟨⟨d0, d1, d2, d3, d4⟩, _⟩ := HEC.out w9 hSw; clear hSw; go_simp; (try with_reducible rfl))
        (try simp only [tkS])
        refine tkL 12 20 (v := ?_) rfl ?_ ?_
        rotate_left
        · (intro w9 hSw; have c0 := HC0.out w9 hSw; obtain ⟨⟨e0, e1, e2, e3, e4⟩, _⟩ := HCC.out w9 hSw; obtain ⟨⟨d0, d1, d2, d3, d4⟩, _⟩ := HEC.out w9 hSw; clear hSw; go_simp; (try with_reducible rfl))
        (try simp only [tkS])
        refine wpAnyH_ready (rs := [13]) (by kernel_rfl) (by simp) ?_
        refine AllReadyH.cons (o := ⟨some 21, _, _, _, _, _⟩) rfl (fun K hK => ?_) AllReadyH.nil
        go_simp
        refine (HRE.out _ HKR.out).mono ?_
        rintro e wE ⟨rfl, kE⟩
        have HKE := hidMk (HKR.out.trans kE)
        clear kE
        (try go_wp2_with fail)
        refine hK.out _ _ ?_ (fun hHeld => ?_)
        · (first | exact HKE.out | exact HKR.out)
        clear hK K
        (try simp only [tkS])
        refine tkL 14 22 (v := ?_) rfl ?_ ?_
        rotate_left
        · (intro w9 hSw; have c0 := HC0.out w9 hSw; obtain ⟨⟨e0, e1, e2, e3, e4⟩, _⟩ := HCC.out w9 hSw; obtain ⟨⟨d0, d1, d2, d3, d4⟩, _⟩ := HEC.out w9 hSw; clear hSw; go_simp; (try with_reducible rfl))
        (try simp only [tkS])
        refine tkL 15 23 (v := ?_) rfl ?_ ?_
        rotate_left
        · (intro w9 hSw; have c0 := HC0.out w9 hSw; obtain ⟨⟨e0, e1, e2, e3, e4⟩, _⟩ := HCC.out w9 hSw; obtain ⟨⟨d0, d1, d2, d3, d4⟩, _⟩ := HEC.out w9 hSw; clear hSw; go_simp; (try with_reducible rfl))
        (try simp only [tkS])
        refine tkL 16 24 (v := ?_) rfl ?_ ?_
        rotate_left
        · (intro w9 hSw; have c0 := HC0.out w9 hSw; obtain ⟨⟨e0, e1, e2, e3, e4⟩, _⟩ := HCC.out w9 hSw; obtain ⟨⟨d0, d1, d2, d3, d4⟩, _⟩ := HEC.out w9 hSw; clear hSw; go_simp; (try with_reducible rfl))
        (try simp only [tkS])
        refine tkL 17 25 (v := ?_) rfl ?_ ?_
        rotate_left
        · (intro w9 hSw; have c0 := HC0.out w9 hSw; obtain ⟨⟨e0, e1, e2, e3, e4⟩, _⟩ := HCC.out w9 hSw; obtain ⟨⟨d0, d1, d2, d3, d4⟩, _⟩ := HEC.out w9 hSw; clear hSw; go_simp; (try with_reducible rfl))
        (try simp only [tkS])
        refine tkL 18 26 (v := ?_) rfl ?_ ?_
        rotate_left
        · (intro w9 hSw; have c0 := HC0.out w9 hSw; obtain ⟨⟨e0, e1, e2, e3, e4⟩, _⟩ := HCC.out w9 hSw; obtain ⟨⟨d0, d1, d2, d3, d4⟩, _⟩ := HEC.out w9 hSw; clear hSw; go_simp; (try with_reducible rfl))
        (try simp only [tkS])
        refine tkL 19 27 (v := ?_) rfl ?_ ?_
        rotate_left
        · (intro w9 hSw; have c0 := HC0.out w9 hSw; obtain ⟨⟨e0, e1, e2, e3, e4⟩, _⟩ := HCC.out w9 hSw; obtain ⟨⟨d0, d1, d2, d3, d4⟩, _⟩ := HEC.out w9 hSw; clear hSw; go_simp; (try with_reducible rfl))
        (try simp only [tkS])
        refine tkL 20 28 (v := ?_) rfl ?_ ?_
        rotate_left
        · (intro w9 hSw; have c0 := HC0.out w9 hSw; obtain ⟨⟨e0, e1, e2, e3, e4⟩, _⟩ := HCC.out w9 hSw; obtain ⟨⟨d0, d1, d2, d3, d4⟩, _⟩ := HEC.out w9 hSw; clear hSw; go_simp; (try with_reducible rfl))
        (try simp only [tkS])
        refine tkL 21 29 (v := ?_) rfl ?_ ?_
        rotate_left
        · (intro w9 hSw; have c0 := HC0.out w9 hSw; obtain ⟨⟨e0, e1, e2, e3, e4⟩, _⟩ := HCC.out w9 hSw; obtain ⟨⟨d0, d1, d2, d3, d4⟩, _⟩ := HEC.out w9 hSw; clear hSw; go_simp; (try with_reducible rfl))
        (try simp only [tkS])
        refine tkL 22 30 (v := ?_) rfl ?_ ?_
        rotate_left
        · (intro w9 hSw; have c0 := HC0.out w9 hSw; obtain ⟨⟨e0, e1, e2, e3, e4⟩, _⟩ := HCC.out w9 hSw; obtain ⟨⟨d0, d1, d2, d3, d4⟩, _⟩ := HEC.out w9 hSw; clear hSw; go_simp; (try with_reducible rfl))
        (try simp only [tkS])
        refine wpAnyH_done (by kernel_rfl) ?_ _
        clear hHeld
        have HIC := hidMk (right_le HE.out.ct hr1).2.2
        have HIE := hidMk (right_le HE.out.ct hr2).2.2
        have HPP := hidMk (r7_prepare HE.out (HQ.out.keep (HK1.out.trans HKE.out)))
        clear HRC HRE HC0
        go_wp2_with fail
        refine HPP.out.mono ?_
        rintro e w2 ⟨rfl, ⟨B2, H2, hq2, hnx⟩, hc2⟩
        have HQ2 := hidMk hq2
        have HNX := hidMk (hnx.le (HK1.out.trans HKE.out).size)
        have HX2 := hidMk (show Chg (fun j => j = r) X w2 from (Chg.of_kept (HK1.out.trans HKE.out)).trans hc2)
        have HC2 := hidMk (show (∀ j, j < 4 → w2.cell? ⟨cb, 1 + j, none⟩ = some (.int .i64 (at_ j))) ∧ ∀ j, j < 4 → w2.cell? ⟨eb, 1 + j, none⟩ = some (.int .i64 (et j)) from
          ⟨fun j hj => hc2.cellp ((HCC.out wE HKE.out).2 j hj) HNR.out.1, fun j hj => hc2.cellp ((HEC.out wE HKE.out).2 j hj) HNR.out.2⟩)
        clear hnx hq2 hc2 HPP HCC HEC
        go_wp2_with fail
        go_loopg [7] (D + 1) (fun gg x wr => ∃ i : Nat, i + gg = D + 1 ∧ i ≤ D ∧ x = .int .i64 i ∧ Hid (Kept w2 wr ∧ ∀ j, j < i → et j ∈ abvA (dmL ds j) (at_ j)))
        case atStart => exact ⟨0, by omega, by omega, rfl, hidMk ⟨Kept.refl _, fun j hj => absurd hj (by omega)⟩⟩
        case round =>
          obtain ⟨i, hig, hiD, rfl, HS0⟩ := hrel
          have HG := hidMk hig
          clear hig
          have HS := hidMk HS0.out.1
          have HAL := hidMk HS0.out.2
          clear HS0
          have hqr := HQ2.out.keep HS.out
          have c0 := hqr.c0
          have q4 := (HGT.out wr hqr.kp).1
          rw [← HDD.out] at q4
          by_cases hi : i < D
          · have hi' : (i : Int) < (D : Int) := by omega
            have hi4 : (i : Int) < 4 := by omega
            have hid : i < ds.length := by have := HDD.out; omega
            obtain ⟨ai, hai⟩ : ∃ a : Nat, at_ i = a := ⟨(at_ i).toNat, by have := HIC.out i hid; omega⟩
            obtain ⟨ei, hei⟩ : ∃ a : Nat, et i = a := ⟨(et i).toNat, by have := HIE.out i hid; omega⟩
            have hail : ai < (dmL ds i).length := by have := HIC.out i hid; omega
            have heil : ei < (dmL ds i).length := by have := HIE.out i hid; omega
            have hail' : (ai : Int) < ((dmL ds i).length : Int) := by omega
            have heil' : (ei : Int) < ((dmL ds i).length : Int) := by omega
            obtain ⟨g1, d1, h1, hk1⟩ := hqr.inn HE.out.ct.one HE.out.ct.d1
            obtain ⟨g2, d2, h2, hk2⟩ := hk1 i hid
            obtain ⟨g3, d3, h3, hk3⟩ := hk2 ai hail
            have h4 := hk3 ei heil
            have HI1 := hidMk (show wr.cell? ⟨r, 3, none⟩ = some (.slice (some ⟨g1, 0, none⟩) D d1) from by rw [HDD.out]; exact h1)
            have HI2 := hidMk h2
            have HI3 := hidMk h3
            have HAJ := hidMk (show wr.cell? ⟨cb, 1 + i, none⟩ = some (.int .i64 (ai : Nat)) from by rw [← hai]; exact HS.out.cellp (HC2.out.1 i (by omega)))
            have HEJ := hidMk (show wr.cell? ⟨eb, 1 + i, none⟩ = some (.int .i64 (ei : Nat)) from by rw [← hei]; exact HS.out.cellp (HC2.out.2 i (by omega)))
            obtain ⟨bv, hbv⟩ : ∃ b, b = decide ((ei : Int) ∈ abvA (dmL ds i) (ai : Int)) := ⟨_, rfl⟩
            rw [← hbv] at h4
            have HI4 := hidMk h4
            have HBV := hidMk (show bv = true ↔ et i ∈ abvA (dmL ds i) (at_ i) from by rw [hbv, hai, hei]; simp)
            clear hqr h1 hk1 h2 hk2 h3 hk3 h4 hbv
            generalize (dmL ds i).length = n5 at *
            go_upto_region 7 with fail
            clear c0 q4
            refine wp_region_held_drew (S := (fun w' => Kept wr w')) (by kernel_rfl) ?_ (fun hHeld => ?_)
            · exact (Kept.refl wr).drew
            refine tkL 0 45 (v := ?_) rfl ?_ ?_
            rotate_left
            · (intro w9 hSw; have i1 := hSw.cellp HI1.out; have i2 := hSw.cellp HI2.out; have i3 := hSw.cellp HI3.out; have i4 := hSw.cellp HI4.out; have aj := hSw.cellp HAJ.out; have ej := hSw.cellp HEJ.out; clear hSw; go_simp; (try with_reducible rfl))
            (try simp only [tkS])
            refine tkL 1 46 (v := ?_) rfl ?_ ?_
            rotate_left
            · (intro w9 hSw; have i1 := hSw.cellp HI1.out; have i2 := hSw.cellp HI2.out; have i3 := hSw.cellp HI3.out; have i4 := hSw.cellp HI4.out; have aj := hSw.cellp HAJ.out; have ej := hSw.cellp HEJ.out; clear hSw; go_simp; (try with_reducible rfl))
            (try simp only [tkS])
            refine tkL 2 47 (v := ?_) rfl ?_ ?_
            rotate_left
            · (intro w9 hSw; have i1 := hSw.cellp HI1.out; have i2 := hSw.cellp HI2.out; have i3 := hSw.cellp HI3.out; have i4 := hSw.cellp HI4.out; have aj := hSw.cellp HAJ.out; have ej := hSw.cellp HEJ.out; clear hSw; go_simp; (try with_reducible rfl))
            (try simp only [tkS])
            refine tkL 3 48 (v := ?_) rfl ?_ ?_
            rotate_left
            · (intro w9 hSw; have i1 := hSw.cellp HI1.out; have i2 := hSw.cellp HI2.out; have i3 := hSw.cellp HI3.out; have i4 := hSw.cellp HI4.out; have aj := hSw.cellp HAJ.out; have ej := hSw.cellp HEJ.out; clear hSw; go_simp; (try with_reducible rfl))
            (try simp only [tkS])
            refine tkL 4 49 (v := ?_) rfl ?_ ?_
            rotate_left
            · (intro w9 hSw; have i1 := hSw.cellp HI1.out; have i2 := hSw.cellp HI2.out; have i3 := hSw.cellp HI3.out; have i4 := hSw.cellp HI4.out; have aj := hSw.cellp HAJ.out; have ej := hSw.cellp HEJ.out; clear hSw; go_simp; (try with_reducible rfl))
            (try simp only [tkS])
            refine tkL 5 50 (v := ?_) rfl ?_ ?_
            rotate_left
            · (intro w9 hSw; have i1 := hSw.cellp HI1.out; have i2 := hSw.cellp HI2.out; have i3 := hSw.cellp HI3.out; have i4 := hSw.cellp HI4.out; have aj := hSw.cellp HAJ.out; have ej := hSw.cellp HEJ.out; clear hSw; go_simp; (try with_reducible rfl))
            (try simp only [tkS])
            refine tkL 6 51 (v := ?_) rfl ?_ ?_
            rotate_left
            · (intro w9 hSw; have i1 := hSw.cellp HI1.out; have i2 := hSw.cellp HI2.out; have i3 := hSw.cellp HI3.out; have i4 := hSw.cellp HI4.out; have aj := hSw.cellp HAJ.out; have ej := hSw.cellp HEJ.out; clear hSw; go_simp; (try with_reducible rfl))
            (try simp only [tkS])
            refine tkL 7 52 (v := ?_) rfl ?_ ?_
            rotate_left
            · (intro w9 hSw; have i1 := hSw.cellp HI1.out; have i2 := hSw.cellp HI2.out; have i3 := hSw.cellp HI3.out; have i4 := hSw.cellp HI4.out; have aj := hSw.cellp HAJ.out; have ej := hSw.cellp HEJ.out; clear hSw; go_simp; (try with_reducible rfl))
            (try simp only [tkS])
            refine tkL 8 53 (v := ?_) rfl ?_ ?_
            rotate_left
            · (intro w9 hSw; have i1 := hSw.cellp HI1.out; have i2 := hSw.cellp HI2.out; have i3 := hSw.cellp HI3.out; have i4 := hSw.cellp HI4.out; have aj := hSw.cellp HAJ.out; have ej := hSw.cellp HEJ.out; clear hSw; go_simp; (try with_reducible rfl))
            (try simp only [tkS])
            refine tkL 9 54 (v := ?_) rfl ?_ ?_
            rotate_left
            · (intro w9 hSw; have i1 := hSw.cellp HI1.out; have i2 := hSw.cellp HI2.out; have i3 := hSw.cellp HI3.out; have i4 := hSw.cellp HI4.out; have aj := hSw.cellp HAJ.out; have ej := hSw.cellp HEJ.out; clear hSw; go_simp; (try with_reducible rfl))
            (try simp only [tkS])
            refine tkL 10 55 (v := ?_) rfl ?_ ?_
            rotate_left
            · (intro w9 hSw; have i1 := hSw.cellp HI1.out; have i2 := hSw.cellp HI2.out; have i3 := hSw.cellp HI3.out; have i4 := hSw.cellp HI4.out; have aj := hSw.cellp HAJ.out; have ej := hSw.cellp HEJ.out; clear hSw; go_simp; (try with_reducible rfl))
            (try simp only [tkS])
            refine tkL 11 56 (v := ?_) rfl ?_ ?_
            rotate_left
            · (intro w9 hSw; have i1 := hSw.cellp HI1.out; have i2 := hSw.cellp HI2.out; have i3 := hSw.cellp HI3.out; have i4 := hSw.cellp HI4.out; have aj := hSw.cellp HAJ.out; have ej := hSw.cellp HEJ.out; clear hSw; go_simp; (try with_reducible rfl))
            (try simp only [tkS])
            refine tkL 12 57 (v := ?_) rfl ?_ ?_
            rotate_left
            · (intro w9 hSw; have i1 := hSw.cellp HI1.out; have i2 := hSw.cellp HI2.out; have i3 := hSw.cellp HI3.out; have i4 := hSw.cellp HI4.out; have aj := hSw.cellp HAJ.out; have ej := hSw.cellp HEJ.out; clear hSw; go_simp; (try with_reducible rfl))
            (try simp only [tkS])
            refine tkL 13 58 (v := ?_) rfl ?_ ?_
            rotate_left
            · (intro w9 hSw; have i1 := hSw.cellp HI1.out; have i2 := hSw.cellp HI2.out; have i3 := hSw.cellp HI3.out; have i4 := hSw.cellp HI4.out; have aj := hSw.cellp HAJ.out; have ej := hSw.cellp HEJ.out; clear hSw; go_simp; (try with_reducible rfl))
            (try simp only [tkS])
            refine tkL 14 59 (v := ?_) rfl ?_ ?_
            rotate_left
            · (intro w9 hSw; have i1 := hSw.cellp HI1.out; have i2 := hSw.cellp HI2.out; have i3 := hSw.cellp HI3.out; have i4 := hSw.cellp HI4.out; have aj := hSw.cellp HAJ.out; have ej := hSw.cellp HEJ.out; clear hSw; go_simp; (try with_reducible rfl))
            (try simp only [tkS])
            refine tkL 15 60 (v := ?_) rfl ?_ ?_
            rotate_left
            · (intro w9 hSw; have i1 := hSw.cellp HI1.out; have i2 := hSw.cellp HI2.out; have i3 := hSw.cellp HI3.out; have i4 := hSw.cellp HI4.out; have aj := hSw.cellp HAJ.out; have ej := hSw.cellp HEJ.out; clear hSw; go_simp; (try with_reducible rfl))
            (try simp only [tkS])
            refine tkL 16 61 (v := ?_) rfl ?_ ?_
            rotate_left
            · (intro w9 hSw; have i1 := hSw.cellp HI1.out; have i2 := hSw.cellp HI2.out; have i3 := hSw.cellp HI3.out; have i4 := hSw.cellp HI4.out; have aj := hSw.cellp HAJ.out; have ej := hSw.cellp HEJ.out; clear hSw; go_simp; (try with_reducible rfl))
            (try simp only [tkS])
            refine tkL 17 62 (v := ?_) rfl ?_ ?_
            rotate_left
            · (intro w9 hSw; have i1 := hSw.cellp HI1.out; have i2 := hSw.cellp HI2.out; have i3 := hSw.cellp HI3.out; have i4 := hSw.cellp HI4.out; have aj := hSw.cellp HAJ.out; have ej := hSw.cellp HEJ.out; clear hSw; go_simp; (try with_reducible rfl))
            (try simp only [tkS])
            refine tkL 18 63 (v := ?_) rfl ?_ ?_
            rotate_left
            · (intro w9 hSw; have i1 := hSw.cellp HI1.out; have i2 := hSw.cellp HI2.out; have i3 := hSw.cellp HI3.out; have i4 := hSw.cellp HI4.out; have aj := hSw.cellp HAJ.out; have ej := hSw.cellp HEJ.out; clear hSw; go_simp; (try with_reducible rfl))
            (try simp only [tkS])
            refine tkL 19 64 (v := ?_) rfl ?_ ?_
            rotate_left
            · (intro w9 hSw; have i1 := hSw.cellp HI1.out; have i2 := hSw.cellp HI2.out; have i3 := hSw.cellp HI3.out; have i4 := hSw.cellp HI4.out; have aj := hSw.cellp HAJ.out; have ej := hSw.cellp HEJ.out; clear hSw; go_simp; (try with_reducible rfl))
            (try simp only [tkS])
            refine wpAnyH_done (by kernel_rfl) ?_ _
            clear hHeld
            cases bv with
            | false =>
              go_wp2_with fail
              go_ret
              exact ⟨false, rfl, ⟨fun e => (by cases e), fun e => (by have := HBV.out.2 (e.2.2.2 i hid); cases this)⟩, ⟨_, HQ2.out.keep HS.out.drew, HNX.out⟩, HX2.out.trans (Chg.of_kept HS.out.drew)⟩
            | true =>
              go_wp2_with fail
              go_roundg (gk - 1)
              case measure => have := HG.out; omega
              case rel => exact ⟨i + 1, by have := HG.out; omega, by omega, by go_num, hidMk ⟨HS.out.drew, fun j hj => by
                by_cases c : j = i
                · subst c; exact (by have h9 := HBV.out; simpa using h9)
                · exact HAL.out j (by omega)⟩⟩
          · have hie : i = D := by omega
            subst hie
            have hi' : ¬ ((i : Int) < (i : Int)) := by omega
            clear hqr
            go_wp2_with fail
            go_ret
            exact ⟨true, rfl, ⟨fun _ => ⟨hr1, hr2, rfl, fun j hj => HAL.out j (by have := HDD.out; omega)⟩, fun _ => rfl⟩, ⟨_, HQ2.out.keep HS.out, HNX.out⟩, HX2.out.trans (Chg.of_kept HS.out)⟩
      · have hmb : (cm == em) = false := by simpa using hm
        go_enter Tryz.func61, Tryz.ntmps61
        go_upto_region 1 with fail
        rw [← hW1, ← heb, ← hcb]
        clear hW1 heb hcb
        refine wp_region_held_drew (S := (fun w' => Kept W1 w')) (by kernel_rfl) ?_ (fun hHeld => ?_)
        · exact (Kept.refl W1).drew
        refine tkL 0 8 (v := ?_) rfl ?_ ?_
        rotate_left
        · (intro w9 hSw; have c0 := HC0.out w9 hSw; obtain ⟨⟨e0, e1, e2, e3, e4⟩, _⟩ := HCC.out w9 hSw; obtain ⟨⟨d0, d1, d2, d3, d4⟩, _⟩ := HEC.out w9 hSw; clear hSw; go_simp; (try with_reducible rfl))
        (try simp only [tkS])
        refine tkL 1 9 (v := ?_) rfl ?_ ?_
        rotate_left
        · (intro w9 hSw; have c0 := HC0.out w9 hSw; obtain ⟨⟨e0, e1, e2, e3, e4⟩, _⟩ := HCC.out w9 hSw; obtain ⟨⟨d0, d1, d2, d3, d4⟩, _⟩ := HEC.out w9 hSw; clear hSw; go_simp; (try with_reducible rfl))
        (try simp only [tkS])
        refine tkL 2 10 (v := ?_) rfl ?_ ?_
        rotate_left
        · (intro w9 hSw; have c0 := HC0.out w9 hSw; obtain ⟨⟨e0, e1, e2, e3, e4⟩, _⟩ := HCC.out w9 hSw; obtain ⟨⟨d0, d1, d2, d3, d4⟩, _⟩ := HEC.out w9 hSw; clear hSw; go_simp; (try with_reducible rfl))
        (try simp only [tkS])
        refine tkL 3 11 (v := ?_) rfl ?_ ?_
        rotate_left
        · (intro w9 hSw; have c0 := HC0.out w9 hSw; obtain ⟨⟨e0, e1, e2, e3, e4⟩, _⟩ := HCC.out w9 hSw; obtain ⟨⟨d0, d1, d2, d3, d4⟩, _⟩ := HEC.out w9 hSw; clear hSw; go_simp; (try with_reducible rfl))
        (try simp only [tkS])
        refine tkL 4 12 (v := ?_) rfl ?_ ?_
        rotate_left
        · (intro w9 hSw; have c0 := HC0.out w9 hSw; obtain ⟨⟨e0, e1, e2, e3, e4⟩, _⟩ := HCC.out w9 hSw; obtain ⟨⟨d0, d1, d2, d3, d4⟩, _⟩ := HEC.out w9 hSw; clear hSw; go_simp; (try with_reducible rfl))
        (try simp only [tkS])
        refine wpAnyH_ready (rs := [5]) (by kernel_rfl) (by simp) ?_
        refine AllReadyH.cons (o := ⟨some 13, _, _, _, _, _⟩) rfl (fun K hK => ?_) AllReadyH.nil
        go_simp
        refine (HRC.out _ hHeld).mono ?_
        rintro e wR ⟨rfl, kR⟩
        have HKR := hidMk (hHeld.trans kR)
        clear kR
        (try go_wp2_with fail)
        refine hK.out _ _ ?_ (fun hHeld => ?_)
        · (first | exact HKE.out | exact HKR.out)
        clear hK K
        (try simp only [tkS])
        refine tkL 6 14 (v := ?_) rfl ?_ ?_
        rotate_left
        · (intro w9 hSw; have c0 := HC0.out w9 hSw; obtain ⟨⟨e0, e1, e2, e3, e4⟩, _⟩ := HCC.out w9 hSw; obtain ⟨⟨d0, d1, d2, d3, d4⟩, _⟩ := HEC.out w9 hSw; clear hSw; go_simp; (try with_reducible rfl))
        (try simp only [tkS])
        refine tkL 7 15 (v := ?_) rfl ?_ ?_
        rotate_left
        · (intro w9 hSw; have c0 := HC0.out w9 hSw; obtain ⟨⟨e0, e1, e2, e3, e4⟩, _⟩ := HCC.out w9 hSw; obtain ⟨⟨d0, d1, d2, d3, d4⟩, _⟩ := HEC.out w9 hSw; clear hSw; go_simp; (try with_reducible rfl))
        (try simp only [tkS])
        refine tkL 8 16 (v := ?_) rfl ?_ ?_
        rotate_left
        · (intro w9 hSw; have c0 := HC0.out w9 hSw; obtain ⟨⟨e0, e1, e2, e3, e4⟩, _⟩ := HCC.out w9 hSw; obtain ⟨⟨d0, d1, d2, d3, d4⟩, _⟩ := HEC.out w9 hSw; clear hSw; go_simp; (try with_reducible rfl))
        (try simp only [tkS])
        refine tkL 9 17 (v := ?_) rfl ?_ ?_
        rotate_left
        · (intro w9 hSw; have c0 := HC0.out w9 hSw; obtain ⟨⟨e0, e1, e2, e3, e4⟩, _⟩ := HCC.out w9 hSw; obtain ⟨⟨d0, d1, d2, d3, d4⟩, _⟩ := HEC.out w9 hSw; clear hSw; go_simp; (try with_reducible rfl))
        (try simp only [tkS])
        refine tkL 10 18 (v := ?_) rfl ?_ ?_
        rotate_left
        · (intro w9 hSw; have c0 := HC0.out w9 hSw; obtain ⟨⟨e0, e1, e2, e3, e4⟩, _⟩ := HCC.out w9 hSw; obtain ⟨⟨d0, d1, d2, d3, d4⟩, _⟩ := HEC.out w9 hSw; clear hSw; go_simp; (try with_reducible rfl))
        (try simp only [tkS])
        refine tkL 11 19 (v := ?_) rfl ?_ ?_
        rotate_left
        · (intro w9 hSw; have c0 := HC0.out w9 hSw; obtain ⟨⟨e0, e1, e2, e3, e4⟩, _⟩ := HCC.out w9 hSw; obtain ⟨⟨d0, d1, d2, d3, d4⟩, _⟩ := HEC.out w9 hSw; clear hSw; go_simp; (try with_reducible rfl))
        (try simp only [tkS])
        refine tkL 12 20 (v := ?_) rfl ?_ ?_
        rotate_left
        · (intro w9 hSw; have c0 := HC0.out w9 hSw; obtain ⟨⟨e0, e1, e2, e3, e4⟩, _⟩ := HCC.out w9 hSw; obtain ⟨⟨d0, d1, d2, d3, d4⟩, _⟩ := HEC.out w9 hSw; clear hSw; go_simp; (try with_reducible rfl))
        (try simp only [tkS])
        refine wpAnyH_ready (rs := [13]) (by kernel_rfl) (by simp) ?_
        refine AllReadyH.cons (o := ⟨some 21, _, _, _, _, _⟩) rfl (fun K hK => ?_) AllReadyH.nil
        go_simp
        refine (HRE.out _ HKR.out).mono ?_
        rintro e wE ⟨rfl, kE⟩
        have HKE := hidMk (HKR.out.trans kE)
        clear kE
        (try go_wp2_with fail)
        refine hK.out _ _ ?_ (fun hHeld => ?_)
        · (first | exact HKE.out | exact HKR.out)
        clear hK K
        (try simp only [tkS])
        refine tkL 14 22 (v := ?_) rfl ?_ ?_
        rotate_left
        · (intro w9 hSw; have c0 := HC0.out w9 hSw; obtain ⟨⟨e0, e1, e2, e3, e4⟩, _⟩ := HCC.out w9 hSw; obtain ⟨⟨d0, d1, d2, d3, d4⟩, _⟩ := HEC.out w9 hSw; clear hSw; go_simp; (try with_reducible rfl))
        (try simp only [tkS])
        refine tkL 15 23 (v := ?_) rfl ?_ ?_
        rotate_left
        · (intro w9 hSw; have c0 := HC0.out w9 hSw; obtain ⟨⟨e0, e1, e2, e3, e4⟩, _⟩ := HCC.out w9 hSw; obtain ⟨⟨d0, d1, d2, d3, d4⟩, _⟩ := HEC.out w9 hSw; clear hSw; go_simp; (try with_reducible rfl))
        (try simp only [tkS])
        refine tkL 16 24 (v := ?_) rfl ?_ ?_
        rotate_left
        · (intro w9 hSw; have c0 := HC0.out w9 hSw; obtain ⟨⟨e0, e1, e2, e3, e4⟩, _⟩ := HCC.out w9 hSw; obtain ⟨⟨d0, d1, d2, d3, d4⟩, _⟩ := HEC.out w9 hSw; clear hSw; go_simp; (try with_reducible rfl))
        (try simp only [tkS])
        refine tkL 17 25 (v := ?_) rfl ?_ ?_
        rotate_left
        · (intro w9 hSw; have c0 := HC0.out w9 hSw; obtain ⟨⟨e0, e1, e2, e3, e4⟩, _⟩ := HCC.out w9 hSw; obtain ⟨⟨d0, d1, d2, d3, d4⟩, _⟩ := HEC.out w9 hSw; clear hSw; go_simp; (try with_reducible rfl))
        (try simp only [tkS])
        refine tkL 18 26 (v := ?_) rfl ?_ ?_
        rotate_left
        · (intro w9 hSw; have c0 := HC0.out w9 hSw; obtain ⟨⟨e0, e1, e2, e3, e4⟩, _⟩ := HCC.out w9 hSw; obtain ⟨⟨d0, d1, d2, d3, d4⟩, _⟩ := HEC.out w9 hSw; clear hSw; go_simp; (try with_reducible rfl))
        (try simp only [tkS])
        refine tkL 19 27 (v := ?_) rfl ?_ ?_
        rotate_left
        · (intro w9 hSw; have c0 := HC0.out w9 hSw; obtain ⟨⟨e0, e1, e2, e3, e4⟩, _⟩ := HCC.out w9 hSw; obtain ⟨⟨d0, d1, d2, d3, d4⟩, _⟩ := HEC.out w9 hSw; clear hSw; go_simp; (try with_reducible rfl))
        (try simp only [tkS])
        refine tkL 20 28 (v := ?_) rfl ?_ ?_
        rotate_left
        · (intro w9 hSw; have c0 := HC0.out w9 hSw; obtain ⟨⟨e0, e1, e2, e3, e4⟩, _⟩ := HCC.out w9 hSw; obtain ⟨⟨d0, d1, d2, d3, d4⟩, _⟩ := HEC.out w9 hSw; clear hSw; go_simp; (try with_reducible rfl))
        (try simp only [tkS])
        refine tkL 21 29 (v := ?_) rfl ?_ ?_
        rotate_left
        · (intro w9 hSw; have c0 := HC0.out w9 hSw; obtain ⟨⟨e0, e1, e2, e3, e4⟩, _⟩ := HCC.out w9 hSw; obtain ⟨⟨d0, d1, d2, d3, d4⟩, _⟩ := HEC.out w9 hSw; clear hSw; go_simp; (try with_reducible rfl))
        (try simp only [tkS])
        refine tkL 22 30 (v := ?_) rfl ?_ ?_
        rotate_left
        · (intro w9 hSw; have c0 := HC0.out w9 hSw; obtain ⟨⟨e0, e1, e2, e3, e4⟩, _⟩ := HCC.out w9 hSw; obtain ⟨⟨d0, d1, d2, d3, d4⟩, _⟩ := HEC.out w9 hSw; clear hSw; go_simp; (try with_reducible rfl))
        (try simp only [tkS])
        refine wpAnyH_done (by kernel_rfl) ?_ _
        clear hHeld
        go_wp2_with fail
        go_ret
        exact ⟨false, rfl, ⟨fun e => (by cases e), fun e => absurd e.2.2.1 hm⟩, HQ.out.rr (HK1.out.trans HKE.out)⟩
set_option maxHeartbeats 4000000 in
theorem r7_Inside (hE : RE W0 r q ds ms rt) (h : RQ W0 r q ds y4 y5 pp X) (cm : Int) (at_ : Nat → Int) (n : Int) : Calls Tryz.prog 77 #[.pointer (some ⟨r, 0, none⟩), cellV cm at_, .int .i64 n] X (WinP W0 r q ds y4 y5 pp X (okC ms ds n ∧ inC ms ds (prQ (fun k => leas ds k) n 4) (lfF ds n ds.length) cm at_)) := by
  obtain ⟨cb, hcb⟩ : ∃ x, x = X.heap.size := ⟨_, rfl⟩
  obtain ⟨W1, hW1⟩ : ∃ V, V = X.alloc (.cells #[.int .i64 cm, .int .i64 (at_ 0), .int .i64 (at_ 1), .int .i64 (at_ 2), .int .i64 (at_ 3)] 29) := ⟨_, rfl⟩
  have k1 : Kept X W1 := by rw [hW1]; exact (Kept.refl X).alloc _
  have HK1 := hidMk k1
  have HCC := hidMk (show ∀ Y, Kept W1 Y → _ from fun Y k => cell_box X cm at_ 29 hcb Y (by rw [← hW1]; exact k))
  have HNR := hidMk (show cb ≠ r from by have := h.lt; omega)
  have HE := hidMk hE
  have HQ := hidMk h
  have HLF := hidMk (r7_Leaf hE (h.keep k1) n)
  have HWI := hidMk (show ∀ Y p, RQ W0 r q ds y4 y5 p Y → _ from fun Y p hq => r7_Within hE hq (prQ (fun k => leas ds k) n 4) (lfF ds n ds.length) cm at_)
  clear h hE k1
  unfold cellV at *
  by_cases hn : okC ms ds n
  · have hn' := hn
    unfold okC at hn'
    simp only [if_pos hn'] at HLF
    go_enter Tryz.func77, Tryz.ntmps77
    go_wp2_with fail
    rw [← hW1, ← hcb]
    clear hW1 hcb hn'
    refine HLF.out.mono ?_
    rintro e w2 ⟨rfl, ⟨p2, hq2, hnx⟩, hc2⟩
    have HQ2 := hidMk hq2
    have HNX := hidMk hnx
    have HC2 := hidMk hc2
    obtain ⟨⟨a0, a1, a2, a3, a4⟩, _⟩ := HCC.out W1 (Kept.refl _)
    have x0 := ((Kept.refl w2).alloc (.cells #[.int .i64 (prQ (fun k => leas ds k) n 4), .int .i64 (lfF ds n ds.length 0), .int .i64 (lfF ds n ds.length 1), .int .i64 (lfF ds n ds.length 2), .int .i64 (lfF ds n ds.length 3)] 29)).cellp (hc2.cellp a0 HNR.out)
    have x1 := ((Kept.refl w2).alloc (.cells #[.int .i64 (prQ (fun k => leas ds k) n 4), .int .i64 (lfF ds n ds.length 0), .int .i64 (lfF ds n ds.length 1), .int .i64 (lfF ds n ds.length 2), .int .i64 (lfF ds n ds.length 3)] 29)).cellp (hc2.cellp a1 HNR.out)
    have x2 := ((Kept.refl w2).alloc (.cells #[.int .i64 (prQ (fun k => leas ds k) n 4), .int .i64 (lfF ds n ds.length 0), .int .i64 (lfF ds n ds.length 1), .int .i64 (lfF ds n ds.length 2), .int .i64 (lfF ds n ds.length 3)] 29)).cellp (hc2.cellp a2 HNR.out)
    have x3 := ((Kept.refl w2).alloc (.cells #[.int .i64 (prQ (fun k => leas ds k) n 4), .int .i64 (lfF ds n ds.length 0), .int .i64 (lfF ds n ds.length 1), .int .i64 (lfF ds n ds.length 2), .int .i64 (lfF ds n ds.length 3)] 29)).cellp (hc2.cellp a3 HNR.out)
    have x4 := ((Kept.refl w2).alloc (.cells #[.int .i64 (prQ (fun k => leas ds k) n 4), .int .i64 (lfF ds n ds.length 0), .int .i64 (lfF ds n ds.length 1), .int .i64 (lfF ds n ds.length 2), .int .i64 (lfF ds n ds.length 3)] 29)).cellp (hc2.cellp a4 HNR.out)
    clear hq2 hnx hc2 a0 a1 a2 a3 a4
    have HW2 := hidMk (HWI.out _ _ (HQ2.out.keep ((Kept.refl w2).alloc (.cells #[.int .i64 (prQ (fun k => leas ds k) n 4), .int .i64 (lfF ds n ds.length 0), .int .i64 (lfF ds n ds.length 1), .int .i64 (lfF ds n ds.length 2), .int .i64 (lfF ds n ds.length 3)] 29))))
    clear HWI HLF
    go_wp2_with fail
    refine HW2.out.mono ?_
    rintro e w3 ⟨b, rfl, hb, hrr⟩
    have HB := hidMk hb
    have HRR := hidMk (rr_trans HQ2.out (HNX.out.le HK1.out.size) ((Chg.of_kept HK1.out).trans HC2.out) ((Kept.refl w2).alloc _) hrr)
    clear hb hrr x0 x1 x2 x3 x4
    cases b with
    | false =>
      go_wp2_with fail
      go_ret
      exact ⟨_, rfl, ⟨fun e => (by cases e), fun e => HB.out.2 e.2⟩, HRR.out⟩
    | true =>
      go_wp2_with fail
      go_ret
      exact ⟨_, rfl, ⟨fun e => ⟨hn, by have h9 := HB.out; simpa using h9⟩, fun _ => rfl⟩, HRR.out⟩
  · have hn' := hn
    unfold okC at hn'
    simp only [if_neg hn'] at HLF
    go_enter Tryz.func77, Tryz.ntmps77
    go_wp2_with fail
    rw [← hW1, ← hcb]
    clear hW1 hcb hn'
    refine HLF.out.mono ?_
    rintro e w2 ⟨rfl, ⟨p2, hq2, hnx⟩, hc2⟩
    have HRR := hidMk (show RR W0 r q ds y4 y5 pp X w2 from ⟨⟨p2, hq2, hnx.le HK1.out.size⟩, (Chg.of_kept HK1.out).trans hc2⟩)
    have HQ2 := hidMk hq2
    clear hq2 hnx hc2 HLF HWI
    go_wp2_with fail
    go_ret
    obtain ⟨⟨p3, h3, h4⟩, h5⟩ := HRR.out
    exact ⟨false, rfl, ⟨fun e => (by cases e), fun e => absurd e.1 hn⟩, ⟨p3, h3.keep ((Kept.refl w2).alloc _), h4⟩, h5.trans (Chg.of_kept ((Kept.refl w2).alloc _))⟩
end

section
variable {W0 X Y Z : World} {r q : Nat} {ds : List Dm} {ms : List ByteArray} {rt : Nat → Nat} {y4 y5 : Value} {pp : Option (Nat × Nat)}
theorem rr_keep (h : RR W0 r q ds y4 y5 pp X Y) (k : Kept Y Z) : RR W0 r q ds y4 y5 pp X Z := by
  obtain ⟨⟨p3, h3, h4⟩, h5⟩ := h
  exact ⟨⟨p3, h3.keep k, h4⟩, h5.trans (Chg.of_kept k)⟩
end
def C5 (cb : Nat) (cm : Int) (at_ : Nat → Int) (Y : World) : Prop := Y.cell? ⟨cb, 0, none⟩ = some (.int .i64 cm) ∧ Y.cell? ⟨cb, 1, none⟩ = some (.int .i64 (at_ 0)) ∧ Y.cell? ⟨cb, 2, none⟩ = some (.int .i64 (at_ 1)) ∧ Y.cell? ⟨cb, 3, none⟩ = some (.int .i64 (at_ 2)) ∧ Y.cell? ⟨cb, 4, none⟩ = some (.int .i64 (at_ 3))
theorem C5.kept {cb : Nat} {cm : Int} {at_ : Nat → Int} {X Y : World} (h : C5 cb cm at_ X) (k : Kept X Y) : C5 cb cm at_ Y := ⟨k.cellp h.1, k.cellp h.2.1, k.cellp h.2.2.1, k.cellp h.2.2.2.1, k.cellp h.2.2.2.2⟩
theorem C5.chg {cb r : Nat} {cm : Int} {at_ : Nat → Int} {X Y : World} (h : C5 cb cm at_ X) (k : Chg (fun j => j = r) X Y) (n : cb ≠ r) : C5 cb cm at_ Y := ⟨k.cellp h.1 n, k.cellp h.2.1 n, k.cellp h.2.2.1 n, k.cellp h.2.2.2.1 n, k.cellp h.2.2.2.2 n⟩
theorem C5.new (X : World) (cm : Int) (at_ : Nat → Int) (t : TypeId) : C5 X.heap.size cm at_ (X.alloc (.cells #[.int .i64 cm, .int .i64 (at_ 0), .int .i64 (at_ 1), .int .i64 (at_ 2), .int .i64 (at_ 3)] t)) := (cell_box X cm at_ t rfl _ (Kept.refl _)).1
end Go.Proofs.YtmedgkccicbieaaGreat
