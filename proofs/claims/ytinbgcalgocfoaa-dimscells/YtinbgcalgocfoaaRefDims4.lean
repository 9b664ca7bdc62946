/- The reference's Leaf. -/
import Derived.Test.YtinbgcalgocfoaaRefDims3B
namespace Go.Proofs.Ytinbgcalgocfoaa
open Go.RowKit Go.Maps
set_option linter.unusedSimpArgs false
set_option linter.unusedVariables false

set_option maxHeartbeats 4000000 in
set_option maxRecDepth 100000 in
theorem ref6_Leaf {w : World} {p : Nat} {ds : List Dm} {rt : Nat → Nat} {ms : List ByteArray} (h : RDm w p ds rt ms) (hm : ds.length ≤ 4) (cm : Int) (at_ : Nat → Int) :
    Calls Try.prog 15 #[.pointer (some ⟨p, 0, none⟩), cellV cm at_] w (LeafPost w ms ds cm at_) := by
  have HRI := hidMk (show ∀ y, Kept w y → _ from fun y hy => ref6_Right (h.kept hy) hm cm at_)
  obtain ⟨_, ⟨ta, tc, h3, h4⟩, h5⟩ := h
  have HT := hidMk h4
  have H5 := hidMk h5
  have HBX := hidMk (box_at w 28 cm at_)
  clear h4 h5
  unfold cellV at *
  cases hri : rightB ms ds cm at_ with
  | false =>
    rw [hri] at HRI
    have HRF := hidMk hri
    clear hri HBX
    generalize at_ 0 = a0 at *
    generalize at_ 1 = a1 at *
    generalize at_ 2 = a2 at *
    generalize at_ 3 = a3 at *
    go_enter Try.func15, Try.ntmps15
    go_wp2_with (go_at_call 13; refine (HRI.out _ ((Kept.refl w).alloc _)).mono ?_; rintro e w2 ⟨rfl, k2⟩; have K2 := hidMk (((Kept.refl w).alloc _).trans k2); clear k2)
    go_ret
    exact ⟨false, rfl, ⟨fun e => (by cases e), fun e => (by rw [HRF.out] at e; cases e.1)⟩, K2.out⟩
  | true =>
    rw [hri] at HRI
    have HRT := hidMk hri
    clear hri
    generalize at_ 0 = a0 at *
    generalize at_ 1 = a1 at *
    generalize at_ 2 = a2 at *
    generalize at_ 3 = a3 at *
    go_enter Try.func15, Try.ntmps15
    go_wp2_with fail
    refine (HRI.out _ ((Kept.refl w).alloc _)).mono ?_
    rintro e w2 ⟨rfl, k2⟩
    have HB2 := hidMk (show ∀ k, k < 4 → w2.cell? ⟨w.heap.size, 1 + k, none⟩ = some (.int .i64 (at_ k)) from fun k hk => k2.cellp (HBX.out k hk))
    have K2 := hidMk (((Kept.refl w).alloc _).trans k2)
    have t4 := K2.out.cellp h3
    clear k2
    go_wp2_with fail
    go_loopg [5] ds.length (fun g x wr => ∃ k : Nat, k + g = ds.length ∧ x = .int .i64 k ∧ Kept w2 wr ∧ Hid (leavesB ds at_ k))
    case atStart => exact ⟨0, by omega, rfl, Kept.refl _, hidMk fun j hj => absurd hj (by omega)⟩
    case round =>
      obtain ⟨k, hkg, rfl, hk, HJ⟩ := hrel
      have HKG := hidMk hkg
      have HK := hidMk hk
      have s4 := hk.cellp t4
      by_cases hkd : k < ds.length
      · obtain ⟨bb, rfl, hb⟩ := HT.out (by omega)
        have d1 := (K2.out.trans hk).cellp (hb k hkd)
        have d2 := hk.cellp (HB2.out k (by omega))
        have HLF := hidMk (show ∀ y, Kept wr y → _ from fun y hy => r_Leaf ((H5.out k hkd).kept ((K2.out.trans hk).trans hy)) (at_ k))
        have kd' : (k : Int) < ds.length := by omega
        have k4' : (k : Int) < 4 := by omega
        have HST := hidMk (show leafI (dmL ds k) (at_ k) = true → leavesB ds at_ (k + 1) from fun e j hj => by
          by_cases e' : j = k
          · subst e'; exact e
          · exact HJ.out j (by omega))
        have HNO := hidMk (show leafI (dmL ds k) (at_ k) = false → ¬ leavesB ds at_ ds.length from fun e hall => by have := hall k hkd; rw [e] at this; cases this)
        have HCL := hidMk (And.intro s4 (And.intro d1 d2))
        clear hb hk hkg
        generalize hlf : leafI (dmL ds k) (at_ k) = lf at *
        generalize at_ k = x at *
        generalize rt k = q at *
        clear hlf
        cases lf with
        | true =>
          have HS2 := hidMk (HST.out rfl)
          clear HST HNO
          go_wp2_with fail
          go_region_held3 (fun w' => w'.cell? ⟨p, 4, none⟩ = some (.slice (some ⟨bb, 0, none⟩) ds.length tc) ∧ w'.cell? ⟨bb, k, none⟩ = some (.pointer (some ⟨q, 0, none⟩)) ∧ w'.cell? ⟨w.heap.size, 1 + k, none⟩ = some (.int .i64 x)) (first | go_keep | (refine ⟨?_, ?_, ?_⟩ <;> assumption)) ((go_at_call 36; refine (HLF.out _ ((Kept.refl wr).drew)).mono ?_; rintro e w5 ⟨rfl, k5⟩; have x4 := k5.cellp (((Kept.refl wr).drew).cellp HCL.out.1); have x5 := k5.cellp (((Kept.refl wr).drew).cellp HCL.out.2.1); have x6 := k5.cellp (((Kept.refl wr).drew).cellp HCL.out.2.2); have K5 := hidMk (((Kept.refl wr).drew).trans k5); clear k5))
          go_wp2_with fail
          go_roundg (gk - 1)
          case measure => have := HKG.out; omega
          case rel => exact ⟨k + 1, by have := HKG.out; omega, by go_num, HK.out.trans K5.out, HS2⟩
        | false =>
          have HN2 := hidMk (HNO.out rfl)
          clear HST HNO
          go_wp2_with fail
          go_region_held3 (fun w' => w'.cell? ⟨p, 4, none⟩ = some (.slice (some ⟨bb, 0, none⟩) ds.length tc) ∧ w'.cell? ⟨bb, k, none⟩ = some (.pointer (some ⟨q, 0, none⟩)) ∧ w'.cell? ⟨w.heap.size, 1 + k, none⟩ = some (.int .i64 x)) (first | go_keep | (refine ⟨?_, ?_, ?_⟩ <;> assumption)) ((go_at_call 36; refine (HLF.out _ ((Kept.refl wr).drew)).mono ?_; rintro e w5 ⟨rfl, k5⟩; have x4 := k5.cellp (((Kept.refl wr).drew).cellp HCL.out.1); have x5 := k5.cellp (((Kept.refl wr).drew).cellp HCL.out.2.1); have x6 := k5.cellp (((Kept.refl wr).drew).cellp HCL.out.2.2); have K5 := hidMk (((Kept.refl wr).drew).trans k5); clear k5))
          go_wp2_with fail
          go_ret
          exact ⟨false, rfl, ⟨fun e => (by cases e), fun e => absurd e.2 HN2.out⟩, K2.out.trans (HK.out.trans K5.out)⟩
      · have e : k = ds.length := by omega
        subst e
        clear hk hkg
        have kd' : ¬ ((ds.length : Int) < ds.length) := by omega
        go_wp2_with fail
        go_ret
        exact ⟨true, rfl, ⟨fun _ => ⟨HRT.out, HJ.out⟩, fun _ => rfl⟩, K2.out.trans HK.out⟩
end Go.Proofs.Ytinbgcalgocfoaa
