/- dims.Leaf. -/
import Derived.Test.YtofppldiipjllaaDims7
namespace Go.Proofs.Ytofppldiipjllaa
open Go.RowKit Go.Maps
set_option linter.unusedSimpArgs false
set_option linter.unusedVariables false

def leavesB (ds : List Dm) (at_ : Nat → Int) (k : Nat) : Prop := ∀ j, j < k → leafI (dmL ds j) (at_ j) = true
def LeafPost (w : World) (ms : List ByteArray) (ds : List Dm) (cm : Int) (at_ : Nat → Int) (e : Ending) (w' : World) : Prop := ∃ r, e = .returned (.bool r) ∧ (r = true ↔ rightB ms ds cm at_ = true ∧ leavesB ds at_ ds.length) ∧ Kept w w'
theorem box_at (w : World) (t : TypeId) (cm : Int) (at_ : Nat → Int) (k : Nat) (hk : k < 4) : (w.alloc (.cells #[.int .i64 cm, .int .i64 (at_ 0), .int .i64 (at_ 1), .int .i64 (at_ 2), .int .i64 (at_ 3)] t)).cell? ⟨w.heap.size, 1 + k, none⟩ = some (.int .i64 (at_ k)) := by
  have : k = 0 ∨ k = 1 ∨ k = 2 ∨ k = 3 := by omega
  rcases this with rfl | rfl | rfl | rfl <;> simp
set_option maxHeartbeats 4000000 in
set_option maxRecDepth 100000 in
theorem dims_Leaf {w0 w : World} {p : Nat} {ds : List Dm} {tp : Nat → Nat} {ma : Option Addr} {mc : Nat} {ms : List ByteArray} {lv sc : Int} {dv : Value} (h : DP w0 w p ds tp ma mc ms lv sc dv) (hm : ds.length ≤ 4) (cm : Int) (at_ : Nat → Int) :
    Calls Try.prog 26 #[.pointer (some ⟨p, 0, none⟩), cellV cm at_] w (LeafPost w ms ds cm at_) := by
  have HD := hidMk h
  have hlw : ∀ k, k < ds.length → Whole w (tp k) (dmL ds k) := fun k hk => by obtain ⟨lo, hi, h1, _⟩ := h.tr k hk; exact h1.whole
  have HWW := hidMk hlw
  have HRI := hidMk (show ∀ y, Kept w y → _ from fun y hy => dims_Right (h.kept hy) hm cm at_)
  obtain ⟨da, dc, rfl, hrows⟩ := h.rows (by omega)
  have HRW := hidMk hrows
  have t0 := h.c0
  have HBX := hidMk (box_at w 56 cm at_)
  clear h hlw hrows
  unfold cellV at *
  cases hri : rightB ms ds cm at_ with
  | false =>
    rw [hri] at HRI
    have HRF := hidMk hri
    clear hri
    generalize at_ 0 = a0 at *
    generalize at_ 1 = a1 at *
    generalize at_ 2 = a2 at *
    generalize at_ 3 = a3 at *
    go_enter Try.func26, Try.ntmps26
    go_wp2_with (go_at_call 24; refine (HRI.out _ ((Kept.refl w).alloc _)).mono ?_; rintro e w2 ⟨rfl, k2⟩; have K2 := hidMk (((Kept.refl w).alloc _).trans k2); clear k2)
    go_ret
    exact ⟨false, rfl, ⟨fun e => (by cases e), fun e => (by rw [HRF.out] at e; cases e.1)⟩, K2.out⟩
  | true =>
    rw [hri] at HRI
    have HRT := hidMk hri
    clear hri
    generalize at_ 0 = a0 at *
    generalize at_ 1 = a1 at *
    generalize at_ 2 = a2 at *
    generalize at_ 3 = a3 at *
    go_enter Try.func26, Try.ntmps26
    go_wp2_with fail
    refine (HRI.out _ ((Kept.refl w).alloc _)).mono ?_
    rintro e w2 ⟨rfl, k2⟩
    have HB2 := hidMk (show ∀ k, k < 4 → w2.cell? ⟨w.heap.size, 1 + k, none⟩ = some (.int .i64 (at_ k)) from fun k hk => k2.cellp (HBX.out k hk))
    have K2 := hidMk (((Kept.refl w).alloc _).trans k2)
    have t0' := K2.out.cellp t0
    clear k2
    go_wp2_with fail
    go_loopg [16] ds.length (fun g x wr => ∃ k : Nat, k + g = ds.length ∧ x = .int .i64 k ∧ Kept w2 wr ∧ Hid (leavesB ds at_ k))
    case atStart => exact ⟨0, by omega, rfl, Kept.refl _, hidMk fun j hj => absurd hj (by omega)⟩
    case round =>
      obtain ⟨k, hkg, rfl, hk, HJ⟩ := hrel
      have HKG := hidMk hkg
      have HK := hidMk hk
      by_cases hkd : k < ds.length
      · obtain ⟨bb, rfl, hb⟩ := HRW.out (by omega)
        obtain ⟨c1, c2⟩ := hb k hkd
        have d1 := (K2.out.trans hk).cellp c1
        have d2 := (K2.out.trans hk).cellp c2
        have HLF := hidMk (show ∀ y, Kept wr y → _ from fun y hy => w_Leaf ((HWW.out k hkd).kept ((K2.out.trans hk).trans hy)) (at_ k))
        have e4 := fun o q => (((Kept.refl wr).alloc o).drewN q).cellp (hk.cellp (HB2.out k (by omega)))
        have kd' : (k : Int) < ds.length := by omega
        have k4' : (k : Int) < 4 := by omega
        have HST := hidMk (show leafI (dmL ds k) (at_ k) = true → leavesB ds at_ (k + 1) from fun e j hj => by
          by_cases e' : j = k
          · subst e'; exact e
          · exact HJ.out j (by omega))
        have HNO := hidMk (show leafI (dmL ds k) (at_ k) = false → ¬ leavesB ds at_ ds.length from fun e hall => by have := hall k hkd; rw [e] at this; cases this)
        clear hb c1 c2 hk hkg
        generalize hlf : leafI (dmL ds k) (at_ k) = lf at *
        generalize at_ k = x at *
        generalize tp k = q at *
        generalize dmN ds k = nmk at *
        clear hlf
        cases lf with
        | true =>
          have HS2 := hidMk (HST.out rfl)
          clear HST HNO
          go_wp2_with fail
          go_quiet ((go_at_call 49; exact Calls.quiet_of_same (HLF.out _ (((Kept.refl _).alloc _).drewN _))))
          go_wp2_with fail
          go_roundg (gk - 1)
          case measure => have := HKG.out; omega
          case rel => exact ⟨k + 1, by have := HKG.out; omega, by go_num, (HK.out.alloc _).drewN _, HS2⟩
        | false =>
          have HN2 := hidMk (HNO.out rfl)
          clear HST HNO
          go_wp2_with fail
          go_quiet ((go_at_call 49; exact Calls.quiet_of_same (HLF.out _ (((Kept.refl _).alloc _).drewN _))))
          go_wp2_with fail
          go_ret
          exact ⟨false, rfl, ⟨fun e => (by cases e), fun e => absurd e.2 HN2.out⟩, K2.out.trans ((HK.out.alloc _).drewN _)⟩
      · have e : k = ds.length := by omega
        subst e
        clear hk hkg
        have kd' : ¬ ((ds.length : Int) < ds.length) := by omega
        go_wp2_with fail
        go_ret
        exact ⟨true, rfl, ⟨fun _ => ⟨HRT.out, HJ.out⟩, fun _ => rfl⟩, K2.out.trans HK.out⟩
end Go.Proofs.Ytofppldiipjllaa
