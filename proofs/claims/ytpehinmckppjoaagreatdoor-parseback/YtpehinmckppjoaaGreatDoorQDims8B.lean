/- dims.Right. · dims.Leaf. -/
import Derived.Test.YtpehinmckppjoaaGreatDoorQDims6B
namespace Go.Proofs.YtpehinmckppjoaaGreatDoor
open Go.RowKit Go.Maps
set_option linter.unusedSimpArgs false
set_option linter.unusedVariables false

def placeB (i many : Int) : Bool := decide (0 ≤ i ∧ i < many)
theorem dims_place (i many : Int) (w : World) : Calls Tryz.prog 191 #[.int .i64 i, .int .i64 many] w fun e w' => e = .returned (.bool (placeB i many)) ∧ w' = w := by
  by_cases h1 : 0 ≤ i
  · by_cases h2 : i < many
    · rw [show placeB i many = true from decide_eq_true ⟨h1, h2⟩]
      go_enter Tryz.func191, Tryz.ntmps191
      go_wp2_with fail
      go_ret
      exact ⟨rfl, rfl⟩
    · rw [show placeB i many = false from decide_eq_false (fun h => h2 h.2)]
      have h2' : many ≤ i := by omega
      go_enter Tryz.func191, Tryz.ntmps191
      go_wp2_with fail
      go_ret
      first | exact ⟨rfl, rfl⟩ | exact ⟨by simp, rfl⟩ | exact ⟨by simp; omega, rfl⟩
  · rw [show placeB i many = false from decide_eq_false (fun h => h1 h.1)]
    have h1' : i < 0 := by omega
    go_enter Tryz.func191, Tryz.ntmps191
    go_wp2_with fail
    go_ret
    exact ⟨rfl, rfl⟩
/-- A cell's value. -/
def cellV (cm : Int) (at_ : Nat → Int) : Value := .agg #[.int .i64 cm, .int .i64 (at_ 0), .int .i64 (at_ 1), .int .i64 (at_ 2), .int .i64 (at_ 3)]
def many (ds : List Dm) (k : Nat) : Nat := if k < ds.length then (dmL ds k).length else 1
def rightB (ms : List ByteArray) (ds : List Dm) (cm : Int) (at_ : Nat → Int) : Bool := placeB cm ms.length && (placeB (at_ 0) (many ds 0) && (placeB (at_ 1) (many ds 1) && (placeB (at_ 2) (many ds 2) && placeB (at_ 3) (many ds 3))))
theorem idx4_0 (a0 a1 a2 a3 : Int) (w : World) : (Instr.index 31 (.agg #[.int .i64 a0, .int .i64 a1, .int .i64 a2, .int .i64 a3]) (.int .i64 0)).run Tryz.prog w = .ok (.int .i64 a0) w := by kernel_rfl
theorem idx4_1 (a0 a1 a2 a3 : Int) (w : World) : (Instr.index 31 (.agg #[.int .i64 a0, .int .i64 a1, .int .i64 a2, .int .i64 a3]) (.int .i64 1)).run Tryz.prog w = .ok (.int .i64 a1) w := by kernel_rfl
theorem idx4_2 (a0 a1 a2 a3 : Int) (w : World) : (Instr.index 31 (.agg #[.int .i64 a0, .int .i64 a1, .int .i64 a2, .int .i64 a3]) (.int .i64 2)).run Tryz.prog w = .ok (.int .i64 a2) w := by kernel_rfl
theorem idx4_3 (a0 a1 a2 a3 : Int) (w : World) : (Instr.index 31 (.agg #[.int .i64 a0, .int .i64 a1, .int .i64 a2, .int .i64 a3]) (.int .i64 3)).run Tryz.prog w = .ok (.int .i64 a3) w := by kernel_rfl
theorem run_idx4 (at_ : Nat → Int) (k : Nat) (hk : k < 4) (w : World) : (Instr.index 31 (.agg #[.int .i64 (at_ 0), .int .i64 (at_ 1), .int .i64 (at_ 2), .int .i64 (at_ 3)]) (.int .i64 k)).run Tryz.prog w = .ok (.int .i64 (at_ k)) w := by
  have : k = 0 ∨ k = 1 ∨ k = 2 ∨ k = 3 := by omega
  rcases this with rfl | rfl | rfl | rfl
  · exact idx4_0 _ _ _ _ w
  · exact idx4_1 _ _ _ _ w
  · exact idx4_2 _ _ _ _ w
  · exact idx4_3 _ _ _ _ w
theorem right_all {ms : List ByteArray} {ds : List Dm} {cm : Int} {at_ : Nat → Int} (h1 : placeB cm ms.length = true) (h : ∀ k, k < 4 → placeB (at_ k) (many ds k) = true) : rightB ms ds cm at_ = true := by
  unfold rightB
  rw [h1, h 0 (by omega), h 1 (by omega), h 2 (by omega), h 3 (by omega)]
  rfl
theorem right_no {ms : List ByteArray} {ds : List Dm} {cm : Int} {at_ : Nat → Int} {k : Nat} (hk : k < 4) (h : placeB (at_ k) (many ds k) = false) : rightB ms ds cm at_ = false := by
  have : k = 0 ∨ k = 1 ∨ k = 2 ∨ k = 3 := by omega
  unfold rightB
  rcases this with rfl | rfl | rfl | rfl <;> (rw [h]; simp)
set_option maxHeartbeats 4000000 in
set_option maxRecDepth 100000 in
theorem dims_Right {w0 w : World} {p : Nat} {ds : List Dm} {tp : Nat → Nat} {ma : Option Addr} {mc : Nat} {ms : List ByteArray} {lv sc : Int} {dv : Value} (h : DP w0 w p ds tp ma mc ms lv sc dv) (hm : ds.length ≤ 4) (cm : Int) (at_ : Nat → Int) :
    Calls Tryz.prog 188 #[.pointer (some ⟨p, 0, none⟩), cellV cm at_] w fun e w' => e = .returned (.bool (rightB ms ds cm at_)) ∧ Kept w w' := by
  obtain ⟨r, hr⟩ : ∃ r, rightB ms ds cm at_ = r := ⟨_, rfl⟩
  rw [hr]
  have HR := hidMk hr
  have HD := hidMk h
  have hlw : ∀ k, k < ds.length → Whole w (tp k) (dmL ds k) := fun k hk => by obtain ⟨lo, hi, h1, _⟩ := h.tr k hk; exact h1.whole
  have HWW := hidMk hlw
  have HMN := hidMk (show ∀ y, Kept w y → _ from fun y hy => dims_Many (h.kept hy) (by omega))
  obtain ⟨da, dc, rfl, hrows⟩ := h.rows (by omega)
  have HRW := hidMk hrows
  have HPL := hidMk dims_place
  have t0 := h.c0
  have t1 := h.c1
  have t0' := fun o q => (((Kept.refl w).alloc o).drewN q).cellp t0
  have t1' := fun o q => (((Kept.refl w).alloc o).drewN q).cellp t1
  clear h hr hlw hrows
  unfold cellV
  generalize ha0 : at_ 0 = a0 at *
  generalize ha1 : at_ 1 = a1 at *
  generalize ha2 : at_ 2 = a2 at *
  generalize ha3 : at_ 3 = a3 at *
  have HA := hidMk (And.intro ha0 (And.intro ha1 (And.intro ha2 ha3)))
  clear ha0 ha1 ha2 ha3
  cases hpl : placeB cm ms.length with
  | false =>
    have HF := hidMk (show r = false by rw [← HR.out]; unfold rightB; rw [hpl]; rfl)
    have H1 := hidMk (HPL.out cm ms.length)
    rw [hpl] at H1
    clear hpl
    go_enter Tryz.func188, Tryz.ntmps188
    go_wp2_with fail
    go_quiet ((go_at_call 191; exact Calls.quiet_of_same (H1.out _)))
    go_wp2_with fail
    go_ret
    exact ⟨by rw [HF.out]; rfl, ((Kept.refl w).alloc _).drewN _⟩
  | true =>
    have H1 := hidMk (HPL.out cm ms.length)
    rw [hpl] at H1
    have HPB := hidMk hpl
    clear hpl
    go_enter Tryz.func188, Tryz.ntmps188
    go_wp2_with fail
    go_quiet ((go_at_call 191; exact Calls.quiet_of_same (H1.out _)))
    go_wp2_with fail
    go_loopg [23] 4 (fun g x wr => ∃ k : Nat, k + g = 4 ∧ x = .int .i64 k ∧ Kept w wr ∧ Hid (∀ j, j < k → placeB (at_ j) (many ds j) = true))
    case atStart => exact ⟨0, by omega, rfl, ((Kept.refl w).alloc _).drewN _, hidMk fun j hj => absurd hj (by omega)⟩
    case round =>
      obtain ⟨k, hkg, rfl, hk, HJ⟩ := hrel
      have HKG := hidMk hkg
      have HK := hidMk hk
      by_cases hk4 : k < 4
      · have hix := run_idx4 at_ k hk4
        rw [HA.out.1, HA.out.2.1, HA.out.2.2.1, HA.out.2.2.2] at hix
        have hpl := HPL.out (at_ k) (many ds k)
        have HNO := hidMk (show placeB (at_ k) (many ds k) = false → r = false from fun e => by rw [← HR.out]; exact right_no hk4 e)
        have HYES := hidMk (show placeB (at_ k) (many ds k) = true → ∀ j, j < k + 1 → placeB (at_ j) (many ds j) = true from fun e j hj => by
          by_cases e' : j = k
          · subst e'; exact e
          · exact HJ.out j (by omega))
        have HM2 := hidMk (HMN.out wr hk)
        have s0 := hk.cellp t0
        have k4' : (k : Int) < 4 := by omega
        by_cases hkd : k < ds.length
        · obtain ⟨bb, rfl, hb⟩ := HRW.out (by omega)
          have d2 := hk.cellp (hb k hkd).2
          have HLN := hidMk (w_Len ((HWW.out k hkd).kept hk))
          rw [show many ds k = (dmL ds k).length from if_pos hkd] at hpl HNO HYES
          have kd' : (k : Int) < ds.length := by omega
          clear hb hkg hk
          generalize at_ k = x at *
          generalize (dmL ds k).length = L at *
          generalize tp k = q at *
          generalize hpb : placeB x L = pb at *
          cases pb with
          | true =>
            have HP2 := hidMk hpl
            have HY2 := hidMk (HYES.out rfl)
            clear hpl hpb HNO HYES
            go_wp2_with (first | (go_at_call 169; refine HM2.out.mono ?_; rintro e w4 ⟨rfl, rfl⟩) | (go_at_call 67; refine HLN.out.mono ?_; rintro e w4 ⟨rfl, rfl⟩) | (go_at_call 191; refine (HP2.out _).mono ?_; rintro e w4 ⟨rfl, rfl⟩))
            go_roundg (gk - 1)
            case measure => have := HKG.out; omega
            case rel => exact ⟨k + 1, by have := HKG.out; omega, by go_num, HK.out, HY2⟩
          | false =>
            have HP2 := hidMk hpl
            have HN2 := hidMk (HNO.out rfl)
            clear hpl hpb HNO HYES
            go_wp2_with (first | (go_at_call 169; refine HM2.out.mono ?_; rintro e w4 ⟨rfl, rfl⟩) | (go_at_call 67; refine HLN.out.mono ?_; rintro e w4 ⟨rfl, rfl⟩) | (go_at_call 191; refine (HP2.out _).mono ?_; rintro e w4 ⟨rfl, rfl⟩))
            go_ret
            exact ⟨by rw [HN2.out]; rfl, HK.out⟩
        · rw [show many ds k = 1 from if_neg hkd] at hpl HNO HYES
          have kd' : ¬ ((k : Int) < ds.length) := by omega
          clear hkg hk
          generalize at_ k = x at *
          have hpl1 : ∀ w, Calls Tryz.prog 191 #[.int .i64 x, .int .i64 1] w fun e w' => e = .returned (.bool (placeB x (1 : Nat))) ∧ w' = w := hpl
          generalize hpb : placeB x (1 : Nat) = pb at *
          cases pb with
          | true =>
            have HP2 := hidMk hpl1
            have HY2 := hidMk (HYES.out rfl)
            clear hpl hpb HNO HYES hpl1
            go_wp2_with (first | (go_at_call 169; refine HM2.out.mono ?_; rintro e w4 ⟨rfl, rfl⟩) | (go_at_call 191; refine (HP2.out _).mono ?_; rintro e w4 ⟨rfl, rfl⟩))
            go_roundg (gk - 1)
            case measure => have := HKG.out; omega
            case rel => exact ⟨k + 1, by have := HKG.out; omega, by go_num, HK.out, HY2⟩
          | false =>
            have HP2 := hidMk hpl1
            have HN2 := hidMk (HNO.out rfl)
            clear hpl hpb HNO HYES hpl1
            go_wp2_with (first | (go_at_call 169; refine HM2.out.mono ?_; rintro e w4 ⟨rfl, rfl⟩) | (go_at_call 191; refine (HP2.out _).mono ?_; rintro e w4 ⟨rfl, rfl⟩))
            go_ret
            exact ⟨by rw [HN2.out]; rfl, HK.out⟩
      · have e : k = 4 := by omega
        subst e
        have HF := hidMk (show r = true by rw [← HR.out]; exact right_all HPB.out HJ.out)
        clear hk hkg
        go_wp2_with fail
        go_ret
        exact ⟨by rw [HF.out]; rfl, HK.out⟩
end Go.Proofs.YtpehinmckppjoaaGreatDoor
namespace Go.Proofs.YtpehinmckppjoaaGreatDoor
open Go.RowKit Go.Maps
set_option linter.unusedSimpArgs false
set_option linter.unusedVariables false

theorem box_at (w : World) (t : TypeId) (cm : Int) (at_ : Nat → Int) (k : Nat) (hk : k < 4) : (w.alloc (.cells #[.int .i64 cm, .int .i64 (at_ 0), .int .i64 (at_ 1), .int .i64 (at_ 2), .int .i64 (at_ 3)] t)).cell? ⟨w.heap.size, 1 + k, none⟩ = some (.int .i64 (at_ k)) := by
  have : k = 0 ∨ k = 1 ∨ k = 2 ∨ k = 3 := by omega
  rcases this with rfl | rfl | rfl | rfl <;> simp
end Go.Proofs.YtpehinmckppjoaaGreatDoor
