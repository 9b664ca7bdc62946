/- The reference's catalogue in memory; its Right. -/
import Derived.Test.YtofppldiipjllaaRefDims2
import Derived.Test.YtofppldiipjllaaRefTree7
namespace Go.Proofs.Ytofppldiipjllaa
open Go.RowKit Go.Maps
set_option linter.unusedSimpArgs false
set_option linter.unusedVariables false

/-- The reference's catalogue. -/
structure RDm (w : World) (p : Nat) (ds : List Dm) (rt : Nat → Nat) (ms : List ByteArray) : Prop where
  c1 : ∃ ma mc, w.cell? ⟨p, 1, none⟩ = some (.slice ma ms.length mc) ∧ Ss w ma ms.length ms
  c4 : ∃ ta tc, w.cell? ⟨p, 4, none⟩ = some (.slice ta ds.length tc) ∧ (0 < ds.length → ∃ b, ta = some ⟨b, 0, none⟩ ∧ ∀ k, k < ds.length → w.cell? ⟨b, k, none⟩ = some (.pointer (some ⟨rt k, 0, none⟩)))
  tr : ∀ k, k < ds.length → RT w (rt k) (dmL ds k)
theorem RDm.kept {w w' : World} {p : Nat} {ds : List Dm} {rt : Nat → Nat} {ms : List ByteArray} (h : RDm w p ds rt ms) (g : Kept w w') : RDm w' p ds rt ms := by
  obtain ⟨⟨ma, mc, h1, h2⟩, ⟨ta, tc, h3, h4⟩, h5⟩ := h
  exact ⟨⟨ma, mc, g.cellp h1, h2.kept g⟩, ⟨ta, tc, g.cellp h3, fun hp => by
    obtain ⟨b, e, hb⟩ := h4 hp
    exact ⟨b, e, fun k hk => g.cellp (hb k hk)⟩⟩, fun k hk => (h5 k hk).kept g⟩
set_option maxHeartbeats 4000000 in
set_option maxRecDepth 100000 in
theorem ref6_Right {w : World} {p : Nat} {ds : List Dm} {rt : Nat → Nat} {ms : List ByteArray} (h : RDm w p ds rt ms) (hm : ds.length ≤ 4) (cm : Int) (at_ : Nat → Int) :
    Calls Try.prog 25 #[.pointer (some ⟨p, 0, none⟩), cellV cm at_] w fun e w' => e = .returned (.bool (rightB ms ds cm at_)) ∧ Kept w w' := by
  obtain ⟨r, hr⟩ : ∃ r, rightB ms ds cm at_ = r := ⟨_, rfl⟩
  rw [hr]
  have HR := hidMk hr
  obtain ⟨⟨ma, mc, h1, h2⟩, ⟨ta, tc, h3, h4⟩, h5⟩ := h
  have hbig := h2.big
  unfold maxLen at hbig
  have HT := hidMk h4
  have H5 := hidMk h5
  have t1 := fun o q => (((Kept.refl w).alloc o).drewN q).cellp h1
  have HBX := hidMk (box_at w 56 cm at_)
  clear h2 h4 h5
  unfold cellV at *
  by_cases hp1 : cm < 0
  · have HF := hidMk (show r = false by rw [← HR.out]; unfold rightB placeB; rw [decide_eq_false (by omega)]; rfl)
    clear HBX
    generalize at_ 0 = a0 at *
    generalize at_ 1 = a1 at *
    generalize at_ 2 = a2 at *
    generalize at_ 3 = a3 at *
    go_enter Try.func25, Try.ntmps25
    go_wp2_with fail
    go_quiet (fail)
    go_wp2_with fail
    go_ret
    exact ⟨by rw [HF.out]; rfl, ((Kept.refl w).alloc _).drewN _⟩
  · by_cases hp2 : cm < ms.length
    · have hp2' : ¬ ((ms.length : Int) ≤ cm) := by omega
      have HPB := hidMk (show placeB cm ms.length = true by unfold placeB; exact decide_eq_true (by omega))
      generalize at_ 0 = a0 at *
      generalize at_ 1 = a1 at *
      generalize at_ 2 = a2 at *
      generalize at_ 3 = a3 at *
      go_enter Try.func25, Try.ntmps25
      go_wp2_with fail
      go_quiet (fail)
      go_wp2_with fail
      refine gen_world (f := fun W => Code.wp _ _ _ _ W) (fun W => Kept w W ∧ ∀ k, k < 4 → W.cell? ⟨w.heap.size, 1 + k, none⟩ = some (.int .i64 (at_ k))) ⟨((Kept.refl w).alloc _).drewN _, fun k hk => ((Kept.refl _).drewN _).cellp (HBX.out k hk)⟩ ?_
      rintro W ⟨kW, hbW⟩
      have HKW := hidMk kW
      have HBW := hidMk hbW
      have t4 := kW.cellp h3
      clear kW hbW HBX t1
      go_loopg [5] 4 (fun g x wr => ∃ k : Nat, k + g = 4 ∧ x = .int .i64 k ∧ wr = W ∧ Hid (∀ j, j < k → placeB (at_ j) (many ds j) = true))
      case atStart => exact ⟨0, by omega, rfl, rfl, hidMk fun j hj => absurd hj (by omega)⟩
      case round =>
        obtain ⟨k, hkg, rfl, rfl, HJ⟩ := hrel
        have HKG := hidMk hkg
        by_cases hk4 : k < 4
        · have cx := HBW.out k hk4
          have HNO := hidMk (show placeB (at_ k) (many ds k) = false → r = false from fun e => by rw [← HR.out]; exact right_no hk4 e)
          have HYES := hidMk (show placeB (at_ k) (many ds k) = true → ∀ j, j < k + 1 → placeB (at_ j) (many ds j) = true from fun e j hj => by
            by_cases e' : j = k
            · subst e'; exact e
            · exact HJ.out j (by omega))
          have k4' : (k : Int) < 4 := by omega
          by_cases hkd : k < ds.length
          · obtain ⟨bb, rfl, hb⟩ := HT.out (by omega)
            have d2 := HKW.out.cellp (hb k hkd)
            obtain ⟨⟨lb, lc, e1, _⟩, e2, _⟩ := (H5.out k hkd).kept HKW.out
            rw [show many ds k = (dmL ds k).length from if_pos hkd] at HNO HYES
            have kd' : (k : Int) < ds.length := by omega
            clear hb hkg
            generalize at_ k = x at *
            generalize (dmL ds k).length = L at *
            generalize rt k = q at *
            by_cases hx0 : x < 0
            · have HN2 := hidMk (HNO.out (by unfold placeB; exact decide_eq_false (by omega)))
              go_wp2_with fail
              go_ret
              exact ⟨by rw [HN2.out]; rfl, HKW.out⟩
            · by_cases hx1 : x < L
              · have HY2 := hidMk (HYES.out (by unfold placeB; exact decide_eq_true (by omega)))
                have hx2 : ¬ ((L : Int) ≤ x) := by omega
                go_wp2_with fail
                go_roundg (gk - 1)
                case measure => have := HKG.out; omega
                case rel => exact ⟨k + 1, by have := HKG.out; omega, by go_num, rfl, HY2⟩
              · have HN2 := hidMk (HNO.out (by unfold placeB; exact decide_eq_false (by omega)))
                have hx2 : (L : Int) ≤ x := by omega
                go_wp2_with fail
                go_ret
                exact ⟨by rw [HN2.out]; rfl, HKW.out⟩
          · rw [show many ds k = 1 from if_neg hkd] at HNO HYES
            have kd' : ¬ ((k : Int) < ds.length) := by omega
            clear hkg
            generalize at_ k = x at *
            by_cases hx0 : x < 0
            · have HN2 := hidMk (HNO.out (by unfold placeB; exact decide_eq_false (by omega)))
              go_wp2_with fail
              go_ret
              exact ⟨by rw [HN2.out]; rfl, HKW.out⟩
            · by_cases hx1 : x < 1
              · have HY2 := hidMk (HYES.out (by unfold placeB; exact decide_eq_true (by omega)))
                have hx2 : ¬ ((1 : Int) ≤ x) := by omega
                go_wp2_with fail
                go_roundg (gk - 1)
                case measure => have := HKG.out; omega
                case rel => exact ⟨k + 1, by have := HKG.out; omega, by go_num, rfl, HY2⟩
              · have HN2 := hidMk (HNO.out (by unfold placeB; exact decide_eq_false (by omega)))
                have hx2 : (1 : Int) ≤ x := by omega
                go_wp2_with fail
                go_ret
                exact ⟨by rw [HN2.out]; rfl, HKW.out⟩
        · have HF := hidMk (show r = true by rw [← HR.out]; unfold rightB; simp only [HPB.out, HJ.out 0 (by omega), HJ.out 1 (by omega), HJ.out 2 (by omega), HJ.out 3 (by omega), Bool.and_self])
          clear hkg
          have kd' : ¬ ((k : Int) < 4) := by omega
          go_wp2_with fail
          go_ret
          exact ⟨by rw [HF.out]; rfl, HKW.out⟩
    · have hp2' : (ms.length : Int) ≤ cm := by omega
      have HF := hidMk (show r = false by rw [← HR.out]; unfold rightB placeB; rw [decide_eq_false (by omega)]; rfl)
      clear HBX
      generalize at_ 0 = a0 at *
      generalize at_ 1 = a1 at *
      generalize at_ 2 = a2 at *
      generalize at_ 3 = a3 at *
      go_enter Try.func25, Try.ntmps25
      go_wp2_with fail
      go_quiet (fail)
      go_wp2_with fail
      go_ret
      exact ⟨by rw [HF.out]; rfl, ((Kept.refl w).alloc _).drewN _⟩
end Go.Proofs.Ytofppldiipjllaa
