/- PagesMakes, PagesNil. -/
import Derived.Test.YtimnbbpiapjfhaaDoorPg10
namespace Go.Proofs.YtimnbbpiapjfhaaDoor
open Go.RowKit Go.Maps
set_option linter.unusedSimpArgs false
set_option linter.unusedVariables false

theorem ptr_same (p : Nat) (w : World) : (binOp .eql 22 (.pointer (some ⟨p, 0, none⟩)) (.pointer (some ⟨p, 0, none⟩))).run Tryd.prog w = .ok (.bool true) w := by
  have hu : Tryd.prog.underlying 22 = some (.pointer (Tryd.prog.pointee 22)) := by kernel_rfl
  have h : (Op.equal 22 (.pointer (some ⟨p, 0, none⟩)) (.pointer (some ⟨p, 0, none⟩))).run Tryd.prog w = .ok true w := by
    have hd : ∀ d, (Op.equalIn (d + 1) 22 (.pointer (some ⟨p, 0, none⟩)) (.pointer (some ⟨p, 0, none⟩))).run Tryd.prog w = .ok true w := fun d => by
      have hz : ∃ z, ∀ w, (sizeOf (Tryd.prog.pointee 22)).run Tryd.prog w = .ok z w := ⟨316, fun w => by kernel_rfl⟩
      obtain ⟨z, hz⟩ := hz
      simp [Op.equalIn, run_underlying hu, hz, sameAddr]
    exact hd 9999
  simp [binOp, h]
set_option maxHeartbeats 4000000 in
set_option maxRecDepth 100000 in
theorem law_PagesMakes (room codes : Int) (w : World) (hV : Vars w) : Calls Tryd.prog 3 #[.int .i64 room, .int .i64 codes] w fun e w' => e = .returned (.bool true) ∧ Kept w w' := by
  have HKN := hidMk (fun W (h : Kept w W) => l10_known W (hV.kept h))
  clear hV
  by_cases hr : 1 ≤ room ∧ room ≤ 20000
  · have HN1 := hidMk (arena_New room w hr.1 hr.2)
    obtain ⟨p, hp⟩ : ∃ p, p = w.heap.size := ⟨_, rfl⟩
    rw [← hp] at HN1
    by_cases hc : 1 ≤ codes ∧ codes ≤ 1024
    · have hc1 := hc.1
      have hc2 := hc.2
      have HN2 := hidMk (fun W => pages_New p codes W hc.1 hc.2)
      have HLV := hidMk (fun W => r10_Levels codes W hc.1 hc.2)
      clear hr hc hp
      go_enter Tryd.func3, Tryd.ntmps3
      go_wp2_with fail
      refine HN1.out.mono ?_
      rintro e w1 ⟨rfl, hn1⟩
      have HK1 := hidMk hn1.kept
      clear hn1 HN1
      go_wp2_with fail
      refine (HN2.out _).mono ?_
      rintro e w2 ⟨rfl, hg, hs, hk⟩
      have HK2 := hidMk (HK1.out.trans hk)
      have HA := hidMk (pg_Arena hg)
      have HC := hidMk (pg_Codes hg)
      have HL := hidMk (pg_Levels hg)
      have HLV2 := hidMk (HLV.out w2)
      generalize lvls codes = L at *
      have hpe := fun W => ptr_same p W
      clear hg hs hk HN2 HLV
      go_wp2_with fail
      refine HA.out.mono ?_
      rintro e w3 ⟨rfl, hw3⟩
      rw [hw3]
      go_wp2_with fail
      refine HC.out.mono ?_
      rintro e w4 ⟨rfl, hw4⟩
      rw [hw4]
      go_wp2_with fail
      refine HL.out.mono ?_
      rintro e w5 ⟨rfl, hw5⟩
      rw [hw5]
      go_wp2_with fail
      refine HLV2.out.mono ?_
      rintro e w6 ⟨rfl, hw6⟩
      rw [hw6]
      go_wp2_with fail
      refine (HKN.out _ HK2.out).mono ?_
      rintro e w7 ⟨rfl, k7⟩
      have HK7 := hidMk (HK2.out.trans k7)
      clear k7
      go_wp2_with fail
      go_ret
      exact ⟨rfl, HK7.out⟩
    · have HN2 := hidMk (fun W => pages_NewBad p codes W hc)
      by_cases h1 : codes < 1
      · clear hr hc hp
        go_enter Tryd.func3, Tryd.ntmps3
        go_wp2_with fail
        refine HN1.out.mono ?_
        rintro e w1 ⟨rfl, hn1⟩
        have HK1 := hidMk hn1.kept
        clear hn1 HN1
        go_wp2_with fail
        refine (HN2.out _).mono ?_
        rintro e w2 ⟨rfl, hw2⟩
        rw [hw2]
        go_wp2_with fail
        refine (HKN.out _ HK1.out).mono ?_
        rintro e w7 ⟨rfl, k7⟩
        have HK7 := hidMk (HK1.out.trans k7)
        clear k7
        go_wp2_with fail
        go_ret
        exact ⟨rfl, HK7.out⟩
      · have h2 : 1024 < codes := by omega
        have h1 : 1 ≤ codes := by omega
        clear hr hc hp
        go_enter Tryd.func3, Tryd.ntmps3
        go_wp2_with fail
        refine HN1.out.mono ?_
        rintro e w1 ⟨rfl, hn1⟩
        have HK1 := hidMk hn1.kept
        clear hn1 HN1
        go_wp2_with fail
        refine (HN2.out _).mono ?_
        rintro e w2 ⟨rfl, hw2⟩
        rw [hw2]
        go_wp2_with fail
        refine (HKN.out _ HK1.out).mono ?_
        rintro e w7 ⟨rfl, k7⟩
        have HK7 := hidMk (HK1.out.trans k7)
        clear k7
        go_wp2_with fail
        go_ret
        exact ⟨rfl, HK7.out⟩
  · have HN1 := hidMk (arena_NewBad room w hr)
    have HN2 := hidMk (pages_NewNil codes w)
    clear hr
    go_enter Tryd.func3, Tryd.ntmps3
    go_wp2_with fail
    refine HN1.out.mono ?_
    rintro e w1 ⟨rfl, hw1⟩
    rw [hw1]
    go_wp2_with fail
    refine HN2.out.mono ?_
    rintro e w2 ⟨rfl, hw2⟩
    rw [hw2]
    go_wp2_with fail
    refine (HKN.out _ (Kept.refl w)).mono ?_
    rintro e w7 ⟨rfl, k7⟩
    have HK7 := hidMk k7
    clear k7
    go_wp2_with fail
    go_ret
    exact ⟨rfl, HK7.out⟩
set_option maxHeartbeats 4000000 in
set_option maxRecDepth 100000 in
theorem law_PagesNil (code : Int) (w : World) (hV : Vars w) : Calls Tryd.prog 8 #[.int .i64 code] w fun e w' => e = .returned (.bool true) ∧ Kept w w' := by
  have HKN := hidMk (fun W (h : Kept w W) => l10_known W (hV.kept h))
  clear hV
  go_enter Tryd.func8, Tryd.ntmps8
  go_wp2_with fail
  refine (nil_PGet 0 code w).mono ?_
  rintro e w1 ⟨rfl, k1⟩
  obtain ⟨W1, hW1⟩ : ∃ W, W = w1.alloc (.cells #[.int .i64 0, .bool false] 39) := ⟨_, rfl⟩
  have HK1 := hidMk (show Kept w W1 from by rw [hW1]; exact k1.alloc _)
  clear k1
  go_wp2_with fail
  rw [← hW1]
  clear hW1
  refine (nil_PSet 0 code 0 false _).mono ?_
  rintro e w2 ⟨rfl, k2⟩
  have HK2 := hidMk (HK1.out.trans k2)
  clear k2
  go_wp2_with fail
  refine (nil_All 0 _).mono ?_
  rintro e w3 ⟨rfl, k3⟩
  have HK3 := hidMk (HK2.out.trans k3)
  clear k3
  go_wp2_with fail
  refine (nil_Differ 0 0 _).mono ?_
  rintro e w4 ⟨rfl, k4⟩
  have HK4 := hidMk (HK3.out.trans k4)
  clear k4
  go_wp2_with fail
  refine (nil_Arena _).mono ?_
  rintro e w5 ⟨rfl, hw5⟩
  rw [hw5]
  go_wp2_with fail
  refine (nil_Codes _).mono ?_
  rintro e w6 ⟨rfl, hw6⟩
  rw [hw6]
  go_wp2_with fail
  refine (nil_Levels _).mono ?_
  rintro e w7 ⟨rfl, hw7⟩
  rw [hw7]
  go_wp2_with fail
  refine (nil_PKeep 0 _).mono ?_
  rintro e w8 ⟨rfl, hw8⟩
  rw [hw8]
  go_wp2_with fail
  refine (nil_PDrop 0 _).mono ?_
  rintro e w9 ⟨rfl, hw9⟩
  rw [hw9]
  go_wp2_with fail
  refine (HKN.out _ HK4.out).mono ?_
  rintro e w10 ⟨rfl, k10⟩
  have HK10 := hidMk (HK4.out.trans k10)
  clear k10
  go_wp2_with fail
  go_ret
  exact ⟨rfl, HK10.out⟩
end Go.Proofs.YtimnbbpiapjfhaaDoor
