/- log: what must come of fixed calls. -/
import Derived.Test.YtapcmkhpbdphoaaLgC
import Derived.Test.YtapcmkhpbdphoaaLgD
namespace Go.Proofs.Ytapcmkhpbdphoaa
open Go.RowKit Go.Maps
set_option linter.unusedSimpArgs false
set_option linter.unusedVariables false

theorem lit_row (w : World) (q : Sv) (r : List Int) (h : Sl .u8 w q.1 q.2.1 r) (hq : ∀ ad, q.1 = some ad → ad.block < w.heap.size) : Rz (w.alloc (.cells #[slv3 q] 33)) w.heap.size (.slice (some ⟨w.heap.size, 0, none⟩) 1 1) [q] [r] := by
  refine ⟨⟨rfl, .inr ⟨w.heap.size, 1, #[slv3 q], rfl, Nat.le_refl _, ?_, Nat.le_refl _, by unfold maxLen; omega, rfl, rfl⟩⟩, rfl, fun i hi => ?_, fun x hx ad e => ?_⟩
  · exact World.alloc_heap_new w _
  · obtain rfl : i = 0 := by simp at hi; omega
    exact h.kept ((Kept.refl w).alloc _)
  · simp at hx
    subst hx
    have := hq ad e
    refine ⟨fun e2 => ?_, by rw [World.size_alloc]; omega⟩
    simp only [Value.ownBlock, Option.some.injEq] at e2
    omega
theorem rec_a : (recB [97]).length = 7 := by rw [known_rec]; rfl
theorem ok_a : RecOk [97] := ⟨by decide, by decide, by intro x hx; simp at hx; unfold isB; omega⟩
theorem cat_a : (catR [[97]]).length = 7 := by rw [catR_one, rec_a]
set_option maxHeartbeats 1000000 in
set_option maxRecDepth 100000 in
theorem law25_known (w : World) : Calls Try.prog 12 #[] w fun e w' => e = .returned (.bool true) ∧ Kept w w' := by
  go_enter Try.func12, Try.ntmps12
  go_wp2_with fail
  refine (bk_New 4 w).mono ?_
  intro e w1 h1
  rw [if_pos (by omega)] at h1
  obtain ⟨f, d, rfl, hf, hd, f1, q1⟩ := h1
  have F1 := hidMk (show Fl w1 f d 4 (zst 4 0) from f1)
  have Q1 := hidMk q1
  have HFD := hidMk (show w.heap.size ≤ f ∧ w.heap.size ≤ d from ⟨hf, hd⟩)
  clear f1 q1 hf hd
  go_wp2_with fail
  refine (log_Clear F1.out 1 3 (by omega) (by omega) (by omega) (by omega)).mono ?_
  rintro e w2 ⟨rfl, f2, c2⟩
  have F2 := hidMk (show Fl w2 f d 4 (zst 4 2) from f2)
  have Q2 := hidMk (show Kept w w2 from Chg.kept Q1.out c2 (fun j e => by have := HFD.out; rcases e with rfl | rfl <;> omega))
  clear f2 c2 F1 Q1
  have HREG := hidMk (show reg (zst 4 2).F 1 3 = logB 64 [] from by rw [logB_zero]; show (List.drop 32 (zs 128)).take 64 = zs 64; rw [zs_drop, zs_take (by omega)])
  go_wp2_with fail
  refine (log_Open F2.out rfl 1 3 (by omega) (by omega) (by omega) [] 0 (by rw [HREG.out]; exact logB_all (rs := []) (by simp))).mono ?_
  intro e w4 h4
  obtain ⟨p, g, K, va, vn, vc, qs, rfl, hp, hlg, k4⟩ := lg_open (T := fun j => j < w.heap.size) (rs := []) F2.out (zst_ok 4 2) rfl (by omega) (by omega) (by omega) (by simp) (by simp [catR]) HREG.out (fun j hj => Nat.lt_of_lt_of_le hj Q2.out.size) ⟨by have := HFD.out; omega, by have := HFD.out; omega⟩ h4
  have LG4 := hidMk hlg
  have Q4 := hidMk (Q2.out.trans k4)
  clear h4 hlg k4 F2 Q2 hp
  go_wp2_with fail
  rw [Lib.run_convert_bytes_const w4 _ _ _ 1 1 Try.underlying33 Try.underlying5]
  go_wp2_with fail
  have HSL := hidMk (sl_litR w4 [97] 5 (1, 2) (by decide))
  have K45 := hidMk ((Kept.refl w4).alloc (.cells ([97].map (Value.int .u8)).toArray 5 (1, 2)))
  have LG5 := hidMk (LG4.out.more (W := w4.alloc (.cells ([97].map (Value.int .u8)).toArray 5 (1, 2))) (Chg.of_kept K45.out))
  have Q5 := hidMk (Q4.out.trans K45.out)
  refine (log_Add LG5.out (some ⟨w4.heap.size, 0, none⟩) 1 1 [97] HSL.out ok_a (by rw [rec_a]; simp [catR]) (fun ad e => by cases e; exact .inr ⟨Nat.le_refl _, by rw [World.size_alloc]; exact Nat.lt_succ_self _⟩) (by simp [zst]) (by simp)).mono ?_
  intro e w6 h6
  obtain ⟨rfl, va6, vn6, vc6, qs6, s6, lg6, wt6, wr6, c6⟩ | ⟨_, e6, _⟩ := h6
  rotate_left
  · exact absurd e6 (by simp [zst])
  have LG6 := hidMk (show Lg w6 _ p f d g K va6 vn6 vc6 qs6 4 1 3 s6 [[97]] from lg6)
  have Q6 := hidMk (show Kept w w6 from Chg.kept Q5.out c6 (fun j e => by
    by_cases hj : j < w.heap.size
    · exact absurd (.inl hj) e
    · omega))
  clear lg6 c6 wt6 wr6 LG4 LG5 Q4 Q5 HSL K45
  go_wp2_with fail
  refine (log_Open LG6.out.fl LG6.out.off 1 3 (by omega) (by omega) (by omega) [[97]] 7 (by rw [LG6.out.rg, ← cat_a]; exact logB_all LG6.out.ok)).mono ?_
  intro e w8 h8
  rw [← cat_a] at h8
  obtain ⟨p8, g8, K8, va8, vn8, vc8, qs8, rfl, hp8, hlg8, k8⟩ := lg_open (T := fun j => j < w.heap.size) LG6.out.fl LG6.out.sok LG6.out.off (by omega) (by omega) (by omega) LG6.out.ok LG6.out.le LG6.out.rg (fun j hj => Nat.lt_of_lt_of_le hj Q6.out.size) ⟨by have := HFD.out; omega, by have := HFD.out; omega⟩ h8
  have LG8 := hidMk hlg8
  have Q8 := hidMk (Q6.out.trans k8)
  clear h8 hlg8 k8 LG6 Q6 hp8
  go_wp2_with fail
  refine (log_Records LG8.out.lc LG8.out.fl LG8.out.rz (by intro r hr; simp at hr; subst hr; simp) (by have := LG8.out.rz.len; simp at this; omega)).mono ?_
  rintro e w9 ⟨v9, qs9, rfl, z9, b9, k9⟩
  obtain ⟨a9, c9, rfl, _, _, _⟩ := z9.shape
  have Z9 := hidMk z9
  have K9 := hidMk k9
  have HL9 := hidMk (show qs9.length = 1 from by have := z9.len; simpa using this.symm)
  clear z9 b9 k9
  go_wp2_with fail
  rw [Lib.run_convert_bytes_const w9 _ _ _ 1 1 Try.underlying33 Try.underlying5]
  go_wp2_with fail
  have HSL := hidMk (sl_litR w9 [97] 5 (1, 2) (by decide))
  have K10 := hidMk ((Kept.refl w9).alloc (.cells ([97].map (Value.int .u8)).toArray 5 (1, 2)))
  have HRW := hidMk (lit_row (w9.alloc (.cells ([97].map (Value.int .u8)).toArray 5 (1, 2))) (some ⟨w9.heap.size, 0, none⟩, 1, 1) [97] HSL.out (fun ad e => by cases e; rw [World.size_alloc]; exact Nat.lt_succ_self _))
  have K11 := hidMk (K10.out.alloc (.cells #[slv3 (some ⟨w9.heap.size, 0, none⟩, 1, 1)] 33))
  rw [World.size_alloc] at HRW
  have HSM := hidMk (ref24_Same (Z9.out.kept K11.out) HRW.out (by intro r hr; simp at hr; subst hr; exact ok_a.2.2) (by simp))
  have HUS := hidMk (show ∀ Y, Kept w8 Y → Calls Try.prog 13 #[.pointer (some ⟨p8, 0, none⟩)] Y fun e w' => e = .returned (.int .i64 7) ∧ Kept Y w' from fun Y kY => by
    have := log_Used (LG8.out.lc.kept kY) (LG8.out.fl.kept kY)
    rw [cat_a] at this
    exact this)
  have HRM := hidMk (show ∀ Y, Kept w8 Y → Calls Try.prog 18 #[.pointer (some ⟨p8, 0, none⟩)] Y fun e w' => e = .returned (.int .i64 57) ∧ Kept Y w' from fun Y kY => by
    have := log_Room (LG8.out.lc.kept kY) (LG8.out.fl.kept kY) (by rw [cat_a]; omega) (by omega)
    rw [cat_a] at this
    exact this)
  have HCL := hidMk (show ∀ Y, Kept w8 Y → _ from fun Y kY => log_Clean (LG8.out.lc.kept kY) (LG8.out.fl.kept kY))
  refine HSM.out.mono ?_
  rintro e w12 ⟨rfl, k12⟩
  have K12 := hidMk (K9.out.trans (K11.out.trans k12))
  clear k12 HSM HRW Z9 HSL K10
  go_wp2_with fail
  refine (HUS.out w12 K12.out).mono ?_
  rintro e w13 ⟨rfl, k13⟩
  have K13 := hidMk (K12.out.trans k13)
  clear k13
  go_wp2_with fail
  refine (HRM.out w13 K13.out).mono ?_
  rintro e w14 ⟨rfl, k14⟩
  have K14 := hidMk (K13.out.trans k14)
  clear k14
  go_wp2_with fail
  refine (HCL.out w14 K14.out).mono ?_
  rintro e w15 ⟨rfl, k15⟩
  have K15 := hidMk (K14.out.trans k15)
  clear k15
  go_wp2_with fail
  go_ret
  exact ⟨rfl, Q8.out.trans K15.out⟩
end Go.Proofs.Ytapcmkhpbdphoaa
