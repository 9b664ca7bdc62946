/- moietylaw10.known; trees that are not there. -/
import Derived.Test.YtjkbhaplngnniaaDoorPg9
namespace Go.Proofs.YtjkbhaplngnniaaDoor
open Go.RowKit Go.Maps
set_option linter.unusedSimpArgs false
set_option linter.unusedVariables false

set_option maxHeartbeats 4000000 in
set_option maxRecDepth 100000 in
theorem l10_known (w : World) (hV : Vars w) : Calls Tryd.prog 11 #[] w fun e w' => e = .returned (.bool true) ∧ Kept w w' := by
  have HB := hidMk (l10_begin 10 100 w (by omega) (by omega) (by omega) (by omega))
  have hl3 : lvls 100 = 3 := by decide
  have HV := hidMk hV
  clear hV
  go_enter Tryd.func11, Tryd.ntmps11
  go_wp2_with fail
  refine HB.out.mono ?_
  rintro e w1 ⟨t, g, p, q, tb, rfl, hbp⟩
  have HBP := hidMk hbp
  have c0 := hbp.pl.c0
  have HLV := hidMk (pg_Levels hbp.pg)
  rw [hl3] at HLV
  clear hbp HB
  go_wp2_with fail
  refine HLV.out.mono ?_
  rintro e w2 ⟨rfl, hw2⟩
  rw [hw2]
  clear hw2 HLV
  have HS1 := hidMk (pg_Set HBP.out.ba HV.out HBP.out.pg (.inl rfl) (by omega) 0 9 (by omega) (by omega) (fun k hk => .inl (wI_zero _ _ _ k)) 5 false (by rw [hl3]; decide))
  rw [hl3] at HS1
  go_wp2_with fail
  refine HS1.out.mono ?_
  rintro e w3 ⟨s, hs, rfl, hb3, hx3⟩
  obtain rfl := kn10_first hs
  have HB3 := hidMk hb3
  have HG3 := hidMk (hx3.pg HBP.out.pg (.inl rfl))
  have c03 := hx3.cell (b := t) (.inr (.inl rfl)) c0
  have HAR := hidMk (pg_Arena HG3.out)
  have HUS := hidMk (show Calls Tryd.prog 18 #[.pointer (some ⟨p, 0, none⟩)] w3 fun e w' => e = .returned (.int .i64 3) ∧ w' = w3 from by
    obtain ⟨ow, hh⟩ := hb3.as
    have := as_Used hh
    rw [show usd kc.rf kc.n = 3 from by decide] at this
    exact this)
  have hid : kc.id = 3 := rfl
  have her : kc.er = 0 := rfl
  rw [hid, her]
  clear hs hb3 hx3 HS1 c0
  go_wp2_with fail
  refine HAR.out.mono ?_
  rintro e w4 ⟨rfl, hw4⟩
  rw [hw4]
  clear hw4 HAR
  go_wp2_with fail
  refine HUS.out.mono ?_
  rintro e w5 ⟨rfl, hw5⟩
  rw [hw5]
  clear hw5 HUS
  have HS2 := hidMk (pg_Set HB3.out HV.out HG3.out (.inl rfl) (by omega) 3 9 (by omega) (by omega) (by rw [hl3]; exact kn10_way) 0 false (by rw [hl3]; decide))
  rw [hl3] at HS2
  go_wp2_with fail
  refine HS2.out.mono ?_
  rintro e w6 ⟨s, hs, rfl, hb6, hx6⟩
  obtain ⟨e1, e2, e3, e4, e5⟩ := kn10_second hs
  rw [e3, e4, e5] at hb6
  rw [e1, e2]
  have c06 := hx6.cell (b := t) (.inr (.inl rfl)) c03
  have HK6 := hidMk hb6.kept
  have HGT := hidMk (show Calls Tryd.prog 27 #[.pointer (some ⟨g, 0, none⟩), .int .i64 3, .int .i64 9] w6 fun e w' => e = .returned (.tuple #[.agg #[.int .i64 5, .bool false], .int .i64 0]) ∧ Kept w6 w' from by
    obtain ⟨ow, hh⟩ := hb6.as
    have := pg_Get hh (hx6.pg HG3.out (.inl rfl)) 3 9 (by omega) (by omega) (by rw [hl3]; exact kn10_way)
    rw [hl3, show entN (wN kc.nd 9 3 3 1) 9 = (5, false) from by decide] at this
    exact this)
  clear hs hb6 hx6 HS2 e1 e2 e3 e4 e5 c03 HB3 HG3
  go_wp2_with fail
  refine HGT.out.mono ?_
  rintro e w7 ⟨rfl, k7⟩
  have HK7 := hidMk (HK6.out.trans k7)
  clear k7 HGT
  go_wp2_with fail
  go_ret
  exact ⟨rfl, HK7.out.alloc _⟩
theorem nil_Arena (w : World) : Calls Tryd.prog 12 #[.pointer none] w fun e w' => e = .returned (.pointer none) ∧ w' = w := by
  go_enter Tryd.func12, Tryd.ntmps12
  go_wp2_with fail
  go_ret
  exact ⟨rfl, rfl⟩
theorem nil_Codes (w : World) : Calls Tryd.prog 13 #[.pointer none] w fun e w' => e = .returned (.int .i64 0) ∧ w' = w := by
  go_enter Tryd.func13, Tryd.ntmps13
  go_wp2_with fail
  go_ret
  exact ⟨rfl, rfl⟩
theorem nil_Levels (w : World) : Calls Tryd.prog 14 #[.pointer none] w fun e w' => e = .returned (.int .i64 0) ∧ w' = w := by
  go_enter Tryd.func14, Tryd.ntmps14
  go_wp2_with fail
  go_ret
  exact ⟨rfl, rfl⟩
theorem nil_PKeep (i : Int) (w : World) : Calls Tryd.prog 29 #[.pointer none, .int .i64 i] w fun e w' => e = .returned (.int .i64 1) ∧ w' = w := by
  go_enter Tryd.func29, Tryd.ntmps29
  go_wp2_with fail
  go_ret
  exact ⟨rfl, rfl⟩
theorem nil_PDrop (i : Int) (w : World) : Calls Tryd.prog 26 #[.pointer none, .int .i64 i] w fun e w' => e = .returned (.int .i64 1) ∧ w' = w := by
  go_enter Tryd.func26, Tryd.ntmps26
  go_wp2_with fail
  go_ret
  exact ⟨rfl, rfl⟩
theorem nil_way (r c : Int) (w : World) : Calls Tryd.prog 40 #[.pointer none, .int .i64 r, .int .i64 c] w fun e w' => e = .returned (.tuple #[.slice none 0 0, .int .i64 1]) ∧ w' = w := by
  go_enter Tryd.func40, Tryd.ntmps40
  go_wp2_with fail
  go_ret2
  exact ⟨rfl, rfl⟩
theorem nil_PGet (r c : Int) (w : World) : Calls Tryd.prog 27 #[.pointer none, .int .i64 r, .int .i64 c] w fun e w' => e = .returned (.tuple #[.agg #[.int .i64 0, .bool false], .int .i64 1]) ∧ Kept w w' := by
  obtain ⟨W, hW⟩ : ∃ W, W = w.alloc (.cells #[.int .i64 0, .bool false] 39) := ⟨_, rfl⟩
  have HKW := hidMk (show Kept w W from by rw [hW]; exact (Kept.refl w).alloc _)
  have HWY := hidMk (nil_way r c W)
  have HT := hidMk (show W.there w.heap.size 0 2 from by rw [hW]; exact new_there w [.int .i64 0, .bool false] 39 2 rfl)
  go_enter Tryd.func27, Tryd.ntmps27
  go_wp2_with fail
  rw [← hW]
  clear hW
  refine HWY.out.mono ?_
  rintro e w2 ⟨rfl, hw2⟩
  rw [hw2]
  go_wp2_with (first | (refine wpl_storeT en_size rfl _ _ rfl _ _ rfl [.int .i64 0, .bool false] rfl rfl (by simp [Value.oneCell']) HT.out ?_))
  exact get_rets10 w.heap.size 0 false (World.rangeAt_setCells_same _ _ _ _ HT.out) rfl rfl rfl ⟨rfl, kept_setCells (Nat.le_refl _) _ _ HKW.out⟩
theorem nil_PSet (r c : Int) (a : Int) (b : Bool) (w : World) : Calls Tryd.prog 28 #[.pointer none, .int .i64 r, .int .i64 c, .agg #[.int .i64 a, .bool b]] w fun e w' => e = .returned (.tuple #[.int .i64 0, .int .i64 1]) ∧ Kept w w' := by
  have HWY := hidMk (fun W => nil_way r c W)
  go_enter Tryd.func28, Tryd.ntmps28
  go_wp2_with fail
  refine (HWY.out _).mono ?_
  rintro e w2 ⟨rfl, hw2⟩
  rw [hw2]
  go_wp2_with fail
  go_ret2
  exact ⟨rfl, (Kept.refl w).alloc _⟩
theorem nil_together (a b : Int) (fn : Fn) (xs ys : Array Value) (w : World) : Calls Tryd.prog 35 #[.pointer none, .int .i64 a, .int .i64 b, .func fn xs ys] w fun e w' => e = .returned (.int .i64 1) ∧ Kept w w' := by
  go_enter Tryd.func35, Tryd.ntmps35
  go_wp2_with fail
  go_ret
  exact ⟨rfl, ((Kept.refl w).alloc _).alloc _⟩
theorem nil_All (r : Int) (w : World) : Calls Tryd.prog 22 #[.pointer none, .int .i64 r] w fun e w' => e = .returned (.tuple #[.slice none 0 0, .int .i64 1]) ∧ Kept w w' := by
  have HT := hidMk (fun ys W => nil_together r 0 (.func 36) #[] ys W)
  go_enter Tryd.func22, Tryd.ntmps22
  go_wp2_with fail
  refine (HT.out _ _).mono ?_
  rintro e w2 ⟨rfl, k2⟩
  have HK := hidMk (((Kept.refl w).alloc _).trans k2)
  clear k2
  go_wp2_with fail
  go_ret2
  exact ⟨rfl, HK.out⟩
theorem nil_Differ (r s : Int) (w : World) : Calls Tryd.prog 24 #[.pointer none, .int .i64 r, .int .i64 s] w fun e w' => e = .returned (.tuple #[.slice none 0 0, .int .i64 1]) ∧ Kept w w' := by
  have HT := hidMk (fun ys W => nil_together r s (.func 38) #[] ys W)
  go_enter Tryd.func24, Tryd.ntmps24
  go_wp2_with fail
  refine (HT.out _ _).mono ?_
  rintro e w2 ⟨rfl, k2⟩
  have HK := hidMk (((Kept.refl w).alloc _).trans k2)
  clear k2
  go_wp2_with fail
  go_ret2
  exact ⟨rfl, HK.out⟩
end Go.Proofs.YtjkbhaplngnniaaDoor
