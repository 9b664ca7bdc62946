/- The definition's sets: Less. -/
import Derived.Test.YthbogpnkdlbilaaRefReg5
import Derived.Deep.RegionHeld3
namespace Go.Proofs.Ythbogpnkdlbilaa
open Go.RowKit Go.Maps
set_option linter.unusedSimpArgs false
set_option linter.unusedVariables false

theorem lessL_take {s t : List Int} {k : Nat} (h : k < s.length) : lessL (s.take (k + 1)) t = if s.getD k 0 ∉ t then lessL (s.take k) t ++ [s.getD k 0] else lessL (s.take k) t := by
  unfold lessL
  have e : s.getD k 0 = s[k] := by simp [List.getD, List.getElem?_eq_getElem h]
  rw [List.take_succ_eq_append_getElem h, List.filter_append, e]
  by_cases c : s[k] ∉ t
  · rw [if_pos c]; simp [c]
  · rw [if_neg c]; have c2 := Classical.not_not.1 c; simp [c2]
theorem lessL_len (s t : List Int) : (lessL s t).length ≤ s.length := List.length_filter_le _ _
set_option maxHeartbeats 4000000 in
set_option maxRecDepth 100000 in
theorem ref8_Less (v u : Value) (S T : List Int) (w : World) (h : LsIs w v S) (g : LsIs w u T) (hl : S.length ≤ 20000) : Calls Try.prog 19 #[v, u] w fun e w' => ∃ v', e = .returned v' ∧ LsIs w' v' (lessL S T) ∧ Kept w w' := by
  obtain ⟨a, c, rfl, hs⟩ := h
  obtain ⟨b, d, rfl, ht⟩ := g
  have HS := hidMk hs
  have HTT := hidMk (show ∀ y, Kept w y → LsIs y (.agg #[.slice b T.length d]) T from fun y hy => ⟨b, d, rfl, ht.kept hy⟩)
  obtain ⟨J, hJ⟩ : ∃ J, lessL S T = J := ⟨_, rfl⟩
  rw [hJ]
  have HJ := hidMk hJ
  have HW1 := hidMk (show Kept w ((w.alloc (.cells #[.slice a S.length c] 31)).alloc (.cells #[.slice b T.length d] 31)) from ((Kept.refl w).alloc _).alloc _)
  have HC1 := hidMk (show ((w.alloc (.cells #[.slice a S.length c] 31)).alloc (.cells #[.slice b T.length d] 31)).cell? ⟨w.heap.size, 0, none⟩ = some (.slice a S.length c) from ((Kept.refl _).alloc _).cellp (new_cell rfl _ _))
  have HC2 := hidMk (show ((w.alloc (.cells #[.slice a S.length c] 31)).alloc (.cells #[.slice b T.length d] 31)).cell? ⟨w.heap.size + 1, 0, none⟩ = some (.slice b T.length d) from new_cell (by simp) _ _)
  clear hs ht hJ
  go_enter Try.func19, Try.ntmps19
  go_wp2_with fail
  go_loopg [6] S.length (fun g i wr => ∃ (k : Nat) (vv : Value), k + g = S.length ∧ i = .int .i64 k ∧ LO ((w.alloc (.cells #[.slice a S.length c] 31)).alloc (.cells #[.slice b T.length d] 31)) wr (w.heap.size + 1 + 1) (w.heap.size + 1 + 1 + 1) (w.heap.size + 1 + 1 + 1 + 1) vv (lessL (S.take k) T))
  case atStart => exact ⟨0, .slice none 0 0, by omega, rfl, lo_start (by simp) (Kept.refl _) _ _⟩
  case round =>
    obtain ⟨k, vv, hkg, rfl, hL⟩ := hrel
    have HKG := hidMk hkg
    have HL := hidMk hL
    have hml := lessL_len (S.take k) T
    rw [List.length_take] at hml
    have x1 := hL.kept.cellp HC1.out
    have x2 := hL.kept.cellp HC2.out
    have HKW := hidMk (HW1.out.trans hL.kept)
    obtain ⟨va, vc, rfl, _⟩ := hL.own.sl (by unfold maxLen; omega)
    by_cases hkn : k < S.length
    · obtain ⟨bb, o, rfl, hbb, hcs⟩ := HS.out.cells (by omega)
      have hc := HKW.out.cellp (hcs k hkn)
      have kn' : (k : Int) < (S.length : Int) := by omega
      have HT := hidMk (lessL_take (s := S) (t := T) (k := k) (by omega))
      clear hcs hkg hL
      have HIN := hidMk (show ∀ y, Kept wr y → ∀ b, decide (S.getD k 0 ∈ T) = b → _ from fun y hy b hb => ref8_Has _ T (S.getD k 0) y (HTT.out y (HKW.out.trans hy)) b hb)
      by_cases hin : S.getD k 0 ∈ T
      · rw [if_neg (fun e => e hin)] at HT
        have HI2 := hidMk (fun y hy => HIN.out y hy true (decide_eq_true hin))
        clear HIN hin
        generalize S.getD k 0 = x at *
        generalize lessL (S.take k) T = acc at *
        go_wp2_with fail
        go_region_held3 (fun w' => w'.cell? ⟨w.heap.size, 0, none⟩ = some (.slice (some ⟨bb, o, none⟩) S.length c) ∧ w'.cell? ⟨w.heap.size + 1, 0, none⟩ = some (.slice b T.length d) ∧ w'.cell? ⟨bb, o + k, none⟩ = some (.int .i64 x)) (first | assumption | go_keep | (refine ⟨?_, ?_, ?_⟩ <;> assumption))
          ((go_at_call 26; refine (HI2.out _ ((Kept.refl wr).drew)).mono ?_; rintro e w5 ⟨rfl, k5⟩; have y1 := k5.cellp (((Kept.refl wr).drew).cellp x1); have y2 := k5.cellp (((Kept.refl wr).drew).cellp x2); have y3 := k5.cellp (((Kept.refl wr).drew).cellp hc); have HL5 := hidMk (HL.out.keep (((Kept.refl wr).drew).trans k5)); clear k5))
        go_wp2_with fail
        go_roundg (gk - 1)
        case measure => have := HKG.out; omega
        case rel => exact ⟨k + 1, .slice va acc.length vc, by have := HKG.out; omega, by go_num, by rw [HT.out]; exact HL5.out⟩
      · rw [if_pos hin] at HT
        have HI2 := hidMk (fun y hy => HIN.out y hy false (decide_eq_false hin))
        clear HIN hin
        generalize S.getD k 0 = x at *
        generalize lessL (S.take k) T = acc at *
        go_wp2_with fail
        go_region_held3 (fun w' => w'.cell? ⟨w.heap.size, 0, none⟩ = some (.slice (some ⟨bb, o, none⟩) S.length c) ∧ w'.cell? ⟨w.heap.size + 1, 0, none⟩ = some (.slice b T.length d) ∧ w'.cell? ⟨bb, o + k, none⟩ = some (.int .i64 x)) (first | assumption | go_keep | (refine ⟨?_, ?_, ?_⟩ <;> assumption))
          ((go_at_call 26; refine (HI2.out _ ((Kept.refl wr).drew)).mono ?_; rintro e w5 ⟨rfl, k5⟩; have y1 := k5.cellp (((Kept.refl wr).drew).cellp x1); have y2 := k5.cellp (((Kept.refl wr).drew).cellp x2); have y3 := k5.cellp (((Kept.refl wr).drew).cellp hc); have HL5 := hidMk (HL.out.keep (((Kept.refl wr).drew).trans k5)); clear k5))
        have s5 := HL5.out.c
        have f5 := HL5.out.f
        have hB5 := HL5.out.hB
        have HP5 := hidMk (show ∀ (W Y : World) (v' : Value) (m : List Int), Kept w5 W → OwnI Y (w.heap.size + 1 + 1 + 1 + 1) v' m → Chg (fun k => (Value.slice va acc.length vc).ownBlock = some k) W Y → _ from fun W Y v' m hk ho hc => HL5.out.push hk ho hc)
        have HOW := hidMk (show ∀ y, Kept w5 y → OwnI y (w.heap.size + 1 + 1 + 1 + 1) (.slice va acc.length vc) acc from fun y hy => HL5.out.own.kept' hy)
        have s5' := fun o => (((Kept.refl w5).alloc o).drew).cellp s5
        go_wp2_with fail
        go_region_law ((refine step_pushI _ (by rfl) _ _ (by rfl) (w.heap.size + 1 + 1 + 1 + 1) (.slice va acc.length vc) acc (by rfl) (HOW.out _ (((Kept.refl _).alloc _).drew)) (by simp; omega) w5.heap.size x (by rfl) (by simp) (by omega) (w5.heap.size + 1) (by simp) ?_; intro g4 cap4 w4 o4 k4 a4 l4; obtain ⟨q4, f4, _, d4⟩ := HP5.out _ w4 _ _ (((Kept.refl _).alloc _).drew) o4 k4; have H4 := hidMk d4; clear o4 k4 a4 l4 d4))
        all_goals (try go_wp2_with fail)
        all_goals
          go_roundg (gk - 1)
          case measure => have := HKG.out; omega
          case rel => exact ⟨k + 1, _, by have := HKG.out; omega, by go_num, by rw [HT.out]; exact H4.out⟩
    · have htk : S.take k = S := List.take_of_length_le (by omega)
      rw [htk, HJ.out] at HL hL
      have hkk : ¬ ((k : Int) < (S.length : Int)) := by omega
      have s0 := hL.c
      obtain ⟨ru, hru⟩ := hL.rc
      have hrf := hL.rf
      have hjl : J.length ≤ 100000 := by rw [← HJ.out]; have := lessL_len S T; omega
      clear hL hkg hml htk
      go_wp2_with fail
      obtain ⟨t1, t2, t3⟩ := HL.out.ret hjl
      exact lset_ret rfl (w.heap.size + 1 + 1) _ rfl rfl t1 ⟨_, rfl, t2, HW1.out.trans t3⟩
end Go.Proofs.Ythbogpnkdlbilaa
