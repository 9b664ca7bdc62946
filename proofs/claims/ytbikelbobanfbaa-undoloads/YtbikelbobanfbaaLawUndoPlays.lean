/- UndoPlays: a history that is played with. -/
import Derived.Test.YtbikelbobanfbaaUndo7
namespace Go.Proofs.Ytbikelbobanfbaa
open Go.RowKit Go.Maps
set_option linter.unusedSimpArgs false
set_option linter.unusedVariables false

theorem nil_or_last (p : List Int) : p = [] ∨ ∃ l y, p = l ++ [y] := by
  rcases List.eq_nil_or_concat p with h | ⟨l, y, h⟩
  · exact .inl h
  · exact .inr ⟨l, y, by simpa using h⟩
set_option maxHeartbeats 8000000 in
set_option maxRecDepth 100000 in
theorem law_UndoPlays (first : Int) (a : Option Addr) (N c : Nat) (kd nn : Nat → Int) (w : World) (hs : As w a N kd nn) : Calls Try.prog 3 #[.int .i64 first, .slice a N c] w fun e w' => e = .returned (.bool true) ∧ Kept w w' := by
  have hbig := hs.big
  unfold maxLen at hbig
  have HS := hidMk hs
  have HN := hidMk (hs_New first w)
  clear hs
  obtain ⟨M, hM⟩ : ∃ M, M = if N ≤ 100 then N else 100 := ⟨_, rfl⟩
  have hM1 : M ≤ N := by rw [hM]; split <;> omega
  have hM2 : M ≤ 100 := by rw [hM]; split <;> omega
  have hM3 : M = N ∨ M = 100 := by rw [hM]; split <;> omega
  clear hM
  go_enter Try.func3, Try.ntmps3
  go_wp2_with fail
  refine HN.out.mono ?_
  rintro e w1 ⟨rfl, h1, k1⟩
  have HR := hidMk (bi_New first k1 h1)
  have hk1 := k1.size
  have hqne : w.heap.size < w1.heap.size := h1.hlt
  clear h1 k1
  go_wp2_with fail
  refine HR.out.mono ?_
  rintro e w2 ⟨rfl, h2⟩
  have HB2 := hidMk (show Bi w w2 w.heap.size (w1.heap.size + 1) (some ⟨w1.heap.size, 0, none⟩) 1 [] first [] ([] ++ first :: []) ([] : List Int).length from h2)
  clear h2
  obtain ⟨q, hq⟩ : ∃ q, q = w1.heap.size + 1 := ⟨_, rfl⟩
  rw [← hq] at HB2 ⊢
  clear hq
  have HAL := hidMk (law18_alike HB2.out)
  go_wp2_with fail
  refine HAL.out.mono ?_
  rintro e w3 ⟨rfl, k3⟩
  have HB3 := hidMk (HB2.out.keep k3)
  clear k3
  go_wp2_with fail
  go_loopg [7] M (fun gg iv wr => ∃ (k : Nat) (la : Option Addr) (lc : Nat) (p : List Int) (x : Int) (f : List Int), k + gg = M ∧ iv = .int .i64 (k : Int) ∧ Hid (Bi w wr w.heap.size q la lc p x f (p ++ x :: f) p.length))
  case atStart => exact ⟨0, _, _, _, _, _, by omega, rfl, HB3⟩
  case round =>
    obtain ⟨k, la, lc, p, x, f, hkg, rfl, HB⟩ := hrel
    have HKG := hidMk hkg
    by_cases hkM : k < M
    · have hk1 : (k : Int) < (N : Int) := by omega
      have hk2 : (k : Int) < 100 := by omega
      have hk3 : k < N := by omega
      have hk0 : (0 : Int) ≤ (k : Int) := by omega
      obtain ⟨ab, ao, rfl, hab, hcs⟩ := HS.out.cells (by omega)
      obtain ⟨q1, q2, q3⟩ := hcs k hk3
      have hab' : ab < wr.heap.size := Nat.lt_of_lt_of_le hab HB.out.kp.size
      have q1' := HB.out.kp.cellp q1
      have q2' := HB.out.kp.cellp q2
      have HQ2 := hidMk q2
      clear hcs q1 q3 q2 hkg
      have hmany := HB.out.hs.many
      have hqlt := HB.out.rf.qlt
      generalize kd k = xk at *
      generalize nn k = xn at *
      by_cases hq0 : xk.tmod 3 = 0
      · have HD := hidMk (show ∀ z, Kept wr z → Calls Try.prog 11 #[.pointer (some ⟨w.heap.size, 0, none⟩), .int .i64 xn] z (BiDo w z w.heap.size q la lc p x f xn (p ++ x :: f) p.length) from fun z hz => bi_Do (HB.out.keep hz) xn)
        have HRD := hidMk (show ∀ (v z : World) la lc, Bi w v w.heap.size q la lc (pastL p x) xn [] (p ++ x :: f) p.length → Kept v z → Calls Try.prog 12 #[.pointer (some ⟨q, 0, none⟩), .int .i64 xn] z (BiRd w z w.heap.size q (pastL p x) xn [] p x f xn) from fun v z la lc hv hz => bi_rDo (hv.keep hz) hmany xn)
        have q2'' := HQ2.out
        have HPG := hidMk (show ∃ l, l = goneL p f from ⟨_, rfl⟩)
        obtain ⟨G, hG⟩ : ∃ G, G = goneL p f := ⟨_, rfl⟩
        obtain ⟨PP, hPP⟩ : ∃ PP, PP = pastL p x := ⟨_, rfl⟩
        unfold BiDo at HD
        unfold BiRd at HRD
        rw [← hG, ← hPP] at HD
        rw [← hG, ← hPP] at HRD
        clear hG hPP HPG
        go_wp2_with fail
        go_region_held3 (fun w' => w'.cell? ⟨ab, ao + k * 2 + 1, none⟩ = some (.int .i64 xn)) (first | assumption | (refine Kept.cellp ?_ q2'; (repeat (first | (with_reducible exact Kept.refl _) | (with_reducible refine Kept.alloc ?_ _) | (with_reducible refine Kept.drew ?_) | (with_reducible refine Kept.drewN ?_ _) | (with_reducible refine Kept.trans ?_ (by assumption)))); done) | (refine Kept.cellp ?_ q2''; (repeat (first | (with_reducible exact Kept.refl _) | (with_reducible refine Kept.alloc ?_ _) | (with_reducible refine Kept.drew ?_) | (with_reducible refine Kept.drewN ?_ _) | (with_reducible refine Kept.trans ?_ (by assumption)))); done))
          (first
            | (go_at_call 11; refine (HD.out _ (by (repeat (first | (with_reducible exact Kept.refl _) | (with_reducible refine Kept.alloc ?_ _) | (with_reducible refine Kept.drew ?_) | (with_reducible refine Kept.drewN ?_ _) | (with_reducible refine Kept.trans ?_ (by assumption)))))).mono ?_; rintro e w4 ⟨ga4, gc4, rfl, s4, b4, h4⟩; have k4 := h4.kp)
            | (go_at_call 12; refine (HRD.out _ _ _ _ h4 (by (repeat (first | (with_reducible exact Kept.refl _) | (with_reducible refine Kept.alloc ?_ _) | (with_reducible refine Kept.drew ?_) | (with_reducible refine Kept.drewN ?_ _) | (with_reducible refine Kept.trans ?_ (by assumption)))))).mono ?_; rintro e w5 ⟨ga5, gc5, la5, lc5, rfl, s5, h5, c5⟩; have s6 := two_sl s4 (by (repeat (first | (with_reducible exact Kept.refl _) | (with_reducible refine Kept.alloc ?_ _) | (with_reducible refine Kept.drew ?_) | (with_reducible refine Kept.drewN ?_ _) | (with_reducible refine Kept.trans ?_ (by assumption))))) c5 b4 (by simpa using hqlt); have k5 := h5.kp; have HB5 := hidMk h5; clear s4 b4 h4 h5 c5)
            | (go_at_call 10; refine (ints_same _ _ _ _ _ _ _ _ (Sl.kept (by assumption) (by (repeat (first | (with_reducible exact Kept.refl _) | (with_reducible refine Kept.alloc ?_ _) | (with_reducible refine Kept.drew ?_) | (with_reducible refine Kept.drewN ?_ _) | (with_reducible refine Kept.trans ?_ (by assumption)))))) (Sl.kept (by assumption) (by (repeat (first | (with_reducible exact Kept.refl _) | (with_reducible refine Kept.alloc ?_ _) | (with_reducible refine Kept.drew ?_) | (with_reducible refine Kept.drewN ?_ _) | (with_reducible refine Kept.trans ?_ (by assumption))))))).mono ?_; rintro e w6 ⟨rfl, k6⟩; have HB6 := hidMk (HB5.out.keep (show Kept w5 w6 from by (repeat (first | (with_reducible exact Kept.refl _) | (with_reducible refine Kept.alloc ?_ _) | (with_reducible refine Kept.drew ?_) | (with_reducible refine Kept.drewN ?_ _) | (with_reducible refine Kept.trans ?_ (by assumption))))))))
        all_goals (try go_wp2_with fail)
        all_goals
          have HAL := hidMk (law18_alike HB6.out)
          refine HAL.out.mono ?_
          rintro e w9 ⟨rfl, k9⟩
          have HB9 := hidMk (HB6.out.keep k9)
          clear k9
          go_wp2_with fail
          go_roundg (gk - 1)
          case measure => have := HKG.out; omega
          case rel => exact ⟨k + 1, la5, lc5, PP, xn, [], by have := HKG.out; omega, by go_num, HB9⟩
      · by_cases hq1 : xk.tmod 3 = 1
        · rcases nil_or_last p with rfl | ⟨l, y, rfl⟩
          · have HU := hidMk (hs_UndoNone HB.out.hs)
            have HRU := hidMk (r18_UndoNone HB.out.rf)
            go_wp2_with fail
            refine HU.out.mono ?_
            rintro e w4 ⟨rfl, rfl⟩
            go_wp2_with fail
            refine HRU.out.mono ?_
            rintro e w5 ⟨rfl, rfl⟩
            go_wp2_with fail
            have HAL := hidMk (law18_alike HB.out)
            refine HAL.out.mono ?_
            rintro e w9 ⟨rfl, k9⟩
            have HB9 := hidMk (HB.out.keep k9)
            clear k9
            go_wp2_with fail
            go_roundg (gk - 1)
            case measure => have := HKG.out; omega
            case rel => exact ⟨k + 1, la, lc, [], x, f, by have := HKG.out; omega, by go_num, HB9⟩
          · have HU := hidMk (bi_Undo HB.out)
            go_wp2_with fail
            refine HU.out.mono ?_
            rintro e w4 ⟨rfl, h4⟩
            have HRU := hidMk (bi_rUndo (at_ := l.length) (by simpa using h4))
            rw [show (l ++ y :: x :: f).getD l.length 0 = y by rw [getD_app, if_neg (by omega), Nat.sub_self]; rfl] at HRU
            clear h4
            go_wp2_with fail
            refine HRU.out.mono ?_
            rintro e w5 ⟨rfl, h5⟩
            have HB5 := hidMk h5
            clear h5
            go_wp2_with fail
            have HAL := hidMk (law18_alike HB5.out)
            refine HAL.out.mono ?_
            rintro e w9 ⟨rfl, k9⟩
            have HB9 := hidMk (HB5.out.keep k9)
            clear k9
            go_wp2_with fail
            go_roundg (gk - 1)
            case measure => have := HKG.out; omega
            case rel => exact ⟨k + 1, la, lc, l, y, (x :: f), by have := HKG.out; omega, by go_num, HB9⟩
        · cases f with
          | nil =>
            have HU := hidMk (hs_RedoNone HB.out.hs)
            have HRU := hidMk (r18_RedoNone HB.out.rf (by simp))
            go_wp2_with fail
            refine HU.out.mono ?_
            rintro e w4 ⟨rfl, rfl⟩
            go_wp2_with fail
            refine HRU.out.mono ?_
            rintro e w5 ⟨rfl, k5⟩
            have HB5 := hidMk (HB.out.keep k5)
            clear k5
            go_wp2_with fail
            have HAL := hidMk (law18_alike HB5.out)
            refine HAL.out.mono ?_
            rintro e w9 ⟨rfl, k9⟩
            have HB9 := hidMk (HB5.out.keep k9)
            clear k9
            go_wp2_with fail
            go_roundg (gk - 1)
            case measure => have := HKG.out; omega
            case rel => exact ⟨k + 1, la, lc, p, x, [], by have := HKG.out; omega, by go_num, HB9⟩
          | cons y f =>
            have HU := hidMk (bi_Redo HB.out)
            go_wp2_with fail
            refine HU.out.mono ?_
            rintro e w4 ⟨rfl, h4⟩
            have HRU := hidMk (bi_rRedo h4 (by simp))
            rw [show (p ++ x :: y :: f).getD (p.length + 1) 0 = y by rw [getD_app, if_neg (by omega), Nat.add_sub_cancel_left]; rfl, show p ++ x :: y :: f = (p ++ [x]) ++ y :: f by simp, show p.length + 1 = (p ++ [x]).length by simp] at HRU
            clear h4
            go_wp2_with fail
            refine HRU.out.mono ?_
            rintro e w5 ⟨rfl, h5⟩
            have HB5 := hidMk h5
            clear h5
            go_wp2_with fail
            have HAL := hidMk (law18_alike HB5.out)
            refine HAL.out.mono ?_
            rintro e w9 ⟨rfl, k9⟩
            have HB9 := hidMk (HB5.out.keep k9)
            clear k9
            go_wp2_with fail
            go_roundg (gk - 1)
            case measure => have := HKG.out; omega
            case rel => exact ⟨k + 1, la, lc, (p ++ [x]), y, f, by have := HKG.out; omega, by go_num, HB9⟩
    · have hkM' : ¬ ((k : Int) < (N : Int)) ∨ ¬ ((k : Int) < 100) := by omega
      have HKN := hidMk (law18_known wr)
      have HKP := hidMk HB.out.kp
      by_cases hkn : (k : Int) < (N : Int)
      · have hk100 : ¬ ((k : Int) < 100) := by omega
        go_wp2_with fail
        refine HKN.out.mono ?_
        rintro e w4 ⟨rfl, k4⟩
        go_wp2_with fail
        go_ret
        exact ⟨rfl, HKP.out.trans k4⟩
      · go_wp2_with fail
        refine HKN.out.mono ?_
        rintro e w4 ⟨rfl, k4⟩
        go_wp2_with fail
        go_ret
        exact ⟨rfl, HKP.out.trans k4⟩
end Go.Proofs.Ytbikelbobanfbaa
