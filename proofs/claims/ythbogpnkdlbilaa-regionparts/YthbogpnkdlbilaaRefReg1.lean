/- The definition's sets: Has, Runs, put. -/
import Derived.Test.YthbogpnkdlbilaaReg10
namespace Go.Proofs.Ythbogpnkdlbilaa
open Go.RowKit Go.Maps
set_option linter.unusedSimpArgs false
set_option linter.unusedVariables false

/-- A set of the definition's: its numbers. -/
def LsIs (w : World) (v : Value) (l : List Int) : Prop := ∃ a c, v = .agg #[.slice a l.length c] ∧ Sl .i64 w a l.length l
theorem LsIs.kept {w w' : World} {v : Value} {l : List Int} (h : LsIs w v l) (g : Kept w w') : LsIs w' v l := by
  obtain ⟨a, c, h1, h2⟩ := h
  exact ⟨a, c, h1, h2.kept g⟩
theorem getD_mem {l : List Int} {k : Nat} (h : k < l.length) : l.getD k 0 ∈ l := by simp [List.getD, List.getElem?_eq_getElem h]
theorem mem_getD {l : List Int} {x : Int} (h : x ∈ l) : ∃ k, k < l.length ∧ l.getD k 0 = x := by
  obtain ⟨k, hk, rfl⟩ := List.getElem_of_mem h
  exact ⟨k, hk, by simp [List.getD, List.getElem?_eq_getElem hk]⟩
set_option maxHeartbeats 1000000 in
theorem ref8_Has (v : Value) (l : List Int) (x : Int) (w : World) (h : LsIs w v l) (b : Bool) (hb : decide (x ∈ l) = b) : Calls Try.prog 26 #[v, .int .i64 x] w fun e w' => e = .returned (.bool b) ∧ Kept w w' := by
  obtain ⟨a, c, rfl, hs⟩ := h
  have HB := hidMk hb
  have HS := hidMk hs
  have hbig := hs.big
  unfold maxLen at hbig
  clear hb hs
  go_enter Try.func26, Try.ntmps26
  go_wp2_with fail
  go_loopg [5] l.length (fun g i wr => ∃ k : Nat, k + g = l.length ∧ i = .int .i64 k ∧ wr = w.alloc (.cells #[.slice a l.length c] 31) ∧ Hid (∀ j, j < k → l.getD j 0 ≠ x))
  case atStart => exact ⟨0, by omega, rfl, rfl, hidMk fun j hj => absurd hj (by omega)⟩
  case round =>
    obtain ⟨k, hkg, rfl, hwr, HJ⟩ := hrel
    have HKG := hidMk hkg
    subst hwr
    by_cases hkn : k < l.length
    · obtain ⟨bb, o, rfl, hbb, hcs⟩ := HS.out.cells (by omega)
      have hc := ((Kept.refl w).alloc (.cells #[.slice (some ⟨bb, o, none⟩) l.length c] 31)).cellp (hcs k hkn)
      have kn' : (k : Int) < (l.length : Int) := by omega
      clear hcs hkg
      by_cases he : l.getD k 0 = x
      · have HF := hidMk (show b = true by rw [← HB.out]; exact decide_eq_true (he ▸ getD_mem hkn))
        rw [he] at hc
        clear he
        go_wp2_with fail
        go_ret
        exact ⟨by rw [HF.out]; rfl, (Kept.refl w).alloc _⟩
      · have HJ2 := hidMk (show ∀ j, j < k + 1 → l.getD j 0 ≠ x from fun j hj => by
          by_cases e : j = k
          · subst e; exact he
          · exact HJ.out j (by omega))
        have he' : (l.getD k 0 == x) = false := by simpa using he
        clear he
        generalize l.getD k 0 = y at *
        go_wp2_with fail
        go_roundg (gk - 1)
        case measure => have := HKG.out; omega
        case rel => exact ⟨k + 1, by have := HKG.out; omega, by go_num, rfl, HJ2⟩
    · have HF := hidMk (show b = false by
        rw [← HB.out]
        exact decide_eq_false fun e => by
          obtain ⟨j, hj, e2⟩ := mem_getD e
          exact HJ.out j (by omega) e2)
      have hkk : ¬ ((k : Int) < (l.length : Int)) := by omega
      go_wp2_with fail
      go_ret
      exact ⟨by rw [HF.out]; rfl, (Kept.refl w).alloc _⟩
def PutPost (w : World) (a0 : Option Addr) (l : List Int) (n : Int) (e : Ending) (w' : World) : Prop := ∃ a c, e = .returned (.slice a (putL l n).length c) ∧ Sl .i64 w' a (putL l n).length (putL l n) ∧ ((a = a0 ∧ putL l n = l) ∨ ∀ ad, a = some ad → w.heap.size ≤ ad.block) ∧ Kept w w'
set_option maxHeartbeats 4000000 in
set_option maxRecDepth 100000 in
theorem ref8_put (a : Option Addr) (c : Nat) (l : List Int) (n : Int) (w : World) (hs : Sl .i64 w a l.length l) (hl : l.length ≤ 20000) : Calls Try.prog 29 #[.slice a l.length c, .int .i64 n] w (PutPost w a l n) := by
  have HS := hidMk hs
  clear hs
  go_enter Try.func29, Try.ntmps29
  go_wp2_with fail
  go_loopg [5, 6, 7] l.length (fun g v b i wr => ∃ k : Nat, k + g = l.length ∧ i = .int .i64 k ∧ b = .bool (pfold n (l.take k)).2 ∧ OwnI wr w.heap.size v (pfold n (l.take k)).1 ∧ Kept w wr ∧ Hid (∀ j, j < k → l.getD j 0 ≠ n))
  case atStart => exact ⟨0, by omega, rfl, rfl, ownI_nil _ _, Kept.refl _, hidMk fun j hj => absurd hj (by omega)⟩
  case round =>
    obtain ⟨k, hkg, rfl, rfl, hO, hk, HJ⟩ := hrel
    have HKG := hidMk hkg
    have HK := hidMk hk
    have HO := hidMk hO
    have hlen := pfold_len n (l.take k)
    rw [List.length_take] at hlen
    have hsz : w.heap.size ≤ wr.heap.size := hk.size
    by_cases hkn : k < l.length
    · obtain ⟨bb, o, rfl, hbb, hcs⟩ := HS.out.cells (by omega)
      have hc := hk.cellp (hcs k hkn)
      have kn' : (k : Int) < (l.length : Int) := by omega
      have HT := hidMk (pfold_take (n := n) hkn)
      clear hcs hkg hk
      by_cases he : l.getD k 0 = n
      · have HF := hidMk (show putL l n = l from if_pos (he ▸ getD_mem hkn))
        rw [he] at hc
        clear he hO hlen
        go_wp2_with fail
        go_ret
        refine ⟨some ⟨bb, o, none⟩, c, by rw [HF.out]; rfl, by rw [HF.out]; exact HS.out.kept HK.out, .inl ⟨rfl, HF.out⟩, HK.out⟩
      · have HJ2 := hidMk (show ∀ j, j < k + 1 → l.getD j 0 ≠ n from fun j hj => by
          by_cases e : j = k
          · subst e; exact he
          · exact HJ.out j (by omega))
        have he' : (l.getD k 0 == n) = false := by simpa using he
        clear he
        have HNB := hidMk (show ¬ w.heap.size ≤ bb by omega)
        generalize l.getD k 0 = y at *
        generalize pfold n (l.take k) = st at *
        obtain ⟨O, B⟩ := st
        simp only at hO hlen HO
        obtain ⟨da, dc, rfl, _⟩ := hO.sl (by have : O.length ≤ 20001 := (by cases B <;> simp at hlen <;> omega); unfold maxLen; omega)
        have hOl : O.length ≤ 20001 := by cases B <;> simp at hlen <;> omega
        clear hO hlen
        by_cases hy : n < y
        · cases B with
          | false =>
            have HP := hidMk (show pstep n (O, false) y = (O ++ [n] ++ [y], true) from if_pos ⟨hy, rfl⟩)
            go_wp2_with (first | (at_builtin; refine wpList_pushI _ (by rfl) _ _ (by rfl) w.heap.size (.slice da O.length dc) O (by rfl) (HO.out.kept' ((Kept.refl _).alloc _)) (by simp; omega) wr.heap.size n (by rfl) (by simp) (by omega) (wr.heap.size + 1) (by simp) ?_; intro g4 cap4 w4 o4 k4 a4 l4; have H4 := hidMk o4; have K4 := hidMk (Chg.kept (HK.out.alloc _) k4 (fun j hj => (HO.out.lt j hj).1)); have hc4 := k4.cellp ((((Kept.refl wr).alloc _)).cellp hc) (fun e => HNB.out (HO.out.lt _ e).1); have hs4 : w.heap.size ≤ w4.heap.size := K4.out.size; clear o4 k4 a4 l4) | (at_builtin; refine wpList_pushI _ (by rfl) _ _ (by rfl) w.heap.size (.slice (some ⟨g4, 0, none⟩) (O.length + 1) cap4) (O ++ [n]) (by rfl) (H4.out.kept' ((Kept.refl _).alloc _)) (by simp; omega) w4.heap.size y (by rfl) (by simp) (by simp; omega) (w4.heap.size + 1) (by simp) ?_; intro g6 cap6 w6 o6 k6 a6 l6; have H6 := hidMk o6; have K6 := hidMk (Chg.kept (K4.out.alloc _) k6 (fun j hj => (H4.out.lt j hj).1)); clear o6 k6 a6 l6))
            go_roundg (gk - 1)
            case measure => have := HKG.out; omega
            case rel => exact ⟨k + 1, by have := HKG.out; omega, by go_num, by rw [HT.out, HP.out], by rw [HT.out, HP.out]; have h := H6.out; rw [List.length_append, List.length_singleton] at h; exact h, K6.out, HJ2⟩
          | true =>
            have HP := hidMk (show pstep n (O, true) y = (O ++ [y], true) from if_neg (by simp))
            go_wp2_with (at_builtin; refine wpList_pushI _ (by rfl) _ _ (by rfl) w.heap.size (.slice da O.length dc) O (by rfl) (HO.out.kept' ((Kept.refl _).alloc _)) (by simp; omega) wr.heap.size y (by rfl) (by simp) (by omega) (wr.heap.size + 1) (by simp) ?_; intro g4 cap4 w4 o4 k4 a4 l4; have H4 := hidMk o4; have K4 := hidMk (Chg.kept (HK.out.alloc _) k4 (fun j hj => (HO.out.lt j hj).1)); have hc4 := k4.cellp ((((Kept.refl wr).alloc _)).cellp hc) (fun e => HNB.out (HO.out.lt _ e).1); have hs4 : w.heap.size ≤ w4.heap.size := K4.out.size; clear o4 k4 a4 l4)
            go_roundg (gk - 1)
            case measure => have := HKG.out; omega
            case rel => exact ⟨k + 1, by have := HKG.out; omega, by go_num, by rw [HT.out, HP.out], by rw [HT.out, HP.out]; exact H4.out, K4.out, HJ2⟩
        · have HP := hidMk (show pstep n (O, B) y = (O ++ [y], B) from if_neg (fun h => hy h.1))
          have hy' : y ≤ n := by omega
          go_wp2_with (at_builtin; refine wpList_pushI _ (by rfl) _ _ (by rfl) w.heap.size (.slice da O.length dc) O (by rfl) (HO.out.kept' ((Kept.refl _).alloc _)) (by simp; omega) wr.heap.size y (by rfl) (by simp) (by omega) (wr.heap.size + 1) (by simp) ?_; intro g4 cap4 w4 o4 k4 a4 l4; have H4 := hidMk o4; have K4 := hidMk (Chg.kept (HK.out.alloc _) k4 (fun j hj => (HO.out.lt j hj).1)); have hc4 := k4.cellp ((((Kept.refl wr).alloc _)).cellp hc) (fun e => HNB.out (HO.out.lt _ e).1); have hs4 : w.heap.size ≤ w4.heap.size := K4.out.size; clear o4 k4 a4 l4)
          go_roundg (gk - 1)
          case measure => have := HKG.out; omega
          case rel => exact ⟨k + 1, by have := HKG.out; omega, by go_num, by rw [HT.out, HP.out], by rw [HT.out, HP.out]; exact H4.out, K4.out, HJ2⟩
    · have htk : l.take k = l := List.take_of_length_le (by omega)
      rw [htk] at hO HO
      have hkk : ¬ ((k : Int) < (l.length : Int)) := by omega
      have HPU := hidMk (show putL l n = if (pfold n l).2 then (pfold n l).1 else (pfold n l).1 ++ [n] from if_neg (fun e => by
        obtain ⟨j, hj, e2⟩ := mem_getD e
        exact HJ.out j (by omega) e2))
      have hlen2 := pfold_len n l
      rw [htk]
      clear hk hkg hlen htk
      generalize pfold n l = st at *
      obtain ⟨O, B⟩ := st
      simp only at hO hlen2 HO HPU
      have hOl : O.length ≤ 20001 := by cases B <;> simp at hlen2 <;> omega
      obtain ⟨da, dc, rfl, hsl⟩ := hO.sl (by unfold maxLen; omega)
      have HSL := hidMk hsl
      have HFR := hidMk (show ∀ ad, da = some ad → w.heap.size ≤ ad.block from fun ad e => (hO.lt ad.block (by rw [e]; rfl)).1)
      clear hO hlen2 hsl
      cases B with
      | true =>
        have HPU2 := hidMk (show putL l n = O by rw [HPU.out]; simp)
        go_wp2_with fail
        go_ret
        exact ⟨da, dc, by rw [HPU2.out]; rfl, by rw [HPU2.out]; exact HSL.out, .inr fun ad e => HFR.out ad e, HK.out⟩
      | false =>
        have HPU2 := hidMk (show putL l n = O ++ [n] by rw [HPU.out]; simp)
        go_wp2_with (at_builtin; refine wpList_pushI _ (by rfl) _ _ (by rfl) w.heap.size (.slice da O.length dc) O (by rfl) (HO.out.kept' ((Kept.refl _).alloc _)) (by simp; omega) wr.heap.size n (by rfl) (by simp) (by omega) (wr.heap.size + 1) (by simp) ?_; intro g4 cap4 w4 o4 k4 a4 l4; have H4 := hidMk o4; have K4 := hidMk (Chg.kept (HK.out.alloc _) k4 (fun j hj => (HO.out.lt j hj).1)); clear o4 k4 a4 l4)
        go_ret
        obtain ⟨ea, ec, hev, hsl2⟩ := H4.out.sl (by simp; unfold maxLen; omega)
        have hfr := H4.out.lt
        rw [hev] at hfr
        refine ⟨ea, ec, by rw [HPU2.out, ← hev]; rfl, by rw [HPU2.out]; exact hsl2, .inr fun ad e => (hfr ad.block (by rw [e]; rfl)).1, K4.out⟩
end Go.Proofs.Ythbogpnkdlbilaa
