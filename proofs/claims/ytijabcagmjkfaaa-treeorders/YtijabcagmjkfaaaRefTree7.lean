/- The definition's tree: Span. -/
import Derived.Test.YtijabcagmjkfaaaRefTree6
namespace Go.Proofs.Ytijabcagmjkfaaa
open Go.RowKit Go.Maps
set_option linter.unusedSimpArgs false
set_option linter.unusedVariables false

theorem idx_stop {α : Type} {p : α → Bool} {L : List α} {k : Nat} (hk : k ≤ L.length) (h : ∀ t (ht : t < L.length), t < k → p L[t] = false) (hs : ∀ (ht : k < L.length), p L[k] = true) : L.findIdx p = k := by
  by_cases e : k < L.length
  · rw [List.findIdx_eq e]
    exact ⟨hs e, fun t ht => h t (by omega) ht⟩
  · have e2 : k = L.length := by omega
    subst e2
    rw [List.findIdx_eq_length]
    intro x hx
    obtain ⟨t, ht, rfl⟩ := List.getElem_of_mem hx
    exact h t ht ht
theorem idx_drop {α : Type} {p : α → Bool} {L : List α} {f k : Nat} (hf : f ≤ k) (hk : k ≤ L.length) (h : ∀ t (ht : t < L.length), f ≤ t → t < k → p L[t] = true) (hs : ∀ (ht : k < L.length), p L[k] = false) : f + (L.drop f).findIdx (fun x => !p x) = k := by
  have : (L.drop f).findIdx (fun x => !p x) = k - f := by
    refine idx_stop (by simp; omega) (fun t ht h2 => ?_) (fun ht => ?_)
    · simp at ht
      rw [List.getElem_drop, h (f + t) (by omega) (by omega) (by omega)]
      rfl
    · simp at ht
      have e : f + (k - f) = k := by omega
      rw [List.getElem_drop]
      simp only [e]
      rw [hs (by omega)]
      rfl
  omega
set_option maxHeartbeats 2000000 in
set_option maxRecDepth 100000 in
theorem r_Span {w : World} {p : Nat} {l : List Nd} (h : RT w p l) (ht : Tr l) (i : Int) : Calls Try.prog 20 #[.pointer (some ⟨p, 0, none⟩), .int .i64 i] w fun e w' => e = .returned (.tuple #[.int .i64 (fromI l i), .int .i64 (toI l i)]) ∧ Kept w w' := by
  have hb := h.big
  have HIS := hidMk (r_is h i)
  by_cases hp : isP l i
  · have HC := hidMk (r_Leaves h ht)
    have hll := lvs_len ht
    have HF := hidMk (show fromI l i = spFrom l i from if_pos hp)
    have HTO := hidMk (show toI l i = spTo l i from if_pos hp)
    have HSF := hidMk (show spFrom l i = (lvsN l).findIdx (inB l i) from rfl)
    have HST := hidMk (show spTo l i = spFrom l i + ((lvsN l).drop (spFrom l i)).findIdx (fun x => !inB l i x) from rfl)
    have HWI := hidMk (show ∀ (x : Nat) y, Kept w y → Calls Try.prog 31 #[.pointer (some ⟨p, 0, none⟩), .int .i64 x, .int .i64 i] y fun e w' => e = .returned (.bool (inB l i x)) ∧ Kept y w' from fun x y hy => r_Within (h.kept hy) x i)
    rw [decide_eq_true hp] at HIS
    clear h ht hp
    generalize fromI l i = rf at *
    generalize toI l i = rt at *
    generalize spFrom l i = sf at *
    generalize spTo l i = st at *
    generalize inB l i = pB at *
    generalize lvsN l = LV at *
    go_enter Try.func20, Try.ntmps20
    go_wp2_with (first | (go_at_call 63; refine HIS.out.mono ?_; rintro e w1 ⟨rfl, rfl⟩) | (go_at_call 25; refine HC.out.mono ?_; rintro e w2 ⟨v2, rfl, o2, k2⟩; obtain ⟨a2, c2, rfl, s2⟩ := o2.sl (by rw [ints_len]; unfold maxLen; omega); rw [ints_len] at s2 ⊢; have K2 := hidMk k2; have S2 := hidMk s2; clear o2 k2 s2))
    go_loopg [7] LV.length (fun g x wr => ∃ k : Nat, k + g = LV.length ∧ x = .int .i64 k ∧ Kept w2 wr ∧ Hid (∀ t (ht : t < LV.length), t < k → pB LV[t] = false))
    case atStart => exact ⟨0, by omega, rfl, Kept.refl _, hidMk fun t _ h => absurd h (by omega)⟩
    case round =>
      obtain ⟨k, hkg, rfl, hk, HJ⟩ := hrel
      have HKG := hidMk hkg
      have HK := hidMk hk
      by_cases hkn : k < LV.length
      · obtain ⟨b, oo, rfl, hbb, hcs⟩ := (S2.out.kept hk).cells (by omega)
        have hc := hcs k hkn
        rw [ints_get LV k hkn] at hc
        have hw := HWI.out LV[k] wr (K2.out.trans hk)
        cases hin : pB LV[k] with
        | false =>
          rw [hin] at hw
          have HW := hidMk hw
          have HJ2 := hidMk (show ∀ t (ht : t < LV.length), t < k + 1 → pB LV[t] = false from fun t ht h => by
            by_cases e : t = k
            · subst e; exact hin
            · exact HJ.out t ht (by omega))
          clear hw hin hcs hk hkg
          generalize LV[k] = y at *
          go_wp2_with (go_at_call 31; refine HW.out.mono ?_; rintro e w4 ⟨rfl, k4⟩; have K4 := hidMk (HK.out.trans k4); clear k4)
          go_roundg (gk - 1)
          case measure => have := HKG.out; omega
          case rel => exact ⟨k + 1, by have := HKG.out; omega, by go_num, K4.out, HJ2⟩
        | true =>
          rw [hin] at hw
          have HW := hidMk hw
          have hsf : sf = k := by
            rw [HSF.out]
            exact idx_stop (by omega) HJ.out (fun _ => hin)
          clear hw hin hcs hk hkg
          generalize LV[k] = y at *
          go_wp2_with (go_at_call 31; refine HW.out.mono ?_; rintro e w4 ⟨rfl, k4⟩; have K4 := hidMk (HK.out.trans k4); clear k4)
          have HSK := hidMk hsf
          clear hsf HJ
          go_loopg [8] (LV.length - k) (fun g x wr => ∃ m : Nat, m + g = LV.length ∧ k ≤ m ∧ x = .int .i64 m ∧ Kept w2 wr ∧ Hid (∀ t (ht : t < LV.length), k ≤ t → t < m → pB LV[t] = true))
          case atStart => exact ⟨k, by have := HKG.out; omega, Nat.le_refl _, rfl, K4.out, hidMk fun t _ h1 h2 => absurd h1 (by omega)⟩
          case round =>
            obtain ⟨m, hmg, hkm, rfl, hk5, HJ5⟩ := hrel
            have HMG := hidMk hmg
            have HK5 := hidMk hk5
            have fin : ∀ (hs : ∀ (ht : m < LV.length), pB LV[m] = false), rf = k ∧ rt = m := fun hs => by
              refine ⟨by rw [HF.out, HSK.out], ?_⟩
              rw [HTO.out, HST.out, HSK.out]
              have := idx_drop hkm (by omega) HJ5.out hs
              omega
            by_cases hmn : m < LV.length
            · obtain ⟨b5, o5, e5, _, hcs5⟩ := (S2.out.kept hk5).cells (by omega)
              cases e5
              have hc5 := hcs5 m hmn
              rw [ints_get LV m hmn] at hc5
              have hw5 := HWI.out LV[m] wr (K2.out.trans hk5)
              cases hin5 : pB LV[m] with
              | true =>
                rw [hin5] at hw5
                have HW5 := hidMk hw5
                have HJ6 := hidMk (show ∀ t (ht : t < LV.length), k ≤ t → t < m + 1 → pB LV[t] = true from fun t ht h1 h2 => by
                  by_cases e : t = m
                  · subst e; exact hin5
                  · exact HJ5.out t ht h1 (by omega))
                clear hw5 hin5 hcs5 hk5 hmg fin
                generalize LV[m] = z at *
                go_wp2_with (go_at_call 31; refine HW5.out.mono ?_; rintro e w6 ⟨rfl, k6⟩; have K6 := hidMk (HK5.out.trans k6); clear k6)
                go_roundg (gk - 1)
                case measure => have := HMG.out; omega
                case rel => exact ⟨m + 1, by have := HMG.out; omega, by omega, by go_num, K6.out, HJ6⟩
              | false =>
                rw [hin5] at hw5
                have HW5 := hidMk hw5
                have HFN := hidMk (fin (fun _ => hin5))
                clear hw5 hin5 hcs5 hk5 hmg fin
                generalize LV[m] = z at *
                go_wp2_with (go_at_call 31; refine HW5.out.mono ?_; rintro e w6 ⟨rfl, k6⟩; have K6 := hidMk (HK5.out.trans k6); clear k6)
                go_ret2
                exact ⟨ret_two (by rw [HFN.out.1]) (by rw [HFN.out.2]), K2.out.trans K6.out⟩
            · have HFN := hidMk (fin (fun h => absurd h hmn))
              have hmm : ¬ ((m : Int) < (LV.length : Int)) := by omega
              clear fin hk5 hmg
              go_wp2_with fail
              go_ret2
              exact ⟨ret_two (by rw [HFN.out.1]) (by rw [HFN.out.2]), K2.out.trans HK5.out⟩
      · have hsf : sf = k := by
          rw [HSF.out]
          exact idx_stop (by omega) HJ.out (fun hlt => absurd hlt hkn)
        have hkk : ¬ ((k : Int) < (LV.length : Int)) := by omega
        have K4 := hidMk hk
        clear hk hkg
        go_wp2_with fail
        have HSK := hidMk hsf
        clear hsf HJ
        go_loopg [8] (LV.length - k) (fun g x wr => ∃ m : Nat, m + g = LV.length ∧ k ≤ m ∧ x = .int .i64 m ∧ Kept w2 wr ∧ Hid (∀ t (ht : t < LV.length), k ≤ t → t < m → pB LV[t] = true))
        case atStart => exact ⟨k, by have := HKG.out; omega, Nat.le_refl _, rfl, K4.out, hidMk fun t _ h1 h2 => absurd h1 (by omega)⟩
        case round =>
          obtain ⟨m, hmg, hkm, rfl, hk5, HJ5⟩ := hrel
          have HMG := hidMk hmg
          have HK5 := hidMk hk5
          have fin : ∀ (hs : ∀ (ht : m < LV.length), pB LV[m] = false), rf = k ∧ rt = m := fun hs => by
            refine ⟨by rw [HF.out, HSK.out], ?_⟩
            rw [HTO.out, HST.out, HSK.out]
            have := idx_drop hkm (by omega) HJ5.out hs
            omega
          by_cases hmn : m < LV.length
          · obtain ⟨b5, o5, e5, _, hcs5⟩ := (S2.out.kept hk5).cells (by omega)
            subst e5
            have hc5 := hcs5 m hmn
            rw [ints_get LV m hmn] at hc5
            have hw5 := HWI.out LV[m] wr (K2.out.trans hk5)
            cases hin5 : pB LV[m] with
            | true =>
              rw [hin5] at hw5
              have HW5 := hidMk hw5
              have HJ6 := hidMk (show ∀ t (ht : t < LV.length), k ≤ t → t < m + 1 → pB LV[t] = true from fun t ht h1 h2 => by
                by_cases e : t = m
                · subst e; exact hin5
                · exact HJ5.out t ht h1 (by omega))
              clear hw5 hin5 hcs5 hk5 hmg fin
              generalize LV[m] = z at *
              go_wp2_with (go_at_call 31; refine HW5.out.mono ?_; rintro e w6 ⟨rfl, k6⟩; have K6 := hidMk (HK5.out.trans k6); clear k6)
              go_roundg (gk - 1)
              case measure => have := HMG.out; omega
              case rel => exact ⟨m + 1, by have := HMG.out; omega, by omega, by go_num, K6.out, HJ6⟩
            | false =>
              rw [hin5] at hw5
              have HW5 := hidMk hw5
              have HFN := hidMk (fin (fun _ => hin5))
              clear hw5 hin5 hcs5 hk5 hmg fin
              generalize LV[m] = z at *
              go_wp2_with (go_at_call 31; refine HW5.out.mono ?_; rintro e w6 ⟨rfl, k6⟩; have K6 := hidMk (HK5.out.trans k6); clear k6)
              go_ret2
              exact ⟨ret_two (by rw [HFN.out.1]) (by rw [HFN.out.2]), K2.out.trans K6.out⟩
          · have HFN := hidMk (fin (fun h => absurd h hmn))
            have hmm : ¬ ((m : Int) < (LV.length : Int)) := by omega
            clear fin hk5 hmg
            go_wp2_with fail
            go_ret2
            exact ⟨ret_two (by rw [HFN.out.1]) (by rw [HFN.out.2]), K2.out.trans HK5.out⟩
  · rw [decide_eq_false hp] at HIS
    have e : fromI l i = 0 := if_neg hp
    have e' : toI l i = 0 := if_neg hp
    rw [e, e']
    clear h ht hp e e'
    go_enter Try.func20, Try.ntmps20
    go_wp2_with (go_at_call 63; refine HIS.out.mono ?_; rintro e w1 ⟨rfl, rfl⟩)
    go_ret2
    exact ⟨rfl, Kept.refl _⟩
end Go.Proofs.Ytijabcagmjkfaaa
