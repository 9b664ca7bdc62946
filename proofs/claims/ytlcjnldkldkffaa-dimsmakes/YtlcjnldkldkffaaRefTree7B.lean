/- The definition's tree: Leaves, Rank, Span. · The definition's tree: Span. -/
import Derived.Test.YtlcjnldkldkffaaRefTree5B
namespace Go.Proofs.Ytlcjnldkldkffaa
open Go.RowKit Go.Maps
set_option linter.unusedSimpArgs false
set_option linter.unusedVariables false

theorem leafI_nat {l : List Nd} {x : Nat} (h : x < l.length) : leafI l x = leafB l x := by unfold leafI; rw [decide_eq_true (isP_nat h)]; rfl
set_option maxHeartbeats 1000000 in
theorem r_Leaves {w : World} {p : Nat} {l : List Nd} (h : RT w p l) (ht : Tr l) : Calls Try.prog 30 #[.pointer (some ⟨p, 0, none⟩)] w fun e w' => ∃ v, e = .returned v ∧ OwnI w' w.heap.size v (ints (lvsN l)) ∧ Kept w w' := by
  have HRT := hidMk h
  have hb := h.big
  have HC := hidMk (r_Order h ht)
  have hol := ord_len ht
  have HLV := hidMk (show lvsN l = (ordN l).filter (leafB l) from rfl)
  have HLT := hidMk (@ord_lt l)
  clear h ht
  generalize lvsN l = LV at *
  generalize ordN l = ON at *
  go_enter Try.func30, Try.ntmps30
  go_wp2_with (go_at_call 19; refine HC.out.mono ?_; rintro e w2 ⟨v2, rfl, o2, k2⟩; obtain ⟨a2, c2, rfl, s2⟩ := o2.sl (by rw [ints_len]; unfold maxLen; omega); rw [ints_len] at s2 ⊢; have K2 := hidMk k2; have S2 := hidMk s2; clear o2 k2 s2)
  go_loopg [3, 5] ON.length (fun g v x wr => ∃ k : Nat, k + g = ON.length ∧ x = .int .i64 k ∧ Kept w2 wr ∧ OwnI wr w2.heap.size v (ints ((ON.take k).filter (leafB l))))
  case atStart => exact ⟨0, by omega, rfl, Kept.refl _, ownI_nil _ _⟩
  case round =>
    obtain ⟨k, hkg, rfl, hk, ho⟩ := hrel
    have HKG := hidMk hkg
    have HK := hidMk hk
    have HO := hidMk ho
    by_cases hkn : k < ON.length
    · obtain ⟨b, oo, rfl, _, hcs⟩ := (S2.out.kept hk).cells (by omega)
      have hc := hcs k hkn
      rw [ints_get ON k hkn] at hc
      have hx := HLT.out ON[k] (List.getElem_mem hkn)
      have hlf := r_Leaf (HRT.out.kept (K2.out.trans hk)) (ON[k] : Nat)
      rw [leafI_nat hx] at hlf
      have htk : (ON.take (k + 1)).filter (leafB l) = (ON.take k).filter (leafB l) ++ [ON[k]].filter (leafB l) := by rw [List.take_succ_eq_append_getElem hkn, List.filter_append]
      have hfl := List.length_filter_le (leafB l) (ON.take k)
      rw [List.length_take] at hfl
      generalize ON[k] = y at *
      clear hcs hk ho hkg
      cases hl : leafB l y with
      | true =>
        rw [hl] at hlf
        have HLF := hidMk hlf
        have HTK := hidMk (show (ON.take (k + 1)).filter (leafB l) = (ON.take k).filter (leafB l) ++ [y] by rw [htk]; simp [hl])
        clear hlf htk hl
        generalize (ON.take k).filter (leafB l) = P at *
        go_wp2_with fail
        refine HLF.out.mono ?_
        rintro e w4 ⟨rfl, k4⟩
        have K4 := hidMk (HK.out.trans k4)
        have hc4 := k4.cellp hc
        have O4 := hidMk (HO.out.chg (S := fun _ => False) (Chg.of_kept k4) (fun _ _ e => e))
        clear k4 hc
        go_wp2_with (at_builtin; refine wpList_pushI _ rfl _ _ rfl w2.heap.size _ (ints P) rfl (O4.out.chg (S := fun _ => False) (Chg.of_kept ((Kept.refl _).alloc _)) (fun _ _ e => e)) ?c1 _ (y : Int) rfl ?c2 ?c3 _ rfl ?_)
        case c1 => simp; have := K4.out.size; omega
        case c2 => simp
        case c3 => rw [ints_len]; omega
        intro g' cap w5 o5 k5 _ _
        have K5 := hidMk (show Kept w2 w5 from k5.kept (K4.out.alloc _) (fun t ht => (O4.out.lt t ht).1))
        have O5 := hidMk o5
        clear o5 k5
        go_wp2_with fail
        go_roundg (gk - 1)
        case measure => have := HKG.out; omega
        case rel =>
          refine ⟨k + 1, by have := HKG.out; omega, by go_num, K5.out, ?_⟩
          rw [HTK.out, ints_app]
          exact O5.out
      | false =>
        rw [hl] at hlf
        have HLF := hidMk hlf
        have HTK := hidMk (show (ON.take (k + 1)).filter (leafB l) = (ON.take k).filter (leafB l) by rw [htk]; simp [hl])
        clear hlf htk hl
        go_wp2_with fail
        refine HLF.out.mono ?_
        rintro e w4 ⟨rfl, k4⟩
        have K4 := hidMk (HK.out.trans k4)
        have O4 := hidMk (HO.out.chg (S := fun _ => False) (Chg.of_kept k4) (fun _ _ e => e))
        clear k4
        go_wp2_with fail
        go_roundg (gk - 1)
        case measure => have := HKG.out; omega
        case rel =>
          refine ⟨k + 1, by have := HKG.out; omega, by go_num, K4.out, ?_⟩
          rw [HTK.out]
          exact O4.out
    · have e : k = ON.length := by omega
      have HF := hidMk (show ON.take k = ON from List.take_of_length_le (by omega))
      have hkk : ¬ ((k : Int) < (ON.length : Int)) := by omega
      clear hk ho hkg
      go_wp2_with fail
      go_ret
      refine ⟨_, rfl, ?_, K2.out.trans HK.out⟩
      have := HO.out
      rw [HF.out, ← HLV.out] at this
      exact this.base K2.out.size
theorem rank_at {l : List Nd} (h : Tr l) {i : Int} {k : Nat} (hk : k < (lvsN l).length) (he : (((lvsN l)[k] : Nat) : Int) = i) (hj : ∀ t, t < k → (ints (lvsN l)).getD t 0 ≠ i) : rankI l i = k := by
  have hm := (lvs_mem h).1 (List.getElem_mem hk)
  subst he
  unfold rankI
  rw [if_pos ⟨isP_nat hm.1, hm.2⟩]
  unfold rnk
  rw [Int.toNat_natCast]
  congr 1
  rw [List.findIdx_eq hk]
  refine ⟨by simp, fun t ht => ?_⟩
  have := hj t ht
  rw [ints_get _ t (by omega)] at this
  simp only [decide_eq_false_iff_not]
  intro e
  exact this (by rw [e])
theorem rank_no {l : List Nd} (h : Tr l) {i : Int} (hj : ∀ t, t < (lvsN l).length → (ints (lvsN l)).getD t 0 ≠ i) : rankI l i = -1 := by
  unfold rankI
  rw [if_neg]
  rintro ⟨h1, h2⟩
  have hm : i.toNat ∈ lvsN l := (lvs_mem h).2 ⟨by have := h1.2; have := h1.1; omega, h2⟩
  obtain ⟨t, ht, e⟩ := List.getElem_of_mem hm
  refine hj t ht ?_
  rw [ints_get _ t ht, e]
  have := h1.1
  omega
end Go.Proofs.Ytlcjnldkldkffaa
namespace Go.Proofs.Ytlcjnldkldkffaa
open Go.RowKit Go.Maps
set_option linter.unusedSimpArgs false
set_option linter.unusedVariables false

theorem idx_stop {α : Type} {p : α → Bool} {L : List α} {k : Nat} (hk : k ≤ L.length) (h : ∀ t (ht : t < L.length), t < k → p L[t] = false) (hs : ∀ (ht : k < L.length), p L[k] = true) : L.findIdx p = k := by
  by_cases e : k < L.length
  · rw [List.findIdx_eq e]
    exact ⟨hs e, fun t ht => h t (by omega) ht⟩
  · have e2 : k = L.length := by omega
    subst e2
    rw [List.findIdx_eq_length]
    intro x hx
    obtain ⟨t, ht, rfl⟩ := List.getElem_of_mem hx
    exact h t ht ht
theorem idx_drop {α : Type} {p : α → Bool} {L : List α} {f k : Nat} (hf : f ≤ k) (hk : k ≤ L.length) (h : ∀ t (ht : t < L.length), f ≤ t → t < k → p L[t] = true) (hs : ∀ (ht : k < L.length), p L[k] = false) : f + (L.drop f).findIdx (fun x => !p x) = k := by
  have : (L.drop f).findIdx (fun x => !p x) = k - f := by
    refine idx_stop (by simp; omega) (fun t ht h2 => ?_) (fun ht => ?_)
    · simp at ht
      rw [List.getElem_drop, h (f + t) (by omega) (by omega) (by omega)]
      rfl
    · simp at ht
      have e : f + (k - f) = k := by omega
      rw [List.getElem_drop]
      simp only [e]
      rw [hs (by omega)]
      rfl
  omega
end Go.Proofs.Ytlcjnldkldkffaa
