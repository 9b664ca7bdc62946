/- The definition's tree: Kids, Leaf, down, Order, Leaves, Rank, Span. -/
import Derived.Test.YtofppldiipjllaaRefTree2
namespace Go.Proofs.Ytofppldiipjllaa
open Go.RowKit Go.Maps
set_option linter.unusedSimpArgs false
set_option linter.unusedVariables false

theorem kidsI_K (l : List Nd) (i : Int) (hp : isP l i) : kidsI l i = ints (kidK l l.length i) := by unfold kidsI; rw [if_pos hp]; rfl
set_option maxHeartbeats 1000000 in
theorem r_Kids {w : World} {p : Nat} {l : List Nd} (h : RT w p l) (i : Int) : Calls Try.prog 58 #[.pointer (some ⟨p, 0, none⟩), .int .i64 i] w fun e w' => ∃ v, e = .returned v ∧ OwnI w' w.heap.size v (kidsI l i) ∧ Kept w w' := by
  have HT := hidMk h
  have hb := h.big
  obtain ⟨b, cc, q1, q2⟩ := h.cells
  have Q1 := hidMk q1
  have Q2 := hidMk q2
  have HIS := hidMk (show ∀ y, Kept w y → _ from fun y hy => r_is (h.kept hy) i)
  clear h q1 q2
  by_cases hp : isP l i
  · rw [kidsI_K l i hp]
    rw [decide_eq_true hp] at HIS
    go_enter Try.func58, Try.ntmps58
    go_wp2_with fail
    go_loopg [5, 6] l.length (fun g v x wr => ∃ k : Nat, k + g = l.length ∧ x = .int .i64 k ∧ Kept w wr ∧ OwnI wr w.heap.size v (ints (kidK l k i)))
    case atStart => exact ⟨0, by omega, rfl, Kept.refl _, ownI_nil _ _⟩
    case round =>
      obtain ⟨k, hkg, rfl, hk, ho⟩ := hrel
      have HKG := hidMk hkg
      have HK := hidMk hk
      have HO := hidMk ho
      have hkl := kidK_len l k i
      have q1 := Q1.out wr hk
      have H2 := hidMk (HIS.out wr hk)
      by_cases hkn : k < l.length
      · have q3 := (Q2.out k hkn wr hk).2
        have hks := kidK_succ l k i
        have HKS := hidMk hks
        clear hkg hk ho hks
        by_cases hu : upA l k = i
        · rw [if_pos hu] at HKS
          rw [hu] at q3
          clear hu
          generalize kidK l k i = L at *
          go_wp2_with (first | (go_at_call 60; refine H2.out.mono ?_; rintro e w2 ⟨rfl, rfl⟩) | (at_builtin; refine wpList_pushI _ rfl _ _ rfl w.heap.size _ (ints L) rfl (HO.out.chg (S := fun _ => False) (Chg.of_kept ((Kept.refl _).alloc _)) (fun _ _ e => e)) ?c1 _ (k : Int) rfl ?c2 ?c3 _ rfl ?_))
          case c1 => simp; have := HK.out.size; omega
          case c2 => simp
          case c3 => rw [ints_len]; omega
          intro g' cap w3 o3 k3 _ _
          have K3 := hidMk (show Kept w w3 from k3.kept (HK.out.alloc _) (fun t ht => (HO.out.lt t ht).1))
          have O3 := hidMk o3
          clear o3 k3
          go_wp2_with fail
          go_roundg (gk - 1)
          case measure => have := HKG.out; omega
          case rel =>
            refine ⟨k + 1, by have := HKG.out; omega, by go_num, K3.out, ?_⟩
            rw [HKS.out, ints_app]
            exact O3.out
        · rw [if_neg hu] at HKS
          generalize upA l k = u at *
          have hu' : (u == i) = false := by simpa using hu
          clear hu
          go_wp2_with (go_at_call 60; refine H2.out.mono ?_; rintro e w2 ⟨rfl, rfl⟩)
          go_roundg (gk - 1)
          case measure => have := HKG.out; omega
          case rel =>
            refine ⟨k + 1, by have := HKG.out; omega, by go_num, HK.out, ?_⟩
            rw [HKS.out]
            exact HO.out
      · have e : k = l.length := by omega
        subst e
        clear hk ho hkg
        have hkk : ¬ ((l.length : Int) < (l.length : Int)) := by omega
        go_wp2_with fail
        go_ret
        exact ⟨_, rfl, HO.out, HK.out⟩
  · have e : kidsI l i = [] := if_neg hp
    rw [e]
    rw [decide_eq_false hp] at HIS
    have q1 := Q1.out w (Kept.refl w)
    clear e hp
    go_enter Try.func58, Try.ntmps58
    go_wp2_with fail
    refine wp_loop_rounds 1 ?_
    rw [rounds_succ]
    by_cases h0 : 0 < l.length
    · have h0' : (0 : Int) < l.length := by omega
      go_wp2_with (go_at_call 60; refine (HIS.out _ (Kept.refl _)).mono ?_; rintro e w2 ⟨rfl, rfl⟩)
      go_ret
      exact ⟨_, rfl, ownI_nil _ _, Kept.refl _⟩
    · have h0' : ¬ ((0 : Int) < l.length) := by omega
      go_wp2_with fail
      go_ret
      exact ⟨_, rfl, ownI_nil _ _, Kept.refl _⟩
theorem r_Leaf {w : World} {p : Nat} {l : List Nd} (h : RT w p l) (i : Int) : Calls Try.prog 50 #[.pointer (some ⟨p, 0, none⟩), .int .i64 i] w fun e w' => e = .returned (.bool (leafI l i)) ∧ Kept w w' := by
  have H := hidMk (r_is h i)
  have HKD := hidMk (r_Kids h i)
  have hb := h.big
  clear h
  by_cases hp : isP l i
  · rw [decide_eq_true hp] at H
    obtain ⟨k, rfl⟩ : ∃ k : Nat, i = k := ⟨i.toNat, by have := hp.1; omega⟩
    have e : leafI l k = leafB l k := by unfold leafI; rw [decide_eq_true hp]; rfl
    rw [e]
    rw [show kidsI l k = ints (kidN l k) from if_pos hp] at HKD
    have hkl := kidK_len l l.length k
    have HLB := hidMk (show leafB l k = (kidN l k).isEmpty from rfl)
    rw [show kidK l l.length (k : Int) = kidN l k from rfl] at hkl
    clear e hp
    generalize leafB l k = lb at *
    generalize kidN l (k : Int) = L at *
    go_enter Try.func50, Try.ntmps50
    go_wp2_with (first | (go_at_call 60; refine H.out.mono ?_; rintro e w1 ⟨rfl, rfl⟩) | (go_at_call 58; refine HKD.out.mono ?_; rintro e w2 ⟨v2, rfl, o2, k2⟩; obtain ⟨a2, c2, rfl, _⟩ := o2.sl (by rw [ints_len]; unfold maxLen; omega); rw [ints_len]; have K2 := hidMk k2; clear o2 k2))
    go_ret
    refine ⟨?_, K2.out⟩
    rw [HLB.out]
    cases L <;> simp
    omega
  · rw [decide_eq_false hp] at H
    have e : leafI l i = false := by unfold leafI; rw [decide_eq_false hp]; rfl
    rw [e]
    clear e hp
    go_enter Try.func50, Try.ntmps50
    go_wp2_with (go_at_call 60; refine H.out.mono ?_; rintro e w1 ⟨rfl, rfl⟩)
    go_ret
    exact ⟨rfl, Kept.refl _⟩
end Go.Proofs.Ytofppldiipjllaa
