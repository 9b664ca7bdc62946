/- RecBack: what was put is got, whatever stands behind it. -/
import Derived.Test.YtcmhfmbpbbdemaaRec6
namespace Go.Proofs.Ytcmhfmbpbbdemaa
open Go.RowKit Go.Maps
set_option linter.unusedSimpArgs false
set_option linter.unusedVariables false

theorem enc_isBI (x : Int) : ∀ y ∈ encI x, isB y := enc_isB _
theorem recB_isB {l : List Int} (h : ∀ x ∈ l, isB x) : ∀ x ∈ recB l, isB x := by
  unfold recB
  refine app_isB (app_isB (app_isB (enc_isBI _) h) (sb_isB _)) ?_
  intro x hx
  simp at hx
  unfold isB; omega
set_option maxHeartbeats 4000000 in
theorem law_RecBack (a0 : Option Addr) (n0 c0 : Nat) (lb : List Int) (a1 : Option Addr) (n1 c1 : Nat) (lm : List Int) (w : World)
    (h0 : Sl .u8 w a0 n0 lb) (hb : ∀ x ∈ lb, isB x) (e0 : a0 = none → c0 = 0) (h1 : Sl .u8 w a1 n1 lm) (hm : ∀ x ∈ lm, isB x) (e1 : a1 = none → c1 = 0) :
    Calls Try.prog 8 #[.slice a0 n0 c0, .slice a1 n1 c1] w fun e w' => e = .returned (.bool true) ∧ Kept w w' := by
  have H0 := hidMk h0
  have HB := hidMk hb
  have E0 := hidMk e0
  have H1 := hidMk h1
  have HM := hidMk hm
  have E1 := hidMk e1
  have b0 : n0 ≤ 9223372036854775807 := h0.big
  have b1 : n1 ≤ 9223372036854775807 := h1.big
  have l0 := h0.len
  have l1 := h1.len
  clear h0 hb e0 h1 hm e1
  by_cases q0 : 1000 < n1
  · have q0' : (1000 : Int) < (n1 : Int) := by omega
    go_enter Try.func8, Try.ntmps8
    go_wp2_with (go_at_call 27; refine (law24_known _).mono ?_; rintro e w3 ⟨rfl, k3⟩)
    go_ret
    exact ⟨rfl, k3⟩
  have q0' : (n1 : Int) ≤ (1000 : Int) := by omega
  by_cases hbad : n0 = 0 ∨ 250 < n0
  · have HP := hidMk (rec_Put_bad a0 n0 c0 w hbad)
    by_cases hz : n0 = 0
    · subst hz
      clear hbad
      go_enter Try.func8, Try.ntmps8
      go_wp2_with (first | (go_at_call 29; refine HP.out.mono ?_; rintro e w1 ⟨rfl, rfl⟩) | (go_at_call 27; refine (law24_known _).mono ?_; rintro e w3 ⟨rfl, k3⟩))
      go_ret
      exact ⟨rfl, k3⟩
    · have hz1 : ((n0 : Int) == 0) = false := by simp; omega
      have hz2 : (250 : Int) < (n0 : Int) := by omega
      clear hbad
      go_enter Try.func8, Try.ntmps8
      go_wp2_with (first | (go_at_call 29; refine HP.out.mono ?_; rintro e w1 ⟨rfl, rfl⟩) | (go_at_call 27; refine (law24_known _).mono ?_; rintro e w3 ⟨rfl, k3⟩))
      go_ret
      exact ⟨rfl, k3⟩
  have hn1 : 1 ≤ n0 := by omega
  have hn2 : n0 ≤ 250 := by omega
  have HGP := hidMk (get_put lb lm (by omega) (by omega))
  have HRL := hidMk (show (recB lb).length ≤ 300 by rw [recB_len]; have := enc_two (u := 2 * lb.length + 2) (by omega); omega)
  have HRP := hidMk (show 0 < (recB lb).length by rw [recB_len]; omega)
  have HRI := hidMk (recB_isB HB.out)
  clear hbad
  go_enter Try.func8, Try.ntmps8
  go_wp2_with fail
  refine (rec_Put a0 n0 c0 lb w H0.out HB.out E0.out hn1 hn2).mono ?_
  rintro e w1 ⟨v1, rfl, o1, k1⟩
  obtain ⟨g1, c1', rfl, hg1, hg2⟩ := owned_at o1 HRP.out
  have S1 := hidMk (owned_slx o1 rfl (by have := HRL.out; unfold maxLen; omega))
  have K1 := hidMk k1
  obtain ⟨X, hX⟩ : ∃ X, X = recB lb := ⟨_, rfl⟩
  rw [← hX] at S1 HGP HRL HRP HRI ⊢
  clear o1 k1 hX
  obtain ⟨nx, hnx⟩ : ∃ nx, nx = X.length := ⟨_, rfl⟩
  rw [← hnx] at S1 HGP HRL HRP ⊢
  have hnx3 := HRL.out
  have HNX := hidMk hnx
  clear hnx
  go_wp2_with fail
  refine (ref_LentO (some ⟨g1, 0, none⟩) nx c1' X _ S1.out (fun h => by cases h) (by omega)).mono ?_
  rintro e w2 ⟨g2, d2, rfl, hg3, o2, k2⟩
  have O2 := hidMk (show Owned w w2 (.slice (some ⟨g2, 0, none⟩) nx d2) X from ownsRow_base o2 K1.out.size)
  have K2 := hidMk (K1.out.trans k2)
  clear o2 k2
  go_wp2_with (at_builtin; go_loud (refine wpList_app _ (by rfl) _ _ (by rfl) w _ X (by rfl) O2.out K2.out a1 n1 c1 lm (by rfl) (H1.out.kept K2.out) E1.out (by have := HNX.out; omega) ?_; intro v3 w3 o3 k3; have O3 := hidMk o3; have K3 := hidMk k3; clear o3 k3))
  have o3 := O3.out
  obtain ⟨Y, hY⟩ : ∃ Y, Y = X ++ lm := ⟨_, rfl⟩
  rw [← hY] at o3 HGP
  have HYL := hidMk (show Y.length = nx + n1 by rw [hY, List.length_append, l1, ← HNX.out])
  have HYI := hidMk (show ∀ x ∈ Y, isB x by rw [hY]; exact app_isB HRI.out HM.out)
  clear hY O3
  obtain ⟨a3, c3, rfl, s3, _, _⟩ := owned_sl o3 (by have := HYL.out; unfold maxLen; omega)
  obtain ⟨q1, q2⟩ := own_cap o3
  refine (rec_Get a3 Y.length c3 Y _ s3 HYI.out (by have := HYL.out; omega) q1 q2).mono ?_
  rintro e w4 ⟨v4, rfl, o4, k4⟩
  obtain ⟨g1', g2', g3'⟩ := HGP.out
  rw [g1', if_pos rfl, g3'] at o4
  rw [g1', if_pos rfl, g2']
  have K4 := hidMk (K3.out.trans k4)
  obtain ⟨a4, c4, rfl, s4, _, _⟩ := owned_sl o4 (by unfold maxLen; omega)
  rw [l0] at s4 ⊢
  have t1 := run_string_sl (c := c4) s4 HB.out
  have t2 := run_string_sl (c := c0) (H0.out.kept K4.out) HB.out
  clear o3 s3 o4 s4 k4 g1' g2' g3' HGP q1 q2
  go_wp2_with (go_at_call 27; refine (law24_known _).mono ?_; rintro e w7 ⟨rfl, k7⟩)
  go_ret
  exact ⟨rfl, K4.out.trans k7⟩
end Go.Proofs.Ytcmhfmbpbbdemaa
