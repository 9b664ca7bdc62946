/- RecTorn: if only the first bytes of a record stand ahead of noughts, there is none. -/
import Derived.Test.YtcmhfmbpbbdemabRec6
namespace Go.Proofs.Ytcmhfmbpbbdemab
open Go.RowKit Go.Maps
set_option linter.unusedSimpArgs false
set_option linter.unusedVariables false

theorem enc_isBJ (x : Int) : ∀ y ∈ encI x, isB y := enc_isB _
theorem recB_isBJ {l : List Int} (h : ∀ x ∈ l, isB x) : ∀ x ∈ recB l, isB x := by
  unfold recB
  refine app_isB (app_isB (app_isB (enc_isBJ _) h) (sb_isB _)) ?_
  intro x hx
  simp at hx
  unfold isB; omega
set_option maxHeartbeats 1000000 in
theorem rec_All_none (b o n c : Nat) (l : List Int) (w : World) (hs : Sl .u8 w (some ⟨b, o, none⟩) n l) (hb : ∀ x ∈ l, isB x) (hl : n ≤ 100000) (hc : n ≤ c) (hcm : c ≤ 9223372036854775807) (hE : getE l ≠ 0) :
    Calls Try.prog 8 #[.slice (some ⟨b, o, none⟩) n c] w fun e w' => e = .returned (.tuple #[.slice none 0 0, .int .i64 0]) ∧ Kept w w' := by
  have HG := hidMk (rec_Get (some ⟨b, o, none⟩) n c l w hs hb hl hc hcm)
  have HE := hidMk hE
  have q : (getE l == 0) = false := by simpa using hE
  clear hs hb hE
  go_enter Try.func8, Try.ntmps8
  go_wp2_with fail
  go_loopw [4, 5] (fun s u wr => s = .slice none 0 0 ∧ u = .int .i64 0 ∧ wr = w) (fun _ _ _ => 0)
  case atStart => exact ⟨rfl, rfl, rfl⟩
  case round =>
    obtain ⟨rfl, rfl, rfl⟩ := hrel
    go_wp2_with (go_at_call 7; refine HG.out.mono ?_; rintro e w1 ⟨v1, rfl, o1, k1⟩; rw [if_neg HE.out])
    go_ret2
    exact ⟨rfl, k1⟩
set_option maxHeartbeats 4000000 in
theorem law_RecTorn (a0 : Option Addr) (n0 c0 : Nat) (lb : List Int) (ct nt : Int) (w : World) (h0 : Sl .u8 w a0 n0 lb) (hb : ∀ x ∈ lb, isB x) (e0 : a0 = none → c0 = 0) :
    Calls Try.prog 3 #[.slice a0 n0 c0, .int .i64 ct, .int .i64 nt] w fun e w' => e = .returned (.bool true) ∧ Kept w w' := by
  have H0 := hidMk h0
  have HB := hidMk hb
  have E0 := hidMk e0
  have b0 : n0 ≤ 9223372036854775807 := h0.big
  have l0 := h0.len
  clear h0 hb e0
  by_cases hbad : n0 = 0 ∨ 250 < n0
  · have HP := hidMk (rec_Put_bad a0 n0 c0 w hbad)
    clear hbad
    go_enter Try.func3, Try.ntmps3
    go_wp2_with (first | (go_at_call 4; refine HP.out.mono ?_; rintro e w1 ⟨rfl, rfl⟩) | (go_at_call 5; refine (law24_known _).mono ?_; rintro e w3 ⟨rfl, k3⟩))
    go_ret
    exact ⟨rfl, k3⟩
  have hn1 : 1 ≤ n0 := by omega
  have hn2 : n0 ≤ 250 := by omega
  have HRL := hidMk (show (recB lb).length ≤ 300 by rw [recB_len]; have := enc_two (u := 2 * lb.length + 2) (by omega); omega)
  have HRP := hidMk (show 0 < (recB lb).length by rw [recB_len]; omega)
  have HRI := hidMk (recB_isBJ HB.out)
  have HT := hidMk (fun cut k (hc : cut < (recB lb).length) => torn_get lb cut k (by omega) (by omega) hc)
  obtain ⟨X, hX⟩ : ∃ X, X = recB lb := ⟨_, rfl⟩
  have HPUT := hidMk (rec_Put a0 n0 c0 lb w H0.out HB.out E0.out hn1 hn2)
  rw [← hX] at HRL HRP HRI HT HPUT
  clear hX hbad
  obtain ⟨nx, hnx⟩ : ∃ nx, nx = X.length := ⟨_, rfl⟩
  rw [← hnx] at HRL HRP HT
  have HNX := hidMk hnx.symm
  clear hnx
  by_cases hskip : ct < 0 ∨ (nx : Int) ≤ ct ∨ nt < 0 ∨ 400 < nt
  · rcases (by omega : ct < 0 ∨ (0 ≤ ct ∧ (nx : Int) ≤ ct) ∨ (0 ≤ ct ∧ ct < nx ∧ nt < 0) ∨ (0 ≤ ct ∧ ct < nx ∧ 0 ≤ nt ∧ 400 < nt)) with h | ⟨h1, h⟩ | ⟨h1, h2, h⟩ | ⟨h1, h2, h3, h⟩
    all_goals
      clear hskip
      go_enter Try.func3, Try.ntmps3
      go_wp2_with fail
      refine HPUT.out.mono ?_
      rintro e w1 ⟨v1, rfl, o1, k1⟩
      obtain ⟨a1, c1, rfl, s1, _, _⟩ := owned_sl o1 (by rw [HNX.out]; have := HRL.out; unfold maxLen; omega)
      rw [HNX.out] at s1 ⊢
      have K1 := hidMk k1
      clear o1 k1 s1
      go_wp2_with (go_at_call 5; refine (law24_known _).mono ?_; rintro e w3 ⟨rfl, k3⟩)
      go_ret
      exact ⟨rfl, K1.out.trans k3⟩
  obtain ⟨cut, rfl⟩ : ∃ c : Nat, ct = c := ⟨ct.toNat, by omega⟩
  obtain ⟨K, rfl⟩ : ∃ c : Nat, nt = c := ⟨nt.toNat, by omega⟩
  have hc1 : cut < nx := by omega
  have hc2 : (cut : Int) < (nx : Int) := by omega
  have hk1 : K ≤ 400 := by omega
  have hk2 : (K : Int) ≤ 400 := by omega
  have hnx3 := HRL.out
  clear hskip
  go_enter Try.func3, Try.ntmps3
  go_wp2_with fail
  refine HPUT.out.mono ?_
  rintro e w1 ⟨v1, rfl, o1, k1⟩
  obtain ⟨g1, c1, rfl, hg1, hg2⟩ := owned_at o1 (by rw [HNX.out]; exact HRP.out)
  have S1 := hidMk (owned_slx o1 rfl (by rw [HNX.out]; unfold maxLen; omega))
  rw [HNX.out] at S1 ⊢
  rw [HNX.out] at o1
  have q := own_cap o1
  have hcc : (cut : Int) ≤ (c1 : Int) := by omega
  have K1 := hidMk k1
  clear o1 k1 q
  go_wp2_with fail
  refine (ref_LentO (some ⟨g1, 0, none⟩) cut c1 (X.take cut) _ (sl_take S1.out cut (by omega)) (fun h => by cases h) (by omega)).mono ?_
  rintro e w2 ⟨g2, d2, rfl, hg3, o2, k2⟩
  have HX2 := hidMk (show (X.take cut).length = cut by rw [List.length_take]; have := HNX.out; omega)
  have O2 := hidMk (show Owned w w2 (.slice (some ⟨g2, 0, none⟩) cut d2) (X.take cut ++ List.replicate 0 0) from by rw [List.replicate_zero, List.append_nil]; exact ownsRow_base o2 K1.out.size)
  have K2 := hidMk (K1.out.trans k2)
  have HXB := hidMk (take_isB HRI.out cut)
  have HGE := hidMk (fun k => HT.out cut k hc1)
  clear o2 k2
  generalize X.take cut = Z at *
  go_wp2_with fail
  go_loopg [9, 10] K (fun gg y i wr => ∃ k g c : Nat, k + gg = K ∧ i = .int .i64 (k : Int) ∧ y = .slice (some ⟨g, 0, none⟩) (cut + k) c ∧ Hid (Owned w wr (.slice (some ⟨g, 0, none⟩) (cut + k) c) (Z ++ List.replicate k 0)) ∧ Hid (Kept w wr))
  case atStart => exact ⟨0, g2, d2, by omega, rfl, rfl, O2, K2⟩
  case round =>
    obtain ⟨k, gy, cy, hkg, rfl, rfl, HO, HK⟩ := hrel
    have HKG := hidMk hkg
    by_cases hk : k < K
    · have hk' : (k : Int) < (K : Int) := by omega
      obtain ⟨Y, hY⟩ : ∃ Y, Y = Z ++ List.replicate k 0 := ⟨_, rfl⟩
      rw [← hY] at HO
      have HY := hidMk (show Y ++ [0] = Z ++ List.replicate (k + 1) 0 by rw [hY, List.append_assoc, ← List.replicate_succ'])
      have HYL := hidMk (show Y.length + 1 ≤ 140737488355328 by rw [hY, List.length_append, HX2.out, List.length_replicate]; omega)
      have OA := hidMk (BRow.alloc (.inl HO.out) (.cells #[.int .u8 0] 5))
      have KA := hidMk (HK.out.alloc (.cells #[.int .u8 0] 5))
      have HCC := hidMk (show (wr.alloc (.cells #[.int .u8 0] 5)).cell? ⟨wr.heap.size, 0, none⟩ = some (.int .u8 0) by simp)
      clear hY hkg
      go_wp2_with (at_builtin; go_loud (refine wpList_push _ (by rfl) _ _ (by rfl) w _ Y (by rfl) OA.out KA.out wr.heap.size 0 (by rfl) HCC.out HYL.out ?_; intro v5 w5 o5 k5; have O5 := hidMk o5; have K5 := hidMk k5; clear o5 k5))
      go_roundg (gk - 1)
      case measure => have := HKG.out; omega
      case rel =>
        obtain ⟨g5, c5, rfl, _, _⟩ := owned_at O5.out (by simp)
        have hl5 : (Y ++ [0]).length = cut + (k + 1) := by rw [HY.out, List.length_append, HX2.out, List.length_replicate]
        refine ⟨k + 1, g5, c5, by have := HKG.out; omega, by go_num, by rw [hl5], hidMk ?_, K5⟩
        rw [← HY.out, ← hl5]
        exact O5.out
    · have hkK : k = K := by omega
      subst hkK
      obtain ⟨Y, hY⟩ : ∃ Y, Y = Z ++ List.replicate k 0 := ⟨_, rfl⟩
      have HE := hidMk (show getE Y ≠ 0 by rw [hY]; exact HGE.out k)
      have HYI := hidMk (show ∀ x ∈ Y, isB x by
        rw [hY]
        refine app_isB HXB.out (fun x hx => ?_)
        rw [List.eq_of_mem_replicate hx]
        unfold isB; omega)
      have HYL := hidMk (show Y.length = cut + k by rw [hY, List.length_append, HX2.out, List.length_replicate])
      rw [← hY] at HO
      have q := own_cap HO.out
      have q1 := q.1
      have q2 := q.2
      have S6 := hidMk (owned_slx HO.out HYL.out (by unfold maxLen; omega))
      have hkk : ¬ ((k : Int) < (k : Int)) := by omega
      clear hY q
      go_wp2_with fail
      refine (rec_Get (some ⟨gy, 0, none⟩) (cut + k) cy Y _ S6.out HYI.out (by omega) q1 q2).mono ?_
      rintro e w7 ⟨v7, rfl, o7, k7⟩
      have HNZ := HE.out
      rw [if_neg HNZ] at o7 ⊢
      obtain ⟨a7, c7, rfl, _, _, _⟩ := owned_sl o7 (by unfold maxLen; decide)
      have K7 := hidMk (HK.out.trans k7)
      have HAL := hidMk (rec_All_none gy 0 (cut + k) cy Y w7 (S6.out.kept k7) HYI.out (by omega) q1 q2 HNZ)
      have qe : (getE Y == 0) = false := by simpa using HNZ
      have qn : (getE Y != 0) = true := by simpa using HNZ
      rw [show ([] : List Int).length = 0 from rfl]
      clear o7 k7 HNZ
      generalize getE Y = QE at *
      go_wp2_with (first | (go_at_call 8; refine HAL.out.mono ?_; rintro e w8 ⟨rfl, k8⟩) | (go_at_call 5; refine (law24_known _).mono ?_; rintro e w9 ⟨rfl, k9⟩))
      go_ret
      exact ⟨rfl, (K7.out.trans k8).trans k9⟩
end Go.Proofs.Ytcmhfmbpbbdemab
