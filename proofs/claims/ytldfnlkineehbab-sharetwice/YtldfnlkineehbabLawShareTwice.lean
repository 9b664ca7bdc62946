/- The walk of the law ShareTwice. -/
import Derived.Test.YtldfnlkineehbabLawShareWhole
namespace Go.Proofs.Ytldfnlkineehbab
open Go.RowKit
set_option linter.unusedSimpArgs false
set_option linter.unusedVariables false

def dbl (l : List Int) : List Int := l.map fun x => 2 * x
theorem dbl_len (l : List Int) : (dbl l).length = l.length := by simp [dbl]
theorem dbl_get (l : List Int) (i : Nat) : (dbl l).getD i 0 = 2 * l.getD i 0 := by
  rw [List.getD_eq_getElem?_getD, List.getD_eq_getElem?_getD]
  unfold dbl
  rw [List.getElem?_map]
  cases l[i]? <;> simp
theorem dbl_sum (l : List Int) : sumL (dbl l) = 2 * sumL l := by
  induction l with
  | nil => rfl
  | cons x r ih =>
    have e : dbl (x :: r) = 2 * x :: dbl r := rfl
    rw [e]; simp only [sumL]; rw [ih]; omega
theorem qF_dbl (whole all : Int) (l : List Int) (i : Nat) : qF whole (2 * all) (dbl l) i = qF whole all l i := by
  unfold qF
  rw [dbl_get, Int.mul_left_comm, Int.mul_ediv_mul_of_pos _ _ (by omega)]
theorem rF_dbl (whole all : Int) (l : List Int) (i : Nat) : rF whole (2 * all) (dbl l) i = 2 * rF whole all l i := by
  unfold rF
  rw [dbl_get, Int.mul_left_comm, Int.mul_emod_mul_of_pos _ _ (by omega)]
theorem rank_congr {K L : Int → Int} {n : Nat} {x : Nat} (h : ∀ k : Nat, k < n → ltb K k x = ltb L k x) : rank K n x = rank L n x := by
  unfold rank
  exact List.countP_congr fun k hk => by rw [h k (List.mem_range.1 hk)]
theorem keyR_at (whole all : Int) (l : List Int) (k : Nat) (hk : k < l.length) : keyR whole all l k = rF whole all l k := by
  unfold keyR keyOf
  rw [Int.toNat_natCast, lst_get _ _ _ hk]
theorem partF_dbl (whole all : Int) (l : List Int) (i : Nat) (hi : i < l.length) : partF whole (2 * all) (dbl l) (keyR whole (2 * all) (dbl l)) i = partF whole all l (keyR whole all l) i := by
  unfold partF
  have e1 : leftAt whole (2 * all) (dbl l) (dbl l).length = leftAt whole all l l.length := by
    unfold leftAt
    rw [dbl_len, sumN_congr _ fun k _ => qF_dbl whole all l k]
  have e2 : rank (keyR whole (2 * all) (dbl l)) (dbl l).length i = rank (keyR whole all l) l.length i := by
    rw [dbl_len]
    refine rank_congr fun k hk => ?_
    unfold ltb
    rw [keyR_at whole (2 * all) (dbl l) k (by rw [dbl_len]; exact hk), keyR_at whole (2 * all) (dbl l) i (by rw [dbl_len]; exact hi), keyR_at whole all l k hk, keyR_at whole all l i hi, rF_dbl, rF_dbl]
    congr 1
    · exact decide_eq_decide.2 (by omega)
    · congr 1
      exact decide_eq_decide.2 (by omega)
  rw [qF_dbl, e1, e2]
theorem lst_congr {n : Nat} {f g : Nat → Int} (h : ∀ i, i < n → f i = g i) : lst n f = lst n g := by
  unfold lst
  exact List.map_congr_left fun i hi => h i (List.mem_range.1 hi)
theorem sumL_lt {l : List Int} {c : Int} (h : ∀ x ∈ l, x ≤ c) : sumL l ≤ l.length * c := by
  induction l with
  | nil => simp [sumL]
  | cons x r ih =>
    have h1 := ih fun y hy => h y (List.mem_cons_of_mem _ hy)
    have h2 := h x (List.mem_cons_self ..)
    simp only [sumL, List.length_cons]
    rw [Int.natCast_add, Int.add_mul]
    omega
theorem splE_dbl {len : Nat} {l : List Int} (hl : l.length = len) (hn : ∀ x ∈ l, isU x) (hs : ∀ x ∈ l, x ≤ 9007199254740991) : splE len (dbl l) = splE len l := by
  unfold splE
  by_cases h : cntE len = 0
  · rw [if_pos h, if_pos h]
    have h1 : len ≤ 1024 := by unfold cntE at h; repeat' split at h
                               all_goals omega
    have h2 := sumL_lt hs
    have h3 : (l.length : Int) * 9007199254740991 ≤ 1024 * 9007199254740991 := Int.mul_le_mul_of_nonneg_right (by omega) (by omega)
    have h4 := dbl_sum l
    unfold totE
    rw [if_pos (show sumL (dbl l) < 18446744073709551616 by omega), if_pos (show sumL l < 18446744073709551616 by omega)]
    by_cases h5 : sumL l = 0
    · rw [if_pos (show sumL (dbl l) = 0 by omega), if_pos h5]
    · rw [if_neg (show ¬ sumL (dbl l) = 0 by omega), if_neg h5]
  · rw [if_neg h, if_neg h]

theorem law_big_ShareTwice (whole : Int) (a : Option Addr) (len cap : Nat) (w : World) (hlen : len ≤ maxLen) (hb : 1100 < len) :
    Calls Try.prog 6 #[.int .u64 whole, .slice a len cap] w fun e w' => e = .returned (.bool true) ∧ Below w.heap.size w w' := by
  unfold maxLen at hlen
  go_enter Try.func6, Try.ntmps6
  go_wp2_with fail
  refine (law2_known _).mono ?_
  rintro e w7 ⟨rfl, k7⟩
  go_wp2_with fail
  go_ret
  exact ⟨rfl, k7⟩

set_option maxHeartbeats 1000000 in
theorem law_ShareTwice (whole : Int) (a : Option Addr) (len cap : Nat) (l : List Int) (w : World) (hw : isU whole) (hs : Sl .u64 w a len l) (hn : ∀ x ∈ l, isU x) :
    Calls Try.prog 6 #[.int .u64 whole, .slice a len cap] w fun e w' => e = .returned (.bool true) ∧ Below w.heap.size w w' := by
  by_cases hb : 1100 < len
  · exact law_big_ShareTwice whole a len cap w hs.big hb
  obtain ⟨i0, hi0, hz0, hz1, hz2⟩ := info_parts info_u64
  have hll := hs.len
  have HS := hidMk hs
  have HN := hidMk hn
  have HW := hidMk hw
  clear hs hn hw
  go_enter Try.func6, Try.ntmps6
  go_wp2_with fail
  go_loopw [5, 6] (fun v i wr => ∃ k : Nat, k ≤ len ∧ i = .int .i64 k ∧ (∀ j, j < k → l.getD j 0 ≤ 9007199254740991) ∧ wr.ownsRow w.heap.size 22 1 v k ((dbl (l.take k)).map (Value.int .u64)) ∧ Kept w wr) (fun _ i _ => len - (intOf i).toNat)
  case atStart => exact ⟨0, Nat.zero_le _, rfl, fun j hj => absurd hj (by omega), World.ownsRow_nil _ _ _ _, Kept.refl _⟩
  case round =>
    obtain ⟨k, hk, rfl, hsm, hown, hkept⟩ := hrel
    have HSM := hidMk hsm
    clear hsm
    by_cases hlt : k < len
    · obtain ⟨b, o, rfl, hb2, hc⟩ := (HS.out.kept hkept).cells (by omega)
      have hcell := hc k hlt
      have hx := HN.out _ (getD_mem l k (by omega))
      have hx0 := hx.1
      have hx1 := hx.2
      have hkz := hkept.size
      clear hc hx
      generalize hxx : l.getD k 0 = x at *
      have HX := hidMk hxx
      clear hxx
      by_cases hbig : 9007199254740992 ≤ x
      · go_wp2_with fail
        refine (law2_known _).mono ?_
        rintro e w7 ⟨rfl, k7⟩
        go_wp2_with fail
        go_ret
        exact ⟨rfl, hkept.trans k7⟩
      · go_wp2_with (at_builtin; refine wpList_append_own _ rfl _ _ 23 rfl w.heap.size 22 i0 (.int .u64 0) 1 8 Try.underlying23 hi0 hz0 hz1 hz2 rfl (by decide) _ _ _ rfl (hown.alloc _) ⟨wr.heap.size, 0, none⟩ 1 1 [.int .u64 (2 * x)] rfl rfl ?c1 ?c2 ?c3 ?c4 ?c5 ?_)
        case c2 => first | rfl | (intro u hu; simp at hu; subst hu; rfl)
        case c3 => unfold maxLen; omega
        case c4 => omega
        case c5 => first | omega | (simp; omega)
        intro v' w7 hown' hgrow _
        go_wp2_with fail
        refine ⟨⟨k + 1, by omega, by go_num, fun j hj => ?_, ?_, kept_grown (hkept.alloc _) (hown.alloc _) hgrow⟩, by simp [intOf]; omega⟩
        · by_cases e : j = k
          · subst e; rw [HX.out]; omega
          · exact HSM.out j (by omega)
        · have e2 : (dbl (l.take (k + 1))).map (Value.int .u64) = (dbl (l.take k)).map (Value.int .u64) ++ [.int .u64 (2 * x)] := by
            rw [List.take_succ_eq_append_getElem (by omega)]
            have e3 : l[k] = x := by rw [← HX.out, List.getD_eq_getElem?_getD, List.getElem?_eq_getElem (by omega)]; rfl
            rw [e3]
            simp [dbl]
          rw [e2]
          first | exact hown' | simpa [dbl] using hown'
    · have e : l.take k = l := List.take_of_length_le (by omega)
      have ek : k = len := by omega
      subst ek
      rw [e] at hown
      have hsm : ∀ x ∈ l, x ≤ 9007199254740991 := by
        intro x hx
        obtain ⟨j, hj, rfl⟩ := List.getElem_of_mem hx
        have := HSM.out j (by omega)
        rwa [List.getD_eq_getElem?_getD, List.getElem?_eq_getElem hj] at this
      have hn2 : ∀ x ∈ dbl l, isU x := by
        intro x hx
        simp only [dbl, List.mem_map] at hx
        obtain ⟨y, hy, rfl⟩ := hx
        have h1 := HN.out y hy
        have h2 := hsm y hy
        unfold isU at *
        omega
      obtain ⟨a2, cap2, rfl, hs2⟩ := own_sl (l := dbl l) (by rw [dbl_len]; exact hll) (by unfold maxLen; omega) hown
      have hse := splE_dbl hll HN.out hsm
      have HSE := hidMk hse
      have HS2 := hidMk hs2
      have HN2 := hidMk hn2
      have HK := hidMk hkept
      have HS1 := hidMk (HS.out.kept hkept)
      clear hse hs2 hn2 hsm hkept hown e HSM HS
      by_cases he : splE k l = 0
      · obtain ⟨h0, h1, h2, h3⟩ := spl_ok HN.out he
        obtain ⟨g0, g1, g2, g3⟩ := spl_ok HN2.out (HSE.out.trans he)
        have C1 := hidMk (share_Split_ok whole (sumL l) a k cap l wr HS1.out HN.out h0 h1 HW.out rfl h2 h3)
        have G := hidMk (show 0 < sumL (dbl l) ∧ sumL (dbl l) < 18446744073709551616 from ⟨g2, g3⟩)
        clear he h2 h3 g2 g3
        go_wp2_with fail
        refine C1.out.mono ?_
        rintro e w1 ⟨P, hP, rfl, hp, k1, _⟩
        have C2 := hidMk (share_Split_ok whole (sumL (dbl l)) a2 k cap2 (dbl l) w1 (HS2.out.kept k1) HN2.out h0 h1 HW.out rfl G.out.1 G.out.2)
        have HP := hidMk hp
        have HK1 := hidMk (HK.out.trans k1)
        clear hp k1 C1 G HK
        go_wp2_with fail
        refine C2.out.mono ?_
        rintro e w2 ⟨Q, hQ, rfl, hq, k2, _⟩
        have hp2 := (HP.out.kept k2).sl (by unfold maxLen; omega)
        have hq2 := hq.sl (by unfold maxLen; omega)
        have e4 : lst k (partF whole (sumL (dbl l)) (dbl l) (keyR whole (sumL (dbl l)) (dbl l))) = lst k (partF whole (sumL l) l (keyR whole (sumL l) l)) := by
          rw [dbl_sum]
          exact lst_congr fun i hi => partF_dbl whole (sumL l) l i (by omega)
        rw [e4] at hq2
        have C3 := hidMk (ref_Same_yes _ _ k k k _ w2 hp2 hq2)
        have HK2 := hidMk (HK1.out.trans k2)
        clear hp2 hq2 e4 hq k2 C2 HP HK1
        go_wp2_with fail
        refine C3.out.mono ?_
        rintro e w3 ⟨rfl, k3⟩
        go_wp2_with fail
        refine (law2_known _).mono ?_
        rintro e w7 ⟨rfl, k7⟩
        go_wp2_with fail
        go_ret
        exact ⟨rfl, (HK2.out.trans k3).trans k7⟩
      · have C1 := share_Split_err whole a k cap l wr HS1.out HN.out he
        have C2 := share_Split_err whole a2 k cap2 (dbl l) wr HS2.out HN2.out (by rw [HSE.out]; exact he)
        rw [HSE.out] at C2
        have H1 := hidMk C1
        have H2 := hidMk C2
        clear C1 C2 he
        generalize splE k l = E at *
        go_wp2_with fail
        refine H1.out.mono ?_
        rintro e w1 ⟨rfl, rfl⟩
        go_wp2_with fail
        refine H2.out.mono ?_
        rintro e w1 ⟨rfl, rfl⟩
        have C3 := hidMk (ref_Same_yes none none 0 0 0 [] w1 ⟨rfl, Nat.zero_le _, fun hp => absurd hp (by omega)⟩ ⟨rfl, Nat.zero_le _, fun hp => absurd hp (by omega)⟩)
        go_wp2_with fail
        refine C3.out.mono ?_
        rintro e w3 ⟨rfl, k3⟩
        go_wp2_with fail
        refine (law2_known _).mono ?_
        rintro e w7 ⟨rfl, k7⟩
        go_wp2_with fail
        go_ret
        exact ⟨rfl, (HK.out.trans k3).trans k7⟩
end Go.Proofs.Ytldfnlkineehbab
