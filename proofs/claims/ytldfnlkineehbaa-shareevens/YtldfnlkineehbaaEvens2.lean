/- Split, Even and Check, whatever they end with. -/
import Derived.Test.YtldfnlkineehbaaEvens1
namespace Go.Proofs.Ytldfnlkineehbaa
open Go.RowKit
set_option linter.unusedSimpArgs false
set_option linter.unusedVariables false

/-- The list that Split answers. -/
def spL (whole : Int) (len : Nat) (l : List Int) : List Int := if splE len l = 0 then lst len (partF whole (sumL l) l (keyR whole (sumL l) l)) else []
/-- A list, and why. -/
def Gives (w : World) (m : List Int) (E : Int) (e : Ending) (w' : World) : Prop := ∃ a c, e = .returned (.tuple #[.slice a m.length c, .int .i64 E]) ∧ Sl .u64 w' a m.length m ∧ Kept w w'

theorem share_Split_any (whole : Int) (a : Option Addr) (len cap : Nat) (l : List Int) (w : World) (hw : isU whole) (hs : Sl .u64 w a len l) (hn : ∀ x ∈ l, isU x) :
    Calls Try.prog 30 #[.int .u64 whole, .slice a len cap] w (Gives w (spL whole len l) (splE len l)) := by
  by_cases he : splE len l = 0
  · obtain ⟨h0, h1, h2, h3⟩ := spl_ok hn he
    refine (share_Split_ok whole (sumL l) a len cap l w hs hn h0 h1 hw rfl h2 h3).mono ?_
    rintro e w1 ⟨P, hP, rfl, hp, k1, _⟩
    have e1 : spL whole len l = lst len (partF whole (sumL l) l (keyR whole (sumL l) l)) := by unfold spL; rw [if_pos he]
    unfold Gives
    rw [e1, lst_len, he]
    exact ⟨_, _, rfl, hp.sl (by unfold maxLen; omega), k1⟩
  · refine (share_Split_err whole a len cap l w hs hn he).mono ?_
    rintro e w1 ⟨rfl, rfl⟩
    have e1 : spL whole len l = [] := by unfold spL; rw [if_neg he]
    unfold Gives
    rw [e1]
    exact ⟨_, _, rfl, sl_none _ _, Kept.refl _⟩
theorem ref_Split_any (whole : Int) (a : Option Addr) (len cap : Nat) (l : List Int) (w : World) (hw : isU whole) (hs : Sl .u64 w a len l) (hn : ∀ x ∈ l, isU x) :
    Calls Try.prog 31 #[.int .u64 whole, .slice a len cap] w (Gives w (spL whole len l) (splE len l)) := by
  by_cases he : splE len l = 0
  · obtain ⟨h0, h1, h2, h3⟩ := spl_ok hn he
    obtain ⟨f, himg, hsrt⟩ := exists_sorted (keyR whole (sumL l) l) len
    refine (ref_Split_ok whole (sumL l) a len cap l f w hs hn h0 h1 hw rfl h2 h3 himg hsrt).mono ?_
    rintro e w1 ⟨P, cP, hP, rfl, hp, k1⟩
    have e1 : spL whole len l = lst len (partF whole (sumL l) l (keyR whole (sumL l) l)) := by unfold spL; rw [if_pos he]
    unfold Gives
    rw [e1, lst_len, he]
    exact ⟨_, _, rfl, hp.sl (by unfold maxLen; omega), k1⟩
  · refine (ref_Split_err whole a len cap l w hs hn he).mono ?_
    rintro e w1 ⟨rfl, rfl⟩
    have e1 : spL whole len l = [] := by unfold spL; rw [if_neg he]
    unfold Gives
    rw [e1]
    exact ⟨_, _, rfl, sl_none _ _, Kept.refl _⟩

/-- What Even answers. -/
def ones (n : Nat) : List Int := lst n fun _ => 1
def evL (whole n : Int) : List Int := if cntE n = 0 then spL whole n.toNat (ones n.toNat) else []
def evE (n : Int) : Int := if cntE n = 0 then splE n.toNat (ones n.toNat) else cntE n
theorem ones_u (n : Nat) : ∀ x ∈ ones n, isU x := by
  intro x hx
  obtain ⟨i, _, rfl⟩ := lst_mem hx
  unfold isU; omega

set_option maxHeartbeats 1000000 in
theorem share_Even (whole n : Int) (w : World) (hw : isU whole) :
    Calls Try.prog 33 #[.int .u64 whole, .int .i64 n] w (Gives w (evL whole n) (evE n)) := by
  by_cases hc : cntE n = 0
  · have hn : 1 ≤ n ∧ n ≤ 1024 := by unfold cntE at hc; repeat' split at hc
                                     all_goals omega
    obtain ⟨k, rfl⟩ := Int.eq_ofNat_of_zero_le (show 0 ≤ n by omega)
    obtain ⟨i0, hi0, hz0, hz1, hz2⟩ := info_parts info_u64
    have C1 := share_countable (k : Int) w
    rw [hc] at C1
    have e1 : evL whole k = spL whole k (ones k) := by unfold evL; rw [if_pos hc, Int.toNat_natCast]
    have e2 : evE k = splE k (ones k) := by unfold evE; rw [if_pos hc, Int.toNat_natCast]
    rw [e1, e2]
    have H1 := hidMk C1
    have h0 : 0 < k := by omega
    have h1 : k ≤ 1024 := by omega
    clear C1 hc e1 e2 hn
    go_enter Try.func33, Try.ntmps33
    go_wp2_with fail
    refine H1.out.mono ?_
    rintro e w1 ⟨rfl, rfl⟩
    clear H1
    go_wp2_with (at_make; refine wpList_make_full _ rfl _ _ 49 rfl w1.heap.size 28 i0 (.int .u64 0) 1 Try.underlying49 hi0 hz0 hz1 .i64 .i64 _ _ k rfl rfl ?c1 ?c2 ?c3 ?c4 ?c5 ?_)
    case c1 => rfl
    case c2 => rfl
    case c3 => rw [hz2]; omega
    case c4 => unfold maxLen; omega
    case c5 => simp
    intro w2 hown hgrow
    have HA := hidMk (arr_made hown h0)
    have HK := hidMk (show Kept w1 w2 from Below.grown (Below.refl _ _) hgrow (Nat.le_refl _) (fun k hk => by cases hk))
    clear hown hgrow
    go_wp2_with fail
    go_loopw [18] (fun x wr => ∃ j : Nat, j ≤ k ∧ x = .int .i64 j ∧ Arr .u64 wr w1.heap.size k (fun i => if i < j then 1 else 0) ∧ Kept w1 wr) (fun x _ => k - (intOf x).toNat)
    case atStart => exact ⟨0, Nat.zero_le _, rfl, HA.out.eqv fun i hi => by simp, HK.out⟩
    case round =>
      obtain ⟨j, hj, rfl, harr, hk⟩ := hrel
      clear HA HK
      by_cases hlt : j < k
      · have c1 := harr.cell j hlt
        have f1 := harr.fr j hlt
        have S := hidMk (harr.set j hlt 1)
        have HK := hidMk (hk.setCell (p := ⟨w1.heap.size, j, none⟩) (Nat.le_refl _) (.int .u64 1))
        clear harr hk
        go_wp2_with fail
        refine ⟨⟨j + 1, by omega, by go_num, S.out.eqv fun i hi => ?_, HK.out⟩, by simp [intOf]; omega⟩
        by_cases e : i = j
        · subst e; rw [if_pos (by omega), if_pos rfl]
        · rw [if_neg e]
          by_cases e2 : i < j
          · rw [if_pos (by omega), if_pos e2]
          · rw [if_neg (by omega), if_neg e2]
      · have harr2 : Arr .u64 wr w1.heap.size k (fun _ => 1) := harr.eqv fun i hi => by rw [if_pos (by omega)]
        have C := hidMk (share_Split_any whole (some ⟨w1.heap.size, 0, none⟩) k k (ones k) wr hw (harr2.sl (by unfold maxLen; omega)) (ones_u k))
        have HK := hidMk hk
        clear harr harr2 hk
        go_wp2_with fail
        refine C.out.mono ?_
        rintro e w3 ⟨a3, c3, rfl, hs3, k3⟩
        go_wp2_with fail
        go_ret2
        exact ⟨_, _, rfl, hs3, HK.out.trans k3⟩
  · have C1 := hidMk (share_countable n w)
    have hb : (cntE n != 0) = true := by rw [bne_iff_ne]; exact hc
    have e1 : evL whole n = [] := by unfold evL; rw [if_neg hc]
    have e2 : evE n = cntE n := by unfold evE; rw [if_neg hc]
    rw [e1, e2]
    clear hc e1 e2
    generalize cntE n = E at *
    go_enter Try.func33, Try.ntmps33
    go_wp2_with fail
    refine C1.out.mono ?_
    rintro e w1 ⟨rfl, rfl⟩
    go_wp2_with fail
    go_ret2
    exact ⟨_, _, rfl, sl_none _ _, Kept.refl _⟩

set_option maxHeartbeats 1000000 in
theorem ref_Even (whole n : Int) (w : World) (hw : isU whole) :
    Calls Try.prog 34 #[.int .u64 whole, .int .i64 n] w (Gives w (evL whole n) (evE n)) := by
  by_cases hn1 : n < 1
  · have hc : cntE n = 13 := by unfold cntE; rw [if_pos hn1]
    have e1 : evL whole n = [] := by unfold evL; rw [hc]; rfl
    have e2 : evE n = 13 := by unfold evE; rw [hc]; rfl
    rw [e1, e2]
    clear hc e1 e2
    go_enter Try.func34, Try.ntmps34
    go_wp2_with fail
    go_ret2
    exact ⟨_, _, rfl, sl_none _ _, Kept.refl _⟩
  by_cases hn2 : 1024 < n
  · have hc : cntE n = 5 := by unfold cntE; rw [if_neg hn1, if_pos hn2]
    have e1 : evL whole n = [] := by unfold evL; rw [hc]; rfl
    have e2 : evE n = 5 := by unfold evE; rw [hc]; rfl
    rw [e1, e2]
    clear hc e1 e2
    go_enter Try.func34, Try.ntmps34
    go_wp2_with fail
    go_ret2
    exact ⟨_, _, rfl, sl_none _ _, Kept.refl _⟩
  have hc : cntE n = 0 := by unfold cntE; rw [if_neg hn1, if_neg hn2]
  obtain ⟨k, rfl⟩ := Int.eq_ofNat_of_zero_le (show 0 ≤ n by omega)
  obtain ⟨i0, hi0, hz0, hz1, hz2⟩ := info_parts info_u64
  have e1 : evL whole k = spL whole k (ones k) := by unfold evL; rw [if_pos hc, Int.toNat_natCast]
  have e2 : evE k = splE k (ones k) := by unfold evE; rw [if_pos hc, Int.toNat_natCast]
  rw [e1, e2]
  have h0 : 0 < k := by omega
  have h1 : k ≤ 1024 := by omega
  clear hc e1 e2
  go_enter Try.func34, Try.ntmps34
  go_wp2_with fail
  go_loopw [6, 7] (fun v x wr => ∃ j : Nat, j ≤ k ∧ x = .int .i64 j ∧ wr.ownsRow w.heap.size 28 1 v j ((lst j fun _ => 1).map (Value.int .u64)) ∧ Kept w wr) (fun _ x _ => k - (intOf x).toNat)
  case atStart => exact ⟨0, Nat.zero_le _, rfl, World.ownsRow_nil _ _ _ _, Kept.refl _⟩
  case round =>
    obtain ⟨j, hj, rfl, hown, hk⟩ := hrel
    have hkz := hk.size
    by_cases hlt : j < k
    · go_wp2_with (at_builtin; refine wpList_append_own _ rfl _ _ 49 rfl w.heap.size 28 i0 (.int .u64 0) 1 8 Try.underlying49 hi0 hz0 hz1 hz2 rfl (by decide) _ _ _ rfl (hown.alloc _) ⟨wr.heap.size, 0, none⟩ 1 1 [.int .u64 1] rfl rfl ?c1 ?c2 ?c3 ?c4 ?c5 ?_)
      case c1 =>
        intro j' u hj'
        match j', hj' with
        | 0, hj' => simp at hj'; subst hj'; simp [Addr.add]
      case c2 => first | rfl | (intro u hu; simp at hu; subst hu; rfl)
      case c3 => unfold maxLen; omega
      case c4 => omega
      case c5 => first | omega | (simp; omega)
      intro v' w7 hown' hgrow _
      go_wp2_with fail
      refine ⟨⟨j + 1, by omega, by go_num, ?_, kept_grown (hk.alloc _) (hown.alloc _) hgrow⟩, by simp [intOf]; omega⟩
      rw [lst_snoc]
      exact hown'
    · have ej : j = k := by omega
      subst ej
      obtain ⟨a2, c2, rfl, hs2⟩ := own_sl (l := ones j) (by unfold ones; exact lst_len _ _) (by unfold maxLen; omega) hown
      have C := hidMk (ref_Split_any whole a2 j c2 (ones j) wr hw hs2 (ones_u j))
      have HK := hidMk hk
      clear hown hs2 hk
      go_wp2_with fail
      refine C.out.mono ?_
      rintro e w3 ⟨a3, c3, rfl, hs3, k3⟩
      go_wp2_with fail
      go_ret2
      exact ⟨_, _, rfl, hs3, HK.out.trans k3⟩

/-- What Check answers. -/
def chk (whole : Int) (len : Nat) (l m : List Int) : Bool := if splE len l = 0 then decide (spL whole len l = m) else false
theorem share_Check (whole : Int) (a b : Option Addr) (len cap lenb capb : Nat) (l m : List Int) (w : World) (hw : isU whole) (hs : Sl .u64 w a len l) (hn : ∀ x ∈ l, isU x) (hm : Sl .u64 w b lenb m) :
    Calls Try.prog 35 #[.int .u64 whole, .slice a len cap, .slice b lenb capb] w fun e w' => e = .returned (.bool (chk whole len l m)) ∧ Kept w w' := by
  have C := hidMk (share_Split_any whole a len cap l w hw hs hn)
  have HM := hidMk hm
  by_cases he : splE len l = 0
  · have hz : (splE len l == 0) = true := by rw [beq_iff_eq]; exact he
    have H3 := hidMk (show chk whole len l m = decide (spL whole len l = m) by unfold chk; rw [if_pos he])
    clear hs hn hm he
    generalize splE len l = E at *
    generalize chk whole len l m = q at *
    generalize spL whole len l = s at *
    go_enter Try.func35, Try.ntmps35
    go_wp2_with fail
    refine C.out.mono ?_
    rintro e w1 ⟨a1, c1, rfl, hs1, k1⟩
    have D := hidMk (slices_Equal a1 b s.length lenb c1 capb s m w1 hs1 (HM.out.kept k1))
    have HK := hidMk k1
    clear hs1 k1 C HM
    go_wp2_with fail
    refine D.out.mono ?_
    rintro e w2 ⟨rfl, k2⟩
    rw [← H3.out]
    go_wp2_with fail
    go_ret
    exact ⟨rfl, HK.out.trans k2⟩
  · have hz : (splE len l == 0) = false := by rw [beq_eq_false_iff_ne]; exact he
    have H3 := hidMk (show chk whole len l m = false by unfold chk; rw [if_neg he])
    clear hs hn hm he
    generalize splE len l = E at *
    generalize chk whole len l m = q at *
    generalize spL whole len l = s at *
    go_enter Try.func35, Try.ntmps35
    go_wp2_with fail
    refine C.out.mono ?_
    rintro e w1 ⟨a1, c1, rfl, hs1, k1⟩
    go_wp2_with fail
    go_ret
    exact ⟨by rw [H3.out]; rfl, k1⟩
end Go.Proofs.Ytldfnlkineehbaa
