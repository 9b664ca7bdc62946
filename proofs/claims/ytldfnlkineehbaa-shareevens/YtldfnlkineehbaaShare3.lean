/- share.roundedDown and share.Split. -/
import Derived.Test.YtldfnlkineehbaaShare2
import Derived.Test.YtldfnlkineehbaaShareMath
namespace Go.Proofs.Ytldfnlkineehbaa
open Go.RowKit
set_option linter.unusedSimpArgs false
set_option linter.unusedVariables false

theorem md_ok {whole x all : Int} (hw : isU whole) (hx : 0 ≤ x) (hxa : x ≤ all) (ha : 0 < all) (hau : all < 18446744073709551616) : mdQ whole x all = whole * x / all ∧ mdR whole x all = whole * x % all := by
  have h1 : mulHi whole x < all := by
    unfold mulHi
    have h2 : whole * x ≤ 18446744073709551615 * all := Int.mul_le_mul hw.2 hxa hx (by omega)
    refine Int.ediv_lt_of_lt_mul (by omega) ?_
    omega
  exact ⟨by unfold mdQ; rw [if_neg (show ¬ all = 0 by omega), if_pos h1], by unfold mdR; rw [if_neg (show ¬ all = 0 by omega), if_pos h1]⟩

set_option maxHeartbeats 1000000 in
theorem share_roundedDown (whole all : Int) (a : Option Addr) (len cap : Nat) (l : List Int) (w : World) (hs : Sl .u64 w a len l) (hn : ∀ x ∈ l, isU x) (h0 : 0 < len) (hlen : len ≤ 1024) (hw : isU whole) (hall : sumL l = all) (ha0 : 0 < all) (hau : all < 18446744073709551616) :
    Calls Try.prog 42 #[.int .u64 whole, .slice a len cap, .int .u64 all] w fun e w' => ∃ P R, w.heap.size ≤ P ∧ P < R ∧ e = .returned (.tuple #[.slice (some ⟨P, 0, none⟩) len len, .slice (some ⟨R, 0, none⟩) len len, .int .u64 (leftAt whole all l len)]) ∧
      Arr .u64 w' P len (qF whole all l) ∧ Arr .u64 w' R len (rF whole all l) ∧ Kept w w' := by
  obtain ⟨i0, hi0, hz0, hz1, hz2⟩ := info_parts info_u64
  have hll := hs.len
  have HS := hidMk hs
  have HN := hidMk hn
  have HALL := hidMk hall
  clear hs hn hall
  go_enter Try.func42, Try.ntmps42
  go_wp2_with (at_make; refine wpList_make_full _ rfl _ _ 49 rfl w.heap.size 28 i0 (.int .u64 0) 1 Try.underlying49 hi0 hz0 hz1 .i64 .i64 _ _ len rfl rfl ?c1 ?c2 ?c3 ?c4 ?c5 ?_)
  case c1 => rfl
  case c2 => rfl
  case c3 => rw [hz2]; omega
  case c4 => unfold maxLen; omega
  case c5 => simp
  intro w1 hown hgrow
  have harr1 := arr_made hown h0
  have hk1 : Kept w w1 := Below.grown (Below.refl _ _) hgrow (Nat.le_refl _) (fun k hk => by cases hk)
  have hsz1 : w.heap.size < w1.heap.size := harr1.lt
  have HA1 := hidMk harr1
  have HK1 := hidMk hk1
  clear hown hgrow harr1 hk1
  go_wp2_with (at_make; refine wpList_make_full _ rfl _ _ 49 rfl w1.heap.size 28 i0 (.int .u64 0) 1 Try.underlying49 hi0 hz0 hz1 .i64 .i64 _ _ len rfl rfl ?c1 ?c2 ?c3 ?c4 ?c5 ?_)
  case c1 => rfl
  case c2 => rfl
  case c3 => rw [hz2]; omega
  case c4 => unfold maxLen; omega
  case c5 => simp
  intro w2 hown hgrow
  have harr2 := arr_made hown h0
  have hk2 : Kept w1 w2 := Below.grown (Below.refl _ _) hgrow (Nat.le_refl _) (fun k hk => by cases hk)
  have HA2 := hidMk harr2
  have HA3 := hidMk (HA1.out.kept hk2)
  have HK2 := hidMk (HK1.out.trans hk2)
  clear hown hgrow harr2 hk2 HA1 HK1
  go_wp2_with fail
  go_loopw [8, 20] (fun x y wr => ∃ k : Nat, k ≤ len ∧ y = .int .i64 k ∧ x = .int .u64 (leftAt whole all l k) ∧ Arr .u64 wr w.heap.size len (fun i => if i < k then qF whole all l i else 0) ∧ Arr .u64 wr w1.heap.size len (fun i => if i < k then rF whole all l i else 0) ∧ Kept w wr) (fun _ y _ => len - (intOf y).toNat)
  case atStart => exact ⟨0, Nat.zero_le _, rfl, by simp [leftAt, sumN], HA3.out.eqv fun i hi => by simp, HA2.out.eqv fun i hi => by simp, HK2.out⟩
  case round =>
    obtain ⟨k, hk, rfl, rfl, hp, hr, hkept⟩ := hrel
    clear HA2 HA3 HK2
    by_cases hlt : k < len
    · have hsr := HS.out.kept hkept
      obtain ⟨b, o, rfl, hb, hc⟩ := hsr.cells (by omega)
      have hcell := hc k hlt
      have hxm := HN.out _ (getD_mem l k (by omega))
      have hsum : ∀ j, j ≤ len → sumN (fun i => l.getD i 0) j ≤ all := by
        intro j hj
        rw [← sumL_sumN l j (by omega), ← HALL.out]
        exact sumL_take_le l j HN.out
      have hxa : l.getD k 0 ≤ all := by
        have h1 := hsum (k + 1) (by omega)
        simp only [sumN] at h1
        have h2 : 0 ≤ sumN (fun i => l.getD i 0) k := sumN_nonneg k fun i hi => (HN.out _ (getD_mem l i (by omega))).1
        omega
      have hl0 := left_nonneg whole all l hw.1 ha0 (k + 1) (hsum (k + 1) (by omega))
      have hl1 : leftAt whole all l (k + 1) = leftAt whole all l k - qF whole all l k := by unfold leftAt; simp only [sumN]; omega
      have hq0 := qF_nonneg whole all l hw.1 ha0 (fun x hx => (HN.out x hx).1) k
      have hlw : leftAt whole all l k ≤ whole := by
        unfold leftAt
        have := sumN_nonneg (f := qF whole all l) k fun i _ => qF_nonneg whole all l hw.1 ha0 (fun x hx => (HN.out x hx).1) i
        omega
      obtain ⟨m1, m2⟩ := md_ok hw hxm.1 hxa ha0 hau
      have M := num_MulDiv whole (l.getD k 0) all wr hw hxm ⟨by omega, by omega⟩
      rw [m1, m2] at M
      have e1 : whole * l.getD k 0 / all = qF whole all l k := rfl
      have e2 : whole * l.getD k 0 % all = rF whole all l k := rfl
      rw [e1, e2] at M
      rw [hl1] at hl0
      have HL1 := hidMk hl1
      have HP := hidMk hp
      have HR := hidMk hr
      have HKK := hidMk hkept
      clear hc hsr m1 m2 e1 e2 hl1 hsum hxm hxa hp hr hkept
      generalize l.getD k 0 = x at *
      have HM := hidMk M
      clear M
      have hw2 := hw.2
      generalize hQ : qF whole all l k = q at *
      generalize hRR : rF whole all l k = r at *
      generalize leftAt whole all l k = y at *
      generalize mdE whole x all = me at *
      have HQ := hidMk hQ
      have HRR := hidMk hRR
      clear hQ hRR
      have hne : w1.heap.size ≠ w.heap.size := by omega
      have hne2 : w.heap.size ≠ w1.heap.size := by omega
      go_wp2_with fail
      refine HM.out.mono ?_
      rintro e w3 ⟨rfl, hk3⟩
      have hp3 := HP.out.kept hk3
      have hr3 := HR.out.kept hk3
      have c1 := hp3.cell k hlt
      have c2 := hr3.cell k hlt
      have f1 := hp3.fr k hlt
      have f2 := hr3.fr k hlt
      have S1 := hidMk (((hp3.set k hlt q)).other (C := w1.heap.size) hne k (.int .u64 r))
      have S2 := hidMk ((hr3.other (C := w.heap.size) hne2 k (.int .u64 q)).set k hlt r)
      have HK4 := hidMk (((HKK.out.trans hk3).setCell (p := ⟨w.heap.size, k, none⟩) (Nat.le_refl _) (.int .u64 q)).setCell (p := ⟨w1.heap.size, k, none⟩) (by simp; omega) (.int .u64 r))
      clear hp3 hr3 hk3 HP HR HM HKK
      go_wp2_with fail
      refine ⟨⟨k + 1, by omega, by go_num, ?_, S1.out.eqv fun i hi => ?_, S2.out.eqv fun i hi => ?_, HK4.out⟩, by simp [intOf]; omega⟩
      · rw [HL1.out]
      · by_cases e : i = k
        · subst e; rw [if_pos (by omega), if_pos rfl, HQ.out]
        · rw [if_neg e]
          by_cases e2 : i < k
          · rw [if_pos (by omega), if_pos e2]
          · rw [if_neg (by omega), if_neg e2]
      · by_cases e : i = k
        · subst e; rw [if_pos (by omega), if_pos rfl, HRR.out]
        · rw [if_neg e]
          by_cases e2 : i < k
          · rw [if_pos (by omega), if_pos e2]
          · rw [if_neg (by omega), if_neg e2]
    · have ek : k = len := by omega
      subst ek
      go_wp2_with fail
      go_ret3
      exact ⟨_, _, Nat.le_refl _, hsz1, rfl, hp.eqv fun i hi => by rw [if_pos hi], hr.eqv fun i hi => by rw [if_pos hi], hkept⟩
end Go.Proofs.Ytldfnlkineehbaa
