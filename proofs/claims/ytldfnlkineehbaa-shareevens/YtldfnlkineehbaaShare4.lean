/- share.Split. -/
import Derived.Test.YtldfnlkineehbaaShare3
namespace Go.Proofs.Ytldfnlkineehbaa
open Go.RowKit
set_option linter.unusedSimpArgs false
set_option linter.unusedVariables false

/-- Units that have gone to the first k of a row. -/
def inc (q f : Nat → Int) : Nat → Nat → Int
  | 0 => q
  | k + 1 => fun i => if (i : Int) = f k then inc q f k i + 1 else inc q f k i
theorem inc_not (q f : Nat → Int) (k i : Nat) (h : ∀ j, j < k → f j ≠ i) : inc q f k i = q i := by
  induction k with
  | zero => rfl
  | succ k ih =>
    simp only [inc]
    rw [if_neg (fun e => h k (by omega) e.symm), ih fun j hj => h j (by omega)]
theorem inc_yes (q f : Nat → Int) (k i j : Nat) (hj : j < k) (e : f j = i) (hinj : ∀ p p', p < p' → p' < k → f p ≠ f p') : inc q f k i = q i + 1 := by
  induction k with
  | zero => omega
  | succ k ih =>
    simp only [inc]
    by_cases e2 : j = k
    · subst e2
      rw [if_pos e.symm, inc_not q f j i fun p hp e3 => hinj p j hp (by omega) (e3.trans e.symm)]
    · rw [if_neg (fun e3 => hinj j k (by omega) (by omega) (e.trans e3)), ih (by omega) fun p p' h1 h2 => hinj p p' h1 (by omega)]
theorem inc_rank {K : Int → Int} {q f : Nat → Int} {n t : Nat} (himg : Img 0 n (fun i => (i : Int)) f) (hs : Srt K f 0 n) (ht : t ≤ n) (i : Nat) (hi : i < n) : inc q f t i = q i + if rank K n i < t then 1 else 0 := by
  by_cases h : rank K n i < t
  · rw [if_pos h]
    obtain ⟨j, hj, e⟩ := (top_iff himg hs ht i hi).2 h
    exact inc_yes q f t i j hj e fun p p' h1 h2 e3 => by
      have := hs p p' (Nat.zero_le _) h1 (by omega)
      rw [e3] at this
      exact this.irrefl
  · rw [if_neg h]
    rw [inc_not q f t i fun j hj e => h ((top_iff himg hs ht i hi).1 ⟨j, hj, e⟩)]
    omega

/-- The key of a place: the rest of its quota. -/
def keyR (whole all : Int) (l : List Int) : Int → Int := keyOf (lst l.length (rF whole all l))

set_option maxHeartbeats 1000000 in
theorem share_Split_ok (whole all : Int) (a : Option Addr) (len cap : Nat) (l : List Int) (w : World) (hs : Sl .u64 w a len l) (hn : ∀ x ∈ l, isU x) (h0 : 0 < len) (hlen : len ≤ 1024) (hw : isU whole) (hall : sumL l = all) (ha0 : 0 < all) (hau : all < 18446744073709551616) :
    Calls Try.prog 30 #[.int .u64 whole, .slice a len cap] w fun e w' => ∃ P, w.heap.size ≤ P ∧ e = .returned (.tuple #[.slice (some ⟨P, 0, none⟩) len len, .int .i64 0]) ∧
      Arr .u64 w' P len (partF whole all l (keyR whole all l)) ∧ Kept w w' ∧ ∃ f, Img 0 len (fun i => (i : Int)) f ∧ Srt (keyR whole all l) f 0 len := by
  have hll := hs.len
  have hsn : sumN (fun i => l.getD i 0) l.length = all := by rw [← sumL_all]; exact hall
  have hl0 := left_nonneg whole all l hw.1 ha0 l.length (Int.le_of_eq hsn)
  have hl1 := left_lt whole all l ha0 hsn (by omega)
  have e1 : cntE (len : Int) = 0 := by unfold cntE; rw [if_neg (by omega), if_neg (by omega)]
  have e2 : totV l = all := by unfold totV; rw [if_pos (by omega)]; exact hall
  have e3 : totE l = 0 := by unfold totE; rw [if_pos (by omega), if_neg (by omega)]
  have C1 := share_countable (len : Int) w
  rw [e1] at C1
  have C2 := share_total a len cap l w hs hn
  rw [e2, e3] at C2
  have C3 := share_roundedDown whole all a len cap l w hs hn h0 hlen hw hall ha0 hau
  have hl2 : 0 < leftAt whole all l l.length → ∀ i, i < len → qF whole all l i + 1 ≤ whole := by
    intro hp i hi
    have h1 : ∀ m, i < m → qF whole all l i ≤ sumN (qF whole all l) m := by
      intro m
      induction m with
      | zero => intro h; omega
      | succ m ih =>
        intro h
        simp only [sumN]
        have g0 := qF_nonneg whole all l hw.1 ha0 (fun x hx => (hn x hx).1) m
        by_cases e : i = m
        · subst e
          have := sumN_nonneg (f := qF whole all l) i fun j _ => qF_nonneg whole all l hw.1 ha0 (fun x hx => (hn x hx).1) j
          omega
        · have := ih (by omega); omega
    have := h1 l.length (by omega)
    unfold leftAt at hp
    omega
  rw [hll] at hl0 hl1 hl2
  obtain ⟨t, ht⟩ := Int.eq_ofNat_of_zero_le hl0
  have HT := hidMk ht
  rw [ht] at C3 hl1 hl2
  have H1 := hidMk C1
  have H2 := hidMk C2
  have H3 := hidMk C3
  have HL2 := hidMk hl2
  have HW := hidMk hw
  have HNN := hidMk (fun x (hx : x ∈ l) => (hn x hx).1)
  clear C1 C2 C3 e1 e2 e3 hl0 ht hs hn hall hsn hl2
  go_enter Try.func30, Try.ntmps30
  go_wp2_with fail
  refine H1.out.mono ?_
  rintro e w1 ⟨rfl, rfl⟩
  go_wp2_with fail
  refine H2.out.mono ?_
  rintro e w1 ⟨rfl, rfl⟩
  go_wp2_with fail
  refine H3.out.mono ?_
  rintro e w2 ⟨P, R, hP, hPR, rfl, hq, hr, hk⟩
  clear H1 H2 H3
  have hrl := hr.lt
  have C4 := share_byLargest (some ⟨R, 0, none⟩) len len (lst len (rF whole all l)) w2 (hr.sl (by unfold maxLen; omega)) h0 hlen
  have H4 := hidMk C4
  have HQ := hidMk hq
  have HK := hidMk hk
  have hpl := hq.lt
  clear C4 hq hr hk
  go_wp2_with fail
  refine H4.out.mono ?_
  rintro e w3 ⟨B, f, hB, rfl, hf, himg, hsrt, hk3⟩
  clear H4
  have hbl := hf.lt
  have HF := hidMk hf
  have HI := hidMk himg
  have HS := hidMk hsrt
  have HQ3 := hidMk (HQ.out.kept hk3)
  have HK3 := hidMk (HK.out.trans hk3)
  clear hf himg hsrt hk3 HQ HK
  have htl : t < len := by omega
  go_wp2_with fail
  go_loopw [41] (fun x wr => ∃ k : Nat, k ≤ t ∧ x = .int .i64 k ∧ Arr .u64 wr P len (inc (qF whole all l) f k) ∧ Arr .i64 wr B len f ∧ Kept w1 wr) (fun x _ => t - (intOf x).toNat)
  case atStart => exact ⟨0, Nat.zero_le _, rfl, HQ3.out, HF.out, HK3.out⟩
  case round =>
    obtain ⟨k, hkt, rfl, hp, hf, hk⟩ := hrel
    clear HQ3 HF HK3
    by_cases hlt : k < t
    · obtain ⟨m, _, hm, em⟩ := HI.out.into k (Nat.zero_le _) (by omega)
      have em' : f k = (m : Int) := em
      have c1 := hf.cell k (by omega)
      rw [em'] at c1
      have hnot : inc (qF whole all l) f k m = qF whole all l m := inc_not _ _ _ _ fun j hj e => by
        have h1 := HS.out j k (Nat.zero_le _) hj (by omega)
        rw [e, em'] at h1
        exact h1.irrefl
      have c2 := hp.cell m hm
      rw [hnot] at c2
      have f2 := hp.fr m hm
      have hq1 : qF whole all l m + 1 ≤ 18446744073709551615 := by
        have h1 := HL2.out (by omega) m hm
        have h2 := HW.out.2
        omega
      have hq0 : 0 ≤ qF whole all l m := qF_nonneg whole all l HW.out.1 ha0 (HNN.out) m
      have hne : B ≠ P := by omega
      have S1 := hidMk (hp.set m hm (qF whole all l m + 1))
      have S2 := hidMk (hf.other (C := P) (by omega) m (.int .u64 (qF whole all l m + 1)))
      have HK4 := hidMk (hk.setCell (p := ⟨P, m, none⟩) hP (.int .u64 (qF whole all l m + 1)))
      have HE := hidMk em'
      have HNOT := hidMk hnot
      clear hp hf hk em em' hnot
      have hmi : (m : Int) < (len : Int) := by omega
      generalize qF whole all l m = q at *
      go_wp2_with fail
      refine ⟨⟨k + 1, by omega, by go_num, S1.out.eqv fun i hi => ?_, S2.out, HK4.out⟩, by simp [intOf]; omega⟩
      simp only [inc]
      rw [HE.out]
      by_cases e : i = m
      · subst e; rw [if_pos rfl, if_pos rfl, HNOT.out]
      · rw [if_neg (by omega), if_neg e]
    · have ek : k = t := by omega
      subst ek
      go_wp2_with fail
      go_ret2
      refine ⟨P, hP, rfl, hp.eqv fun i hi => ?_, hk, f, HI.out, by unfold keyR; rw [hll]; exact HS.out⟩
      have hr := inc_rank (q := qF whole all l) HI.out HS.out (by omega : k ≤ len) i hi
      rw [hr]
      unfold partF
      rw [hll, HT.out]
      unfold keyR
      rw [hll]
      by_cases e : rank (keyOf (lst len (rF whole all l))) len i < k
      · rw [if_pos e, if_pos (by omega)]
      · rw [if_neg e, if_neg (by omega)]

/-- What Split ends with. -/
def splE (len : Nat) (l : List Int) : Int := if cntE len = 0 then totE l else cntE len
theorem share_Split_err (whole : Int) (a : Option Addr) (len cap : Nat) (l : List Int) (w : World) (hs : Sl .u64 w a len l) (hn : ∀ x ∈ l, isU x) (he : splE len l ≠ 0) :
    Calls Try.prog 30 #[.int .u64 whole, .slice a len cap] w fun e w' => e = .returned (.tuple #[.slice none 0 0, .int .i64 (splE len l)]) ∧ w' = w := by
  have hbig := hs.big
  unfold maxLen at hbig
  have C1 := share_countable (len : Int) w
  have C2 := share_total a len cap l w hs hn
  by_cases h0 : cntE len = 0
  · have e : splE len l = totE l := by unfold splE; rw [if_pos h0]
    rw [e] at he ⊢
    rw [h0] at C1
    have hb : (totE l != 0) = true := by rw [bne_iff_ne]; exact he
    have H1 := hidMk C1
    have H2 := hidMk C2
    clear C1 C2 h0 he e hs hn
    generalize totE l = E at *
    generalize totV l = V at *
    go_enter Try.func30, Try.ntmps30
    go_wp2_with fail
    refine H1.out.mono ?_
    rintro e w1 ⟨rfl, rfl⟩
    go_wp2_with fail
    refine H2.out.mono ?_
    rintro e w1 ⟨rfl, rfl⟩
    go_wp2_with fail
    go_ret2
    exact ⟨rfl, rfl⟩
  · have e : splE len l = cntE len := by unfold splE; rw [if_neg h0]
    rw [e]
    have hb : (cntE len != 0) = true := by rw [bne_iff_ne]; exact h0
    have H1 := hidMk C1
    clear C1 C2 h0 he e hs hn
    generalize cntE len = E at *
    go_enter Try.func30, Try.ntmps30
    go_wp2_with fail
    refine H1.out.mono ?_
    rintro e w1 ⟨rfl, rfl⟩
    go_wp2_with fail
    go_ret2
    exact ⟨rfl, rfl⟩
end Go.Proofs.Ytldfnlkineehbaa
