/- There is a row of all places by their ranks; two lists that are held against each other. -/
import Derived.Test.YtldfnlkineehbaaLawShareSplits
namespace Go.Proofs.Ytldfnlkineehbaa
open Go.RowKit
set_option linter.unusedSimpArgs false
set_option linter.unusedVariables false

theorem place_for {K : Int → Int} {f : Nat → Int} {x : Int} (n : Nat) (hs : Srt K f 0 n) (hx : ∀ k, k < n → f k ≠ x) : ∃ j, j ≤ n ∧ (∀ k, k < j → LT K (f k) x) ∧ (∀ k, j ≤ k → k < n → LT K x (f k)) := by
  induction n with
  | zero => exact ⟨0, Nat.le_refl _, fun k hk => absurd hk (by omega), fun k _ hk => absurd hk (by omega)⟩
  | succ n ih =>
    obtain ⟨j, hj, h1, h2⟩ := ih (hs.sub (Nat.le_refl _) (by omega)) fun k hk => hx k (by omega)
    by_cases e : j = n
    · subst e
      rcases LT.total (K := K) (hx j (by omega)) with h | h
      · refine ⟨j + 1, Nat.le_refl _, fun k hk => ?_, fun k k1 k2 => absurd k2 (by omega)⟩
        by_cases e2 : k = j
        · subst e2; exact h
        · exact h1 k (by omega)
      · refine ⟨j, by omega, h1, fun k k1 k2 => ?_⟩
        have e2 : k = j := by omega
        subst e2; exact h
    · refine ⟨j, by omega, h1, fun k k1 k2 => ?_⟩
      by_cases e2 : k = n
      · subst e2; exact (h2 j (Nat.le_refl _) (by omega)).trans (hs j k (Nat.zero_le _) (by omega) (by omega))
      · exact h2 k k1 (by omega)
theorem exists_sorted (K : Int → Int) (n : Nat) : ∃ f, Img 0 n (fun i => (i : Int)) f ∧ Srt K f 0 n := by
  induction n with
  | zero => exact ⟨_, Img.refl _ _ _, fun i j h1 h2 h3 => absurd h3 (by omega)⟩
  | succ n ih =>
    obtain ⟨f, hi, hs⟩ := ih
    have hs2 : Srt K f 0 n := hs
    have hfn : f n = (n : Int) := hi.out n (.inr (Nat.le_refl _))
    obtain ⟨j, hj, h1, h2⟩ := place_for (x := (n : Int)) n hs fun k hk e => by
      obtain ⟨q, _, q2, q3⟩ := hi.into k (Nat.zero_le _) hk
      have q3' : f k = (q : Int) := q3
      omega
    refine ⟨ins f j n, (hi.wider (Nat.le_refl _) (by omega)).trans (ins_img f 0 j n (Nat.zero_le _) hj), ins_srt hs2 (Nat.zero_le _) hj (fun k k1 k2 => ?_) (fun k k1 k2 => ?_)⟩
    · rw [hfn]; exact h2 k k1 k2
    · rw [hfn]; exact h1 k k2

theorem list_ne {l m : List Int} {k : Nat} (h : l.getD k 0 ≠ m.getD k 0) : decide (l = m) = false := by
  simp only [decide_eq_false_iff_not]
  intro e; subst e; exact h rfl
theorem list_eq {l m : List Int} (hl : l.length = m.length) (h : ∀ i, i < l.length → l.getD i 0 = m.getD i 0) : decide (l = m) = true := by
  simp only [decide_eq_true_eq]
  refine List.ext_getElem hl fun i h1 h2 => ?_
  have := h i h1
  rwa [List.getD_eq_getElem?_getD, List.getD_eq_getElem?_getD, List.getElem?_eq_getElem h1, List.getElem?_eq_getElem h2] at this

theorem ref_Same (a b : Option Addr) (len lenb ca cb : Nat) (l m : List Int) (w : World) (h1 : Sl .u64 w a len l) (h2 : Sl .u64 w b lenb m) :
    Calls Try.prog 32 #[.slice a len ca, .slice b lenb cb] w fun e w' => e = .returned (.bool (decide (l = m))) ∧ Kept w w' := by
  have hbig := h1.big
  have hbig2 := h2.big
  have hl1 := h1.len
  have hl2 := h2.len
  unfold maxLen at hbig hbig2
  by_cases hne : len = lenb
  · subst hne
    have hneb : (((len : Int) != (len : Int)) = false) := by simp
    have H1 := hidMk h1
    have H2 := hidMk h2
    clear h1 h2
    go_enter Try.func32, Try.ntmps32
    go_wp2
    go_loopw [5] (fun x wr => ∃ k q : Nat, k ≤ len ∧ x = .int .i64 k ∧ wr = w.drewN q ∧ ∀ i, i < k → l.getD i 0 = m.getD i 0) (fun x _ => len - (intOf x).toNat)
    case atStart => exact ⟨0, 0, Nat.zero_le _, rfl, rfl, fun i hi => absurd hi (by omega)⟩
    case round =>
      obtain ⟨k, q, hk, rfl, rfl, hall⟩ := hrel
      have HA := hidMk hall
      clear hall
      by_cases hlt : k < len
      · obtain ⟨b1, o1, rfl, hb1, hc1⟩ := H1.out.cells (by omega)
        obtain ⟨b2, o2, rfl, hb2, hc2⟩ := H2.out.cells (by omega)
        have c1 := hc1 k hlt
        have c2 := hc2 k hlt
        have h3 : (k : Int) < (len : Int) := by omega
        clear hc1 hc2
        by_cases hxy : l.getD k 0 = m.getD k 0
        · rw [← hxy] at c2
          have HX := hidMk hxy
          clear hxy
          generalize l.getD k 0 = x at c1 c2
          have hx : ((x != x) = false) := by simp
          go_wp2
          go_quiet (fail)
          go_wp2
          refine ⟨⟨k + 1, q + nq, by omega, by go_num, by simp, fun i hi => ?_⟩, by simp [intOf]; omega⟩
          by_cases e : i = k
          · subst e; exact HX.out
          · exact HA.out i (by omega)
        · have HD := hidMk (list_ne hxy)
          have hx : ((l.getD k 0 != m.getD k 0) = true) := by rw [bne_iff_ne]; exact hxy
          clear hxy
          generalize l.getD k 0 = x at *
          generalize m.getD k 0 = y at *
          go_wp2
          go_quiet (fail)
          go_wp2
          go_ret
          exact ⟨by rw [HD.out]; rfl, below_drewN (below_drewN (Below.refl _ _) _) _⟩
      · have HD := hidMk (list_eq (by omega) fun i hi => HA.out i (by omega))
        go_wp2
        go_ret
        exact ⟨by rw [HD.out]; rfl, below_drewN (Below.refl _ _) _⟩
  · have hneb : (((len : Int) != (lenb : Int)) = true) := by rw [bne_iff_ne]; omega
    have HD := hidMk (show decide (l = m) = false by simp only [decide_eq_false_iff_not]; intro e; subst e; omega)
    clear h1 h2
    go_enter Try.func32, Try.ntmps32
    go_wp2
    go_ret
    exact ⟨by rw [HD.out]; rfl, Kept.refl _⟩
theorem slices_Equal (a b : Option Addr) (len lenb ca cb : Nat) (l m : List Int) (w : World) (h1 : Sl .u64 w a len l) (h2 : Sl .u64 w b lenb m) :
    Calls Try.prog 44 #[.slice a len ca, .slice b lenb cb] w fun e w' => e = .returned (.bool (decide (l = m))) ∧ Kept w w' := by
  have hbig := h1.big
  have hbig2 := h2.big
  have hl1 := h1.len
  have hl2 := h2.len
  unfold maxLen at hbig hbig2
  by_cases hne : len = lenb
  · subst hne
    have hneb : (((len : Int) != (len : Int)) = false) := by simp
    have H1 := hidMk h1
    have H2 := hidMk h2
    clear h1 h2
    go_enter Try.func44, Try.ntmps44
    go_wp2
    go_loopw [13] (fun x wr => ∃ k q : Nat, k ≤ len ∧ x = .int .i64 k ∧ wr = w.drewN q ∧ ∀ i, i < k → l.getD i 0 = m.getD i 0) (fun x _ => len - (intOf x).toNat)
    case atStart => exact ⟨0, 0, Nat.zero_le _, rfl, rfl, fun i hi => absurd hi (by omega)⟩
    case round =>
      obtain ⟨k, q, hk, rfl, rfl, hall⟩ := hrel
      have HA := hidMk hall
      clear hall
      by_cases hlt : k < len
      · obtain ⟨b1, o1, rfl, hb1, hc1⟩ := H1.out.cells (by omega)
        obtain ⟨b2, o2, rfl, hb2, hc2⟩ := H2.out.cells (by omega)
        have c1 := hc1 k hlt
        have c2 := hc2 k hlt
        have h3 : (k : Int) < (len : Int) := by omega
        clear hc1 hc2
        by_cases hxy : l.getD k 0 = m.getD k 0
        · rw [← hxy] at c2
          have HX := hidMk hxy
          clear hxy
          generalize l.getD k 0 = x at c1 c2
          have hx : ((x != x) = false) := by simp
          go_wp2
          go_quiet (fail)
          go_wp2
          refine ⟨⟨k + 1, q + nq, by omega, by go_num, by simp, fun i hi => ?_⟩, by simp [intOf]; omega⟩
          by_cases e : i = k
          · subst e; exact HX.out
          · exact HA.out i (by omega)
        · have HD := hidMk (list_ne hxy)
          have hx : ((l.getD k 0 != m.getD k 0) = true) := by rw [bne_iff_ne]; exact hxy
          clear hxy
          generalize l.getD k 0 = x at *
          generalize m.getD k 0 = y at *
          go_wp2
          go_quiet (fail)
          go_wp2
          go_ret
          exact ⟨by rw [HD.out]; rfl, below_drewN (below_drewN (Below.refl _ _) _) _⟩
      · have HD := hidMk (list_eq (by omega) fun i hi => HA.out i (by omega))
        go_wp2
        go_ret
        exact ⟨by rw [HD.out]; rfl, below_drewN (Below.refl _ _) _⟩
  · have hneb : (((len : Int) != (lenb : Int)) = true) := by rw [bne_iff_ne]; omega
    have HD := hidMk (show decide (l = m) = false by simp only [decide_eq_false_iff_not]; intro e; subst e; omega)
    clear h1 h2
    go_enter Try.func44, Try.ntmps44
    go_wp2
    go_ret
    exact ⟨by rw [HD.out]; rfl, Kept.refl _⟩
end Go.Proofs.Ytldfnlkineehbaa
