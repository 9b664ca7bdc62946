/- Two lists of texts held against each other; what must come of fixed calls (layer 3). -/
import Derived.Test.YtifddieoekbnfaaDoorText7
namespace Go.Proofs.YtifddieoekbnfaaDoor
open Go.RowKit
set_option linter.unusedSimpArgs false
set_option linter.unusedVariables false

theorem strs_ne {l m : List ByteArray} {k : Nat} (h : l.getD k ByteArray.empty ≠ m.getD k ByteArray.empty) : decide (l = m) = false := by
  simp only [decide_eq_false_iff_not]
  intro e; subst e; exact h rfl
theorem strs_eq {l m : List ByteArray} (hl : l.length = m.length) (h : ∀ i, i < l.length → l.getD i ByteArray.empty = m.getD i ByteArray.empty) : decide (l = m) = true := by
  simp only [decide_eq_true_eq]
  refine List.ext_getElem hl fun i h1 h2 => ?_
  have := h i h1
  rwa [List.getD_eq_getElem?_getD, List.getD_eq_getElem?_getD, List.getElem?_eq_getElem h1, List.getElem?_eq_getElem h2] at this

set_option maxHeartbeats 1000000 in
theorem ref_Same (a b : Option Addr) (len lenb ca cb : Nat) (l m : List ByteArray) (w : World) (h1 : Ss w a len l) (h2 : Ss w b lenb m) :
    Calls Tryd.prog 20 #[.slice a len ca, .slice b lenb cb] w fun e w' => e = .returned (.bool (decide (l = m))) ∧ Kept w w' := by
  have hbig := h1.big
  have hbig2 := h2.big
  have hl1 := h1.len
  have hl2 := h2.len
  unfold maxLen at hbig hbig2
  by_cases hne : len = lenb
  · subst hne
    have hneb : (((len : Int) != (len : Int)) = false) := by simp
    obtain ⟨r, hr⟩ : ∃ r, decide (l = m) = r := ⟨_, rfl⟩
    rw [hr]
    have HR := hidMk hr
    have H1 := hidMk h1
    have H2 := hidMk h2
    clear h1 h2 hr
    go_enter Tryd.func20, Tryd.ntmps20
    go_wp2
    go_loopw [5] (fun x wr => ∃ k q : Nat, k ≤ len ∧ x = .int .i64 k ∧ wr = w.drewN q ∧ Hid (∀ i, i < k → l.getD i ByteArray.empty = m.getD i ByteArray.empty)) (fun x _ => len - (intOf x).toNat)
    case atStart => exact ⟨0, 0, Nat.zero_le _, rfl, rfl, hidMk fun i hi => absurd hi (by omega)⟩
    case round =>
      obtain ⟨k, q, hk, rfl, rfl, HA⟩ := hrel
      by_cases hlt : k < len
      · obtain ⟨b1, o1, rfl, hb1, hc1⟩ := H1.out.cells (by omega)
        obtain ⟨b2, o2, rfl, hb2, hc2⟩ := H2.out.cells (by omega)
        have c1 := hc1 k hlt
        have c2 := hc2 k hlt
        have h3 : (k : Int) < (len : Int) := by omega
        clear hc1 hc2
        by_cases hxy : l.getD k ByteArray.empty = m.getD k ByteArray.empty
        · rw [← hxy] at c2
          have HX := hidMk hxy
          clear hxy
          generalize l.getD k ByteArray.empty = x at c1 c2
          go_wp2
          go_quiet (fail)
          go_wp2
          refine ⟨⟨k + 1, q + nq, by omega, by go_num, by simp, hidMk fun i hi => ?_⟩, by simp [intOf]; omega⟩
          by_cases e : i = k
          · subst e; exact HX.out
          · exact HA.out i (by omega)
        · have HD := hidMk (show r = false by rw [← HR.out]; exact strs_ne hxy)
          have hx := bytes_ne hxy
          clear hxy
          generalize l.getD k ByteArray.empty = x at *
          generalize m.getD k ByteArray.empty = y at *
          go_wp2
          go_quiet (fail)
          go_wp2
          go_ret
          exact ⟨by rw [HD.out]; rfl, below_drewN (below_drewN (Below.refl _ _) _) _⟩
      · have HD := hidMk (show r = true by rw [← HR.out]; exact strs_eq (by omega) fun i hi => HA.out i (by omega))
        go_wp2
        go_ret
        exact ⟨by rw [HD.out]; rfl, below_drewN (Below.refl _ _) _⟩
  · have hneb : (((len : Int) != (lenb : Int)) = true) := by rw [bne_iff_ne]; omega
    have HD := hidMk (show decide (l = m) = false by simp only [decide_eq_false_iff_not]; intro e; subst e; omega)
    clear h1 h2
    rw [HD.out]
    go_enter Tryd.func20, Tryd.ntmps20
    go_wp2
    go_ret
    exact ⟨rfl, Kept.refl _⟩

theorem num12 : numS (-12) = ⟨#[45, 49, 50]⟩ := by
  unfold numS numL
  rw [if_pos (by omega), show ((- -12 : Int)).toNat = 12 from rfl, digs_ge (by omega), show 12 / 10 = 1 from rfl, digs_lt (n := 1) (by omega)]
  decide +kernel
theorem num_no0 (v : Int) (hv : isI v) : numS v ≠ ⟨#[45, 48]⟩ := by
  intro e
  have h : numL v = [45, 48] := by
    rw [← numS_byt, e]
    decide +kernel
  unfold numL at h
  by_cases h0 : v < 0
  · rw [if_pos h0] at h
    have h1 := (List.cons.inj h).2
    have h2 := valD_digs (-v).toNat
    rw [h1] at h2
    simp [valD] at h2
    omega
  · rw [if_neg h0] at h
    have := digs_dig v.toNat 45 (by rw [h]; simp)
    omega
theorem words_k : wordsB ⟨#[32, 97, 32, 32, 98]⟩ = [⟨#[97]⟩, ⟨#[98]⟩] := by decide +kernel
theorem lines_k : linesB ⟨#[120, 10, 10, 121]⟩ = [⟨#[120]⟩, ⟨#[]⟩, ⟨#[121]⟩] := by decide +kernel
theorem name_k1 : nameB ⟨#[97, 95, 49]⟩ = true := by decide +kernel
theorem name_k2 : nameB ⟨#[49, 97]⟩ = false := by decide +kernel
theorem less_k : Op.bytesLess (ByteArray.mk #[97]).toList (ByteArray.mk #[98]).toList = true := by
  rw [ByteArray.toList_eq, ByteArray.toList_eq]; decide +kernel

end Go.Proofs.YtifddieoekbnfaaDoor
