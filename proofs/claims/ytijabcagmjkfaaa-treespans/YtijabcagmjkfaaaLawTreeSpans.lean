/- TreeSpans: the spans of two members are within each other, or apart; a leaf is in the spans of itself and of all above it. -/
import Derived.Test.YtijabcagmjkfaaaTree12
import Derived.Test.YtijabcagmjkfaaaNodes
namespace Go.Proofs.Ytijabcagmjkfaaa
open Go.RowKit Go.Maps
set_option linter.unusedSimpArgs false
set_option linter.unusedVariables false

theorem within_trans {l : List Nd} (h : noLoop l) {y i k : Int} (h1 : i ∈ abvA l y) (h2 : k ∈ abvA l i) : k ∈ abvA l y := by
  obtain ⟨s, a1, a2⟩ := (abvA_mem h).1 h1
  obtain ⟨t, b1, b2⟩ := (abvA_mem h).1 h2
  have e := hl_upN h (t := s) (x := y) (fun j hj => (hl_ends h y).1.2 j (by omega))
  rw [a2] at e
  exact (abvA_mem h).2 ⟨s + t, by omega, by rw [← upN_add, a2, b2]⟩
theorem within_chain {l : List Nd} (h : noLoop l) {x i k : Int} (h1 : i ∈ abvA l x) (h2 : k ∈ abvA l x) : k ∈ abvA l i ∨ i ∈ abvA l k := by
  obtain ⟨s, a1, a2⟩ := (abvA_mem h).1 h1
  obtain ⟨t, b1, b2⟩ := (abvA_mem h).1 h2
  have e1 := hl_upN h (t := s) (x := x) (fun j hj => (hl_ends h x).1.2 j (by omega))
  have e2 := hl_upN h (t := t) (x := x) (fun j hj => (hl_ends h x).1.2 j (by omega))
  rw [a2] at e1
  rw [b2] at e2
  by_cases hst : s ≤ t
  · exact .inl ((abvA_mem h).2 ⟨t - s, by omega, by rw [← a2, upN_add, show s + (t - s) = t by omega, b2]⟩)
  · exact .inr ((abvA_mem h).2 ⟨s - t, by omega, by rw [← b2, upN_add, show t + (s - t) = s by omega, a2]⟩)
/-- All members' leaves stand together. -/
def Spans (l : List Nd) : Prop := ∀ i : Nat, i < l.length → ∃ A C, lvsN l = A ++ lvS l i ++ C
theorem Whole.spans {w : World} {p : Nat} {l : List Nd} (h : Whole w p l) : Spans l := by
  obtain ⟨⟨mb, pb, kv, rk, fr, tu, ov, lv, h1, _, _, _, h7, h8⟩, htr, _⟩ := h
  intro i hi
  obtain ⟨A, C, e, _⟩ := h7 i hi
  exact ⟨A, C, e⟩
theorem span_lt {l : List Nd} (h : Tr l) (hs : Spans l) {i : Nat} (hi : i < l.length) : spFrom l i < spTo l i ∧ spTo l i ≤ (lvsN l).length := by
  obtain ⟨A, C, e⟩ := hs i hi
  obtain ⟨a1, a2⟩ := span_at h hi e
  have h1 : 0 < (lvS l i).length := List.length_pos_iff.2 (lvS_ne h hi)
  have h2 : (lvsN l).length = A.length + (lvS l i).length + C.length := by rw [e]; simp; omega
  omega
theorem span_ins {l : List Nd} (h : Tr l) (hs : Spans l) {i : Nat} (hi : i < l.length) (n : Nat) (hn : n < (lvsN l).length) : inB l i ((lvsN l)[n]) = decide (spFrom l i ≤ n ∧ n < spTo l i) := by
  obtain ⟨A, C, e⟩ := hs i hi
  exact span_in h hi e n hn
theorem span_sub {l : List Nd} (h : Tr l) (hs : Spans l) {i k : Nat} (hi : i < l.length) (hk : k < l.length) (hw : (k : Int) ∈ abvA l (i : Int)) : spFrom l k ≤ spFrom l i ∧ spTo l i ≤ spTo l k := by
  obtain ⟨a1, a2⟩ := span_lt h hs hi
  have step : ∀ n, spFrom l i ≤ n → n < spTo l i → spFrom l k ≤ n ∧ n < spTo l k := fun n h1 h2 => by
    have hn : n < (lvsN l).length := by omega
    have e1 := span_ins h hs hi n hn
    rw [decide_eq_true ⟨h1, h2⟩] at e1
    have e2 := span_ins h hs hk n hn
    have : inB l k ((lvsN l)[n]) = true := decide_eq_true (within_trans h.nl (of_decide_eq_true e1) hw)
    rw [this] at e2
    exact of_decide_eq_true e2.symm
  have s1 := step (spFrom l i) (by omega) a1
  have s2 := step (spTo l i - 1) (by omega) (by omega)
  omega
theorem span_two {l : List Nd} (h : Tr l) (hs : Spans l) {i k : Nat} (hi : i < l.length) (hk : k < l.length) :
    (spFrom l k ≤ spFrom l i ∧ spTo l i ≤ spTo l k) ∨ (spFrom l i ≤ spFrom l k ∧ spTo l k ≤ spTo l i) ∨ spTo l i ≤ spFrom l k ∨ spTo l k ≤ spFrom l i := by
  obtain ⟨a1, a2⟩ := span_lt h hs hi
  obtain ⟨b1, b2⟩ := span_lt h hs hk
  by_cases g1 : spTo l i ≤ spFrom l k
  · exact .inr (.inr (.inl g1))
  by_cases g2 : spTo l k ≤ spFrom l i
  · exact .inr (.inr (.inr g2))
  obtain ⟨n, hn1, hn2, hn3, hn4⟩ : ∃ n, spFrom l i ≤ n ∧ n < spTo l i ∧ spFrom l k ≤ n ∧ n < spTo l k := by
    by_cases g : spFrom l i ≤ spFrom l k
    · exact ⟨spFrom l k, g, by omega, by omega, by omega⟩
    · exact ⟨spFrom l i, by omega, by omega, by omega, by omega⟩
  have hn : n < (lvsN l).length := by omega
  have e1 := span_ins h hs hi n hn
  have e2 := span_ins h hs hk n hn
  rw [decide_eq_true ⟨hn1, hn2⟩] at e1
  rw [decide_eq_true ⟨hn3, hn4⟩] at e2
  rcases within_chain h.nl (of_decide_eq_true e1) (of_decide_eq_true e2) with g | g
  · exact .inl (span_sub h hs hi hk g)
  · exact .inr (.inl (span_sub h hs hk hi g))

set_option maxHeartbeats 4000000 in
set_option maxRecDepth 100000 in
theorem law_TreeSpans (a : Option Addr) (n c : Nat) (l : List Nd) (w : World) (hs : Ns w a n l) : Calls Try.prog 5 #[.slice a n c] w fun e w' => e = .returned (.bool true) ∧ Kept w w' := by
  have hlen := hs.len
  have hbig := hs.big
  unfold maxLen at hbig
  have HN := hidMk (tree_New a n c l w hs)
  have HKN := hidMk (fun w => law5_known w)
  clear hs
  by_cases h60 : 60 < n
  · have h60' : (60 : Int) < n := by omega
    go_enter Try.func5, Try.ntmps5
    go_wp2_with (go_at_call 9; refine (HKN.out _).mono ?_; rintro e w9 ⟨rfl, k9⟩; have K9 := hidMk k9; clear k9)
    go_ret
    exact ⟨rfl, K9.out⟩
  have h60' : (n : Int) ≤ 60 := by omega
  go_enter Try.func5, Try.ntmps5
  go_wp2_with fail
  refine HN.out.mono ?_
  rintro e w1 (⟨p, hp, rfl, _, hw, hk⟩ | ⟨at_, er, rfl, her, hn, hk⟩)
  · have HW := hidMk hw
    have HK := hidMk hk
    have HT := hidMk hw.tr
    have HSP := hidMk hw.spans
    have HL := hidMk (w_Leaves hw)
    have hll := lvs_len hw.tr
    clear hw hk HN
    go_wp2_with (go_at_call 24; refine HL.out.mono ?_; rintro e w2 ⟨v2, rfl, o2, k2⟩; obtain ⟨a2, c2, rfl, s2⟩ := o2.sl (by rw [ints_len]; unfold maxLen; omega); rw [ints_len] at s2 ⊢; have K2 := hidMk k2; have S2 := hidMk s2; have HW2 := hidMk (HW.out.kept k2); clear o2 k2 s2)
    go_loopg [7] l.length (fun g x wr => ∃ i : Nat, i + g = l.length ∧ x = .int .i64 i ∧ Kept w2 wr)
    case atStart => exact ⟨0, by omega, rfl, Kept.refl _⟩
    case round =>
      obtain ⟨i, hig, rfl, hkr⟩ := hrel
      have HKR := hidMk hkr
      have HIG := hidMk hig
      have HW3 := hidMk (HW2.out.kept hkr)
      obtain ⟨gi, hgi⟩ : ∃ gi, gi = gk := ⟨_, rfl⟩
      subst hgi
      clear hkr
      by_cases hi : i < l.length
      · clear hig
        have hsp := w_Span HW3.out i
        rw [show fromI l i = spFrom l i from if_pos (isP_nat hi), show toI l i = spTo l i from if_pos (isP_nat hi)] at hsp
        have HS3 := hidMk hsp
        have HLn := hidMk (w_Len HW3.out)
        clear hsp
        obtain ⟨q1, q2⟩ := span_lt HT.out HSP.out hi
        obtain ⟨sf, hsf⟩ : ∃ sf, spFrom l i = sf := ⟨_, rfl⟩
        obtain ⟨st, hst⟩ : ∃ st, spTo l i = st := ⟨_, rfl⟩
        rw [hsf, hst] at HS3 q1
        rw [hst] at q2
        have HSF := hidMk hsf
        have HST := hidMk hst
        clear hsf hst
        have z1 : (sf : Int) < st := by omega
        have z2 : (st : Int) ≤ (lvsN l).length := by omega
        have z3 : (i : Int) < l.length := by omega
        have z4 : ¬ ((st : Int) ≤ sf) := by omega
        go_wp2_with (first | (go_at_call 12; refine HLn.out.mono ?_; rintro e w4 ⟨rfl, rfl⟩) | (go_at_call 19; refine HS3.out.mono ?_; rintro e w5 ⟨rfl, k5⟩; have K5 := hidMk (HKR.out.trans k5); clear k5))
        have z6 : decide (st ≤ sf) = false := decide_eq_false (by omega)
        have z7 : decide ((lvsN l).length < st) = false := decide_eq_false (by omega)
        simp only [z6, z7, Bool.or_self]
        clear z6 z7
        go_loopg [10] l.length (fun g x wr => ∃ k : Nat, k + g = l.length ∧ x = .int .i64 k ∧ Kept w2 wr)
        case atStart => exact ⟨0, by omega, rfl, K5.out⟩
        case round =>
          obtain ⟨k, hkg, rfl, hkr⟩ := hrel
          have HKG := hidMk hkg
          have HK4 := hidMk hkr
          have HW4 := hidMk (HW2.out.kept hkr)
          clear hkr
          have HLn4 := hidMk (w_Len HW4.out)
          by_cases hk : k < l.length
          · clear hkg
            have hsp := w_Span HW4.out k
            rw [show fromI l k = spFrom l k from if_pos (isP_nat hk), show toI l k = spTo l k from if_pos (isP_nat hk)] at hsp
            have hkey := span_two HT.out HSP.out hi hk
            obtain ⟨q3, q4⟩ := span_lt HT.out HSP.out hk
            rw [HSF.out, HST.out] at hkey
            generalize spFrom l k = kf at *
            generalize spTo l k = kt at *
            have HS4 := hidMk hsp
            clear hsp
            have z5 : (k : Int) < l.length := by omega
            have key : (kf ≤ sf ∧ st ≤ kt) ∨ (sf < kf ∧ kt ≤ st) ∨ (sf = kf ∧ kt < st) ∨ (sf < kf ∧ st < kt ∧ st ≤ kf) ∨ (kf < sf ∧ kt < st ∧ kf < st ∧ kt ≤ sf) := by omega
            clear hkey
            rcases key with ⟨y1, y2⟩ | ⟨y1, y2⟩ | ⟨y1, y2⟩ | ⟨y1, y2, y3⟩ | ⟨y1, y2, y3, y4⟩
            · have x1 : (kf : Int) ≤ sf := by omega
              have x2 : (st : Int) ≤ kt := by omega
              go_wp2_with (first | (go_at_call 12; refine HLn4.out.mono ?_; rintro e w6 ⟨rfl, rfl⟩) | (go_at_call 19; refine HS4.out.mono ?_; rintro e w7 ⟨rfl, k7⟩; have K7 := hidMk (HK4.out.trans k7); clear k7))
              go_roundg (gk - 1)
              case measure => have := HKG.out; omega
              case rel => exact ⟨k + 1, by have := HKG.out; omega, by go_num, K7.out⟩
            · have x1 : ¬ ((kf : Int) ≤ sf) := by omega
              have x2 : (kt : Int) ≤ st := by omega
              have x3 : (sf : Int) ≤ kf := by omega
              go_wp2_with (first | (go_at_call 12; refine HLn4.out.mono ?_; rintro e w6 ⟨rfl, rfl⟩) | (go_at_call 19; refine HS4.out.mono ?_; rintro e w7 ⟨rfl, k7⟩; have K7 := hidMk (HK4.out.trans k7); clear k7))
              go_roundg (gk - 1)
              case measure => have := HKG.out; omega
              case rel => exact ⟨k + 1, by have := HKG.out; omega, by go_num, K7.out⟩
            · subst y1
              have x1 : ¬ ((st : Int) ≤ kt) := by omega
              have x2 : (kt : Int) ≤ st := by omega
              have x3 : (sf : Int) ≤ sf := by omega
              go_wp2_with (first | (go_at_call 12; refine HLn4.out.mono ?_; rintro e w6 ⟨rfl, rfl⟩) | (go_at_call 19; refine HS4.out.mono ?_; rintro e w7 ⟨rfl, k7⟩; have K7 := hidMk (HK4.out.trans k7); clear k7))
              go_roundg (gk - 1)
              case measure => have := HKG.out; omega
              case rel => exact ⟨k + 1, by have := HKG.out; omega, by go_num, K7.out⟩
            · have x1 : ¬ ((kf : Int) ≤ sf) := by omega
              have x2 : ¬ ((kt : Int) ≤ st) := by omega
              have x3 : (sf : Int) ≤ kf := by omega
              have x4 : (st : Int) ≤ kf := by omega
              go_wp2_with (first | (go_at_call 12; refine HLn4.out.mono ?_; rintro e w6 ⟨rfl, rfl⟩) | (go_at_call 19; refine HS4.out.mono ?_; rintro e w7 ⟨rfl, k7⟩; have K7 := hidMk (HK4.out.trans k7); clear k7))
              go_roundg (gk - 1)
              case measure => have := HKG.out; omega
              case rel => exact ⟨k + 1, by have := HKG.out; omega, by go_num, K7.out⟩
            · have x1 : (kf : Int) ≤ sf := by omega
              have x2 : ¬ ((st : Int) ≤ kt) := by omega
              have x3 : ¬ ((sf : Int) ≤ kf) := by omega
              have x4 : ¬ ((st : Int) ≤ kf) := by omega
              have x5 : (kt : Int) ≤ sf := by omega
              go_wp2_with (first | (go_at_call 12; refine HLn4.out.mono ?_; rintro e w6 ⟨rfl, rfl⟩) | (go_at_call 19; refine HS4.out.mono ?_; rintro e w7 ⟨rfl, k7⟩; have K7 := hidMk (HK4.out.trans k7); clear k7))
              go_roundg (gk - 1)
              case measure => have := HKG.out; omega
              case rel => exact ⟨k + 1, by have := HKG.out; omega, by go_num, K7.out⟩
          · have e : k = l.length := by omega
            subst e
            have hkk : ¬ ((l.length : Int) < (l.length : Int)) := by omega
            go_wp2_with (go_at_call 12; refine HLn4.out.mono ?_; rintro e w6 ⟨rfl, rfl⟩)
            go_loopg [13] (lvsN l).length (fun g x wr => ∃ m : Nat, m + g = (lvsN l).length ∧ x = .int .i64 m ∧ Kept w2 wr)
            case atStart => exact ⟨0, by omega, rfl, HK4.out⟩
            case round =>
              obtain ⟨m, hmg, rfl, hkr⟩ := hrel
              have HMG := hidMk hmg
              have HK5 := hidMk hkr
              have HW5 := hidMk (HW2.out.kept hkr)
              by_cases hm : m < (lvsN l).length
              · clear hmg
                obtain ⟨b, o, rfl, _, hcs⟩ := (S2.out.kept hkr).cells (by omega)
                have hcell := hcs m hm
                rw [ints_get (lvsN l) m hm] at hcell
                have hin := span_ins HT.out HSP.out hi m hm
                have hwi := w_Within HW5.out ((lvsN l)[m] : Nat) i
                rw [show decide ((i : Int) ∈ abvA l ((lvsN l)[m] : Nat)) = inB l i ((lvsN l)[m]) from rfl, hin, HSF.out, HST.out] at hwi
                generalize (lvsN l)[m] = y at *
                clear hcs hkr hin
                by_cases g1 : sf ≤ m
                · by_cases g2 : m < st
                  · rw [decide_eq_true ⟨g1, g2⟩] at hwi
                    have HWI := hidMk hwi
                    clear hwi
                    have x1 : (sf : Int) ≤ m := by omega
                    have x2 : (m : Int) < st := by omega
                    go_wp2_with (go_at_call 30; refine HWI.out.mono ?_; rintro e w8 ⟨rfl, rfl⟩)
                    go_roundg (gk - 1)
                    case measure => have := HMG.out; omega
                    case rel => exact ⟨m + 1, by have := HMG.out; omega, by go_num, HK5.out⟩
                  · rw [decide_eq_false (fun h => g2 h.2)] at hwi
                    have HWI := hidMk hwi
                    clear hwi
                    have x1 : (sf : Int) ≤ m := by omega
                    have x2 : ¬ ((m : Int) < st) := by omega
                    go_wp2_with (go_at_call 30; refine HWI.out.mono ?_; rintro e w8 ⟨rfl, rfl⟩)
                    go_roundg (gk - 1)
                    case measure => have := HMG.out; omega
                    case rel => exact ⟨m + 1, by have := HMG.out; omega, by go_num, HK5.out⟩
                · rw [decide_eq_false (fun h => g1 h.1)] at hwi
                  have HWI := hidMk hwi
                  clear hwi
                  have x1 : ¬ ((sf : Int) ≤ m) := by omega
                  go_wp2_with (go_at_call 30; refine HWI.out.mono ?_; rintro e w8 ⟨rfl, rfl⟩)
                  go_roundg (gk - 1)
                  case measure => have := HMG.out; omega
                  case rel => exact ⟨m + 1, by have := HMG.out; omega, by go_num, HK5.out⟩
              · have e : m = (lvsN l).length := by omega
                have hmm : ¬ ((m : Int) < ((lvsN l).length : Int)) := by omega
                clear hkr
                go_wp2_with fail
                go_roundg (gi - 1)
                case measure => have := HIG.out; omega
                case rel => exact ⟨i + 1, by have := HIG.out; omega, by go_num, HK5.out⟩
      · have e : i = l.length := by omega
        have hii : ¬ ((i : Int) < (l.length : Int)) := by omega
        have HLn := hidMk (w_Len HW3.out)
        go_wp2_with (first | (go_at_call 12; refine HLn.out.mono ?_; rintro e w4 ⟨rfl, rfl⟩) | (go_at_call 9; refine (HKN.out _).mono ?_; rintro e w9 ⟨rfl, k9⟩; have K9 := hidMk k9; clear k9))
        go_ret
        exact ⟨rfl, ((HK.out.trans K2.out).trans HKR.out).trans K9.out⟩
  · have HK := hidMk hk
    have her' : (er != 0) = true := by simpa using her
    clear hk hn HN
    go_wp2_with (go_at_call 9; refine (HKN.out _).mono ?_; rintro e w9 ⟨rfl, k9⟩; have K9 := hidMk k9; clear k9)
    go_ret
    exact ⟨rfl, HK.out.trans K9.out⟩
end Go.Proofs.Ytijabcagmjkfaaa
