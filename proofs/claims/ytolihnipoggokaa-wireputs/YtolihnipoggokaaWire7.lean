/- Readers: within, Num, Count, Text. -/
import Derived.Test.YtolihnipoggokaaWire6
namespace Go.Proofs.Ytolihnipoggokaa
open Go.RowKit
set_option linter.unusedSimpArgs false
set_option linter.unusedVariables false

theorem within_nil (lo hi : Int) (w : World) : Calls Try.prog 29 #[.pointer none, .int .i64 lo, .int .i64 hi] w fun e w' => e = .returned (.int .i64 0) ∧ w' = w := by
  go_enter Try.func29, Try.ntmps29
  go_wp2_with (go_at_call 30; refine (ahead_nil _ _ _).mono ?_; rintro e w1 ⟨rfl, rfl⟩)
  go_ret
  exact ⟨rfl, rfl⟩
theorem num_nil (w : World) : Calls Try.prog 17 #[.pointer none] w fun e w' => e = .returned (.int .i64 0) ∧ w' = w := by
  go_enter Try.func17, Try.ntmps17
  go_wp2_with (go_at_call 29; refine (within_nil _ _ _).mono ?_; rintro e w1 ⟨rfl, rfl⟩)
  go_ret
  exact ⟨rfl, rfl⟩
theorem text_nil (w : World) : Calls Try.prog 19 #[.pointer none] w fun e w' => e = .returned (.string ⟨#[]⟩) ∧ w' = w := by
  go_enter Try.func19, Try.ntmps19
  go_wp2_with (go_at_call 30; refine (ahead_nil _ _ _).mono ?_; rintro e w1 ⟨rfl, rfl⟩)
  go_ret
  exact ⟨rfl, rfl⟩

theorem outS_zero {l : List Int} {y lo hi : Int} : outS l y lo hi = 0 ↔ outE l y lo hi ≠ 0 := by
  unfold outS
  by_cases h : outE l y lo hi = 0
  · rw [if_pos h]
    have he : numE l = 0 := by
      unfold outE at h
      by_cases hy : y ≠ 0
      · rw [if_pos hy] at h; omega
      · rw [if_neg hy] at h
        by_cases hq : numE l ≠ 0
        · rw [if_pos hq] at h; omega
        · omega
    rcases numE_cases l with ⟨_, hsz⟩ | ⟨he2, _⟩
    · simp [h]; omega
    · omega
  · rw [if_neg h]; simp [h]

set_option maxHeartbeats 400000 in
theorem within_at {w : World} {B b : Nat} {l : List Int} {y : Int} (h : Rd w B b l y) (lo hi : Int) :
    Calls Try.prog 29 #[.pointer (some ⟨b, 0, none⟩), .int .i64 lo, .int .i64 hi] w fun e w' => e = .returned (.int .i64 (outV l y lo hi)) ∧ Rd w' B b (l.drop (outS l y lo hi)) (outE l y lo hi) ∧ But b w w' := by
  have HR := hidMk h
  have hle := outS_le l y lo hi
  have HC := hidMk (ahead_at h lo hi)
  clear h
  by_cases hs : outS l y lo hi = 0
  · have hv : outV l y lo hi = 0 := by unfold outV; rw [if_neg (outS_zero.1 hs)]
    have HV := hidMk hv
    rw [hs, hv] at HC
    rw [hs, hv]
    generalize outE l y lo hi = q at *
    clear hs hv hle HV
    go_enter Try.func29, Try.ntmps29
    go_wp2_with (go_at_call 30; refine HC.out.mono ?_; rintro e w1 ⟨rfl, r1, b1⟩)
    go_ret
    exact ⟨rfl, r1, b1⟩
  · generalize outE l y lo hi = q at *
    generalize outV l y lo hi = v at *
    generalize outS l y lo hi = m at *
    have hm : ((m : Int) == 0) = false := by simp; omega
    go_enter Try.func29, Try.ntmps29
    go_wp2_with (first | (go_at_call 30; refine HC.out.mono ?_; rintro e w1 ⟨rfl, r1, b1⟩) | (go_at_call 31; refine (cut_at r1 m hle).mono ?_; rintro e w2 ⟨a2, rfl, s2, r2, b2⟩))
    go_ret
    exact ⟨rfl, r2, b1.trans b2⟩

def numOE (l : List Int) (y : Int) : Int := if y ≠ 0 then y else numE l
def numOV (l : List Int) (y : Int) : Int := if numOE l y = 0 then numV l else 0
def numOS (l : List Int) (y : Int) : Nat := if numOE l y = 0 then numS l else 0
theorem outE_num {l : List Int} (hb : ∀ x ∈ l, isB x) (y : Int) : outE l y (-9223372036854775808) 9223372036854775807 = numOE l y := by
  unfold outE numOE
  have hv := numV_is hb
  unfold isI at hv
  by_cases hy : y ≠ 0
  · rw [if_pos hy, if_pos hy]
  · rw [if_neg hy, if_neg hy]
    by_cases he : numE l ≠ 0
    · rw [if_pos he]
    · rw [if_neg he, if_neg (by omega)]; omega
theorem num_at {w : World} {B b : Nat} {l : List Int} {y : Int} (h : Rd w B b l y) :
    Calls Try.prog 17 #[.pointer (some ⟨b, 0, none⟩)] w fun e w' => e = .returned (.int .i64 (numOV l y)) ∧ Rd w' B b (l.drop (numOS l y)) (numOE l y) ∧ But b w w' := by
  have hc := within_at h (-9223372036854775808) 9223372036854775807
  have he := outE_num h.ok y
  have e1 : outV l y (-9223372036854775808) 9223372036854775807 = numOV l y := by unfold outV numOV; rw [he]
  have e2 : outS l y (-9223372036854775808) 9223372036854775807 = numOS l y := by unfold outS numOS; rw [he]
  rw [e1, e2, he] at hc
  have HC := hidMk hc
  clear hc h he e1 e2
  go_enter Try.func17, Try.ntmps17
  go_wp2_with (go_at_call 29; refine HC.out.mono ?_; rintro e w1 ⟨rfl, r1, b1⟩)
  go_ret
  exact ⟨rfl, r1, b1⟩

def textE (l : List Int) (y : Int) : Int := if outE l y 0 8000 ≠ 0 then outE l y 0 8000 else if (l.length : Int) - numS l < numV l then 7 else 0
def textV (l : List Int) (y : Int) : List Int := if textE l y = 0 then (l.drop (numS l)).take (numV l).toNat else []
def textR (l : List Int) (y : Int) : List Int := if textE l y = 0 then (l.drop (numS l)).drop (numV l).toNat else l

set_option maxHeartbeats 1000000 in
theorem text_at {w : World} {B b : Nat} {l : List Int} {y : Int} (h : Rd w B b l y) :
    Calls Try.prog 19 #[.pointer (some ⟨b, 0, none⟩)] w fun e w' => e = .returned (.string (str (textV l y))) ∧ Rd w' B b (textR l y) (textE l y) ∧ But b w w' := by
  have HO := hidMk h.ok
  have hbig : l.length ≤ maxLen := by obtain ⟨⟨a, n, c, _, hs, _⟩, _⟩ := h; rw [hs.len]; exact hs.big
  unfold maxLen at hbig
  have HC := hidMk (ahead_at h 0 8000)
  by_cases hs : outE l y 0 8000 = 0
  · have hz : outS l y 0 8000 = numS l := if_pos hs
    have hv : outV l y 0 8000 = numV l := if_pos hs
    have hzp : numS l ≠ 0 := fun e => (outS_zero.1 (hz.trans e)) hs
    have hle := numS_le l
    rw [hz, hv, hs] at HC
    have hrange : 0 ≤ numV l ∧ numV l ≤ 8000 := by
      unfold outE at hs
      by_cases hy : y ≠ 0
      · rw [if_pos hy] at hs; omega
      · rw [if_neg hy] at hs
        by_cases hq : numE l ≠ 0
        · rw [if_pos hq] at hs; omega
        · rw [if_neg hq] at hs
          by_cases hr : numV l < 0 ∨ 8000 < numV l
          · rw [if_pos hr] at hs; omega
          · omega
    obtain ⟨k, hk⟩ : ∃ k : Nat, numV l = k := ⟨(numV l).toNat, by omega⟩
    by_cases hsh : (l.length : Int) - numS l < numV l
    · have he : textE l y = 7 := by unfold textE; rw [if_neg (by simp [hs]), if_pos hsh]
      have HE := hidMk he
      have HV := hidMk (show textV l y = [] by unfold textV; rw [if_neg (by omega)])
      have HRR := hidMk (show textR l y = l by unfold textR; rw [if_neg (by omega)])
      rw [hk] at HC hsh
      clear h hs hz hv hrange he hk
      generalize numS l = m at *
      go_enter Try.func19, Try.ntmps19
      have hm : ((m : Int) == 0) = false := by simp; omega
      go_wp2_with (first | (go_at_call 30; refine HC.out.mono ?_; rintro e w1 ⟨rfl, r1, b1⟩; have R1 := hidMk r1; obtain ⟨⟨a1, n1, c1, hx1, hs1, hn1, hg1⟩, hb1⟩ := r1; obtain ⟨q1, q2, q3, q4, q5⟩ := hx1; have hsh1 : (n1 : Int) - m < k := (by rw [← hs1.len]; exact hsh); have hn2 : n1 ≤ 9223372036854775807 := hs1.big; have hm1 : m ≤ n1 := (by rw [← hs1.len]; exact hle); clear hs1 hn1 hg1 hb1) | (go_at_call 23; refine (fail_at R1.out 7).mono ?_; rintro e w2 ⟨rfl, r2, b2⟩))
      go_ret
      rw [HE.out, HV.out, HRR.out]
      exact ⟨rfl, r2, b1.trans b2⟩
    · have he : textE l y = 0 := by unfold textE; rw [if_neg (by simp [hs]), if_neg hsh]
      have HE := hidMk he
      have HV := hidMk (show textV l y = (l.drop (numS l)).take k by unfold textV; rw [if_pos he, hk]; rfl)
      have HRR := hidMk (show textR l y = (l.drop (numS l)).drop k by unfold textR; rw [if_pos he, hk]; rfl)
      rw [hk] at HC hsh hrange
      clear h hs hz hv he hk
      generalize numS l = m at *
      go_enter Try.func19, Try.ntmps19
      have hm : ((m : Int) == 0) = false := by simp; omega
      go_wp2_with (first | (go_at_call 30; refine HC.out.mono ?_; rintro e w1 ⟨rfl, r1, b1⟩; have R1 := hidMk r1; obtain ⟨⟨a1, n1, c1, hx1, hs1, hn1, hg1⟩, hb1⟩ := r1; obtain ⟨q1, q2, q3, q4, q5⟩ := hx1; have hsh1 : (k : Int) ≤ (n1 : Int) - m := (by rw [← hs1.len]; omega); have hn2 : n1 ≤ 9223372036854775807 := hs1.big; have hm1 : m ≤ n1 := (by rw [← hs1.len]; exact hle); clear hs1 hn1 hg1 hb1))
      refine (cut_at R1.out m hle).mono ?_
      rintro e w2 ⟨a2, rfl, s2, r2, b2⟩
      have R2 := hidMk r2
      clear s2 r2
      go_wp2_with fail
      refine (cut_at R2.out k (by rw [List.length_drop]; omega)).mono ?_
      rintro e w3 ⟨a3, rfl, s3, r3, b3⟩
      have R3 := hidMk r3
      have hcv := run_string_sl (c := k) s3 (fun x hx => HO.out x (List.mem_of_mem_drop (List.mem_of_mem_take hx)))
      have HV2 := HV
      generalize hstr : str (List.take k (List.drop m l)) = st at *
      have HST := hidMk hstr
      clear r3 s3 hstr
      go_wp2
      go_ret
      rw [HE.out, HV.out, HRR.out, HST.out]
      exact ⟨rfl, R3.out, (b1.trans b2).trans b3⟩
  · have he : textE l y = outE l y 0 8000 := by unfold textE; rw [if_pos hs]
    have hne : textE l y ≠ 0 := by omega
    have HE := hidMk he
    have HV := hidMk (show textV l y = [] by unfold textV; rw [if_neg hne])
    have HRR := hidMk (show textR l y = l by unfold textR; rw [if_neg hne])
    have hz : outS l y 0 8000 = 0 := outS_zero.2 hs
    have hv : outV l y 0 8000 = 0 := if_neg hs
    rw [hz, hv] at HC
    generalize outE l y 0 8000 = q at *
    clear h hs hz hv hne he
    go_enter Try.func19, Try.ntmps19
    go_wp2_with (go_at_call 30; refine HC.out.mono ?_; rintro e w1 ⟨rfl, r1, b1⟩)
    go_ret
    rw [HE.out, HV.out, HRR.out]
    exact ⟨rfl, r1, b1⟩
end Go.Proofs.Ytolihnipoggokaa
