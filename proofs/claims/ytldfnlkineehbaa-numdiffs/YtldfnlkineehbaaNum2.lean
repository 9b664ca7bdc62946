/- The contracts of num.Off, of Fits and More1 and of the definitions' Off, Sub, Neg. -/
import Derived.Test.YtldfnlkineehbaaNum1
namespace Go.Proofs.Ytldfnlkineehbaa
open Go.RowKit
set_option linter.unusedSimpArgs false
set_option linter.unusedVariables false

def off (a f : Int) (below : Bool) : Int := if below then a - f else a + f

theorem off_out_up (a f : Int) (ha : isI a) (hf : isU f) (h : far a 9223372036854775807 < f) : ¬ isI (a + f) := by unfold isI isU far at *; split at h <;> omega
theorem off_in_up (a f : Int) (ha : isI a) (hf : isU f) (h : f ≤ far a 9223372036854775807) : isI (a + f) := by unfold isI isU far at *; split at h <;> omega
theorem off_out_down (a f : Int) (ha : isI a) (hf : isU f) (h : far a (-9223372036854775808) < f) : ¬ isI (a - f) := by unfold isI isU far at *; split at h <;> omega
theorem off_in_down (a f : Int) (ha : isI a) (hf : isU f) (h : f ≤ far a (-9223372036854775808)) : isI (a - f) := by unfold isI isU far at *; split at h <;> omega
theorem up_val (a f : Int) (h : isI (a + f)) : wrap64 (IntKind.u64.wrap (IntKind.u64.wrap a + f)) = fitV (a + f) := by
  rw [fitV_in h]; simp only [IntKind.wrap_u64]; unfold isI at h; unfold wrap64; omega
theorem down_val (a f : Int) (h : isI (a - f)) : wrap64 (IntKind.u64.wrap (IntKind.u64.wrap a - f)) = fitV (a - f) := by
  rw [fitV_in h]; simp only [IntKind.wrap_u64]; unfold isI at h; unfold wrap64; omega

theorem num_Off (a f : Int) (below : Bool) (w : World) (ha : isI a) (hf : isU f) :
    Calls Try.prog 18 #[.int .i64 a, .int .u64 f, .bool below] w fun e w' => e = .returned (.tuple #[.int .i64 (fitV (off a f below)), .int .i64 (fitE (off a f below))]) ∧ w' = w := by
  have mx : isI 9223372036854775807 := by unfold isI; omega
  have mn : isI (-9223372036854775808) := by unfold isI; omega
  cases below
  · by_cases h : far a 9223372036854775807 < f
    · go_enter Try.func18, Try.ntmps18
      go_wp2_with (go_at_call 16; refine (num_Diff _ _ _ ha mx).mono ?_; rintro e w' ⟨rfl, rfl⟩)
      have o := off_out_up a f ha hf h
      go_ret2
      exact ⟨ret_two (fitV_out o).symm (fitE_out o).symm, rfl⟩
    · go_enter Try.func18, Try.ntmps18
      go_wp2_with (go_at_call 16; refine (num_Diff _ _ _ ha mx).mono ?_; rintro e w' ⟨rfl, rfl⟩)
      have o := off_in_up a f ha hf h
      go_ret2
      exact ⟨ret_two (up_val a f o) (fitE_in o).symm, rfl⟩
  · by_cases h : far a (-9223372036854775808) < f
    · go_enter Try.func18, Try.ntmps18
      go_wp2_with (go_at_call 16; refine (num_Diff _ _ _ ha mn).mono ?_; rintro e w' ⟨rfl, rfl⟩)
      have o := off_out_down a f ha hf h
      go_ret2
      exact ⟨ret_two (fitV_out o).symm (fitE_out o).symm, rfl⟩
    · go_enter Try.func18, Try.ntmps18
      go_wp2_with (go_at_call 16; refine (num_Diff _ _ _ ha mn).mono ?_; rintro e w' ⟨rfl, rfl⟩)
      have o := off_in_down a f ha hf h
      go_ret2
      exact ⟨ret_two (down_val a f o) (fitE_in o).symm, rfl⟩

theorem fits_no (hi lo : Int) (hh : isI hi) (hl : isU lo) (h : (hi != wrap64 lo / 9223372036854775808) = true) : 0 = fitV (wide hi lo) ∧ 8 = fitE (wide hi lo) := by
  have o : ¬ isI (wide hi lo) := by simp only [bne_iff_ne, isI, isU, wide, wrap64] at *; omega
  exact ⟨(fitV_out o).symm, (fitE_out o).symm⟩
theorem fits_yes (hi lo : Int) (hh : isI hi) (hl : isU lo) (h : (hi != wrap64 lo / 9223372036854775808) = false) : wrap64 lo = fitV (wide hi lo) ∧ 0 = fitE (wide hi lo) := by
  have e : hi = wrap64 lo / 9223372036854775808 := by simpa using h
  have o : isI (wide hi lo) := by simp only [isI, isU, wide, wrap64] at *; omega
  rw [fitV_in o, fitE_in o]; refine ⟨?_, rfl⟩
  simp only [isI, isU, wide, wrap64] at *; omega

theorem num_Fits (hi lo : Int) (w : World) (hh : isI hi) (hl : isU lo) :
    Calls Try.prog 22 #[.agg #[.int .i64 hi, .int .u64 lo]] w fun e w' => e = .returned (.tuple #[.int .i64 (fitV (wide hi lo)), .int .i64 (fitE (wide hi lo))]) ∧ Kept w w' := by
  go_enter Try.func22, Try.ntmps22
  go_wp2
  · have h := fits_no hi lo hh hl ‹_›
    go_ret2
    exact ⟨ret_two h.1 h.2, (Kept.refl _).alloc _⟩
  · have h := fits_yes hi lo hh hl ‹_›
    go_ret2
    exact ⟨ret_two h.1 h.2, (Kept.refl _).alloc _⟩

theorem ref_Fits (hi lo : Int) (w : World) (hh : isI hi) (hl : isU lo) :
    Calls Try.prog 23 #[.agg #[.int .i64 hi, .int .u64 lo]] w fun e w' => e = .returned (.tuple #[.int .i64 (fitV (wide hi lo)), .int .i64 (fitE (wide hi lo))]) ∧ Kept w w' := by
  go_enter Try.func23, Try.ntmps23
  go_wp2
  all_goals
    go_ret2
    refine ⟨ret_two ?_ ?_, (Kept.refl _).alloc _⟩
    all_goals (simp only [isI, isU, fitV, fitE, wide, wrap64] at *; repeat' split
               all_goals omega)

theorem more1_val (hi lo n h1 : Int) (hh : isI hi) (hl : isU lo) (hn : isI n)
    (h : h1 = wrap64 (hi + (if IntKind.u64.wrap (lo + IntKind.u64.wrap n) < lo then 1 else 0) - (if n < 0 then 1 else 0))) :
    h1 = wHi (wide hi lo + n) ∧ IntKind.u64.wrap (lo + IntKind.u64.wrap n) = wLo (wide hi lo + n) := by
  simp only [IntKind.wrap_u64, isI, isU, wide, wHi, wLo, wrap64] at *
  subst h
  split <;> split <;> omega

theorem ref_More1 (hi lo n : Int) (w : World) (hh : isI hi) (hl : isU lo) (hn : isI n) :
    Calls Try.prog 36 #[.agg #[.int .i64 hi, .int .u64 lo], .int .i64 n] w fun e w' => e = .returned (.agg #[.int .i64 (wHi (wide hi lo + n)), .int .u64 (wLo (wide hi lo + n))]) ∧ Kept w w' := by
  go_enter Try.func36, Try.ntmps36
  go_wp2
  all_goals
    refine bodyPost_ret (v := .agg #[.int .i64 (wHi (wide hi lo + n)), .int .u64 (wLo (wide hi lo + n))]) ?_ rfl ⟨rfl, ?_⟩
    · simp [results, Try.results36, go_sem]
      refine more1_val hi lo n _ hh hl hn ?_
      simp only [isI, wrap64] at *
      repeat' split
      all_goals omega
    · exact ((Kept.refl _).alloc _).alloc _

theorem ref_More1_zero (n : Int) (w : World) (hn : isI n) :
    Calls Try.prog 36 #[.agg #[.int .i64 0, .int .u64 0], .int .i64 n] w fun e w' => e = .returned (.agg #[.int .i64 (wHi n), .int .u64 (wLo n)]) ∧ Kept w w' := by
  have h := ref_More1 0 0 n w (by unfold isI; omega) (by unfold isU; omega) hn
  have e : wide 0 0 + n = n := by unfold wide; omega
  rw [e] at h
  exact h

theorem ref_Fits_at (hi lo v : Int) (w : World) (hh : isI hi) (hl : isU lo) (hv : wide hi lo = v) :
    Calls Try.prog 23 #[.agg #[.int .i64 hi, .int .u64 lo]] w fun e w' => e = .returned (.tuple #[.int .i64 (fitV v), .int .i64 (fitE v)]) ∧ Kept w w' := by
  subst hv
  exact ref_Fits hi lo w hh hl
theorem off_up1 (a f : Int) (ha : isI a) (hf : isU f) (h : IntKind.u64.wrap (wLo a + f) < wLo a) : wide (wrap64 (wHi a + 1)) (IntKind.u64.wrap (wLo a + f)) = a + f := by
  simp only [IntKind.wrap_u64, isI, isU, wide, wHi, wLo, wrap64] at *; omega
theorem off_up0 (a f : Int) (ha : isI a) (hf : isU f) (h : wLo a ≤ IntKind.u64.wrap (wLo a + f)) : wide (wHi a) (IntKind.u64.wrap (wLo a + f)) = a + f := by
  simp only [IntKind.wrap_u64, isI, isU, wide, wHi, wLo, wrap64] at *; omega
theorem off_down1 (a f : Int) (ha : isI a) (hf : isU f) (h : wLo a < IntKind.u64.wrap (wLo a - f)) : wide (wrap64 (wHi a - 1)) (IntKind.u64.wrap (wLo a - f)) = a - f := by
  simp only [IntKind.wrap_u64, isI, isU, wide, wHi, wLo, wrap64] at *; omega
theorem off_down0 (a f : Int) (ha : isI a) (hf : isU f) (h : IntKind.u64.wrap (wLo a - f) ≤ wLo a) : wide (wHi a) (IntKind.u64.wrap (wLo a - f)) = a - f := by
  simp only [IntKind.wrap_u64, isI, isU, wide, wHi, wLo, wrap64] at *; omega

theorem ref_Off (a f : Int) (below : Bool) (w : World) (ha : isI a) (hf : isU f) :
    Calls Try.prog 19 #[.int .i64 a, .int .u64 f, .bool below] w fun e w' => e = .returned (.tuple #[.int .i64 (fitV (off a f below)), .int .i64 (fitE (off a f below))]) ∧ Kept w w' := by
  cases below
  · go_enter Try.func19, Try.ntmps19
    go_wp2_with fail
    refine (ref_More1_zero _ _ ha).mono ?_
    rintro e w1 ⟨rfl, hk⟩
    go_wp2_with fail
    · refine (ref_Fits_at _ _ (a + f) _ (wrap64_is _) (u64_is _) (off_up1 a f ha hf ‹_›)).mono ?_
      rintro e w2 ⟨rfl, hk2⟩
      go_wp2_with fail
      go_ret2
      exact ⟨rfl, (hk.alloc _).trans hk2⟩
    · refine (ref_Fits_at _ _ (a + f) _ (wHi_is _) (u64_is _) (off_up0 a f ha hf ‹_›)).mono ?_
      rintro e w2 ⟨rfl, hk2⟩
      go_wp2_with fail
      go_ret2
      exact ⟨rfl, (hk.alloc _).trans hk2⟩
  · go_enter Try.func19, Try.ntmps19
    go_wp2_with fail
    refine (ref_More1_zero _ _ ha).mono ?_
    rintro e w1 ⟨rfl, hk⟩
    go_wp2_with fail
    · refine (ref_Fits_at _ _ (a - f) _ (wrap64_is _) (u64_is _) (off_down1 a f ha hf ‹_›)).mono ?_
      rintro e w2 ⟨rfl, hk2⟩
      go_wp2_with fail
      go_ret2
      exact ⟨rfl, (hk.alloc _).trans hk2⟩
    · refine (ref_Fits_at _ _ (a - f) _ (wHi_is _) (u64_is _) (off_down0 a f ha hf ‹_›)).mono ?_
      rintro e w2 ⟨rfl, hk2⟩
      go_wp2_with fail
      go_ret2
      exact ⟨rfl, (hk.alloc _).trans hk2⟩

theorem off_far (a b : Int) (ha : isI a) (hb : isI b) : off 0 (far a b) (decide (a < b)) = a - b := by
  unfold off far
  by_cases h : a < b <;> simp [h] <;> omega
theorem ref_Sub (a b : Int) (w : World) (ha : isI a) (hb : isI b) :
    Calls Try.prog 12 #[.int .i64 a, .int .i64 b] w fun e w' => e = .returned (.tuple #[.int .i64 (fitV (a - b)), .int .i64 (fitE (a - b))]) ∧ Kept w w' := by
  go_enter Try.func12, Try.ntmps12
  go_wp2_with fail
  refine (ref_Diff _ _ _ ha hb).mono ?_
  rintro e w1 ⟨rfl, rfl⟩
  go_wp2_with fail
  refine (ref_Off _ _ _ _ (by unfold isI; omega) (far_is a b ha hb)).mono ?_
  rw [off_far a b ha hb]
  rintro e w2 ⟨rfl, hk2⟩
  go_wp2_with fail
  go_ret2
  exact ⟨rfl, hk2⟩
theorem ref_Neg (a : Int) (w : World) (ha : isI a) :
    Calls Try.prog 14 #[.int .i64 a] w fun e w' => e = .returned (.tuple #[.int .i64 (fitV (-a)), .int .i64 (fitE (-a))]) ∧ Kept w w' := by
  go_enter Try.func14, Try.ntmps14
  go_wp2_with fail
  refine (ref_Sub _ _ _ (by unfold isI; omega) ha).mono ?_
  rw [Int.zero_sub]
  rintro e w2 ⟨rfl, hk2⟩
  go_wp2_with fail
  go_ret2
  exact ⟨rfl, hk2⟩
end Go.Proofs.Ytldfnlkineehbaa
