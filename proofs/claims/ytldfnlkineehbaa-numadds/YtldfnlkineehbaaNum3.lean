/- The contracts of num.More and num.Sum. -/
import Derived.Test.YtldfnlkineehbaaNum2
import Derived.Test.YtldfnlkineehbaaBits
namespace Go.Proofs.Ytldfnlkineehbaa
open Go.RowKit
set_option linter.unusedSimpArgs false
set_option linter.unusedVariables false

theorem more_lo (v x : Int) (hx : isI x) : wLo (wLo v + IntKind.u64.wrap x) = wLo (v + x) := by
  simp only [IntKind.wrap_u64, isI, wLo] at *; omega
theorem more_hi (v x : Int) (hx : isI x) : wrap64 (wrap64 (wHi v + x / 9223372036854775808) + wrap64 (cry (wLo v) (IntKind.u64.wrap x))) = wHi (v + x) := by
  have e1 : (v + x) / 18446744073709551616 = v / 18446744073709551616 + x / 9223372036854775808 + cry (wLo v) (IntKind.u64.wrap x) := by
    simp only [IntKind.wrap_u64, isI, wLo, cry] at *; omega
  have w1 : ∀ a b, wrap64 (wrap64 a + b) = wrap64 (a + b) := fun a b => by unfold wrap64; omega
  have w2 : ∀ a b, wrap64 (a + wrap64 b) = wrap64 (a + b) := fun a b => by unfold wrap64; omega
  unfold wHi
  rw [e1, w2, w1, Int.add_assoc, w1, ← Int.add_assoc]

theorem num_More (hi lo : Int) (a : Option Addr) (len cap : Nat) (l : List Int) (w : World) (hh : isI hi) (hl : isU lo) (hs : Sl .i64 w a len l) (hn : ∀ x ∈ l, isI x) :
    Calls Try.prog 20 #[.agg #[.int .i64 hi, .int .u64 lo], .slice a len cap] w fun e w' => e = .returned (.agg #[.int .i64 (wHi (wide hi lo + sumL l)), .int .u64 (wLo (wide hi lo + sumL l))]) ∧ Kept w w' := by
  have hlen := hs.len
  have hbig := hs.big
  unfold maxLen at hbig
  go_enter Try.func20, Try.ntmps20
  go_wp2
  go_loopw [11] (fun i wr => ∃ k : Nat, k ≤ len ∧ i = .int .i64 k ∧ wr = (w.alloc (.cells #[.int .i64 (wHi (wide hi lo + sumL (l.take k))), .int .u64 (wLo (wide hi lo + sumL (l.take k)))] 35)).alloc (.cells #[.int .i64 0, .int .u64 0] 35)) (fun i _ => len - (intOf i).toNat)
  case atStart => exact ⟨0, Nat.zero_le _, rfl, by simp [sumL, wHi_wide _ _ hh hl, wLo_wide _ _ hl]⟩
  case round =>
    obtain ⟨k, hk, rfl, rfl⟩ := hrel
    by_cases hlt : k < len
    · obtain ⟨b, o, rfl, hb, hc⟩ := hs.cells (by omega)
      have hcell : w.cell? ⟨b, o + k, none⟩ = some (.int .i64 (l.getD k 0)) := hc k hlt
      generalize hv : wide hi lo + sumL (l.take k) = v
      generalize hx : l.getD k 0 = x at *
      have HV : Hid (wide hi lo + sumL (l.take k) = v) := hv
      have HX : Hid (l.getD k 0 = x) := hx
      clear hv hx
      clear hc hs
      have h64 := run_Add64 (wLo v) (IntKind.u64.wrap x) (wLo_is v) (u64_is x)
      go_wp2
      refine ⟨⟨k + 1, by omega, by go_num, ?_⟩, by simp [intOf]; omega⟩
      have hx : isI x := by rw [← HX.out, List.getD_eq_getElem?_getD, List.getElem?_eq_getElem (by omega)]; exact hn _ (List.getElem_mem _)
      have e : wide hi lo + sumL (l.take (k + 1)) = v + x := by rw [sumL_take l k (by omega), HX.out, ← Int.add_assoc, HV.out]
      rw [e, more_hi v x hx, more_lo v x hx]
    · have e : l.take k = l := List.take_of_length_le (by omega)
      go_wp2
      refine bodyPost_ret (v := .agg #[.int .i64 (wHi (wide hi lo + sumL l)), .int .u64 (wLo (wide hi lo + sumL l))]) ?_ rfl ⟨rfl, ?_⟩
      · simp [results, Try.results20, go_sem, e]
      · exact ((Kept.refl _).alloc _).alloc _

theorem num_Fits_at (hi lo v : Int) (w : World) (hh : isI hi) (hl : isU lo) (hv : wide hi lo = v) :
    Calls Try.prog 22 #[.agg #[.int .i64 hi, .int .u64 lo]] w fun e w' => e = .returned (.tuple #[.int .i64 (fitV v), .int .i64 (fitE v)]) ∧ Kept w w' := by
  subst hv
  exact num_Fits hi lo w hh hl
theorem sum_val (l : List Int) (hn : ∀ x ∈ l, isI x) (hb : l.length ≤ maxLen) : wide (wHi (wide 0 0 + sumL l)) (wLo (wide 0 0 + sumL l)) = sumL l := by
  have e : wide 0 0 + sumL l = sumL l := by unfold wide; omega
  have b := sumL_bound l hn
  unfold maxLen at hb
  rw [e, fits_val _ (by omega)]

theorem num_Sum (a : Option Addr) (len cap : Nat) (l : List Int) (w : World) (hs : Sl .i64 w a len l) (hn : ∀ x ∈ l, isI x) :
    Calls Try.prog 24 #[.slice a len cap] w fun e w' => e = .returned (.tuple #[.int .i64 (fitV (sumL l)), .int .i64 (fitE (sumL l))]) ∧ Kept w w' := by
  have hv := sum_val l hn (hs.len ▸ hs.big)
  have HV : Hid (wide (wHi (wide 0 0 + sumL l)) (wLo (wide 0 0 + sumL l)) = sumL l) := hv
  clear hv
  go_enter Try.func24, Try.ntmps24
  go_wp2_with fail
  refine (num_More 0 0 _ _ _ _ _ (by unfold isI; omega) (by unfold isU; omega) hs hn).mono ?_
  rintro e w1 ⟨rfl, hk⟩
  go_wp2_with fail
  refine (num_Fits_at _ _ _ _ (wHi_is _) (wLo_is _) HV.out).mono ?_
  rintro e w2 ⟨rfl, hk2⟩
  go_wp2_with fail
  go_ret2
  exact ⟨rfl, hk.trans hk2⟩
end Go.Proofs.Ytldfnlkineehbaa
