/- The contracts of the definitions' More, Sum, Add. -/
import Derived.Test.YtldfnlkineehbaaNum3
import Derived.Deep.RegionWith
namespace Go.Proofs.Ytldfnlkineehbaa
open Go.RowKit
set_option linter.unusedSimpArgs false
set_option linter.unusedVariables false

theorem ref_More (hi lo : Int) (a : Option Addr) (len cap : Nat) (l : List Int) (w : World) (hh : isI hi) (hl : isU lo) (hs : Sl .i64 w a len l) (hn : ∀ x ∈ l, isI x) :
    Calls Try.prog 21 #[.agg #[.int .i64 hi, .int .u64 lo], .slice a len cap] w fun e w' => e = .returned (.agg #[.int .i64 (wHi (wide hi lo + sumL l)), .int .u64 (wLo (wide hi lo + sumL l))]) ∧ Kept w w' := by
  have hlen := hs.len
  have hbig := hs.big
  unfold maxLen at hbig
  go_enter Try.func21, Try.ntmps21
  go_wp2
  go_loopw [5] (fun i wr => ∃ k : Nat, k ≤ len ∧ i = .int .i64 k ∧ Box wr w.heap.size (.int .i64 (wHi (wide hi lo + sumL (l.take k)))) (.int .u64 (wLo (wide hi lo + sumL (l.take k)))) ∧ Box wr (w.heap.size + 1) (.int .i64 0) (.int .u64 0) ∧ Kept w wr) (fun i _ => len - (intOf i).toNat)
  case atStart => exact ⟨0, Nat.zero_le _, rfl, ⟨by simp [sumL, wHi_wide _ _ hh hl], by simp [sumL, wLo_wide _ _ hl], by simp, by simp, by simp; omega⟩, ⟨by simp, by simp, by simp, by simp, by simp⟩, ((Kept.refl _).alloc _).alloc _⟩
  case round =>
    obtain ⟨k, hk, rfl, bx, bz, hkept⟩ := hrel
    obtain ⟨c0, c1, f0, f1, hB⟩ := id bx
    by_cases hlt : k < len
    · obtain ⟨b, o, rfl, hb, hc⟩ := hs.cells (by omega)
      have hcell : wr.cell? ⟨b, o + k, none⟩ = some (.int .i64 (l.getD k 0)) := (hkept.cell (p := ⟨b, o + k, none⟩) hb).trans (hc k hlt)
      generalize hv : wide hi lo + sumL (l.take k) = v at *
      generalize hx : l.getD k 0 = x at *
      have HX : Hid (l.getD k 0 = x) := hx
      have hxi : isI x := by rw [← hx, List.getD_eq_getElem?_getD, List.getElem?_eq_getElem (by omega)]; exact hn _ (List.getElem_mem _)
      have HV : Hid (wide hi lo + sumL (l.take k) = v) := hv
      clear hc hs hv hx
      go_wp2
      go_region_with (go_at_call 36; refine (ref_More1 _ _ _ _ (wHi_is v) (wLo_is v) hxi).mono ?_; rintro e w1 ⟨rfl, hk1⟩
                      have d0 := (hk1.cell (p := ⟨w.heap.size, 0, none⟩) (by exact hB)).trans c0; have d1 := (hk1.cell (p := ⟨w.heap.size, 1, none⟩) (by exact hB)).trans c1
                      have e0 := (hk1.frozen (p := ⟨w.heap.size, 0, none⟩) (by exact hB)).trans f0; have e1 := (hk1.frozen (p := ⟨w.heap.size, 1, none⟩) (by exact hB)).trans f1)
      all_goals
        go_wp2
        have bx1 := (Box.drew bx).kept hk1
        have by1 := (Box.drew bz).kept hk1
        have e : wide hi lo + sumL (l.take (k + 1)) = v + x := by rw [sumL_take l k (by omega), HX.out, ← Int.add_assoc, HV.out]
        refine ⟨⟨k + 1, by omega, by go_num, ?_, by1.other (by omega) _ _, ?_⟩, by simp [intOf]; omega⟩
        · rw [e, wHi_more, wLo_more]; exact bx1.set _ _
        · exact ((hkept.drew.trans hk1).setCell (Nat.le_refl _) _).setCell (Nat.le_refl _) _
    · have e : l.take k = l := List.take_of_length_le (by omega)
      obtain ⟨r0, r1, g0, g1, hB1⟩ := id bz
      go_wp2
      have by2 := bz.set (.int .i64 (wHi (wide hi lo + sumL l))) (.int .u64 (wLo (wide hi lo + sumL l)))
      refine bodyPost_ret (v := .agg #[.int .i64 (wHi (wide hi lo + sumL l)), .int .u64 (wLo (wide hi lo + sumL l))]) ?_ rfl ⟨rfl, ?_⟩
      · obtain ⟨q0, q1, _, _, _⟩ := by2
        simp [results, Try.results21, go_sem, e, q0, q1]
      · exact (hkept.setCell (by simp) _).setCell (by simp) _

theorem ref_Sum (a : Option Addr) (len cap : Nat) (l : List Int) (w : World) (hs : Sl .i64 w a len l) (hn : ∀ x ∈ l, isI x) :
    Calls Try.prog 25 #[.slice a len cap] w fun e w' => e = .returned (.tuple #[.int .i64 (fitV (sumL l)), .int .i64 (fitE (sumL l))]) ∧ Kept w w' := by
  have hv := sum_val l hn (hs.len ▸ hs.big)
  have HV : Hid (wide (wHi (wide 0 0 + sumL l)) (wLo (wide 0 0 + sumL l)) = sumL l) := hv
  clear hv
  go_enter Try.func25, Try.ntmps25
  go_wp2_with fail
  refine (ref_More 0 0 _ _ _ _ _ (by unfold isI; omega) (by unfold isU; omega) hs hn).mono ?_
  rintro e w1 ⟨rfl, hk⟩
  go_wp2_with fail
  refine (ref_Fits_at _ _ _ _ (wHi_is _) (wLo_is _) HV.out).mono ?_
  rintro e w2 ⟨rfl, hk2⟩
  go_wp2_with fail
  go_ret2
  exact ⟨rfl, hk.trans hk2⟩

theorem ref_Add (a b : Int) (w : World) (ha : isI a) (hb : isI b) :
    Calls Try.prog 10 #[.int .i64 a, .int .i64 b] w fun e w' => e = .returned (.tuple #[.int .i64 (fitV (a + b)), .int .i64 (fitE (a + b))]) ∧ Kept w w' := by
  have hs := sl_new .i64 w [a, b] 2 (by simp [maxLen])
  have he : sumL [a, b] = a + b := by simp [sumL]
  have H := ref_Sum _ _ 2 _ _ hs (by intro x hx; simp at hx; rcases hx with rfl | rfl <;> assumption)
  rw [he] at H
  clear hs he
  have HH := hidMk H
  clear H
  go_enter Try.func10, Try.ntmps10
  go_wp2_with fail
  refine (HH.out).mono ?_
  rintro e w2 ⟨rfl, hk2⟩
  go_wp2_with fail
  go_ret2
  exact ⟨rfl, ((Kept.refl _).alloc _).trans hk2⟩
end Go.Proofs.Ytldfnlkineehbaa
