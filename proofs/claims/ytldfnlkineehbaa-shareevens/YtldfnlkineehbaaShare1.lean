/- share.countable, share.total, share.byLargest. -/
import Derived.Test.YtldfnlkineehbaaArr
import Derived.Test.YtldfnlkineehbaaDiv4
namespace Go.Proofs.Ytldfnlkineehbaa
open Go.RowKit
set_option linter.unusedSimpArgs false
set_option linter.unusedVariables false

def cntE (n : Int) : Int := if n < 1 then 13 else if 1024 < n then 5 else 0
theorem share_countable (n : Int) (w : World) :
    Calls Try.prog 40 #[.int .i64 n] w fun e w' => e = .returned (.int .i64 (cntE n)) ∧ w' = w := by
  unfold cntE
  by_cases h1 : n < 1
  · rw [if_pos h1]
    go_enter Try.func40, Try.ntmps40
    go_wp2
    go_ret
    exact ⟨rfl, rfl⟩
  · rw [if_neg h1]
    by_cases h2 : 1024 < n
    · rw [if_pos h2]
      go_enter Try.func40, Try.ntmps40
      go_wp2
      go_ret
      exact ⟨rfl, rfl⟩
    · rw [if_neg h2]
      go_enter Try.func40, Try.ntmps40
      go_wp2
      go_ret
      exact ⟨rfl, rfl⟩

/-- The sum of weights, as total answers it. -/
def totV (l : List Int) : Int := if sumL l < 18446744073709551616 then sumL l else 0
def totE (l : List Int) : Int := if sumL l < 18446744073709551616 then (if sumL l = 0 then 9 else 0) else 8
theorem sumL_nonneg (l : List Int) (h : ∀ x ∈ l, isU x) : 0 ≤ sumL l := by
  induction l with
  | nil => simp [sumL]
  | cons x r ih =>
    have h1 := ih fun y hy => h y (List.mem_cons_of_mem _ hy)
    have h2 := (h x (List.mem_cons_self ..)).1
    simp only [sumL]; omega
theorem sumL_take_le (l : List Int) (k : Nat) (h : ∀ x ∈ l, isU x) : sumL (l.take k) ≤ sumL l := by
  have e : sumL l = sumL (l.take k) + sumL (l.drop k) := by rw [← sumL_append, List.take_append_drop]
  have := sumL_nonneg (l.drop k) fun x hx => h x (List.mem_of_mem_drop hx)
  omega
theorem getD_mem (l : List Int) (k : Nat) (h : k < l.length) : l.getD k 0 ∈ l := by
  rw [List.getD_eq_getElem?_getD, List.getElem?_eq_getElem h]; exact List.getElem_mem h

theorem share_total (a : Option Addr) (len cap : Nat) (l : List Int) (w : World) (hs : Sl .u64 w a len l) (hn : ∀ x ∈ l, isU x) :
    Calls Try.prog 41 #[.slice a len cap] w fun e w' => e = .returned (.tuple #[.int .u64 (totV l), .int .i64 (totE l)]) ∧ w' = w := by
  have hlen := hs.len
  have hbig := hs.big
  unfold maxLen at hbig
  go_enter Try.func41, Try.ntmps41
  go_wp2
  go_loop [4, 11] (fun x i => ∃ k : Nat, k ≤ len ∧ i = .int .i64 k ∧ x = .int .u64 (sumL (l.take k)) ∧ sumL (l.take k) < 18446744073709551616) (fun _ i => len - (intOf i).toNat)
  case atStart => exact ⟨0, Nat.zero_le _, rfl, rfl, by simp [sumL]⟩
  case round =>
    obtain ⟨k, hk, rfl, rfl, hlt⟩ := hrel
    by_cases hkl : k < len
    · obtain ⟨b, o, rfl, hb, hc⟩ := hs.cells (by omega)
      have hcell : w.cell? ⟨b, o + k, none⟩ = some (.int .u64 (l.getD k 0)) := hc k hkl
      have hst := sumL_take l k (by omega)
      have hle := sumL_take_le l (k + 1) hn
      have hx := hn _ (getD_mem l k (by omega))
      have h0 : 0 ≤ sumL (l.take k) := sumL_nonneg _ fun x hx => hn x (List.mem_of_mem_take hx)
      clear hc hs
      generalize l.getD k 0 = x at *
      generalize hyy : sumL (l.take k) = y at *
      clear hyy
      have h64 := run_Add64 y x ⟨h0, by omega⟩ hx
      have HST := hidMk hst
      have HLE := hidMk hle
      have HLT := hidMk hlt
      clear hst hle hlt
      by_cases hov : cry y x = 0
      · have hb1 : (cry y x != 0) = false := by rw [hov]; rfl
        have HO := hidMk hov
        clear hov
        go_wp2
        have e : wLo (y + x) = y + x := by
          have := HO.out; have := hx; unfold cry isU at *; unfold wLo; omega
        refine ⟨⟨k + 1, by omega, by go_num, ?_, ?_⟩, by simp [intOf]; omega⟩
        · rw [e, HST.out]
        · rw [HST.out]; have := HO.out; have := hx; unfold cry isU at *; omega
      · have hb1 : (cry y x != 0) = true := by rw [bne_iff_ne]; exact hov
        have e1 : ¬ sumL l < 18446744073709551616 := by
          have := HST.out; have := HLE.out; have := HLT.out; unfold cry isU at *; omega
        have e2 : totV l = 0 := by unfold totV; rw [if_neg e1]
        have e3 : totE l = 8 := by unfold totE; rw [if_neg e1]
        have H2 := hidMk e2
        have H3 := hidMk e3
        clear hov e1 e2 e3
        go_wp2
        go_ret2
        exact ⟨ret_two H2.out.symm H3.out.symm, rfl⟩
    · have e : l.take k = l := List.take_of_length_le (by omega)
      rw [e] at hlt ⊢
      by_cases hz : sumL l = 0
      · have hb1 : (sumL l == 0) = true := by simp [hz]
        have e2 : totV l = 0 := by unfold totV; rw [if_pos hlt]; exact hz
        have e3 : totE l = 9 := by unfold totE; rw [if_pos hlt, if_pos hz]
        have H2 := hidMk e2
        have H3 := hidMk e3
        clear hlt hz e2 e3 e
        go_wp2
        go_ret2
        exact ⟨ret_two H2.out.symm H3.out.symm, rfl⟩
      · have hb1 : (sumL l == 0) = false := by simp [hz]
        have e2 : totV l = sumL l := by unfold totV; rw [if_pos hlt]
        have e3 : totE l = 0 := by unfold totE; rw [if_pos hlt, if_neg hz]
        have H2 := hidMk e2
        have H3 := hidMk e3
        clear hlt hz e2 e3 e
        go_wp2
        go_ret2
        exact ⟨ret_two H2.out.symm H3.out.symm, rfl⟩
end Go.Proofs.Ytldfnlkineehbaa
