/- The definition's tree: members, names, ways up. -/
import Derived.Test.YtofppldiipjllaaTree12
import Derived.Test.YtofppldiipjllaaNodes
namespace Go.Proofs.Ytofppldiipjllaa
open Go.RowKit Go.Maps
set_option linter.unusedSimpArgs false
set_option linter.unusedVariables false

/-- The definition's tree in memory. -/
structure RT (w : World) (p : Nat) (l : List Nd) : Prop where
  ex : ∃ b c, w.cell? ⟨p, 0, none⟩ = some (.slice (some ⟨b, 0, none⟩) l.length c) ∧ ∀ i, i < l.length → w.cell? ⟨b, i * 2, none⟩ = some (.string (nmA l i)) ∧ w.cell? ⟨b, i * 2 + 1, none⟩ = some (.int .i64 (upA l i))
  big : l.length ≤ 60
  nmb : ∀ i, i < l.length → (nmA l i).size ≤ maxLen
  upb : ∀ i, i < l.length → isI (upA l i)
theorem RT.kept {w w' : World} {p : Nat} {l : List Nd} (h : RT w p l) (g : Kept w w') : RT w' p l := by
  obtain ⟨⟨b, c, h1, h2⟩, h3, h4, h5⟩ := h
  exact ⟨⟨b, c, g.cellp h1, fun i hi => ⟨g.cellp (h2 i hi).1, g.cellp (h2 i hi).2⟩⟩, h3, h4, h5⟩
theorem r_is {w : World} {p : Nat} {l : List Nd} (h : RT w p l) (i : Int) : Calls Try.prog 60 #[.pointer (some ⟨p, 0, none⟩), .int .i64 i] w fun e w' => e = .returned (.bool (decide (isP l i))) ∧ w' = w := by
  obtain ⟨⟨b, c, h1, _⟩, _, _, _⟩ := h
  by_cases h0 : 0 ≤ i
  · by_cases h2 : i < l.length
    · rw [decide_eq_true (show isP l i from ⟨h0, h2⟩)]
      go_enter Try.func60, Try.ntmps60
      go_wp2_with fail
      go_ret
      exact ⟨rfl, rfl⟩
    · rw [decide_eq_false (show ¬ isP l i from fun h => h2 h.2)]
      have h2' : (l.length : Int) ≤ i := by omega
      go_enter Try.func60, Try.ntmps60
      go_wp2_with fail
      go_ret
      first | exact ⟨rfl, rfl⟩ | exact ⟨by simp, rfl⟩ | exact ⟨by simp; omega, rfl⟩
  · rw [decide_eq_false (show ¬ isP l i from fun h => h0 h.1)]
    have h0' : i < 0 := by omega
    go_enter Try.func60, Try.ntmps60
    go_wp2_with fail
    go_ret
    exact ⟨rfl, rfl⟩
theorem r_Name {w : World} {p : Nat} {l : List Nd} (h : RT w p l) (i : Int) : Calls Try.prog 46 #[.pointer (some ⟨p, 0, none⟩), .int .i64 i] w fun e w' => e = .returned (.string (nmI l i)) ∧ w' = w := by
  have H := hidMk (r_is h i)
  obtain ⟨⟨b, c, h1, h2⟩, hb, _, _⟩ := h
  by_cases hp : isP l i
  · rw [decide_eq_true hp] at H
    obtain ⟨k, rfl⟩ : ∃ k : Nat, i = k := ⟨i.toNat, by have := hp.1; omega⟩
    have hk : k < l.length := by have := hp.2; omega
    have e : nmI l k = nmA l k := by unfold nmI; rw [if_pos hp]; rfl
    rw [e]
    have h3 := (h2 k hk).1
    clear h2 e hp
    generalize nmA l k = u at *
    go_enter Try.func46, Try.ntmps46
    go_wp2_with (go_at_call 60; refine H.out.mono ?_; rintro e w1 ⟨rfl, rfl⟩)
    go_ret
    exact ⟨rfl, rfl⟩
  · rw [decide_eq_false hp] at H
    have e : nmI l i = ByteArray.empty := by unfold nmI; rw [if_neg hp]
    rw [e]
    clear h2 e hp
    go_enter Try.func46, Try.ntmps46
    go_wp2_with (go_at_call 60; refine H.out.mono ?_; rintro e w1 ⟨rfl, rfl⟩)
    go_ret
    exact ⟨rfl, rfl⟩
theorem fst_no {l : List Nd} {s : ByteArray} (h : ∀ j, j < l.length → nmA l j ≠ s) : fstN l s = l.length := by
  unfold fstN
  rw [List.findIdx_eq_length]
  intro x hx
  obtain ⟨j, hj, rfl⟩ := List.getElem_of_mem hx
  have := h j hj
  simp [nmA, List.getD, List.getElem?_eq_getElem hj] at this
  simpa using this
theorem fst_at {l : List Nd} {s : ByteArray} {k : Nat} (hk : k < l.length) (he : nmA l k = s) (h : ∀ j, j < k → nmA l j ≠ s) : fstN l s = k := by
  unfold fstN
  rw [List.findIdx_eq hk]
  have e : nmA l k = l[k].1 := by simp [nmA, List.getD, List.getElem?_eq_getElem hk]
  refine ⟨by simp [← e, he], fun j hj => ?_⟩
  have := h j hj
  have hjl : j < l.length := by omega
  simp [nmA, List.getD, List.getElem?_eq_getElem hjl] at this
  simpa using this
theorem bytes_ne {a b : ByteArray} (h : a ≠ b) : (a.toList == b.toList) = false := by
  rw [beq_eq_false_iff_ne]
  intro e
  apply h
  apply ByteArray.ext
  rw [ByteArray.toList_eq, ByteArray.toList_eq] at e
  exact Array.ext' e
theorem r_Find {w : World} {p : Nat} {l : List Nd} (h : RT w p l) (s : ByteArray) : Calls Try.prog 44 #[.pointer (some ⟨p, 0, none⟩), .string s] w fun e w' => e = .returned (.int .i64 (findI l s)) ∧ w' = w := by
  obtain ⟨r, hr⟩ : ∃ r, findI l s = r := ⟨_, rfl⟩
  rw [hr]
  have HR := hidMk hr
  obtain ⟨⟨b, c, h1, h2⟩, hb, _, _⟩ := h
  have H2 := hidMk h2
  clear hr h2
  go_enter Try.func44, Try.ntmps44
  go_wp2_with fail
  go_loopw [5] (fun i wr => ∃ k : Nat, k ≤ l.length ∧ i = .int .i64 k ∧ wr = w ∧ Hid (∀ j, j < k → nmA l j ≠ s)) (fun i _ => l.length - (intOf i).toNat)
  case atStart => exact ⟨0, Nat.zero_le _, rfl, rfl, hidMk fun j hj => absurd hj (by omega)⟩
  case round =>
    obtain ⟨k, hk, rfl, rfl, HJ⟩ := hrel
    by_cases hkl : k < l.length
    · have hc := (H2.out k hkl).1
      by_cases he : nmA l k = s
      · have HF := hidMk (show r = k from by
          rw [← HR.out]
          unfold findI
          rw [fst_at hkl he HJ.out, if_pos hkl])
        rw [he] at hc
        clear he
        go_wp2_with fail
        go_ret
        exact ⟨by rw [HF.out]; rfl, rfl⟩
      · have HS := hidMk (show ∀ j, j < k + 1 → nmA l j ≠ s from fun j hj => by
          by_cases e : j = k
          · subst e; exact he
          · exact HJ.out j (by omega))
        have he' := bytes_ne he
        clear he
        generalize nmA l k = x at *
        go_wp2_with fail
        exact ⟨⟨k + 1, by omega, by go_num, trivial, HS⟩, by simp [intOf]; omega⟩
    · have e : k = l.length := by omega
      subst e
      have HF := hidMk (show r = -1 from by
          rw [← HR.out]
          unfold findI
          rw [fst_no HJ.out, if_neg (by omega)])
      have hkk : ¬ ((l.length : Int) < (l.length : Int)) := by omega
      go_wp2_with fail
      go_ret
      exact ⟨by rw [HF.out]; rfl, rfl⟩
end Go.Proofs.Ytofppldiipjllaa
