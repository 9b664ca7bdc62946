/- Words as the library cuts them; what was joined comes apart again. No program is named here. -/
import Derived.Test.YtifddieoekbnfaaDoorSplitMath
import Derived.Lib.Join
namespace Go.Proofs.YtifddieoekbnfaaDoor
open Go.RowKit
set_option linter.unusedSimpArgs false
set_option linter.unusedVariables false

def cutL (L : List UInt8) (x : Nat × Nat) : List UInt8 := (L.drop x.1).take (x.2 - x.1)
theorem seg_no {L : List UInt8} {a b : Nat} (h : ∀ i, a ≤ i → i < b → L[i]? ≠ some 32) : (32 : UInt8) ∉ (L.drop a).take (b - a) := by
  intro hm
  obtain ⟨k, hk, e⟩ := List.getElem_of_mem hm
  rw [List.length_take, List.length_drop] at hk
  refine h (a + k) (by omega) (by omega) ?_
  rw [List.getElem_take, List.getElem_drop] at e
  rw [List.getElem?_eq_getElem (by omega), e]
theorem spans_words (s : ByteArray) : ∀ (f pos : Nat) (st : Option Nat) (acc : List (Nat × Nat)), pos ≤ s.size → s.size ≤ pos + f → (∀ a, st = some a → a < pos ∧ ∀ i, a ≤ i → i < pos → s.data.toList[i]? ≠ some 32) →
    (Lib.closeSpans s (Lib.spansFromP isBlank s f pos st acc)).map (cutL s.data.toList) = acc.map (cutL s.data.toList) ++ wrd (s.data.toList.drop (st.getD pos)) := by
  have hsz : s.data.toList.length = s.size := by rw [Array.length_toList]; rfl
  have atEnd : ∀ (pos : Nat) (st : Option Nat) (acc : List (Nat × Nat)), pos = s.size → (∀ a, st = some a → a < pos ∧ ∀ i, a ≤ i → i < pos → s.data.toList[i]? ≠ some 32) →
      (Lib.closeSpans s (acc, st)).map (cutL s.data.toList) = acc.map (cutL s.data.toList) ++ wrd (s.data.toList.drop (st.getD pos)) := by
    intro pos st acc hp hst
    subst hp
    cases st with
    | none =>
      simp only [Lib.closeSpans, Option.getD_none]
      rw [List.drop_of_length_le (by omega), wrd_nil, List.append_nil]
    | some a =>
      obtain ⟨h1, h2⟩ := hst a rfl
      simp only [Lib.closeSpans, Option.getD_some, List.map_append, List.map_cons, List.map_nil]
      have e : cutL s.data.toList (a, s.size) = s.data.toList.drop a := by
        unfold cutL
        exact List.take_of_length_le (by rw [List.length_drop]; omega)
      have hno := seg_no (L := s.data.toList) (a := a) (b := s.size) h2
      have e2 : (s.data.toList.drop a).take (s.size - a) = s.data.toList.drop a := e
      rw [e2] at hno
      rw [e, wrd_no hno (fun h => by have := congrArg List.length h; rw [List.length_drop] at this; simp at this; omega)]
  intro f
  induction f with
  | zero =>
    intro pos st acc h1 h2 hst
    exact atEnd pos st acc (by omega) hst
  | succ f ih =>
    intro pos st acc h1 h2 hst
    by_cases hp : pos < s.size
    · obtain ⟨d1, d2, d3⟩ := dec s pos hp
      have hpos := get_some s pos hp
      unfold Lib.spansFromP
      rw [if_pos hp]
      rcases d3 with ⟨e1, e2, e3⟩ | ⟨e1, e2⟩
      · have hb : isBlank (Utf8.decode s pos).1 = true := by unfold isBlank; rw [e1]; rfl
        have h32 : s.data.toList[pos]? = some 32 := by rw [hpos]; congr 1; exact UInt8.toNat_inj.1 e3
        have hdrop : s.data.toList.drop pos = 32 :: s.data.toList.drop (pos + 1) := by
          rw [List.drop_eq_getElem_cons (by omega)]
          congr 1
          rw [List.getElem?_eq_getElem (by omega)] at h32
          exact Option.some.inj h32
        rw [if_pos hb, e2]
        cases st with
        | none =>
          simp only
          rw [ih (pos + 1) none acc (by omega) (by omega) (fun a h => by cases h)]
          simp only [Option.getD_none]
          rw [hdrop, wrd_blank]
        | some a =>
          obtain ⟨g1, g2⟩ := hst a rfl
          simp only
          rw [ih (pos + 1) none (acc ++ [(a, pos)]) (by omega) (by omega) (fun a h => by cases h)]
          simp only [Option.getD_none, Option.getD_some, List.map_append, List.map_cons, List.map_nil, List.append_assoc]
          congr 1
          have hno := seg_no (L := s.data.toList) (a := a) (b := pos) g2
          have e : s.data.toList.drop a = (s.data.toList.drop a).take (pos - a) ++ 32 :: s.data.toList.drop (pos + 1) := by
            conv => lhs; rw [← List.take_append_drop (pos - a) (s.data.toList.drop a), List.drop_drop]
            rw [show a + (pos - a) = pos by omega, hdrop]
          rw [e, wrd_cut hno (fun h => by have := congrArg List.length h; rw [List.length_take, List.length_drop] at this; simp at this; omega)]
          rfl
      · have hb : isBlank (Utf8.decode s pos).1 = false := by
          unfold isBlank
          rw [beq_eq_false_iff_ne]
          intro h; apply e1; omega
        have hno : ∀ i, pos ≤ i → i < pos + (Utf8.decode s pos).2 → s.data.toList[i]? ≠ some 32 := by
          intro i g1 g2 e
          rw [get_some s i (by omega)] at e
          have h3 := e2 (i - pos) (by omega)
          rw [show pos + (i - pos) = i by omega, Option.some.inj e] at h3
          exact h3 rfl
        rw [if_neg (by rw [hb]; simp)]
        cases st with
        | none =>
          simp only
          rw [ih _ (some pos) acc d2 (by omega) (fun a h => by cases h; exact ⟨by omega, hno⟩)]
          rfl
        | some a =>
          obtain ⟨g1, g2⟩ := hst a rfl
          simp only
          rw [ih _ (some a) acc d2 (by omega) (fun b h => by
            cases h
            refine ⟨by omega, fun i k1 k2 => ?_⟩
            by_cases hi : i < pos
            · exact g2 i k1 hi
            · exact hno i (by omega) k2)]
          rfl
    · rw [Lib.spansFromP_end isBlank s (f + 1) pos st acc hp]
      exact atEnd pos st acc (by omega) hst
theorem words_tie (s : ByteArray) : (wordsB s).map (·.data.toList) = wrd s.data.toList := by
  have h := spans_words s s.size 0 none [] (Nat.zero_le _) (by omega) (fun a h => by cases h)
  simp only [List.map_nil, List.nil_append, Option.getD_none, List.drop_zero] at h
  rw [← h]
  unfold wordsB Lib.goFieldsP Lib.spansOfP
  rw [List.map_map]
  refine List.map_congr_left fun x _ => ?_
  exact Lib.extract_data s x.1 x.2

theorem spl_mem {c : UInt8} {l p : List UInt8} (h : p ∈ spl c l) : c ∉ p := by
  induction l generalizing p with
  | nil => simp [spl] at h; subst h; simp
  | cons x r ih =>
    rw [spl_cons] at h
    split at h
    · rcases List.mem_cons.1 h with rfl | h
      · simp
      · exact ih h
    · rename_i hx
      have := spl_pos c r
      cases hs : spl c r with
      | nil => rw [hs] at this; simp at this
      | cons q qs =>
        rw [hs] at h
        rcases List.mem_cons.1 h with rfl | h
        · have := ih (p := q) (by rw [hs]; exact List.mem_cons_self ..)
          simp
          exact ⟨fun e => hx e.symm, this⟩
        · exact ih (by rw [hs]; exact List.mem_cons_of_mem _ h)
def tot (xs : List (List UInt8)) : Nat := (xs.map fun p => p.length + 1).sum
theorem tot_spl (c : UInt8) (l : List UInt8) : tot (spl c l) = l.length + 1 := by
  induction l with
  | nil => simp [spl, tot]
  | cons x r ih =>
    rw [spl_cons]
    split
    · unfold tot at *; simp [ih]; omega
    · have := spl_pos c r
      cases hs : spl c r with
      | nil => rw [hs] at this; simp at this
      | cons q qs =>
        rw [hs] at ih
        unfold tot at *
        simp [consP] at ih ⊢
        omega
theorem tot_filter (p : List UInt8 → Bool) (xs : List (List UInt8)) : tot (xs.filter p) ≤ tot xs := by
  induction xs with
  | nil => simp [tot]
  | cons x r ih =>
    rw [List.filter_cons]
    split
    · unfold tot at *; simp; omega
    · unfold tot at *; simp; omega
theorem tot_len (xs : List (List UInt8)) : xs.length ≤ tot xs := by
  induction xs with
  | nil => simp [tot]
  | cons x r ih => unfold tot at *; simp; omega
theorem join_cons2 (c : List UInt8) (x y : List UInt8) (r : List (List UInt8)) : c.intercalate (x :: y :: r) = x ++ c ++ c.intercalate (y :: r) := by
  simp [List.intercalate, List.intersperse]
theorem join_one (c x : List UInt8) : c.intercalate [x] = x := by simp [List.intercalate, List.intersperse]
theorem join_nil (c : List UInt8) : c.intercalate [] = [] := by simp [List.intercalate, List.intersperse]
theorem join_len (c : UInt8) : ∀ xs : List (List UInt8), ([c].intercalate xs).length ≤ tot xs
  | [] => by rw [join_nil]; simp [tot]
  | [x] => by rw [join_one]; simp [tot]
  | x :: y :: r => by
    have := join_len c (y :: r)
    rw [join_cons2]
    unfold tot at *
    simp at *
    omega
theorem spl_join (c : UInt8) : ∀ xs : List (List UInt8), xs ≠ [] → (∀ p ∈ xs, c ∉ p) → spl c ([c].intercalate xs) = xs
  | [], h, _ => absurd rfl h
  | [x], _, h => by rw [join_one]; exact spl_no (h x (List.mem_cons_self ..))
  | x :: y :: r, _, h => by
    rw [join_cons2, List.append_assoc]
    show spl c (x ++ c :: [c].intercalate (y :: r)) = _
    rw [spl_cut (h x (List.mem_cons_self ..)), spl_join c (y :: r) (by simp) (fun p hp => h p (List.mem_cons_of_mem _ hp))]
theorem wrd_join (xs : List (List UInt8)) (h : ∀ p ∈ xs, p ≠ [] ∧ (32 : UInt8) ∉ p) : wrd ([32].intercalate xs) = xs := by
  cases xs with
  | nil => rw [join_nil]; exact wrd_nil
  | cons x r =>
    unfold wrd
    rw [spl_join 32 (x :: r) (by simp) (fun p hp => (h p hp).2)]
    refine List.filter_eq_self.2 fun p hp => ?_
    simp [(h p hp).1]
theorem wrd_mem {l p : List UInt8} (h : p ∈ wrd l) : p ≠ [] ∧ (32 : UInt8) ∉ p := by
  unfold wrd at h
  rw [List.mem_filter] at h
  exact ⟨by simpa using h.2, spl_mem h.1⟩
def lin (l : List UInt8) : List (List UInt8) := if (spl 10 l).getD ((spl 10 l).length - 1) [] = [] then (spl 10 l).take ((spl 10 l).length - 1) else spl 10 l
theorem lin_mem {l p : List UInt8} (h : p ∈ lin l) : (10 : UInt8) ∉ p := by
  unfold lin at h
  split at h
  · exact spl_mem (List.mem_of_mem_take h)
  · exact spl_mem h
theorem lin_back (xs : List (List UInt8)) (hne : xs ≠ []) (h : ∀ p ∈ xs, (10 : UInt8) ∉ p) : lin ([10].intercalate xs ++ [10]) = xs := by
  unfold lin
  rw [spl_snoc_c, spl_join 10 xs hne h]
  simp [List.getD]
theorem lin_nil : lin [] = [] := by simp [lin, spl]

theorem data_inj {a b : ByteArray} (h : a.data.toList = b.data.toList) : a = b := by
  apply ByteArray.ext
  exact Array.ext' h
theorem datas_inj {l m : List ByteArray} (h : l.map (·.data.toList) = m.map (·.data.toList)) : l = m := by
  induction l generalizing m with
  | nil => cases m <;> simp_all
  | cons a r ih =>
    cases m with
    | nil => simp at h
    | cons b t =>
      simp only [List.map_cons, List.cons.injEq] at h
      rw [data_inj h.1, ih h.2]
theorem lines_tie (s : ByteArray) : (linesB s).map (·.data.toList) = lin s.data.toList := by
  have h := parts_tie s
  have hl : (partsB s).length = (spl 10 s.data.toList).length := by rw [← h, List.length_map]
  have hg : ((partsB s).getD ((partsB s).length - 1) ByteArray.empty).data.toList = (spl 10 s.data.toList).getD ((spl 10 s.data.toList).length - 1) [] := by
    rw [← hl, ← h, List.getD_eq_getElem?_getD, List.getD_eq_getElem?_getD, List.getElem?_map]
    cases (partsB s)[(partsB s).length - 1]? with
    | none => rfl
    | some x => rfl
  unfold linesB lin
  by_cases e : (partsB s).getD ((partsB s).length - 1) ByteArray.empty = ByteArray.empty
  · rw [if_pos e, if_pos (by rw [← hg, e]; rfl), List.map_take, h, hl]
  · rw [if_neg e, if_neg (by rw [← hg]; intro e2; exact e (data_inj e2)), h]
end Go.Proofs.YtifddieoekbnfaaDoor
