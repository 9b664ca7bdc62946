/- Parts between bytes: by definition, and as the library cuts them. No program is named here. · Words as the library cuts them; what was joined comes apart again. No program is named here. · text.Join. -/
import Derived.Test.YtpehinmckppjoaaGreatDoorWText8B
import Derived.Lib.Join
namespace Go.Proofs.YtpehinmckppjoaaGreatDoor
open Go.RowKit
set_option linter.unusedSimpArgs false
set_option linter.unusedVariables false

def consP (x : UInt8) : List (List UInt8) → List (List UInt8)
  | [] => [[x]]
  | p :: ps => (x :: p) :: ps
def spl (c : UInt8) : List UInt8 → List (List UInt8)
  | [] => [[]]
  | x :: r => if x = c then [] :: spl c r else consP x (spl c r)
theorem spl_cons (c x : UInt8) (r : List UInt8) : spl c (x :: r) = if x = c then [] :: spl c r else consP x (spl c r) := rfl
theorem spl_pos (c : UInt8) (l : List UInt8) : 0 < (spl c l).length := by
  cases l with
  | nil => simp [spl]
  | cons x r =>
    unfold spl
    split
    · simp
    · cases spl c r <;> simp [consP]
theorem spl_no {c : UInt8} {a : List UInt8} (h : c ∉ a) : spl c a = [a] := by
  induction a with
  | nil => rfl
  | cons x r ih =>
    simp at h
    unfold spl
    rw [if_neg (fun e => h.1 e.symm), ih h.2]
    rfl
theorem spl_cut {c : UInt8} {a b : List UInt8} (h : c ∉ a) : spl c (a ++ c :: b) = a :: spl c b := by
  induction a with
  | nil => simp [spl]
  | cons x r ih =>
    simp at h
    rw [List.cons_append, spl_cons, if_neg (fun e => h.1 e.symm), ih h.2]
    rfl
theorem spl_snoc_c (c : UInt8) (l : List UInt8) : spl c (l ++ [c]) = spl c l ++ [[]] := by
  induction l with
  | nil => simp [spl]
  | cons x r ih =>
    rw [List.cons_append]
    unfold spl
    rw [ih]
    split
    · rfl
    · have := spl_pos c r
      cases h : spl c r with
      | nil => rw [h] at this; simp at this
      | cons p ps => rfl
theorem spl_snoc {c x : UInt8} (hx : x ≠ c) (l : List UInt8) : spl c (l ++ [x]) = (spl c l).set ((spl c l).length - 1) ((spl c l).getD ((spl c l).length - 1) [] ++ [x]) := by
  induction l with
  | nil => simp [spl, hx, consP]
  | cons y r ih =>
    rw [List.cons_append]
    unfold spl
    rw [ih]
    have := spl_pos c r
    cases h : spl c r with
    | nil => rw [h] at this; simp at this
    | cons p ps =>
      split
      · simp [List.getD]
      · cases ps with
        | nil => simp [consP]
        | cons q qs => simp [consP, List.getD]
def wrd (l : List UInt8) : List (List UInt8) := (spl 32 l).filter fun p => decide (p ≠ [])
theorem wrd_no {a : List UInt8} (h : (32 : UInt8) ∉ a) (hn : a ≠ []) : wrd a = [a] := by
  unfold wrd; rw [spl_no h]; simp [hn]
theorem wrd_nil : wrd [] = [] := by simp [wrd, spl]
theorem wrd_cut {a b : List UInt8} (h : (32 : UInt8) ∉ a) (hn : a ≠ []) : wrd (a ++ 32 :: b) = a :: wrd b := by
  unfold wrd; rw [spl_cut h]; simp [hn]
theorem wrd_blank (b : List UInt8) : wrd (32 :: b) = wrd b := by
  unfold wrd
  have := spl_cut (c := 32) (a := []) (b := b) (by simp)
  rw [List.nil_append] at this
  rw [this]; simp

theorem split_tie (c : UInt8) : ∀ (n : Nat) (l : List UInt8), l.length ≤ n → Lib.splitK [c] 0 (Lib.count l [c]) l = spl c l := by
  intro n
  induction n with
  | zero =>
    intro l hl
    obtain rfl : l = [] := List.eq_nil_of_length_eq_zero (by omega)
    rw [Lib.count_miss (by rw [Lib.index_one]; rfl)]
    rfl
  | succ n ih =>
    intro l hl
    by_cases h : Lib.indexByte l c = -1
    · rw [Lib.count_miss (by rw [Lib.index_one]; exact h)]
      have hno : c ∉ l := fun hm => by
        obtain ⟨k, hk, e⟩ := List.getElem_of_mem hm
        exact Lib.indexByte_none h k (by rw [List.getElem?_eq_getElem hk, e])
      rw [spl_no hno]
      rfl
    · have hge := Lib.indexByte_ge l c
      obtain ⟨i, hi⟩ : ∃ i : Nat, Lib.indexByte l c = i := ⟨(Lib.indexByte l c).toNat, by omega⟩
      obtain ⟨h1, h2⟩ := Lib.indexByte_some hi
      have hil : i < l.length := (List.getElem?_eq_some_iff.1 h1).1
      have hix : Lib.index l [c] = i := by rw [Lib.index_one]; exact hi
      have e : l = l.take i ++ c :: l.drop (i + 1) := by
        conv => lhs; rw [← List.take_append_drop i l, List.drop_eq_getElem_cons hil]
        have : l[i] = c := by rw [List.getElem?_eq_getElem hil] at h1; exact Option.some.inj h1
        rw [this]
      have hno : c ∉ l.take i := fun hm => by
        obtain ⟨k, hk, ek⟩ := List.getElem_of_mem hm
        rw [List.length_take] at hk
        refine h2 k (by omega) ?_
        rw [List.getElem_take] at ek
        rw [List.getElem?_eq_getElem (by omega), ek]
      have hs : spl c l = l.take i :: spl c (l.drop (i + 1)) := by
        conv => lhs; rw [e]
        exact spl_cut hno
      rw [hs, Lib.count_hit (by simp) hix, Nat.add_comm 1]
      unfold Lib.splitK
      rw [if_neg (by rw [hix]; simp), hix]
      simp only [Int.toNat_natCast, Nat.add_zero, List.length_singleton]
      rw [ih (l.drop (i + 1)) (by rw [List.length_drop]; omega)]
theorem get_some (s : ByteArray) (i : Nat) (h : i < s.size) : s.data.toList[i]? = some (s.get! i) := by
  have h' : i < s.data.size := h
  rw [Array.getElem?_toList, Array.getElem?_eq_getElem h']
  simp [ByteArray.get!, h']
  exact (getElem!_pos s.data i h').symm
theorem dec (s : ByteArray) (pos : Nat) (h : pos < s.size) : 1 ≤ (Utf8.decode s pos).2 ∧ pos + (Utf8.decode s pos).2 ≤ s.size ∧
    (((Utf8.decode s pos).1 = 32 ∧ (Utf8.decode s pos).2 = 1 ∧ (s.get! pos).toNat = 32) ∨ ((Utf8.decode s pos).1 ≠ 32 ∧ ∀ k, k < (Utf8.decode s pos).2 → (s.get! (pos + k)).toNat ≠ 32)) := by
  have one : ∀ r : Nat, r ≠ 32 → (s.get! pos).toNat ≠ 32 → 1 ≤ (r, 1).2 ∧ pos + (r, 1).2 ≤ s.size ∧ (((r, 1).1 = 32 ∧ (r, 1).2 = 1 ∧ (s.get! pos).toNat = 32) ∨ ((r, 1).1 ≠ 32 ∧ ∀ k, k < (r, 1).2 → (s.get! (pos + k)).toNat ≠ 32)) := by
    intro r hr hb
    refine ⟨Nat.le_refl _, h, .inr ⟨hr, fun k hk => ?_⟩⟩
    have e : k = 0 := by simpa using hk
    subst e
    exact hb
  unfold Utf8.decode
  simp only [Nat.add_zero]
  split
  · rename_i h0
    by_cases e : (s.get! pos).toNat = 32
    · exact ⟨Nat.le_refl _, h, .inl ⟨e, rfl, e⟩⟩
    · exact one _ e e
  · rename_i h0
    have hb : (s.get! pos).toNat ≠ 32 := by omega
    have er : Utf8.runeError ≠ 32 := by decide
    split
    · rename_i h1
      simp at h1
      split
      · rename_i h2
        refine ⟨by simp, by simp; omega, .inr ⟨by simp; omega, fun k hk => ?_⟩⟩
        simp at hk
        rcases (show k = 0 ∨ k = 1 by omega) with rfl | rfl
        · simpa using hb
        · omega
      · exact one _ er hb
    · split
      · rename_i h1
        simp at h1
        split
        · rename_i h2
          simp at h2
          refine ⟨by simp, by simp; omega, .inr ⟨by simp; omega, fun k hk => ?_⟩⟩
          simp at hk
          rcases (show k = 0 ∨ k = 1 ∨ k = 2 by omega) with rfl | rfl | rfl
          · simpa using hb
          · omega
          · omega
        · exact one _ er hb
      · split
        · rename_i h1
          simp at h1
          split
          · rename_i h2
            simp at h2
            refine ⟨by simp, by simp; omega, .inr ⟨by simp; omega, fun k hk => ?_⟩⟩
            simp at hk
            rcases (show k = 0 ∨ k = 1 ∨ k = 2 ∨ k = 3 by omega) with rfl | rfl | rfl | rfl
            · simpa using hb
            · omega
            · omega
            · omega
          · exact one _ er hb
        · exact one _ er hb
end Go.Proofs.YtpehinmckppjoaaGreatDoor
namespace Go.Proofs.YtpehinmckppjoaaGreatDoor
open Go.RowKit
set_option linter.unusedSimpArgs false
set_option linter.unusedVariables false

def cutL (L : List UInt8) (x : Nat × Nat) : List UInt8 := (L.drop x.1).take (x.2 - x.1)
theorem seg_no {L : List UInt8} {a b : Nat} (h : ∀ i, a ≤ i → i < b → L[i]? ≠ some 32) : (32 : UInt8) ∉ (L.drop a).take (b - a) := by
  intro hm
  obtain ⟨k, hk, e⟩ := List.getElem_of_mem hm
  rw [List.length_take, List.length_drop] at hk
  refine h (a + k) (by omega) (by omega) ?_
  rw [List.getElem_take, List.getElem_drop] at e
  rw [List.getElem?_eq_getElem (by omega), e]
theorem spans_words (s : ByteArray) : ∀ (f pos : Nat) (st : Option Nat) (acc : List (Nat × Nat)), pos ≤ s.size → s.size ≤ pos + f → (∀ a, st = some a → a < pos ∧ ∀ i, a ≤ i → i < pos → s.data.toList[i]? ≠ some 32) →
    (Lib.closeSpans s (Lib.spansFromP isBlank s f pos st acc)).map (cutL s.data.toList) = acc.map (cutL s.data.toList) ++ wrd (s.data.toList.drop (st.getD pos)) := by
  have hsz : s.data.toList.length = s.size := by rw [Array.length_toList]; rfl
  have atEnd : ∀ (pos : Nat) (st : Option Nat) (acc : List (Nat × Nat)), pos = s.size → (∀ a, st = some a → a < pos ∧ ∀ i, a ≤ i → i < pos → s.data.toList[i]? ≠ some 32) →
      (Lib.closeSpans s (acc, st)).map (cutL s.data.toList) = acc.map (cutL s.data.toList) ++ wrd (s.data.toList.drop (st.getD pos)) := by
    intro pos st acc hp hst
    subst hp
    cases st with
    | none =>
      simp only [Lib.closeSpans, Option.getD_none]
      rw [List.drop_of_length_le (by omega), wrd_nil, List.append_nil]
    | some a =>
      obtain ⟨h1, h2⟩ := hst a rfl
      simp only [Lib.closeSpans, Option.getD_some, List.map_append, List.map_cons, List.map_nil]
      have e : cutL s.data.toList (a, s.size) = s.data.toList.drop a := by
        unfold cutL
        exact List.take_of_length_le (by rw [List.length_drop]; omega)
      have hno := seg_no (L := s.data.toList) (a := a) (b := s.size) h2
      have e2 : (s.data.toList.drop a).take (s.size - a) = s.data.toList.drop a := e
      rw [e2] at hno
      rw [e, wrd_no hno (fun h => by have := congrArg List.length h; rw [List.length_drop] at this; simp at this; omega)]
  intro f
  induction f with
  | zero =>
    intro pos st acc h1 h2 hst
    exact atEnd pos st acc (by omega) hst
  | succ f ih =>
    intro pos st acc h1 h2 hst
    by_cases hp : pos < s.size
    · obtain ⟨d1, d2, d3⟩ := dec s pos hp
      have hpos := get_some s pos hp
      unfold Lib.spansFromP
      rw [if_pos hp]
      rcases d3 with ⟨e1, e2, e3⟩ | ⟨e1, e2⟩
      · have hb : isBlank (Utf8.decode s pos).1 = true := by unfold isBlank; rw [e1]; rfl
        have h32 : s.data.toList[pos]? = some 32 := by rw [hpos]; congr 1; exact UInt8.toNat_inj.1 e3
        have hdrop : s.data.toList.drop pos = 32 :: s.data.toList.drop (pos + 1) := by
          rw [List.drop_eq_getElem_cons (by omega)]
          congr 1
          rw [List.getElem?_eq_getElem (by omega)] at h32
          exact Option.some.inj h32
        rw [if_pos hb, e2]
        cases st with
        | none =>
          simp only
          rw [ih (pos + 1) none acc (by omega) (by omega) (fun a h => by cases h)]
          simp only [Option.getD_none]
          rw [hdrop, wrd_blank]
        | some a =>
          obtain ⟨g1, g2⟩ := hst a rfl
          simp only
          rw [ih (pos + 1) none (acc ++ [(a, pos)]) (by omega) (by omega) (fun a h => by cases h)]
          simp only [Option.getD_none, Option.getD_some, List.map_append, List.map_cons, List.map_nil, List.append_assoc]
          congr 1
          have hno := seg_no (L := s.data.toList) (a := a) (b := pos) g2
          have e : s.data.toList.drop a = (s.data.toList.drop a).take (pos - a) ++ 32 :: s.data.toList.drop (pos + 1) := by
            conv => lhs; rw [← List.take_append_drop (pos - a) (s.data.toList.drop a), List.drop_drop]
            rw [show a + (pos - a) = pos by omega, hdrop]
          rw [e, wrd_cut hno (fun h => by have := congrArg List.length h; rw [List.length_take, List.length_drop] at this; simp at this; omega)]
          rfl
      · have hb : isBlank (Utf8.decode s pos).1 = false := by
          unfold isBlank
          rw [beq_eq_false_iff_ne]
          intro h; apply e1; omega
        have hno : ∀ i, pos ≤ i → i < pos + (Utf8.decode s pos).2 → s.data.toList[i]? ≠ some 32 := by
          intro i g1 g2 e
          rw [get_some s i (by omega)] at e
          have h3 := e2 (i - pos) (by omega)
          rw [show pos + (i - pos) = i by omega, Option.some.inj e] at h3
          exact h3 rfl
        rw [if_neg (by rw [hb]; simp)]
        cases st with
        | none =>
          simp only
          rw [ih _ (some pos) acc d2 (by omega) (fun a h => by cases h; exact ⟨by omega, hno⟩)]
          rfl
        | some a =>
          obtain ⟨g1, g2⟩ := hst a rfl
          simp only
          rw [ih _ (some a) acc d2 (by omega) (fun b h => by
            cases h
            refine ⟨by omega, fun i k1 k2 => ?_⟩
            by_cases hi : i < pos
            · exact g2 i k1 hi
            · exact hno i (by omega) k2)]
          rfl
    · rw [Lib.spansFromP_end isBlank s (f + 1) pos st acc hp]
      exact atEnd pos st acc (by omega) hst
theorem words_tie (s : ByteArray) : (wordsB s).map (·.data.toList) = wrd s.data.toList := by
  have h := spans_words s s.size 0 none [] (Nat.zero_le _) (by omega) (fun a h => by cases h)
  simp only [List.map_nil, List.nil_append, Option.getD_none, List.drop_zero] at h
  rw [← h]
  unfold wordsB Lib.goFieldsP Lib.spansOfP
  rw [List.map_map]
  refine List.map_congr_left fun x _ => ?_
  exact Lib.extract_data s x.1 x.2

theorem spl_mem {c : UInt8} {l p : List UInt8} (h : p ∈ spl c l) : c ∉ p := by
  induction l generalizing p with
  | nil => simp [spl] at h; subst h; simp
  | cons x r ih =>
    rw [spl_cons] at h
    split at h
    · rcases List.mem_cons.1 h with rfl | h
      · simp
      · exact ih h
    · rename_i hx
      have := spl_pos c r
      cases hs : spl c r with
      | nil => rw [hs] at this; simp at this
      | cons q qs =>
        rw [hs] at h
        rcases List.mem_cons.1 h with rfl | h
        · have := ih (p := q) (by rw [hs]; exact List.mem_cons_self ..)
          simp
          exact ⟨fun e => hx e.symm, this⟩
        · exact ih (by rw [hs]; exact List.mem_cons_of_mem _ h)
def tot (xs : List (List UInt8)) : Nat := (xs.map fun p => p.length + 1).sum
theorem tot_spl (c : UInt8) (l : List UInt8) : tot (spl c l) = l.length + 1 := by
  induction l with
  | nil => simp [spl, tot]
  | cons x r ih =>
    rw [spl_cons]
    split
    · unfold tot at *; simp [ih]; omega
    · have := spl_pos c r
      cases hs : spl c r with
      | nil => rw [hs] at this; simp at this
      | cons q qs =>
        rw [hs] at ih
        unfold tot at *
        simp [consP] at ih ⊢
        omega
theorem tot_filter (p : List UInt8 → Bool) (xs : List (List UInt8)) : tot (xs.filter p) ≤ tot xs := by
  induction xs with
  | nil => simp [tot]
  | cons x r ih =>
    rw [List.filter_cons]
    split
    · unfold tot at *; simp; omega
    · unfold tot at *; simp; omega
theorem tot_len (xs : List (List UInt8)) : xs.length ≤ tot xs := by
  induction xs with
  | nil => simp [tot]
  | cons x r ih => unfold tot at *; simp; omega
theorem join_cons2 (c : List UInt8) (x y : List UInt8) (r : List (List UInt8)) : c.intercalate (x :: y :: r) = x ++ c ++ c.intercalate (y :: r) := by
  simp [List.intercalate, List.intersperse]
theorem join_one (c x : List UInt8) : c.intercalate [x] = x := by simp [List.intercalate, List.intersperse]
theorem join_nil (c : List UInt8) : c.intercalate [] = [] := by simp [List.intercalate, List.intersperse]
theorem spl_join (c : UInt8) : ∀ xs : List (List UInt8), xs ≠ [] → (∀ p ∈ xs, c ∉ p) → spl c ([c].intercalate xs) = xs
  | [], h, _ => absurd rfl h
  | [x], _, h => by rw [join_one]; exact spl_no (h x (List.mem_cons_self ..))
  | x :: y :: r, _, h => by
    rw [join_cons2, List.append_assoc]
    show spl c (x ++ c :: [c].intercalate (y :: r)) = _
    rw [spl_cut (h x (List.mem_cons_self ..)), spl_join c (y :: r) (by simp) (fun p hp => h p (List.mem_cons_of_mem _ hp))]
theorem wrd_join (xs : List (List UInt8)) (h : ∀ p ∈ xs, p ≠ [] ∧ (32 : UInt8) ∉ p) : wrd ([32].intercalate xs) = xs := by
  cases xs with
  | nil => rw [join_nil]; exact wrd_nil
  | cons x r =>
    unfold wrd
    rw [spl_join 32 (x :: r) (by simp) (fun p hp => (h p hp).2)]
    refine List.filter_eq_self.2 fun p hp => ?_
    simp [(h p hp).1]
theorem data_inj {a b : ByteArray} (h : a.data.toList = b.data.toList) : a = b := by
  apply ByteArray.ext
  exact Array.ext' h
theorem datas_inj {l m : List ByteArray} (h : l.map (·.data.toList) = m.map (·.data.toList)) : l = m := by
  induction l generalizing m with
  | nil => cases m <;> simp_all
  | cons a r ih =>
    cases m with
    | nil => simp at h
    | cons b t =>
      simp only [List.map_cons, List.cons.injEq] at h
      rw [data_inj h.1, ih h.2]
end Go.Proofs.YtpehinmckppjoaaGreatDoor
namespace Go.Proofs.YtpehinmckppjoaaGreatDoor
open Go.RowKit
set_option linter.unusedSimpArgs false
set_option linter.unusedVariables false

def datas (l : List ByteArray) : List (List UInt8) := l.map (·.data.toList)
def joinB (sep : ByteArray) (l : List ByteArray) : ByteArray := ⟨(sep.data.toList.intercalate (datas l)).toArray⟩
theorem joinB_data (sep : ByteArray) (l : List ByteArray) : (joinB sep l).data.toList = sep.data.toList.intercalate (datas l) := by simp [joinB]
theorem joinB_size (sep : ByteArray) (l : List ByteArray) : (joinB sep l).size = (sep.data.toList.intercalate (datas l)).length := by
  rw [← joinB_data, Array.length_toList]; rfl

set_option maxHeartbeats 400000 in
theorem text_Join (sep : ByteArray) (a : Option Addr) (n c : Nat) (l : List ByteArray) (w : World) (hs : Ss w a n l) (hc : n ≤ c) (hn : n ≤ 140737488355328) (hlen : (sep.data.toList.intercalate (datas l)).length ≤ 140737488355328) :
    Calls Tryz.prog 34 #[.string sep, .slice a n c] w fun e w' => e = .returned (.string (joinB sep l)) ∧ Kept w w' := by
  have hl := hs.len
  by_cases h0 : n = 0
  · subst h0
    have hnil : l = [] := List.eq_nil_of_length_eq_zero hl
    have hj : joinB sep l = ⟨#[]⟩ := by subst hnil; unfold joinB datas; rw [List.map_nil, join_nil]
    rw [hj]
    have HC := hidMk (Tryz.strings_Join_none a c sep w)
    clear hs hlen
    go_enter Tryz.func34, Tryz.ntmps34
    go_wp2_with fail
    refine HC.out.mono ?_
    rintro e w1 ⟨rfl, rfl⟩
    go_wp2_with fail
    go_ret
    exact ⟨rfl, Kept.refl _⟩
  · obtain ⟨b, o, rfl, hb, hcs⟩ := hs.cells (by omega)
    have HC := hidMk (Tryz.strings_Join b o c l sep w (fun j x hj => by
      have hjl := (List.getElem?_eq_some_iff.1 hj).1
      rw [hcs j (by omega), List.getD_eq_getElem?_getD, hj]
      rfl) hb (by omega) (by omega) hlen)
    have HJ := hidMk (show (⟨(Lib.join (l.map (·.data.toList)) sep.data.toList).toArray⟩ : ByteArray) = joinB sep l from rfl)
    rw [HJ.out, hl] at HC
    clear hs hlen hcs
    generalize joinB sep l = r at *
    go_enter Tryz.func34, Tryz.ntmps34
    go_wp2_with fail
    refine HC.out.mono ?_
    rintro e w1 ⟨rfl, k1⟩
    have K1 : Hid (Kept w w1) := hidMk k1
    clear k1
    go_wp2_with fail
    go_ret
    exact ⟨rfl, K1.out⟩
end Go.Proofs.YtpehinmckppjoaaGreatDoor
