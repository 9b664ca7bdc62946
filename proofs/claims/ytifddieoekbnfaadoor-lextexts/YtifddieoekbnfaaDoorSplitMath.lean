/- Parts between bytes: by definition, and as the library cuts them. No program is named here. -/
import Derived.Test.YtifddieoekbnfaaDoorText7
namespace Go.Proofs.YtifddieoekbnfaaDoor
open Go.RowKit
set_option linter.unusedSimpArgs false
set_option linter.unusedVariables false

def consP (x : UInt8) : List (List UInt8) → List (List UInt8)
  | [] => [[x]]
  | p :: ps => (x :: p) :: ps
def spl (c : UInt8) : List UInt8 → List (List UInt8)
  | [] => [[]]
  | x :: r => if x = c then [] :: spl c r else consP x (spl c r)
theorem spl_cons (c x : UInt8) (r : List UInt8) : spl c (x :: r) = if x = c then [] :: spl c r else consP x (spl c r) := rfl
theorem spl_pos (c : UInt8) (l : List UInt8) : 0 < (spl c l).length := by
  cases l with
  | nil => simp [spl]
  | cons x r =>
    unfold spl
    split
    · simp
    · cases spl c r <;> simp [consP]
theorem spl_no {c : UInt8} {a : List UInt8} (h : c ∉ a) : spl c a = [a] := by
  induction a with
  | nil => rfl
  | cons x r ih =>
    simp at h
    unfold spl
    rw [if_neg (fun e => h.1 e.symm), ih h.2]
    rfl
theorem spl_cut {c : UInt8} {a b : List UInt8} (h : c ∉ a) : spl c (a ++ c :: b) = a :: spl c b := by
  induction a with
  | nil => simp [spl]
  | cons x r ih =>
    simp at h
    rw [List.cons_append, spl_cons, if_neg (fun e => h.1 e.symm), ih h.2]
    rfl
theorem spl_snoc_c (c : UInt8) (l : List UInt8) : spl c (l ++ [c]) = spl c l ++ [[]] := by
  induction l with
  | nil => simp [spl]
  | cons x r ih =>
    rw [List.cons_append]
    unfold spl
    rw [ih]
    split
    · rfl
    · have := spl_pos c r
      cases h : spl c r with
      | nil => rw [h] at this; simp at this
      | cons p ps => rfl
theorem spl_snoc {c x : UInt8} (hx : x ≠ c) (l : List UInt8) : spl c (l ++ [x]) = (spl c l).set ((spl c l).length - 1) ((spl c l).getD ((spl c l).length - 1) [] ++ [x]) := by
  induction l with
  | nil => simp [spl, hx, consP]
  | cons y r ih =>
    rw [List.cons_append]
    unfold spl
    rw [ih]
    have := spl_pos c r
    cases h : spl c r with
    | nil => rw [h] at this; simp at this
    | cons p ps =>
      split
      · simp [List.getD]
      · cases ps with
        | nil => simp [consP]
        | cons q qs => simp [consP, List.getD]
def wrd (l : List UInt8) : List (List UInt8) := (spl 32 l).filter fun p => decide (p ≠ [])
theorem wrd_no {a : List UInt8} (h : (32 : UInt8) ∉ a) (hn : a ≠ []) : wrd a = [a] := by
  unfold wrd; rw [spl_no h]; simp [hn]
theorem wrd_nil : wrd [] = [] := by simp [wrd, spl]
theorem wrd_cut {a b : List UInt8} (h : (32 : UInt8) ∉ a) (hn : a ≠ []) : wrd (a ++ 32 :: b) = a :: wrd b := by
  unfold wrd; rw [spl_cut h]; simp [hn]
theorem wrd_blank (b : List UInt8) : wrd (32 :: b) = wrd b := by
  unfold wrd
  have := spl_cut (c := 32) (a := []) (b := b) (by simp)
  rw [List.nil_append] at this
  rw [this]; simp

theorem split_tie (c : UInt8) : ∀ (n : Nat) (l : List UInt8), l.length ≤ n → Lib.splitK [c] 0 (Lib.count l [c]) l = spl c l := by
  intro n
  induction n with
  | zero =>
    intro l hl
    obtain rfl : l = [] := List.eq_nil_of_length_eq_zero (by omega)
    rw [Lib.count_miss (by rw [Lib.index_one]; rfl)]
    rfl
  | succ n ih =>
    intro l hl
    by_cases h : Lib.indexByte l c = -1
    · rw [Lib.count_miss (by rw [Lib.index_one]; exact h)]
      have hno : c ∉ l := fun hm => by
        obtain ⟨k, hk, e⟩ := List.getElem_of_mem hm
        exact Lib.indexByte_none h k (by rw [List.getElem?_eq_getElem hk, e])
      rw [spl_no hno]
      rfl
    · have hge := Lib.indexByte_ge l c
      obtain ⟨i, hi⟩ : ∃ i : Nat, Lib.indexByte l c = i := ⟨(Lib.indexByte l c).toNat, by omega⟩
      obtain ⟨h1, h2⟩ := Lib.indexByte_some hi
      have hil : i < l.length := (List.getElem?_eq_some_iff.1 h1).1
      have hix : Lib.index l [c] = i := by rw [Lib.index_one]; exact hi
      have e : l = l.take i ++ c :: l.drop (i + 1) := by
        conv => lhs; rw [← List.take_append_drop i l, List.drop_eq_getElem_cons hil]
        have : l[i] = c := by rw [List.getElem?_eq_getElem hil] at h1; exact Option.some.inj h1
        rw [this]
      have hno : c ∉ l.take i := fun hm => by
        obtain ⟨k, hk, ek⟩ := List.getElem_of_mem hm
        rw [List.length_take] at hk
        refine h2 k (by omega) ?_
        rw [List.getElem_take] at ek
        rw [List.getElem?_eq_getElem (by omega), ek]
      have hs : spl c l = l.take i :: spl c (l.drop (i + 1)) := by
        conv => lhs; rw [e]
        exact spl_cut hno
      rw [hs, Lib.count_hit (by simp) hix, Nat.add_comm 1]
      unfold Lib.splitK
      rw [if_neg (by rw [hix]; simp), hix]
      simp only [Int.toNat_natCast, Nat.add_zero, List.length_singleton]
      rw [ih (l.drop (i + 1)) (by rw [List.length_drop]; omega)]
theorem parts_tie (s : ByteArray) : (partsB s).map (·.data.toList) = spl 10 s.data.toList := by
  unfold partsB
  rw [Lib.splitB_data]
  exact split_tie 10 s.data.toList.length s.data.toList (Nat.le_refl _)

theorem get_some (s : ByteArray) (i : Nat) (h : i < s.size) : s.data.toList[i]? = some (s.get! i) := by
  have h' : i < s.data.size := h
  rw [Array.getElem?_toList, Array.getElem?_eq_getElem h']
  simp [ByteArray.get!, h']
  exact (getElem!_pos s.data i h').symm
theorem dec (s : ByteArray) (pos : Nat) (h : pos < s.size) : 1 ≤ (Utf8.decode s pos).2 ∧ pos + (Utf8.decode s pos).2 ≤ s.size ∧
    (((Utf8.decode s pos).1 = 32 ∧ (Utf8.decode s pos).2 = 1 ∧ (s.get! pos).toNat = 32) ∨ ((Utf8.decode s pos).1 ≠ 32 ∧ ∀ k, k < (Utf8.decode s pos).2 → (s.get! (pos + k)).toNat ≠ 32)) := by
  have one : ∀ r : Nat, r ≠ 32 → (s.get! pos).toNat ≠ 32 → 1 ≤ (r, 1).2 ∧ pos + (r, 1).2 ≤ s.size ∧ (((r, 1).1 = 32 ∧ (r, 1).2 = 1 ∧ (s.get! pos).toNat = 32) ∨ ((r, 1).1 ≠ 32 ∧ ∀ k, k < (r, 1).2 → (s.get! (pos + k)).toNat ≠ 32)) := by
    intro r hr hb
    refine ⟨Nat.le_refl _, h, .inr ⟨hr, fun k hk => ?_⟩⟩
    have e : k = 0 := by simpa using hk
    subst e
    exact hb
  unfold Utf8.decode
  simp only [Nat.add_zero]
  split
  · rename_i h0
    by_cases e : (s.get! pos).toNat = 32
    · exact ⟨Nat.le_refl _, h, .inl ⟨e, rfl, e⟩⟩
    · exact one _ e e
  · rename_i h0
    have hb : (s.get! pos).toNat ≠ 32 := by omega
    have er : Utf8.runeError ≠ 32 := by decide
    split
    · rename_i h1
      simp at h1
      split
      · rename_i h2
        refine ⟨by simp, by simp; omega, .inr ⟨by simp; omega, fun k hk => ?_⟩⟩
        simp at hk
        rcases (show k = 0 ∨ k = 1 by omega) with rfl | rfl
        · simpa using hb
        · omega
      · exact one _ er hb
    · split
      · rename_i h1
        simp at h1
        split
        · rename_i h2
          simp at h2
          refine ⟨by simp, by simp; omega, .inr ⟨by simp; omega, fun k hk => ?_⟩⟩
          simp at hk
          rcases (show k = 0 ∨ k = 1 ∨ k = 2 by omega) with rfl | rfl | rfl
          · simpa using hb
          · omega
          · omega
        · exact one _ er hb
      · split
        · rename_i h1
          simp at h1
          split
          · rename_i h2
            simp at h2
            refine ⟨by simp, by simp; omega, .inr ⟨by simp; omega, fun k hk => ?_⟩⟩
            simp at hk
            rcases (show k = 0 ∨ k = 1 ∨ k = 2 ∨ k = 3 by omega) with rfl | rfl | rfl | rfl
            · simpa using hb
            · omega
            · omega
            · omega
          · exact one _ er hb
        · exact one _ er hb
end Go.Proofs.YtifddieoekbnfaaDoor
