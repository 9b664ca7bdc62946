/- A line's words: their places; what each one is. No program is walked here. -/
import Derived.Test.YtpehinmckppjoaaGreatDoorRLex1
import Derived.Test.YtpehinmckppjoaaGreatDoorRText8B
import Derived.Test.YtpehinmckppjoaaGreatDoorRText9B
import Derived.Lib.IndexMore
namespace Go.Proofs.YtpehinmckppjoaaGreatDoor
open Go.RowKit
set_option linter.unusedSimpArgs false
set_option linter.unusedVariables false

def bstr (l : List UInt8) : ByteArray := ⟨l.toArray⟩
def bstrs (l : List (List UInt8)) : List ByteArray := l.map bstr
theorem bstr_data (l : List UInt8) : (bstr l).data.toList = l := by simp [bstr]
theorem data_bstr (s : ByteArray) : bstr s.data.toList = s := data_inj (bstr_data _)
theorem bstr_size (l : List UInt8) : (bstr l).size = l.length := by
  have h : (bstr l).data.toList.length = (bstr l).size := by rw [Array.length_toList]; rfl
  rw [← h, bstr_data]
theorem data_len (s : ByteArray) : s.data.toList.length = s.size := by rw [Array.length_toList]; rfl
theorem bstrs_len (l : List (List UInt8)) : (bstrs l).length = l.length := by simp [bstrs]
theorem bstrs_getD (l : List (List UInt8)) (k : Nat) (h : k < l.length) : (bstrs l).getD k ByteArray.empty = bstr (l.getD k []) := by
  unfold bstrs
  rw [List.getD_eq_getElem?_getD, List.getD_eq_getElem?_getD, List.getElem?_map, List.getElem?_eq_getElem h]
  rfl
theorem datas_bstrs (l : List (List UInt8)) : (bstrs l).map (·.data.toList) = l := by
  unfold bstrs
  rw [List.map_map]
  conv => rhs; rw [← List.map_id l]
  exact List.map_congr_left fun x _ => bstr_data x
theorem bstrs_datas (l : List ByteArray) : bstrs (l.map (·.data.toList)) = l := datas_inj (datas_bstrs _)

/-- The words of parts, with their places. -/
def tk : Nat → List (List UInt8) → List (Nat × List UInt8)
  | _, [] => []
  | o, p :: r => if p = [] then tk (o + 1) r else (o, p) :: tk (o + p.length + 1) r
def tks (l : List UInt8) : List (Nat × List UInt8) := tk 0 (spl 32 l)
theorem tk_snd : ∀ (ps : List (List UInt8)) (o : Nat), (tk o ps).map (·.2) = ps.filter fun p => decide (p ≠ [])
  | [], _ => rfl
  | p :: r, o => by
    unfold tk
    by_cases h : p = []
    · rw [if_pos h, tk_snd r]; simp [h]
    · rw [if_neg h, List.map_cons, tk_snd r]; simp [h]
theorem tks_snd (l : List UInt8) : (tks l).map (·.2) = wrd l := tk_snd _ _
theorem tk_cons (o : Nat) (p : List UInt8) (r : List (List UInt8)) : tk o (p :: r) = if p = [] then tk (o + 1) r else (o, p) :: tk (o + p.length + 1) r := rfl
theorem tk_app : ∀ (xs ys : List (List UInt8)) (o : Nat), tk o (xs ++ ys) = tk o xs ++ tk (o + tot xs) ys
  | [], ys, o => by simp [tk, tot]
  | p :: r, ys, o => by
    rw [List.cons_append, tk_cons o p (r ++ ys), tk_cons o p r]
    have ht : tot (p :: r) = p.length + 1 + tot r := by simp [tot]
    by_cases h : p = []
    · rw [if_pos h, if_pos h, tk_app r ys, ht]; subst h; rw [List.length_nil, show o + 1 + tot r = o + (0 + 1 + tot r) by omega]
    · rw [if_neg h, if_neg h, tk_app r ys, ht, List.cons_append, show o + p.length + 1 + tot r = o + (p.length + 1 + tot r) by omega]
theorem tks_len (l : List UInt8) : (tks l).length ≤ l.length + 1 := by
  have h : (tks l).length = (wrd l).length := by rw [← tks_snd, List.length_map]
  have h2 := tot_len (wrd l)
  have h3 : tot (wrd l) ≤ tot (spl 32 l) := tot_filter _ _
  rw [tot_spl] at h3
  omega
theorem unspl (c : UInt8) : ∀ l : List UInt8, [c].intercalate (spl c l) = l
  | [] => by rw [show spl c [] = [[]] from rfl, join_one]
  | x :: r => by
    have ih := unspl c r
    have hp := spl_pos c r
    rw [spl_cons]
    cases hs : spl c r with
    | nil => rw [hs] at hp; simp at hp
    | cons p t =>
      rw [hs] at ih
      by_cases h : x = c
      · rw [if_pos h, join_cons2, ih, h]; rfl
      · rw [if_neg h]
        show [c].intercalate ((x :: p) :: t) = _
        cases t with
        | nil => rw [join_one] at ih ⊢; rw [ih]
        | cons q u => rw [join_cons2] at ih ⊢; rw [← ih]; simp
/-- Each word's place, told from the end of the one ahead of it. -/
def Lay (L : List UInt8) : Nat → List (Nat × List UInt8) → Prop
  | _, [] => True
  | at_, (q, w) :: ts => at_ ≤ q ∧ (∃ rest, L.drop at_ = List.replicate (q - at_) 32 ++ (w ++ rest)) ∧ w ≠ [] ∧ (32 : UInt8) ∉ w ∧ q + w.length ≤ L.length ∧ Lay L (q + w.length) ts
theorem lay_tk (L : List UInt8) : ∀ (ps : List (List UInt8)) (at_ o : Nat), (∀ p ∈ ps, (32 : UInt8) ∉ p) → at_ ≤ o → L.drop at_ = List.replicate (o - at_) 32 ++ [32].intercalate ps → Lay L at_ (tk o ps)
  | [], _, _, _, _, _ => trivial
  | [p], at_, o, h, ho, hL => by
    rw [join_one] at hL
    unfold tk
    by_cases e : p = []
    · rw [if_pos e]; trivial
    · rw [if_neg e]
      have hl := congrArg List.length hL
      rw [List.length_drop, List.length_append, List.length_replicate] at hl
      have hp : 0 < p.length := by cases p with | nil => exact absurd rfl e | cons _ _ => simp
      exact ⟨ho, ⟨[], by rw [List.append_nil]; exact hL⟩, e, h p (by simp), by omega, trivial⟩
  | p :: q :: r, at_, o, h, ho, hL => by
    rw [join_cons2] at hL
    have h2 : ∀ x ∈ q :: r, (32 : UInt8) ∉ x := fun x hx => h x (List.mem_cons_of_mem _ hx)
    have hl := congrArg List.length hL
    rw [List.length_drop, List.length_append, List.length_replicate, List.length_append, List.length_append, List.length_singleton] at hl
    unfold tk
    by_cases e : p = []
    · rw [if_pos e]
      refine lay_tk L (q :: r) at_ (o + 1) h2 (by omega) ?_
      rw [hL, e, show o + 1 - at_ = (o - at_) + 1 by omega, List.replicate_succ']
      simp
    · rw [if_neg e]
      refine ⟨ho, ⟨[32] ++ [32].intercalate (q :: r), by rw [hL]; simp⟩, e, h p (by simp), by omega, ?_⟩
      refine lay_tk L (q :: r) (o + p.length) (o + p.length + 1) h2 (by omega) ?_
      have e1 : L.drop (o + p.length) = (L.drop at_).drop (o - at_ + p.length) := by rw [List.drop_drop]; congr 1; omega
      rw [e1, hL, show o + p.length + 1 - (o + p.length) = 1 by omega]
      rw [← List.append_assoc, ← List.append_assoc, List.append_assoc (List.replicate (o - at_) 32 ++ p), List.drop_append_of_le_length (by rw [List.length_append, List.length_replicate]; omega), List.drop_of_length_le (by rw [List.length_append, List.length_replicate]; omega)]
      rfl
theorem lay_tks (L : List UInt8) : Lay L 0 (tks L) := lay_tk L _ 0 0 (fun p hp => spl_mem hp) (Nat.le_refl _) (by rw [unspl]; simp)
/-- Where the word ahead of word k ended. -/
def endOf (ts : List (Nat × List UInt8)) (k : Nat) : Nat := if k = 0 then 0 else (ts.getD (k - 1) (0, [])).1 + (ts.getD (k - 1) (0, [])).2.length
theorem lay_at {L : List UInt8} : ∀ (ts : List (Nat × List UInt8)) (at_ k : Nat), Lay L at_ ts → (hk : k < ts.length) → ∃ e, e = (if k = 0 then at_ else endOf ts k) ∧ e ≤ ts[k].1 ∧ (∃ rest, L.drop e = List.replicate (ts[k].1 - e) 32 ++ (ts[k].2 ++ rest)) ∧ ts[k].2 ≠ [] ∧ (32 : UInt8) ∉ ts[k].2 ∧ ts[k].1 + ts[k].2.length ≤ L.length
  | (q, w) :: ts, at_, 0, h, _ => ⟨at_, by simp, h.1, h.2.1, h.2.2.1, h.2.2.2.1, h.2.2.2.2.1⟩
  | (q, w) :: ts, at_, k + 1, h, hk => by
    have hk' : k < ts.length := by simpa using hk
    obtain ⟨e, h0, h1, h2, h3, h4, h5⟩ := lay_at ts (q + w.length) k h.2.2.2.2.2 hk'
    refine ⟨e, ?_, h1, h2, h3, h4, h5⟩
    rw [if_neg (by omega), h0]
    unfold endOf
    rw [if_neg (show ¬ k + 1 = 0 by omega), show k + 1 - 1 = k by omega]
    cases k with
    | zero => simp
    | succ j => rw [if_neg (by omega), if_neg (by omega)]; simp
theorem lay_get (L : List UInt8) {k : Nat} (hk : k < (tks L).length) : endOf (tks L) k ≤ (tks L)[k].1 ∧ (∃ rest, L.drop (endOf (tks L) k) = List.replicate ((tks L)[k].1 - endOf (tks L) k) 32 ++ ((tks L)[k].2 ++ rest)) ∧ (tks L)[k].2 ≠ [] ∧ (32 : UInt8) ∉ (tks L)[k].2 ∧ (tks L)[k].1 + (tks L)[k].2.length ≤ L.length := by
  obtain ⟨e, h0, h1⟩ := lay_at (tks L) 0 k (lay_tks L) hk
  have : e = endOf (tks L) k := by
    rw [h0]
    by_cases h : k = 0
    · subst h; simp [endOf]
    · rw [if_neg h]
  rw [this] at h1
  exact h1
theorem index_skip : ∀ (j : Nat) (w rest : List UInt8), w ≠ [] → (32 : UInt8) ∉ w → Lib.index (List.replicate j 32 ++ (w ++ rest)) w = j
  | 0, w, rest, hw, _ => by
    cases w with
    | nil => exact absurd rfl hw
    | cons c t =>
      rw [List.replicate_zero, List.nil_append, List.cons_append]
      unfold Lib.index
      rw [if_pos (by rw [List.isPrefixOf_iff_prefix]; exact ⟨rest, by simp⟩)]
      rfl
  | j + 1, w, rest, hw, hn => by
    have ih := index_skip j w rest hw hn
    rw [List.replicate_succ, List.cons_append]
    unfold Lib.index
    rw [if_neg, ih]
    · rw [if_neg (by first | (simp; done) | (simp; omega))]
      omega
    · cases w with
      | nil => exact absurd rfl hw
      | cons c t =>
        intro h
        rw [List.isPrefixOf_iff_prefix] at h
        obtain ⟨r, hr⟩ := h
        simp only [List.cons_append, List.cons.injEq] at hr
        exact hn (by rw [hr.1]; simp)

/-- The parts of a word between slashes. -/
def slB : ByteArray := ⟨#[47]⟩
def slP (s : ByteArray) : List ByteArray := Lib.splitB slB 0 (Lib.countB s slB) s
theorem slP_len (s : ByteArray) : (slP s).length = Lib.countB s slB + 1 := Lib.splitB_all slB (by decide) 0 _ s rfl
theorem slP_tie (s : ByteArray) : (slP s).map (·.data.toList) = spl 47 s.data.toList := by
  unfold slP
  rw [Lib.splitB_data]
  exact split_tie 47 s.data.toList.length s.data.toList (Nat.le_refl _)
theorem slP_spl (s : ByteArray) : slP s = bstrs (spl 47 s.data.toList) := by rw [← slP_tie, bstrs_datas]
theorem slP_le (s : ByteArray) : (slP s).length ≤ s.size + 1 := by
  have h := tot_len (spl 47 s.data.toList)
  rw [tot_spl, data_len] at h
  rw [slP_spl, bstrs_len]
  exact h
theorem slP_size (s : ByteArray) : ∀ x ∈ slP s, x.size ≤ s.size := by
  intro x hx
  rw [slP_spl] at hx
  obtain ⟨p, hp, rfl⟩ := List.mem_map.1 hx
  have h : ∀ (xs : List (List UInt8)) (p : List UInt8), p ∈ xs → p.length + 1 ≤ tot xs := by
    intro xs
    induction xs with
    | nil => intro p hp; cases hp
    | cons y r ih =>
      intro p hp
      rcases List.mem_cons.1 hp with rfl | hp
      · simp [tot]
      · have := ih p hp; unfold tot at *; simp; omega
  have := h _ _ hp
  rw [tot_spl, data_len] at this
  rw [bstr_size]
  omega
/-- Whether a word is a number; whether all parts are names, and more than one. -/
def isNum (s : ByteArray) : Prop := numS (refV s) = s ∧ s.size ≤ 20
instance (s : ByteArray) : Decidable (isNum s) := by unfold isNum; infer_instance
def cellB (s : ByteArray) : Bool := decide (1 < (slP s).length) && (slP s).all nameB
def rdK (s : ByteArray) : Int := if isNum s then 2 else if nameB s = true then 1 else if cellB s = true then 3 else 0
def rdN (s : ByteArray) : Int := if isNum s then refV s else 0
def rdP (s : ByteArray) : List ByteArray := if isNum s then [] else if nameB s = true then [] else if cellB s = true then slP s else []
/-- What is told of a word; what is held of it against another one. -/
def cor (x : Wd) : Int × ByteArray × Int × Int × List ByteArray := (x.k, x.t, x.p, x.n, x.ps)
def mkc (y : Nat × List UInt8) : Int × ByteArray × Int × Int × List ByteArray := (rdK (bstr y.2), bstr y.2, (y.1 : Int), rdN (bstr y.2), rdP (bstr y.2))
def key (x : Wd) : Int × ByteArray × Int × List ByteArray := (x.k, x.t, x.n, x.ps)
end Go.Proofs.YtpehinmckppjoaaGreatDoor
