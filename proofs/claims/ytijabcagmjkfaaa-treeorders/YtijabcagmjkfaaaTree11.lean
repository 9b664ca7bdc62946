/- What a whole tree answers. -/
import Derived.Test.YtijabcagmjkfaaaTree10
import Derived.Test.YtijabcagmjkfaaaTreeMath4
namespace Go.Proofs.Ytijabcagmjkfaaa
open Go.RowKit Go.Maps
set_option linter.unusedSimpArgs false
set_option linter.unusedVariables false

theorem Whole.tb {w : World} {p : Nat} {l : List Nd} (h : Whole w p l) : ∃ mb, TB w p mb l := by
  obtain ⟨⟨mb, pb, kv, rk, fr, tu, ov, lv, h1, _⟩, _, _⟩ := h
  exact ⟨mb, h1.toTB⟩
theorem Whole.big {w : World} {p : Nat} {l : List Nd} (h : Whole w p l) : l.length ≤ 60 := by
  obtain ⟨mb, h1⟩ := h.tb
  exact h1.big
def rankI (l : List Nd) (i : Int) : Int := if isP l i ∧ leafB l i.toNat = true then rnk l i.toNat else -1
def kidsI (l : List Nd) (i : Int) : List Int := if isP l i then ints (kidN l i) else []
def leafI (l : List Nd) (i : Int) : Bool := decide (isP l i) && leafB l i.toNat
def fromI (l : List Nd) (i : Int) : Int := if isP l i then spFrom l i else 0
def toI (l : List Nd) (i : Int) : Int := if isP l i then spTo l i else 0
theorem lvs_len {l : List Nd} (h : Tr l) : (lvsN l).length ≤ l.length := Nat.le_trans (List.length_filter_le ..) (ord_len h)
theorem w_Len {w : World} {p : Nat} {l : List Nd} (h : Whole w p l) : Calls Try.prog 12 #[.pointer (some ⟨p, 0, none⟩)] w fun e w' => e = .returned (.int .i64 l.length) ∧ w' = w := by
  obtain ⟨mb, h1⟩ := h.tb
  exact tree_Len h1
theorem w_Up {w : World} {p : Nat} {l : List Nd} (h : Whole w p l) (i : Int) : Calls Try.prog 16 #[.pointer (some ⟨p, 0, none⟩), .int .i64 i] w fun e w' => e = .returned (.int .i64 (upI l i)) ∧ w' = w := by
  obtain ⟨mb, h1⟩ := h.tb
  exact tree_Up h1 i
theorem w_Name {w : World} {p : Nat} {l : List Nd} (h : Whole w p l) (i : Int) : Calls Try.prog 15 #[.pointer (some ⟨p, 0, none⟩), .int .i64 i] w fun e w' => e = .returned (.string (nmI l i)) ∧ w' = w := by
  obtain ⟨mb, h1⟩ := h.tb
  exact tree_Name h1 i
theorem w_Find {w : World} {p : Nat} {l : List Nd} (h : Whole w p l) (s : ByteArray) (hs : s.size ≤ maxLen) : Calls Try.prog 13 #[.pointer (some ⟨p, 0, none⟩), .string s] w fun e w' => e = .returned (.int .i64 (findI l s)) ∧ w' = w := by
  obtain ⟨⟨mb, pb, kv, rk, fr, tu, ov, lv, h1, _⟩, _, _⟩ := h
  exact tree_Find h1 s hs
theorem w_Depth {w : World} {p : Nat} {l : List Nd} (h : Whole w p l) (i : Int) : Calls Try.prog 17 #[.pointer (some ⟨p, 0, none⟩), .int .i64 i] w fun e w' => e = .returned (.int .i64 (dep l i : Nat)) ∧ w' = w := by
  obtain ⟨mb, h1⟩ := h.tb
  obtain ⟨e1, e2⟩ := hl_ends h.tr.nl i
  have := tree_Depth h1 e2 e1
  exact this
theorem w_Within {w : World} {p : Nat} {l : List Nd} (h : Whole w p l) (i k : Int) : Calls Try.prog 30 #[.pointer (some ⟨p, 0, none⟩), .int .i64 i, .int .i64 k] w fun e w' => e = .returned (.bool (decide (k ∈ abvA l i))) ∧ w' = w := by
  obtain ⟨mb, h1⟩ := h.tb
  obtain ⟨e1, e2⟩ := hl_ends h.tr.nl i
  exact tree_Within h1 e2 e1 k
theorem w_Above {w : World} {p : Nat} {l : List Nd} (h : Whole w p l) (i : Int) : Calls Try.prog 28 #[.pointer (some ⟨p, 0, none⟩), .int .i64 i] w fun e w' => ∃ v, e = .returned v ∧ OwnI w' w.heap.size v (abvA l i) ∧ Kept w w' := by
  obtain ⟨mb, h1⟩ := h.tb
  obtain ⟨e1, e2⟩ := hl_ends h.tr.nl i
  exact tree_Above h1 e2 e1
theorem w_Order {w : World} {p : Nat} {l : List Nd} (h : Whole w p l) : Calls Try.prog 22 #[.pointer (some ⟨p, 0, none⟩)] w fun e w' => ∃ v, e = .returned v ∧ OwnI w' w.heap.size v (ints (ordN l)) ∧ Kept w w' := by
  have hb := h.big
  have hlen := ord_len h.tr
  obtain ⟨⟨mb, pb, kv, rk, fr, tu, ov, lv, h1, _, ⟨a, c, h3, h4⟩, ⟨a', c', h5, h6⟩, _⟩, _, _⟩ := h
  subst h3 h5
  have hc := h1.c2
  have HC := hidMk (slices_CloneI a (ordN l).length c (ints (ordN l)) w h4 (by omega))
  clear h1 h4 h6
  go_enter Try.func22, Try.ntmps22
  go_wp2_with (go_at_call 64; refine HC.out.mono ?_; rintro e w1 ⟨v1, rfl, o1, k1⟩; have O1 := hidMk o1; have K1 := hidMk k1; clear o1 k1)
  go_ret
  exact ⟨_, rfl, O1.out, K1.out⟩
theorem w_Leaves {w : World} {p : Nat} {l : List Nd} (h : Whole w p l) : Calls Try.prog 24 #[.pointer (some ⟨p, 0, none⟩)] w fun e w' => ∃ v, e = .returned v ∧ OwnI w' w.heap.size v (ints (lvsN l)) ∧ Kept w w' := by
  have hb := h.big
  have hlen := lvs_len h.tr
  obtain ⟨⟨mb, pb, kv, rk, fr, tu, ov, lv, h1, _, ⟨a, c, h3, h4⟩, ⟨a', c', h5, h6⟩, _⟩, _, _⟩ := h
  subst h3 h5
  have hc := h1.c3
  have HC := hidMk (slices_CloneI a' (lvsN l).length c' (ints (lvsN l)) w h6 (by omega))
  clear h1 h4 h6
  go_enter Try.func24, Try.ntmps24
  go_wp2_with (go_at_call 64; refine HC.out.mono ?_; rintro e w1 ⟨v1, rfl, o1, k1⟩; have O1 := hidMk o1; have K1 := hidMk k1; clear o1 k1)
  go_ret
  exact ⟨_, rfl, O1.out, K1.out⟩
theorem w_Kids {w : World} {p : Nat} {l : List Nd} (h : Whole w p l) (i : Int) : Calls Try.prog 26 #[.pointer (some ⟨p, 0, none⟩), .int .i64 i] w fun e w' => ∃ v, e = .returned v ∧ OwnI w' w.heap.size v (kidsI l i) ∧ Kept w w' := by
  have hb := h.big
  obtain ⟨⟨mb, pb, kv, rk, fr, tu, ov, lv, h1, h2, _⟩, _, _⟩ := h
  have H := hidMk (tree_has h1.toTB i)
  by_cases hp : isP l i
  · rw [decide_eq_true hp] at H
    obtain ⟨k, rfl⟩ : ∃ k : Nat, i = k := ⟨i.toNat, by have := hp.1; omega⟩
    have hk : k < l.length := by have := hp.2; omega
    have e : kidsI l k = ints (kidN l k) := if_pos hp
    rw [e]
    have h0 := h1.c0
    have hkd := h1.kd k hk
    have hsl := h2 k hk
    have hkl := kidK_len l l.length k
    have hln := hsl.len
    rw [ints_len] at hln
    clear h1 h2 e hp
    generalize kv k = x at *
    obtain ⟨ka, kn, kc⟩ := x
    simp only [slv] at hkd hsl hln
    have HC := hidMk (slices_CloneI ka kn kc (ints (kidN l k)) w hsl (by unfold kidN at hln; omega))
    clear hsl
    go_enter Try.func26, Try.ntmps26
    go_wp2_with (first | (go_at_call 62; refine H.out.mono ?_; rintro e w1 ⟨rfl, rfl⟩) | (go_at_call 64; refine HC.out.mono ?_; rintro e w1 ⟨v1, rfl, o1, k1⟩; have O1 := hidMk o1; have K1 := hidMk k1; clear o1 k1))
    go_ret
    exact ⟨_, rfl, O1.out, K1.out⟩
  · rw [decide_eq_false hp] at H
    have e : kidsI l i = [] := if_neg hp
    rw [e]
    clear h1 h2 e hp
    go_enter Try.func26, Try.ntmps26
    go_wp2_with (go_at_call 62; refine H.out.mono ?_; rintro e w1 ⟨rfl, rfl⟩)
    go_ret
    exact ⟨_, rfl, ownI_nil _ _, Kept.refl _⟩
theorem w_Leaf {w : World} {p : Nat} {l : List Nd} (h : Whole w p l) (i : Int) : Calls Try.prog 32 #[.pointer (some ⟨p, 0, none⟩), .int .i64 i] w fun e w' => e = .returned (.bool (leafI l i)) ∧ w' = w := by
  have hb := h.big
  obtain ⟨⟨mb, pb, kv, rk, fr, tu, ov, lv, h1, h2, _⟩, _, _⟩ := h
  have H := hidMk (tree_has h1.toTB i)
  by_cases hp : isP l i
  · rw [decide_eq_true hp] at H
    obtain ⟨k, rfl⟩ : ∃ k : Nat, i = k := ⟨i.toNat, by have := hp.1; omega⟩
    have hk : k < l.length := by have := hp.2; omega
    have e : leafI l k = leafB l k := by unfold leafI; rw [decide_eq_true hp]; rfl
    rw [e]
    have h0 := h1.c0
    have hkd := h1.kd k hk
    have hsl := h2 k hk
    have hln := hsl.len
    rw [ints_len] at hln
    clear h1 h2 e hp hsl
    generalize kv k = x at *
    obtain ⟨ka, kn, kc⟩ := x
    simp only [slv] at hkd hln
    by_cases hkn : kn = 0
    · have e : leafB l k = true := by
        have : kidN l k = [] := List.eq_nil_of_length_eq_zero (by omega)
        simp [leafB, this]
      rw [e]
      subst hkn
      clear hln e
      go_enter Try.func32, Try.ntmps32
      go_wp2_with (go_at_call 62; refine H.out.mono ?_; rintro e w1 ⟨rfl, rfl⟩)
      go_ret
      exact ⟨rfl, rfl⟩
    · have e : leafB l k = false := by
        have : kidN l k ≠ [] := fun e => hkn (by rw [← hln, e]; rfl)
        simp [leafB, this]
      rw [e]
      have hkn' : ((kn : Int) == 0) = false := by simpa using hkn
      clear hln e hkn
      go_enter Try.func32, Try.ntmps32
      go_wp2_with (go_at_call 62; refine H.out.mono ?_; rintro e w1 ⟨rfl, rfl⟩)
      go_ret
      exact ⟨rfl, rfl⟩
  · rw [decide_eq_false hp] at H
    have e : leafI l i = false := by unfold leafI; rw [decide_eq_false hp]; rfl
    rw [e]
    clear h1 h2 e hp
    go_enter Try.func32, Try.ntmps32
    go_wp2_with (go_at_call 62; refine H.out.mono ?_; rintro e w1 ⟨rfl, rfl⟩)
    go_ret
    exact ⟨rfl, rfl⟩
theorem w_Rank {w : World} {p : Nat} {l : List Nd} (h : Whole w p l) (i : Int) : Calls Try.prog 34 #[.pointer (some ⟨p, 0, none⟩), .int .i64 i] w fun e w' => e = .returned (.int .i64 (rankI l i)) ∧ w' = w := by
  have hb := h.big
  obtain ⟨⟨mb, pb, kv, rk, fr, tu, ov, lv, h1, _, _, _, h7, h8⟩, htr, _⟩ := h
  have H := hidMk (tree_has h1.toTB i)
  by_cases hp : isP l i
  · rw [decide_eq_true hp] at H
    obtain ⟨k, rfl⟩ : ∃ k : Nat, i = k := ⟨i.toNat, by have := hp.1; omega⟩
    have hk : k < l.length := by have := hp.2; omega
    have e : rankI l k = rk k := by
      unfold rankI
      rw [Int.toNat_natCast]
      cases hlb : leafB l k with
      | true => rw [if_pos ⟨hp, rfl⟩]; exact ((span_eq htr hk (h7 k hk)).2.2 hlb).symm
      | false => rw [if_neg (fun x => by cases x.2)]; exact (h8 k hlb).symm
    rw [e]
    have h0 := h1.c0
    have hc := h1.rk k hk
    clear h1 h7 h8 e hp
    generalize rk k = x at *
    go_enter Try.func34, Try.ntmps34
    go_wp2_with (go_at_call 62; refine H.out.mono ?_; rintro e w1 ⟨rfl, rfl⟩)
    go_ret
    exact ⟨rfl, rfl⟩
  · rw [decide_eq_false hp] at H
    have e : rankI l i = -1 := by unfold rankI; rw [if_neg (fun x => hp x.1)]
    rw [e]
    clear h1 h7 h8 e hp
    go_enter Try.func34, Try.ntmps34
    go_wp2_with (go_at_call 62; refine H.out.mono ?_; rintro e w1 ⟨rfl, rfl⟩)
    go_ret
    exact ⟨rfl, rfl⟩
theorem w_Span {w : World} {p : Nat} {l : List Nd} (h : Whole w p l) (i : Int) : Calls Try.prog 19 #[.pointer (some ⟨p, 0, none⟩), .int .i64 i] w fun e w' => e = .returned (.tuple #[.int .i64 (fromI l i), .int .i64 (toI l i)]) ∧ Kept w w' := by
  have hb := h.big
  obtain ⟨⟨mb, pb, kv, rk, fr, tu, ov, lv, h1, _, _, _, h7, h8⟩, htr, _⟩ := h
  have H := hidMk (tree_has h1.toTB i)
  by_cases hp : isP l i
  · rw [decide_eq_true hp] at H
    obtain ⟨k, rfl⟩ : ∃ k : Nat, i = k := ⟨i.toNat, by have := hp.1; omega⟩
    have hk : k < l.length := by have := hp.2; omega
    obtain ⟨e1, e2, _⟩ := span_eq htr hk (h7 k hk)
    have e : fromI l k = fr k := by unfold fromI; rw [if_pos hp]; exact e1.symm
    have e' : toI l k = tu k := by unfold toI; rw [if_pos hp]; exact e2.symm
    rw [e, e']
    have h0 := h1.c0
    have hc := h1.fr k hk
    have hc' := h1.to k hk
    clear h1 h7 h8 e hp e' e1 e2
    generalize fr k = x at *
    generalize tu k = y at *
    go_enter Try.func19, Try.ntmps19
    go_wp2_with (go_at_call 62; refine H.out.mono ?_; rintro e w1 ⟨rfl, rfl⟩)
    go_quiet (fail)
    go_wp2_with fail
    go_ret2
    exact ⟨rfl, (Kept.refl _).drewN _⟩
  · rw [decide_eq_false hp] at H
    have e : fromI l i = 0 := if_neg hp
    have e' : toI l i = 0 := if_neg hp
    rw [e, e']
    clear h1 h7 h8 e hp e'
    go_enter Try.func19, Try.ntmps19
    go_wp2_with (go_at_call 62; refine H.out.mono ?_; rintro e w1 ⟨rfl, rfl⟩)
    go_ret2
    exact ⟨rfl, Kept.refl _⟩
end Go.Proofs.Ytijabcagmjkfaaa
