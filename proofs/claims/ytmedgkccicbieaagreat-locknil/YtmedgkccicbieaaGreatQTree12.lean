/- What a whole tree answers. · Lists of places held against each other; what must come of fixed calls (layer 5). -/
import Derived.Test.YtmedgkccicbieaaGreatQTree10
import Derived.Test.YtmedgkccicbieaaGreatQTreeMath4B
namespace Go.Proofs.YtmedgkccicbieaaGreat
open Go.RowKit Go.Maps
set_option linter.unusedSimpArgs false
set_option linter.unusedVariables false

theorem Whole.tb {w : World} {p : Nat} {l : List Nd} (h : Whole w p l) : ∃ mb, TB w p mb l := by
  obtain ⟨⟨mb, pb, kv, rk, fr, tu, ov, lv, h1, _⟩, _, _⟩ := h
  exact ⟨mb, h1.toTB⟩
theorem Whole.big {w : World} {p : Nat} {l : List Nd} (h : Whole w p l) : l.length ≤ 60 := by
  obtain ⟨mb, h1⟩ := h.tb
  exact h1.big
def kidsI (l : List Nd) (i : Int) : List Int := if isP l i then ints (kidN l i) else []
def leafI (l : List Nd) (i : Int) : Bool := decide (isP l i) && leafB l i.toNat
def fromI (l : List Nd) (i : Int) : Int := if isP l i then spFrom l i else 0
def toI (l : List Nd) (i : Int) : Int := if isP l i then spTo l i else 0
theorem lvs_len {l : List Nd} (h : Tr l) : (lvsN l).length ≤ l.length := Nat.le_trans (List.length_filter_le ..) (ord_len h)
theorem w_Len {w : World} {p : Nat} {l : List Nd} (h : Whole w p l) : Calls Tryz.prog 97 #[.pointer (some ⟨p, 0, none⟩)] w fun e w' => e = .returned (.int .i64 l.length) ∧ w' = w := by
  obtain ⟨mb, h1⟩ := h.tb
  exact tree_Len h1
theorem w_Up {w : World} {p : Nat} {l : List Nd} (h : Whole w p l) (i : Int) : Calls Tryz.prog 136 #[.pointer (some ⟨p, 0, none⟩), .int .i64 i] w fun e w' => e = .returned (.int .i64 (upI l i)) ∧ w' = w := by
  obtain ⟨mb, h1⟩ := h.tb
  exact tree_Up h1 i
theorem w_Name {w : World} {p : Nat} {l : List Nd} (h : Whole w p l) (i : Int) : Calls Tryz.prog 155 #[.pointer (some ⟨p, 0, none⟩), .int .i64 i] w fun e w' => e = .returned (.string (nmI l i)) ∧ w' = w := by
  obtain ⟨mb, h1⟩ := h.tb
  exact tree_Name h1 i
theorem w_Within {w : World} {p : Nat} {l : List Nd} (h : Whole w p l) (i k : Int) : Calls Tryz.prog 104 #[.pointer (some ⟨p, 0, none⟩), .int .i64 i, .int .i64 k] w fun e w' => e = .returned (.bool (decide (k ∈ abvA l i))) ∧ w' = w := by
  obtain ⟨mb, h1⟩ := h.tb
  obtain ⟨e1, e2⟩ := hl_ends h.tr.nl i
  exact tree_Within h1 e2 e1 k
theorem w_Leaves {w : World} {p : Nat} {l : List Nd} (h : Whole w p l) : Calls Tryz.prog 96 #[.pointer (some ⟨p, 0, none⟩)] w fun e w' => ∃ v, e = .returned v ∧ OwnI w' w.heap.size v (ints (lvsN l)) ∧ Kept w w' := by
  have hb := h.big
  have hlen := lvs_len h.tr
  obtain ⟨⟨mb, pb, kv, rk, fr, tu, ov, lv, h1, _, ⟨a, c, h3, h4⟩, ⟨a', c', h5, h6⟩, _⟩, _, _⟩ := h
  subst h3 h5
  have hc := h1.c3
  have HC := hidMk (slices_CloneI a' (lvsN l).length c' (ints (lvsN l)) w h6 (by omega))
  clear h1 h4 h6
  go_enter Tryz.func96, Tryz.ntmps96
  go_wp2_with (go_at_call 133; refine HC.out.mono ?_; rintro e w1 ⟨v1, rfl, o1, k1⟩; have O1 := hidMk o1; have K1 := hidMk k1; clear o1 k1)
  go_ret
  exact ⟨_, rfl, O1.out, K1.out⟩
theorem w_Span {w : World} {p : Nat} {l : List Nd} (h : Whole w p l) (i : Int) : Calls Tryz.prog 107 #[.pointer (some ⟨p, 0, none⟩), .int .i64 i] w fun e w' => e = .returned (.tuple #[.int .i64 (fromI l i), .int .i64 (toI l i)]) ∧ Kept w w' := by
  have hb := h.big
  obtain ⟨⟨mb, pb, kv, rk, fr, tu, ov, lv, h1, _, _, _, h7, h8⟩, htr, _⟩ := h
  have H := hidMk (tree_has h1.toTB i)
  by_cases hp : isP l i
  · rw [decide_eq_true hp] at H
    obtain ⟨k, rfl⟩ : ∃ k : Nat, i = k := ⟨i.toNat, by have := hp.1; omega⟩
    have hk : k < l.length := by have := hp.2; omega
    obtain ⟨e1, e2, _⟩ := span_eq htr hk (h7 k hk)
    have e : fromI l k = fr k := by unfold fromI; rw [if_pos hp]; exact e1.symm
    have e' : toI l k = tu k := by unfold toI; rw [if_pos hp]; exact e2.symm
    rw [e, e']
    have h0 := h1.c0
    have hc := h1.fr k hk
    have hc' := h1.to k hk
    clear h1 h7 h8 e hp e' e1 e2
    generalize fr k = x at *
    generalize tu k = y at *
    go_enter Tryz.func107, Tryz.ntmps107
    go_wp2_with (go_at_call 135; refine H.out.mono ?_; rintro e w1 ⟨rfl, rfl⟩)
    go_quiet (fail)
    go_wp2_with fail
    go_ret2
    exact ⟨rfl, (Kept.refl _).drewN _⟩
  · rw [decide_eq_false hp] at H
    have e : fromI l i = 0 := if_neg hp
    have e' : toI l i = 0 := if_neg hp
    rw [e, e']
    clear h1 h7 h8 e hp e'
    go_enter Tryz.func107, Tryz.ntmps107
    go_wp2_with (go_at_call 135; refine H.out.mono ?_; rintro e w1 ⟨rfl, rfl⟩)
    go_ret2
    exact ⟨rfl, Kept.refl _⟩
end Go.Proofs.YtmedgkccicbieaaGreat
namespace Go.Proofs.YtmedgkccicbieaaGreat
open Go.RowKit Go.Maps
set_option linter.unusedSimpArgs false
set_option linter.unusedVariables false

def k5 : List Nd := [(⟨#[97, 108, 108]⟩, -1), (⟨#[97]⟩, 0), (⟨#[98]⟩, 0), (⟨#[99]⟩, 1)]
end Go.Proofs.YtmedgkccicbieaaGreat
