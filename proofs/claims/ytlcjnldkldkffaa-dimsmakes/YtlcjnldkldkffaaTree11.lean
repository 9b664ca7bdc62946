/- What a whole tree answers. -/
import Derived.Test.YtlcjnldkldkffaaTree10
import Derived.Test.YtlcjnldkldkffaaTreeMath4B
namespace Go.Proofs.Ytlcjnldkldkffaa
open Go.RowKit Go.Maps
set_option linter.unusedSimpArgs false
set_option linter.unusedVariables false

theorem Whole.tb {w : World} {p : Nat} {l : List Nd} (h : Whole w p l) : ∃ mb, TB w p mb l := by
  obtain ⟨⟨mb, pb, kv, rk, fr, tu, ov, lv, h1, _⟩, _, _⟩ := h
  exact ⟨mb, h1.toTB⟩
theorem Whole.big {w : World} {p : Nat} {l : List Nd} (h : Whole w p l) : l.length ≤ 60 := by
  obtain ⟨mb, h1⟩ := h.tb
  exact h1.big
def rankI (l : List Nd) (i : Int) : Int := if isP l i ∧ leafB l i.toNat = true then rnk l i.toNat else -1
def kidsI (l : List Nd) (i : Int) : List Int := if isP l i then ints (kidN l i) else []
def leafI (l : List Nd) (i : Int) : Bool := decide (isP l i) && leafB l i.toNat
def fromI (l : List Nd) (i : Int) : Int := if isP l i then spFrom l i else 0
def toI (l : List Nd) (i : Int) : Int := if isP l i then spTo l i else 0
theorem lvs_len {l : List Nd} (h : Tr l) : (lvsN l).length ≤ l.length := Nat.le_trans (List.length_filter_le ..) (ord_len h)
theorem w_Len {w : World} {p : Nat} {l : List Nd} (h : Whole w p l) : Calls Try.prog 42 #[.pointer (some ⟨p, 0, none⟩)] w fun e w' => e = .returned (.int .i64 l.length) ∧ w' = w := by
  obtain ⟨mb, h1⟩ := h.tb
  exact tree_Len h1
theorem w_Up {w : World} {p : Nat} {l : List Nd} (h : Whole w p l) (i : Int) : Calls Try.prog 51 #[.pointer (some ⟨p, 0, none⟩), .int .i64 i] w fun e w' => e = .returned (.int .i64 (upI l i)) ∧ w' = w := by
  obtain ⟨mb, h1⟩ := h.tb
  exact tree_Up h1 i
theorem w_Name {w : World} {p : Nat} {l : List Nd} (h : Whole w p l) (i : Int) : Calls Try.prog 39 #[.pointer (some ⟨p, 0, none⟩), .int .i64 i] w fun e w' => e = .returned (.string (nmI l i)) ∧ w' = w := by
  obtain ⟨mb, h1⟩ := h.tb
  exact tree_Name h1 i
theorem w_Find {w : World} {p : Nat} {l : List Nd} (h : Whole w p l) (s : ByteArray) (hs : s.size ≤ maxLen) : Calls Try.prog 38 #[.pointer (some ⟨p, 0, none⟩), .string s] w fun e w' => e = .returned (.int .i64 (findI l s)) ∧ w' = w := by
  obtain ⟨⟨mb, pb, kv, rk, fr, tu, ov, lv, h1, _⟩, _, _⟩ := h
  exact tree_Find h1 s hs
theorem w_Depth {w : World} {p : Nat} {l : List Nd} (h : Whole w p l) (i : Int) : Calls Try.prog 68 #[.pointer (some ⟨p, 0, none⟩), .int .i64 i] w fun e w' => e = .returned (.int .i64 (dep l i : Nat)) ∧ w' = w := by
  obtain ⟨mb, h1⟩ := h.tb
  obtain ⟨e1, e2⟩ := hl_ends h.tr.nl i
  have := tree_Depth h1 e2 e1
  exact this
theorem w_Order {w : World} {p : Nat} {l : List Nd} (h : Whole w p l) : Calls Try.prog 18 #[.pointer (some ⟨p, 0, none⟩)] w fun e w' => ∃ v, e = .returned v ∧ OwnI w' w.heap.size v (ints (ordN l)) ∧ Kept w w' := by
  have hb := h.big
  have hlen := ord_len h.tr
  obtain ⟨⟨mb, pb, kv, rk, fr, tu, ov, lv, h1, _, ⟨a, c, h3, h4⟩, ⟨a', c', h5, h6⟩, _⟩, _, _⟩ := h
  subst h3 h5
  have hc := h1.c2
  have HC := hidMk (slices_CloneI a (ordN l).length c (ints (ordN l)) w h4 (by omega))
  clear h1 h4 h6
  go_enter Try.func18, Try.ntmps18
  go_wp2_with (go_at_call 36; refine HC.out.mono ?_; rintro e w1 ⟨v1, rfl, o1, k1⟩; have O1 := hidMk o1; have K1 := hidMk k1; clear o1 k1)
  go_ret
  exact ⟨_, rfl, O1.out, K1.out⟩
theorem w_Leaves {w : World} {p : Nat} {l : List Nd} (h : Whole w p l) : Calls Try.prog 46 #[.pointer (some ⟨p, 0, none⟩)] w fun e w' => ∃ v, e = .returned v ∧ OwnI w' w.heap.size v (ints (lvsN l)) ∧ Kept w w' := by
  have hb := h.big
  have hlen := lvs_len h.tr
  obtain ⟨⟨mb, pb, kv, rk, fr, tu, ov, lv, h1, _, ⟨a, c, h3, h4⟩, ⟨a', c', h5, h6⟩, _⟩, _, _⟩ := h
  subst h3 h5
  have hc := h1.c3
  have HC := hidMk (slices_CloneI a' (lvsN l).length c' (ints (lvsN l)) w h6 (by omega))
  clear h1 h4 h6
  go_enter Try.func46, Try.ntmps46
  go_wp2_with (go_at_call 36; refine HC.out.mono ?_; rintro e w1 ⟨v1, rfl, o1, k1⟩; have O1 := hidMk o1; have K1 := hidMk k1; clear o1 k1)
  go_ret
  exact ⟨_, rfl, O1.out, K1.out⟩
theorem w_Leaf {w : World} {p : Nat} {l : List Nd} (h : Whole w p l) (i : Int) : Calls Try.prog 43 #[.pointer (some ⟨p, 0, none⟩), .int .i64 i] w fun e w' => e = .returned (.bool (leafI l i)) ∧ w' = w := by
  have hb := h.big
  obtain ⟨⟨mb, pb, kv, rk, fr, tu, ov, lv, h1, h2, _⟩, _, _⟩ := h
  have H := hidMk (tree_has h1.toTB i)
  by_cases hp : isP l i
  · rw [decide_eq_true hp] at H
    obtain ⟨k, rfl⟩ : ∃ k : Nat, i = k := ⟨i.toNat, by have := hp.1; omega⟩
    have hk : k < l.length := by have := hp.2; omega
    have e : leafI l k = leafB l k := by unfold leafI; rw [decide_eq_true hp]; rfl
    rw [e]
    have h0 := h1.c0
    have hkd := h1.kd k hk
    have hsl := h2 k hk
    have hln := hsl.len
    rw [ints_len] at hln
    clear h1 h2 e hp hsl
    generalize kv k = x at *
    obtain ⟨ka, kn, kc⟩ := x
    simp only [slv] at hkd hln
    by_cases hkn : kn = 0
    · have e : leafB l k = true := by
        have : kidN l k = [] := List.eq_nil_of_length_eq_zero (by omega)
        simp [leafB, this]
      rw [e]
      subst hkn
      clear hln e
      go_enter Try.func43, Try.ntmps43
      go_wp2_with (go_at_call 53; refine H.out.mono ?_; rintro e w1 ⟨rfl, rfl⟩)
      go_ret
      exact ⟨rfl, rfl⟩
    · have e : leafB l k = false := by
        have : kidN l k ≠ [] := fun e => hkn (by rw [← hln, e]; rfl)
        simp [leafB, this]
      rw [e]
      have hkn' : ((kn : Int) == 0) = false := by simpa using hkn
      clear hln e hkn
      go_enter Try.func43, Try.ntmps43
      go_wp2_with (go_at_call 53; refine H.out.mono ?_; rintro e w1 ⟨rfl, rfl⟩)
      go_ret
      exact ⟨rfl, rfl⟩
  · rw [decide_eq_false hp] at H
    have e : leafI l i = false := by unfold leafI; rw [decide_eq_false hp]; rfl
    rw [e]
    clear h1 h2 e hp
    go_enter Try.func43, Try.ntmps43
    go_wp2_with (go_at_call 53; refine H.out.mono ?_; rintro e w1 ⟨rfl, rfl⟩)
    go_ret
    exact ⟨rfl, rfl⟩
end Go.Proofs.Ytlcjnldkldkffaa
