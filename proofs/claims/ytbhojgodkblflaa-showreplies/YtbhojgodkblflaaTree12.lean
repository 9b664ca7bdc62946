/- What a whole tree answers. · Lists of places held against each other; what must come of fixed calls (layer 5). -/
import Derived.Test.YtbhojgodkblflaaTree10
import Derived.Test.YtbhojgodkblflaaTreeMath4B
namespace Go.Proofs.Ytbhojgodkblflaa
open Go.RowKit Go.Maps
set_option linter.unusedSimpArgs false
set_option linter.unusedVariables false

theorem Whole.tb {w : World} {p : Nat} {l : List Nd} (h : Whole w p l) : ∃ mb, TB w p mb l := by
  obtain ⟨⟨mb, pb, kv, rk, fr, tu, ov, lv, h1, _⟩, _, _⟩ := h
  exact ⟨mb, h1.toTB⟩
theorem Whole.big {w : World} {p : Nat} {l : List Nd} (h : Whole w p l) : l.length ≤ 60 := by
  obtain ⟨mb, h1⟩ := h.tb
  exact h1.big
def rankI (l : List Nd) (i : Int) : Int := if isP l i ∧ leafB l i.toNat = true then rnk l i.toNat else -1
def kidsI (l : List Nd) (i : Int) : List Int := if isP l i then ints (kidN l i) else []
def leafI (l : List Nd) (i : Int) : Bool := decide (isP l i) && leafB l i.toNat
def fromI (l : List Nd) (i : Int) : Int := if isP l i then spFrom l i else 0
def toI (l : List Nd) (i : Int) : Int := if isP l i then spTo l i else 0
theorem lvs_len {l : List Nd} (h : Tr l) : (lvsN l).length ≤ l.length := Nat.le_trans (List.length_filter_le ..) (ord_len h)
theorem w_Len {w : World} {p : Nat} {l : List Nd} (h : Whole w p l) : Calls Try.prog 51 #[.pointer (some ⟨p, 0, none⟩)] w fun e w' => e = .returned (.int .i64 l.length) ∧ w' = w := by
  obtain ⟨mb, h1⟩ := h.tb
  exact tree_Len h1
theorem w_Up {w : World} {p : Nat} {l : List Nd} (h : Whole w p l) (i : Int) : Calls Try.prog 87 #[.pointer (some ⟨p, 0, none⟩), .int .i64 i] w fun e w' => e = .returned (.int .i64 (upI l i)) ∧ w' = w := by
  obtain ⟨mb, h1⟩ := h.tb
  exact tree_Up h1 i
theorem w_Name {w : World} {p : Nat} {l : List Nd} (h : Whole w p l) (i : Int) : Calls Try.prog 41 #[.pointer (some ⟨p, 0, none⟩), .int .i64 i] w fun e w' => e = .returned (.string (nmI l i)) ∧ w' = w := by
  obtain ⟨mb, h1⟩ := h.tb
  exact tree_Name h1 i
theorem w_Depth {w : World} {p : Nat} {l : List Nd} (h : Whole w p l) (i : Int) : Calls Try.prog 83 #[.pointer (some ⟨p, 0, none⟩), .int .i64 i] w fun e w' => e = .returned (.int .i64 (dep l i : Nat)) ∧ w' = w := by
  obtain ⟨mb, h1⟩ := h.tb
  obtain ⟨e1, e2⟩ := hl_ends h.tr.nl i
  have := tree_Depth h1 e2 e1
  exact this
theorem w_Leaves {w : World} {p : Nat} {l : List Nd} (h : Whole w p l) : Calls Try.prog 52 #[.pointer (some ⟨p, 0, none⟩)] w fun e w' => ∃ v, e = .returned v ∧ OwnI w' w.heap.size v (ints (lvsN l)) ∧ Kept w w' := by
  have hb := h.big
  have hlen := lvs_len h.tr
  obtain ⟨⟨mb, pb, kv, rk, fr, tu, ov, lv, h1, _, ⟨a, c, h3, h4⟩, ⟨a', c', h5, h6⟩, _⟩, _, _⟩ := h
  subst h3 h5
  have hc := h1.c3
  have HC := hidMk (slices_CloneI a' (lvsN l).length c' (ints (lvsN l)) w h6 (by omega))
  clear h1 h4 h6
  go_enter Try.func52, Try.ntmps52
  go_wp2_with (go_at_call 72; refine HC.out.mono ?_; rintro e w1 ⟨v1, rfl, o1, k1⟩; have O1 := hidMk o1; have K1 := hidMk k1; clear o1 k1)
  go_ret
  exact ⟨_, rfl, O1.out, K1.out⟩
end Go.Proofs.Ytbhojgodkblflaa
namespace Go.Proofs.Ytbhojgodkblflaa
open Go.RowKit Go.Maps
set_option linter.unusedSimpArgs false
set_option linter.unusedVariables false

theorem ints_differ {k : Nat} {x y : List Int} (hl : x.length = y.length) (hk : k < x.length) (h : x.getD k 0 ≠ y.getD k 0) : x ≠ y := fun e => h (by rw [e])
theorem ints_alike {x y : List Int} (hl : x.length = y.length) (h : ∀ j, j < x.length → x.getD j 0 = y.getD j 0) : x = y := by
  apply List.ext_getElem hl
  intro j h1 h2
  have := h j h1
  simpa [List.getD, List.getElem?_eq_getElem h1, List.getElem?_eq_getElem h2] using this
def k5 : List Nd := [(⟨#[97, 108, 108]⟩, -1), (⟨#[97]⟩, 0), (⟨#[98]⟩, 0), (⟨#[99]⟩, 1)]
theorem k5_good : Good k5 := by unfold Good; decide +kernel
theorem k5_new : NewIs k5 0 0 := .inr ⟨by decide, .inl ⟨k5_good, rfl, rfl⟩⟩
theorem k5_ord : ints (ordN k5) = [0, 1, 3, 2] := by decide +kernel
theorem k5_lvs : ints (lvsN k5) = [3, 2] := by decide +kernel
theorem k5_from : fromI k5 1 = 0 ∧ toI k5 1 = 1 := by decide +kernel
theorem k5_find : findI k5 ⟨#[99]⟩ = 3 := by decide +kernel
theorem k5_ns (w : World) (t : TypeId) : Ns (w.alloc (.cells #[.string ⟨#[97, 108, 108]⟩, .int .i64 (-1), .string ⟨#[97]⟩, .int .i64 0, .string ⟨#[98]⟩, .int .i64 0, .string ⟨#[99]⟩, .int .i64 1] t)) (some ⟨w.heap.size, 0, none⟩) 4 k5 := by
  refine ⟨rfl, by unfold maxLen; omega, ?_, ?_, fun _ => ⟨_, _, rfl, by simp, fun i hi => ?_⟩⟩
  · intro i hi
    have : i = 0 ∨ i = 1 ∨ i = 2 ∨ i = 3 := by have : k5.length = 4 := rfl; omega
    rcases this with rfl | rfl | rfl | rfl <;> (unfold maxLen; decide +kernel)
  · intro i hi
    have : i = 0 ∨ i = 1 ∨ i = 2 ∨ i = 3 := by have : k5.length = 4 := rfl; omega
    unfold isI
    rcases this with rfl | rfl | rfl | rfl <;> decide +kernel
  · have : i = 0 ∨ i = 1 ∨ i = 2 ∨ i = 3 := by omega
    rcases this with rfl | rfl | rfl | rfl <;> simp [k5, nmA, upA]

end Go.Proofs.Ytbhojgodkblflaa
