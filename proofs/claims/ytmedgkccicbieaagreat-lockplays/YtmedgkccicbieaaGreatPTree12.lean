/- What a whole tree answers. · Lists of places held against each other; what must come of fixed calls (layer 5). -/
import Derived.Test.YtmedgkccicbieaaGreatPTree10B
import Derived.Test.YtmedgkccicbieaaGreatPTreeMath4B
namespace Go.Proofs.YtmedgkccicbieaaGreat
open Go.RowKit Go.Maps
set_option linter.unusedSimpArgs false
set_option linter.unusedVariables false

theorem Whole.tb {w : World} {p : Nat} {l : List Nd} (h : Whole w p l) : ∃ mb, TB w p mb l := by
  obtain ⟨⟨mb, pb, kv, rk, fr, tu, ov, lv, h1, _⟩, _, _⟩ := h
  exact ⟨mb, h1.toTB⟩
theorem Whole.big {w : World} {p : Nat} {l : List Nd} (h : Whole w p l) : l.length ≤ 60 := by
  obtain ⟨mb, h1⟩ := h.tb
  exact h1.big
def rankI (l : List Nd) (i : Int) : Int := if isP l i ∧ leafB l i.toNat = true then rnk l i.toNat else -1
def kidsI (l : List Nd) (i : Int) : List Int := if isP l i then ints (kidN l i) else []
def leafI (l : List Nd) (i : Int) : Bool := decide (isP l i) && leafB l i.toNat
def fromI (l : List Nd) (i : Int) : Int := if isP l i then spFrom l i else 0
def toI (l : List Nd) (i : Int) : Int := if isP l i then spTo l i else 0
theorem lvs_len {l : List Nd} (h : Tr l) : (lvsN l).length ≤ l.length := Nat.le_trans (List.length_filter_le ..) (ord_len h)
theorem w_Len {w : World} {p : Nat} {l : List Nd} (h : Whole w p l) : Calls Tryz.prog 97 #[.pointer (some ⟨p, 0, none⟩)] w fun e w' => e = .returned (.int .i64 l.length) ∧ w' = w := by
  obtain ⟨mb, h1⟩ := h.tb
  exact tree_Len h1
theorem w_Up {w : World} {p : Nat} {l : List Nd} (h : Whole w p l) (i : Int) : Calls Tryz.prog 136 #[.pointer (some ⟨p, 0, none⟩), .int .i64 i] w fun e w' => e = .returned (.int .i64 (upI l i)) ∧ w' = w := by
  obtain ⟨mb, h1⟩ := h.tb
  exact tree_Up h1 i
theorem w_Name {w : World} {p : Nat} {l : List Nd} (h : Whole w p l) (i : Int) : Calls Tryz.prog 155 #[.pointer (some ⟨p, 0, none⟩), .int .i64 i] w fun e w' => e = .returned (.string (nmI l i)) ∧ w' = w := by
  obtain ⟨mb, h1⟩ := h.tb
  exact tree_Name h1 i
theorem w_Within {w : World} {p : Nat} {l : List Nd} (h : Whole w p l) (i k : Int) : Calls Tryz.prog 104 #[.pointer (some ⟨p, 0, none⟩), .int .i64 i, .int .i64 k] w fun e w' => e = .returned (.bool (decide (k ∈ abvA l i))) ∧ w' = w := by
  obtain ⟨mb, h1⟩ := h.tb
  obtain ⟨e1, e2⟩ := hl_ends h.tr.nl i
  exact tree_Within h1 e2 e1 k
theorem w_Leaves {w : World} {p : Nat} {l : List Nd} (h : Whole w p l) : Calls Tryz.prog 96 #[.pointer (some ⟨p, 0, none⟩)] w fun e w' => ∃ v, e = .returned v ∧ OwnI w' w.heap.size v (ints (lvsN l)) ∧ Kept w w' := by
  have hb := h.big
  have hlen := lvs_len h.tr
  obtain ⟨⟨mb, pb, kv, rk, fr, tu, ov, lv, h1, _, ⟨a, c, h3, h4⟩, ⟨a', c', h5, h6⟩, _⟩, _, _⟩ := h
  subst h3 h5
  have hc := h1.c3
  have HC := hidMk (slices_CloneI a' (lvsN l).length c' (ints (lvsN l)) w h6 (by omega))
  clear h1 h4 h6
  go_enter Tryz.func96, Tryz.ntmps96
  go_wp2_with (go_at_call 133; refine HC.out.mono ?_; rintro e w1 ⟨v1, rfl, o1, k1⟩; have O1 := hidMk o1; have K1 := hidMk k1; clear o1 k1)
  go_ret
  exact ⟨_, rfl, O1.out, K1.out⟩
theorem w_Span {w : World} {p : Nat} {l : List Nd} (h : Whole w p l) (i : Int) : Calls Tryz.prog 107 #[.pointer (some ⟨p, 0, none⟩), .int .i64 i] w fun e w' => e = .returned (.tuple #[.int .i64 (fromI l i), .int .i64 (toI l i)]) ∧ Kept w w' := by
  have hb := h.big
  obtain ⟨⟨mb, pb, kv, rk, fr, tu, ov, lv, h1, _, _, _, h7, h8⟩, htr, _⟩ := h
  have H := hidMk (tree_has h1.toTB i)
  by_cases hp : isP l i
  · rw [decide_eq_true hp] at H
    obtain ⟨k, rfl⟩ : ∃ k : Nat, i = k := ⟨i.toNat, by have := hp.1; omega⟩
    have hk : k < l.length := by have := hp.2; omega
    obtain ⟨e1, e2, _⟩ := span_eq htr hk (h7 k hk)
    have e : fromI l k = fr k := by unfold fromI; rw [if_pos hp]; exact e1.symm
    have e' : toI l k = tu k := by unfold toI; rw [if_pos hp]; exact e2.symm
    rw [e, e']
    have h0 := h1.c0
    have hc := h1.fr k hk
    have hc' := h1.to k hk
    clear h1 h7 h8 e hp e' e1 e2
    generalize fr k = x at *
    generalize tu k = y at *
    go_enter Tryz.func107, Tryz.ntmps107
    go_wp2_with (go_at_call 135; refine H.out.mono ?_; rintro e w1 ⟨rfl, rfl⟩)
    go_quiet (fail)
    go_wp2_with fail
    go_ret2
    exact ⟨rfl, (Kept.refl _).drewN _⟩
  · rw [decide_eq_false hp] at H
    have e : fromI l i = 0 := if_neg hp
    have e' : toI l i = 0 := if_neg hp
    rw [e, e']
    clear h1 h7 h8 e hp e'
    go_enter Tryz.func107, Tryz.ntmps107
    go_wp2_with (go_at_call 135; refine H.out.mono ?_; rintro e w1 ⟨rfl, rfl⟩)
    go_ret2
    exact ⟨rfl, Kept.refl _⟩

theorem ints_differ {k : Nat} {x y : List Int} (hl : x.length = y.length) (hk : k < x.length) (h : x.getD k 0 ≠ y.getD k 0) : x ≠ y := fun e => h (by rw [e])
theorem ints_alike {x y : List Int} (hl : x.length = y.length) (h : ∀ j, j < x.length → x.getD j 0 = y.getD j 0) : x = y := by
  apply List.ext_getElem hl
  intro j h1 h2
  have := h j h1
  simpa [List.getD, List.getElem?_eq_getElem h1, List.getElem?_eq_getElem h2] using this
set_option maxHeartbeats 800000 in
theorem ref_Ints (a b : Option Addr) (n m c d : Nat) (x y : List Int) (w : World) (hx : Sl .i64 w a n x) (hy : Sl .i64 w b m y) :
    Calls Tryz.prog 20 #[.slice a n c, .slice b m d] w fun e w' => e = .returned (.bool (decide (x = y))) ∧ Kept w w' := by
  have hlx := hx.len
  have hly := hy.len
  have hbx := hx.big
  have hby := hy.big
  unfold maxLen at hbx hby
  by_cases hnm : n = m
  · subst hnm
    obtain ⟨r, hr⟩ : ∃ r, decide (x = y) = r := ⟨_, rfl⟩
    rw [hr]
    have HR := hidMk hr
    have HX := hidMk hx
    have HY := hidMk hy
    clear hr hx hy
    have hne : ((n : Int) != (n : Int)) = false := by simp
    go_enter Tryz.func20, Tryz.ntmps20
    go_wp2_with fail
    go_loopw [5] (fun i wr => ∃ k q : Nat, k ≤ n ∧ i = .int .i64 k ∧ wr = w.drewN q ∧ Hid (∀ j, j < k → x.getD j 0 = y.getD j 0)) (fun i _ => n - (intOf i).toNat)
    case atStart => exact ⟨0, 0, Nat.zero_le _, rfl, rfl, hidMk fun j hj => absurd hj (by omega)⟩
    case round =>
      obtain ⟨k, q, hk, rfl, rfl, HJ⟩ := hrel
      by_cases hkn : k < n
      · obtain ⟨b1, o1, rfl, _, hcs1⟩ := HX.out.cells (by omega)
        obtain ⟨b2, o2, rfl, _, hcs2⟩ := HY.out.cells (by omega)
        have c1 := hcs1 k hkn
        have c2 := hcs2 k hkn
        clear hcs1 hcs2
        by_cases he : x.getD k 0 = y.getD k 0
        · have HS := hidMk (show ∀ j, j < k + 1 → x.getD j 0 = y.getD j 0 from fun j hj => by
            by_cases e : j = k
            · subst e; exact he
            · exact HJ.out j (by omega))
          rw [← he] at c2
          generalize x.getD k 0 = z at *
          have hz : (z != z) = false := by simp
          clear he
          go_wp2_with fail
          go_quiet (fail)
          go_wp2_with fail
          exact ⟨⟨k + 1, q + nq, by omega, by go_num, by simp, HS⟩, by simp [intOf]; omega⟩
        · have HD := hidMk (show r = false from HR.out ▸ decide_eq_false (ints_differ (by omega) (by omega) he))
          generalize x.getD k 0 = z1 at *
          generalize y.getD k 0 = z2 at *
          have hz : (z1 != z2) = true := by simpa using he
          clear he
          go_wp2_with fail
          go_quiet (fail)
          go_wp2_with fail
          go_ret
          exact ⟨by rw [HD.out]; rfl, ((Kept.refl w).drewN _).drewN _⟩
      · have e : k = n := by omega
        subst e
        have HD := hidMk (show r = true from HR.out ▸ decide_eq_true (ints_alike (by omega) (fun j hj => HJ.out j (by omega))))
        have hkk : ¬ ((k : Int) < (k : Int)) := by omega
        go_wp2_with fail
        go_ret
        exact ⟨by rw [HD.out]; rfl, (Kept.refl w).drewN _⟩
  · have e : decide (x = y) = false := decide_eq_false (fun e => hnm (by rw [← hlx, ← hly, e]))
    rw [e]
    have hne : ((n : Int) != (m : Int)) = true := by simp; omega
    clear hx hy e
    go_enter Tryz.func20, Tryz.ntmps20
    go_wp2_with fail
    go_ret
    exact ⟨rfl, Kept.refl _⟩

def k5 : List Nd := [(⟨#[97, 108, 108]⟩, -1), (⟨#[97]⟩, 0), (⟨#[98]⟩, 0), (⟨#[99]⟩, 1)]
end Go.Proofs.YtmedgkccicbieaaGreat
