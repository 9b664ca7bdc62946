/- A tree without loops: each member once, in order. · Spans: the leaves within a member stand together. -/
import Derived.Test.YtpehinmckppjoaaGreatDoorWChgIB
namespace Go.Proofs.YtpehinmckppjoaaGreatDoor
open Go.RowKit
set_option linter.unusedSimpArgs false
set_option linter.unusedVariables false

/-- How many are on the way up, itself counted. -/
def hl (l : List Nd) (i : Int) : Nat := (abvA l i).length
theorem hl_ends {l : List Nd} (h : noLoop l) (i : Int) : Ends l (hl l i) i ∧ hl l i ≤ l.length := by
  obtain ⟨m, hm, he⟩ := ends_of h i
  have : hl l i = m := abvA_len he hm
  rw [this]
  exact ⟨he, hm⟩
theorem hl_up {l : List Nd} (h : noLoop l) {i : Int} (hi : isP l i) : hl l i = hl l (upI l i) + 1 := by
  obtain ⟨e1, _⟩ := hl_ends h i
  obtain ⟨e2, _⟩ := hl_ends h (upI l i)
  refine ends_unique e1 ⟨?_, fun j hj => ?_⟩
  · rw [← upN_shift]; exact e2.1
  · cases j with
    | zero => exact hi
    | succ j => rw [← upN_shift]; exact e2.2 j (by omega)
theorem hl_upN {l : List Nd} (h : noLoop l) {t : Nat} {x : Int} (hx : ∀ j, j < t → isP l (upN l j x)) : hl l x = hl l (upN l t x) + t := by
  induction t with
  | zero => rfl
  | succ t ih =>
    rw [ih (fun j hj => hx j (by omega)), hl_up h (hx t (by omega))]
    show _ = hl l (upI l (upN l t x)) + (t + 1)
    omega
theorem isP_nat {l : List Nd} {i : Nat} (h : i < l.length) : isP l (i : Int) := ⟨by omega, by omega⟩
theorem kid_up {l : List Nd} {i k : Nat} (h : k ∈ kidN l (i : Int)) : upI l (k : Int) = i ∧ isP l (k : Int) := by
  obtain ⟨h1, h2⟩ := mem_kidN.1 h
  refine ⟨?_, isP_nat h1⟩
  unfold upI
  rw [if_pos (isP_nat h1)]
  exact h2
theorem dfs_up {l : List Nd} {d : Nat} {ps : List Nat} {x : Nat} (hp : ∀ q, q ∈ ps → q < l.length) (h : x ∈ dfsL l d ps) :
    x < l.length ∧ ∃ q, q ∈ ps ∧ ∃ t, upN l t x = (q : Nat) ∧ ∀ j, j < t → isP l (upN l j x) := by
  induction d generalizing ps with
  | zero => simp [dfsL] at h
  | succ d ih =>
    simp only [dfsL, List.mem_flatMap, List.mem_cons] at h
    obtain ⟨i, hi, rfl | h⟩ := h
    · exact ⟨hp _ hi, x, hi, 0, rfl, fun j hj => absurd hj (by omega)⟩
    · obtain ⟨h1, q, hq, t, h2, h3⟩ := ih (fun q hq => (mem_kidN.1 hq).1) h
      obtain ⟨h4, h5⟩ := kid_up hq
      refine ⟨h1, i, hi, t + 1, ?_, fun j hj => ?_⟩
      · show upI l (upN l t x) = _
        rw [h2]
        exact h4
      · by_cases e : j = t
        · subst e; rw [h2]; exact h5
        · exact h3 j (by omega)
theorem dfs_mem {l : List Nd} {t : Nat} : ∀ {d : Nat} {ps : List Nat} {x q : Nat}, t < d → x < l.length → q ∈ ps → upN l t x = (q : Nat) → (∀ j, j < t → isP l (upN l j x)) → x ∈ dfsL l d ps := by
  induction t with
  | zero =>
    intro d ps x q hd hx hq h _
    have e : x = q := by have : (x : Int) = (q : Int) := h; omega
    subst e
    cases d with
    | zero => omega
    | succ d => simp only [dfsL, List.mem_flatMap, List.mem_cons]; exact ⟨x, hq, .inl rfl⟩
  | succ t ih =>
    intro d ps x q hd hx hq h hall
    cases d with
    | zero => omega
    | succ d =>
      have hp := hall t (by omega)
      obtain ⟨k, hk⟩ : ∃ k : Nat, upN l t x = k := ⟨(upN l t x).toNat, by have := hp.1; omega⟩
      have hkl : k < l.length := by rw [hk] at hp; have := hp.2; omega
      have hku : k ∈ kidN l (q : Int) := by
        refine mem_kidN.2 ⟨hkl, ?_⟩
        have e : upI l (upN l t x) = q := h
        rw [hk] at e
        unfold upI at e
        rw [if_pos (isP_nat hkl)] at e
        exact e
      simp only [dfsL, List.mem_flatMap, List.mem_cons]
      exact ⟨q, hq, .inr (ih (by omega) hx hku hk (fun j hj => hall j (by omega)))⟩
theorem dfs_acyc {l : List Nd} (h : noLoop l) (i : Nat) (hi : i < l.length) (d : Nat) : i ∉ dfsL l d (kidN l i) := by
  intro hm
  obtain ⟨_, q, hq, t, h2, h3⟩ := dfs_up (fun q hq => (mem_kidN.1 hq).1) hm
  obtain ⟨h4, h5⟩ := kid_up hq
  have e1 := hl_upN h h3
  have e2 := hl_up h h5
  rw [h2] at e1
  rw [h4] at e2
  omega
def topsN (l : List Nd) : List Nat := kidN l (-1)
theorem nodup_kid (l : List Nd) (j : Int) : (kidN l j).Nodup := by
  unfold kidN kidK
  exact List.Nodup.sublist (List.filter_sublist ..) List.nodup_range
theorem nodup_dfs {l : List Nd} (h : noLoop l) {d : Nat} : ∀ {ps : List Nat}, (∀ q, q ∈ ps → q < l.length) → ps.Nodup → (∀ p, p ∈ ps → ∀ q, q ∈ ps → hl l p = hl l q) → (dfsL l d ps).Nodup := by
  induction d with
  | zero => intro ps _ _ _; exact List.nodup_nil
  | succ d ih =>
    intro ps hp hn hh
    show (ps.flatMap fun i => i :: dfsL l d (kidN l i)).Nodup
    induction ps with
    | nil => exact List.nodup_nil
    | cons a r ihr =>
      rw [List.flatMap_cons]
      rw [List.nodup_cons] at hn
      have hr := ihr (fun q hq => hp q (List.mem_cons_of_mem _ hq)) hn.2 (fun p hp' q hq => hh p (List.mem_cons_of_mem _ hp') q (List.mem_cons_of_mem _ hq))
      have ha : (a :: dfsL l d (kidN l a)).Nodup := by
        rw [List.nodup_cons]
        refine ⟨dfs_acyc h a (hp a (List.mem_cons_self ..)) d, ih (fun q hq => (mem_kidN.1 hq).1) (nodup_kid l a) (fun p hp' q hq => ?_)⟩
        obtain ⟨h4, h5⟩ := kid_up hp'
        obtain ⟨h6, h7⟩ := kid_up hq
        rw [hl_up h h5, hl_up h h7, h4, h6]
      rw [List.nodup_append]
      refine ⟨ha, hr, fun x hx y hy hxy => ?_⟩
      subst hxy
      have g1 : x ∈ dfsL l (d + 1) [a] := by simp only [dfsL, List.flatMap_cons, List.flatMap_nil, List.append_nil]; exact hx
      have g2 : x ∈ dfsL l (d + 1) r := hy
      obtain ⟨_, q1, hq1, t1, a1, a2⟩ := dfs_up (ps := [a]) (fun q hq => by simp at hq; subst hq; exact hp q (List.mem_cons_self ..)) g1
      obtain ⟨_, q2, hq2, t2, b1, b2⟩ := dfs_up (ps := r) (fun q hq => hp q (List.mem_cons_of_mem _ hq)) g2
      simp at hq1
      subst hq1
      have e1 := hl_upN h a2
      have e2 := hl_upN h b2
      rw [a1] at e1
      rw [b1] at e2
      have e3 := hh q1 (List.mem_cons_self ..) q2 (List.mem_cons_of_mem _ hq2)
      have e4 : t1 = t2 := by omega
      subst e4
      rw [a1] at b1
      have e5 : q1 = q2 := by omega
      subst e5
      exact hn.1 hq2
theorem nodup_len {n : Nat} {L : List Nat} (hn : L.Nodup) (hl : ∀ x, x ∈ L → x < n) : L.length ≤ n := by
  by_cases h : L.length ≤ n
  · exact h
  · exfalso
    obtain ⟨a, b, h1, h2, h3⟩ := pig n (fun j => L.getD j 0) (fun j hj => by
      have hj' : j < L.length := by omega
      show L.getD j 0 < n
      rw [List.getD_eq_getElem?_getD, List.getElem?_eq_getElem hj']
      exact hl _ (List.getElem_mem hj'))
    have ha : a < L.length := by omega
    have hb : b < L.length := by omega
    rw [List.getD_eq_getElem?_getD, List.getElem?_eq_getElem ha, List.getD_eq_getElem?_getD, List.getElem?_eq_getElem hb] at h3
    exact (List.pairwise_iff_getElem.1 hn) a b ha hb h1 h3
/-- What members that can be a tree are. -/
structure Tr (l : List Nd) : Prop where
  ups : ∀ i, i < l.length → upA l i = -1 ∨ isP l (upA l i)
  nl : noLoop l
  deep : ∀ i, i < l.length → hl l (i : Int) ≤ 6
theorem tr_of {l : List Nd} (h : Good l) : Tr l := by
  have nl := good_noLoop (fun i hi => h 3 (by omega) i hi)
  refine ⟨fun i hi => ?_, nl, fun i hi => ?_⟩
  · have := h 2 (by omega) i hi
    by_cases e : upA l i = -1 ∨ isP l (upA l i)
    · exact e
    · simp [chk, e] at this
  · have := h 4 (by omega) i hi
    by_cases e : 6 ≤ dep l i
    · simp [chk, e] at this
    · unfold dep at e
      unfold hl
      omega
def ordN (l : List Nd) : List Nat := dfsL l 6 (topsN l)
def lvsN (l : List Nd) : List Nat := (ordN l).filter (leafB l)
theorem tops_lt {l : List Nd} : ∀ q, q ∈ topsN l → q < l.length := fun q hq => (mem_kidN.1 hq).1
theorem tops_hl {l : List Nd} (h : noLoop l) {q : Nat} (hq : q ∈ topsN l) : hl l (q : Int) = 1 := by
  obtain ⟨h1, h2⟩ := mem_kidN.1 hq
  have e : upI l (q : Int) = -1 := by unfold upI; rw [if_pos (isP_nat h1)]; exact h2
  rw [hl_up h (isP_nat h1), e]
  have : hl l (-1) = 0 := by
    have hx := (hl_ends h (-1)).1
    cases hh : hl l (-1) with
    | zero => rfl
    | succ m => rw [hh] at hx; have := hx.2 0 (by omega); exact absurd this.1 (by show ¬ (0 : Int) ≤ -1; omega)
  rw [this]
theorem fit_of {l : List Nd} (h : Tr l) (d : Nat) : ∀ ps : List Nat, (∀ q, q ∈ ps → q < l.length ∧ 7 ≤ hl l (q : Int) + d) → Fit l d ps := by
  induction d with
  | zero =>
    intro ps hp
    cases ps with
    | nil => rfl
    | cons a r =>
      obtain ⟨h1, h2⟩ := hp a (List.mem_cons_self ..)
      have := h.deep a h1
      omega
  | succ d ih =>
    intro ps hp i hi
    refine ih _ (fun q hq => ?_)
    obtain ⟨h4, h5⟩ := kid_up hq
    refine ⟨(mem_kidN.1 hq).1, ?_⟩
    rw [hl_up h.nl h5, h4]
    have := (hp i hi).2
    omega
theorem fit_tops {l : List Nd} (h : Tr l) : Fit l 6 (topsN l) := fit_of h 6 _ (fun q hq => ⟨tops_lt q hq, by rw [tops_hl h.nl hq]; omega⟩)
theorem nodup_ord {l : List Nd} (h : Tr l) : (ordN l).Nodup := nodup_dfs h.nl tops_lt (nodup_kid l _) (fun p hp q hq => by rw [tops_hl h.nl hp, tops_hl h.nl hq])
theorem ord_lt {l : List Nd} : ∀ x, x ∈ ordN l → x < l.length := fun x hx => (dfs_up tops_lt hx).1
theorem ord_len {l : List Nd} (h : Tr l) : (ordN l).length ≤ l.length := nodup_len (nodup_ord h) ord_lt
theorem ord_all {l : List Nd} (h : Tr l) {x : Nat} (hx : x < l.length) : x ∈ ordN l := by
  obtain ⟨he, _⟩ := hl_ends h.nl (x : Int)
  have hd := h.deep x hx
  have hm : 1 ≤ hl l (x : Int) := by rw [hl_up h.nl (isP_nat hx)]; omega
  have hp := he.2 (hl l (x : Int) - 1) (by omega)
  obtain ⟨q, hq⟩ : ∃ q : Nat, upN l (hl l (x : Int) - 1) x = q := ⟨(upN l (hl l (x : Int) - 1) x).toNat, by have := hp.1; omega⟩
  have hql : q < l.length := by rw [hq] at hp; have := hp.2; omega
  refine dfs_mem (t := hl l (x : Int) - 1) (by omega) hx (q := q) ?_ hq (fun j hj => he.2 j (by omega))
  refine mem_kidN.2 ⟨hql, ?_⟩
  have hend := he.1
  have e : upN l (hl l (x : Int)) x = upI l (upN l (hl l (x : Int) - 1) x) := by
    have : hl l (x : Int) = (hl l (x : Int) - 1) + 1 := by omega
    rw [this]
    rfl
  rw [e, hq] at hend
  have e2 : upI l (q : Int) = upA l q := by unfold upI; rw [if_pos (isP_nat hql)]; rfl
  rw [e2] at hend
  rcases h.ups q hql with g | g
  · exact g
  · exact absurd g hend
end Go.Proofs.YtpehinmckppjoaaGreatDoor
namespace Go.Proofs.YtpehinmckppjoaaGreatDoor
open Go.RowKit
set_option linter.unusedSimpArgs false
set_option linter.unusedVariables false

end Go.Proofs.YtpehinmckppjoaaGreatDoor
