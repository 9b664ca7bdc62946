/- Spans: the leaves within a member stand together. -/
import Derived.Test.YtofppldiipjllaaTreeMath3
namespace Go.Proofs.Ytofppldiipjllaa
open Go.RowKit
set_option linter.unusedSimpArgs false
set_option linter.unusedVariables false

/-- Is x within i? -/
def inB (l : List Nd) (i : Int) (x : Nat) : Bool := decide (i ∈ abvA l (x : Int))
def spFrom (l : List Nd) (i : Int) : Nat := (lvsN l).findIdx (inB l i)
def spTo (l : List Nd) (i : Int) : Nat := spFrom l i + ((lvsN l).drop (spFrom l i)).findIdx (fun x => !inB l i x)
def rnk (l : List Nd) (i : Nat) : Nat := (lvsN l).findIdx (fun x => decide (x = i))
theorem abvA_mem {l : List Nd} (h : noLoop l) {x i : Int} : i ∈ abvA l x ↔ ∃ t, t < hl l x ∧ upN l t x = i := by
  obtain ⟨e1, e2⟩ := hl_ends h x
  rw [abvA_ends e1 e2]
  simp only [List.mem_map, List.mem_range]
theorem sub_mem {l : List Nd} (h : Tr l) {i x : Nat} (hi : i < l.length) : x ∈ sub l i ↔ x < l.length ∧ (i : Int) ∈ abvA l (x : Int) := by
  constructor
  · intro hx
    obtain ⟨h1, q, hq, t, h2, h3⟩ := dfs_up (l := l) (ps := [i]) (fun q hq => by simp at hq; subst hq; exact hi) hx
    simp at hq
    subst hq
    refine ⟨h1, (abvA_mem h.nl).2 ⟨t, ?_, h2⟩⟩
    have e := hl_upN h.nl h3
    rw [h2] at e
    have := hl_up h.nl (isP_nat hi)
    omega
  · rintro ⟨h1, h2⟩
    obtain ⟨t, ht, e⟩ := (abvA_mem h.nl).1 h2
    have hd := h.deep x h1
    exact dfs_mem (t := t) (by omega) h1 (q := i) (List.mem_singleton.2 rfl) e (fun j hj => (hl_ends h.nl (x : Int)).1.2 j (by omega))
theorem leaf_in {l : List Nd} {d : Nat} : ∀ {ps : List Nat}, Fit l d ps → ps ≠ [] → ∃ x, x ∈ dfsL l d ps ∧ leafB l x = true := by
  induction d with
  | zero => intro ps h hn; exact absurd h hn
  | succ d ih =>
    intro ps h hn
    cases ps with
    | nil => exact absurd rfl hn
    | cons i r =>
      by_cases hk : kidN l i = []
      · exact ⟨i, by simp [dfsL], by simp [leafB, hk]⟩
      · obtain ⟨x, h1, h2⟩ := ih (h i (List.mem_cons_self ..)) hk
        refine ⟨x, ?_, h2⟩
        simp only [dfsL, List.flatMap_cons, List.mem_append, List.mem_cons]
        exact .inl (.inr h1)
theorem fit_sub {l : List Nd} (h : Tr l) {i : Nat} (hi : i < l.length) : Fit l 8 [i] :=
  fit_of h 8 [i] (fun q hq => by simp at hq; subst hq; exact ⟨hi, by omega⟩)
theorem lvS_ne {l : List Nd} (h : Tr l) {i : Nat} (hi : i < l.length) : lvS l i ≠ [] := by
  obtain ⟨x, h1, h2⟩ := leaf_in (fit_sub h hi) (by simp)
  intro e
  have : x ∈ lvS l i := List.mem_filter.2 ⟨h1, h2⟩
  rw [e] at this
  cases this
theorem nodup_lvs {l : List Nd} (h : Tr l) : (lvsN l).Nodup := List.Nodup.sublist (List.filter_sublist ..) (nodup_ord h)
theorem lvs_mem {l : List Nd} (h : Tr l) {x : Nat} : x ∈ lvsN l ↔ x < l.length ∧ leafB l x = true := by
  unfold lvsN
  rw [List.mem_filter]
  exact ⟨fun ⟨a, b⟩ => ⟨ord_lt x a, b⟩, fun ⟨a, b⟩ => ⟨ord_all h a, b⟩⟩
theorem lvS_mem {l : List Nd} (h : Tr l) {i x : Nat} (hi : i < l.length) : x ∈ lvS l i ↔ x ∈ lvsN l ∧ inB l i x = true := by
  unfold lvS inB
  rw [List.mem_filter, sub_mem h hi, lvs_mem h, decide_eq_true_iff]
  constructor
  · rintro ⟨⟨a, b⟩, c⟩; exact ⟨⟨a, c⟩, b⟩
  · rintro ⟨⟨a, c⟩, b⟩; exact ⟨⟨a, b⟩, c⟩
theorem findIdx_at {α : Type} {p : α → Bool} {A M C : List α} (hA : ∀ x, x ∈ A → p x = false) (hM : M ≠ []) (hp : ∀ x, x ∈ M → p x = true) : (A ++ M ++ C).findIdx p = A.length := by
  rw [List.append_assoc, List.findIdx_append]
  have h1 : A.findIdx p = A.length := List.findIdx_eq_length.2 hA
  rw [h1, if_neg (by omega)]
  cases M with
  | nil => exact absurd rfl hM
  | cons m r =>
    have := hp m (List.mem_cons_self ..)
    simp [List.findIdx_cons, this]
theorem findIdx_end {α : Type} {p : α → Bool} {M C : List α} (hp : ∀ x, x ∈ M → p x = true) (hC : ∀ x, x ∈ C → p x = false) : (M ++ C).findIdx (fun x => !p x) = M.length := by
  rw [List.findIdx_append]
  have h1 : M.findIdx (fun x => !p x) = M.length := List.findIdx_eq_length.2 (fun x hx => by simp [hp x hx])
  rw [h1, if_neg (by omega)]
  cases C with
  | nil => simp
  | cons m r =>
    have := hC m (List.mem_cons_self ..)
    simp [List.findIdx_cons, this]
/-- The span of a member, where it lies. -/
theorem span_at {l : List Nd} (h : Tr l) {i : Nat} (hi : i < l.length) {A C : List Nat} (e : lvsN l = A ++ lvS l i ++ C) : spFrom l i = A.length ∧ spTo l i = A.length + (lvS l i).length := by
  have hn := nodup_lvs h
  rw [e, List.append_assoc, List.nodup_append] at hn
  obtain ⟨n1, n2, n3⟩ := hn
  rw [List.nodup_append] at n2
  obtain ⟨n4, n5, n6⟩ := n2
  have hM : ∀ x, x ∈ lvS l i → inB l i x = true := fun x hx => ((lvS_mem h hi).1 hx).2
  have hA : ∀ x, x ∈ A → inB l i x = false := fun x hx => by
    cases hb : inB l i x with
    | false => rfl
    | true =>
      have : x ∈ lvS l i := (lvS_mem h hi).2 ⟨by rw [e]; simp [hx], hb⟩
      exact absurd rfl (n3 x hx x (List.mem_append.2 (.inl this)))
  have hC : ∀ x, x ∈ C → inB l i x = false := fun x hx => by
    cases hb : inB l i x with
    | false => rfl
    | true =>
      have : x ∈ lvS l i := (lvS_mem h hi).2 ⟨by rw [e]; simp [hx], hb⟩
      exact absurd rfl (n6 x this x hx)
  have e1 : spFrom l i = A.length := by unfold spFrom; rw [e]; exact findIdx_at hA (lvS_ne h hi) hM
  refine ⟨e1, ?_⟩
  unfold spTo
  rw [e1]
  congr 1
  rw [e, List.append_assoc, List.drop_left]
  exact findIdx_end hM hC
theorem span_eq {l : List Nd} (h : Tr l) {rk fr tu : Nat → Int} {i : Nat} (hi : i < l.length) (hs : Spn l (lvsN l) rk fr tu i) : fr i = spFrom l i ∧ tu i = spTo l i ∧ (leafB l i = true → rk i = rnk l i) := by
  obtain ⟨A, C, e, h1, h2, h3⟩ := hs
  obtain ⟨a1, a2⟩ := span_at h hi e
  refine ⟨by rw [h1, a1], by rw [h2, a2]; simp, fun hl => ?_⟩
  rw [h3 hl]
  have hsub : lvS l i = [i] := by
    have hk : kidN l i = [] := by simpa [leafB] using hl
    unfold lvS
    rw [sub_eq (d := 0) (show Fit l 0 (kidN l i) from hk) (by omega)]
    simp [dfsL, hl]
  have hn := nodup_lvs h
  unfold rnk
  rw [e, hsub] at *
  rw [findIdx_at (M := [i]) (fun x hx => ?_) (by simp) (fun x hx => by simpa using hx)]
  rw [List.append_assoc, List.nodup_append] at hn
  have := hn.2.2 x hx i (by simp)
  simpa using this
/-- Where a leaf stands tells whether it is within. -/
theorem span_in {l : List Nd} (h : Tr l) {i : Nat} (hi : i < l.length) {A C : List Nat} (e : lvsN l = A ++ lvS l i ++ C) (n : Nat) (hn : n < (lvsN l).length) :
    inB l i ((lvsN l)[n]) = decide (spFrom l i ≤ n ∧ n < spTo l i) := by
  obtain ⟨a1, a2⟩ := span_at h hi e
  have hnd := nodup_lvs h
  rw [e, List.append_assoc, List.nodup_append] at hnd
  obtain ⟨n1, n2, n3⟩ := hnd
  rw [List.nodup_append] at n2
  obtain ⟨n4, n5, n6⟩ := n2
  rw [a1, a2]
  by_cases g1 : n < A.length
  · rw [decide_eq_false (by omega)]
    cases hb : inB l i ((lvsN l)[n]) with
    | false => rfl
    | true =>
      have m1 : (lvsN l)[n] ∈ A := by
        have : (lvsN l)[n] = A[n] := by
          have e2 : (lvsN l)[n]? = A[n]? := by rw [e, List.append_assoc, List.getElem?_append_left g1]
          rw [List.getElem?_eq_getElem hn, List.getElem?_eq_getElem g1] at e2
          exact Option.some.inj e2
        rw [this]
        exact List.getElem_mem g1
      have m2 : (lvsN l)[n] ∈ lvS l i := (lvS_mem h hi).2 ⟨List.getElem_mem hn, hb⟩
      exact absurd rfl (n3 _ m1 _ (List.mem_append.2 (.inl m2)))
  · by_cases g2 : n < A.length + (lvS l i).length
    · rw [decide_eq_true (by omega)]
      have g3 : n - A.length < (lvS l i).length := by omega
      have : (lvsN l)[n] = (lvS l i)[n - A.length] := by
        have e2 : (lvsN l)[n]? = (lvS l i)[n - A.length]? := by rw [e, List.append_assoc, List.getElem?_append_right (by omega), List.getElem?_append_left g3]
        rw [List.getElem?_eq_getElem hn, List.getElem?_eq_getElem g3] at e2
        exact Option.some.inj e2
      rw [this]
      exact ((lvS_mem h hi).1 (List.getElem_mem g3)).2
    · rw [decide_eq_false (by omega)]
      cases hb : inB l i ((lvsN l)[n]) with
      | false => rfl
      | true =>
        have hlen : (lvsN l).length = A.length + (lvS l i).length + C.length := by rw [e]; simp; omega
        have g3 : n - A.length - (lvS l i).length < C.length := by omega
        have m1 : (lvsN l)[n] ∈ C := by
          have : (lvsN l)[n] = C[n - A.length - (lvS l i).length] := by
            have e2 : (lvsN l)[n]? = C[n - A.length - (lvS l i).length]? := by rw [e, List.append_assoc, List.getElem?_append_right (by omega), List.getElem?_append_right (by omega)]
            rw [List.getElem?_eq_getElem hn, List.getElem?_eq_getElem g3] at e2
            exact Option.some.inj e2
          rw [this]
          exact List.getElem_mem g3
        have m2 : (lvsN l)[n] ∈ lvS l i := (lvS_mem h hi).2 ⟨List.getElem_mem hn, hb⟩
        exact absurd rfl (n6 _ m2 _ m1)
end Go.Proofs.Ytofppldiipjllaa
