/- A certified evaluator of closed calls, part P30. -/
import Derived.Test.YthmaejcpadoljaaGreatEvP29
import Derived.Shelf.Spec.TrailingZeros
namespace Go.Ev
open Go Go.RowKit
set_option linter.unusedVariables false
set_option linter.unusedSimpArgs false
variable {P : Program} {E : Env} {w : World}

/-! ### arguments of which nothing is known but how many cells they have -/
inductive Sg where
  | one
  | agg (n : Nat)
def oL (k : Nat) : Nat → List AV
  | 0 => []
  | n + 1 => .o k :: oL (k + 1) n
def Sg.n : Sg → Nat
  | .one => 1
  | .agg n => n
def Sg.av (k : Nat) : Sg → AV
  | .one => .o k
  | .agg n => .agg (oL k n)
def avs (k : Nat) : List Sg → List AV
  | [] => []
  | s :: l => s.av k :: avs (k + s.n) l
inductive Fits : Sg → Value → Prop
  | one (v : Value) (h : v.oneCell' = true) : Fits .one v
  | agg (n : Nat) (cs : List Value) (hn : cs.length = n) (h : ∀ c ∈ cs, c.oneCell' = true) : Fits (.agg n) (.agg cs.toArray)
inductive FitsL : List Sg → List Value → Prop
  | nil : FitsL [] []
  | cons (s : Sg) (v : Value) (l : List Sg) (vs : List Value) (h : Fits s v) (hl : FitsL l vs) : FitsL (s :: l) (v :: vs)
def cellsV : Value → List Value
  | .agg ⟨cs⟩ => cs
  | v => [v]
def cellsL : List Value → List Value
  | [] => []
  | v :: l => cellsV v ++ cellsL l
theorem cellsV_one {v : Value} (h : v.oneCell' = true) : cellsV v = [v] := by cases v <;> first | rfl | simp [Value.oneCell'] at h
theorem oL_is : ∀ {cs : List Value} {k : Nat}, (∀ i v, cs[i]? = some v → E.ov (k + i) = some v) → IsL E (oL k cs.length) cs
  | [], k, h => .nil
  | c :: cs, k, h => .cons _ _ _ _ (.o k c (h 0 c rfl)) (oL_is fun i v q => by rw [Nat.add_assoc, Nat.add_comm 1 i]; exact h (i + 1) v (by simpa using q))
theorem fits_is {s : Sg} {v : Value} (hf : Fits s v) {k : Nat} (h : ∀ i x, (cellsV v)[i]? = some x → E.ov (k + i) = some x) : Is E (s.av k) v ∧ (cellsV v).length = s.n := by
  cases hf with
  | one _ hv => rw [cellsV_one hv] at h ⊢; exact ⟨.o k v (h 0 v rfl), rfl⟩
  | agg n cs hn hc => subst hn; exact ⟨.agg _ _ (oL_is h), rfl⟩
theorem avs_is : ∀ {l : List Sg} {vs : List Value} {k : Nat}, FitsL l vs → (∀ i x, (cellsL vs)[i]? = some x → E.ov (k + i) = some x) → IsL E (avs k l) vs
  | _, _, k, .nil, h => .nil
  | _, _, k, .cons s v l vs hs hl, h => by
    obtain ⟨h1, h2⟩ := fits_is (E := E) (k := k) hs fun i x q => h i x (by
      have hi : i < (cellsV v).length := (List.getElem?_eq_some_iff.1 q).1
      simp only [cellsL]; rw [List.getElem?_append_left hi]; exact q)
    refine .cons _ _ _ _ h1 (avs_is hl fun i x q => ?_)
    rw [Nat.add_assoc]
    refine h _ x ?_
    simp only [cellsL]
    rw [List.getElem?_append_right (by omega), h2, Nat.add_sub_cancel_left]
    exact q
theorem cells_flat : ∀ {l : List Sg} {vs : List Value}, FitsL l vs → ∀ x ∈ cellsL vs, x.oneCell' = true
  | _, _, .nil, x, h => by simp [cellsL] at h
  | _, _, .cons s v l vs hs hl, x, h => by
    rcases List.mem_append.1 h with h | h
    · cases hs with
      | one _ hv => rw [cellsV_one hv] at h; simp at h; subst h; exact hv
      | agg n cs hn hc => exact hc x h
    · exact cells_flat hl x h
/-! ### what a value of a type is -/
theorem cell_one {r : Reach} {b t : Nat} {v : Value} (h : Cell.okWide P w r b t v) : v.oneCell' = true := by
  cases v <;> first | rfl | (exfalso; unfold Cell.okWide at h; split at h <;> first | contradiction | (unfold Cell.ok at h; split at h <;> first | contradiction | exact h))
def isAggT (P : Program) (t : TypeId) : Bool := match P.underlying t with | some (.struct _) => true | some (.array _ _) => true | _ => false
theorem fits_agg {r : Reach} {b t n : Nat} {v : Value} (hs : isAggT P t = true) (hn : P.cellsOf t = n) (h : Value.okWide P w r b t v) : Fits (.agg n) v := by
  unfold Value.okWide at h
  unfold isAggT at hs
  have key : (∃ cs, v = .agg cs ∧ cs.size = P.cellsOf t ∧ Row.okWide P w r b t cs) → Fits (.agg n) v := by
    rintro ⟨⟨cs⟩, rfl, h1, ts, _, _, h3⟩
    refine .agg n cs (by rw [← hn]; simpa using h1) fun c hc => ?_
    obtain ⟨i, hi⟩ := List.getElem?_of_mem hc
    obtain ⟨u, _, hu⟩ := h3 i c (by simpa using hi)
    exact cell_one hu
  split at h
  · exact key h
  · exact key h
  · rename_i h1 h2
    split at hs
    · rename_i f hf; exact absurd hf (h1 f)
    · rename_i a e hf; exact absurd hf (h2 a e)
    · cases hs
theorem fits_one {r : Reach} {b t : Nat} {v : Value} (hs : isAggT P t = false) (h : Value.okWide P w r b t v) : Fits .one v := by
  unfold Value.okWide at h
  unfold isAggT at hs
  split at h
  · rename_i f hf; rw [hf] at hs; cases hs
  · rename_i a e hf; rw [hf] at hs; cases hs
  · exact .one v (cell_one h)
/-! ### tables of bytes -/
def roB (l : List Nat) : AB := .ro l.length (setAll .leaf 0 (l.map fun n => .i .u8 (.ofNat n)))
theorem tab_is {g : Nat} {l : List Nat} (hne : 0 < l.length) (h : Go.Proofs.TabAt g l w) : ∃ o, w.heap[g]? = some o ∧ OIs P E g (roB l) o := by
  have cell : ∀ j, j < l.length → ∃ arr e fz, w.heap[g]? = some (.cells arr e fz) ∧ arr[j]? = some (.int .u8 (l.getD j 0)) := by
    intro j hj
    have := h j hj
    unfold World.cell? at this
    split at this
    · rename_i c e fz hc; exact ⟨c, e, fz, hc, by simpa using this⟩
    · cases this
  obtain ⟨arr, e, fz, h1, _⟩ := cell 0 hne
  have cell' : ∀ j, j < l.length → arr[j]? = some (.int .u8 (l.getD j 0)) := by
    intro j hj
    obtain ⟨arr', e', fz', h1', h2⟩ := cell j hj
    rw [h1] at h1'; cases h1'
    exact h2
  refine ⟨_, h1, arr, e, fz, rfl, ?_, fun k v hk hv => ?_⟩
  · have := cell' (l.length - 1) (by omega)
    have := (Array.getElem?_eq_some_iff.1 this).1
    omega
  · refine ⟨_, cell' k hk, ?_⟩
    rw [get_setAll] at hv
    split at hv
    · rename_i hh
      simp only [Nat.sub_zero, List.getElem?_map] at hv
      rw [List.getElem?_eq_getElem hk] at hv
      simp only [Option.map_some, Option.some.injEq] at hv
      subst hv
      simp only [List.getD_eq_getElem?_getD, List.getElem?_eq_getElem hk, Option.getD_some]
      exact .i _ _
    · rw [T.get_leaf] at hv; cases hv
end Go.Ev
