/- A certified evaluator of closed calls, part P21. -/
import Derived.Test.YthmaejcpadoljaaGreatEvP20
import Derived.Orders
namespace Go.Ev
open Go Go.RowKit
set_option linter.unusedVariables false
set_option linter.unusedSimpArgs false

/-! ### the order of a drawn region -/
theorem mem_ready {ops : Array Oper} {listed : Array Bool} {i : Nat} : i ∈ Region.ready .any ops listed ↔ i < ops.size ∧ listed.getD i true = false ∧ ∃ o, ops[i]? = some o ∧ ∀ e ∈ o.after, Region.binds .any e = true → listed.getD e.on false = true := by
  unfold Region.ready
  simp only [List.mem_filter, List.mem_range, Bool.and_eq_true, Bool.not_eq_true']
  refine ⟨fun ⟨a, b, c⟩ => ⟨a, b, ?_⟩, fun ⟨a, b, o, c, d⟩ => ⟨a, b, ?_⟩⟩
  · cases ho : ops[i]? with
    | none => rw [ho] at c; simp at c
    | some o =>
      rw [ho] at c
      simp only [Option.map_some, Option.getD_some] at c
      refine ⟨o, rfl, fun e he hb => ?_⟩
      have := (Array.all_eq_true_iff_forall_mem.1 c) e he
      simpa [hb] using this
  · rw [c]
    simp only [Option.map_some, Option.getD_some]
    refine Array.all_eq_true_iff_forall_mem.2 fun e he => ?_
    cases hb : Region.binds .any e with
    | false => rfl
    | true => simp [d e he hb]
def unl (n : Nat) (listed : Array Bool) : List Nat := (List.range n).filter fun i => !listed.getD i true
theorem mem_unl {n : Nat} {listed : Array Bool} {i : Nat} : i ∈ unl n listed ↔ i < n ∧ listed.getD i true = false := by
  unfold unl
  rw [List.mem_filter, List.mem_range]
  generalize listed.getD i true = b
  cases b <;> simp
theorem getD_set {listed : Array Bool} {i j : Nat} (hi : i < listed.size) (d : Bool) : (listed.setIfInBounds i true).getD j d = if j = i then true else listed.getD j d := by
  rw [Array.getD_eq_getD_getElem?, Array.getD_eq_getD_getElem?]
  split
  · rename_i e; subst e; simp [hi]
  · rename_i e; rw [Array.getElem?_setIfInBounds_ne (by omega)]
theorem unl_set {n : Nat} {listed : Array Bool} {i : Nat} (hs : listed.size = n) (hi : i < n) (hl : listed.getD i true = false) : (unl n (listed.setIfInBounds i true)).length < (unl n listed).length := by
  have : unl n (listed.setIfInBounds i true) = (unl n listed).filter (fun j => !decide (j = i)) := by
    unfold unl
    rw [List.filter_filter]
    refine List.filter_congr fun j hj => ?_
    rw [getD_set (by omega)]
    by_cases e : j = i <;> simp [e]
  rw [this]
  exact List.length_filter_lt_length_iff_exists.2 ⟨i, mem_unl.2 ⟨hi, hl⟩, by simp⟩
def AllAfter (ops : Array Oper) : Prop := ∀ i, ∀ o, ops[i]? = some o → ∀ e ∈ o.after, Region.binds .any e = true → e.on < i
theorem go_ok {ops : Array Oper} (ha : AllAfter ops) : ∀ (fuel t : Nat) (listed : Array Bool), listed.size = ops.size →
    (∀ i ∈ Region.linearise.go .any ops fuel t listed [], i < ops.size ∧ listed.getD i true = false) ∧ (Region.linearise.go .any ops fuel t listed []).Nodup ∧
    (∀ a i b, Region.linearise.go .any ops fuel t listed [] = a ++ i :: b → ∀ o, ops[i]? = some o → ∀ e ∈ o.after, Region.binds .any e = true → listed.getD e.on false = true ∨ e.on ∈ a) ∧
    ((unl ops.size listed).length ≤ fuel → ∀ i, i < ops.size → listed.getD i true = false → i ∈ Region.linearise.go .any ops fuel t listed [])
  | 0, t, listed, hs => by
    simp only [Region.linearise.go, List.reverse_nil]
    refine ⟨fun i h => by simp at h, List.nodup_nil, fun a i b h => by simp at h, fun hl i hi hf => ?_⟩
    have : i ∈ unl ops.size listed := mem_unl.2 ⟨hi, hf⟩
    rw [List.length_eq_zero_iff.1 (Nat.le_zero.1 hl)] at this
    exact this
  | fuel + 1, t, listed, hs => by
    have e0 : Region.linearise.go .any ops (fuel + 1) t listed [] = match (Region.ready .any ops listed)[t % (Region.ready .any ops listed).length]? with
      | some i => Region.linearise.go .any ops fuel (t / (Region.ready .any ops listed).length) (listed.setIfInBounds i true) [i]
      | none => [].reverse := rfl
    rw [e0]
    cases hi : (Region.ready .any ops listed)[t % (Region.ready .any ops listed).length]? with
    | none =>
      have hnil : Region.ready .any ops listed = [] := by
        cases hr : Region.ready .any ops listed with
        | nil => rfl
        | cons x xs =>
          rw [hr] at hi
          have hlt : t % (x :: xs).length < (x :: xs).length := Nat.mod_lt _ (by simp)
          simp at hi
          simp at hlt
          omega
      simp only [List.reverse_nil]
      refine ⟨fun i h => by simp at h, List.nodup_nil, fun a i b h => by simp at h, fun _ i hi hf => ?_⟩
      exfalso
      have : ∀ i, i < ops.size → listed.getD i true = true := by
        intro i
        induction i using Nat.strongRecOn with
        | _ i ih =>
          intro hi
          cases hc : listed.getD i true with
          | true => rfl
          | false =>
            exfalso
            have : i ∈ Region.ready .any ops listed := by
              refine mem_ready.2 ⟨hi, hc, ops[i], by simp [hi], fun e he hb => ?_⟩
              have h1 := ha i ops[i] (by simp [hi]) e he hb
              have h2 := ih e.on h1 (by omega)
              rw [Array.getD_eq_getD_getElem?] at h2 ⊢
              have : e.on < listed.size := by omega
              simp only [Array.getElem?_eq_getElem this, Option.getD_some] at h2 ⊢
              exact h2
            rw [hnil] at this
            cases this
      rw [this i hi] at hf
      cases hf
    | some i =>
      have hm := mem_ready.1 (List.mem_of_getElem? hi)
      obtain ⟨m1, m2, o, m3, m4⟩ := hm
      have hil : i < listed.size := by omega
      simp only []
      rw [linearise_go_acc, List.reverse_singleton, List.singleton_append]
      obtain ⟨k1, k2, k3, k4⟩ := go_ok ha fuel (t / (Region.ready .any ops listed).length) (listed.setIfInBounds i true) (by simpa using hs)
      refine ⟨fun j hj => ?_, ?_, fun a j b hab o' ho' e he hb => ?_, fun hl j hj hf => ?_⟩
      · rcases List.mem_cons.1 hj with rfl | hj
        · exact ⟨m1, m2⟩
        · obtain ⟨q1, q2⟩ := k1 j hj
          rw [getD_set hil] at q2
          split at q2
          · cases q2
          · exact ⟨q1, q2⟩
      · refine List.nodup_cons.2 ⟨fun hc => ?_, k2⟩
        have := (k1 i hc).2
        rw [getD_set hil] at this
        simp at this
      · cases a with
        | nil =>
          simp only [List.nil_append, List.cons.injEq] at hab
          obtain ⟨rfl, _⟩ := hab
          rw [m3] at ho'; cases ho'
          exact .inl (m4 e he hb)
        | cons x a =>
          simp only [List.cons_append, List.cons.injEq] at hab
          obtain ⟨rfl, hab⟩ := hab
          rcases k3 a j b hab o' ho' e he hb with q | q
          · rw [getD_set hil] at q
            split at q
            · rename_i e1; exact .inr (by simp [e1])
            · exact .inl q
          · exact .inr (List.mem_cons_of_mem _ q)
      · by_cases e : j = i
        · subst e; exact List.mem_cons_self
        · refine List.mem_cons_of_mem _ (k4 ?_ j hj ?_)
          · have := unl_set hs m1 m2; omega
          · rw [getD_set hil]; simp [e, hf]
theorem schedule_ok {ops : Array Oper} (ha : AllAfter ops) (t : Nat) : (Region.schedule true ops t).Nodup ∧ (∀ i, i ∈ Region.schedule true ops t ↔ i < ops.size) ∧
    ∀ a i b, Region.schedule true ops t = a ++ i :: b → ∀ o, ops[i]? = some o → deps o a := by
  have e0 : Region.schedule true ops t = Region.linearise.go .any ops ops.size t (Array.replicate ops.size false) [] := by
    simp [Region.schedule, Region.linearise]
  rw [e0]
  obtain ⟨k1, k2, k3, k4⟩ := go_ok ha ops.size t (Array.replicate ops.size false) (by simp)
  refine ⟨k2, fun i => ⟨fun h => (k1 i h).1, fun h => k4 ?_ i h (by simp [Array.getD_eq_getD_getElem?, h])⟩, fun a i b h o ho e he hb => ?_⟩
  · unfold unl; exact Nat.le_trans (List.length_filter_le _ _) (by simp)
  · rcases k3 a i b h o ho e he hb with q | q
    · rw [Array.getD_eq_getD_getElem?] at q
      by_cases hl : e.on < ops.size
      · simp [hl] at q
      · simp [hl] at q
    · exact q
end Go.Ev
