/- Regions beside coord: the runs. -/
import Derived.Test.YtpkepkemjcjplaaGreatMathNum
namespace Go.Proofs.YtpkepkemjcjplaaGreat
set_option linter.unusedSimpArgs false
set_option linter.unusedVariables false

/-- A run: its first number, and its last. -/
abbrev Rn := Int × Int
def top : Int := 9223372036854775807
def inRg (l : List Rn) (x : Int) : Prop := ∃ r, r ∈ l ∧ r.1 ≤ x ∧ x ≤ r.2
def okR (r : Rn) : Prop := 0 ≤ r.1 ∧ r.1 ≤ r.2 ∧ r.2 ≤ top
structure Norm (l : List Rn) : Prop where
  ok : ∀ r, r ∈ l → okR r
  pw : l.Pairwise fun r s => r.2 + 1 < s.1
theorem inR_nil (x : Int) : ¬ inRg [] x := by rintro ⟨r, h, _⟩; cases h
theorem inR_cons {r : Rn} {l : List Rn} {x : Int} : inRg (r :: l) x ↔ (r.1 ≤ x ∧ x ≤ r.2) ∨ inRg l x := by
  constructor
  · rintro ⟨s, h, h1⟩
    rcases List.mem_cons.1 h with rfl | h
    · exact .inl h1
    · exact .inr ⟨s, h, h1⟩
  · rintro (h | ⟨s, h, h1⟩)
    · exact ⟨r, List.mem_cons_self .., h⟩
    · exact ⟨s, List.mem_cons_of_mem _ h, h1⟩
theorem inR_append {l m : List Rn} {x : Int} : inRg (l ++ m) x ↔ inRg l x ∨ inRg m x := by
  constructor
  · rintro ⟨s, h, h1⟩
    rcases List.mem_append.1 h with h | h
    · exact .inl ⟨s, h, h1⟩
    · exact .inr ⟨s, h, h1⟩
  · rintro (⟨s, h, h1⟩ | ⟨s, h, h1⟩)
    · exact ⟨s, List.mem_append.2 (.inl h), h1⟩
    · exact ⟨s, List.mem_append.2 (.inr h), h1⟩
theorem norm_nil : Norm [] := ⟨(fun r h => by cases h), List.Pairwise.nil⟩
theorem Norm.tail {r : Rn} {l : List Rn} (h : Norm (r :: l)) : Norm l := ⟨fun s hs => h.ok s (List.mem_cons_of_mem _ hs), (List.pairwise_cons.1 h.pw).2⟩
theorem Norm.head {r : Rn} {l : List Rn} (h : Norm (r :: l)) : okR r := h.ok r (List.mem_cons_self ..)
theorem Norm.above {r : Rn} {l : List Rn} (h : Norm (r :: l)) {x : Int} (hx : inRg l x) : r.2 + 1 < x := by
  obtain ⟨s, hs, h1, h2⟩ := hx
  have := (List.pairwise_cons.1 h.pw).1 s hs
  omega
theorem Norm.lo {r : Rn} {l : List Rn} (h : Norm (r :: l)) {x : Int} (hx : inRg (r :: l) x) : r.1 ≤ x := by
  have h0 := h.head
  unfold okR at h0
  rcases inR_cons.1 hx with h1 | h1
  · exact h1.1
  · have := h.above h1; omega
theorem Norm.rng {l : List Rn} (h : Norm l) {x : Int} (hx : inRg l x) : 0 ≤ x ∧ x ≤ top := by
  obtain ⟨s, hs, h1, h2⟩ := hx
  have := h.ok s hs
  unfold okR at this
  omega
theorem norm_ext : ∀ {l m : List Rn}, Norm l → Norm m → (∀ x, inRg l x ↔ inRg m x) → l = m := by
  intro l
  induction l with
  | nil =>
    intro m hl hm h
    cases m with
    | nil => rfl
    | cons s u =>
      have h0 := hm.head
      unfold okR at h0
      exact absurd ((h s.1).2 (inR_cons.2 (.inl ⟨by omega, by omega⟩))) (inR_nil _)
  | cons r t ih =>
    intro m hl hm h
    have h0 := hl.head
    unfold okR at h0
    cases m with
    | nil => exact absurd ((h r.1).1 (inR_cons.2 (.inl ⟨by omega, by omega⟩))) (inR_nil _)
    | cons s u =>
      have h1 := hm.head
      unfold okR at h1
      have e1 : r.1 = s.1 := by
        have a := hm.lo ((h r.1).1 (inR_cons.2 (.inl ⟨by omega, by omega⟩)))
        have b := hl.lo ((h s.1).2 (inR_cons.2 (.inl ⟨by omega, by omega⟩)))
        omega
      have e2 : r.2 = s.2 := by
        by_cases c1 : r.2 < s.2
        · have := (h (r.2 + 1)).2 (inR_cons.2 (.inl ⟨by omega, by omega⟩))
          rcases inR_cons.1 this with g | g
          · omega
          · have := hl.above g; omega
        · by_cases c2 : s.2 < r.2
          · have := (h (s.2 + 1)).1 (inR_cons.2 (.inl ⟨by omega, by omega⟩))
            rcases inR_cons.1 this with g | g
            · omega
            · have := hm.above g; omega
          · omega
      obtain rfl : r = s := by cases r; cases s; simp_all
      have : t = u := ih hl.tail hm.tail fun x => by
        constructor
        · intro hx
          have g := hl.above hx
          rcases inR_cons.1 ((h x).1 (inR_cons.2 (.inr hx))) with k | k
          · omega
          · exact k
        · intro hx
          have g := hm.above hx
          rcases inR_cons.1 ((h x).2 (inR_cons.2 (.inr hx))) with k | k
          · omega
          · exact k
      rw [this]

/-- One more run, that begins not ahead of the last. -/
def jstep (acc : List Rn) (r : Rn) : List Rn :=
  if 0 < acc.length ∧ r.1 - 1 ≤ (acc.getD (acc.length - 1) (0, 0)).2 then acc.set (acc.length - 1) ((acc.getD (acc.length - 1) (0, 0)).1, max (acc.getD (acc.length - 1) (0, 0)).2 r.2) else acc ++ [r]
def jn (l : List Rn) : List Rn := l.foldl jstep []
theorem jn_take {l : List Rn} {k : Nat} (h : k < l.length) : jn (l.take (k + 1)) = jstep (jn (l.take k)) (l.getD k (0, 0)) := by
  unfold jn
  rw [List.take_succ_eq_append_getElem h, List.foldl_append]
  simp [List.getD, List.getElem?_eq_getElem h]
theorem snoc_of {acc : List Rn} (h : 0 < acc.length) : acc = acc.dropLast ++ [acc.getD (acc.length - 1) (0, 0)] := by
  have hne : acc ≠ [] := by intro e; rw [e] at h; simp at h
  have e := List.dropLast_concat_getLast hne
  have g : acc.getD (acc.length - 1) (0, 0) = acc.getLast hne := by
    rw [List.getLast_eq_getElem]
    simp [List.getD, List.getElem?_eq_getElem (show acc.length - 1 < acc.length by omega)]
  rw [g]
  exact e.symm
theorem set_last {pre : List Rn} {e v : Rn} : (pre ++ [e]).set ((pre ++ [e]).length - 1) v = pre ++ [v] := by
  rw [List.length_append, List.length_singleton, Nat.add_sub_cancel, List.set_append_right _ _ (Nat.le_refl _)]
  simp
theorem get_last {pre : List Rn} {e : Rn} : (pre ++ [e]).getD ((pre ++ [e]).length - 1) (0, 0) = e := by
  rw [List.length_append, List.length_singleton, Nat.add_sub_cancel]
  simp [List.getD]
theorem jstep_snoc (pre : List Rn) (e r : Rn) : jstep (pre ++ [e]) r = if r.1 - 1 ≤ e.2 then pre ++ [(e.1, max e.2 r.2)] else pre ++ [e] ++ [r] := by
  unfold jstep
  rw [get_last, set_last]
  simp only [List.length_append, List.length_singleton, Nat.zero_lt_succ, true_and]
theorem jstep_nil (r : Rn) : jstep [] r = [r] := by unfold jstep; simp
theorem snoc_cases (acc : List Rn) : acc = [] ∨ ∃ pre e, acc = pre ++ [e] := by
  by_cases h : 0 < acc.length
  · exact .inr ⟨_, _, snoc_of h⟩
  · exact .inl (List.length_eq_zero_iff.1 (by omega))
theorem jstep_len (acc : List Rn) (r : Rn) : (jstep acc r).length ≤ acc.length + 1 := by
  rcases snoc_cases acc with rfl | ⟨pre, e, rfl⟩
  · rw [jstep_nil]; simp
  · rw [jstep_snoc]; split <;> simp
theorem jn_len : ∀ (l acc : List Rn), (l.foldl jstep acc).length ≤ acc.length + l.length := by
  intro l
  induction l with
  | nil => intro acc; simp
  | cons r t ih =>
    intro acc
    rw [List.foldl_cons]
    have := ih (jstep acc r)
    have := jstep_len acc r
    simp only [List.length_cons]
    omega
theorem inR_jstep {acc : List Rn} {r : Rn} (hr : okR r) (ha : Norm acc) (hs : ∀ e, e ∈ acc → e.1 ≤ r.1) (x : Int) : inRg (jstep acc r) x ↔ inRg acc x ∨ (r.1 ≤ x ∧ x ≤ r.2) := by
  rcases snoc_cases acc with rfl | ⟨pre, e, rfl⟩
  · rw [jstep_nil, inR_cons]
    constructor
    · rintro (h | h)
      · exact .inr h
      · exact absurd h (inR_nil _)
    · rintro (h | h)
      · exact absurd h (inR_nil _)
      · exact .inl h
  · rw [jstep_snoc]
    have h1 := hs e (List.mem_append.2 (.inr (List.mem_cons_self ..)))
    have h2 := ha.ok e (List.mem_append.2 (.inr (List.mem_cons_self ..)))
    unfold okR at hr h2
    by_cases c : r.1 - 1 ≤ e.2
    · rw [if_pos c, inR_append, inR_append, inR_cons, inR_cons]
      have n := inR_nil x
      constructor
      · rintro (h | h | h)
        · exact .inl (.inl h)
        · simp only at h
          by_cases d : x ≤ e.2
          · exact .inl (.inr (.inl ⟨h.1, d⟩))
          · exact .inr ⟨by omega, by omega⟩
        · exact absurd h n
      · rintro ((h | h | h) | h)
        · exact .inl h
        · exact .inr (.inl ⟨h.1, by simp only; omega⟩)
        · exact absurd h n
        · exact .inr (.inl ⟨by simp only; omega, by simp only; omega⟩)
    · rw [if_neg c, inR_append, inR_cons]
      have n := inR_nil x
      constructor
      · rintro (h | h | h)
        · exact .inl h
        · exact .inr h
        · exact absurd h n
      · rintro (h | h)
        · exact .inl h
        · exact .inr (.inl h)
theorem norm_jstep {acc : List Rn} {r : Rn} (hr : okR r) (ha : Norm acc) (hs : ∀ e, e ∈ acc → e.1 ≤ r.1) : Norm (jstep acc r) ∧ ∀ e, e ∈ jstep acc r → e.1 ≤ r.1 := by
  rcases snoc_cases acc with rfl | ⟨pre, e, rfl⟩
  · rw [jstep_nil]
    exact ⟨⟨fun s hs' => by rw [List.mem_singleton.1 hs']; exact hr, by simp⟩, fun s hs' => by rw [List.mem_singleton.1 hs']; omega⟩
  · rw [jstep_snoc]
    have h1 := hs e (List.mem_append.2 (.inr (List.mem_cons_self ..)))
    have h2 := ha.ok e (List.mem_append.2 (.inr (List.mem_cons_self ..)))
    obtain ⟨p1, p2, p3⟩ := List.pairwise_append.1 ha.pw
    have hp : ∀ s, s ∈ pre → okR s := fun s h => ha.ok s (List.mem_append.2 (.inl h))
    have h3 : ∀ s, s ∈ pre → s.2 + 1 < e.1 := fun s h => p3 s h e (List.mem_cons_self ..)
    unfold okR at hr h2
    by_cases c : r.1 - 1 ≤ e.2
    · rw [if_pos c]
      refine ⟨⟨fun s h => ?_, List.pairwise_append.2 ⟨p1, by simp, fun s h t ht => ?_⟩⟩, fun s h => ?_⟩
      · rcases List.mem_append.1 h with h | h
        · exact hp s h
        · rw [List.mem_singleton.1 h]; unfold okR; simp only; omega
      · rw [List.mem_singleton.1 ht]; exact h3 s h
      · rcases List.mem_append.1 h with h | h
        · exact hs s (List.mem_append.2 (.inl h))
        · rw [List.mem_singleton.1 h]; exact h1
    · rw [if_neg c]
      refine ⟨⟨fun s h => ?_, List.pairwise_append.2 ⟨ha.pw, by simp, fun s h t ht => ?_⟩⟩, fun s h => ?_⟩
      · rcases List.mem_append.1 h with h | h
        · exact ha.ok s h
        · rw [List.mem_singleton.1 h]; exact hr
      · rw [List.mem_singleton.1 ht]
        rcases List.mem_append.1 h with h | h
        · have := h3 s h; omega
        · rw [List.mem_singleton.1 h]; omega
      · rcases List.mem_append.1 h with h | h
        · exact hs s h
        · rw [List.mem_singleton.1 h]; omega
theorem jn_aux : ∀ (l acc : List Rn), (∀ r, r ∈ l → okR r) → l.Pairwise (fun r s => r.1 ≤ s.1) → Norm acc → (∀ e, e ∈ acc → ∀ r, r ∈ l → e.1 ≤ r.1) → Norm (l.foldl jstep acc) ∧ ∀ x, inRg (l.foldl jstep acc) x ↔ inRg acc x ∨ inRg l x := by
  intro l
  induction l with
  | nil => intro acc _ _ h _; exact ⟨h, fun x => ⟨.inl, fun h => h.elim id fun h => absurd h (inR_nil _)⟩⟩
  | cons r t ih =>
    intro acc hok hp ha hs
    have h0 := hok r (List.mem_cons_self ..)
    have h1 := fun e he => hs e he r (List.mem_cons_self ..)
    obtain ⟨q1, q2⟩ := List.pairwise_cons.1 hp
    have n1 := norm_jstep h0 ha h1
    have e1 := inR_jstep h0 ha h1
    obtain ⟨a1, a2⟩ := ih (jstep acc r) (fun s h => hok s (List.mem_cons_of_mem _ h)) q2 n1.1 (fun e he s hs' => by have := n1.2 e he; have := q1 s hs'; omega)
    refine ⟨a1, fun x => ?_⟩
    rw [List.foldl_cons, a2, e1, inR_cons]
    exact or_assoc
theorem jn_norm {l : List Rn} (hok : ∀ r, r ∈ l → okR r) (hp : l.Pairwise (fun r s => r.1 ≤ s.1)) : Norm (jn l) ∧ ∀ x, inRg (jn l) x ↔ inRg l x := by
  obtain ⟨h1, h2⟩ := jn_aux l [] hok hp norm_nil (fun e he => by cases he)
  refine ⟨h1, fun x => ?_⟩
  rw [show jn l = l.foldl jstep [] from rfl, h2]
  exact ⟨fun h => h.elim (fun h => absurd h (inR_nil _)) id, .inr⟩

/-- What two sets have in common. -/
def meet : List Rn → List Rn → List Rn
  | a :: as, b :: bs => (if max a.1 b.1 ≤ min a.2 b.2 then [(max a.1 b.1, min a.2 b.2)] else []) ++ (if a.2 < b.2 then meet as (b :: bs) else meet (a :: as) bs)
  | [], _ => []
  | _ :: _, [] => []
termination_by a b => a.length + b.length
theorem meet_len : ∀ (a b : List Rn), (meet a b).length ≤ a.length + b.length := by
  intro a b
  fun_induction meet a b with
  | case1 a as b bs ih1 ih2 =>
    rw [List.length_append]
    have h : ∀ (p : Prop) [Decidable p] (r : Rn), (if p then [r] else []).length ≤ 1 := fun p _ r => by split <;> simp
    have h1 := h (max a.1 b.1 ≤ min a.2 b.2) (max a.1 b.1, min a.2 b.2)
    by_cases c : a.2 < b.2
    · rw [if_pos c]; simp only [List.length_cons] at *; omega
    · rw [if_neg c]; simp only [List.length_cons] at *; omega
  | case2 b => simp
  | case3 a as => simp
theorem meet_is : ∀ (a b : List Rn), Norm a → Norm b → (Norm (meet a b) ∧ (∀ x, inRg (meet a b) x ↔ inRg a x ∧ inRg b x) ∧ ∀ d, d ∈ meet a b → (∃ r, r ∈ a ∧ r.1 ≤ d.1) ∧ ∃ r, r ∈ b ∧ r.1 ≤ d.1) := by
  intro a b
  fun_induction meet a b with
  | case1 a as b bs ih1 ih2 =>
   intro ha hb
   by_cases c : a.2 < b.2
   · rw [if_pos c]
     obtain ⟨i1, i2, i3⟩ := ih1 ha.tail hb
     have oa := ha.head
     have ob := hb.head
     unfold okR at oa ob
     refine ⟨⟨fun r hr => ?_, List.pairwise_append.2 ⟨by split <;> simp, i1.pw, fun r hr s hs => ?_⟩⟩, fun x => ?_, fun d hd => ?_⟩
     · rcases List.mem_append.1 hr with h | h
       · split at h
         · rw [List.mem_singleton.1 h]; unfold okR; simp only; omega
         · cases h
       · exact i1.ok r h
     · split at hr
       · rw [List.mem_singleton.1 hr]
         obtain ⟨⟨q, hq, hq1⟩, _⟩ := i3 s hs
         have := (List.pairwise_cons.1 ha.pw).1 q hq
         simp only
         omega
       · cases hr
     · rw [inR_append, i2, inR_cons (r := a)]
       have n := inR_nil x
       constructor
       · rintro (h | ⟨h, g⟩)
         · split at h
           · rcases inR_cons.1 h with h | h
             · simp only at h
               exact ⟨.inl ⟨by omega, by omega⟩, inR_cons.2 (.inl ⟨by omega, by omega⟩)⟩
             · exact absurd h n
           · exact absurd h n
         · exact ⟨.inr h, g⟩
       · rintro ⟨h | h, g⟩
         · rcases inR_cons.1 g with k | k
           · refine .inl ?_
             rw [if_pos (by omega)]
             exact inR_cons.2 (.inl ⟨by simp only; omega, by simp only; omega⟩)
           · have := hb.above k; omega
         · exact .inr ⟨h, g⟩
     · rcases List.mem_append.1 hd with h | h
       · split at h
         · rw [List.mem_singleton.1 h]
           exact ⟨⟨a, List.mem_cons_self .., by simp only; omega⟩, ⟨b, List.mem_cons_self .., by simp only; omega⟩⟩
         · cases h
       · obtain ⟨⟨q, hq, hq1⟩, g⟩ := i3 d h
         exact ⟨⟨q, List.mem_cons_of_mem _ hq, hq1⟩, g⟩
   · rw [if_neg c]
     obtain ⟨i1, i2, i3⟩ := ih2 ha hb.tail
     have oa := ha.head
     have ob := hb.head
     unfold okR at oa ob
     refine ⟨⟨fun r hr => ?_, List.pairwise_append.2 ⟨by split <;> simp, i1.pw, fun r hr s hs => ?_⟩⟩, fun x => ?_, fun d hd => ?_⟩
     · rcases List.mem_append.1 hr with h | h
       · split at h
         · rw [List.mem_singleton.1 h]; unfold okR; simp only; omega
         · cases h
       · exact i1.ok r h
     · split at hr
       · rw [List.mem_singleton.1 hr]
         obtain ⟨_, ⟨q, hq, hq1⟩⟩ := i3 s hs
         have := (List.pairwise_cons.1 hb.pw).1 q hq
         simp only
         omega
       · cases hr
     · rw [inR_append, i2, inR_cons (r := b)]
       have n := inR_nil x
       constructor
       · rintro (h | ⟨h, g⟩)
         · split at h
           · rcases inR_cons.1 h with h | h
             · simp only at h
               exact ⟨inR_cons.2 (.inl ⟨by omega, by omega⟩), .inl ⟨by omega, by omega⟩⟩
             · exact absurd h n
           · exact absurd h n
         · exact ⟨h, .inr g⟩
       · rintro ⟨h, g | g⟩
         · rcases inR_cons.1 h with k | k
           · refine .inl ?_
             rw [if_pos (by omega)]
             exact inR_cons.2 (.inl ⟨by simp only; omega, by simp only; omega⟩)
           · have := ha.above k; omega
         · exact .inr ⟨h, g⟩
     · rcases List.mem_append.1 hd with h | h
       · split at h
         · rw [List.mem_singleton.1 h]
           exact ⟨⟨a, List.mem_cons_self .., by simp only; omega⟩, ⟨b, List.mem_cons_self .., by simp only; omega⟩⟩
         · cases h
       · obtain ⟨g, ⟨q, hq, hq1⟩⟩ := i3 d h
         exact ⟨g, ⟨q, List.mem_cons_of_mem _ hq, hq1⟩⟩
  | case2 b => intro ha hb; exact ⟨norm_nil, fun x => ⟨fun h => absurd h (inR_nil _), fun h => absurd h.1 (inR_nil _)⟩, fun d hd => by cases hd⟩
  | case3 a as => intro ha hb; exact ⟨norm_nil, fun x => ⟨fun h => absurd h (inR_nil _), fun h => absurd h.2 (inR_nil _)⟩, fun d hd => by cases hd⟩

/-- All that is not in a set, from a number on. -/
def oth : Int → List Rn → List Rn
  | nx, [] => [(nx, top)]
  | nx, r :: t => (if nx < r.1 then [(nx, r.1 - 1)] else []) ++ (if r.2 = top then [] else oth (r.2 + 1) t)
theorem oth_len : ∀ (l : List Rn) (nx : Int), (oth nx l).length ≤ l.length + 1 := by
  intro l
  induction l with
  | nil => intro nx; simp [oth]
  | cons r t ih =>
    intro nx
    have := ih (r.2 + 1)
    simp only [oth, List.length_append, List.length_cons]
    split <;> split <;> simp <;> omega
theorem oth_is : ∀ (l : List Rn) (nx : Int), Norm l → 0 ≤ nx → nx ≤ top → (∀ r, r ∈ l → nx ≤ r.1) → (Norm (oth nx l) ∧ (∀ x, inRg (oth nx l) x ↔ nx ≤ x ∧ x ≤ top ∧ ¬ inRg l x) ∧ ∀ d, d ∈ oth nx l → nx ≤ d.1) := by
  intro l
  induction l with
  | nil =>
    intro nx _ h0 h1 _
    have n := inR_nil
    refine ⟨⟨fun r hr => ?_, by simp [oth]⟩, fun x => ?_, fun d hd => ?_⟩
    · rw [List.mem_singleton.1 hr]; exact ⟨h0, h1, Int.le_refl _⟩
    · rw [oth, inR_cons]
      exact ⟨fun h => h.elim (fun h => ⟨h.1, h.2, n x⟩) (fun h => absurd h (n x)), fun h => .inl ⟨h.1, h.2.1⟩⟩
    · rw [List.mem_singleton.1 hd]; exact Int.le_refl _
  | cons r t ih =>
    intro nx hn h0 h1 hl
    have hr := hn.head
    have hr0 := hl r (List.mem_cons_self ..)
    have p := (List.pairwise_cons.1 hn.pw).1
    unfold okR at hr
    by_cases c : r.2 = top
    · have ht : ∀ x, ¬ inRg t x := fun x hx => by have := hn.above hx; have := hn.tail.rng hx; omega
      rw [oth, if_pos c, List.append_nil]
      refine ⟨⟨fun s hs => ?_, by split <;> simp⟩, fun x => ?_, fun d hd => ?_⟩
      · split at hs
        · rw [List.mem_singleton.1 hs]; unfold okR; simp only; omega
        · cases hs
      · rw [inR_cons]
        constructor
        · intro h
          split at h
          · rcases inR_cons.1 h with h | h
            · simp only at h
              exact ⟨h.1, by omega, fun g => g.elim (fun g => by omega) (fun g => ht x g)⟩
            · exact absurd h (inR_nil _)
          · exact absurd h (inR_nil _)
        · rintro ⟨g1, g2, g3⟩
          have : x < r.1 := by
            by_cases c2 : x < r.1
            · exact c2
            · exact absurd (.inl ⟨by omega, by omega⟩) g3
          rw [if_pos (by omega)]
          exact inR_cons.2 (.inl ⟨g1, by simp only; omega⟩)
      · split at hd
        · rw [List.mem_singleton.1 hd]; exact Int.le_refl _
        · cases hd
    · obtain ⟨i1, i2, i3⟩ := ih (r.2 + 1) hn.tail (by omega) (by omega) (fun s hs => by have := p s hs; omega)
      rw [oth, if_neg c]
      refine ⟨⟨fun s hs => ?_, List.pairwise_append.2 ⟨by split <;> simp, i1.pw, fun s hs d hd => ?_⟩⟩, fun x => ?_, fun d hd => ?_⟩
      · rcases List.mem_append.1 hs with hs | hs
        · split at hs
          · rw [List.mem_singleton.1 hs]; unfold okR; simp only; omega
          · cases hs
        · exact i1.ok s hs
      · have := i3 d hd
        split at hs
        · rw [List.mem_singleton.1 hs]; simp only; omega
        · cases hs
      · rw [inR_append, i2, inR_cons]
        constructor
        · rintro (h | ⟨h, g, k⟩)
          · split at h
            · rcases inR_cons.1 h with h | h
              · simp only at h
                exact ⟨h.1, by omega, fun g => g.elim (fun g => by omega) (fun g => by have := hn.above g; omega)⟩
              · exact absurd h (inR_nil _)
            · exact absurd h (inR_nil _)
          · exact ⟨by omega, g, fun q => q.elim (fun q => by omega) k⟩
        · rintro ⟨g1, g2, g3⟩
          by_cases c2 : x < r.1
          · refine .inl ?_
            rw [if_pos (by omega)]
            exact inR_cons.2 (.inl ⟨g1, by simp only; omega⟩)
          · refine .inr ⟨?_, g2, fun q => g3 (.inr q)⟩
            by_cases c3 : x ≤ r.2
            · exact absurd (.inl ⟨by omega, c3⟩) g3
            · omega
      · rcases List.mem_append.1 hd with hd | hd
        · split at hd
          · rw [List.mem_singleton.1 hd]; exact Int.le_refl _
          · cases hd
        · have := i3 d hd; omega
def less (a b : List Rn) : List Rn := meet a (oth 0 b)
theorem less_is {a b : List Rn} (ha : Norm a) (hb : Norm b) : Norm (less a b) ∧ ∀ x, inRg (less a b) x ↔ inRg a x ∧ ¬ inRg b x := by
  obtain ⟨h1, h2, _⟩ := oth_is b 0 hb (Int.le_refl _) (by decide) (fun r hr => (hb.ok r hr).1)
  obtain ⟨g1, g2, _⟩ := meet_is a (oth 0 b) ha h1
  refine ⟨g1, fun x => ?_⟩
  rw [show less a b = meet a (oth 0 b) from rfl, g2, h2]
  exact ⟨fun h => ⟨h.1, h.2.2.2⟩, fun h => ⟨h.1, (ha.rng h.1).1, (ha.rng h.1).2, h.2⟩⟩

/-- All numbers of a run, and of runs. -/
def ups (r : Rn) : List Int := (List.range (r.2 - r.1 + 1).toNat).map fun i => r.1 + (i : Nat)
def expd (l : List Rn) : List Int := l.flatMap ups
theorem mem_ups {r : Rn} {x : Int} : x ∈ ups r ↔ r.1 ≤ x ∧ x ≤ r.2 := by
  unfold ups
  rw [List.mem_map]
  constructor
  · rintro ⟨i, hi, rfl⟩
    rw [List.mem_range] at hi
    omega
  · intro h
    exact ⟨(x - r.1).toNat, by rw [List.mem_range]; omega, by omega⟩
theorem mem_expd {l : List Rn} {x : Int} : x ∈ expd l ↔ inRg l x := by
  unfold expd inRg
  rw [List.mem_flatMap]
  constructor
  · rintro ⟨r, h, h1⟩; exact ⟨r, h, mem_ups.1 h1⟩
  · rintro ⟨r, h, h1⟩; exact ⟨r, h, mem_ups.2 h1⟩
def RiseR (l : List Int) : Prop := l.Pairwise (· < ·)
theorem ups_rise (r : Rn) : RiseR (ups r) := by
  unfold RiseR ups
  rw [List.pairwise_map]
  refine List.Pairwise.imp ?_ List.pairwise_lt_range
  intro a b h
  omega
theorem expd_rise {l : List Rn} (h : Norm l) : RiseR (expd l) := by
  induction l with
  | nil => exact List.Pairwise.nil
  | cons r t ih =>
    unfold RiseR expd
    rw [List.flatMap_cons]
    refine List.pairwise_append.2 ⟨ups_rise r, ih h.tail, fun x hx y hy => ?_⟩
    have h1 := mem_ups.1 hx
    have h2 := h.above (mem_expd.1 hy)
    omega
theorem riseR_ext : ∀ {l m : List Int}, RiseR l → RiseR m → (∀ x, x ∈ l ↔ x ∈ m) → l = m := by
  intro l
  induction l with
  | nil =>
    intro m _ _ h
    cases m with
    | nil => rfl
    | cons s u => exact absurd ((h s).2 (List.mem_cons_self ..)) (by simp)
  | cons r t ih =>
    intro m hl hm h
    cases m with
    | nil => exact absurd ((h r).1 (List.mem_cons_self ..)) (by simp)
    | cons s u =>
      obtain ⟨l1, l2⟩ := List.pairwise_cons.1 hl
      obtain ⟨m1, m2⟩ := List.pairwise_cons.1 hm
      have e : r = s := by
        rcases List.mem_cons.1 ((h r).1 (List.mem_cons_self ..)) with e | a
        · exact e
        · rcases List.mem_cons.1 ((h s).2 (List.mem_cons_self ..)) with e | b
          · exact e.symm
          · have := m1 r a; have := l1 s b; omega
      subst e
      have : t = u := ih l2 m2 fun x => by
        constructor
        · intro hx
          have g := l1 x hx
          rcases List.mem_cons.1 ((h x).1 (List.mem_cons_of_mem _ hx)) with k | k
          · omega
          · exact k
        · intro hx
          have g := m1 x hx
          rcases List.mem_cons.1 ((h x).2 (List.mem_cons_of_mem _ hx)) with k | k
          · omega
          · exact k
      rw [this]
/-- How many numbers runs have. -/
def manyZ : List Rn → Int
  | [] => 0
  | r :: t => (r.2 - r.1 + 1) + manyZ t
theorem manyZ_is : ∀ {l : List Rn}, Norm l → manyZ l = (expd l).length := by
  intro l
  induction l with
  | nil => intro _; rfl
  | cons r t ih =>
    intro h
    have h0 := h.head
    unfold okR at h0
    have e : (expd (r :: t)).length = (r.2 - r.1 + 1).toNat + (expd t).length := by
      unfold expd
      rw [List.flatMap_cons, List.length_append]
      simp [ups]
    rw [manyZ, ih h.tail, e]
    omega
theorem manyZ_append (l m : List Rn) : manyZ (l ++ m) = manyZ l + manyZ m := by
  induction l with
  | nil => simp [manyZ]
  | cons r t ih => simp only [List.cons_append, manyZ, ih]; omega
end Go.Proofs.YtpkepkemjcjplaaGreat
namespace Go.Proofs.YtpkepkemjcjplaaGreat
set_option linter.unusedSimpArgs false
set_option linter.unusedVariables false

def pstep (n : Int) (s : List Int × Bool) (x : Int) : List Int × Bool := if n < x ∧ s.2 = false then (s.1 ++ [n] ++ [x], true) else (s.1 ++ [x], s.2)
def pfold (n : Int) (l : List Int) : List Int × Bool := l.foldl (pstep n) ([], false)
def putL (l : List Int) (n : Int) : List Int := if n ∈ l then l else if (pfold n l).2 then (pfold n l).1 else (pfold n l).1 ++ [n]
theorem pfold_take {n : Int} {l : List Int} {k : Nat} (h : k < l.length) : pfold n (l.take (k + 1)) = pstep n (pfold n (l.take k)) (l.getD k 0) := by
  unfold pfold
  rw [List.take_succ_eq_append_getElem h, List.foldl_append]
  simp [List.getD, List.getElem?_eq_getElem h]
theorem pstep_len (n : Int) (s : List Int × Bool) (x : Int) : (pstep n s x).1.length + (if s.2 then 1 else 0) = s.1.length + 1 + (if (pstep n s x).2 then 1 else 0) := by
  unfold pstep
  obtain ⟨o, b⟩ := s
  cases b with
  | false => by_cases h : n < x <;> simp [h]
  | true => simp
theorem pfold_aux (n : Int) : ∀ (l : List Int) (s : List Int × Bool), RiseR (s.1 ++ l) → (s.2 = false → ∀ y, y ∈ s.1 → y < n) → (s.2 = true → n ∈ s.1) → n ∉ l →
    RiseR (l.foldl (pstep n) s).1 ∧ (∀ x, x ∈ (l.foldl (pstep n) s).1 ↔ x ∈ s.1 ∨ x ∈ l ∨ (x = n ∧ (l.foldl (pstep n) s).2 = true)) ∧ ((l.foldl (pstep n) s).2 = false → ∀ y, y ∈ (l.foldl (pstep n) s).1 → y < n) := by
  intro l
  induction l with
  | nil =>
    intro s hr h1 h2 hn
    rw [List.append_nil] at hr
    refine ⟨hr, fun x => ?_, h1⟩
    simp only [List.foldl_nil]
    constructor
    · exact .inl
    · rintro (h | h | ⟨h, g⟩)
      · exact h
      · cases h
      · rw [h]; exact h2 g
  | cons y t ih =>
    intro s hr h1 h2 hn
    rw [List.foldl_cons]
    obtain ⟨q1, q2, q3⟩ := List.pairwise_append.1 hr
    obtain ⟨q4, q5⟩ := List.pairwise_cons.1 q2
    have hyn : n ≠ y := fun e => hn (by rw [e]; exact List.mem_cons_self ..)
    have hnt : n ∉ t := fun e => hn (List.mem_cons_of_mem _ e)
    by_cases c : n < y ∧ s.2 = false
    · have e : pstep n s y = (s.1 ++ [n] ++ [y], true) := if_pos c
      rw [e]
      have hb := h1 c.2
      have hrr : RiseR ((s.1 ++ [n] ++ [y]) ++ t) := by
        unfold RiseR
        rw [List.append_assoc, List.append_assoc]
        refine List.pairwise_append.2 ⟨q1, ?_, fun a ha b hb' => ?_⟩
        · show (n :: y :: t).Pairwise (· < ·)
          refine List.pairwise_cons.2 ⟨fun b hb' => ?_, q2⟩
          rcases List.mem_cons.1 hb' with rfl | hb'
          · exact c.1
          · have := q4 b hb'; have := c.1; omega
        · have h3 : b ∈ n :: y :: t := hb'
          rcases List.mem_cons.1 h3 with rfl | h3
          · exact hb a ha
          · exact q3 a ha b h3
      obtain ⟨a1, a2, a3⟩ := ih (s.1 ++ [n] ++ [y], true) hrr (fun e => by cases e) (fun _ => by simp) hnt
      refine ⟨a1, fun x => ?_, a3⟩
      rw [a2]
      have ht : (List.foldl (pstep n) (s.1 ++ [n] ++ [y], true) t).2 = true := by
        have : ∀ (l : List Int) (s : List Int × Bool), s.2 = true → (l.foldl (pstep n) s).2 = true := by
          intro l
          induction l with
          | nil => intro s h; exact h
          | cons z u ih => intro s h; rw [List.foldl_cons]; apply ih; unfold pstep; rw [if_neg (by simp [h])]; exact h
        exact this t _ rfl
      rw [ht]
      simp only [List.mem_append, List.mem_cons, List.not_mem_nil, or_false]
      constructor
      · rintro (((h | h) | h) | h | ⟨h, _⟩)
        · exact .inl h
        · exact .inr (.inr ⟨h, trivial⟩)
        · exact .inr (.inl (.inl h))
        · exact .inr (.inl (.inr h))
        · exact .inr (.inr ⟨h, trivial⟩)
      · rintro (h | (h | h) | ⟨h, _⟩)
        · exact .inl (.inl (.inl h))
        · exact .inl (.inr h)
        · exact .inr (.inl h)
        · exact .inl (.inl (.inr h))
    · have e : pstep n s y = (s.1 ++ [y], s.2) := if_neg c
      rw [e]
      obtain ⟨a1, a2, a3⟩ := ih (s.1 ++ [y], s.2) (by rw [List.append_assoc]; exact hr) (fun e z hz => by
        simp only at e hz
        rcases List.mem_append.1 hz with hz | hz
        · exact h1 e z hz
        · rw [List.mem_singleton.1 hz]
          by_cases d : n < y
          · exact absurd ⟨d, e⟩ c
          · omega) (fun e => List.mem_append.2 (.inl (h2 e))) hnt
      refine ⟨a1, fun x => ?_, a3⟩
      rw [a2]
      simp only [List.mem_append, List.mem_cons, List.not_mem_nil, or_false]
      constructor
      · rintro ((h | h) | h | h)
        · exact .inl h
        · exact .inr (.inl (.inl h))
        · exact .inr (.inl (.inr h))
        · exact .inr (.inr h)
      · rintro (h | (h | h) | h)
        · exact .inl (.inl h)
        · exact .inl (.inr h)
        · exact .inr (.inl h)
        · exact .inr (.inr h)
theorem putL_is {l : List Int} {n : Int} (h : RiseR l) : RiseR (putL l n) ∧ ∀ x, x ∈ putL l n ↔ x = n ∨ x ∈ l := by
  unfold putL
  by_cases c : n ∈ l
  · rw [if_pos c]
    exact ⟨h, fun x => ⟨.inr, fun h => h.elim (fun e => e ▸ c) id⟩⟩
  · rw [if_neg c]
    obtain ⟨a1, a2, a3⟩ := pfold_aux n l ([], false) h (fun _ y hy => by cases hy) (fun e => by cases e) c
    have e : pfold n l = l.foldl (pstep n) ([], false) := rfl
    rw [← e] at a1 a2 a3
    cases hb : (pfold n l).2 with
    | true =>
      rw [hb] at a2
      simp only [if_true]
      refine ⟨a1, fun x => ?_⟩
      rw [a2]
      constructor
      · rintro (h | h | ⟨h, _⟩)
        · cases h
        · exact .inr h
        · exact .inl h
      · rintro (h | h)
        · exact .inr (.inr ⟨h, rfl⟩)
        · exact .inr (.inl h)
    | false =>
      rw [hb] at a2
      simp only [Bool.false_eq_true, if_false]
      refine ⟨List.pairwise_append.2 ⟨a1, by simp, fun a ha b hb' => ?_⟩, fun x => ?_⟩
      · rw [List.mem_singleton.1 hb']; exact a3 hb a ha
      · rw [List.mem_append, a2, List.mem_singleton]
        constructor
        · rintro ((h | h | ⟨_, h⟩) | h)
          · cases h
          · exact .inr h
          · cases h
          · exact .inl h
        · rintro (h | h)
          · exact .inr h
          · exact .inl (.inr (.inl h))
theorem pfold_len (n : Int) (l : List Int) : (pfold n l).1.length = l.length + (if (pfold n l).2 then 1 else 0) := by
  have : ∀ (l : List Int) (s : List Int × Bool), (l.foldl (pstep n) s).1.length + (if s.2 then 1 else 0) = s.1.length + l.length + (if (l.foldl (pstep n) s).2 then 1 else 0) := by
    intro l
    induction l with
    | nil => intro s; obtain ⟨o, b⟩ := s; cases b <;> simp
    | cons y t ih =>
      intro s
      rw [List.foldl_cons]
      have h1 := ih (pstep n s y)
      have h2 := pstep_len n s y
      simp only [List.length_cons]
      omega
  have h := this l ([], false)
  simp only [Bool.false_eq_true, if_false, List.length_nil, Nat.add_zero, Nat.zero_add] at h
  exact h
theorem putL_len (l : List Int) (n : Int) : (putL l n).length ≤ l.length + 1 := by
  have h := pfold_len n l
  unfold putL
  by_cases c : n ∈ l
  · rw [if_pos c]; omega
  · rw [if_neg c]
    cases hb : (pfold n l).2 with
    | true => rw [hb] at h; simp only [if_true] at h ⊢; omega
    | false => rw [hb] at h; simp only [Bool.false_eq_true, if_false] at h ⊢; simp; omega

def ofL (l : List Int) : List Int := l.foldl (fun s x => if 0 ≤ x then putL s x else s) []
theorem ofL_take {l : List Int} {k : Nat} (h : k < l.length) : ofL (l.take (k + 1)) = if 0 ≤ l.getD k 0 then putL (ofL (l.take k)) (l.getD k 0) else ofL (l.take k) := by
  unfold ofL
  rw [List.take_succ_eq_append_getElem h, List.foldl_append]
  simp [List.getD, List.getElem?_eq_getElem h]
theorem ofL_aux : ∀ (l s : List Int), RiseR s → RiseR (l.foldl (fun s x => if 0 ≤ x then putL s x else s) s) ∧ ∀ x, x ∈ l.foldl (fun s x => if 0 ≤ x then putL s x else s) s ↔ x ∈ s ∨ (x ∈ l ∧ 0 ≤ x) := by
  intro l
  induction l with
  | nil => intro s h; exact ⟨h, fun x => ⟨.inl, fun h => h.elim id fun h => by cases h.1⟩⟩
  | cons y t ih =>
    intro s h
    rw [List.foldl_cons]
    by_cases c : 0 ≤ y
    · rw [if_pos c]
      obtain ⟨p1, p2⟩ := putL_is (n := y) h
      obtain ⟨a1, a2⟩ := ih _ p1
      refine ⟨a1, fun x => ?_⟩
      rw [a2, p2, List.mem_cons]
      constructor
      · rintro ((h | h) | ⟨h, g⟩)
        · exact .inr ⟨.inl h, by omega⟩
        · exact .inl h
        · exact .inr ⟨.inr h, g⟩
      · rintro (h | ⟨h | h, g⟩)
        · exact .inl (.inr h)
        · exact .inl (.inl h)
        · exact .inr ⟨h, g⟩
    · rw [if_neg c]
      obtain ⟨a1, a2⟩ := ih _ h
      refine ⟨a1, fun x => ?_⟩
      rw [a2, List.mem_cons]
      constructor
      · rintro (h | ⟨h, g⟩)
        · exact .inl h
        · exact .inr ⟨.inr h, g⟩
      · rintro (h | ⟨h | h, g⟩)
        · exact .inl h
        · omega
        · exact .inr ⟨h, g⟩
theorem ofL_is (l : List Int) : RiseR (ofL l) ∧ ∀ x, x ∈ ofL l ↔ x ∈ l ∧ 0 ≤ x := by
  obtain ⟨h1, h2⟩ := ofL_aux l [] List.Pairwise.nil
  exact ⟨h1, fun x => by rw [show ofL l = l.foldl (fun s x => if 0 ≤ x then putL s x else s) [] from rfl, h2]; simp⟩
theorem ofL_len (l : List Int) : (ofL l).length ≤ l.length := by
  have : ∀ (l s : List Int), (l.foldl (fun s x => if 0 ≤ x then putL s x else s) s).length ≤ s.length + l.length := by
    intro l
    induction l with
    | nil => intro s; simp
    | cons y t ih =>
      intro s
      rw [List.foldl_cons]
      have h1 := ih (if 0 ≤ y then putL s y else s)
      have h2 := putL_len s y
      simp only [List.length_cons]
      split at h1 <;> rename_i c <;> simp only [c, if_true, if_false] <;> omega
  have h := this l []
  rw [List.length_nil, Nat.zero_add] at h
  exact h
def joinL (s t : List Int) : List Int := t.foldl putL s
theorem joinL_take {s t : List Int} {k : Nat} (h : k < t.length) : joinL s (t.take (k + 1)) = putL (joinL s (t.take k)) (t.getD k 0) := by
  unfold joinL
  rw [List.take_succ_eq_append_getElem h, List.foldl_append]
  simp [List.getD, List.getElem?_eq_getElem h]
theorem joinL_is : ∀ (t s : List Int), RiseR s → RiseR (joinL s t) ∧ ∀ x, x ∈ joinL s t ↔ x ∈ s ∨ x ∈ t := by
  intro t
  induction t with
  | nil => intro s h; exact ⟨h, fun x => ⟨.inl, fun h => h.elim id fun h => by cases h⟩⟩
  | cons y t ih =>
    intro s h
    obtain ⟨p1, p2⟩ := putL_is (n := y) h
    obtain ⟨a1, a2⟩ := ih _ p1
    refine ⟨a1, fun x => ?_⟩
    rw [show joinL s (y :: t) = joinL (putL s y) t from rfl, a2, p2, List.mem_cons]
    constructor
    · rintro ((h | h) | h)
      · exact .inr (.inl h)
      · exact .inl h
      · exact .inr (.inr h)
    · rintro (h | h | h)
      · exact .inl (.inr h)
      · exact .inl (.inl h)
      · exact .inr h
theorem joinL_len : ∀ (t s : List Int), (joinL s t).length ≤ s.length + t.length := by
  intro t
  induction t with
  | nil => intro s; simp [joinL]
  | cons y t ih =>
    intro s
    have h1 := ih (putL s y)
    have h2 := putL_len s y
    rw [show joinL s (y :: t) = joinL (putL s y) t from rfl]
    simp only [List.length_cons]
    omega
def meetL (s t : List Int) : List Int := s.filter fun x => decide (x ∈ t)
def lessL (s t : List Int) : List Int := s.filter fun x => decide (x ∉ t)
theorem meetL_is {s t : List Int} (h : RiseR s) : RiseR (meetL s t) ∧ ∀ x, x ∈ meetL s t ↔ x ∈ s ∧ x ∈ t :=
  ⟨List.Pairwise.filter _ h, fun x => by unfold meetL; rw [List.mem_filter]; simp⟩
theorem lessL_is {s t : List Int} (h : RiseR s) : RiseR (lessL s t) ∧ ∀ x, x ∈ lessL s t ↔ x ∈ s ∧ x ∉ t :=
  ⟨List.Pairwise.filter _ h, fun x => by unfold lessL; rw [List.mem_filter]; simp⟩
theorem parts_len (s t : List Int) : (lessL s t).length + (meetL s t).length = s.length := by
  unfold lessL meetL
  induction s with
  | nil => rfl
  | cons x r ih =>
    by_cases h : x ∈ t
    · simp [h] at ih ⊢; omega
    · simp [h] at ih ⊢; omega
/-- How many runs a rising list has. -/
def runsF : Int → List Int → Nat
  | _, [] => 0
  | p, x :: t => (if x - 1 = p then 0 else 1) + runsF x t
def runsN : List Int → Nat
  | [] => 0
  | x :: t => 1 + runsF x t
theorem runsF_up : ∀ (n : Nat) (a : Int) (m : List Int), runsF (a - 1) ((List.range n).map (fun i => a + (i : Nat)) ++ m) = runsF (a + n - 1) m := by
  intro n
  induction n with
  | zero => intro a m; simp
  | succ n ih =>
    intro a m
    rw [List.range_succ_eq_map, List.map_cons, List.map_map, List.cons_append, runsF]
    have e : (List.map ((fun i => a + ((i : Nat) : Int)) ∘ Nat.succ) (List.range n)) = (List.range n).map fun i => (a + 1) + (i : Nat) := by
      apply List.map_congr_left
      intro i _
      simp only [Function.comp, Nat.succ_eq_add_one]
      omega
    rw [e, if_pos (by simp)]
    have h := ih (a + 1) m
    rw [show a + 1 - 1 = a by omega] at h
    rw [Nat.zero_add, show a + ((0 : Nat) : Int) = a by simp, h]
    congr 1
    omega
theorem runsF_expd : ∀ (l : List Rn) (p : Int), Norm l → (∀ r, r ∈ l → p + 1 < r.1) → runsF p (expd l) = l.length := by
  intro l
  induction l with
  | nil => intro p _ _; rfl
  | cons r t ih =>
    intro p hn hp
    have h0 := hn.head
    unfold okR at h0
    have hp0 := hp r (List.mem_cons_self ..)
    obtain ⟨n, hnn⟩ : ∃ n : Nat, (r.2 - r.1 + 1).toNat = n + 1 := ⟨(r.2 - r.1).toNat, by omega⟩
    have e : expd (r :: t) = ups r ++ expd t := by simp [expd]
    have eu : ups r = r.1 :: (List.range n).map (fun i => (r.1 + 1) + (i : Nat)) := by
      unfold ups
      rw [hnn, List.range_succ_eq_map, List.map_cons, List.map_map]
      congr 1
      · simp
      · apply List.map_congr_left
        intro i _
        simp only [Function.comp, Nat.succ_eq_add_one]
        omega
    rw [e, eu, List.cons_append, runsF, if_neg (by omega)]
    have h := runsF_up n (r.1 + 1) (expd t)
    rw [show r.1 + 1 - 1 = r.1 by omega] at h
    rw [h, show r.1 + 1 + (n : Int) - 1 = r.2 by omega, ih r.2 hn.tail (fun s hs => (List.pairwise_cons.1 hn.pw).1 s hs)]
    simp only [List.length_cons]
    omega
theorem runsN_expd {l : List Rn} (h : Norm l) : runsN (expd l) = l.length := by
  cases l with
  | nil => rfl
  | cons r t =>
    have h0 := h.head
    unfold okR at h0
    have h1 := runsF_expd (r :: t) (r.1 - 2) h (fun s hs => by
      rcases List.mem_cons.1 hs with rfl | hs
      · omega
      · have := (List.pairwise_cons.1 h.pw).1 s hs; omega)
    have hm : r.1 ∈ expd (r :: t) := mem_expd.2 (inR_cons.2 (.inl ⟨by omega, by omega⟩))
    cases he : expd (r :: t) with
    | nil => rw [he] at hm; cases hm
    | cons x u =>
      rw [he] at h1
      have hx : r.1 ≤ x := h.lo (mem_expd.1 (by rw [he]; exact List.mem_cons_self ..))
      rw [runsF, if_neg (by omega)] at h1
      exact h1
/-- Two ways to say a set: runs, and a rising list. -/
def SameSet (l : List Rn) (s : List Int) : Prop := Norm l ∧ RiseR s ∧ ∀ x, inRg l x ↔ x ∈ s
theorem SameSet.all {l : List Rn} {s : List Int} (h : SameSet l s) : expd l = s := riseR_ext (expd_rise h.1) h.2.1 fun x => mem_expd.trans (h.2.2 x)
theorem SameSet.runs {l : List Rn} {s : List Int} (h : SameSet l s) : runsN s = l.length := by rw [← h.all]; exact runsN_expd h.1
theorem SameSet.many {l : List Rn} {s : List Int} (h : SameSet l s) : manyZ l = s.length := by rw [manyZ_is h.1, h.all]
theorem SameSet.meet {l m : List Rn} {s t : List Int} (h : SameSet l s) (g : SameSet m t) : SameSet (meet l m) (meetL s t) := by
  obtain ⟨a1, a2, _⟩ := meet_is l m h.1 g.1
  obtain ⟨b1, b2⟩ := meetL_is (t := t) h.2.1
  exact ⟨a1, b1, fun x => by rw [a2, b2, h.2.2, g.2.2]⟩
theorem SameSet.less {l m : List Rn} {s t : List Int} (h : SameSet l s) (g : SameSet m t) : SameSet (less l m) (lessL s t) := by
  obtain ⟨a1, a2⟩ := less_is h.1 g.1
  obtain ⟨b1, b2⟩ := lessL_is (t := t) h.2.1
  exact ⟨a1, b1, fun x => by rw [a2, b2, h.2.2, g.2.2]⟩
theorem SameSet.ext {l m : List Rn} {s : List Int} (h : SameSet l s) (g : SameSet m s) : l = m := norm_ext h.1 g.1 fun x => (h.2.2 x).trans (g.2.2 x).symm
end Go.Proofs.YtpkepkemjcjplaaGreat
