/- Sets of numbers as rising lists: plain lists. No program is named here. -/
import Derived.Test.YthbogpnkdlbilaaRegMath
namespace Go.Proofs.Ythbogpnkdlbilaa
set_option linter.unusedSimpArgs false
set_option linter.unusedVariables false

def pstep (n : Int) (s : List Int × Bool) (x : Int) : List Int × Bool := if n < x ∧ s.2 = false then (s.1 ++ [n] ++ [x], true) else (s.1 ++ [x], s.2)
def pfold (n : Int) (l : List Int) : List Int × Bool := l.foldl (pstep n) ([], false)
def putL (l : List Int) (n : Int) : List Int := if n ∈ l then l else if (pfold n l).2 then (pfold n l).1 else (pfold n l).1 ++ [n]
theorem pfold_take {n : Int} {l : List Int} {k : Nat} (h : k < l.length) : pfold n (l.take (k + 1)) = pstep n (pfold n (l.take k)) (l.getD k 0) := by
  unfold pfold
  rw [List.take_succ_eq_append_getElem h, List.foldl_append]
  simp [List.getD, List.getElem?_eq_getElem h]
theorem pstep_len (n : Int) (s : List Int × Bool) (x : Int) : (pstep n s x).1.length + (if s.2 then 1 else 0) = s.1.length + 1 + (if (pstep n s x).2 then 1 else 0) := by
  unfold pstep
  obtain ⟨o, b⟩ := s
  cases b with
  | false => by_cases h : n < x <;> simp [h]
  | true => simp
theorem pfold_aux (n : Int) : ∀ (l : List Int) (s : List Int × Bool), Rise (s.1 ++ l) → (s.2 = false → ∀ y, y ∈ s.1 → y < n) → (s.2 = true → n ∈ s.1) → n ∉ l →
    Rise (l.foldl (pstep n) s).1 ∧ (∀ x, x ∈ (l.foldl (pstep n) s).1 ↔ x ∈ s.1 ∨ x ∈ l ∨ (x = n ∧ (l.foldl (pstep n) s).2 = true)) ∧ ((l.foldl (pstep n) s).2 = false → ∀ y, y ∈ (l.foldl (pstep n) s).1 → y < n) := by
  intro l
  induction l with
  | nil =>
    intro s hr h1 h2 hn
    rw [List.append_nil] at hr
    refine ⟨hr, fun x => ?_, h1⟩
    simp only [List.foldl_nil]
    constructor
    · exact .inl
    · rintro (h | h | ⟨h, g⟩)
      · exact h
      · cases h
      · rw [h]; exact h2 g
  | cons y t ih =>
    intro s hr h1 h2 hn
    rw [List.foldl_cons]
    obtain ⟨q1, q2, q3⟩ := List.pairwise_append.1 hr
    obtain ⟨q4, q5⟩ := List.pairwise_cons.1 q2
    have hyn : n ≠ y := fun e => hn (by rw [e]; exact List.mem_cons_self ..)
    have hnt : n ∉ t := fun e => hn (List.mem_cons_of_mem _ e)
    by_cases c : n < y ∧ s.2 = false
    · have e : pstep n s y = (s.1 ++ [n] ++ [y], true) := if_pos c
      rw [e]
      have hb := h1 c.2
      have hrr : Rise ((s.1 ++ [n] ++ [y]) ++ t) := by
        unfold Rise
        rw [List.append_assoc, List.append_assoc]
        refine List.pairwise_append.2 ⟨q1, ?_, fun a ha b hb' => ?_⟩
        · show (n :: y :: t).Pairwise (· < ·)
          refine List.pairwise_cons.2 ⟨fun b hb' => ?_, q2⟩
          rcases List.mem_cons.1 hb' with rfl | hb'
          · exact c.1
          · have := q4 b hb'; have := c.1; omega
        · have h3 : b ∈ n :: y :: t := hb'
          rcases List.mem_cons.1 h3 with rfl | h3
          · exact hb a ha
          · exact q3 a ha b h3
      obtain ⟨a1, a2, a3⟩ := ih (s.1 ++ [n] ++ [y], true) hrr (fun e => by cases e) (fun _ => by simp) hnt
      refine ⟨a1, fun x => ?_, a3⟩
      rw [a2]
      have ht : (List.foldl (pstep n) (s.1 ++ [n] ++ [y], true) t).2 = true := by
        have : ∀ (l : List Int) (s : List Int × Bool), s.2 = true → (l.foldl (pstep n) s).2 = true := by
          intro l
          induction l with
          | nil => intro s h; exact h
          | cons z u ih => intro s h; rw [List.foldl_cons]; apply ih; unfold pstep; rw [if_neg (by simp [h])]; exact h
        exact this t _ rfl
      rw [ht]
      simp only [List.mem_append, List.mem_cons, List.not_mem_nil, or_false]
      constructor
      · rintro (((h | h) | h) | h | ⟨h, _⟩)
        · exact .inl h
        · exact .inr (.inr ⟨h, trivial⟩)
        · exact .inr (.inl (.inl h))
        · exact .inr (.inl (.inr h))
        · exact .inr (.inr ⟨h, trivial⟩)
      · rintro (h | (h | h) | ⟨h, _⟩)
        · exact .inl (.inl (.inl h))
        · exact .inl (.inr h)
        · exact .inr (.inl h)
        · exact .inl (.inl (.inr h))
    · have e : pstep n s y = (s.1 ++ [y], s.2) := if_neg c
      rw [e]
      obtain ⟨a1, a2, a3⟩ := ih (s.1 ++ [y], s.2) (by rw [List.append_assoc]; exact hr) (fun e z hz => by
        simp only at e hz
        rcases List.mem_append.1 hz with hz | hz
        · exact h1 e z hz
        · rw [List.mem_singleton.1 hz]
          by_cases d : n < y
          · exact absurd ⟨d, e⟩ c
          · omega) (fun e => List.mem_append.2 (.inl (h2 e))) hnt
      refine ⟨a1, fun x => ?_, a3⟩
      rw [a2]
      simp only [List.mem_append, List.mem_cons, List.not_mem_nil, or_false]
      constructor
      · rintro ((h | h) | h | h)
        · exact .inl h
        · exact .inr (.inl (.inl h))
        · exact .inr (.inl (.inr h))
        · exact .inr (.inr h)
      · rintro (h | (h | h) | h)
        · exact .inl (.inl h)
        · exact .inl (.inr h)
        · exact .inr (.inl h)
        · exact .inr (.inr h)
theorem putL_is {l : List Int} {n : Int} (h : Rise l) : Rise (putL l n) ∧ ∀ x, x ∈ putL l n ↔ x = n ∨ x ∈ l := by
  unfold putL
  by_cases c : n ∈ l
  · rw [if_pos c]
    exact ⟨h, fun x => ⟨.inr, fun h => h.elim (fun e => e ▸ c) id⟩⟩
  · rw [if_neg c]
    obtain ⟨a1, a2, a3⟩ := pfold_aux n l ([], false) h (fun _ y hy => by cases hy) (fun e => by cases e) c
    have e : pfold n l = l.foldl (pstep n) ([], false) := rfl
    rw [← e] at a1 a2 a3
    cases hb : (pfold n l).2 with
    | true =>
      rw [hb] at a2
      simp only [if_true]
      refine ⟨a1, fun x => ?_⟩
      rw [a2]
      constructor
      · rintro (h | h | ⟨h, _⟩)
        · cases h
        · exact .inr h
        · exact .inl h
      · rintro (h | h)
        · exact .inr (.inr ⟨h, rfl⟩)
        · exact .inr (.inl h)
    | false =>
      rw [hb] at a2
      simp only [Bool.false_eq_true, if_false]
      refine ⟨List.pairwise_append.2 ⟨a1, by simp, fun a ha b hb' => ?_⟩, fun x => ?_⟩
      · rw [List.mem_singleton.1 hb']; exact a3 hb a ha
      · rw [List.mem_append, a2, List.mem_singleton]
        constructor
        · rintro ((h | h | ⟨_, h⟩) | h)
          · cases h
          · exact .inr h
          · cases h
          · exact .inl h
        · rintro (h | h)
          · exact .inr h
          · exact .inl (.inr (.inl h))
theorem pfold_len (n : Int) (l : List Int) : (pfold n l).1.length = l.length + (if (pfold n l).2 then 1 else 0) := by
  have : ∀ (l : List Int) (s : List Int × Bool), (l.foldl (pstep n) s).1.length + (if s.2 then 1 else 0) = s.1.length + l.length + (if (l.foldl (pstep n) s).2 then 1 else 0) := by
    intro l
    induction l with
    | nil => intro s; obtain ⟨o, b⟩ := s; cases b <;> simp
    | cons y t ih =>
      intro s
      rw [List.foldl_cons]
      have h1 := ih (pstep n s y)
      have h2 := pstep_len n s y
      simp only [List.length_cons]
      omega
  have h := this l ([], false)
  simp only [Bool.false_eq_true, if_false, List.length_nil, Nat.add_zero, Nat.zero_add] at h
  exact h
theorem putL_len (l : List Int) (n : Int) : (putL l n).length ≤ l.length + 1 := by
  have h := pfold_len n l
  unfold putL
  by_cases c : n ∈ l
  · rw [if_pos c]; omega
  · rw [if_neg c]
    cases hb : (pfold n l).2 with
    | true => rw [hb] at h; simp only [if_true] at h ⊢; omega
    | false => rw [hb] at h; simp only [Bool.false_eq_true, if_false] at h ⊢; simp; omega

def ofL (l : List Int) : List Int := l.foldl (fun s x => if 0 ≤ x then putL s x else s) []
theorem ofL_take {l : List Int} {k : Nat} (h : k < l.length) : ofL (l.take (k + 1)) = if 0 ≤ l.getD k 0 then putL (ofL (l.take k)) (l.getD k 0) else ofL (l.take k) := by
  unfold ofL
  rw [List.take_succ_eq_append_getElem h, List.foldl_append]
  simp [List.getD, List.getElem?_eq_getElem h]
theorem ofL_aux : ∀ (l s : List Int), Rise s → Rise (l.foldl (fun s x => if 0 ≤ x then putL s x else s) s) ∧ ∀ x, x ∈ l.foldl (fun s x => if 0 ≤ x then putL s x else s) s ↔ x ∈ s ∨ (x ∈ l ∧ 0 ≤ x) := by
  intro l
  induction l with
  | nil => intro s h; exact ⟨h, fun x => ⟨.inl, fun h => h.elim id fun h => by cases h.1⟩⟩
  | cons y t ih =>
    intro s h
    rw [List.foldl_cons]
    by_cases c : 0 ≤ y
    · rw [if_pos c]
      obtain ⟨p1, p2⟩ := putL_is (n := y) h
      obtain ⟨a1, a2⟩ := ih _ p1
      refine ⟨a1, fun x => ?_⟩
      rw [a2, p2, List.mem_cons]
      constructor
      · rintro ((h | h) | ⟨h, g⟩)
        · exact .inr ⟨.inl h, by omega⟩
        · exact .inl h
        · exact .inr ⟨.inr h, g⟩
      · rintro (h | ⟨h | h, g⟩)
        · exact .inl (.inr h)
        · exact .inl (.inl h)
        · exact .inr ⟨h, g⟩
    · rw [if_neg c]
      obtain ⟨a1, a2⟩ := ih _ h
      refine ⟨a1, fun x => ?_⟩
      rw [a2, List.mem_cons]
      constructor
      · rintro (h | ⟨h, g⟩)
        · exact .inl h
        · exact .inr ⟨.inr h, g⟩
      · rintro (h | ⟨h | h, g⟩)
        · exact .inl h
        · omega
        · exact .inr ⟨h, g⟩
theorem ofL_is (l : List Int) : Rise (ofL l) ∧ ∀ x, x ∈ ofL l ↔ x ∈ l ∧ 0 ≤ x := by
  obtain ⟨h1, h2⟩ := ofL_aux l [] List.Pairwise.nil
  exact ⟨h1, fun x => by rw [show ofL l = l.foldl (fun s x => if 0 ≤ x then putL s x else s) [] from rfl, h2]; simp⟩
theorem ofL_len (l : List Int) : (ofL l).length ≤ l.length := by
  have : ∀ (l s : List Int), (l.foldl (fun s x => if 0 ≤ x then putL s x else s) s).length ≤ s.length + l.length := by
    intro l
    induction l with
    | nil => intro s; simp
    | cons y t ih =>
      intro s
      rw [List.foldl_cons]
      have h1 := ih (if 0 ≤ y then putL s y else s)
      have h2 := putL_len s y
      simp only [List.length_cons]
      split at h1 <;> rename_i c <;> simp only [c, if_true, if_false] <;> omega
  have h := this l []
  rw [List.length_nil, Nat.zero_add] at h
  exact h
def joinL (s t : List Int) : List Int := t.foldl putL s
theorem joinL_take {s t : List Int} {k : Nat} (h : k < t.length) : joinL s (t.take (k + 1)) = putL (joinL s (t.take k)) (t.getD k 0) := by
  unfold joinL
  rw [List.take_succ_eq_append_getElem h, List.foldl_append]
  simp [List.getD, List.getElem?_eq_getElem h]
theorem joinL_is : ∀ (t s : List Int), Rise s → Rise (joinL s t) ∧ ∀ x, x ∈ joinL s t ↔ x ∈ s ∨ x ∈ t := by
  intro t
  induction t with
  | nil => intro s h; exact ⟨h, fun x => ⟨.inl, fun h => h.elim id fun h => by cases h⟩⟩
  | cons y t ih =>
    intro s h
    obtain ⟨p1, p2⟩ := putL_is (n := y) h
    obtain ⟨a1, a2⟩ := ih _ p1
    refine ⟨a1, fun x => ?_⟩
    rw [show joinL s (y :: t) = joinL (putL s y) t from rfl, a2, p2, List.mem_cons]
    constructor
    · rintro ((h | h) | h)
      · exact .inr (.inl h)
      · exact .inl h
      · exact .inr (.inr h)
    · rintro (h | h | h)
      · exact .inl (.inr h)
      · exact .inl (.inl h)
      · exact .inr h
theorem joinL_len : ∀ (t s : List Int), (joinL s t).length ≤ s.length + t.length := by
  intro t
  induction t with
  | nil => intro s; simp [joinL]
  | cons y t ih =>
    intro s
    have h1 := ih (putL s y)
    have h2 := putL_len s y
    rw [show joinL s (y :: t) = joinL (putL s y) t from rfl]
    simp only [List.length_cons]
    omega
def meetL (s t : List Int) : List Int := s.filter fun x => decide (x ∈ t)
def lessL (s t : List Int) : List Int := s.filter fun x => decide (x ∉ t)
theorem meetL_is {s t : List Int} (h : Rise s) : Rise (meetL s t) ∧ ∀ x, x ∈ meetL s t ↔ x ∈ s ∧ x ∈ t :=
  ⟨List.Pairwise.filter _ h, fun x => by unfold meetL; rw [List.mem_filter]; simp⟩
theorem lessL_is {s t : List Int} (h : Rise s) : Rise (lessL s t) ∧ ∀ x, x ∈ lessL s t ↔ x ∈ s ∧ x ∉ t :=
  ⟨List.Pairwise.filter _ h, fun x => by unfold lessL; rw [List.mem_filter]; simp⟩
theorem parts_len (s t : List Int) : (lessL s t).length + (meetL s t).length = s.length := by
  unfold lessL meetL
  induction s with
  | nil => rfl
  | cons x r ih =>
    by_cases h : x ∈ t
    · simp [h] at ih ⊢; omega
    · simp [h] at ih ⊢; omega
/-- How many runs a rising list has. -/
def runsF : Int → List Int → Nat
  | _, [] => 0
  | p, x :: t => (if x - 1 = p then 0 else 1) + runsF x t
def runsN : List Int → Nat
  | [] => 0
  | x :: t => 1 + runsF x t
theorem runsF_up : ∀ (n : Nat) (a : Int) (m : List Int), runsF (a - 1) ((List.range n).map (fun i => a + (i : Nat)) ++ m) = runsF (a + n - 1) m := by
  intro n
  induction n with
  | zero => intro a m; simp
  | succ n ih =>
    intro a m
    rw [List.range_succ_eq_map, List.map_cons, List.map_map, List.cons_append, runsF]
    have e : (List.map ((fun i => a + ((i : Nat) : Int)) ∘ Nat.succ) (List.range n)) = (List.range n).map fun i => (a + 1) + (i : Nat) := by
      apply List.map_congr_left
      intro i _
      simp only [Function.comp, Nat.succ_eq_add_one]
      omega
    rw [e, if_pos (by simp)]
    have h := ih (a + 1) m
    rw [show a + 1 - 1 = a by omega] at h
    rw [Nat.zero_add, show a + ((0 : Nat) : Int) = a by simp, h]
    congr 1
    omega
theorem runsF_expd : ∀ (l : List Rn) (p : Int), Norm l → (∀ r, r ∈ l → p + 1 < r.1) → runsF p (expd l) = l.length := by
  intro l
  induction l with
  | nil => intro p _ _; rfl
  | cons r t ih =>
    intro p hn hp
    have h0 := hn.head
    unfold okR at h0
    have hp0 := hp r (List.mem_cons_self ..)
    obtain ⟨n, hnn⟩ : ∃ n : Nat, (r.2 - r.1 + 1).toNat = n + 1 := ⟨(r.2 - r.1).toNat, by omega⟩
    have e : expd (r :: t) = ups r ++ expd t := by simp [expd]
    have eu : ups r = r.1 :: (List.range n).map (fun i => (r.1 + 1) + (i : Nat)) := by
      unfold ups
      rw [hnn, List.range_succ_eq_map, List.map_cons, List.map_map]
      congr 1
      · simp
      · apply List.map_congr_left
        intro i _
        simp only [Function.comp, Nat.succ_eq_add_one]
        omega
    rw [e, eu, List.cons_append, runsF, if_neg (by omega)]
    have h := runsF_up n (r.1 + 1) (expd t)
    rw [show r.1 + 1 - 1 = r.1 by omega] at h
    rw [h, show r.1 + 1 + (n : Int) - 1 = r.2 by omega, ih r.2 hn.tail (fun s hs => (List.pairwise_cons.1 hn.pw).1 s hs)]
    simp only [List.length_cons]
    omega
theorem runsN_expd {l : List Rn} (h : Norm l) : runsN (expd l) = l.length := by
  cases l with
  | nil => rfl
  | cons r t =>
    have h0 := h.head
    unfold okR at h0
    have h1 := runsF_expd (r :: t) (r.1 - 2) h (fun s hs => by
      rcases List.mem_cons.1 hs with rfl | hs
      · omega
      · have := (List.pairwise_cons.1 h.pw).1 s hs; omega)
    have hm : r.1 ∈ expd (r :: t) := mem_expd.2 (inR_cons.2 (.inl ⟨by omega, by omega⟩))
    cases he : expd (r :: t) with
    | nil => rw [he] at hm; cases hm
    | cons x u =>
      rw [he] at h1
      have hx : r.1 ≤ x := h.lo (mem_expd.1 (by rw [he]; exact List.mem_cons_self ..))
      rw [runsF, if_neg (by omega)] at h1
      exact h1
/-- Two ways to say a set: runs, and a rising list. -/
def SameSet (l : List Rn) (s : List Int) : Prop := Norm l ∧ Rise s ∧ ∀ x, inR l x ↔ x ∈ s
theorem SameSet.all {l : List Rn} {s : List Int} (h : SameSet l s) : expd l = s := rise_ext (expd_rise h.1) h.2.1 fun x => mem_expd.trans (h.2.2 x)
theorem SameSet.runs {l : List Rn} {s : List Int} (h : SameSet l s) : runsN s = l.length := by rw [← h.all]; exact runsN_expd h.1
theorem SameSet.many {l : List Rn} {s : List Int} (h : SameSet l s) : manyZ l = s.length := by rw [manyZ_is h.1, h.all]
theorem SameSet.meet {l m : List Rn} {s t : List Int} (h : SameSet l s) (g : SameSet m t) : SameSet (meet l m) (meetL s t) := by
  obtain ⟨a1, a2, _⟩ := meet_is l m h.1 g.1
  obtain ⟨b1, b2⟩ := meetL_is (t := t) h.2.1
  exact ⟨a1, b1, fun x => by rw [a2, b2, h.2.2, g.2.2]⟩
theorem SameSet.less {l m : List Rn} {s t : List Int} (h : SameSet l s) (g : SameSet m t) : SameSet (less l m) (lessL s t) := by
  obtain ⟨a1, a2⟩ := less_is h.1 g.1
  obtain ⟨b1, b2⟩ := lessL_is (t := t) h.2.1
  exact ⟨a1, b1, fun x => by rw [a2, b2, h.2.2, g.2.2]⟩
theorem SameSet.ext {l m : List Rn} {s : List Int} (h : SameSet l s) (g : SameSet m s) : l = m := norm_ext h.1 g.1 fun x => (h.2.2 x).trans (g.2.2 x).symm
end Go.Proofs.Ythbogpnkdlbilaa
