/- Regions beside coord: the runs. · Regions beside coord: a set in memory. · Regions beside coord: the sort, joined, Of. · Regions beside coord: Join. · Regions beside coord: All, Has. -/
import Derived.Test.YtmedgkccicbieaaGreatPOwnB
import Derived.Test.YtmedgkccicbieaaGreatPCoM1
import Derived.Maps.Own
import Derived.Deep.Draws
import Derived.WalkSpells
import Derived.WalkLawsBesides
import Derived.Deep.QuietTactic
import Derived.BigQuiet
import Derived.BigRegion
import Derived.Deep.LoopGhost
import Derived.Deep.DeepAppendWide
import Derived.Deep.AppendLies
import Derived.Maps.AppendAt
import Derived.Laws.ResultCell
import Derived.Test.YtmedgkccicbieaaGreatPSortShelf
import Derived.Deep.CutRange
import Derived.Laws.AppendOwnNone
import Derived.Deep.RegionHeld3
namespace Go.Proofs.YtmedgkccicbieaaGreat
set_option linter.unusedSimpArgs false
set_option linter.unusedVariables false

abbrev Rn := Int × Int
def top : Int := 9223372036854775807
def inRg (l : List Rn) (x : Int) : Prop := ∃ r, r ∈ l ∧ r.1 ≤ x ∧ x ≤ r.2
def okR (r : Rn) : Prop := 0 ≤ r.1 ∧ r.1 ≤ r.2 ∧ r.2 ≤ top
structure Norm (l : List Rn) : Prop where
  ok : ∀ r, r ∈ l → okR r
  pw : l.Pairwise fun r s => r.2 + 1 < s.1
theorem inR_nil (x : Int) : ¬ inRg [] x := by rintro ⟨r, h, _⟩; cases h
theorem inR_cons {r : Rn} {l : List Rn} {x : Int} : inRg (r :: l) x ↔ (r.1 ≤ x ∧ x ≤ r.2) ∨ inRg l x := by
  constructor
  · rintro ⟨s, h, h1⟩
    rcases List.mem_cons.1 h with rfl | h
    · exact .inl h1
    · exact .inr ⟨s, h, h1⟩
  · rintro (h | ⟨s, h, h1⟩)
    · exact ⟨r, List.mem_cons_self .., h⟩
    · exact ⟨s, List.mem_cons_of_mem _ h, h1⟩
theorem inR_append {l m : List Rn} {x : Int} : inRg (l ++ m) x ↔ inRg l x ∨ inRg m x := by
  constructor
  · rintro ⟨s, h, h1⟩
    rcases List.mem_append.1 h with h | h
    · exact .inl ⟨s, h, h1⟩
    · exact .inr ⟨s, h, h1⟩
  · rintro (⟨s, h, h1⟩ | ⟨s, h, h1⟩)
    · exact ⟨s, List.mem_append.2 (.inl h), h1⟩
    · exact ⟨s, List.mem_append.2 (.inr h), h1⟩
theorem norm_nil : Norm [] := ⟨(fun r h => by cases h), List.Pairwise.nil⟩
theorem Norm.tail {r : Rn} {l : List Rn} (h : Norm (r :: l)) : Norm l := ⟨fun s hs => h.ok s (List.mem_cons_of_mem _ hs), (List.pairwise_cons.1 h.pw).2⟩
theorem Norm.head {r : Rn} {l : List Rn} (h : Norm (r :: l)) : okR r := h.ok r (List.mem_cons_self ..)
theorem Norm.above {r : Rn} {l : List Rn} (h : Norm (r :: l)) {x : Int} (hx : inRg l x) : r.2 + 1 < x := by
  obtain ⟨s, hs, h1, h2⟩ := hx
  have := (List.pairwise_cons.1 h.pw).1 s hs
  omega
theorem Norm.lo {r : Rn} {l : List Rn} (h : Norm (r :: l)) {x : Int} (hx : inRg (r :: l) x) : r.1 ≤ x := by
  have h0 := h.head
  unfold okR at h0
  rcases inR_cons.1 hx with h1 | h1
  · exact h1.1
  · have := h.above h1; omega
theorem norm_ext : ∀ {l m : List Rn}, Norm l → Norm m → (∀ x, inRg l x ↔ inRg m x) → l = m := by
  intro l
  induction l with
  | nil =>
    intro m hl hm h
    cases m with
    | nil => rfl
    | cons s u =>
      have h0 := hm.head
      unfold okR at h0
      exact absurd ((h s.1).2 (inR_cons.2 (.inl ⟨by omega, by omega⟩))) (inR_nil _)
  | cons r t ih =>
    intro m hl hm h
    have h0 := hl.head
    unfold okR at h0
    cases m with
    | nil => exact absurd ((h r.1).1 (inR_cons.2 (.inl ⟨by omega, by omega⟩))) (inR_nil _)
    | cons s u =>
      have h1 := hm.head
      unfold okR at h1
      have e1 : r.1 = s.1 := by
        have a := hm.lo ((h r.1).1 (inR_cons.2 (.inl ⟨by omega, by omega⟩)))
        have b := hl.lo ((h s.1).2 (inR_cons.2 (.inl ⟨by omega, by omega⟩)))
        omega
      have e2 : r.2 = s.2 := by
        by_cases c1 : r.2 < s.2
        · have := (h (r.2 + 1)).2 (inR_cons.2 (.inl ⟨by omega, by omega⟩))
          rcases inR_cons.1 this with g | g
          · omega
          · have := hl.above g; omega
        · by_cases c2 : s.2 < r.2
          · have := (h (s.2 + 1)).1 (inR_cons.2 (.inl ⟨by omega, by omega⟩))
            rcases inR_cons.1 this with g | g
            · omega
            · have := hm.above g; omega
          · omega
      obtain rfl : r = s := by cases r; cases s; simp_all
      have : t = u := ih hl.tail hm.tail fun x => by
        constructor
        · intro hx
          have g := hl.above hx
          rcases inR_cons.1 ((h x).1 (inR_cons.2 (.inr hx))) with k | k
          · omega
          · exact k
        · intro hx
          have g := hm.above hx
          rcases inR_cons.1 ((h x).2 (inR_cons.2 (.inr hx))) with k | k
          · omega
          · exact k
      rw [this]

def jstep (acc : List Rn) (r : Rn) : List Rn :=
  if 0 < acc.length ∧ r.1 - 1 ≤ (acc.getD (acc.length - 1) (0, 0)).2 then acc.set (acc.length - 1) ((acc.getD (acc.length - 1) (0, 0)).1, max (acc.getD (acc.length - 1) (0, 0)).2 r.2) else acc ++ [r]
def jn (l : List Rn) : List Rn := l.foldl jstep []
theorem jn_take {l : List Rn} {k : Nat} (h : k < l.length) : jn (l.take (k + 1)) = jstep (jn (l.take k)) (l.getD k (0, 0)) := by
  unfold jn
  rw [List.take_succ_eq_append_getElem h, List.foldl_append]
  simp [List.getD, List.getElem?_eq_getElem h]
theorem snoc_of {acc : List Rn} (h : 0 < acc.length) : acc = acc.dropLast ++ [acc.getD (acc.length - 1) (0, 0)] := by
  have hne : acc ≠ [] := by intro e; rw [e] at h; simp at h
  have e := List.dropLast_concat_getLast hne
  have g : acc.getD (acc.length - 1) (0, 0) = acc.getLast hne := by
    rw [List.getLast_eq_getElem]
    simp [List.getD, List.getElem?_eq_getElem (show acc.length - 1 < acc.length by omega)]
  rw [g]
  exact e.symm
theorem set_last {pre : List Rn} {e v : Rn} : (pre ++ [e]).set ((pre ++ [e]).length - 1) v = pre ++ [v] := by
  rw [List.length_append, List.length_singleton, Nat.add_sub_cancel, List.set_append_right _ _ (Nat.le_refl _)]
  simp
theorem get_last {pre : List Rn} {e : Rn} : (pre ++ [e]).getD ((pre ++ [e]).length - 1) (0, 0) = e := by
  rw [List.length_append, List.length_singleton, Nat.add_sub_cancel]
  simp [List.getD]
theorem jstep_snoc (pre : List Rn) (e r : Rn) : jstep (pre ++ [e]) r = if r.1 - 1 ≤ e.2 then pre ++ [(e.1, max e.2 r.2)] else pre ++ [e] ++ [r] := by
  unfold jstep
  rw [get_last, set_last]
  simp only [List.length_append, List.length_singleton, Nat.zero_lt_succ, true_and]
theorem jstep_nil (r : Rn) : jstep [] r = [r] := by unfold jstep; simp
theorem snoc_cases (acc : List Rn) : acc = [] ∨ ∃ pre e, acc = pre ++ [e] := by
  by_cases h : 0 < acc.length
  · exact .inr ⟨_, _, snoc_of h⟩
  · exact .inl (List.length_eq_zero_iff.1 (by omega))
theorem jstep_len (acc : List Rn) (r : Rn) : (jstep acc r).length ≤ acc.length + 1 := by
  rcases snoc_cases acc with rfl | ⟨pre, e, rfl⟩
  · rw [jstep_nil]; simp
  · rw [jstep_snoc]; split <;> simp
theorem jn_len : ∀ (l acc : List Rn), (l.foldl jstep acc).length ≤ acc.length + l.length := by
  intro l
  induction l with
  | nil => intro acc; simp
  | cons r t ih =>
    intro acc
    rw [List.foldl_cons]
    have := ih (jstep acc r)
    have := jstep_len acc r
    simp only [List.length_cons]
    omega
theorem inR_jstep {acc : List Rn} {r : Rn} (hr : okR r) (ha : Norm acc) (hs : ∀ e, e ∈ acc → e.1 ≤ r.1) (x : Int) : inRg (jstep acc r) x ↔ inRg acc x ∨ (r.1 ≤ x ∧ x ≤ r.2) := by
  rcases snoc_cases acc with rfl | ⟨pre, e, rfl⟩
  · rw [jstep_nil, inR_cons]
    constructor
    · rintro (h | h)
      · exact .inr h
      · exact absurd h (inR_nil _)
    · rintro (h | h)
      · exact absurd h (inR_nil _)
      · exact .inl h
  · rw [jstep_snoc]
    have h1 := hs e (List.mem_append.2 (.inr (List.mem_cons_self ..)))
    have h2 := ha.ok e (List.mem_append.2 (.inr (List.mem_cons_self ..)))
    unfold okR at hr h2
    by_cases c : r.1 - 1 ≤ e.2
    · rw [if_pos c, inR_append, inR_append, inR_cons, inR_cons]
      have n := inR_nil x
      constructor
      · rintro (h | h | h)
        · exact .inl (.inl h)
        · simp only at h
          by_cases d : x ≤ e.2
          · exact .inl (.inr (.inl ⟨h.1, d⟩))
          · exact .inr ⟨by omega, by omega⟩
        · exact absurd h n
      · rintro ((h | h | h) | h)
        · exact .inl h
        · exact .inr (.inl ⟨h.1, by simp only; omega⟩)
        · exact absurd h n
        · exact .inr (.inl ⟨by simp only; omega, by simp only; omega⟩)
    · rw [if_neg c, inR_append, inR_cons]
      have n := inR_nil x
      constructor
      · rintro (h | h | h)
        · exact .inl h
        · exact .inr h
        · exact absurd h n
      · rintro (h | h)
        · exact .inl h
        · exact .inr (.inl h)
theorem norm_jstep {acc : List Rn} {r : Rn} (hr : okR r) (ha : Norm acc) (hs : ∀ e, e ∈ acc → e.1 ≤ r.1) : Norm (jstep acc r) ∧ ∀ e, e ∈ jstep acc r → e.1 ≤ r.1 := by
  rcases snoc_cases acc with rfl | ⟨pre, e, rfl⟩
  · rw [jstep_nil]
    exact ⟨⟨fun s hs' => by rw [List.mem_singleton.1 hs']; exact hr, by simp⟩, fun s hs' => by rw [List.mem_singleton.1 hs']; omega⟩
  · rw [jstep_snoc]
    have h1 := hs e (List.mem_append.2 (.inr (List.mem_cons_self ..)))
    have h2 := ha.ok e (List.mem_append.2 (.inr (List.mem_cons_self ..)))
    obtain ⟨p1, p2, p3⟩ := List.pairwise_append.1 ha.pw
    have hp : ∀ s, s ∈ pre → okR s := fun s h => ha.ok s (List.mem_append.2 (.inl h))
    have h3 : ∀ s, s ∈ pre → s.2 + 1 < e.1 := fun s h => p3 s h e (List.mem_cons_self ..)
    unfold okR at hr h2
    by_cases c : r.1 - 1 ≤ e.2
    · rw [if_pos c]
      refine ⟨⟨fun s h => ?_, List.pairwise_append.2 ⟨p1, by simp, fun s h t ht => ?_⟩⟩, fun s h => ?_⟩
      · rcases List.mem_append.1 h with h | h
        · exact hp s h
        · rw [List.mem_singleton.1 h]; unfold okR; simp only; omega
      · rw [List.mem_singleton.1 ht]; exact h3 s h
      · rcases List.mem_append.1 h with h | h
        · exact hs s (List.mem_append.2 (.inl h))
        · rw [List.mem_singleton.1 h]; exact h1
    · rw [if_neg c]
      refine ⟨⟨fun s h => ?_, List.pairwise_append.2 ⟨ha.pw, by simp, fun s h t ht => ?_⟩⟩, fun s h => ?_⟩
      · rcases List.mem_append.1 h with h | h
        · exact ha.ok s h
        · rw [List.mem_singleton.1 h]; exact hr
      · rw [List.mem_singleton.1 ht]
        rcases List.mem_append.1 h with h | h
        · have := h3 s h; omega
        · rw [List.mem_singleton.1 h]; omega
      · rcases List.mem_append.1 h with h | h
        · exact hs s h
        · rw [List.mem_singleton.1 h]; omega
theorem jn_aux : ∀ (l acc : List Rn), (∀ r, r ∈ l → okR r) → l.Pairwise (fun r s => r.1 ≤ s.1) → Norm acc → (∀ e, e ∈ acc → ∀ r, r ∈ l → e.1 ≤ r.1) → Norm (l.foldl jstep acc) ∧ ∀ x, inRg (l.foldl jstep acc) x ↔ inRg acc x ∨ inRg l x := by
  intro l
  induction l with
  | nil => intro acc _ _ h _; exact ⟨h, fun x => ⟨.inl, fun h => h.elim id fun h => absurd h (inR_nil _)⟩⟩
  | cons r t ih =>
    intro acc hok hp ha hs
    have h0 := hok r (List.mem_cons_self ..)
    have h1 := fun e he => hs e he r (List.mem_cons_self ..)
    obtain ⟨q1, q2⟩ := List.pairwise_cons.1 hp
    have n1 := norm_jstep h0 ha h1
    have e1 := inR_jstep h0 ha h1
    obtain ⟨a1, a2⟩ := ih (jstep acc r) (fun s h => hok s (List.mem_cons_of_mem _ h)) q2 n1.1 (fun e he s hs' => by have := n1.2 e he; have := q1 s hs'; omega)
    refine ⟨a1, fun x => ?_⟩
    rw [List.foldl_cons, a2, e1, inR_cons]
    exact or_assoc
theorem jn_norm {l : List Rn} (hok : ∀ r, r ∈ l → okR r) (hp : l.Pairwise (fun r s => r.1 ≤ s.1)) : Norm (jn l) ∧ ∀ x, inRg (jn l) x ↔ inRg l x := by
  obtain ⟨h1, h2⟩ := jn_aux l [] hok hp norm_nil (fun e he => by cases he)
  refine ⟨h1, fun x => ?_⟩
  rw [show jn l = l.foldl jstep [] from rfl, h2]
  exact ⟨fun h => h.elim (fun h => absurd h (inR_nil _)) id, .inr⟩

def oth : Int → List Rn → List Rn
  | nx, [] => [(nx, top)]
  | nx, r :: t => (if nx < r.1 then [(nx, r.1 - 1)] else []) ++ (if r.2 = top then [] else oth (r.2 + 1) t)
def ups (r : Rn) : List Int := (List.range (r.2 - r.1 + 1).toNat).map fun i => r.1 + (i : Nat)
def expd (l : List Rn) : List Int := l.flatMap ups
theorem mem_ups {r : Rn} {x : Int} : x ∈ ups r ↔ r.1 ≤ x ∧ x ≤ r.2 := by
  unfold ups
  rw [List.mem_map]
  constructor
  · rintro ⟨i, hi, rfl⟩
    rw [List.mem_range] at hi
    omega
  · intro h
    exact ⟨(x - r.1).toNat, by rw [List.mem_range]; omega, by omega⟩
theorem mem_expd {l : List Rn} {x : Int} : x ∈ expd l ↔ inRg l x := by
  unfold expd inRg
  rw [List.mem_flatMap]
  constructor
  · rintro ⟨r, h, h1⟩; exact ⟨r, h, mem_ups.1 h1⟩
  · rintro ⟨r, h, h1⟩; exact ⟨r, h, mem_ups.2 h1⟩
def RiseR (l : List Int) : Prop := l.Pairwise (· < ·)
theorem ups_rise (r : Rn) : RiseR (ups r) := by
  unfold RiseR ups
  rw [List.pairwise_map]
  refine List.Pairwise.imp ?_ List.pairwise_lt_range
  intro a b h
  omega
theorem expd_rise {l : List Rn} (h : Norm l) : RiseR (expd l) := by
  induction l with
  | nil => exact List.Pairwise.nil
  | cons r t ih =>
    unfold RiseR expd
    rw [List.flatMap_cons]
    refine List.pairwise_append.2 ⟨ups_rise r, ih h.tail, fun x hx y hy => ?_⟩
    have h1 := mem_ups.1 hx
    have h2 := h.above (mem_expd.1 hy)
    omega
theorem riseR_ext : ∀ {l m : List Int}, RiseR l → RiseR m → (∀ x, x ∈ l ↔ x ∈ m) → l = m := by
  intro l
  induction l with
  | nil =>
    intro m _ _ h
    cases m with
    | nil => rfl
    | cons s u => exact absurd ((h s).2 (List.mem_cons_self ..)) (by simp)
  | cons r t ih =>
    intro m hl hm h
    cases m with
    | nil => exact absurd ((h r).1 (List.mem_cons_self ..)) (by simp)
    | cons s u =>
      obtain ⟨l1, l2⟩ := List.pairwise_cons.1 hl
      obtain ⟨m1, m2⟩ := List.pairwise_cons.1 hm
      have e : r = s := by
        rcases List.mem_cons.1 ((h r).1 (List.mem_cons_self ..)) with e | a
        · exact e
        · rcases List.mem_cons.1 ((h s).2 (List.mem_cons_self ..)) with e | b
          · exact e.symm
          · have := m1 r a; have := l1 s b; omega
      subst e
      have : t = u := ih l2 m2 fun x => by
        constructor
        · intro hx
          have g := l1 x hx
          rcases List.mem_cons.1 ((h x).1 (List.mem_cons_of_mem _ hx)) with k | k
          · omega
          · exact k
        · intro hx
          have g := m1 x hx
          rcases List.mem_cons.1 ((h x).2 (List.mem_cons_of_mem _ hx)) with k | k
          · omega
          · exact k
      rw [this]
def manyZ : List Rn → Int
  | [] => 0
  | r :: t => (r.2 - r.1 + 1) + manyZ t
theorem manyZ_is : ∀ {l : List Rn}, Norm l → manyZ l = (expd l).length := by
  intro l
  induction l with
  | nil => intro _; rfl
  | cons r t ih =>
    intro h
    have h0 := h.head
    unfold okR at h0
    have e : (expd (r :: t)).length = (r.2 - r.1 + 1).toNat + (expd t).length := by
      unfold expd
      rw [List.flatMap_cons, List.length_append]
      simp [ups]
    rw [manyZ, ih h.tail, e]
    omega
end Go.Proofs.YtmedgkccicbieaaGreat
namespace Go.Proofs.YtmedgkccicbieaaGreat
set_option linter.unusedSimpArgs false
set_option linter.unusedVariables false

def runsF : Int → List Int → Nat
  | _, [] => 0
  | p, x :: t => (if x - 1 = p then 0 else 1) + runsF x t
def runsN : List Int → Nat
  | [] => 0
  | x :: t => 1 + runsF x t
theorem runsF_up : ∀ (n : Nat) (a : Int) (m : List Int), runsF (a - 1) ((List.range n).map (fun i => a + (i : Nat)) ++ m) = runsF (a + n - 1) m := by
  intro n
  induction n with
  | zero => intro a m; simp
  | succ n ih =>
    intro a m
    rw [List.range_succ_eq_map, List.map_cons, List.map_map, List.cons_append, runsF]
    have e : (List.map ((fun i => a + ((i : Nat) : Int)) ∘ Nat.succ) (List.range n)) = (List.range n).map fun i => (a + 1) + (i : Nat) := by
      apply List.map_congr_left
      intro i _
      simp only [Function.comp, Nat.succ_eq_add_one]
      omega
    rw [e, if_pos (by simp)]
    have h := ih (a + 1) m
    rw [show a + 1 - 1 = a by omega] at h
    rw [Nat.zero_add, show a + ((0 : Nat) : Int) = a by simp, h]
    congr 1
    omega
theorem runsF_expd : ∀ (l : List Rn) (p : Int), Norm l → (∀ r, r ∈ l → p + 1 < r.1) → runsF p (expd l) = l.length := by
  intro l
  induction l with
  | nil => intro p _ _; rfl
  | cons r t ih =>
    intro p hn hp
    have h0 := hn.head
    unfold okR at h0
    have hp0 := hp r (List.mem_cons_self ..)
    obtain ⟨n, hnn⟩ : ∃ n : Nat, (r.2 - r.1 + 1).toNat = n + 1 := ⟨(r.2 - r.1).toNat, by omega⟩
    have e : expd (r :: t) = ups r ++ expd t := by simp [expd]
    have eu : ups r = r.1 :: (List.range n).map (fun i => (r.1 + 1) + (i : Nat)) := by
      unfold ups
      rw [hnn, List.range_succ_eq_map, List.map_cons, List.map_map]
      congr 1
      · simp
      · apply List.map_congr_left
        intro i _
        simp only [Function.comp, Nat.succ_eq_add_one]
        omega
    rw [e, eu, List.cons_append, runsF, if_neg (by omega)]
    have h := runsF_up n (r.1 + 1) (expd t)
    rw [show r.1 + 1 - 1 = r.1 by omega] at h
    rw [h, show r.1 + 1 + (n : Int) - 1 = r.2 by omega, ih r.2 hn.tail (fun s hs => (List.pairwise_cons.1 hn.pw).1 s hs)]
    simp only [List.length_cons]
    omega
theorem runsN_expd {l : List Rn} (h : Norm l) : runsN (expd l) = l.length := by
  cases l with
  | nil => rfl
  | cons r t =>
    have h0 := h.head
    unfold okR at h0
    have h1 := runsF_expd (r :: t) (r.1 - 2) h (fun s hs => by
      rcases List.mem_cons.1 hs with rfl | hs
      · omega
      · have := (List.pairwise_cons.1 h.pw).1 s hs; omega)
    have hm : r.1 ∈ expd (r :: t) := mem_expd.2 (inR_cons.2 (.inl ⟨by omega, by omega⟩))
    cases he : expd (r :: t) with
    | nil => rw [he] at hm; cases hm
    | cons x u =>
      rw [he] at h1
      have hx : r.1 ≤ x := h.lo (mem_expd.1 (by rw [he]; exact List.mem_cons_self ..))
      rw [runsF, if_neg (by omega)] at h1
      exact h1
def SameSet (l : List Rn) (s : List Int) : Prop := Norm l ∧ RiseR s ∧ ∀ x, inRg l x ↔ x ∈ s
theorem SameSet.all {l : List Rn} {s : List Int} (h : SameSet l s) : expd l = s := riseR_ext (expd_rise h.1) h.2.1 fun x => mem_expd.trans (h.2.2 x)
theorem SameSet.runs {l : List Rn} {s : List Int} (h : SameSet l s) : runsN s = l.length := by rw [← h.all]; exact runsN_expd h.1
theorem SameSet.many {l : List Rn} {s : List Int} (h : SameSet l s) : manyZ l = s.length := by rw [manyZ_is h.1, h.all]
theorem SameSet.ext {l m : List Rn} {s : List Int} (h : SameSet l s) (g : SameSet m s) : l = m := norm_ext h.1 g.1 fun x => (h.2.2 x).trans (g.2.2 x).symm

def rnA (l : List Rn) (i : Nat) : Rn := l.getD i (0, 0)
structure Rs (w : World) (a : Option Addr) (l : List Rn) : Prop where
  cells : 0 < l.length → ∃ b o, a = some ⟨b, o, none⟩ ∧ b < w.heap.size ∧ ∀ i, i < l.length → w.cell? ⟨b, o + i * 2, none⟩ = some (.int .i64 (rnA l i).1) ∧ w.cell? ⟨b, o + i * 2 + 1, none⟩ = some (.int .i64 (rnA l i).2)
theorem Rs.chg {S : Nat → Prop} {w w' : World} {a : Option Addr} {l : List Rn} (h : Rs w a l) (g : Chg S w w') (hb : 0 < l.length → ∀ ad, a = some ad → ¬ S ad.block) : Rs w' a l :=
  ⟨fun hp => by
    obtain ⟨c, o, h1, h2, h3⟩ := h.cells hp
    have hne : ¬ S c := hb hp ⟨c, o, none⟩ h1
    exact ⟨c, o, h1, Nat.lt_of_lt_of_le h2 g.size, fun i hi => ⟨g.cellp (h3 i hi).1 hne, g.cellp (h3 i hi).2 hne⟩⟩⟩
theorem Rs.kept {w w' : World} {a : Option Addr} {l : List Rn} (h : Rs w a l) (g : Kept w w') : Rs w' a l := h.chg (S := fun _ => False) (Chg.of_kept g) (fun _ _ _ e => e)
def flatR (l : List Rn) : List Value := l.flatMap fun r => [.int .i64 r.1, .int .i64 r.2]
theorem flatR_len (l : List Rn) : (flatR l).length = l.length * 2 := by
  induction l with
  | nil => rfl
  | cons r t ih => simp only [flatR, List.flatMap_cons, List.length_append, List.length_cons, List.length_nil] at *; omega
theorem flatR_snoc (l : List Rn) (r : Rn) : flatR (l ++ [r]) = flatR l ++ [.int .i64 r.1, .int .i64 r.2] := by simp [flatR]
theorem flatR_app (l m : List Rn) : flatR (l ++ m) = flatR l ++ flatR m := by simp [flatR]
theorem flatR_get : ∀ (l : List Rn) (i : Nat), i < l.length → (flatR l)[i * 2]? = some (.int .i64 (rnA l i).1) ∧ (flatR l)[i * 2 + 1]? = some (.int .i64 (rnA l i).2) := by
  intro l
  induction l with
  | nil => intro i h; simp at h
  | cons r t ih =>
    intro i h
    have e : flatR (r :: t) = .int .i64 r.1 :: .int .i64 r.2 :: flatR t := by simp [flatR]
    rw [e]
    cases i with
    | zero => exact ⟨rfl, rfl⟩
    | succ i =>
      have := ih i (by simpa using h)
      rw [show (i + 1) * 2 = i * 2 + 1 + 1 by omega]
      simp only [List.getElem?_cons_succ]
      exact this
theorem flatR_set1 : ∀ (l : List Rn) (i : Nat) (x : Int), i < l.length → (flatR l).set (i * 2 + 1) (.int .i64 x) = flatR (l.set i ((rnA l i).1, x)) := by
  intro l
  induction l with
  | nil => intro i x h; simp at h
  | cons r t ih =>
    intro i x h
    have e : ∀ (r : Rn) t, flatR (r :: t) = .int .i64 r.1 :: .int .i64 r.2 :: flatR t := fun r t => by simp [flatR]
    cases i with
    | zero => rw [e]; simp [rnA, e]
    | succ i =>
      have := ih i x (by simpa using h)
      rw [e, show (i + 1) * 2 + 1 = i * 2 + 1 + 1 + 1 by omega, List.set_cons_succ, List.set_cons_succ, this, List.set_cons_succ, e]
      rfl
theorem flatR_one (l : List Rn) : ∀ u ∈ flatR l, u.oneCell' = true := by
  intro u hu
  obtain ⟨r, _, h⟩ := List.mem_flatMap.1 hu
  simp at h
  rcases h with rfl | rfl <;> rfl
def OwnR (w : World) (B : Nat) (v : Value) (l : List Rn) : Prop := w.ownsRow B 125 2 v l.length (flatR l)
theorem ownR_nil (w : World) (B : Nat) : OwnR w B (.slice none 0 0) [] := World.ownsRow_nil _ _ _ _
theorem OwnR.lt {w : World} {B : Nat} {v : Value} {l : List Rn} (h : OwnR w B v l) : ∀ g, v.ownBlock = some g → B ≤ g ∧ g < w.heap.size := World.ownsRow.lt h
theorem OwnR.chg {S : Nat → Prop} {w w' : World} {B : Nat} {v : Value} {l : List Rn} (h : OwnR w B v l) (g : Chg S w w') (hb : ∀ k, v.ownBlock = some k → ¬ S k) : OwnR w' B v l := by
  have hlt := h.lt
  obtain ⟨h0, h1 | ⟨k, cap, cur, hv, hb', hh, r⟩⟩ := h
  · exact ⟨h0, .inl h1⟩
  · subst hv
    refine ⟨h0, .inr ⟨k, cap, cur, rfl, hb', ?_, r⟩⟩
    rw [g.block k (hlt k rfl).2 (hb k rfl)]
    exact hh
theorem OwnR.kept {w w' : World} {B : Nat} {v : Value} {l : List Rn} (h : OwnR w B v l) (g : Kept w w') : OwnR w' B v l := h.chg (S := fun _ => False) (Chg.of_kept g) (fun _ _ e => e)
theorem OwnR.rs {w : World} {B : Nat} {v : Value} {l : List Rn} (h : OwnR w B v l) : ∃ a c, v = .slice a l.length c ∧ Rs w a l ∧ l.length ≤ c ∧ (a = none → l = [] ∧ c = 0) := by
  have h' := h
  have hlt := h.lt
  obtain ⟨_, ⟨rfl, hz⟩ | ⟨g, cap, cur, rfl, hb, hheap, hc, hcm, hsz, htk⟩⟩ := h
  · exact ⟨none, 0, by rw [hz], ⟨fun hp => absurd hp (by omega)⟩, by omega, fun _ => ⟨List.eq_nil_of_length_eq_zero hz, rfl⟩⟩
  · refine ⟨_, _, rfl, ⟨fun hp => ⟨g, 0, rfl, (hlt g rfl).2, fun i hi => ?_⟩⟩, hc, fun e => by cases e⟩
    have h1 := World.ownsRow.cellAt h' (i * 2) (by omega)
    have h2 := World.ownsRow.cellAt h' (i * 2 + 1) (by omega)
    have h3 := flatR_get l i hi
    rw [Nat.zero_add, h1, h2]
    exact h3
theorem rinfo : ∃ i0, Tryz.prog.info? 125 = some i0 ∧ i0.zero = some (.agg #[.int .i64 0, .int .i64 0]) ∧ i0.size = 2 ∧ i0.bytes = 16 := by
  have h : (Tryz.prog.info? 125).map (fun i => (i.zero, i.size, i.bytes)) = some (some (.agg #[.int .i64 0, .int .i64 0]), 2, 16) := by kernel_rfl
  exact info_parts h
theorem two_news {w : World} {g : Nat} {x y : Int} (h0 : w.cell? ⟨g, 0, none⟩ = some (.int .i64 x)) (h1 : w.cell? ⟨g, 1, none⟩ = some (.int .i64 y)) : ∀ (j : Nat) u, [Value.int .i64 x, Value.int .i64 y][j]? = some u → w.cell? ((⟨g, 0, none⟩ : Addr).add j) = some u := by
  intro j u hj
  have : j = 0 ∨ j = 1 ∨ 2 ≤ j := by omega
  rcases this with rfl | rfl | hj2
  · simp at hj; subst hj; simpa [Addr.add] using h0
  · simp at hj; subst hj; simpa [Addr.add] using h1
  · rw [List.getElem?_eq_none (by simpa using hj2)] at hj; cases hj
theorem wpList_pushRn {ops : Array Oper} {rest : List Oper} {o : Oper} {a : Act} {Q : Exit → Act → World → Prop} (w : World) (hgd : o.guard = none) (s x : Operand)
    (ho : o.op = .call { callee := .builtin .append, args := #[s, x], argTypes := #[53, 53] })
    (B : Nat) (v : Value) (l : List Rn) (hs : a.eval s = v) (hv : OwnR w B v l) (hB : B ≤ w.heap.size) (g : Nat) (r : Rn) (hx : a.eval x = .slice (some ⟨g, 0, none⟩) 1 1) (hc0 : w.cell? ⟨g, 0, none⟩ = some (.int .i64 r.1)) (hc1 : w.cell? ⟨g, 1, none⟩ = some (.int .i64 r.2))
    (h47 : l.length ≤ 100000) (H : Nat) (hH : w.heap.size = H)
    (h : ∀ g' cap w', OwnR w' B (.slice (some ⟨g', 0, none⟩) (l.length + 1) cap) (l ++ [r]) → Chg (fun k => v.ownBlock = some k) w w' → (v.ownBlock = some g' ∨ g' = H) → g' < w'.heap.size → wpList Tryz.prog ops Q rest (a.put o.dst (.slice (some ⟨g', 0, none⟩) (l.length + 1) cap)) w') : wpList Tryz.prog ops Q (o :: rest) a w := by
  obtain ⟨i0, hi0, hz0, hz1, hz2⟩ := rinfo
  refine wpList_append_lies w hgd s x 53 ho B 125 i0 _ 2 16 Tryz.underlying53 hi0 hz0 hz1 hz2 rfl (by decide) v _ _ hs hv ⟨g, 0, none⟩ 1 1 [.int .i64 r.1, .int .i64 r.2] hx rfl (two_news hc0 hc1) (by intro u hu; simp at hu; rcases hu with rfl | rfl <;> rfl) (by omega) (by unfold maxLen; omega) (by omega) hB H hH ?_
  intro g' cap w' h2 h3 h4 h5
  refine h g' cap w' ?_ ((Chg.refl _ w).grown h3 (fun k hk => .inl hk)) h4 h5
  unfold OwnR
  rw [flatR_snoc, List.length_append, List.length_singleton]
  exact h2
def SetIs (w : World) (v : Value) (l : List Rn) : Prop := ∃ a c, v = .agg #[.slice a l.length c] ∧ Rs w a l ∧ l.length ≤ c ∧ (a = none → l = [] ∧ c = 0)
theorem SetIs.kept {w w' : World} {v : Value} {l : List Rn} (h : SetIs w v l) (g : Kept w w') : SetIs w' v l := by
  obtain ⟨a, c, h1, h2, h3⟩ := h
  exact ⟨a, c, h1, h2.kept g, h3⟩

theorem set_load {w : World} {g : Nat} {v : Value} (c0 : w.cell? ⟨g, 0, none⟩ = some v) : (loadVar 55 ⟨g, 0, none⟩).run Tryz.prog w = .ok (.agg #[v]) w := by
  have hl := run_loadCells_list (P := Tryz.prog) w ⟨g, 0, none⟩ [v] (fun j u hu => by
    have hadd : (⟨g, 0, none⟩ : Addr).add j = ⟨g, j, none⟩ := by unfold Addr.add; split <;> simp_all
    rw [hadd]
    have : j = 0 := by
      have := (List.getElem?_eq_some_iff.1 hu).1
      simp at this
      omega
    subst this
    simp_all)
  have hi : (Tryz.prog.info? 55).map (·.size) = some 1 := by kernel_rfl
  obtain ⟨i, h1, h2⟩ := Option.map_eq_some_iff.1 hi
  simp only [List.length_cons, List.length_nil, Nat.reduceAdd] at hl
  simp [loadVar, Sem.run_bind, Tryz.isAgg55, sizeOf, typeInfo, h1, h2, hl]
theorem results_cell1 {P : Program} {fn : Func} {p : Tmp} {ty : TypeId} (h : fn.results = #[.cell p ty]) (tmps : Array Value) (w : World) (g : Nat) (v : Value)
    (hp : tmps.getD p undef = .pointer (some ⟨g, 0, none⟩)) (hg : (loadVar ty ⟨g, 0, none⟩).run P w = .ok v w) : (results fn tmps).run P w = .ok v w := by
  have hp' : tmps[p]?.getD undef = .pointer (some ⟨g, 0, none⟩) := by simpa using hp
  simp [results, h, hp', asAddr, hg]
theorem set_ret {R : Ending → World → Prop} {fn : Func} {p : Tmp} (hfn : fn.results = #[.cell p 55]) {a : Act} {w : World} (g : Nat) (v : Value) (hp : a.tmps.getD p undef = .pointer (some ⟨g, 0, none⟩)) (hd : a.defers = [])
    (c0 : w.cell? ⟨g, 0, none⟩ = some v) (h : R (.returned (.agg #[v])) w) : bodyPost Tryz.prog fn R .ret a w :=
  bodyPost_ret (results_cell1 hfn _ _ g _ hp (set_load c0)) hd h
structure SB (w0 w : World) (rs s B : Nat) (v : Value) (l : List Rn) : Prop where
  c : w.cell? ⟨s, 0, none⟩ = some v
  f : w.frozen? ⟨s, 0, none⟩ = false
  rc : ∃ u, w.cell? ⟨rs, 0, none⟩ = some u
  rf : w.frozen? ⟨rs, 0, none⟩ = false
  own : OwnR w B v l
  lt : rs < s ∧ s < B
  hB : B ≤ w.heap.size
  kept : Kept w0 w
  h0 : w0.heap.size ≤ s
theorem SB.keep {w0 w w' : World} {rs s B : Nat} {v : Value} {l : List Rn} (h : SB w0 w rs s B v l) (g : Kept w w') : SB w0 w' rs s B v l := by
  have l1 : s < w.heap.size := cell_lt h.c
  have l2 : rs < w.heap.size := by have := h.lt; omega
  obtain ⟨u, hu⟩ := h.rc
  exact ⟨g.cellp h.c, (g.frozen (p := ⟨s, 0, none⟩) l1).trans h.f, ⟨u, g.cellp hu⟩, (g.frozen (p := ⟨rs, 0, none⟩) l2).trans h.rf, h.own.kept g, h.lt, Nat.le_trans h.hB g.size, h.kept.trans g, h.h0⟩
theorem SB.push {w0 w y : World} {rs s B : Nat} {v v' : Value} {l m : List Rn} (h : SB w0 w rs s B v l) (ho : OwnR y B v' m) (hc : Chg (fun k => v.ownBlock = some k) w y) :
    y.cell? ⟨s, 0, none⟩ = some v ∧ y.frozen? ⟨s, 0, none⟩ = false ∧ SB w0 (y.setCell ⟨s, 0, none⟩ v') rs s B v' m := by
  have hlt := h.lt
  have hb : ∀ k, v.ownBlock = some k → B ≤ k := fun k hk => (h.own.lt k hk).1
  have n1 : ¬ v.ownBlock = some s := fun e => by have := hb s e; omega
  have n2 : ¬ v.ownBlock = some rs := fun e => by have := hb rs e; omega
  have l1 : s < w.heap.size := cell_lt h.c
  have l2 : rs < w.heap.size := by omega
  have q := hc.cellp h.c n1
  have c2 : Chg (· = s) y (y.setCell ⟨s, 0, none⟩ v') := (Chg.refl (· = s) y).setCell (p := ⟨s, 0, none⟩) (.inl rfl) _
  obtain ⟨u, hu⟩ := h.rc
  refine ⟨q, (hc.frozen (p := ⟨s, 0, none⟩) l1 n1).trans h.f, World.cell?_setCell_same _ _ _ q, by simpa using (hc.frozen (p := ⟨s, 0, none⟩) l1 n1).trans h.f, ⟨u, c2.cellp (hc.cellp hu n2) (by omega)⟩, by simpa using (hc.frozen (p := ⟨rs, 0, none⟩) l2 n2).trans h.rf, ho.chg c2 (fun k hk e => ?_), hlt, ?_, ?_, h.h0⟩
  · have := (ho.lt k hk).1; omega
  · have := h.hB; have := hc.size; simp; omega
  · exact (Chg.kept h.kept hc (fun j hj => by have := hb j hj; have := h.h0; omega)).setCell (p := ⟨s, 0, none⟩) (show w0.heap.size ≤ s by have := h.h0; omega) _
theorem SB.push1 {w0 w y : World} {rs s B : Nat} {v v' : Value} {l m : List Rn} (h : SB w0 w rs s B v l) (ho : OwnR y B v' m) (hc : Chg (fun k => v.ownBlock = some k) w y) :
    y.cell? ⟨s, 0, none⟩ = some v ∧ y.frozen? ⟨s, 0, none⟩ = false ∧ (∃ u, y.cell? ⟨rs, 0, none⟩ = some u) ∧ y.frozen? ⟨rs, 0, none⟩ = false ∧ SB w0 (y.setCell ⟨s, 0, none⟩ v') rs s B v' m := by
  obtain ⟨q1, q2, q3⟩ := h.push ho hc
  have hlt := h.lt
  have n2 : ¬ v.ownBlock = some rs := fun e => by have := (h.own.lt rs e).1; omega
  have l2 : rs < w.heap.size := by have := h.hB; omega
  obtain ⟨u, hu⟩ := h.rc
  exact ⟨q1, q2, ⟨u, hc.cellp hu n2⟩, (hc.frozen (p := ⟨rs, 0, none⟩) l2 n2).trans h.rf, q3⟩
theorem SB.push2 {w0 w y : World} {rs s B : Nat} {v v' : Value} {l m : List Rn} (h : SB w0 w rs s B v l) {o1 o2 : Obj} (ho : OwnR y B v' m) (hc : Chg (fun k => v.ownBlock = some k) ((w.alloc o1).alloc o2) y) :
    y.cell? ⟨s, 0, none⟩ = some v ∧ y.frozen? ⟨s, 0, none⟩ = false ∧ (∃ u, y.cell? ⟨rs, 0, none⟩ = some u) ∧ y.frozen? ⟨rs, 0, none⟩ = false ∧ (∀ j u, (w.alloc o1).cell? ⟨w.heap.size, j, none⟩ = some u → y.cell? ⟨w.heap.size, j, none⟩ = some u) ∧ SB w0 (y.setCell ⟨s, 0, none⟩ v') rs s B v' m := by
  have h' := h.keep (((Kept.refl w).alloc o1).alloc o2)
  obtain ⟨q1, q2, q3⟩ := h'.push ho hc
  have hlt := h.lt
  have hb : ∀ k, v.ownBlock = some k → B ≤ k ∧ k < w.heap.size := fun k hk => h.own.lt k hk
  have n2 : ¬ v.ownBlock = some rs := fun e => by have := hb rs e; omega
  have l2 : rs < ((w.alloc o1).alloc o2).heap.size := by have := h'.hB; omega
  obtain ⟨u, hu⟩ := h'.rc
  exact ⟨q1, q2, ⟨u, hc.cellp hu n2⟩, (hc.frozen (p := ⟨rs, 0, none⟩) l2 n2).trans h'.rf, fun j u hj => hc.cellp (((Kept.refl _).alloc o2).cellp hj) (fun e => by have := hb _ e; omega), q3⟩
theorem SB.pushK {w0 w W y : World} {rs s B : Nat} {v v' : Value} {l m : List Rn} (h : SB w0 w rs s B v l) (hk : Kept w W) (ho : OwnR y B v' m) (hc : Chg (fun k => v.ownBlock = some k) W y) :
    y.cell? ⟨s, 0, none⟩ = some v ∧ y.frozen? ⟨s, 0, none⟩ = false ∧ (∃ u, y.cell? ⟨rs, 0, none⟩ = some u) ∧ y.frozen? ⟨rs, 0, none⟩ = false ∧ (∀ b j u, w.heap.size ≤ b → W.cell? ⟨b, j, none⟩ = some u → y.cell? ⟨b, j, none⟩ = some u) ∧ Kept w0 y ∧ SB w0 (y.setCell ⟨s, 0, none⟩ v') rs s B v' m := by
  have h' := h.keep hk
  obtain ⟨q1, q2, q3, q4, q5⟩ := h'.push1 ho hc
  have hb : ∀ k, v.ownBlock = some k → B ≤ k ∧ k < w.heap.size := fun k hk => h.own.lt k hk
  exact ⟨q1, q2, q3, q4, fun b j u hbj hj => hc.cellp hj (fun e => by have := hb _ e; omega), Chg.kept h'.kept hc (fun j hj => by have := hb j hj; have := h.h0; have := h.lt; omega), q5⟩
theorem SB.ret {w0 w : World} {rs s B : Nat} {v : Value} {l : List Rn} (h : SB w0 w rs s B v l) (hr : w0.heap.size ≤ rs) : (w.setCell ⟨rs, 0, none⟩ v).cell? ⟨rs, 0, none⟩ = some v ∧ SetIs (w.setCell ⟨rs, 0, none⟩ v) (.agg #[v]) l ∧ Kept w0 (w.setCell ⟨rs, 0, none⟩ v) ∧ ∀ ad n c, v = .slice (some ad) n c → B ≤ ad.block := by
  obtain ⟨u, hu⟩ := h.rc
  have c2 : Chg (· = rs) w (w.setCell ⟨rs, 0, none⟩ v) := (Chg.refl (· = rs) w).setCell (p := ⟨rs, 0, none⟩) (.inl rfl) _
  have hlt := h.lt
  have ho : OwnR (w.setCell ⟨rs, 0, none⟩ v) B v l := h.own.chg c2 (fun k hk e => by have := (h.own.lt k hk).1; omega)
  obtain ⟨a, c, rfl, h1, h2, h3⟩ := ho.rs
  exact ⟨World.cell?_setCell_same _ _ _ hu, ⟨a, c, rfl, h1, h2, h3⟩, h.kept.setCell (p := ⟨rs, 0, none⟩) hr _, fun ad n c' e => (ho.lt ad.block (by rw [e]; rfl)).1⟩
theorem sb_new {w : World} {rs s B : Nat} {W : World} (hr : W.cell? ⟨rs, 0, none⟩ = some (.slice none 0 0)) (hs : W.cell? ⟨s, 0, none⟩ = some (.slice none 0 0)) (hrf : W.frozen? ⟨rs, 0, none⟩ = false) (hsf : W.frozen? ⟨s, 0, none⟩ = false) (h1 : rs < s) (h2 : s < B) (hB : B ≤ W.heap.size) (hk : Kept w W) (h0 : w.heap.size ≤ s) :
    SB w W rs s B (.slice none 0 0) [] := ⟨hs, hsf, ⟨_, hr⟩, hrf, ownR_nil _ _, ⟨h1, h2⟩, hB, hk, h0⟩

theorem new_cellR {W : World} {N : Nat} (h : W.heap.size = N) (v : Value) (t : TypeId) : (W.alloc (.cells #[v] t)).cell? ⟨N, 0, none⟩ = some v := by subst h; simp
theorem new_frozenR {W : World} {N : Nat} (h : W.heap.size = N) (v : Value) (t : TypeId) (j : Nat) : (W.alloc (.cells #[v] t)).frozen? ⟨N, j, none⟩ = false := by subst h; simp
theorem rnA_mem {l : List Rn} {k : Nat} (h : k < l.length) : rnA l k ∈ l := by
  simp [rnA, List.getD, List.getElem?_eq_getElem h]
theorem norm_at {l : List Rn} (h : Norm l) {k : Nat} (hk : k < l.length) : 0 ≤ (rnA l k).1 ∧ (rnA l k).1 ≤ (rnA l k).2 ∧ (rnA l k).2 ≤ 9223372036854775807 := by
  have := h.ok _ (rnA_mem hk)
  unfold okR top at this
  exact this
end Go.Proofs.YtmedgkccicbieaaGreat
namespace Go.Proofs.YtmedgkccicbieaaGreat
open Go.RowKit Go.Maps
open Go.Sort (SWO PermIn SortedIn HoldsK grow putRowK)
set_option linter.unusedSimpArgs false
set_option linter.unusedVariables false

def encR (x : Rn) : List Value := [.int .i64 x.1, .int .i64 x.2]
theorem cmp_Compare (x y : Int) (w : World) : Calls Tryz.prog 52 #[.int .i64 x, .int .i64 y] w fun e w' => e = .returned (.int .i64 (if x < y then -1 else if y < x then 1 else 0)) ∧ w' = w := by
  have hN : ∀ (x : Int) (w : World), Calls Tryz.prog 99 #[.int .i64 x] w fun e w' => e = .returned (.bool false) ∧ w' = w := by
    intro x w
    go_enter Tryz.func99, Tryz.ntmps99
    go_wp2_with fail
    go_ret
    first | exact ⟨rfl, rfl⟩ | exact ⟨by simp, rfl⟩
  by_cases h1 : x < y
  · rw [if_pos h1]
    go_enter Tryz.func52, Tryz.ntmps52
    go_wp2_with (go_at_call 99; refine (hN _ _).mono ?_; rintro e w1 ⟨rfl, rfl⟩)
    go_ret
    exact ⟨rfl, rfl⟩
  · rw [if_neg h1]
    have h1' : y ≤ x := by omega
    by_cases h2 : y < x
    · rw [if_pos h2]
      go_enter Tryz.func52, Tryz.ntmps52
      go_wp2_with (go_at_call 99; refine (hN _ _).mono ?_; rintro e w1 ⟨rfl, rfl⟩)
      go_ret
      exact ⟨rfl, rfl⟩
    · rw [if_neg h2]
      have h2' : x ≤ y := by omega
      go_enter Tryz.func52, Tryz.ntmps52
      go_wp2_with (go_at_call 99; refine (hN _ _).mono ?_; rintro e w1 ⟨rfl, rfl⟩)
      go_ret
      exact ⟨rfl, rfl⟩
def cfR (x y : Rn) : Int := if x.1 < y.1 then -1 else if y.1 < x.1 then 1 else 0
theorem ltR (x y : Rn) : ltOf cfR x y = decide (x.1 < y.1) := by
  unfold ltOf cfR
  by_cases h1 : x.1 < y.1
  · simp [h1]
  · by_cases h2 : y.1 < x.1 <;> simp [h1, h2]
theorem swoR : SWO (ltOf cfR) where
  irrefl x := by rw [ltR]; simp
  trans x y z h1 h2 := by rw [ltR] at *; simp at *; omega
  ntrans x y z h1 h2 := by rw [ltR] at *; simp at *; omega
theorem closureR (x y : Rn) (W : World) : Calls Tryz.prog 138 #[.agg #[.int .i64 x.1, .int .i64 x.2], .agg #[.int .i64 y.1, .int .i64 y.2]] W fun e w' => e = .returned (.int .i64 (cfR x y)) ∧ ∃ q os', w' = grow (W.drewN q) os' := by
  have hcon := fun W' => cmp_Compare x.1 y.1 W'
  have HC := hidMk hcon
  have e : cfR x y = if x.1 < y.1 then -1 else if y.1 < x.1 then 1 else 0 := rfl
  rw [← e] at HC
  clear hcon e
  generalize cfR x y = r at *
  go_enter Tryz.func138, Tryz.ntmps138
  go_wp2_with (go_at_call 52; refine (HC.out _).mono ?_; rintro e w' ⟨rfl, rfl⟩)
  go_ret
  exact ⟨rfl, 0, _, by rw [Go.Sort.alloc_eq_grow, Go.Sort.alloc_eq_grow, Go.Sort.grow_grow]; rfl⟩
theorem cmpLaysR (blk off size : Nat) (w : World) : CmpLays Tryz.prog 138 #[] encR 2 cfR blk off size w :=
  fun _ _ _ _ x y => closureR x y _
theorem slices_SortR {w : World} {g off cap : Nat} {d : Array Rn} (hH : HoldsK encR 2 w g off d) (hb : g < w.heap.size) (hsz : d.size ≤ 100000) :
    Calls Tryz.prog 137 #[.slice (some ⟨g, off, none⟩) d.size cap, .func (.func 138) #[] #[]] w fun e w' => e = .returned (.tuple #[]) ∧ ∃ d' n os, PermIn 0 d.size d d' ∧ SortedIn (ltOf cfR) 0 d.size d' ∧ w' = sortWorldK encR 2 w g off n d' os := by
  have eg : ∀ args w, (callFunc 138 args).run Tryz.prog w = .ok (.enter 138 args) w := enters_of Tryz.func138 (by kernel_rfl) rfl
  have hcon := AnyQ.slices_SortFunc Tryz.sortR 2 Tryz.isAgg125 Tryz.sizeOf125 encR (fun _ => rfl) (fun x v hv => by simp [encR] at hv; rcases hv with rfl | rfl <;> rfl) cfR swoR 138 #[] g off cap d w eg (cmpLaysR g off d.size w) hH hb (by omega)
  exact hcon
end Go.Proofs.YtmedgkccicbieaaGreat
namespace Go.Proofs.YtmedgkccicbieaaGreat
open Go.RowKit Go.Maps
open Go.Sort (SWO PermIn SortedIn HoldsK grow putRowK)
set_option linter.unusedSimpArgs false
set_option linter.unusedVariables false

theorem ownR_holds {w : World} {B g cap : Nat} {l : List Rn} (h : OwnR w B (.slice (some ⟨g, 0, none⟩) l.length cap) l) : HoldsK encR 2 w g 0 l.toArray := by
  intro t ht
  rw [Go.Sort.size_flatK] at ht
  rw [Go.Sort.get_flatK _ _ _ _ ht]
  have hsz : l.toArray.size = l.length := by simp
  rw [hsz] at ht
  refine ⟨?_, World.ownsRow.frozenAt h _⟩
  rw [Nat.zero_add, World.ownsRow.cellAt h t (by omega)]
  have hi : t / 2 < l.length := by omega
  have hg := flatR_get l (t / 2) hi
  have he : l.toArray[t / 2]! = rnA l (t / 2) := by simp [rnA, List.getD, List.getElem?_eq_getElem hi, hi]
  rw [he]
  rcases Nat.mod_two_eq_zero_or_one t with h0 | h1
  · rw [show t = t / 2 * 2 by omega, hg.1, show t / 2 * 2 % 2 = 0 by omega]
    simp [encR, show t / 2 * 2 / 2 = t / 2 by omega]
  · rw [show t = t / 2 * 2 + 1 by omega, hg.2, show (t / 2 * 2 + 1) % 2 = 1 by omega]
    simp [encR, show (t / 2 * 2 + 1) / 2 = t / 2 by omega]
theorem holds_rs {w : World} {g : Nat} {d : Array Rn} (h : HoldsK encR 2 w g 0 d) (hb : g < w.heap.size) : Rs w (some ⟨g, 0, none⟩) d.toList :=
  ⟨fun hp => ⟨g, 0, rfl, hb, fun i hi => by
    have hi' : i < d.size := by simpa using hi
    have h1 := (h.cell hi' (c := 0) (by omega)).1
    have h2 := (h.cell hi' (c := 1) (by omega)).1
    have e : d[i]! = rnA d.toList i := by simp [rnA, List.getD, hi']
    rw [e] at h1 h2
    exact ⟨h1, h2⟩⟩⟩
theorem chg_sort (w : World) (g n : Nat) (d : Array Rn) (os : Array Obj) : Chg (· = g) w (sortWorldK encR 2 w g 0 n d os) := by
  refine ⟨rfl, rfl, rfl, size_sortWorldK_c _ _ _ _ _ _ _ _, fun j hj hne => ?_⟩
  unfold sortWorldK putRowK
  rw [Go.Sort.heap_grow_old _ _ (by rw [show (Go.Sort.putRow id (Go.Sort.ahead w n) g 0 (Go.Sort.flatK encR 2 d)).heap.size = w.heap.size by simp [Go.Sort.putRow, Go.Sort.mapBlock, Go.Sort.ahead]]; exact hj)]
  simp [Go.Sort.putRow, Go.Sort.mapBlock, Go.Sort.ahead, Array.getElem?_modify, Ne.symm hne]
theorem sorted_list {d : Array Rn} (h : SortedIn (ltOf cfR) 0 d.size d) : d.toList.Pairwise fun r s => r.1 ≤ s.1 := by
  rw [List.pairwise_iff_getElem]
  intro i j hi hj hij
  have hi' : i < d.size := by simpa using hi
  have hj' : j < d.size := by simpa using hj
  have := h i j (Nat.zero_le _) hij hj'
  rw [ltR, decide_eq_false_iff_not] at this
  simp [hi', hj'] at this
  simpa using this
theorem perm_list {d d' : Array Rn} (h : PermIn 0 d.size d d') : d'.toList.Perm d.toList := by
  obtain ⟨h1, _, h3⟩ := h
  have e1 : d.extract 0 d.size = d := by simp
  have e2 : d'.extract 0 d.size = d' := by rw [← h1]; simp
  rw [e1, e2] at h3
  exact h3
theorem inR_perm {l m : List Rn} (h : l.Perm m) (x : Int) : inRg l x ↔ inRg m x := ⟨fun ⟨r, h1, h2⟩ => ⟨r, h.mem_iff.1 h1, h2⟩, fun ⟨r, h1, h2⟩ => ⟨r, h.mem_iff.2 h1, h2⟩⟩
theorem Rs.empty' {w : World} {a : Option Addr} {x : List Rn} (h : x.length = 0) : Rs w a x := ⟨fun hp => absurd hp (by omega)⟩
theorem slices_Sort_any {w : World} {B : Nat} {a : Option Addr} {c : Nat} {l : List Rn} (h : OwnR w B (.slice a l.length c) l) (hl : l.length ≤ 100000) :
    Calls Tryz.prog 137 #[.slice a l.length c, .func (.func 138) #[] #[]] w fun e w' => e = .returned (.tuple #[]) ∧ ∃ m, m.length = l.length ∧ m.Perm l ∧ m.Pairwise (fun r s => r.1 ≤ s.1) ∧ Rs w' a m ∧ Chg (fun k => (Value.slice a l.length c).ownBlock = some k) w w' := by
  have h' := h
  obtain ⟨_, ⟨hv, hz⟩ | ⟨g, cap, cur, hv, hb, hheap, hc, hcm, hsz, htk⟩⟩ := h
  · obtain ⟨rfl, _, rfl⟩ := Value.slice.inj hv
    have hl0 : l = [] := List.eq_nil_of_length_eq_zero hz
    subst hl0
    have hI : ∀ (fv : Value) (w : World), Calls Tryz.prog 162 #[.slice none 0 0, .int .i64 0, .int .i64 0, fv] w fun e w' => e = .returned (.tuple #[]) ∧ w' = w := by
      intro fv w
      go_enter Tryz.func162, Tryz.ntmps162
      go_wp2_with fail
      refine wp_loop_rounds 1 ?_
      rw [rounds_succ]
      go_wp2_with fail
      go_end0
      exact ⟨rfl, rfl⟩
    have hP : ∀ (fv : Value) (lim : Int) (w : World), Calls Tryz.prog 156 #[.slice none 0 0, .int .i64 0, .int .i64 0, .int .i64 lim, fv] w fun e w' => e = .returned (.tuple #[]) ∧ w' = w := by
      intro fv lim w
      go_enter Tryz.func156, Tryz.ntmps156
      go_wp2_with fail
      refine wp_loop_rounds 1 ?_
      rw [rounds_succ]
      go_wp2_with (go_at_call 162; refine (hI _ _).mono ?_; rintro e w' ⟨rfl, rfl⟩)
      (try simp only [Exit.inBlock, Exit.then]); refine bodyPost_ret (results_none rfl _ _ _) rfl ?_
      exact ⟨rfl, rfl⟩
    have hL : ∀ w, Calls Tryz.prog 157 #[.int .u64 0] w fun e w' => e = .returned (.int .i64 (Lib.bitLen (0 : Int).toNat)) ∧ w' = w := fun w => Any.bits_Len (SlLaysF0.n15.bits (P := Tryz.prog) (ρ := Tryz.sortR_ren) { Tryz.sortR with }) 0 w (by omega) (by omega)
    have HL := hidMk hL
    have HP := hidMk hP
    clear hL hP hI h'
    generalize (Lib.bitLen (0 : Int).toNat : Int) = z at *
    go_enter Tryz.func137, Tryz.ntmps137
    go_wp2_with fail
    refine (HL.out _).mono ?_
    rintro e w1 ⟨rfl, rfl⟩
    go_wp2_with fail
    refine (HP.out _ _ _).mono ?_
    rintro e w1 ⟨rfl, rfl⟩
    go_wp2_with fail
    go_end0
    exact ⟨rfl, [], rfl, List.Perm.refl _, List.Pairwise.nil, Rs.empty' rfl, Chg.refl _ _⟩
  · obtain ⟨rfl, _, rfl⟩ := Value.slice.inj hv
    have hg : g < w.heap.size := (h'.lt g rfl).2
    have hs := slices_SortR (cap := c) (ownR_holds h') hg (by simpa using hl)
    have e : l.toArray.size = l.length := by simp
    rw [e] at hs
    refine hs.mono fun e w' ⟨he, d', n, os, hp, hsd, hw⟩ => ⟨he, d'.toList, ?_, ?_, ?_, ?_, ?_⟩
    · have := hp.1; simpa using this
    · have := perm_list (d := l.toArray) (by simpa using hp); simpa using this
    · have : d'.size = l.length := by have := hp.1; simpa using this
      exact sorted_list (by rw [this]; exact hsd)
    · have hs' : d'.size = l.toArray.size := hp.1
      have h1 := holdsK_sortWorldK_c encR 2 w g 0 l.toArray d' n os (ownR_holds h') hg hs'
      rw [hw]
      exact holds_rs h1 (Nat.lt_of_lt_of_le hg (size_sortWorldK_c _ _ _ _ _ _ _ _))
    · rw [hw]
      exact (chg_sort w g n d' os).mono fun j _ e => by subst e; rfl

def JPost (w : World) (v : Value) (l : List Rn) (e : Ending) (w' : World) : Prop := ∃ a c m, e = .returned (.agg #[.slice a m.length c]) ∧ Rs w' a m ∧ m.length ≤ c ∧ (a = none → m = [] ∧ c = 0) ∧ (∀ ad, a = some ad → w.heap.size ≤ ad.block) ∧ Norm m ∧ (∀ x, inRg m x ↔ inRg l x) ∧ m.length ≤ l.length ∧ Chg (fun k => v.ownBlock = some k) w w'
theorem OwnR.row {w : World} {B : Nat} {v : Value} {l : List Rn} (h : OwnR w B v l) (hp : 0 < l.length) : ∃ g cap, v = .slice (some ⟨g, 0, none⟩) l.length cap ∧ l.length ≤ cap ∧ (∀ i, i < l.length → w.cell? ⟨g, i * 2, none⟩ = some (.int .i64 (rnA l i).1) ∧ w.cell? ⟨g, i * 2 + 1, none⟩ = some (.int .i64 (rnA l i).2)) ∧ (∀ j, w.frozen? ⟨g, j, none⟩ = false) ∧ B ≤ g ∧ g < w.heap.size := by
  have h' := h
  have hlt := h.lt
  obtain ⟨_, ⟨rfl, hz⟩ | ⟨g, cap, cur, rfl, hb, hheap, hc, hcm, hsz, htk⟩⟩ := h
  · omega
  · refine ⟨g, cap, rfl, hc, fun i hi => ?_, fun j => World.ownsRow.frozenAt h' j, hlt g rfl⟩
    have h1 := World.ownsRow.cellAt h' (i * 2) (by omega)
    have h2 := World.ownsRow.cellAt h' (i * 2 + 1) (by omega)
    rw [h1, h2]
    exact flatR_get l i hi
theorem two_new {W : World} {N : Nat} (h : W.heap.size = N) (u v : Value) (t : TypeId) : (W.alloc (.cells #[u, v] t)).cell? ⟨N, 0, none⟩ = some u ∧ (W.alloc (.cells #[u, v] t)).cell? ⟨N, 1, none⟩ = some v := by subst h; exact ⟨by simp, by simp⟩
theorem jn_take_len {l : List Rn} (k : Nat) (hk : k ≤ l.length) : (jn (l.take k)).length ≤ k := by
  have := jn_len (l.take k) []
  simp only [List.length_nil, List.length_take, Nat.zero_add] at this
  unfold jn
  omega
theorem rnA_jn {l : List Rn} {k : Nat} (h : k < l.length) : jn (l.take (k + 1)) = jstep (jn (l.take k)) (rnA l k) := jn_take h
theorem SB.last {w0 w : World} {rs s B g cap : Nat} {l : List Rn} (h : SB w0 w rs s B (.slice (some ⟨g, 0, none⟩) l.length cap) l) (i : Nat) (hi : i < l.length) (x : Int) :
    SB w0 (w.setCell ⟨g, i * 2 + 1, none⟩ (.int .i64 x)) rs s B (.slice (some ⟨g, 0, none⟩) l.length cap) (l.set i ((rnA l i).1, x)) := by
  obtain ⟨o1, o2⟩ := World.ownsRow.stored h.own (i * 2 + 1) (.int .i64 x)
  have hg := h.own.lt g rfl
  have hlt := h.lt
  have c2 : Chg (· = g) w (w.setCell ⟨g, i * 2 + 1, none⟩ (.int .i64 x)) := (Chg.refl (· = g) w).setCell (p := ⟨g, i * 2 + 1, none⟩) (.inl rfl) _
  obtain ⟨u, hu⟩ := h.rc
  have l1 : s < w.heap.size := cell_lt h.c
  refine ⟨c2.cellp h.c (by omega), (c2.frozen (p := ⟨s, 0, none⟩) l1 (show ¬ s = g by omega)).trans h.f, ⟨u, c2.cellp hu (by omega)⟩, (c2.frozen (p := ⟨rs, 0, none⟩) (show rs < w.heap.size by omega) (show ¬ rs = g by omega)).trans h.rf, ?_, hlt, ?_, h.kept.setCell (p := ⟨g, i * 2 + 1, none⟩) (show w0.heap.size ≤ g by have := h.h0; omega) _, h.h0⟩
  · unfold OwnR
    rw [List.length_set, ← flatR_set1 l i x hi]
    exact o1
  · have := h.hB; simp; omega
theorem SB.retC {w0 w : World} {rs s B : Nat} {v : Value} {l : List Rn} (h : SB w0 w rs s B v l) : (w.setCell ⟨rs, 0, none⟩ v).cell? ⟨rs, 0, none⟩ = some v ∧ (∃ a c, v = .slice a l.length c ∧ Rs (w.setCell ⟨rs, 0, none⟩ v) a l ∧ l.length ≤ c ∧ (a = none → l = [] ∧ c = 0) ∧ (∀ ad, a = some ad → B ≤ ad.block)) ∧ Chg (· = rs) w0 (w.setCell ⟨rs, 0, none⟩ v) := by
  obtain ⟨u, hu⟩ := h.rc
  have c2 : Chg (· = rs) w (w.setCell ⟨rs, 0, none⟩ v) := (Chg.refl (· = rs) w).setCell (p := ⟨rs, 0, none⟩) (.inl rfl) _
  have hlt := h.lt
  have ho : OwnR (w.setCell ⟨rs, 0, none⟩ v) B v l := h.own.chg c2 (fun k hk e => by have := (h.own.lt k hk).1; omega)
  obtain ⟨a, c, rfl, h1, h2, h3⟩ := ho.rs
  exact ⟨World.cell?_setCell_same _ _ _ hu, ⟨a, c, rfl, h1, h2, h3, fun ad e => (ho.lt ad.block (by rw [e]; rfl)).1⟩, (Chg.of_kept h.kept).trans c2⟩
theorem jstep_in {acc : List Rn} {r : Rn} (h : 0 < acc.length) (hr : r.1 - 1 ≤ (rnA acc (acc.length - 1)).2) : jstep acc r = acc.set (acc.length - 1) ((rnA acc (acc.length - 1)).1, max (rnA acc (acc.length - 1)).2 r.2) := if_pos ⟨h, hr⟩
theorem jstep_out {acc : List Rn} {r : Rn} (h : ¬ (0 < acc.length ∧ r.1 - 1 ≤ (rnA acc (acc.length - 1)).2)) : jstep acc r = acc ++ [r] := if_neg h
set_option maxHeartbeats 4000000 in
set_option maxRecDepth 100000 in
theorem region_joined {w : World} {B : Nat} {v : Value} {l : List Rn} (h : OwnR w B v l) (hok : ∀ r, r ∈ l → okR r) (hl : l.length ≤ 90000) :
    Calls Tryz.prog 105 #[v] w (JPost w v l) := by
  obtain ⟨a, c, rfl, h1, h2, h3⟩ := h.rs
  have HO := hidMk h
  have HK := hidMk hok
  have HSO := hidMk (slices_Sort_any (h.kept ((Kept.refl w).alloc (.cells #[.slice none 0 0] 55))) (by omega))
  clear h hok h1 h3
  go_enter Tryz.func105, Tryz.ntmps105
  go_wp2_with fail
  refine HSO.out.mono ?_
  rintro e w2 ⟨rfl, m, hml, hmp, hms, hrs, hch⟩
  have hN := jn_norm (l := m) (fun r hr => HK.out r (hmp.mem_iff.1 hr)) hms
  have HN := hidMk hN
  have HJ := hidMk (show ∀ k, k < m.length → okR (rnA m k) from fun k hk => HK.out _ (hmp.mem_iff.1 (rnA_mem hk)))
  have HNK := hidMk (show ∀ k, ∀ r, r ∈ jn (m.take k) → okR r from fun k r hr => (jn_norm (l := m.take k) (fun r hr => HK.out r (hmp.mem_iff.1 (List.mem_of_mem_take hr))) (hms.sublist (List.take_sublist _ _))).1.ok r hr)
  have HIN := hidMk (show ∀ x, inRg (jn m) x ↔ inRg l x from fun x => (hN.2 x).trans (inR_perm hmp x))
  have HR := hidMk hrs
  have HML := hidMk hml
  have HC := hidMk (show Chg (fun k => (Value.slice a l.length c).ownBlock = some k) w w2 from (Chg.of_kept ((Kept.refl w).alloc _)).trans hch)
  have rc := hch.cellp (b := w.heap.size) (o := 0) (v := .slice none 0 0) (by simp) (fun e => by have := (HO.out.lt _ e).2; omega)
  have rf := (hch.frozen (p := ⟨w.heap.size, 0, none⟩) (by simp) (fun (e : (Value.slice a l.length c).ownBlock = some w.heap.size) => by have := (HO.out.lt _ e).2; omega)).trans (show (w.alloc (.cells #[.slice none 0 0] 55)).frozen? ⟨w.heap.size, 0, none⟩ = false by simp)
  have hw2 : w.heap.size < w2.heap.size := cell_lt rc
  clear hrs hch hmp hms hN hml
  have HSB := hidMk (show SB w2 (w2.alloc (.cells #[.slice none 0 0] 55)) w.heap.size w2.heap.size (w2.heap.size + 1) (.slice none 0 0) [] from sb_new (((Kept.refl w2).alloc _).cellp rc) (by simp) ((((Kept.refl w2).alloc _).frozen (p := ⟨w.heap.size, 0, none⟩) hw2).trans rf) (by simp) hw2 (by omega) (by simp) ((Kept.refl w2).alloc _) (by omega))
  go_wp2_with fail
  go_loopg [11] l.length (fun g x wr => ∃ (k : Nat) (vv : Value), k + g = l.length ∧ x = .int .i64 k ∧ SB w2 wr w.heap.size w2.heap.size (w2.heap.size + 1) vv (jn (m.take k)))
  case atStart => exact ⟨0, .slice none 0 0, by omega, rfl, HSB.out⟩
  case round =>
    obtain ⟨k, vv, hkg, rfl, hS⟩ := hrel
    have HKG := hidMk hkg
    have hjl := jn_take_len (l := m) k (by have := HML.out; omega)
    by_cases hkn : k < l.length
    · have HT := hidMk (rnA_jn (l := m) (k := k) (by have := HML.out; omega))
      obtain ⟨b, o, rfl, hb, hcs⟩ := HR.out.cells (by have := HML.out; omega)
      obtain ⟨c1, c2⟩ := hcs k (by have := HML.out; omega)
      have hr := HJ.out k (by have := HML.out; omega)
      have hnk := HNK.out k
      have d1 := hS.kept.cellp c1
      have d2 := hS.kept.cellp c2
      clear hcs c1 c2
      generalize rnA m k = r at *
      generalize jn (m.take k) = acc at *
      obtain ⟨x, y⟩ := r
      unfold okR top at hr
      simp only at d1 d2 hr
      have hsz := hS.hB
      have hww : w2.heap.size ≤ wr.heap.size := hS.kept.size
      have hb' : b < wr.heap.size := by omega
      have hxx : IntKind.i64.wrap (x - 1) = x - 1 := by rw [IntKind.wrap_i64]; omega
      have kn' : (k : Int) < (l.length : Int) := by omega
      by_cases hC : 0 < acc.length ∧ x - 1 ≤ (rnA acc (acc.length - 1)).2
      · have HE := hidMk (jstep_in (r := (x, y)) hC.1 hC.2)
        obtain ⟨hC1, hC2⟩ := hC
        obtain ⟨g, dc, rfl, hdc, hec, hfz, hg1, hg2⟩ := hS.own.row hC1
        have HS := hidMk hS
        have s0 := hS.c
        have sf := hS.f
        have s0' := fun o => ((Kept.refl wr).alloc o).cellp s0
        clear hS hkg
        obtain ⟨e1, e2⟩ := hec (acc.length - 1) (by omega)
        have ef := hfz ((acc.length - 1) * 2 + 1)
        have hq := hnk _ (rnA_mem (l := acc) (k := acc.length - 1) (by omega))
        unfold okR top at hq
        clear hec hnk hfz
        generalize hrq : rnA acc (acc.length - 1) = q at *
        have HRQ := hidMk hrq
        clear hrq
        obtain ⟨q1, q2⟩ := q
        simp only at e1 e2 hC2 hq HE
        have hwa : IntKind.i64.wrap ((acc.length : Int) - 1) = ((acc.length - 1 : Nat) : Int) := by rw [IntKind.wrap_i64]; omega
        have hz : (0 : Int) ≤ ((acc.length - 1 : Nat) : Int) := by omega
        have hz2 : ((acc.length - 1 : Nat) : Int) < (acc.length : Int) := by omega
        have hd1 : decide ((0 : Int) ≤ ((acc.length - 1 : Nat) : Int)) = true := decide_eq_true hz
        have hd2 : decide (x - 1 ≤ q2) = true := decide_eq_true hC2
        have e2' := fun o => ((Kept.refl wr).alloc o).cellp e2
        go_upto_region 7 with fail
        refine gen_world (f := fun W => Code.wp _ _ _ _ W) (fun W => SB w2 W w.heap.size w2.heap.size (w2.heap.size + 1) (.slice (some ⟨g, 0, none⟩) acc.length dc) acc ∧ W.cell? ⟨wr.heap.size, 0, none⟩ = some (.int .i64 x) ∧ W.cell? ⟨wr.heap.size, 1, none⟩ = some (.int .i64 y) ∧ W.cell? ⟨g, (acc.length - 1) * 2 + 1, none⟩ = some (.int .i64 q2) ∧ W.frozen? ⟨g, (acc.length - 1) * 2 + 1, none⟩ = false) ⟨HS.out.keep ((Kept.refl wr).alloc _), by simp, by simp, e2' _, (((Kept.refl wr).alloc _).frozen (p := ⟨g, (acc.length - 1) * 2 + 1, none⟩) hg2).trans ef⟩ ?_
        rintro W ⟨hS2, n0, n1, n2, n3⟩
        have HS2 := hidMk hS2
        have s1 := hS2.c
        clear hS2 s0 s0' sf e1 e2 e2' d1 d2
        go_quiet (fail)
        go_wp2_with fail
        go_region
        all_goals (try go_wp2_with fail)
        all_goals
          go_roundg (gk - 1)
          case measure => have := HKG.out; omega
          case rel =>
            refine ⟨k + 1, .slice (some ⟨g, 0, none⟩) acc.length dc, by have := HKG.out; omega, by go_num, ?_⟩
            rw [HT.out, HE.out]
            have hq2 := HRQ.out
            have h9 := (HS2.out.keep ((Kept.refl W).drewN (nq + 1))).last (acc.length - 1) (by omega) (max q2 y)
            rw [hq2] at h9
            exact h9
      · have HE := hidMk (jstep_out (acc := acc) (r := (x, y)) hC)
        by_cases hC1 : 0 < acc.length
        · have hC2 : (rnA acc (acc.length - 1)).2 < x - 1 := by omega
          obtain ⟨g, dc, rfl, hdc, hec, hfz, hg1, hg2⟩ := hS.own.row hC1
          have HS := hidMk hS
          have s0 := hS.c
          have s0' := fun o => ((Kept.refl wr).alloc o).cellp s0
          obtain ⟨e1, e2⟩ := hec (acc.length - 1) (by omega)
          have hq := hnk _ (rnA_mem (l := acc) (k := acc.length - 1) (by omega))
          unfold okR top at hq
          clear hec hnk hfz hS hkg hC
          generalize rnA acc (acc.length - 1) = q at *
          obtain ⟨q1, q2⟩ := q
          simp only at e1 e2 hC2 hq
          have hwa : IntKind.i64.wrap ((acc.length : Int) - 1) = ((acc.length - 1 : Nat) : Int) := by rw [IntKind.wrap_i64]; omega
          have hz : (0 : Int) ≤ ((acc.length - 1 : Nat) : Int) := by omega
          have hz2 : ((acc.length - 1 : Nat) : Int) < (acc.length : Int) := by omega
          have hd1 : decide ((0 : Int) ≤ ((acc.length - 1 : Nat) : Int)) = true := decide_eq_true hz
          have hd2 : decide (x - 1 ≤ q2) = false := decide_eq_false (by omega)
          have e2' := fun o => ((Kept.refl wr).alloc o).cellp e2
          go_upto_region 7 with fail
          refine gen_world (f := fun W => Code.wp _ _ _ _ W) (fun W => SB w2 W w.heap.size w2.heap.size (w2.heap.size + 1) (.slice (some ⟨g, 0, none⟩) acc.length dc) acc ∧ W.cell? ⟨wr.heap.size, 0, none⟩ = some (.int .i64 x) ∧ W.cell? ⟨wr.heap.size, 1, none⟩ = some (.int .i64 y) ∧ W.cell? ⟨g, (acc.length - 1) * 2 + 1, none⟩ = some (.int .i64 q2)) ⟨HS.out.keep ((Kept.refl wr).alloc _), by simp, by simp, e2' _⟩ ?_
          rintro W ⟨hS2, n0, n1, n2⟩
          have HS2 := hidMk hS2
          have s1 := hS2.c
          have s2 := hS2.f
          have hsz2 := hS2.hB
          clear hS2 s0 s0' e1 e2 e2' d1 d2
          go_quiet (fail)
          have HP := hidMk (show ∀ (Y : World) (v' : Value) (m : List Rn), OwnR Y (w2.heap.size + 1) v' m → Chg (fun k => ((Value.slice (some ⟨g, 0, none⟩) acc.length dc)).ownBlock = some k) ((W.drewN nq).alloc (.cells #[.int .i64 x, .int .i64 y] 125)) Y → _ from fun Y v' m ho hc => HS2.out.pushK (((Kept.refl W).drewN nq).alloc _) ho hc)
          go_wp2_with (at_builtin; refine wpList_pushRn _ (by rfl) _ _ (by rfl) (w2.heap.size + 1) ((.slice (some ⟨g, 0, none⟩) acc.length dc)) acc (by rfl) (HS2.out.own.kept (((Kept.refl _).drewN nq).alloc _)) (by simp; omega) W.heap.size (x, y) (by rfl) (two_new rfl _ _ _).1 (two_new rfl _ _ _).2 (by omega) (W.heap.size + 1) (by simp) ?_; intro g4 cap4 w4 o4 k4 a4 l4; obtain ⟨z1, z2, ⟨z3, z4⟩, z5, z6, z7, z8⟩ := HP.out _ _ _ o4 k4; have H4 := hidMk z8; clear o4 k4 a4 l4 z6 z7 z8)
          go_roundg (gk - 1)
          case measure => have := HKG.out; omega
          case rel =>
            refine ⟨k + 1, .slice (some ⟨g4, 0, none⟩) (acc.length + 1) cap4, by have := HKG.out; omega, by go_num, ?_⟩
            rw [HT.out, HE.out]
            exact H4.out
        · have hl0 : acc.length = 0 := by omega
          obtain ⟨da, dc, rfl, hdr, _⟩ := hS.own.rs
          have HS := hidMk hS
          have s0 := hS.c
          have s0' := fun o => ((Kept.refl wr).alloc o).cellp s0
          clear hS hkg hC hnk
          have hwa : IntKind.i64.wrap ((acc.length : Int) - 1) = -1 := by rw [IntKind.wrap_i64]; omega
          have hd1 : decide ((0 : Int) ≤ -1) = false := by decide
          go_upto_region 7 with fail
          refine gen_world (f := fun W => Code.wp _ _ _ _ W) (fun W => SB w2 W w.heap.size w2.heap.size (w2.heap.size + 1) (.slice da acc.length dc) acc ∧ W.cell? ⟨wr.heap.size, 0, none⟩ = some (.int .i64 x) ∧ W.cell? ⟨wr.heap.size, 1, none⟩ = some (.int .i64 y)) ⟨HS.out.keep ((Kept.refl wr).alloc _), by simp, by simp⟩ ?_
          rintro W ⟨hS2, n0, n1⟩
          have HS2 := hidMk hS2
          have s1 := hS2.c
          have s2 := hS2.f
          have hsz2 := hS2.hB
          have HL0 := hidMk hl0
          clear hS2 s0 s0' d1 d2 hl0
          go_quiet (fail)
          have HP := hidMk (show ∀ (Y : World) (v' : Value) (m : List Rn), OwnR Y (w2.heap.size + 1) v' m → Chg (fun k => ((Value.slice da acc.length dc)).ownBlock = some k) ((W.drewN nq).alloc (.cells #[.int .i64 x, .int .i64 y] 125)) Y → _ from fun Y v' m ho hc => HS2.out.pushK (((Kept.refl W).drewN nq).alloc _) ho hc)
          go_wp2_with (at_builtin; refine wpList_pushRn _ (by rfl) _ _ (by rfl) (w2.heap.size + 1) ((.slice da acc.length dc)) acc (by rfl) (HS2.out.own.kept (((Kept.refl _).drewN nq).alloc _)) (by simp; omega) W.heap.size (x, y) (by rfl) (two_new rfl _ _ _).1 (two_new rfl _ _ _).2 (by omega) (W.heap.size + 1) (by simp) ?_; intro g4 cap4 w4 o4 k4 a4 l4; obtain ⟨z1, z2, ⟨z3, z4⟩, z5, z6, z7, z8⟩ := HP.out _ _ _ o4 k4; have H4 := hidMk z8; clear o4 k4 a4 l4 z6 z7 z8)
          go_roundg (gk - 1)
          case measure => have := HKG.out; omega
          case rel =>
            refine ⟨k + 1, .slice (some ⟨g4, 0, none⟩) (acc.length + 1) cap4, by have := HKG.out; omega, by go_num, ?_⟩
            rw [HT.out, HE.out]
            exact H4.out
    · have hk : m.take k = m := List.take_of_length_le (by have := HML.out; omega)
      rw [hk] at hS
      have HS := hidMk hS
      obtain ⟨da, dc, rfl, _⟩ := hS.own.rs
      have s0 := hS.c
      obtain ⟨ru, hru⟩ := hS.rc
      have hrf := hS.rf
      have hkk : ¬ ((k : Int) < (l.length : Int)) := by omega
      have hjl2 := jn_take_len (l := m) m.length (Nat.le_refl _)
      rw [List.take_length] at hjl2
      have HLE := hidMk (show (jn m).length ≤ l.length by have := HML.out; omega)
      clear hS hkg hk hjl hjl2
      go_wp2_with fail
      obtain ⟨t1, ⟨a9, c9, hv9, t4, t5, t6, t7⟩, t3⟩ := HS.out.retC
      exact set_ret rfl w.heap.size _ rfl rfl t1 ⟨a9, c9, jn m, by rw [hv9], t4, t5, t6, fun ad e => by have := t7 ad e; omega, HN.out.1, HIN.out, HLE.out, HC.out.thn t3 (fun j hj e => by omega)⟩

theorem chg_set (w : World) (g j : Nat) (v : Value) : Chg (· = g) w (w.setCell ⟨g, j, none⟩ v) := (Chg.refl (· = g) w).setCell (p := ⟨g, j, none⟩) (.inl rfl) _
theorem rs_news {w : World} {ad : Addr} {l : List Rn} (h : Rs w (some ad) l) : ∀ (j : Nat) u, (flatR l)[j]? = some u → w.cell? (ad.add j) = some u := by
  intro j u hj
  have hjn : j < l.length * 2 := by
    have := (List.getElem?_eq_some_iff.1 hj).1
    rw [flatR_len] at this
    exact this
  obtain ⟨bb, oo, e, _, hcs⟩ := h.cells (by omega)
  cases e
  obtain ⟨c1, c2⟩ := hcs (j / 2) (by omega)
  obtain ⟨g1, g2⟩ := flatR_get l (j / 2) (by omega)
  rw [Addr.add_lit]
  rcases Nat.mod_two_eq_zero_or_one j with h0 | h0
  · have e : j / 2 * 2 = j := by omega
    rw [e] at c1 g1
    rw [c1, ← hj, g1]
  · have e : j / 2 * 2 + 1 = j := by omega
    rw [Nat.add_assoc, e] at c2
    rw [e] at g2
    rw [c2, ← hj, g2]
theorem wpList_catR {ops : Array Oper} {rest : List Oper} {o : Oper} {a : Act} {Q : Exit → Act → World → Prop} (w : World) (hgd : o.guard = none) (s x : Operand)
    (ho : o.op = .call { callee := .builtin .append, args := #[s, x], argTypes := #[53, 53] })
    (B : Nat) (v : Value) (l t : List Rn) (hs : a.eval s = v) (hv : OwnR w B v l) (hB : B ≤ w.heap.size) (b : Option Addr) (c : Nat) (hx : a.eval x = .slice b t.length c) (hR : Rs w b t) (hbn : b = none → t = [] ∧ c = 0)
    (h47 : l.length + t.length ≤ 200000)
    (h : ∀ v' w', OwnR w' B v' (l ++ t) → Chg (fun k => v.ownBlock = some k) w w' → wpList Tryz.prog ops Q rest (a.put o.dst v') w') : wpList Tryz.prog ops Q (o :: rest) a w := by
  obtain ⟨i0, hi0, hz0, hz1, hz2⟩ := rinfo
  cases b with
  | none =>
    obtain ⟨rfl, rfl⟩ := hbn rfl
    refine wpList_append_own_none hgd s x 53 ho B 125 i0 2 Tryz.underlying53 hi0 v _ _ hs hv hx (h v w (by simpa using hv) (Chg.refl _ _))
  | some ad =>
    refine wpList_append_own_wide w hgd s x 53 ho B 125 i0 _ 2 16 Tryz.underlying53 hi0 hz0 hz1 hz2 rfl (by decide) v _ _ hs hv ad t.length c (flatR t) hx (flatR_len t) (rs_news hR) (flatR_one t) (by unfold maxLen; omega) (by omega) hB ?_
    intro v' w' h2 h3 _
    refine h v' w' ?_ ((Chg.refl _ w).grown h3 (fun k hk => .inl hk))
    unfold OwnR
    rw [flatR_app, List.length_append]
    exact h2
theorem slices_CloneR (a : Option Addr) (c : Nat) (l : List Rn) (w : World) (hs : Rs w a l) (hn : a = none → l = [] ∧ c = 0) (hl : l.length ≤ 100000) :
    Calls Tryz.prog 109 #[.slice a l.length c] w fun e w' => ∃ v, e = .returned v ∧ OwnR w' w.heap.size v l ∧ Kept w w' := by
  have q : ∀ (w : World) (a : Option Addr) (n c n' c' : Nat), (binOp .eql 53 (.slice a n c) (.slice none n' c')).run Tryz.prog w = .ok (.bool a.isNone) w := fun w a n c n' c' => Lib.run_eql_slice_nil w _ _ a n c n' c' Tryz.underlying53
  cases a with
  | none =>
    obtain ⟨rfl, rfl⟩ := hn rfl
    clear hs
    go_enter Tryz.func109, Tryz.ntmps109
    go_wp2
    go_ret
    exact ⟨_, rfl, ownR_nil _ _, Kept.refl _⟩
  | some ad =>
    have H := hidMk hs
    clear hs hn
    go_enter Tryz.func109, Tryz.ntmps109
    go_wp2_with (at_builtin; refine wpList_catR _ (by rfl) _ _ (by rfl) w.heap.size (.slice (some ⟨w.heap.size, 0, none⟩) 0 0) [] l (by rfl) (World.ownsRow_made w #[] 0 (Nat.le_refl _) (Nat.zero_le _) (by simp)) (by simp) (some ad) c (by rfl) (H.out.kept ((Kept.refl w).alloc _)) (fun e => by cases e) (by simp; omega) ?_; intro v' w1 o4 k4; have H4 := hidMk o4; have K4 := hidMk (show Kept w w1 from Chg.kept ((Kept.refl w).alloc _) k4 (fun j hj => by simp [Value.ownBlock] at hj; omega)); clear o4 k4)
    go_wp2
    go_ret
    exact ⟨_, rfl, by simpa using H4.out, K4.out⟩
def ofR (l : List Int) : List Rn := (l.filter fun x => decide (0 ≤ x)).map fun x => (x, x)
theorem ofR_take {l : List Int} {k : Nat} (h : k < l.length) : ofR (l.take (k + 1)) = if 0 ≤ l.getD k 0 then ofR (l.take k) ++ [(l.getD k 0, l.getD k 0)] else ofR (l.take k) := by
  unfold ofR
  rw [List.take_succ_eq_append_getElem h, List.filter_append, List.map_append]
  have e : l.getD k 0 = l[k] := by simp [List.getD, List.getElem?_eq_getElem h]
  rw [e]
  by_cases c : 0 ≤ l[k]
  · simp [c]
  · simp [c]
theorem ofR_len (l : List Int) : (ofR l).length ≤ l.length := by unfold ofR; rw [List.length_map]; exact List.length_filter_le _ _
theorem inR_ofR (l : List Int) (x : Int) : inRg (ofR l) x ↔ x ∈ l ∧ 0 ≤ x := by
  unfold inRg ofR
  constructor
  · rintro ⟨r, hr, h1, h2⟩
    rw [List.mem_map] at hr
    obtain ⟨y, hy, rfl⟩ := hr
    rw [List.mem_filter] at hy
    simp only at h1 h2
    have : x = y := by omega
    subst this
    simpa using hy
  · rintro ⟨h1, h2⟩
    exact ⟨(x, x), List.mem_map.2 ⟨x, List.mem_filter.2 ⟨h1, by simpa using h2⟩, rfl⟩, Int.le_refl _, Int.le_refl _⟩
theorem ofR_ok {l : List Int} (h : ∀ x, x ∈ l → isI x) : ∀ r, r ∈ ofR l → okR r := by
  intro r hr
  unfold ofR at hr
  rw [List.mem_map] at hr
  obtain ⟨y, hy, rfl⟩ := hr
  rw [List.mem_filter] at hy
  have := h y hy.1
  have h2 := hy.2
  simp at h2
  unfold isI at this
  unfold okR top
  simp only
  omega
def SetPost (w : World) (P : Int → Prop) (n : Nat) (e : Ending) (w' : World) : Prop := ∃ v' m, e = .returned v' ∧ SetIs w' v' m ∧ Norm m ∧ (∀ x, inRg m x ↔ P x) ∧ m.length ≤ n ∧ Kept w w' ∧ ∀ ad k c, v' = .agg #[.slice (some ad) k c] → w.heap.size ≤ ad.block
theorem set_ret1 {R : Ending → World → Prop} {fn : Func} {p : Tmp} (hfn : fn.results = #[.cell p 55]) {a : Act} {w : World} (g : Nat) (v u : Value) (hp : a.tmps.getD p undef = .pointer (some ⟨g, 0, none⟩)) (hd : a.defers = [])
    (c0 : w.cell? ⟨g, 0, none⟩ = some u) (h : R (.returned (.agg #[v])) (w.setCell ⟨g, 0, none⟩ v)) : bodyPost Tryz.prog fn R .ret a (w.setCell ⟨g, 0, none⟩ v) :=
  set_ret hfn g v hp hd (World.cell?_setCell_same _ _ _ c0) h
set_option maxHeartbeats 2000000 in
theorem region_Of (a : Option Addr) (n c : Nat) (l : List Int) (w : World) (hs : Sl .i64 w a n l) (hI : ∀ x, x ∈ l → isI x) (hn : n ≤ 1000) :
    Calls Tryz.prog 62 #[.slice a n c] w (SetPost w (fun x => x ∈ l ∧ 0 ≤ x) n) := by
  have HS := hidMk hs
  have HI := hidMk hI
  have hlen := hs.len
  clear hs hI
  go_enter Tryz.func62, Tryz.ntmps62
  go_wp2_with fail
  go_loopg [3, 8] n (fun g v x wr => ∃ k : Nat, k + g = n ∧ x = .int .i64 k ∧ OwnR wr (w.heap.size + 1) v (ofR (l.take k)) ∧ Kept (w.alloc (.cells #[.slice none 0 0] 55)) wr)
  case atStart => exact ⟨0, by omega, rfl, ownR_nil _ _, Kept.refl _⟩
  case round =>
    obtain ⟨k, hkg, rfl, hO, hk⟩ := hrel
    have HKG := hidMk hkg
    have HK := hidMk hk
    have HO := hidMk hO
    have hsz : w.heap.size + 1 ≤ wr.heap.size := by have := hk.size; simpa using this
    have hol := ofR_len (l.take k)
    rw [List.length_take] at hol
    by_cases hkn : k < n
    · obtain ⟨b, o, rfl, hb, hcs⟩ := HS.out.cells (by omega)
      have hc := hk.cellp (((Kept.refl w).alloc _).cellp (hcs k hkn))
      have HT := hidMk (ofR_take (l := l) (k := k) (by omega))
      obtain ⟨da, dc, rfl, _⟩ := hO.rs
      clear hcs hk hO hkg
      generalize l.getD k 0 = x at *
      generalize ofR (l.take k) = acc at *
      by_cases hx : 0 ≤ x
      · rw [if_pos hx] at HT
        go_wp2_with (at_builtin; refine wpList_pushRn _ (by rfl) _ _ (by rfl) (w.heap.size + 1) (.slice da acc.length dc) acc (by rfl) (HO.out.kept ((Kept.refl _).alloc _)) (by simp; omega) wr.heap.size (x, x) (by rfl) (by simp) (by simp) (by omega) (wr.heap.size + 1) (by simp) ?_; intro g4 cap4 w4 o4 k4 a4 l4; have H4 := hidMk o4; have K4 := hidMk (Chg.kept (HK.out.alloc _) k4 (fun j hj => by have := (HO.out.lt j hj).1; simp; omega)); clear o4 k4 a4 l4)
        go_roundg (gk - 1)
        case measure => have := HKG.out; omega
        case rel => exact ⟨k + 1, by have := HKG.out; omega, by go_num, by rw [HT.out]; exact H4.out, K4.out⟩
      · rw [if_neg hx] at HT
        go_wp2_with fail
        go_roundg (gk - 1)
        case measure => have := HKG.out; omega
        case rel => exact ⟨k + 1, by have := HKG.out; omega, by go_num, by rw [HT.out]; exact HO.out, HK.out⟩
    · have htk : l.take k = l := List.take_of_length_le (by omega)
      rw [htk] at HO hO
      obtain ⟨da, dc, rfl, _⟩ := hO.rs
      have hkk : ¬ ((k : Int) < (n : Int)) := by omega
      have hJ := region_joined hO (ofR_ok HI.out) (by have := ofR_len l; omega)
      have HJ := hidMk hJ
      have rc := hk.cellp (b := w.heap.size) (o := 0) (v := .slice none 0 0) (by simp)
      have rf := (hk.frozen (p := ⟨w.heap.size, 0, none⟩) (by simp)).trans (show (w.alloc (.cells #[.slice none 0 0] 55)).frozen? ⟨w.heap.size, 0, none⟩ = false by simp)
      have HIN := hidMk (inR_ofR l)
      have HOL := hidMk (ofR_len l)
      clear hO hJ hk hkg hol htk
      generalize ofR l = acc at *
      go_wp2_with fail
      refine HJ.out.mono ?_
      rintro e w5 ⟨a5, c5, m5, rfl, hs5, hc5, hn5, hb5, hN5, hm5, hl5, hc⟩
      have r1 := hc.cellp rc (fun e => by have := (HO.out.lt _ e).1; omega)
      have r2 := (hc.frozen (p := ⟨w.heap.size, 0, none⟩) (cell_lt rc) (fun (e : (Value.slice da acc.length dc).ownBlock = some w.heap.size) => by have := (HO.out.lt _ e).1; omega)).trans rf
      have HK5 := hidMk (show Kept w w5 from Chg.kept (((Kept.refl w).alloc _).trans HK.out) hc (fun j hj => by have := (HO.out.lt j hj).1; omega))
      have H5 := hidMk hs5
      have HB5 := hidMk hb5
      have HNN := hidMk hn5
      have HN5 := hidMk hN5
      have HM5 := hidMk hm5
      clear hs5 hN5 hm5 hc rc rf hb5 hn5
      go_wp2_with fail
      have c2 : Chg (· = w.heap.size) w5 (w5.setCell ⟨w.heap.size, 0, none⟩ (.slice a5 m5.length c5)) := chg_set _ _ _ _
      exact set_ret1 rfl w.heap.size (.slice a5 m5.length c5) _ rfl rfl r1 ⟨_, m5, rfl, ⟨a5, c5, rfl, H5.out.chg c2 (fun _ ad e => by have := HB5.out ad e; omega), hc5, HNN.out⟩, HN5.out, fun x => (HM5.out x).trans (HIN.out x), by have := HOL.out; omega, HK5.out.setCell (p := ⟨w.heap.size, 0, none⟩) (Nat.le_refl _) _, fun ad n c e => by simp at e; have := HB5.out ad e.1; omega⟩

structure Sts (w : World) (a : Option Addr) (ls : List (List Rn)) : Prop where
  cells : 0 < ls.length → ∃ b o, a = some ⟨b, o, none⟩ ∧ b < w.heap.size ∧ ∀ i, i < ls.length → ∃ v, w.cell? ⟨b, o + i, none⟩ = some v ∧ SetIs w (.agg #[v]) (ls.getD i [])
theorem Sts.kept {w w' : World} {a : Option Addr} {ls : List (List Rn)} (h : Sts w a ls) (g : Kept w w') : Sts w' a ls :=
  ⟨fun hp => by
    obtain ⟨b, o, h1, h2, h3⟩ := h.cells hp
    exact ⟨b, o, h1, Nat.lt_of_lt_of_le h2 g.size, fun i hi => by
      obtain ⟨v, h4, h5⟩ := h3 i hi
      exact ⟨v, g.cellp h4, h5.kept g⟩⟩⟩
def catL (l : List Rn) (ls : List (List Rn)) : List Rn := ls.foldl (· ++ ·) l
theorem catL_take {l : List Rn} {ls : List (List Rn)} {k : Nat} (h : k < ls.length) : catL l (ls.take (k + 1)) = catL l (ls.take k) ++ ls.getD k [] := by
  unfold catL
  rw [List.take_succ_eq_append_getElem h, List.foldl_append]
  simp [List.getD, List.getElem?_eq_getElem h]
theorem catL_mem : ∀ {ls : List (List Rn)} {l : List Rn} {r : Rn}, r ∈ catL l ls ↔ r ∈ l ∨ ∃ t, t ∈ ls ∧ r ∈ t := by
  intro ls
  induction ls with
  | nil => intro l r; simp [catL]
  | cons t u ih =>
    intro l r
    rw [show catL l (t :: u) = catL (l ++ t) u from rfl, ih, List.mem_append]
    simp only [List.mem_cons, exists_eq_or_imp]
    exact or_assoc
theorem catL_in {ls : List (List Rn)} {l : List Rn} {x : Int} : inRg (catL l ls) x ↔ inRg l x ∨ ∃ t, t ∈ ls ∧ inRg t x := by
  constructor
  · rintro ⟨r, h, h1⟩
    rcases catL_mem.1 h with h | ⟨t, ht, h⟩
    · exact .inl ⟨r, h, h1⟩
    · exact .inr ⟨t, ht, r, h, h1⟩
  · rintro (⟨r, h, h1⟩ | ⟨t, ht, r, h, h1⟩)
    · exact ⟨r, catL_mem.2 (.inl h), h1⟩
    · exact ⟨r, catL_mem.2 (.inr ⟨t, ht, h⟩), h1⟩
theorem catL_len {l : List Rn} : ∀ {ls : List (List Rn)} {k : Nat}, (catL l (ls.take k)).length ≤ (catL l ls).length := by
  intro ls k
  have : ∀ (ls : List (List Rn)) (l : List Rn), l.length ≤ (catL l ls).length := by
    intro ls
    induction ls with
    | nil => intro l; exact Nat.le_refl _
    | cons t u ih => intro l; have := ih (l ++ t); rw [List.length_append] at this; exact Nat.le_trans (Nat.le_add_right _ _) this
  have e : catL l ls = catL (catL l (ls.take k)) (ls.drop k) := by
    unfold catL
    rw [← List.foldl_append, List.take_append_drop]
  rw [e]
  exact this _ _
set_option maxHeartbeats 2000000 in
theorem region_Join (v : Value) (l : List Rn) (b : Option Addr) (c : Nat) (ls : List (List Rn)) (w : World) (h : SetIs w v l) (hs : Sts w b ls) (hok : ∀ r, r ∈ catL l ls → okR r) (hl : (catL l ls).length ≤ 80000) (hk : ls.length ≤ 1000) :
    Calls Tryz.prog 64 #[v, .slice b ls.length c] w (SetPost w (fun x => inRg l x ∨ ∃ t, t ∈ ls ∧ inRg t x) (catL l ls).length) := by
  obtain ⟨a, d, rfl, h1, h2, h3⟩ := h
  have HS := hidMk hs
  have HOK := hidMk hok
  have hll : l.length ≤ 80000 := by have := catL_len (l := l) (ls := ls) (k := 0); simp [catL] at this; unfold catL at hl; omega
  have HCL := hidMk (show ∀ y, Kept w y → _ from fun y hy => slices_CloneR a d l y (h1.kept hy) h3 (by omega))
  clear h1 h3 hs hok
  have HW := hidMk (show Kept w ((w.alloc (.cells #[.slice a l.length d] 55)).alloc (.cells #[.slice none 0 0] 55)) from ((Kept.refl w).alloc _).alloc _)
  have hc0 := HCL.out _ HW.out
  have HC0 := hidMk hc0
  clear hc0 HCL
  go_enter Tryz.func64, Tryz.ntmps64
  go_wp2_with fail
  refine HC0.out.mono ?_
  rintro e w1 ⟨v1, rfl, ho1, k1⟩
  have HO1 := hidMk (show OwnR w1 (w.heap.size + 1 + 1) v1 l by have := ho1; simpa using this)
  have K1 := hidMk k1
  clear ho1 k1
  go_wp2_with fail
  go_loopg [5, 13] ls.length (fun g vv x wr => ∃ k : Nat, k + g = ls.length ∧ x = .int .i64 k ∧ OwnR wr (w.heap.size + 1 + 1) vv (catL l (ls.take k)) ∧ Kept ((w.alloc (.cells #[.slice a l.length d] 55)).alloc (.cells #[.slice none 0 0] 55)) wr)
  case atStart => exact ⟨0, by omega, rfl, HO1.out, K1.out⟩
  case round =>
    obtain ⟨k, hkg, rfl, hO, hkp⟩ := hrel
    have HKG := hidMk hkg
    have HK := hidMk hkp
    have hsz : w.heap.size + 1 + 1 ≤ wr.heap.size := by have := hkp.size; simpa using this
    have hcl := catL_len (l := l) (ls := ls) (k := k)
    by_cases hkn : k < ls.length
    · obtain ⟨bb, oo, rfl, hbb, hcs⟩ := (HS.out.kept (HW.out.trans hkp)).cells (by omega)
      obtain ⟨u, hu, ta, tc, htv, htr, htc, htn⟩ := hcs k hkn
      obtain rfl : u = .slice ta (ls.getD k []).length tc := by simpa using htv
      have HT := hidMk (catL_take (l := l) hkn)
      have hcl2 := catL_len (l := l) (ls := ls) (k := k + 1)
      rw [HT.out, List.length_append] at hcl2
      have HTR := hidMk htr
      have HTN := hidMk htn
      have HO := hidMk hO
      clear hcs hkp hO hkg htv htr htn
      generalize ls.getD k [] = t at *
      generalize catL l (ls.take k) = acc at *
      go_wp2_with (at_builtin; refine wpList_catR _ (by rfl) _ _ (by rfl) (w.heap.size + 1 + 1) _ acc t (by rfl) (HO.out.kept ((Kept.refl _).alloc _)) (by simp; omega) ta tc (by rfl) (HTR.out.kept ((Kept.refl _).alloc _)) HTN.out (by omega) ?_; intro v4 w4 o4 k4; have H4 := hidMk o4; have K4 := hidMk (Chg.kept (HK.out.alloc _) k4 (fun j hj => by have := (HO.out.lt j hj).1; simp; omega)); clear o4 k4)
      go_roundg (gk - 1)
      case measure => have := HKG.out; omega
      case rel => exact ⟨k + 1, by have := HKG.out; omega, by go_num, by rw [HT.out]; exact H4.out, K4.out⟩
    · have htk : ls.take k = ls := List.take_of_length_le (by omega)
      rw [htk] at hO
      obtain ⟨da, dc, rfl, _⟩ := hO.rs
      have HO := hidMk hO
      have hkk : ¬ ((k : Int) < (ls.length : Int)) := by omega
      have HJ := hidMk (region_joined hO HOK.out (by omega))
      have rc := hkp.cellp (b := w.heap.size + 1) (o := 0) (v := .slice none 0 0) (new_cellR (by simp) _ _)
      have rf := (hkp.frozen (p := ⟨w.heap.size + 1, 0, none⟩) (by simp)).trans (new_frozenR (by simp) _ _ 0)
      have HIN := hidMk (fun x => catL_in (l := l) (ls := ls) (x := x))
      clear hO hkp hkg hcl htk
      generalize hacc : catL l ls = acc at *
      have HACC := hidMk hacc
      clear hacc
      go_wp2_with fail
      refine HJ.out.mono ?_
      rintro e w5 ⟨a5, c5, m5, rfl, hs5, hc5, hn5, hb5, hN5, hm5, hl5, hc⟩
      have r1 := hc.cellp rc (fun e => by have := (HO.out.lt _ e).1; omega)
      have r2 := (hc.frozen (p := ⟨w.heap.size + 1, 0, none⟩) (cell_lt rc) (fun (e : (Value.slice da acc.length dc).ownBlock = some (w.heap.size + 1)) => by have := (HO.out.lt _ e).1; omega)).trans rf
      have HK5 := hidMk (show Kept w w5 from Chg.kept (HW.out.trans HK.out) hc (fun j hj => by have := (HO.out.lt j hj).1; omega))
      have H5 := hidMk hs5
      have HB5 := hidMk hb5
      have HNN := hidMk hn5
      have HN5 := hidMk hN5
      have HM5 := hidMk hm5
      clear hs5 hN5 hm5 hc rc rf hb5 hn5
      go_wp2_with fail
      have c2 : Chg (· = w.heap.size + 1) w5 (w5.setCell ⟨w.heap.size + 1, 0, none⟩ (.slice a5 m5.length c5)) := chg_set _ _ _ _
      exact set_ret1 rfl (w.heap.size + 1) (.slice a5 m5.length c5) _ rfl rfl r1 ⟨_, m5, rfl, ⟨a5, c5, rfl, H5.out.chg c2 (fun _ ad e => by have := HB5.out ad e; omega), hc5, HNN.out⟩, HN5.out, fun x => (HM5.out x).trans (HIN.out x), by rw [HACC.out]; exact hl5, HK5.out.setCell (p := ⟨w.heap.size + 1, 0, none⟩) (Nat.le_add_right _ _) _, fun ad n c e => by simp at e; have := HB5.out ad e.1; omega⟩

theorem ups_succ (x : Int) (n : Nat) : (List.range (n + 1)).map (fun i => x + (i : Nat)) = (List.range n).map (fun i => x + (i : Nat)) ++ [x + (n : Int)] := by
  rw [List.range_succ, List.map_append]
  rfl
theorem expd_take {l : List Rn} {k : Nat} (h : k < l.length) : expd (l.take (k + 1)) = expd (l.take k) ++ ups (rnA l k) := by
  unfold expd
  rw [List.take_succ_eq_append_getElem h, List.flatMap_append]
  simp [rnA, List.getD, List.getElem?_eq_getElem h]
theorem expd_len_take {l : List Rn} (k : Nat) : (expd (l.take k)).length ≤ (expd l).length := by
  have e : expd l = expd (l.take k) ++ expd (l.drop k) := by
    unfold expd
    rw [← List.flatMap_append, List.take_append_drop]
  rw [e, List.length_append]
  omega
theorem OwnI.kept' {w w' : World} {B : Nat} {v : Value} {l : List Int} (h : OwnI w B v l) (g : Kept w w') : OwnI w' B v l := h.chg (S := fun _ => False) (Chg.of_kept g) (fun _ _ e => e)

def agR (r : Rn) (x : Int) : Int := if r.2 < x then -1 else if x < r.1 then 1 else 0
theorem region_against (r : Rn) (x : Int) (w : World) : Calls Tryz.prog 118 #[.agg #[.int .i64 r.1, .int .i64 r.2], .int .i64 x] w fun e w' => e = .returned (.int .i64 (agR r x)) ∧ Kept w w' := by
  obtain ⟨r1, r2⟩ := r
  simp only
  by_cases h1 : r2 < x
  · rw [show agR (r1, r2) x = -1 from if_pos h1]
    go_enter Tryz.func118, Tryz.ntmps118
    go_wp2_with fail
    go_ret
    exact ⟨rfl, (Kept.refl w).alloc _⟩
  · by_cases h2 : x < r1
    · rw [show agR (r1, r2) x = 1 from (if_neg h1).trans (if_pos h2)]
      have h1' : x ≤ r2 := by omega
      go_enter Tryz.func118, Tryz.ntmps118
      go_wp2_with fail
      go_ret
      exact ⟨rfl, (Kept.refl w).alloc _⟩
    · rw [show agR (r1, r2) x = 0 from (if_neg h1).trans (if_neg h2)]
      have h1' : x ≤ r2 := by omega
      have h2' : r1 ≤ x := by omega
      go_enter Tryz.func118, Tryz.ntmps118
      go_wp2_with fail
      go_ret
      exact ⟨rfl, (Kept.refl w).alloc _⟩
theorem norm_lt {l : List Rn} (h : Norm l) {i j : Nat} (hij : i < j) (hj : j < l.length) : (rnA l i).2 + 1 < (rnA l j).1 := by
  have := List.pairwise_iff_getElem.1 h.pw i j (by omega) hj hij
  simpa [rnA, List.getD, List.getElem?_eq_getElem hj, List.getElem?_eq_getElem (show i < l.length by omega)] using this
theorem mem_rnA {l : List Rn} {r : Rn} (h : r ∈ l) : ∃ k, k < l.length ∧ rnA l k = r := by
  obtain ⟨k, hk, rfl⟩ := List.getElem_of_mem h
  exact ⟨k, hk, by simp [rnA, List.getD, List.getElem?_eq_getElem hk]⟩
theorem found_is {l : List Rn} (h : Norm l) (x : Int) {i : Nat} (hi : i ≤ l.length) (h1 : ∀ k, k < i → (rnA l k).2 < x) (h2 : ∀ k, i ≤ k → k < l.length → ¬ (rnA l k).2 < x) : inRg l x ↔ i < l.length ∧ agR (rnA l i) x = 0 := by
  constructor
  · rintro ⟨r, hr, e1, e2⟩
    obtain ⟨m, hm, rfl⟩ := mem_rnA hr
    have hmi : i ≤ m := by
      by_cases c : m < i
      · have := h1 m c; omega
      · omega
    have hmi2 : m = i := by
      by_cases c : i < m
      · have := norm_lt h c hm; have := h2 i (Nat.le_refl _) (by omega); omega
      · omega
    subst hmi2
    exact ⟨hm, by unfold agR; rw [if_neg (by omega), if_neg (by omega)]⟩
  · rintro ⟨hil, he⟩
    refine ⟨rnA l i, rnA_mem hil, ?_⟩
    unfold agR at he
    split at he
    · omega
    · split at he
      · omega
      · omega
set_option maxHeartbeats 4000000 in
set_option maxRecDepth 100000 in
theorem slices_BinR (a : Option Addr) (c : Nat) (l : List Rn) (x : Int) (w : World) (hs : Rs w a l) (hN : Norm l) (hl : l.length ≤ 100000) (b : Bool) (hb : b = true ↔ inRg l x) :
    Calls Tryz.prog 117 #[.slice a l.length c, .int .i64 x, .func (.func 118) #[] #[]] w fun e w' => (∃ i : Int, e = .returned (.tuple #[.int .i64 i, .bool b])) ∧ Kept w w' := by
  have HS := hidMk hs
  have HN := hidMk hN
  have HB := hidMk hb
  have HAG := hidMk region_against
  clear hs hN hb
  go_enter Tryz.func117, Tryz.ntmps117
  go_wp2_with fail
  go_loopg [9, 10] l.length (fun g p q wr => ∃ (i j : Nat), i ≤ j ∧ j - i = g ∧ j ≤ l.length ∧ p = .int .i64 i ∧ q = .int .i64 j ∧ Kept w wr ∧ Hid ((∀ k, k < i → (rnA l k).2 < x) ∧ ∀ k, j ≤ k → k < l.length → x ≤ (rnA l k).2))
  case atStart => exact ⟨0, l.length, by omega, by omega, by omega, rfl, rfl, Kept.refl _, hidMk ⟨fun k hk => absurd hk (by omega), fun k h1 h2 => absurd h1 (by omega)⟩⟩
  case round =>
    obtain ⟨i, j, hij, hg, hjl, rfl, rfl, hk, HJ⟩ := hrel
    have HK := hidMk hk
    have HG := hidMk hg
    by_cases hlt : i < j
    · have hlt' : (i : Int) < (j : Int) := by omega
      obtain ⟨h, hh⟩ : ∃ h : Nat, (i + j) / 2 = h := ⟨_, rfl⟩
      have hh1 : i ≤ h := by omega
      have hh2 : h < j := by omega
      obtain ⟨bb, o, rfl, hbb, hcs⟩ := HS.out.cells (by omega)
      obtain ⟨c1, c2⟩ := hcs h (by omega)
      have d1 := hk.cellp c1
      have d2 := hk.cellp c2
      have hw1 : IntKind.i64.wrap ((i : Int) + (j : Int)) = (i : Int) + (j : Int) := by rw [IntKind.wrap_i64]; omega
      clear hcs c1 c2 hk hg
      have HH := hidMk hh
      have hH2 : ((i : Int) + (j : Int)) / 2 = (h : Int) := by omega
      have HH2 := hidMk hH2
      go_wp2_with fail
      refine (HAG.out _ _ _).mono ?_
      rintro e w5 ⟨rfl, k5⟩
      have K5 := hidMk k5
      clear k5
      by_cases hr : (rnA l h).2 < x
      · have ha : agR (rnA l h) x = -1 := if_pos hr
        rw [ha]
        have HJ2 := hidMk (show (∀ k, k < h + 1 → (rnA l k).2 < x) ∧ ∀ k, j ≤ k → k < l.length → x ≤ (rnA l k).2 from ⟨fun k hk => by
          by_cases e : k = h
          · subst e; exact hr
          · have h1 := norm_lt HN.out (show k < h by omega) (by omega)
            have h2 := norm_at HN.out (k := h) (by omega)
            omega, HJ.out.2⟩)
        clear ha hr
        go_wp2_with fail
        go_roundg (j - (h + 1))
        case measure => have := HG.out; omega
        case rel => exact ⟨h + 1, j, by omega, rfl, by omega, by first | rfl | go_num, rfl, HK.out.trans K5.out, HJ2⟩
      · have ha : ¬ agR (rnA l h) x < 0 := by unfold agR; rw [if_neg hr]; split <;> omega
        have HJ2 := hidMk (show (∀ k, k < i → (rnA l k).2 < x) ∧ ∀ k, h ≤ k → k < l.length → x ≤ (rnA l k).2 from ⟨HJ.out.1, fun k hk1 hk2 => by
          by_cases e : k = h
          · subst e; omega
          · have h1 := norm_lt HN.out (show h < k by omega) (by omega)
            have h2 := norm_at HN.out (k := k) (by omega)
            omega⟩)
        clear hr
        generalize agR (rnA l h) x = z at *
        go_wp2_with fail
        go_roundg (h - i)
        case measure => have := HG.out; omega
        case rel => exact ⟨i, h, by omega, rfl, by omega, rfl, rfl, HK.out.trans K5.out, HJ2⟩
    · obtain rfl : i = j := by omega
      have hkk : ¬ ((i : Int) < (i : Int)) := by omega
      have HF := hidMk (show b = true ↔ i < l.length ∧ agR (rnA l i) x = 0 from HB.out.trans (found_is HN.out x hjl HJ.out.1 (fun k h1 h2 => by have := HJ.out.2 k h1 h2; omega)))
      clear hg
      by_cases hil : i < l.length
      · obtain ⟨bb, o, rfl, hbb, hcs⟩ := HS.out.cells (by omega)
        obtain ⟨c1, c2⟩ := hcs i hil
        have d1 := hk.cellp c1
        have d2 := hk.cellp c2
        have hil' : (i : Int) < (l.length : Int) := by omega
        clear hcs c1 c2 hk
        by_cases ha : agR (rnA l i) x = 0
        · have HT := hidMk (show b = true from HF.out.2 ⟨hil, ha⟩)
          have HA2 := hidMk (show ∀ w, Calls Tryz.prog 118 #[.agg #[.int .i64 (rnA l i).1, .int .i64 (rnA l i).2], .int .i64 x] w fun e w' => e = .returned (.int .i64 0) ∧ Kept w w' from fun w => by have := HAG.out (rnA l i) x w; rw [ha] at this; exact this)
          clear ha
          generalize rnA l i = r at *
          obtain ⟨r1, r2⟩ := r
          simp only at d1 d2 HA2
          go_wp2_with fail
          refine (HA2.out _).mono ?_
          rintro e w5 ⟨rfl, k5⟩
          have K5 := hidMk k5
          clear k5
          go_wp2_with fail
          go_ret2
          exact ⟨⟨i, by rw [HT.out]; rfl⟩, HK.out.trans K5.out⟩
        · have HT := hidMk (show b = false by cases hbb : b with | false => rfl | true => exact absurd (HF.out.1 hbb).2 ha)
          have ha' : (agR (rnA l i) x == 0) = false := by simpa using ha
          clear ha
          have HA2 := hidMk (HAG.out (rnA l i) x)
          generalize agR (rnA l i) x = z at *
          generalize rnA l i = r at *
          obtain ⟨r1, r2⟩ := r
          simp only at d1 d2 HA2
          go_wp2_with fail
          refine (HA2.out _).mono ?_
          rintro e w5 ⟨rfl, k5⟩
          have K5 := hidMk k5
          clear k5
          go_wp2_with fail
          go_ret2
          exact ⟨⟨i, by rw [HT.out]; rfl⟩, HK.out.trans K5.out⟩
      · have HT := hidMk (show b = false by cases hbb : b with | false => rfl | true => exact absurd (HF.out.1 hbb).1 hil)
        have hil' : ¬ (i : Int) < (l.length : Int) := by omega
        clear hk
        go_wp2_with fail
        go_ret2
        exact ⟨⟨i, by rw [HT.out]; rfl⟩, HK.out⟩
theorem region_Has (v : Value) (l : List Rn) (x : Int) (w : World) (h : SetIs w v l) (hN : Norm l) (hl : l.length ≤ 100000) (b : Bool) (hb : b = true ↔ inRg l x) :
    Calls Tryz.prog 74 #[v, .int .i64 x] w fun e w' => e = .returned (.bool b) ∧ Kept w w' := by
  obtain ⟨a, c, rfl, h1, _, _⟩ := h
  have HB := hidMk (slices_BinR a c l x _ (h1.kept ((Kept.refl w).alloc (.cells #[.slice a l.length c] 55))) hN hl b hb)
  clear h1 hN hb
  go_enter Tryz.func74, Tryz.ntmps74
  go_wp2_with fail
  refine HB.out.mono ?_
  rintro e w5 ⟨⟨i, rfl⟩, k5⟩
  have K5 := hidMk k5
  clear k5
  go_wp2_with fail
  go_ret
  exact ⟨rfl, ((Kept.refl w).alloc _).trans K5.out⟩
end Go.Proofs.YtmedgkccicbieaaGreat
