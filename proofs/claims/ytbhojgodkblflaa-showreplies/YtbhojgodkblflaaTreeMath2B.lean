/- Texts as bytes: letters, names, which one is ahead. No program is named here. · Members above each other: plain definitions. No program is named here. · Ways up: where they end, where they run round. -/
import Derived.Test.YtbhojgodkblflaaMathNum
import Derived.Laws.Strings
namespace Go.Proofs.Ytbhojgodkblflaa
open Go.RowKit
set_option linter.unusedSimpArgs false
set_option linter.unusedVariables false

/-- A text's bytes as numbers. -/
def byt (s : ByteArray) : List Int := s.data.toList.map fun b => (b.toNat : Int)
theorem byt_len (s : ByteArray) : (byt s).length = s.size := by unfold byt; rw [List.length_map, Array.length_toList]; rfl
def bat (s : ByteArray) (i : Nat) : Int := (byt s).getD i 0
theorem bat_get (s : ByteArray) (i : Nat) (h : i < s.size) : bat s i = ((s[i]'h).toNat : Int) := by
  unfold bat byt
  have h' : i < s.data.toList.length := by rw [Array.length_toList]; exact h
  rw [List.getD_eq_getElem?_getD, List.getElem?_map, List.getElem?_eq_getElem h']
  rfl
theorem bat_is (s : ByteArray) (i : Nat) : 0 ≤ bat s i ∧ bat s i ≤ 255 := by
  by_cases h : i < s.size
  · rw [bat_get s i h]
    have := (s[i]'h).toNat_lt
    omega
  · unfold bat
    rw [List.getD_eq_getElem?_getD, List.getElem?_eq_none (by rw [byt_len]; omega)]
    simp
theorem run_at {P : Program} {t : TypeId} (ht : P.underlying t = some .string) (s : ByteArray) (k : IntKind) (i : Nat) (h : i < s.size) (w : World) :
    (Instr.index t (.string s) (.int k (i : Int))).run P w = .ok (.int .u8 (bat s i)) w := by
  rw [run_index_string w t s k i ht, dif_pos (by omega), bat_get s i h]
  rfl

def letB (c : Int) : Bool := decide (97 ≤ c ∧ c ≤ 122) || decide (65 ≤ c ∧ c ≤ 90)
def digB (c : Int) : Bool := decide (48 ≤ c ∧ c ≤ 57)
def okB (c : Int) : Bool := letB c || digB c || decide (c = 95)
/-- Can it be a name? -/
def nameB (s : ByteArray) : Bool := decide (1 ≤ s.size ∧ s.size ≤ 12) && letB (bat s 0) && decide (∀ i, i < s.size → okB (bat s i) = true)
theorem nameB_no {s : ByteArray} {i : Nat} (hi : i < s.size) (h : okB (bat s i) = false) : nameB s = false := by
  unfold nameB
  rw [Bool.and_eq_false_iff]
  right
  simp only [decide_eq_false_iff_not]
  intro hall
  have := hall i hi
  rw [h] at this
  cases this
theorem nameB_yes {s : ByteArray} (h1 : 1 ≤ s.size ∧ s.size ≤ 12) (h2 : letB (bat s 0) = true) (h3 : ∀ i, i < s.size → okB (bat s i) = true) : nameB s = true := by
  unfold nameB
  rw [h2, decide_eq_true h1, decide_eq_true h3]
  rfl
end Go.Proofs.Ytbhojgodkblflaa
namespace Go.Proofs.Ytbhojgodkblflaa
open Go.RowKit
set_option linter.unusedSimpArgs false
set_option linter.unusedVariables false

/-- A member: its name, and the place of the one above it. -/
abbrev Nd := ByteArray × Int
def nmA (l : List Nd) (i : Nat) : ByteArray := (l.getD i (ByteArray.empty, 0)).1
def upA (l : List Nd) (i : Nat) : Int := (l.getD i (ByteArray.empty, 0)).2
abbrev isP (l : List Nd) (i : Int) : Prop := 0 ≤ i ∧ i < l.length
def upI (l : List Nd) (i : Int) : Int := if isP l i then upA l i.toNat else -1
def upN (l : List Nd) : Nat → Int → Int
  | 0, i => i
  | k + 1, i => upI l (upN l k i)
/-- The first place of a name, or how many there are. -/
def fstN (l : List Nd) (s : ByteArray) : Nat := l.findIdx fun x => decide (x.1 = s)
def findI (l : List Nd) (s : ByteArray) : Int := if fstN l s < l.length then fstN l s else -1
/-- One and all above it. -/
def abv (l : List Nd) : Nat → Int → List Int
  | 0, _ => []
  | f + 1, i => if isP l i then i :: abv l f (upI l i) else []
def abvA (l : List Nd) (i : Int) : List Int := abv l (l.length + 1) i
def dep (l : List Nd) (i : Int) : Nat := (abvA l i).length - 1
def loopB (l : List Nd) (i : Int) : Bool := decide (∃ k, k < l.length ∧ upN l (k + 1) i = i)
def chk (l : List Nd) (q i : Nat) : Int :=
  if q = 0 then (if nameB (nmA l i) then 0 else 3)
  else if q = 1 then (if fstN l (nmA l i) = i then 0 else 4)
  else if q = 2 then (if upA l i = -1 ∨ isP l (upA l i) then 0 else 17)
  else if q = 3 then (if loopB l i then 15 else 0)
  else (if 6 ≤ dep l i then 16 else 0)
def Good (l : List Nd) : Prop := ∀ q, q < 5 → ∀ i, i < l.length → chk l q i = 0
def BadAt (l : List Nd) (q i : Nat) : Prop := q < 5 ∧ i < l.length ∧ chk l q i ≠ 0 ∧ (∀ q', q' < q → ∀ i', i' < l.length → chk l q' i' = 0) ∧ ∀ i', i' < i → chk l q i' = 0
/-- What New answers: where, and why. -/
def NewIs (l : List Nd) (at_ e : Int) : Prop := (l.length < 1 ∨ 32 < l.length) ∧ at_ = 0 ∧ e = 5 ∨ (1 ≤ l.length ∧ l.length ≤ 32) ∧ (Good l ∧ at_ = 0 ∧ e = 0 ∨ ∃ q i, BadAt l q i ∧ at_ = (i : Nat) ∧ e = chk l q i)
theorem bad_one {l : List Nd} {q i q' i' : Nat} (h : BadAt l q i) (h' : BadAt l q' i') : q = q' ∧ i = i' := by
  obtain ⟨a1, a2, a3, a4, a5⟩ := h
  obtain ⟨b1, b2, b3, b4, b5⟩ := h'
  have hq : q = q' := by
    rcases Nat.lt_trichotomy q q' with h | h | h
    · exact absurd (b4 q h i a2) a3
    · exact h
    · exact absurd (a4 q' h i' b2) b3
  subst hq
  refine ⟨rfl, ?_⟩
  rcases Nat.lt_trichotomy i i' with h | h | h
  · exact absurd (b5 i h) a3
  · exact h
  · exact absurd (a5 i' h) b3
theorem good_bad {l : List Nd} {q i : Nat} (h : Good l) (h' : BadAt l q i) : False := h'.2.2.1 (h q h'.1 i h'.2.1)
theorem newIs_one {l : List Nd} {a e a' e' : Int} (h : NewIs l a e) (h' : NewIs l a' e') : a = a' ∧ e = e' := by
  rcases h with ⟨h1, rfl, rfl⟩ | ⟨h1, ⟨g, rfl, rfl⟩ | ⟨q, i, g, rfl, rfl⟩⟩ <;> rcases h' with ⟨h1', rfl, rfl⟩ | ⟨h1', ⟨g', rfl, rfl⟩ | ⟨q', i', g', rfl, rfl⟩⟩
  all_goals first | exact ⟨rfl, rfl⟩ | omega | exact absurd g' (fun x => good_bad g x) | exact absurd g (fun x => good_bad g' x) | skip
  obtain ⟨rfl, rfl⟩ := bad_one g g'
  exact ⟨rfl, rfl⟩
theorem newIs_ok {l : List Nd} {a : Int} (h : NewIs l a 0) : 1 ≤ l.length ∧ l.length ≤ 32 ∧ Good l ∧ a = 0 := by
  rcases h with ⟨h1, rfl, h⟩ | ⟨h1, ⟨g, rfl, _⟩ | ⟨q, i, g, rfl, h⟩⟩
  · omega
  · exact ⟨h1.1, h1.2, g, rfl⟩
  · exact absurd h.symm g.2.2.1
end Go.Proofs.Ytbhojgodkblflaa
namespace Go.Proofs.Ytbhojgodkblflaa
open Go.RowKit
set_option linter.unusedSimpArgs false
set_option linter.unusedVariables false

theorem upN_shift (l : List Nd) (k : Nat) (i : Int) : upN l k (upI l i) = upN l (k + 1) i := by
  induction k with
  | zero => rfl
  | succ k ih => show upI l (upN l k (upI l i)) = upI l (upN l (k + 1) i); rw [ih]
theorem upN_add (l : List Nd) (a b : Nat) (i : Int) : upN l a (upN l b i) = upN l (b + a) i := by
  induction a with
  | zero => rfl
  | succ k ih => show upI l (upN l k (upN l b i)) = upI l (upN l (b + k) i); rw [ih]
/-- The way up from i is of m places, and ends. -/
def Ends (l : List Nd) (m : Nat) (i : Int) : Prop := ¬ isP l (upN l m i) ∧ ∀ j, j < m → isP l (upN l j i)
theorem abv_ends {l : List Nd} {m f : Nat} {i : Int} (h : Ends l m i) (hf : m ≤ f) : abv l f i = (List.range m).map fun j => upN l j i := by
  induction f generalizing i m with
  | zero =>
    have : m = 0 := by omega
    subst this
    rfl
  | succ f ih =>
    cases m with
    | zero =>
      have h0 : ¬ isP l i := h.1
      simp [abv, h0]
    | succ m =>
      have h0 : isP l i := h.2 0 (by omega)
      have h1 : Ends l m (upI l i) := ⟨by rw [upN_shift]; exact h.1, fun j hj => by rw [upN_shift]; exact h.2 (j + 1) (by omega)⟩
      rw [abv, if_pos h0, ih h1 (by omega), List.range_succ_eq_map]
      simp only [List.map_cons, List.map_map]
      congr 1
      apply List.map_congr_left
      intro j _
      exact upN_shift l j i
theorem pig : ∀ (n : Nat) (f : Nat → Nat), (∀ j, j ≤ n → f j < n) → ∃ a b, a < b ∧ b ≤ n ∧ f a = f b
  | 0, f, h => absurd (h 0 (Nat.le_refl _)) (by omega)
  | n + 1, f, h => by
    by_cases hx : ∃ a, a ≤ n ∧ f a = f (n + 1)
    · obtain ⟨a, h1, h2⟩ := hx
      exact ⟨a, n + 1, by omega, Nat.le_refl _, h2⟩
    · have hno : ∀ a, a ≤ n → f a ≠ f (n + 1) := fun a ha e => hx ⟨a, ha, e⟩
      obtain ⟨a, b, h1, h2, h3⟩ := pig n (fun j => if f j = n then f (n + 1) else f j) (fun j hj => by
        have a1 := h j (by omega)
        have a2 := h (n + 1) (Nat.le_refl _)
        have a3 := hno j hj
        show (if f j = n then f (n + 1) else f j) < n
        split <;> omega)
      refine ⟨a, b, h1, by omega, ?_⟩
      have n1 := hno a (by omega)
      have n2 := hno b (by omega)
      split at h3 <;> split at h3 <;> omega
def noLoop (l : List Nd) : Prop := ∀ i : Nat, i < l.length → ∀ k, k < l.length → upN l (k + 1) i ≠ i
theorem ends_of {l : List Nd} (h : noLoop l) (i : Int) : ∃ m, m ≤ l.length ∧ Ends l m i := by
  by_cases hx : ∃ m, m ≤ l.length ∧ ¬ isP l (upN l m i)
  · obtain ⟨m, h1, h2⟩ := hx
    induction m using Nat.strongRecOn with
    | _ m ih =>
      by_cases hj : ∃ j, j < m ∧ ¬ isP l (upN l j i)
      · obtain ⟨j, h3, h4⟩ := hj
        exact ih j h3 (by omega) h4
      · exact ⟨m, h1, h2, fun j hj' => by
          by_cases hp : isP l (upN l j i)
          · exact hp
          · exact absurd ⟨j, hj', hp⟩ hj⟩
  · exfalso
    have hall : ∀ m, m ≤ l.length → isP l (upN l m i) := fun m hm => by
      by_cases hp : isP l (upN l m i)
      · exact hp
      · exact absurd ⟨m, hm, hp⟩ hx
    obtain ⟨a, b, h1, h2, h3⟩ := pig l.length (fun j => (upN l j i).toNat) (fun j hj => by
      have := hall j hj
      unfold isP at this
      show (upN l j i).toNat < l.length
      omega)
    have pa := hall a (by omega)
    have pb := hall b h2
    unfold isP at pa pb
    have he : upN l a i = upN l b i := by omega
    refine h (upN l a i).toNat (by omega) (b - a - 1) (by omega) ?_
    have : ((upN l a i).toNat : Int) = upN l a i := by omega
    rw [this, upN_add, show a + (b - a - 1 + 1) = b by omega, he]
theorem ends_unique {l : List Nd} {m m' : Nat} {i : Int} (h : Ends l m i) (h' : Ends l m' i) : m = m' := by
  rcases Nat.lt_trichotomy m m' with g | g | g
  · exact absurd (h'.2 m g) h.1
  · exact g
  · exact absurd (h.2 m' g) h'.1
theorem abvA_ends {l : List Nd} {m : Nat} {i : Int} (h : Ends l m i) (hm : m ≤ l.length) : abvA l i = (List.range m).map fun j => upN l j i := abv_ends h (by omega)
theorem abvA_len {l : List Nd} {m : Nat} {i : Int} (h : Ends l m i) (hm : m ≤ l.length) : (abvA l i).length = m := by rw [abvA_ends h hm]; simp
theorem dep_ends {l : List Nd} {m : Nat} {i : Int} (h : Ends l m i) (hm : m ≤ l.length) : dep l i = m - 1 := by unfold dep; rw [abvA_len h hm]
theorem loop_chk {l : List Nd} {i : Nat} (h : chk l 3 i = 0) : ∀ k, k < l.length → upN l (k + 1) i ≠ i := by
  intro k hk e
  have : loopB l i = true := decide_eq_true ⟨k, hk, e⟩
  simp [chk, this] at h
theorem good_noLoop {l : List Nd} (h : ∀ i, i < l.length → chk l 3 i = 0) : noLoop l := fun i hi => loop_chk (h i hi)
end Go.Proofs.Ytbhojgodkblflaa
