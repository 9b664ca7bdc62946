/- Members above each other: plain definitions. No program is named here. -/
import Derived.Test.YtofppldiipjllaaTextMath
namespace Go.Proofs.Ytofppldiipjllaa
open Go.RowKit
set_option linter.unusedSimpArgs false
set_option linter.unusedVariables false

/-- A member: its name, and the place of the one above it. -/
abbrev Nd := ByteArray × Int
def nmA (l : List Nd) (i : Nat) : ByteArray := (l.getD i (ByteArray.empty, 0)).1
def upA (l : List Nd) (i : Nat) : Int := (l.getD i (ByteArray.empty, 0)).2
abbrev isP (l : List Nd) (i : Int) : Prop := 0 ≤ i ∧ i < l.length
def upI (l : List Nd) (i : Int) : Int := if isP l i then upA l i.toNat else -1
def upN (l : List Nd) : Nat → Int → Int
  | 0, i => i
  | k + 1, i => upI l (upN l k i)
/-- The first place of a name, or how many there are. -/
def fstN (l : List Nd) (s : ByteArray) : Nat := l.findIdx fun x => decide (x.1 = s)
def findI (l : List Nd) (s : ByteArray) : Int := if fstN l s < l.length then fstN l s else -1
/-- One and all above it. -/
def abv (l : List Nd) : Nat → Int → List Int
  | 0, _ => []
  | f + 1, i => if isP l i then i :: abv l f (upI l i) else []
def abvA (l : List Nd) (i : Int) : List Int := abv l (l.length + 1) i
def dep (l : List Nd) (i : Int) : Nat := (abvA l i).length - 1
def loopB (l : List Nd) (i : Int) : Bool := decide (∃ k, k < l.length ∧ upN l (k + 1) i = i)
def chk (l : List Nd) (q i : Nat) : Int :=
  if q = 0 then (if nameB (nmA l i) then 0 else 3)
  else if q = 1 then (if fstN l (nmA l i) = i then 0 else 4)
  else if q = 2 then (if upA l i = -1 ∨ isP l (upA l i) then 0 else 17)
  else if q = 3 then (if loopB l i then 15 else 0)
  else (if 6 ≤ dep l i then 16 else 0)
def Good (l : List Nd) : Prop := ∀ q, q < 5 → ∀ i, i < l.length → chk l q i = 0
def BadAt (l : List Nd) (q i : Nat) : Prop := q < 5 ∧ i < l.length ∧ chk l q i ≠ 0 ∧ (∀ q', q' < q → ∀ i', i' < l.length → chk l q' i' = 0) ∧ ∀ i', i' < i → chk l q i' = 0
/-- What New answers: where, and why. -/
def NewIs (l : List Nd) (at_ e : Int) : Prop := (l.length < 1 ∨ 32 < l.length) ∧ at_ = 0 ∧ e = 5 ∨ (1 ≤ l.length ∧ l.length ≤ 32) ∧ (Good l ∧ at_ = 0 ∧ e = 0 ∨ ∃ q i, BadAt l q i ∧ at_ = (i : Nat) ∧ e = chk l q i)
theorem bad_one {l : List Nd} {q i q' i' : Nat} (h : BadAt l q i) (h' : BadAt l q' i') : q = q' ∧ i = i' := by
  obtain ⟨a1, a2, a3, a4, a5⟩ := h
  obtain ⟨b1, b2, b3, b4, b5⟩ := h'
  have hq : q = q' := by
    rcases Nat.lt_trichotomy q q' with h | h | h
    · exact absurd (b4 q h i a2) a3
    · exact h
    · exact absurd (a4 q' h i' b2) b3
  subst hq
  refine ⟨rfl, ?_⟩
  rcases Nat.lt_trichotomy i i' with h | h | h
  · exact absurd (b5 i h) a3
  · exact h
  · exact absurd (a5 i' h) b3
theorem good_bad {l : List Nd} {q i : Nat} (h : Good l) (h' : BadAt l q i) : False := h'.2.2.1 (h q h'.1 i h'.2.1)
theorem newIs_one {l : List Nd} {a e a' e' : Int} (h : NewIs l a e) (h' : NewIs l a' e') : a = a' ∧ e = e' := by
  rcases h with ⟨h1, rfl, rfl⟩ | ⟨h1, ⟨g, rfl, rfl⟩ | ⟨q, i, g, rfl, rfl⟩⟩ <;> rcases h' with ⟨h1', rfl, rfl⟩ | ⟨h1', ⟨g', rfl, rfl⟩ | ⟨q', i', g', rfl, rfl⟩⟩
  all_goals first | exact ⟨rfl, rfl⟩ | omega | exact absurd g' (fun x => good_bad g x) | exact absurd g (fun x => good_bad g' x) | skip
  obtain ⟨rfl, rfl⟩ := bad_one g g'
  exact ⟨rfl, rfl⟩
theorem newIs_ok {l : List Nd} {a : Int} (h : NewIs l a 0) : 1 ≤ l.length ∧ l.length ≤ 32 ∧ Good l ∧ a = 0 := by
  rcases h with ⟨h1, rfl, h⟩ | ⟨h1, ⟨g, rfl, _⟩ | ⟨q, i, g, rfl, h⟩⟩
  · omega
  · exact ⟨h1.1, h1.2, g, rfl⟩
  · exact absurd h.symm g.2.2.1
end Go.Proofs.Ytofppldiipjllaa
