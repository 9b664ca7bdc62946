/- Those just below each member: the first loop of tree.lay. -/
import Derived.Test.YtlcjnldkldkffaaTree5
import Derived.Laws.EntriesVeiled
namespace Go.Proofs.Ytlcjnldkldkffaa
open Go.RowKit Go.Maps
set_option linter.unusedSimpArgs false
set_option linter.unusedVariables false

/-- The first k members are below those above them. -/
structure LayR (w0 wr : World) (B p mb pb k : Nat) (l : List Nd) (kv : Nat → Option Addr × Nat × Nat) (tv : Value) : Prop where
  chg : Chg (· = mb) w0 wr
  tm : TM wr p mb pb l kv (fun _ => -1) (fun _ => 0) (fun _ => 0) (.slice none 0 0) (.slice none 0 0)
  kids : ∀ j : Nat, j < l.length → OwnI wr B (slv (kv j)) (ints (kidK l k j))
  tops : OwnI wr B tv (ints (kidK l k (-1)))
  ap : ∀ j, j < l.length → ∀ j', j' < l.length → j ≠ j' → ∀ g, (slv (kv j)).ownBlock = some g → (slv (kv j')).ownBlock ≠ some g
  apt : ∀ j, j < l.length → ∀ g, (slv (kv j)).ownBlock = some g → tv.ownBlock ≠ some g
  lt : p < B ∧ mb < B ∧ pb < B ∧ B = w0.heap.size
theorem LayR.kept {w0 x y : World} {B p mb pb k : Nat} {l : List Nd} {kv : Nat → Option Addr × Nat × Nat} {tv : Value} (h : LayR w0 x B p mb pb k l kv tv) (g : Kept x y) (h1 : 1 ≤ l.length) : LayR w0 y B p mb pb k l kv tv :=
  ⟨h.chg.trans (Chg.of_kept g), h.tm.kept g h1, fun j hj => (h.kids j hj).chg (S := fun _ => False) (Chg.of_kept g) (fun _ _ e => e), h.tops.chg (S := fun _ => False) (Chg.of_kept g) (fun _ _ e => e), h.ap, h.apt, h.lt⟩
/-- A member that none is above. -/
theorem LayR.top {w0 x y : World} {B p mb pb k : Nat} {l : List Nd} {kv : Nat → Option Addr × Nat × Nat} {tv : Value} (h : LayR w0 x B p mb pb k l kv tv) (h1 : 1 ≤ l.length) (hu : upA l k = -1)
    {g cap : Nat} {nl : Nat} (ho : OwnI y B (.slice (some ⟨g, 0, none⟩) nl cap) (ints (kidK l k (-1)) ++ [(k : Int)])) (hc : Chg (fun t => tv.ownBlock = some t) x y) (hg : tv.ownBlock = some g ∨ g = x.heap.size) :
    LayR w0 y B p mb pb (k + 1) l kv (.slice (some ⟨g, 0, none⟩) nl cap) := by
  have hlt := h.lt
  have hB : ∀ t, tv.ownBlock = some t → B ≤ t ∧ t < x.heap.size := h.tops.lt
  have n1 : ¬ tv.ownBlock = some p := fun e => by have := hB p e; omega
  have n2 : ¬ tv.ownBlock = some mb := fun e => by have := hB mb e; omega
  have n3 : ¬ tv.ownBlock = some pb := fun e => by have := hB pb e; omega
  refine ⟨h.chg.thn hc (fun j hj e => by have := hB j e; omega), h.tm.chg hc n1 n2 n3 h1, fun j hj => ?_, ?_, h.ap, fun j hj g' e => ?_, hlt⟩
  · rw [kidK_succ, if_neg (by omega)]
    exact (h.kids j hj).chg hc (fun t e e' => h.apt j hj t e e')
  · rw [kidK_succ, if_pos hu, ints_app]
    exact ho
  · have h2 := h.apt j hj g' e
    have h3 := (h.kids j hj).lt g' e
    simp only [Value.ownBlock, ne_eq, Option.some.injEq]
    rcases hg with hg | hg
    · intro e2; subst e2; exact h2 hg
    · omega
/-- A member below another one. -/
theorem LayR.kid {w0 x y : World} {B p mb pb k u : Nat} {l : List Nd} {kv : Nat → Option Addr × Nat × Nat} {tv : Value} (h : LayR w0 x B p mb pb k l kv tv) (h1 : 1 ≤ l.length) (hu : upA l k = u) (hul : u < l.length)
    {g cap : Nat} {nl : Nat} (ho : OwnI y B (.slice (some ⟨g, 0, none⟩) nl cap) (ints (kidK l k u) ++ [(k : Int)])) (hc : Chg (fun t => (slv (kv u)).ownBlock = some t) x y) (hg : (slv (kv u)).ownBlock = some g ∨ g = x.heap.size) :
    LayR w0 (y.setCell ⟨mb, u * 6 + 2, none⟩ (.slice (some ⟨g, 0, none⟩) nl cap)) B p mb pb (k + 1) l (fun j => if j = u then (some ⟨g, 0, none⟩, nl, cap) else kv j) tv := by
  have hlt := h.lt
  have hB : ∀ t, (slv (kv u)).ownBlock = some t → B ≤ t ∧ t < x.heap.size := (h.kids u hul).lt
  have n1 : ¬ (slv (kv u)).ownBlock = some p := fun e => by have := hB p e; omega
  have n2 : ¬ (slv (kv u)).ownBlock = some mb := fun e => by have := hB mb e; omega
  have n3 : ¬ (slv (kv u)).ownBlock = some pb := fun e => by have := hB pb e; omega
  have c2 : Chg (· = mb) y (y.setCell ⟨mb, u * 6 + 2, none⟩ (.slice (some ⟨g, 0, none⟩) nl cap)) := (Chg.refl (· = mb) y).setCell (p := ⟨mb, u * 6 + 2, none⟩) (.inl rfl) _
  have gB : B ≤ g := (ho.lt g rfl).1
  refine ⟨(h.chg.thn hc (fun j hj e => by have := hB j e; omega)).trans c2, (h.tm.chg hc n1 n2 n3 h1).setK u hul (some ⟨g, 0, none⟩, nl, cap), fun j hj => ?_, ?_, fun j hj j' hj' hne g' e => ?_, fun j hj g' e => ?_, hlt⟩
  · by_cases e : j = u
    · subst e
      rw [kidK_succ, if_pos hu, ints_app]
      show OwnI _ B (slv (if j = j then _ else _)) _
      rw [if_pos rfl]
      exact ho.chg c2 (fun t e => by simp [Value.ownBlock, slv] at e; omega)
    · have ek : kidK l (k + 1) j = kidK l k j := by rw [kidK_succ, if_neg (by omega)]
      rw [ek]
      show OwnI _ B (slv (if j = u then _ else _)) _
      rw [if_neg e]
      exact ((h.kids j hj).chg hc (fun t e1 e2 => h.ap j hj u hul e t e1 e2)).chg c2 (fun t e1 => by have := ((h.kids j hj).lt t e1).1; omega)
  · rw [kidK_succ, if_neg (by omega)]
    exact (h.tops.chg hc (fun t e1 e2 => h.apt u hul t e2 e1)).chg c2 (fun t e1 => by have := (h.tops.lt t e1).1; omega)
  · by_cases e1 : j = u
    · subst e1
      have e2 : j' ≠ j := fun x => hne x.symm
      simp only [if_true, slv, Value.ownBlock, Option.some.injEq] at e
      simp only [e2, if_false]
      intro e3
      subst e
      rcases hg with hg | hg
      · exact h.ap j hj j' hj' hne g hg e3
      · have := ((h.kids j' hj').lt g e3).2; omega
    · simp only [e1, if_false] at e
      by_cases e2 : j' = u
      · subst e2
        simp only [if_true, slv, Value.ownBlock, ne_eq, Option.some.injEq]
        intro e3
        subst e3
        rcases hg with hg | hg
        · exact h.ap j hj j' hj' hne g e hg
        · have := ((h.kids j hj).lt g e).2; omega
      · simp only [e2, if_false]
        exact h.ap j hj j' hj' hne g' e
  · by_cases e1 : j = u
    · subst e1
      simp only [if_true, slv, Value.ownBlock, Option.some.injEq] at e
      intro e3
      subst e
      rcases hg with hg | hg
      · exact h.apt j hj g hg e3
      · have := (h.tops.lt g e3).2; omega
    · simp only [e1, if_false] at e
      exact h.apt j hj g' e
end Go.Proofs.Ytlcjnldkldkffaa
