/- hold: Add. · hold: Add at nothing; what Add refuses. · hold: what Add refuses. · hold: Drop. -/
import Derived.Test.YtmedgkccicbieaaGreatQHoldA
namespace Go.Proofs.YtmedgkccicbieaaGreat
open Go.RowKit Go.Maps
set_option linter.unusedSimpArgs false
set_option linter.unusedVariables false

theorem Cq.take {w : World} {a : Option Addr} {l : List Cl} (h : Cq w a l) (i : Nat) : Cq w a (l.take i) := by
  refine ⟨fun hp => ?_⟩
  have hl : 0 < l.length := by rw [List.length_take] at hp; omega
  obtain ⟨b, o, h1, h2, h3⟩ := h.cells hl
  refine ⟨b, o, h1, h2, fun j hj t ht u hu => h3 j (by rw [List.length_take] at hj; omega) t ht u ?_⟩
  have e : clA (l.take i) j = clA l j := by rw [clA_get hj, clA_get (by rw [List.length_take] at hj; omega), List.getElem_take]
  rw [← e]; exact hu
theorem Cq.drop {w : World} {b o : Nat} {l : List Cl} (h : Cq w (some ⟨b, o, none⟩) l) (i : Nat) : Cq w (some ⟨b, o + i * 5, none⟩) (l.drop i) := by
  refine ⟨fun hp => ?_⟩
  rw [List.length_drop] at hp
  obtain ⟨b', o', h1, h2, h3⟩ := h.cells (by omega)
  cases h1
  refine ⟨b, o + i * 5, rfl, h2, fun j hj t ht u hu => ?_⟩
  rw [List.length_drop] at hj
  have e : clA (l.drop i) j = clA l (i + j) := by rw [clA_get (by rw [List.length_drop]; omega), clA_get (by omega), List.getElem_drop]
  rw [e] at hu
  have := h3 (i + j) (by omega) t ht u hu
  rw [show o + (i + j) * 5 + t = o + i * 5 + j * 5 + t by omega] at this
  exact this
theorem Cq.none (w : World) (a : Option Addr) : Cq w a [] := ⟨fun hp => absurd hp (by simp)⟩
/-- The three rows that Add joins. -/
def p3 {α : Type} (a b c : α) (k : Nat) : α := if k = 0 then a else if k = 1 then b else c
section
variable {w : World} {s p : Nat} {ds : List Dm} {ms : List ByteArray} {tp : Nat → Nat} {rv : Nat → Option Addr × Nat}
end
end Go.Proofs.YtmedgkccicbieaaGreat
namespace Go.Proofs.YtmedgkccicbieaaGreat
open Go.RowKit Go.Maps
set_option linter.unusedSimpArgs false
set_option linter.unusedVariables false

section
variable {w : World} {s p : Nat} {ds : List Dm} {ms : List ByteArray} {tp : Nat → Nat} {rv : Nat → Option Addr × Nat}
end
end Go.Proofs.YtmedgkccicbieaaGreat
namespace Go.Proofs.YtmedgkccicbieaaGreat
open Go.RowKit Go.Maps
set_option linter.unusedSimpArgs false
set_option linter.unusedVariables false

/-- Nothing is told, but why. -/
def HdNo (w : World) (why : Int) (e : Ending) (w' : World) : Prop := e = .returned (.tuple #[hdV none 0 0, .int .i64 why]) ∧ Kept w w'
section
variable {w : World} {s p : Nat} {ds : List Dm} {ms : List ByteArray} {tp : Nat → Nat} {rv : Nat → Option Addr × Nat}
end
end Go.Proofs.YtmedgkccicbieaaGreat
namespace Go.Proofs.YtmedgkccicbieaaGreat
open Go.RowKit Go.Maps
set_option linter.unusedSimpArgs false
set_option linter.unusedVariables false

section
variable {w : World} {s p : Nat} {ds : List Dm} {ms : List ByteArray} {tp : Nat → Nat} {rv : Nat → Option Addr × Nat}
end
end Go.Proofs.YtmedgkccicbieaaGreat
