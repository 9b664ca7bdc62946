/- stub · coord: slices.Values, AppendSeq, Collect, Sort, Sorted at numbers. · coord: slices.AppendSeq, Collect, Sort, Sorted at numbers. · coord: rows of cells that are made one by one; what a leaf is within. · coord: Over. -/
import Derived.Test.YtmedgkccicbieaaGreatChecked
import Derived.Test.YtmedgkccicbieaaGreatPCo18
import Derived.Lib.SlKeysI
import Derived.Deep.DeepMust

namespace Go.Proofs.YtmedgkccicbieaaGreat
open Go.RowKit Go.Maps Go.Shelf
set_option linter.unusedSimpArgs false
set_option linter.unusedVariables false
attribute [local go_sem] Oper.semAt_some

end Go.Proofs.YtmedgkccicbieaaGreat
namespace Go.Proofs.YtmedgkccicbieaaGreat
open Go.RowKit Go.Maps Go.Shelf
set_option linter.unusedSimpArgs false
set_option linter.unusedVariables false

end Go.Proofs.YtmedgkccicbieaaGreat
namespace Go.Proofs.YtmedgkccicbieaaGreat
open Go.RowKit Go.Maps Go.Shelf
set_option linter.unusedSimpArgs false
set_option linter.unusedVariables false

theorem ownsRow_base {w : World} {B B' : Nat} {e : TypeId} {sz : Nat} {v : Value} {n : Nat} {xs : List Value} (h : w.ownsRow B e sz v n xs) (hB : B' ≤ B) : w.ownsRow B' e sz v n xs := by
  obtain ⟨h0, h1 | ⟨g, cap, cur, hv, hb, r⟩⟩ := h
  · exact ⟨h0, .inl h1⟩
  · exact ⟨h0, .inr ⟨g, cap, cur, hv, Nat.le_trans hB hb, r⟩⟩
theorem ownsRow_form {w : World} {B : Nat} {e : TypeId} {sz : Nat} {v : Value} {n : Nat} {xs : List Value} (h : w.ownsRow B e sz v n xs) : ∃ a c, v = .slice a n c := by
  obtain ⟨_, ⟨h1, hz⟩ | ⟨g, cap, cur, h1, _⟩⟩ := h
  · exact ⟨none, 0, by rw [h1, hz]⟩
  · exact ⟨_, _, h1⟩
structure UG {α : Type} (e : TypeId) (sz N : Nat) (WA : World) (enc : α → List Value) (pre : List α) (X : World) : Prop where
  kp : Kept WA X
  big : WA.heap.size + N ≤ X.heap.size
  bx : ∃ v, X.cell? ⟨WA.heap.size, 0, none⟩ = some v ∧ X.ownsRow (WA.heap.size + N) e sz v pre.length (pre.flatMap enc)
  fz : X.frozen? ⟨WA.heap.size, 0, none⟩ = false
section
variable {α : Type} {e : TypeId} {sz N : Nat} {WA X Y Z : World} {enc : α → List Value} {pre : List α}
theorem UG.chg {S : Nat → Prop} (h : UG e sz N WA enc pre X) (k : Chg S X Y) (hS : ∀ j, S j → WA.heap.size < j ∧ j < WA.heap.size + N) : UG e sz N WA enc pre Y := by
  obtain ⟨v, h1, h2⟩ := h.bx
  have n0 : ¬ S WA.heap.size := fun e => by have := hS _ e; omega
  exact ⟨Chg.kept h.kp k (fun j e => by have := hS j e; omega), Nat.le_trans h.big k.size, ⟨v, k.cellp h1 n0, ownsRow_chg h2 k (fun g hg e => by have h3 := hS g e; have h4 := (World.ownsRow.lt h2 g hg).1; omega)⟩, (k.frozen (p := ⟨WA.heap.size, 0, none⟩) (cell_lt h1) n0).trans h.fz⟩
theorem UG.keep (h : UG e sz N WA enc pre X) (k : Kept X Y) : UG e sz N WA enc pre Y := h.chg (S := fun _ => False) (Chg.of_kept k) (fun _ e => e.elim)
theorem UG.put {b : Nat} {o : Obj} (h : UG e sz N WA enc pre X) (hb : WA.heap.size < b ∧ b < WA.heap.size + N) : UG e sz N WA enc pre (X.putObj b o) := h.chg (chg_put X b o) (fun j e => by subst e; exact hb)
theorem UG.next (hN : 0 < N) {x : α} (h : UG e sz N WA enc pre X) (k : Kept X Y) {v : Value} (hv : X.cell? ⟨WA.heap.size, 0, none⟩ = some v) (hg : Chg (fun g => v.ownBlock = some g) Y Z) {v' : Value} (ho : Z.ownsRow (WA.heap.size + N) e sz v' (pre.length + 1) (pre.flatMap enc ++ enc x)) : UG e sz N WA enc (pre ++ [x]) (Z.setCell ⟨WA.heap.size, 0, none⟩ v') ∧ Chg (fun j => j = WA.heap.size ∨ WA.heap.size + N ≤ j) X (Z.setCell ⟨WA.heap.size, 0, none⟩ v') := by
  obtain ⟨v0, h1, h2⟩ := h.bx
  rw [h1] at hv
  obtain rfl : v0 = v := by simpa using hv
  have e0 := k.cellp h1
  have hb : ∀ g, v0.ownBlock = some g → WA.heap.size + N ≤ g := fun g e => (World.ownsRow.lt h2 g e).1
  have n0 : ¬ v0.ownBlock = some WA.heap.size := fun e => by have := hb _ e; omega
  have c1 : Chg (fun j => j = WA.heap.size ∨ WA.heap.size + N ≤ j) X Z := (Chg.of_kept k).trans (hg.mono (fun j hj e => .inr (hb j e)))
  have c2 : Chg (fun j => j = WA.heap.size ∨ WA.heap.size + N ≤ j) X (Z.setCell ⟨WA.heap.size, 0, none⟩ v') := c1.setCell (p := ⟨WA.heap.size, 0, none⟩) (.inl (.inl rfl)) _
  have z0 := hg.cellp e0 n0
  have f0 : Z.frozen? ⟨WA.heap.size, 0, none⟩ = false := ((hg.frozen (p := ⟨WA.heap.size, 0, none⟩) (cell_lt e0) n0).trans (k.frozen (p := ⟨WA.heap.size, 0, none⟩) (cell_lt h1))).trans h.fz
  refine ⟨⟨Chg.kept h.kp c2 (fun j e => by omega), Nat.le_trans h.big c2.size, ⟨v', World.cell?_setCell_same _ _ _ z0, ?_⟩, by rw [World.frozen?_setCell]; exact f0⟩, c2⟩
  rw [List.flatMap_append, List.flatMap_singleton, List.length_append, List.length_singleton]
  refine ownsRow_chg ho (S := fun j => j = WA.heap.size) (Chg.setCell (S := fun j => j = WA.heap.size) (Chg.refl _ Z) (p := ⟨WA.heap.size, 0, none⟩) (.inl rfl) _) (fun g hg' e => ?_)
  have := (World.ownsRow.lt ho g hg').1
  omega
end
section
variable {w : World} {s p : Nat} {ds : List Dm} {ms : List ByteArray} {tp : Nat → Nat} {rv : Nat → Option Addr × Nat}
end
end Go.Proofs.YtmedgkccicbieaaGreat
namespace Go.Proofs.YtmedgkccicbieaaGreat
open Go.RowKit Go.Maps Go.Shelf
set_option linter.unusedSimpArgs false
set_option linter.unusedVariables false

section
variable {w : World} {s p : Nat} {ds : List Dm} {ms : List ByteArray} {tp : Nat → Nat} {rv : Nat → Option Addr × Nat}
end
end Go.Proofs.YtmedgkccicbieaaGreat
