/- coord: what the rows that play with both spaces share. -/
import Derived.Test.YtmmdfpafkmhgcaaGreatCoFr
import Derived.Test.YtmmdfpafkmhgcaaGreatRefCo7
namespace Go.Proofs.YtmmdfpafkmhgcaaGreat
open Go.RowKit Go.Maps
set_option linter.unusedSimpArgs false
set_option linter.unusedVariables false

section
variable {W0 X Y Z : World} {r q : Nat} {ds : List Dm} {ms : List ByteArray} {rt : Nat → Nat} {y4 y5 : Value} {pp : Option (Nat × Nat)}
theorem rr_keep (h : RR W0 r q ds y4 y5 pp X Y) (k : Kept Y Z) : RR W0 r q ds y4 y5 pp X Z := by
  obtain ⟨⟨p3, h3, h4⟩, h5⟩ := h
  exact ⟨⟨p3, h3.keep k, h4⟩, h5.trans (Chg.of_kept k)⟩
theorem rr_kp (h : RR W0 r q ds y4 y5 pp X Y) : Kept W0 Y := h.1.choose_spec.1.kp
/-- The definition's space as open made it. -/
theorem rq_open (W0 : World) (q : Nat) (ds : List Dm) : RQ W0 W0.heap.size q ds (.slice none 0 0) (.slice none 0 0) none (W0.alloc (.cells #[.pointer (some ⟨q, 0, none⟩), .slice none 0 0, .slice none 0 0, .slice none 0 0, .slice none 0 0, .slice none 0 0] 66)) :=
  ⟨(Kept.refl _).alloc _, new_cell _ _ _ _ 0 _ rfl rfl, new_cell _ _ _ _ 4 _ rfl rfl, new_cell _ _ _ _ 5 _ rfl rfl, fun k => new_frozen _ _ _ rfl k, fun _ => ⟨new_cell _ _ _ _ 1 _ rfl rfl, new_cell _ _ _ _ 2 _ rfl rfl, new_cell _ _ _ _ 3 _ rfl rfl⟩, fun B H e => by cases e⟩
end
/-- A cell's five numbers in a block. -/
def C5 (cb : Nat) (cm : Int) (at_ : Nat → Int) (Y : World) : Prop := Y.cell? ⟨cb, 0, none⟩ = some (.int .i64 cm) ∧ Y.cell? ⟨cb, 1, none⟩ = some (.int .i64 (at_ 0)) ∧ Y.cell? ⟨cb, 2, none⟩ = some (.int .i64 (at_ 1)) ∧ Y.cell? ⟨cb, 3, none⟩ = some (.int .i64 (at_ 2)) ∧ Y.cell? ⟨cb, 4, none⟩ = some (.int .i64 (at_ 3))
theorem C5.kept {cb : Nat} {cm : Int} {at_ : Nat → Int} {X Y : World} (h : C5 cb cm at_ X) (k : Kept X Y) : C5 cb cm at_ Y := ⟨k.cellp h.1, k.cellp h.2.1, k.cellp h.2.2.1, k.cellp h.2.2.2.1, k.cellp h.2.2.2.2⟩
theorem C5.chg {cb r : Nat} {cm : Int} {at_ : Nat → Int} {X Y : World} (h : C5 cb cm at_ X) (k : Chg (fun j => j = r) X Y) (n : cb ≠ r) : C5 cb cm at_ Y := ⟨k.cellp h.1 n, k.cellp h.2.1 n, k.cellp h.2.2.1 n, k.cellp h.2.2.2.1 n, k.cellp h.2.2.2.2 n⟩
theorem C5.new (X : World) (cm : Int) (at_ : Nat → Int) (t : TypeId) : C5 X.heap.size cm at_ (X.alloc (.cells #[.int .i64 cm, .int .i64 (at_ 0), .int .i64 (at_ 1), .int .i64 (at_ 2), .int .i64 (at_ 3)] t)) := (cell_box X cm at_ t rfl _ (Kept.refl _)).1
end Go.Proofs.YtmmdfpafkmhgcaaGreat
