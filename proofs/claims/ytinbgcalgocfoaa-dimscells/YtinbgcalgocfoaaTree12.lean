/- Lists of places held against each other; what must come of fixed calls (layer 5). -/
import Derived.Test.YtinbgcalgocfoaaTree11
namespace Go.Proofs.Ytinbgcalgocfoaa
open Go.RowKit Go.Maps
set_option linter.unusedSimpArgs false
set_option linter.unusedVariables false

theorem ints_differ {k : Nat} {x y : List Int} (hl : x.length = y.length) (hk : k < x.length) (h : x.getD k 0 ≠ y.getD k 0) : x ≠ y := fun e => h (by rw [e])
theorem ints_alike {x y : List Int} (hl : x.length = y.length) (h : ∀ j, j < x.length → x.getD j 0 = y.getD j 0) : x = y := by
  apply List.ext_getElem hl
  intro j h1 h2
  have := h j h1
  simpa [List.getD, List.getElem?_eq_getElem h1, List.getElem?_eq_getElem h2] using this
def k5 : List Nd := [(⟨#[97, 108, 108]⟩, -1), (⟨#[97]⟩, 0), (⟨#[98]⟩, 0), (⟨#[99]⟩, 1)]
theorem k5_good : Good k5 := by unfold Good; decide +kernel
theorem k5_new : NewIs k5 0 0 := .inr ⟨by decide, .inl ⟨k5_good, rfl, rfl⟩⟩
theorem k5_ord : ints (ordN k5) = [0, 1, 3, 2] := by decide +kernel
theorem k5_lvs : ints (lvsN k5) = [3, 2] := by decide +kernel
theorem k5_from : fromI k5 1 = 0 ∧ toI k5 1 = 1 := by decide +kernel
theorem k5_find : findI k5 ⟨#[99]⟩ = 3 := by decide +kernel
theorem k5_ns (w : World) (t : TypeId) : Ns (w.alloc (.cells #[.string ⟨#[97, 108, 108]⟩, .int .i64 (-1), .string ⟨#[97]⟩, .int .i64 0, .string ⟨#[98]⟩, .int .i64 0, .string ⟨#[99]⟩, .int .i64 1] t)) (some ⟨w.heap.size, 0, none⟩) 4 k5 := by
  refine ⟨rfl, by unfold maxLen; omega, ?_, ?_, fun _ => ⟨_, _, rfl, by simp, fun i hi => ?_⟩⟩
  · intro i hi
    have : i = 0 ∨ i = 1 ∨ i = 2 ∨ i = 3 := by have : k5.length = 4 := rfl; omega
    rcases this with rfl | rfl | rfl | rfl <;> (unfold maxLen; decide +kernel)
  · intro i hi
    have : i = 0 ∨ i = 1 ∨ i = 2 ∨ i = 3 := by have : k5.length = 4 := rfl; omega
    unfold isI
    rcases this with rfl | rfl | rfl | rfl <;> decide +kernel
  · have : i = 0 ∨ i = 1 ∨ i = 2 ∨ i = 3 := by omega
    rcases this with rfl | rfl | rfl | rfl <;> simp [k5, nmA, upA]

end Go.Proofs.Ytinbgcalgocfoaa
