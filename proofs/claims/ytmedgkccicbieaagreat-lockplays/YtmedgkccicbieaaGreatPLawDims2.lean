/- moietylaw06.known. -/
import Derived.Test.YtmedgkccicbieaaGreatPRefDims9BB
import Derived.Test.YtmedgkccicbieaaGreatPRefDims10
namespace Go.Proofs.YtmedgkccicbieaaGreat
open Go.RowKit Go.Maps
set_option linter.unusedSimpArgs false
set_option linter.unusedVariables false

def k6 : List Nd := [(⟨#[97, 108, 108]⟩, -1), (⟨#[97]⟩, 0), (⟨#[98]⟩, 0)]
theorem k6_good : Good k6 := by unfold Good; decide +kernel
theorem k6_ns (w : World) (t : TypeId) : Ns (w.alloc (.cells #[.string ⟨#[97, 108, 108]⟩, .int .i64 (-1), .string ⟨#[97]⟩, .int .i64 0, .string ⟨#[98]⟩, .int .i64 0] t)) (some ⟨w.heap.size, 0, none⟩) 3 k6 := by
  refine ⟨rfl, by unfold maxLen; omega, ?_, ?_, fun _ => ⟨_, _, rfl, by simp, fun i hi => ?_⟩⟩
  · intro i hi
    have : i = 0 ∨ i = 1 ∨ i = 2 := by have : k6.length = 3 := rfl; omega
    rcases this with rfl | rfl | rfl <;> (unfold maxLen; decide +kernel)
  · intro i hi
    have : i = 0 ∨ i = 1 ∨ i = 2 := by have : k6.length = 3 := rfl; omega
    unfold isI
    rcases this with rfl | rfl | rfl <;> decide +kernel
  · have : i = 0 ∨ i = 1 ∨ i = 2 := by omega
    rcases this with rfl | rfl | rfl <;> simp [k6, nmA, upA]
theorem one_ss {w : World} {g : Nat} {s : ByteArray} (h1 : w.cell? ⟨g, 0, none⟩ = some (.string s)) : Ss w (some ⟨g, 0, none⟩) 1 [s] := by
  refine ⟨rfl, by unfold maxLen; omega, fun _ => ⟨_, _, rfl, cell_lt h1, fun k hk => ?_⟩⟩
  have : k = 0 := by omega
  subst this
  exact h1
theorem new_cell (w : World) (vs : Array Value) (t : TypeId) (g i : Nat) (v : Value) (hg : g = w.heap.size) (hv : vs[i]? = some v) : (w.alloc (.cells vs t)).cell? ⟨g, i, none⟩ = some v := by
  subst hg
  simp [hv]
end Go.Proofs.YtmedgkccicbieaaGreat
