/- DimsMakes, as the frame asks it. -/
import Derived.Test.YtlcjnldkldkffaaLawDimsMakes
import Derived.Test.YtlcjnldkldkffaaCatOpen
namespace Go.Proofs.Ytlcjnldkldkffaa
open Go.RowKit Go.Maps
theorem msA_le {l : List ByteArray} (h : ∀ y ∈ l, y.size ≤ maxLen) : ∀ i, i < l.length → (msA l i).size ≤ maxLen := fun i hi => by
  have e : msA l i = l[i] := by unfold msA; rw [List.getD_eq_getElem?_getD, List.getElem?_eq_getElem hi]; rfl
  rw [e]
  exact h _ (List.getElem_mem hi)
end Go.Proofs.Ytlcjnldkldkffaa
