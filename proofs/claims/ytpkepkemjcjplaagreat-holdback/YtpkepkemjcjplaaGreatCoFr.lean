/- coord: what the frames of the rows want. -/
import Derived.Test.YtpkepkemjcjplaaGreatLawCo2
import Derived.Test.YtpkepkemjcjplaaGreatCatOpen
namespace Go.Proofs.YtpkepkemjcjplaaGreat
open Go.RowKit Go.Maps
theorem msA_le {l : List ByteArray} (h : ∀ y ∈ l, y.size ≤ maxLen) : ∀ i, i < l.length → (msA l i).size ≤ maxLen := fun i hi => by
  unfold msA
  rw [List.getD_eq_getElem?_getD, List.getElem?_eq_getElem hi]
  exact h _ (List.getElem_mem hi)
end Go.Proofs.YtpkepkemjcjplaaGreat
