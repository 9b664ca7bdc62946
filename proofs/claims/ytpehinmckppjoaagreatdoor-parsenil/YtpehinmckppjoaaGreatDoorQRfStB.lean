/- The definition's words of a line: parts, word, Words, Empty. · The definition's words of a line: Words, Empty. · A range over a function whose body may return: the law for the caller; regions that draw, inside a round. -/
import Derived.Test.YtpehinmckppjoaaGreatDoorQLex3
import Derived.BigRegion
import Derived.RangeFuncNested
import Derived.RangeFuncBound
import Derived.RangeFuncCalls
import Derived.RangeFuncLeaves
import Derived.Shelf.Abstract
import Derived.Shelf.RegionOpen
import Derived.WalkKit
import Derived.OwnWalkIn
import Derived.TacticsInMore
import Derived.LoopNIn
import Derived.LoopIn
import Derived.OrdersHeld
import Derived.Deep.RegionHeld
import Derived.Test.YtpehinmckppjoaaGreatDoorChecked
namespace Go.Proofs.YtpehinmckppjoaaGreatDoor
open Go Go.RowKit Go.Maps
set_option linter.unusedSimpArgs false
set_option linter.unusedVariables false

end Go.Proofs.YtpehinmckppjoaaGreatDoor
namespace Go.Proofs.YtpehinmckppjoaaGreatDoor
open Go Go.RowKit Go.Maps
set_option linter.unusedSimpArgs false
set_option linter.unusedVariables false

theorem extract_bstr (s : ByteArray) (i k : Nat) (hk : k ≤ s.size) : s.extract i k = bstr ((s.data.toList.take k).drop i) := by
  refine data_inj ?_
  rw [Lib.extract_data, bstr_data, List.drop_take]
/-- Words of a line in a row of the call's own. -/
def WordsP (e0 : TypeId) (s : ByteArray) (w : World) (e : Ending) (w' : World) : Prop := ∃ v l, e = .returned v ∧ OwnW e0 w' w.heap.size v l ∧ l.map cor = (tks s.data.toList).map mkc ∧ Kept w w'
end Go.Proofs.YtpehinmckppjoaaGreatDoor
namespace Go.Proofs.YtpehinmckppjoaaGreatDoor
open Go Go.RowKit
set_option linter.unusedSimpArgs false
set_option linter.unusedVariables false

section
variable {P : Program} {l n : Nat} {Q : Exit → Act → World → Prop}
end
/-- The loop's record and the block of deferred calls lie as they lay. -/
def Recs (d : Nat) (R : Obj) (X : World) : Prop := X.heap[d + 1]? = some R ∧ X.heap[d]? = some (.deferred (some []))
end Go.Proofs.YtpehinmckppjoaaGreatDoor
