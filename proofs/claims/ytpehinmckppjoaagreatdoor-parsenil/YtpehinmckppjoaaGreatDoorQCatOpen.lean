/- A catalogue and a cell that came in, as the frame reads them. -/
import Derived.Test.YtpehinmckppjoaaGreatDoorQNodes
import Derived.Test.YtpehinmckppjoaaGreatDoorQDims11
import Derived.Deep.Strs
import Derived.Lib.SmallJoins
import Derived.Laws.IdiomArrays
import Derived.WideShapes
namespace Go.Proofs.YtpehinmckppjoaaGreatDoor
open Go.RowKit Go.WideShapes
set_option linter.unusedSimpArgs false
set_option linter.unusedVariables false

section
variable {H : Type} {enc : TypeId × Value → H} {w : World} {base : Nat} {spare : Nat → Bool} {held : Bool} {fuel : Nat} {x : DataW H × List MemPlace}
end
end Go.Proofs.YtpehinmckppjoaaGreatDoor
