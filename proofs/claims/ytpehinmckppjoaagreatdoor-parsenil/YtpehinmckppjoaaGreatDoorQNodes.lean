/- A slice of members that came in, as the frame reads it. -/
import Derived.Test.YtpehinmckppjoaaGreatDoorQTree4B
import Derived.Deep.SlicePairs
import Derived.OpenShut
namespace Go.Proofs.YtpehinmckppjoaaGreatDoor
open Go.RowKit
set_option linter.unusedSimpArgs false
set_option linter.unusedVariables false

end Go.Proofs.YtpehinmckppjoaaGreatDoor
