/- moietylaw09.node: the node of an act. -/
import Derived.Test.YtjkbhaplngnniaaDoorAr12
namespace Go.Proofs.YtjkbhaplngnniaaDoor
open Go.RowKit
set_option linter.unusedSimpArgs false
set_option linter.unusedVariables false

end Go.Proofs.YtjkbhaplngnniaaDoor
