/- moietylaw09.node: the node of an act. -/
import Derived.Test.YtimnbbpiapjfhaaDoorAr12
namespace Go.Proofs.YtimnbbpiapjfhaaDoor
open Go.RowKit
set_option linter.unusedSimpArgs false
set_option linter.unusedVariables false

end Go.Proofs.YtimnbbpiapjfhaaDoor
