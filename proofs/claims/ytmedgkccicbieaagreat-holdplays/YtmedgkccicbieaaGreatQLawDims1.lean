/- moietylaw06.small. -/
import Derived.Test.YtmedgkccicbieaaGreatQRefDims6
namespace Go.Proofs.YtmedgkccicbieaaGreat
open Go.RowKit Go.Maps
set_option linter.unusedSimpArgs false
set_option linter.unusedVariables false

end Go.Proofs.YtmedgkccicbieaaGreat
