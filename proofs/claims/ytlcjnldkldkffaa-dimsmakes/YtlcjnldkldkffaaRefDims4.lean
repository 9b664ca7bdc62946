/- The reference's Leaf. -/
import Derived.Test.YtlcjnldkldkffaaRefDims3B
namespace Go.Proofs.Ytlcjnldkldkffaa
open Go.RowKit Go.Maps
set_option linter.unusedSimpArgs false
set_option linter.unusedVariables false

end Go.Proofs.Ytlcjnldkldkffaa
