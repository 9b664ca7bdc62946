/- coord: slices.Values, AppendSeq, Collect, Sort, Sorted at numbers. · coord: slices.AppendSeq, Collect, Sort, Sorted at numbers. -/
import Derived.Test.YtmedgkccicbieaaGreatQCo18
import Derived.Test.YtmedgkccicbieaaGreatQIntSort
import Derived.Lib.SlKeysI
import Derived.Deep.DeepMust
namespace Go.Proofs.YtmedgkccicbieaaGreat
open Go.RowKit Go.Maps Go.Shelf
set_option linter.unusedSimpArgs false
set_option linter.unusedVariables false
attribute [local go_sem] Oper.semAt_some

end Go.Proofs.YtmedgkccicbieaaGreat
namespace Go.Proofs.YtmedgkccicbieaaGreat
open Go.RowKit Go.Maps Go.Shelf
set_option linter.unusedSimpArgs false
set_option linter.unusedVariables false

end Go.Proofs.YtmedgkccicbieaaGreat
