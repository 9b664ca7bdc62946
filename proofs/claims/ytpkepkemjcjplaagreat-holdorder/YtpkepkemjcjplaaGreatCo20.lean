/- coord: slices.Values, AppendSeq, Collect, Sort, Sorted at numbers. · coord: slices.AppendSeq, Collect, Sort, Sorted at numbers. -/
import Derived.Test.YtpkepkemjcjplaaGreatCo18
import Derived.Test.YtpkepkemjcjplaaGreatIntSort
import Derived.Lib.SlKeysI
import Derived.Deep.DeepMust
namespace Go.Proofs.YtpkepkemjcjplaaGreat
open Go.RowKit Go.Maps Go.Shelf
set_option linter.unusedSimpArgs false
set_option linter.unusedVariables false
attribute [local go_sem] Oper.semAt_some

end Go.Proofs.YtpkepkemjcjplaaGreat
namespace Go.Proofs.YtpkepkemjcjplaaGreat
open Go.RowKit Go.Maps Go.Shelf
set_option linter.unusedSimpArgs false
set_option linter.unusedVariables false

/-- The numbers, rising. -/
def sortI (l : List Int) : List Int := l.mergeSort fun x y => decide (x ≤ y)
theorem sortI_len (l : List Int) : (sortI l).length = l.length := List.length_mergeSort _
theorem sortI_mem {l : List Int} {x : Int} : x ∈ sortI l ↔ x ∈ l := List.mem_mergeSort
end Go.Proofs.YtpkepkemjcjplaaGreat
