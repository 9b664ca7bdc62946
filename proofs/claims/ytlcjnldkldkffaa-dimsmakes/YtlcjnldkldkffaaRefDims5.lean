/- The reference's Cell. -/
import Derived.Test.YtlcjnldkldkffaaRefDims4
namespace Go.Proofs.Ytlcjnldkldkffaa
open Go.RowKit Go.Maps
set_option linter.unusedSimpArgs false
set_option linter.unusedVariables false

theorem idxI_ge (l : List ByteArray) (s : ByteArray) : -1 ≤ idxI l s := by unfold idxI; split <;> omega
theorem findI_ge (l : List Nd) (s : ByteArray) : -1 ≤ findI l s := by unfold findI; split <;> omega
end Go.Proofs.Ytlcjnldkldkffaa
