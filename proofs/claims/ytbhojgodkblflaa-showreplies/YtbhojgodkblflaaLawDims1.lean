/- moietylaw06.small. -/
import Derived.Test.YtbhojgodkblflaaRefDims6
namespace Go.Proofs.Ytbhojgodkblflaa
open Go.RowKit Go.Maps
set_option linter.unusedSimpArgs false
set_option linter.unusedVariables false

def SmallC (ds : List Dm) (m : Nat) : Prop := ds.length ≤ 20 ∧ m ≤ 20 ∧ ∀ k, k < ds.length → (dmL ds k).length ≤ 60
def SmallPost (w : World) (ds : List Dm) (m : Nat) (e : Ending) (w' : World) : Prop := ∃ r, e = .returned (.bool r) ∧ (r = true ↔ SmallC ds m) ∧ Kept w w'
end Go.Proofs.Ytbhojgodkblflaa
