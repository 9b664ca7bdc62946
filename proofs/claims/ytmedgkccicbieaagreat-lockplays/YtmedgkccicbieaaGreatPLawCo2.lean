/- moietylaw07.known. -/
import Derived.Test.YtmedgkccicbieaaGreatPCoM1
namespace Go.Proofs.YtmedgkccicbieaaGreat
open Go.RowKit Go.Maps
set_option linter.unusedSimpArgs false
set_option linter.unusedVariables false

def ds7 : List Dm := [(⟨#[120]⟩, k6)]
def ms7 : List ByteArray := [⟨#[109]⟩]
theorem k7_dss {w : World} {q g : Nat} (h1 : w.cell? ⟨g, 0, none⟩ = some (.string ⟨#[120]⟩)) (h2 : w.cell? ⟨g, 1, none⟩ = some (.slice (some ⟨q, 0, none⟩) 3 3)) (hn : Ns w (some ⟨q, 0, none⟩) 3 k6) : Dss w (some ⟨g, 0, none⟩) 1 ds7 (fun _ => (some ⟨q, 0, none⟩, 3, 3)) := by
  refine ⟨rfl, by unfold maxLen; omega, fun k hk => ?_, fun k hk => ?_, fun _ => ⟨_, _, rfl, cell_lt h1, fun k hk => ?_⟩⟩
  · have : k = 0 := by omega
    subst this
    unfold maxLen; decide +kernel
  · have : k = 0 := by omega
    subst this
    exact hn
  · have : k = 0 := by omega
    subst this
    exact ⟨h1, h2⟩
theorem k7_sz : ∀ i, i < ms7.length → (msA ms7 i).size ≤ maxLen := fun i hi => by
  have : i = 0 := by have : ms7.length = 1 := rfl; omega
  subst this
  unfold maxLen
  decide +kernel
def f7 (i t : Nat) : Int := if i = 1 ∧ t = 1 then 2 else 0
end Go.Proofs.YtmedgkccicbieaaGreat
