/- ViewNil, as the kernel evaluates it: whatever its arguments are. -/
import Derived.Test.YtkbcmjhmlmiagaaGreatDoorEvFr
import Derived.Test.YtkbcmjhmlmiagaaGreatDoorChecked
import Derived.KernelRfl
namespace Go.Proofs.YtkbcmjhmlmiagaaGreatDoor
open Go.RowKit Go.Ev
set_option linter.unusedVariables false
def h0 : T AB := T.leaf.set 0 (roB Lib.deBruijn64tab)
def sg : List Sg := [.agg 5, .one]
set_option maxRecDepth 1000000 in
theorem evaluated : okR (runF Tryz.prog (addI 86) 3 (avs 0 sg) h0 20000) = true := by kernel_rfl
theorem mixed : Tryz.prog.follows .mixedOrders = true := by kernel_rfl
theorem known_ok : KnownOk Tryz.prog (addI 86) := addI_ok Tryz.func86 (by kernel_rfl) (by kernel_rfl) (by kernel_rfl) (by kernel_rfl)
theorem law_ViewNil {vs : List Value} (hf : FitsL sg vs) (w : World) (hV : Vars w) : Calls Tryz.prog 3 vs.toArray w fun e w' => e = .returned (.bool true) ∧ Below w.heap.size w w' := by
  have st : St Tryz.prog w (Env.start fun k => (cellsL vs)[k]?) h0 256 w := by
    refine St.start (fun k v q => cells_flat hf v (List.mem_of_getElem? q)) fun b ab q => ?_
    unfold h0 at q
    rw [T.get_set] at q
    split at q
    · rename_i hb; subst hb; cases q
      exact ⟨by omega, ⟨_, _, rfl⟩, tab_is (by decide) hV⟩
    · rw [T.get_leaf] at q; cases q
  exact runF_calls known_ok mixed st (avs_is hf fun i x q => by rw [Nat.zero_add]; exact q) evaluated
end Go.Proofs.YtkbcmjhmlmiagaaGreatDoor
