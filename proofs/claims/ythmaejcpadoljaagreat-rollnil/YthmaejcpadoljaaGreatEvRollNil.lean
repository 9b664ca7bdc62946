/- RollNil, as the kernel evaluates it: whatever its arguments are. -/
import Derived.Test.YthmaejcpadoljaaGreatEvP30
import Derived.Test.YthmaejcpadoljaaGreatChecked
import Derived.KernelRfl
namespace Go.Proofs.YthmaejcpadoljaaGreat
open Go.RowKit Go.Ev
set_option linter.unusedVariables false
def h0 : T AB := T.leaf
def sg : List Sg := [.one]
set_option maxRecDepth 1000000 in
theorem evaluated : okR (runF Tryz.prog (addI 35) 3 (avs 0 sg) h0 15000) = true := by kernel_rfl
theorem mixed : Tryz.prog.follows .mixedOrders = true := by kernel_rfl
theorem known_ok : KnownOk Tryz.prog (addI 35) := addI_ok Tryz.func35 (by kernel_rfl) (by kernel_rfl) (by kernel_rfl) (by kernel_rfl)
theorem law_RollNil {vs : List Value} (hf : FitsL sg vs) (w : World) : Calls Tryz.prog 3 vs.toArray w fun e w' => e = .returned (.bool true) ∧ Below w.heap.size w w' := by
  have st : St Tryz.prog w (Env.start fun k => (cellsL vs)[k]?) h0 256 w := by
    refine St.start (fun k v q => cells_flat hf v (List.mem_of_getElem? q)) fun b ab q => ?_
    unfold h0 at q
    rw [T.get_leaf] at q; cases q
  exact runF_calls known_ok mixed st (avs_is hf fun i x q => by rw [Nat.zero_add]; exact q) evaluated
end Go.Proofs.YthmaejcpadoljaaGreat
