/- The library's slices.Insert at []int at this program, laid by the guide's own tool in plain words. -/
import Derived.Shelf.Spec.SlicesInsertGrow
import Derived.Test.YtbikelbobanfbaaProg
namespace Go.Proofs.Ytbikelbobanfbaa
open Go.Shelf
def Try.insI_ren : Go.Shelf.Ren := ⟨fun | 21 => 26 | 27 => 28 | 28 => 29 | 35 => 30 | 39 => 31 | n => n, fun | 22 => 31 | 3 => 3 | 4 => 4 | 0 => 0 | n => n, fun | n => n⟩
theorem Try.insI : Go.Proofs.Lays2.n21 Try.prog Try.insI_ren := {
  mixed := by kernel_rfl
  f21 := Try.func26.trans (congrArg some (by kernel_rfl))
  f27 := Try.func28.trans (congrArg some (by kernel_rfl))
  f28 := Try.func29.trans (congrArg some (by kernel_rfl))
  f35 := Try.func30.trans (congrArg some (by kernel_rfl))
  f39 := Try.func31.trans (congrArg some (by kernel_rfl))
  t0 := Try.underlying0
  a0 := Try.isAgg0
  z0 := Try.sizeOf0
  v0 := Try.zeroValue0
  t3 := Try.underlying3
  a3 := Try.isAgg3
  z3 := Try.sizeOf3
  v3 := Try.zeroValue3
  t4 := Try.underlying4
  a4 := Try.isAgg4
  z4 := Try.sizeOf4
  v4 := Try.zeroValue4
  t22 := Try.underlying31
  a22 := Try.isAgg31
  z22 := Try.sizeOf31
  v22 := Try.zeroValue31
  i3 := by kernel_rfl }
end Go.Proofs.Ytbikelbobanfbaa
