/- The definition's Spoil and Kept (layer 4). -/
import Derived.Test.YtapcmkhpbdphoaaRefWire2
namespace Go.Proofs.Ytapcmkhpbdphoaa
open Go.RowKit
set_option linter.unusedSimpArgs false
set_option linter.unusedVariables false

theorem But.grown {g : Nat} {w w' : World} (h : w.grownBy w' (some g)) : But g w w' :=
  ⟨h.os, h.tape, h.output, h.size, fun j hj hne => h.block j hj (by simpa using hne)⟩

theorem twelve_at (l : List Int) (n i : Nat) (hn : l.length = n) (hi : i < 12) : (l ++ twelve).getD (n + i) 0 = (i : Int) + 1 := by
  rw [List.getD_eq_getElem?_getD, List.getElem?_append_right (by omega), show n + i - l.length = i by omega]
  have h : ∀ j : Fin 12, (twelve[j.val]?).getD 0 = ((j.val : Nat) : Int) + 1 := by decide
  exact h ⟨i, hi⟩

end Go.Proofs.Ytapcmkhpbdphoaa
