/-
  DERIVED. GIVEN WITH THE SEED: THE CARDS: each row of YtpehinmckppjoaaGreatDoorRows.lean that lists a variable, with what it lists TIED to the program's text (the seventh form; the later family's looks); each row that meets fmt, with fmt's text TOLD by the authors' own Lean function (tested against real Go, not proved from fmt's source: count such statements apart). THE CARD IS WHAT COUNTS. Prove the row's statement (the work); the ties are given (YtpehinmckppjoaaGreatDoorTie.lean); close each card by the builder's one call (the guide's Derived/Test/ToyasCard.lean, 'card_holds'). Laid BY PROGRAM, IN A SANDBOX (cutbox-door.mjs). By AI agents, Wed Nov 11 2026. No macro, syntax, notation, axiom, sorry.
-/
import Derived.Test.YtpehinmckppjoaaGreatDoorRows
import GoSem.ClaimSeven
namespace Go.Proofs.YtpehinmckppjoaaGreatDoor
namespace Rows

/-- THE TIED CARD OF 'moietylaw29.ParseNil'. -/
def parseNilCard : Claim7 := { stood := { row := parseNilRow, standIns := [], harness := (true, "40a084eec4bf06dddc156d64f15dd732414e8d1c17b0dda485b717213a908f0c"), looks := true }, kinds := [], alts := [], laidByText := true, laidKinds := [.data, .data, .data, .data, .sentinel, .sentinel, .data, .pinned], laidTests := true, laidLooks := .later }
def ParseNilCardSaid : Prop := Claim7.holds Tryz.pinned (.plain (OpenSpec.ofChange parseNilSpec)) parseNilCard

end Rows
end Go.Proofs.YtpehinmckppjoaaGreatDoor
