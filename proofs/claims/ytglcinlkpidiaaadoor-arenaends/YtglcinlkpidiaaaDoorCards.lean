/-
  DERIVED. GIVEN WITH THE SEED: THE CARDS: each row of YtglcinlkpidiaaaDoorRows.lean that lists a variable, with what it lists TIED to the program's text (the seventh form; the later family's looks); each row that meets fmt, with fmt's text TOLD by the authors' own Lean function (tested against real Go, not proved from fmt's source: count such statements apart). THE CARD IS WHAT COUNTS. Prove the row's statement (the work); the ties are given (YtglcinlkpidiaaaDoorTie.lean); close each card by the builder's one call (the guide's Derived/Test/ToyasCard.lean, 'card_holds'). Laid BY PROGRAM, IN A SANDBOX (cutbox-door.mjs). By AI agents, Wed Nov 11 2026. No macro, syntax, notation, axiom, sorry.
-/
import Derived.Test.YtglcinlkpidiaaaDoorRows
import GoSem.ClaimSeven
namespace Go.Proofs.YtglcinlkpidiaaaDoor
namespace Rows

/-- THE TIED CARD OF 'moietylaw09.ArenaPlays'. -/
def arenaPlaysCard : Claim7 := { stood := { row := arenaPlaysRow, standIns := [], harness := (true, "de964344a62df41108aab3555fff7fe558ba0d5c7ddf4c5e4bd5a614e6f87595"), looks := false }, kinds := [], alts := [], laidByText := true, laidKinds := [.data], laidTests := true, laidLooks := .later }
def ArenaPlaysCardSaid : Prop := Claim7.holds Tryd.pinned (.plain (OpenSpec.ofChange arenaPlaysSpec)) arenaPlaysCard

/-- THE TIED CARD OF 'moietylaw09.ArenaEnds'. -/
def arenaEndsCard : Claim7 := { stood := { row := arenaEndsRow, standIns := [], harness := (true, "de964344a62df41108aab3555fff7fe558ba0d5c7ddf4c5e4bd5a614e6f87595"), looks := false }, kinds := [], alts := [], laidByText := true, laidKinds := [.data], laidTests := true, laidLooks := .later }
def ArenaEndsCardSaid : Prop := Claim7.holds Tryd.pinned (.plain (OpenSpec.ofChange arenaEndsSpec)) arenaEndsCard

/-- THE TIED CARD OF 'moietylaw09.ArenaStays'. -/
def arenaStaysCard : Claim7 := { stood := { row := arenaStaysRow, standIns := [], harness := (true, "de964344a62df41108aab3555fff7fe558ba0d5c7ddf4c5e4bd5a614e6f87595"), looks := false }, kinds := [], alts := [], laidByText := true, laidKinds := [.data], laidTests := true, laidLooks := .later }
def ArenaStaysCardSaid : Prop := Claim7.holds Tryd.pinned (.plain (OpenSpec.ofChange arenaStaysSpec)) arenaStaysCard

/-- THE TIED CARD OF 'moietylaw09.ArenaNil'. -/
def arenaNilCard : Claim7 := { stood := { row := arenaNilRow, standIns := [], harness := (true, "de964344a62df41108aab3555fff7fe558ba0d5c7ddf4c5e4bd5a614e6f87595"), looks := false }, kinds := [], alts := [], laidByText := true, laidKinds := [.data], laidTests := true, laidLooks := .later }
def ArenaNilCardSaid : Prop := Claim7.holds Tryd.pinned (.plain (OpenSpec.ofChange arenaNilSpec)) arenaNilCard

/-- THE SECOND FORM's CARD OF 'moietylaw09.ArenaPlays'. -/
def arenaPlaysUptoCard : Claim7 := { stood := { row := arenaPlaysUptoRow, standIns := [], harness := (true, "de964344a62df41108aab3555fff7fe558ba0d5c7ddf4c5e4bd5a614e6f87595"), looks := false }, kinds := [], alts := [], laidByText := true, laidKinds := [.data], laidTests := true, laidLooks := .later }
def ArenaPlaysUptoCardSaid : Prop := Claim7.holds Tryd.pinned (.plain (OpenSpec.upto arenaPlaysSpec)) arenaPlaysUptoCard

/-- THE SECOND FORM's CARD OF 'moietylaw09.ArenaEnds'. -/
def arenaEndsUptoCard : Claim7 := { stood := { row := arenaEndsUptoRow, standIns := [], harness := (true, "de964344a62df41108aab3555fff7fe558ba0d5c7ddf4c5e4bd5a614e6f87595"), looks := false }, kinds := [], alts := [], laidByText := true, laidKinds := [.data], laidTests := true, laidLooks := .later }
def ArenaEndsUptoCardSaid : Prop := Claim7.holds Tryd.pinned (.plain (OpenSpec.upto arenaEndsSpec)) arenaEndsUptoCard

/-- THE SECOND FORM's CARD OF 'moietylaw09.ArenaStays'. -/
def arenaStaysUptoCard : Claim7 := { stood := { row := arenaStaysUptoRow, standIns := [], harness := (true, "de964344a62df41108aab3555fff7fe558ba0d5c7ddf4c5e4bd5a614e6f87595"), looks := false }, kinds := [], alts := [], laidByText := true, laidKinds := [.data], laidTests := true, laidLooks := .later }
def ArenaStaysUptoCardSaid : Prop := Claim7.holds Tryd.pinned (.plain (OpenSpec.upto arenaStaysSpec)) arenaStaysUptoCard

/-- THE SECOND FORM's CARD OF 'moietylaw09.ArenaNil'. -/
def arenaNilUptoCard : Claim7 := { stood := { row := arenaNilUptoRow, standIns := [], harness := (true, "de964344a62df41108aab3555fff7fe558ba0d5c7ddf4c5e4bd5a614e6f87595"), looks := false }, kinds := [], alts := [], laidByText := true, laidKinds := [.data], laidTests := true, laidLooks := .later }
def ArenaNilUptoCardSaid : Prop := Claim7.holds Tryd.pinned (.plain (OpenSpec.upto arenaNilSpec)) arenaNilUptoCard
end Rows
end Go.Proofs.YtglcinlkpidiaaaDoor
