/-
  DERIVED. GIVEN WITH THE SEED: THE CARDS: each row of YtjkbhaplngnniaaDoorRows.lean that lists a variable, with what it lists TIED to the program's text (the seventh form; the later family's looks); each row that meets fmt, with fmt's text TOLD by the authors' own Lean function (tested against real Go, not proved from fmt's source: count such statements apart). THE CARD IS WHAT COUNTS. Prove the row's statement (the work); the ties are given (YtjkbhaplngnniaaDoorTie.lean); close each card by the builder's one call (the guide's Derived/Test/ToyasCard.lean, 'card_holds'). Laid BY PROGRAM, IN A SANDBOX (cutbox-door.mjs). By AI agents, Wed Nov 11 2026. No macro, syntax, notation, axiom, sorry.
-/
import Derived.Test.YtjkbhaplngnniaaDoorRows
import GoSem.ClaimSeven
namespace Go.Proofs.YtjkbhaplngnniaaDoor
namespace Rows

/-- THE TIED CARD OF 'moietylaw10.PagesMakes'. -/
def pagesMakesCard : Claim7 := { stood := { row := pagesMakesRow, standIns := [], harness := (true, "2460ff1549b2fba3607046149d25ce78ce480a508939ae775e72132343e95a70"), looks := false }, kinds := [], alts := [], laidByText := true, laidKinds := [.data], laidTests := true, laidLooks := .later }
def PagesMakesCardSaid : Prop := Claim7.holds Tryd.pinned (.plain (OpenSpec.ofChange pagesMakesSpec)) pagesMakesCard

/-- THE TIED CARD OF 'moietylaw10.PagesPlays'. -/
def pagesPlaysCard : Claim7 := { stood := { row := pagesPlaysRow, standIns := [], harness := (true, "2460ff1549b2fba3607046149d25ce78ce480a508939ae775e72132343e95a70"), looks := false }, kinds := [], alts := [], laidByText := true, laidKinds := [.data], laidTests := true, laidLooks := .later }
def PagesPlaysCardSaid : Prop := Claim7.holds Tryd.pinned (.plain (OpenSpec.ofChange pagesPlaysSpec)) pagesPlaysCard

/-- THE TIED CARD OF 'moietylaw10.PagesStays'. -/
def pagesStaysCard : Claim7 := { stood := { row := pagesStaysRow, standIns := [], harness := (true, "2460ff1549b2fba3607046149d25ce78ce480a508939ae775e72132343e95a70"), looks := false }, kinds := [], alts := [], laidByText := true, laidKinds := [.data], laidTests := true, laidLooks := .later }
def PagesStaysCardSaid : Prop := Claim7.holds Tryd.pinned (.plain (OpenSpec.ofChange pagesStaysSpec)) pagesStaysCard

/-- THE TIED CARD OF 'moietylaw10.PagesDiffer'. -/
def pagesDifferCard : Claim7 := { stood := { row := pagesDifferRow, standIns := [], harness := (true, "2460ff1549b2fba3607046149d25ce78ce480a508939ae775e72132343e95a70"), looks := false }, kinds := [], alts := [], laidByText := true, laidKinds := [.data], laidTests := true, laidLooks := .later }
def PagesDifferCardSaid : Prop := Claim7.holds Tryd.pinned (.plain (OpenSpec.ofChange pagesDifferSpec)) pagesDifferCard

/-- THE TIED CARD OF 'moietylaw10.PagesEnds'. -/
def pagesEndsCard : Claim7 := { stood := { row := pagesEndsRow, standIns := [], harness := (true, "2460ff1549b2fba3607046149d25ce78ce480a508939ae775e72132343e95a70"), looks := false }, kinds := [], alts := [], laidByText := true, laidKinds := [.data], laidTests := true, laidLooks := .later }
def PagesEndsCardSaid : Prop := Claim7.holds Tryd.pinned (.plain (OpenSpec.ofChange pagesEndsSpec)) pagesEndsCard

/-- THE TIED CARD OF 'moietylaw10.PagesNil'. -/
def pagesNilCard : Claim7 := { stood := { row := pagesNilRow, standIns := [], harness := (true, "2460ff1549b2fba3607046149d25ce78ce480a508939ae775e72132343e95a70"), looks := false }, kinds := [], alts := [], laidByText := true, laidKinds := [.data], laidTests := true, laidLooks := .later }
def PagesNilCardSaid : Prop := Claim7.holds Tryd.pinned (.plain (OpenSpec.ofChange pagesNilSpec)) pagesNilCard

/-- THE SECOND FORM's CARD OF 'moietylaw10.PagesMakes'. -/
def pagesMakesUptoCard : Claim7 := { stood := { row := pagesMakesUptoRow, standIns := [], harness := (true, "2460ff1549b2fba3607046149d25ce78ce480a508939ae775e72132343e95a70"), looks := false }, kinds := [], alts := [], laidByText := true, laidKinds := [.data], laidTests := true, laidLooks := .later }
def PagesMakesUptoCardSaid : Prop := Claim7.holds Tryd.pinned (.plain (OpenSpec.upto pagesMakesSpec)) pagesMakesUptoCard

/-- THE SECOND FORM's CARD OF 'moietylaw10.PagesPlays'. -/
def pagesPlaysUptoCard : Claim7 := { stood := { row := pagesPlaysUptoRow, standIns := [], harness := (true, "2460ff1549b2fba3607046149d25ce78ce480a508939ae775e72132343e95a70"), looks := false }, kinds := [], alts := [], laidByText := true, laidKinds := [.data], laidTests := true, laidLooks := .later }
def PagesPlaysUptoCardSaid : Prop := Claim7.holds Tryd.pinned (.plain (OpenSpec.upto pagesPlaysSpec)) pagesPlaysUptoCard

/-- THE SECOND FORM's CARD OF 'moietylaw10.PagesStays'. -/
def pagesStaysUptoCard : Claim7 := { stood := { row := pagesStaysUptoRow, standIns := [], harness := (true, "2460ff1549b2fba3607046149d25ce78ce480a508939ae775e72132343e95a70"), looks := false }, kinds := [], alts := [], laidByText := true, laidKinds := [.data], laidTests := true, laidLooks := .later }
def PagesStaysUptoCardSaid : Prop := Claim7.holds Tryd.pinned (.plain (OpenSpec.upto pagesStaysSpec)) pagesStaysUptoCard

/-- THE SECOND FORM's CARD OF 'moietylaw10.PagesDiffer'. -/
def pagesDifferUptoCard : Claim7 := { stood := { row := pagesDifferUptoRow, standIns := [], harness := (true, "2460ff1549b2fba3607046149d25ce78ce480a508939ae775e72132343e95a70"), looks := false }, kinds := [], alts := [], laidByText := true, laidKinds := [.data], laidTests := true, laidLooks := .later }
def PagesDifferUptoCardSaid : Prop := Claim7.holds Tryd.pinned (.plain (OpenSpec.upto pagesDifferSpec)) pagesDifferUptoCard

/-- THE SECOND FORM's CARD OF 'moietylaw10.PagesEnds'. -/
def pagesEndsUptoCard : Claim7 := { stood := { row := pagesEndsUptoRow, standIns := [], harness := (true, "2460ff1549b2fba3607046149d25ce78ce480a508939ae775e72132343e95a70"), looks := false }, kinds := [], alts := [], laidByText := true, laidKinds := [.data], laidTests := true, laidLooks := .later }
def PagesEndsUptoCardSaid : Prop := Claim7.holds Tryd.pinned (.plain (OpenSpec.upto pagesEndsSpec)) pagesEndsUptoCard

/-- THE SECOND FORM's CARD OF 'moietylaw10.PagesNil'. -/
def pagesNilUptoCard : Claim7 := { stood := { row := pagesNilUptoRow, standIns := [], harness := (true, "2460ff1549b2fba3607046149d25ce78ce480a508939ae775e72132343e95a70"), looks := false }, kinds := [], alts := [], laidByText := true, laidKinds := [.data], laidTests := true, laidLooks := .later }
def PagesNilUptoCardSaid : Prop := Claim7.holds Tryd.pinned (.plain (OpenSpec.upto pagesNilSpec)) pagesNilUptoCard
end Rows
end Go.Proofs.YtjkbhaplngnniaaDoor
