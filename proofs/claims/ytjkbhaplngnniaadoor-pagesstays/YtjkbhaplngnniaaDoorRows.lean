/-
  NARROWER THAN 'FOR EVERY INPUT', by the rows' own cells (each row's printed sentence says how): PagesMakes: laid · PagesPlays: laid · PagesStays: laid · PagesDiffer: laid · PagesEnds: laid · PagesNil: laid.
  DERIVED. THE GIVEN ROWS OF THIS SEAT. 6 by the template 'for every input the law returns true; each argument reads behind the call as it read before'; 0 by the template 'total and deterministic' (their statements: YtjkbhaplngnniaaDoorTotals.lean).
  GIVEN WITH THE SEED: the statements are not yours to turn. If you find one false, say at which input.
  Laid BY PROGRAM, IN A SANDBOX (cutbox-rows.mjs): the forced cells as the released guide's own fill.sh prints them over the translation 8b7d42771db2ec3d… (all of the seat's roots in one cut). By AI agents, Wed Nov 11 2026. No macro, syntax, notation, axiom, sorry.
-/
import Derived.Test.YtjkbhaplngnniaaDoorChecked
import GoSem.Claim
import GoSem.ClaimJoined
import GoSem.ClaimMapViews
import Derived.JoinedTies
import Derived.KernelRfl
namespace Go.Proofs.YtjkbhaplngnniaaDoor
/- THE CELL 'sum', in the pinned program and in every row, IS THE sha256 OF THE DUMP (.gsa) THAT YtjkbhaplngnniaaDoorProg.lean LOADS. Nothing in Lean hashes anything: it is a label: what it is worth is what the hold of that sum in a sandbox is worth. -/
noncomputable def Tryd.pinned : Pinned := { name := "ytjkbhaplngnniaadoor", sum := "8b7d42771db2ec3d899475a97be7d48b8f7c4d26614ddc1db1cfb81eb3830d55", checked := Tryd.checked }
namespace Rows
def none {H : Type} : Left H := { results := [], args := [] }

/- WHAT THE LISTED PACKAGE-LEVEL VARIABLES READ AS WHEN THE CALL BEGINS. Each datum BY PROGRAM (the guide's laid-datum.mjs) off the statement by which the dump's own 'gosem.cut.vars' lays the variable. In a bare row this is a premise. The card (YtjkbhaplngnniaaDoorCards.lean) ties it to the program's text. -/
def laid_math_bits_deBruijn64tab {H : Type} : DataW H := .agg [.lit (.int .u8 0), .lit (.int .u8 1), .lit (.int .u8 56), .lit (.int .u8 2), .lit (.int .u8 57), .lit (.int .u8 49), .lit (.int .u8 28), .lit (.int .u8 3), .lit (.int .u8 61), .lit (.int .u8 58), .lit (.int .u8 42), .lit (.int .u8 50), .lit (.int .u8 38), .lit (.int .u8 29), .lit (.int .u8 17), .lit (.int .u8 4), .lit (.int .u8 62), .lit (.int .u8 47), .lit (.int .u8 59), .lit (.int .u8 36), .lit (.int .u8 45), .lit (.int .u8 43), .lit (.int .u8 51), .lit (.int .u8 22), .lit (.int .u8 53), .lit (.int .u8 39), .lit (.int .u8 33), .lit (.int .u8 30), .lit (.int .u8 24), .lit (.int .u8 18), .lit (.int .u8 12), .lit (.int .u8 5), .lit (.int .u8 63), .lit (.int .u8 55), .lit (.int .u8 48), .lit (.int .u8 27), .lit (.int .u8 60), .lit (.int .u8 41), .lit (.int .u8 37), .lit (.int .u8 16), .lit (.int .u8 46), .lit (.int .u8 35), .lit (.int .u8 44), .lit (.int .u8 21), .lit (.int .u8 52), .lit (.int .u8 32), .lit (.int .u8 23), .lit (.int .u8 11), .lit (.int .u8 54), .lit (.int .u8 26), .lit (.int .u8 40), .lit (.int .u8 15), .lit (.int .u8 34), .lit (.int .u8 20), .lit (.int .u8 31), .lit (.int .u8 10), .lit (.int .u8 25), .lit (.int .u8 14), .lit (.int .u8 19), .lit (.int .u8 9), .lit (.int .u8 13), .lit (.int .u8 8), .lit (.int .u8 7), .lit (.int .u8 6)]

/-- 'moietylaw10.PagesMakes': WHATEVER THE INPUT: true; the input reads as it did. -/
def pagesMakesSpec : ChangeSpec := { name := "pagesMakes", fn := fun _ => fun
  | [d1, d2] => { results := [.lit (.bool true)], args := [d1, d2] }
  | _ => none }
def pagesMakesRow : OpenClaim := { program := "ytjkbhaplngnniaadoor", sum := "8b7d42771db2ec3d899475a97be7d48b8f7c4d26614ddc1db1cfb81eb3830d55", func := "moiety/moietylaw10.PagesMakes", spec := "pagesMakes", named := ["math/bits.deBruijn64tab"], apart := false, laid := [("math/bits.deBruijn64tab", laid_math_bits_deBruijn64tab)] }
def PagesMakesSaid : Prop := pagesMakesRow.holds Tryd.pinned (OpenSpec.ofChange pagesMakesSpec)

/-- ITS FALSE NEIGHBOUR: 'it returns false'. Refute it at one input. -/
def pagesMakesWrong : ChangeSpec := { name := "pagesMakes", fn := fun _ => fun
  | [d1, d2] => { results := [.lit (.bool false)], args := [d1, d2] }
  | _ => none }
def PagesMakesWrongFalsely : Prop := pagesMakesRow.holds Tryd.pinned (OpenSpec.ofChange pagesMakesWrong)

/-- 'moietylaw10.PagesPlays': WHATEVER THE INPUT: true; the input reads as it did. -/
def pagesPlaysSpec : ChangeSpec := { name := "pagesPlays", fn := fun _ => fun
  | [d1, d2, d3] => { results := [.lit (.bool true)], args := [d1, d2, d3] }
  | _ => none }
def pagesPlaysRow : OpenClaim := { program := "ytjkbhaplngnniaadoor", sum := "8b7d42771db2ec3d899475a97be7d48b8f7c4d26614ddc1db1cfb81eb3830d55", func := "moiety/moietylaw10.PagesPlays", spec := "pagesPlays", unfollowed := true, recurses := true, named := ["math/bits.deBruijn64tab"], apart := false, laid := [("math/bits.deBruijn64tab", laid_math_bits_deBruijn64tab)] }
def PagesPlaysSaid : Prop := pagesPlaysRow.holds Tryd.pinned (OpenSpec.ofChange pagesPlaysSpec)

/-- ITS FALSE NEIGHBOUR: 'it returns false'. Refute it at one input. -/
def pagesPlaysWrong : ChangeSpec := { name := "pagesPlays", fn := fun _ => fun
  | [d1, d2, d3] => { results := [.lit (.bool false)], args := [d1, d2, d3] }
  | _ => none }
def PagesPlaysWrongFalsely : Prop := pagesPlaysRow.holds Tryd.pinned (OpenSpec.ofChange pagesPlaysWrong)

/-- 'moietylaw10.PagesStays': WHATEVER THE INPUT: true; the input reads as it did. -/
def pagesStaysSpec : ChangeSpec := { name := "pagesStays", fn := fun _ => fun
  | [d1, d2] => { results := [.lit (.bool true)], args := [d1, d2] }
  | _ => none }
def pagesStaysRow : OpenClaim := { program := "ytjkbhaplngnniaadoor", sum := "8b7d42771db2ec3d899475a97be7d48b8f7c4d26614ddc1db1cfb81eb3830d55", func := "moiety/moietylaw10.PagesStays", spec := "pagesStays", unfollowed := true, recurses := true, named := ["math/bits.deBruijn64tab"], apart := false, laid := [("math/bits.deBruijn64tab", laid_math_bits_deBruijn64tab)] }
def PagesStaysSaid : Prop := pagesStaysRow.holds Tryd.pinned (OpenSpec.ofChange pagesStaysSpec)

/-- ITS FALSE NEIGHBOUR: 'it returns false'. Refute it at one input. -/
def pagesStaysWrong : ChangeSpec := { name := "pagesStays", fn := fun _ => fun
  | [d1, d2] => { results := [.lit (.bool false)], args := [d1, d2] }
  | _ => none }
def PagesStaysWrongFalsely : Prop := pagesStaysRow.holds Tryd.pinned (OpenSpec.ofChange pagesStaysWrong)

/-- 'moietylaw10.PagesDiffer': WHATEVER THE INPUT: true; the input reads as it did. -/
def pagesDifferSpec : ChangeSpec := { name := "pagesDiffer", fn := fun _ => fun
  | [d1, d2, d3, d4] => { results := [.lit (.bool true)], args := [d1, d2, d3, d4] }
  | _ => none }
def pagesDifferRow : OpenClaim := { program := "ytjkbhaplngnniaadoor", sum := "8b7d42771db2ec3d899475a97be7d48b8f7c4d26614ddc1db1cfb81eb3830d55", func := "moiety/moietylaw10.PagesDiffer", spec := "pagesDiffer", unfollowed := true, recurses := true, named := ["math/bits.deBruijn64tab"], apart := false, laid := [("math/bits.deBruijn64tab", laid_math_bits_deBruijn64tab)] }
def PagesDifferSaid : Prop := pagesDifferRow.holds Tryd.pinned (OpenSpec.ofChange pagesDifferSpec)

/-- ITS FALSE NEIGHBOUR: 'it returns false'. Refute it at one input. -/
def pagesDifferWrong : ChangeSpec := { name := "pagesDiffer", fn := fun _ => fun
  | [d1, d2, d3, d4] => { results := [.lit (.bool false)], args := [d1, d2, d3, d4] }
  | _ => none }
def PagesDifferWrongFalsely : Prop := pagesDifferRow.holds Tryd.pinned (OpenSpec.ofChange pagesDifferWrong)

/-- 'moietylaw10.PagesEnds': WHATEVER THE INPUT: true; the input reads as it did. -/
def pagesEndsSpec : ChangeSpec := { name := "pagesEnds", fn := fun _ => fun
  | [d1, d2, d3] => { results := [.lit (.bool true)], args := [d1, d2, d3] }
  | _ => none }
def pagesEndsRow : OpenClaim := { program := "ytjkbhaplngnniaadoor", sum := "8b7d42771db2ec3d899475a97be7d48b8f7c4d26614ddc1db1cfb81eb3830d55", func := "moiety/moietylaw10.PagesEnds", spec := "pagesEnds", recurses := true, named := ["math/bits.deBruijn64tab"], apart := false, laid := [("math/bits.deBruijn64tab", laid_math_bits_deBruijn64tab)] }
def PagesEndsSaid : Prop := pagesEndsRow.holds Tryd.pinned (OpenSpec.ofChange pagesEndsSpec)

/-- ITS FALSE NEIGHBOUR: 'it returns false'. Refute it at one input. -/
def pagesEndsWrong : ChangeSpec := { name := "pagesEnds", fn := fun _ => fun
  | [d1, d2, d3] => { results := [.lit (.bool false)], args := [d1, d2, d3] }
  | _ => none }
def PagesEndsWrongFalsely : Prop := pagesEndsRow.holds Tryd.pinned (OpenSpec.ofChange pagesEndsWrong)

/-- 'moietylaw10.PagesNil': WHATEVER THE INPUT: true; the input reads as it did. -/
def pagesNilSpec : ChangeSpec := { name := "pagesNil", fn := fun _ => fun
  | [d] => { results := [.lit (.bool true)], args := [d] }
  | _ => none }
def pagesNilRow : OpenClaim := { program := "ytjkbhaplngnniaadoor", sum := "8b7d42771db2ec3d899475a97be7d48b8f7c4d26614ddc1db1cfb81eb3830d55", func := "moiety/moietylaw10.PagesNil", spec := "pagesNil", unfollowed := true, recurses := true, named := ["math/bits.deBruijn64tab"], apart := false, laid := [("math/bits.deBruijn64tab", laid_math_bits_deBruijn64tab)] }
def PagesNilSaid : Prop := pagesNilRow.holds Tryd.pinned (OpenSpec.ofChange pagesNilSpec)

/-- ITS FALSE NEIGHBOUR: 'it returns false'. Refute it at one input. -/
def pagesNilWrong : ChangeSpec := { name := "pagesNil", fn := fun _ => fun
  | [d] => { results := [.lit (.bool false)], args := [d] }
  | _ => none }
def PagesNilWrongFalsely : Prop := pagesNilRow.holds Tryd.pinned (OpenSpec.ofChange pagesNilWrong)

/- THE SECOND FORM. 'bulk': how many values and letters a reading holds, each counted each time it is reached (what is shared counts as often as it is met; a slice's spare places count too). A statement '..UptoSaid' is the law's where the arguments, and the package variables that the reading takes, are together of bulk at most 1048576: NARROWER than '..Said'. Prove '..Said' where nothing that the law and all that it calls make is longer than what came in: it says more and counts as full. Else prove '..UptoSaid'. A law counts once. -/
mutual
def uptoBulk {H : Type} : DataW H → Nat
  | .lit (.string bytes) => bytes.length + 1
  | .lit _ => 1
  | .nil => 1
  | .ptr d => uptoBulk d + 1
  | .slice elems spare => uptoBulkAll elems + uptoBulkAll spare + 1
  | .agg parts => uptoBulkAll parts + 1
  | .iface _ d => uptoBulk d + 1
  | .map entries => uptoBulkEntries entries + 1
  | .held _ => 1
def uptoBulkAll {H : Type} : List (DataW H) → Nat
  | [] => 0
  | d :: r => uptoBulk d + uptoBulkAll r
def uptoBulkEntries {H : Type} : List (Lit × DataW H) → Nat
  | [] => 0
  | x :: r => uptoBulkEntry x + uptoBulkEntries r
def uptoBulkEntry {H : Type} : Lit × DataW H → Nat
  | (.string bytes, d) => bytes.length + uptoBulk d + 1
  | (_, d) => uptoBulk d + 1
 end
def uptoSmall : (H : Type) → List (DataW H) → Bool := fun _ ds => decide (uptoBulkAll ds ≤ 1048576)
def OpenSpec.upto (s : _root_.Go.ChangeSpec) : _root_.Go.OpenSpec := { _root_.Go.OpenSpec.ofChange s with cond := some uptoSmall }

/-- 'moietylaw10.PagesMakes', WHERE WHAT IT READS IS OF BULK AT MOST 1048576: true; the input reads as it did. -/
def pagesMakesUptoRow : OpenClaim := { program := "ytjkbhaplngnniaadoor", sum := "8b7d42771db2ec3d899475a97be7d48b8f7c4d26614ddc1db1cfb81eb3830d55", func := "moiety/moietylaw10.PagesMakes", spec := "pagesMakes", named := ["math/bits.deBruijn64tab"], apart := false, laid := [("math/bits.deBruijn64tab", laid_math_bits_deBruijn64tab)], narrowed := true }
def PagesMakesUptoSaid : Prop := pagesMakesUptoRow.holds Tryd.pinned (OpenSpec.upto pagesMakesSpec)

/-- 'moietylaw10.PagesPlays', WHERE WHAT IT READS IS OF BULK AT MOST 1048576: true; the input reads as it did. -/
def pagesPlaysUptoRow : OpenClaim := { program := "ytjkbhaplngnniaadoor", sum := "8b7d42771db2ec3d899475a97be7d48b8f7c4d26614ddc1db1cfb81eb3830d55", func := "moiety/moietylaw10.PagesPlays", spec := "pagesPlays", unfollowed := true, recurses := true, named := ["math/bits.deBruijn64tab"], apart := false, laid := [("math/bits.deBruijn64tab", laid_math_bits_deBruijn64tab)], narrowed := true }
def PagesPlaysUptoSaid : Prop := pagesPlaysUptoRow.holds Tryd.pinned (OpenSpec.upto pagesPlaysSpec)

/-- 'moietylaw10.PagesStays', WHERE WHAT IT READS IS OF BULK AT MOST 1048576: true; the input reads as it did. -/
def pagesStaysUptoRow : OpenClaim := { program := "ytjkbhaplngnniaadoor", sum := "8b7d42771db2ec3d899475a97be7d48b8f7c4d26614ddc1db1cfb81eb3830d55", func := "moiety/moietylaw10.PagesStays", spec := "pagesStays", unfollowed := true, recurses := true, named := ["math/bits.deBruijn64tab"], apart := false, laid := [("math/bits.deBruijn64tab", laid_math_bits_deBruijn64tab)], narrowed := true }
def PagesStaysUptoSaid : Prop := pagesStaysUptoRow.holds Tryd.pinned (OpenSpec.upto pagesStaysSpec)

/-- 'moietylaw10.PagesDiffer', WHERE WHAT IT READS IS OF BULK AT MOST 1048576: true; the input reads as it did. -/
def pagesDifferUptoRow : OpenClaim := { program := "ytjkbhaplngnniaadoor", sum := "8b7d42771db2ec3d899475a97be7d48b8f7c4d26614ddc1db1cfb81eb3830d55", func := "moiety/moietylaw10.PagesDiffer", spec := "pagesDiffer", unfollowed := true, recurses := true, named := ["math/bits.deBruijn64tab"], apart := false, laid := [("math/bits.deBruijn64tab", laid_math_bits_deBruijn64tab)], narrowed := true }
def PagesDifferUptoSaid : Prop := pagesDifferUptoRow.holds Tryd.pinned (OpenSpec.upto pagesDifferSpec)

/-- 'moietylaw10.PagesEnds', WHERE WHAT IT READS IS OF BULK AT MOST 1048576: true; the input reads as it did. -/
def pagesEndsUptoRow : OpenClaim := { program := "ytjkbhaplngnniaadoor", sum := "8b7d42771db2ec3d899475a97be7d48b8f7c4d26614ddc1db1cfb81eb3830d55", func := "moiety/moietylaw10.PagesEnds", spec := "pagesEnds", recurses := true, named := ["math/bits.deBruijn64tab"], apart := false, laid := [("math/bits.deBruijn64tab", laid_math_bits_deBruijn64tab)], narrowed := true }
def PagesEndsUptoSaid : Prop := pagesEndsUptoRow.holds Tryd.pinned (OpenSpec.upto pagesEndsSpec)

/-- 'moietylaw10.PagesNil', WHERE WHAT IT READS IS OF BULK AT MOST 1048576: true; the input reads as it did. -/
def pagesNilUptoRow : OpenClaim := { program := "ytjkbhaplngnniaadoor", sum := "8b7d42771db2ec3d899475a97be7d48b8f7c4d26614ddc1db1cfb81eb3830d55", func := "moiety/moietylaw10.PagesNil", spec := "pagesNil", unfollowed := true, recurses := true, named := ["math/bits.deBruijn64tab"], apart := false, laid := [("math/bits.deBruijn64tab", laid_math_bits_deBruijn64tab)], narrowed := true }
def PagesNilUptoSaid : Prop := pagesNilUptoRow.holds Tryd.pinned (OpenSpec.upto pagesNilSpec)

end Rows
end Go.Proofs.YtjkbhaplngnniaaDoor
