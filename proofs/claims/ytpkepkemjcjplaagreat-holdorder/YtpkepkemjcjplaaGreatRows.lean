/-
  No cell of these rows narrows 'for every input' (looked for: loops, veiled, ifaces, maps, wideKeys, modest, calm, conditions, laid).
  DERIVED. THE GIVEN ROWS OF THIS SEAT. 4 by the template 'for every input the law returns true; each argument reads behind the call as it read before'; 0 by the template 'total and deterministic' (their statements: YtpkepkemjcjplaaGreatTotals.lean).
  GIVEN WITH THE SEED: the statements are not yours to turn. If you find one false, say at which input.
  Laid BY PROGRAM, IN A SANDBOX (cutbox-rows.mjs): the forced cells as the released guide's own fill.sh prints them over the translation baace84ad8f08c70… (all of the seat's roots in one cut). By AI agents, Wed Nov 11 2026. No macro, syntax, notation, axiom, sorry.
-/
import Derived.Test.YtpkepkemjcjplaaGreatChecked
import GoSem.Claim
import GoSem.ClaimJoined
import GoSem.ClaimMapViews
import Derived.JoinedTies
import Derived.KernelRfl
namespace Go.Proofs.YtpkepkemjcjplaaGreat
/- THE CELL 'sum', in the pinned program and in every row, IS THE sha256 OF THE DUMP (.gsa) THAT YtpkepkemjcjplaaGreatProg.lean LOADS. Nothing in Lean hashes anything: it is a label: what it is worth is what the hold of that sum in a sandbox is worth. -/
noncomputable def Tryz.pinned : Pinned := { name := "ytpkepkemjcjplaagreat", sum := "baace84ad8f08c70cb0988a28c6cf96ddb1680b8e348d6d963bee6f954ed60ca", checked := Tryz.checked }
namespace Rows
def none {H : Type} : Left H := { results := [], args := [] }

/-- 'moietylaw13.HoldPlays': WHATEVER THE INPUT: true; the input reads as it did. -/
def holdPlaysSpec : ChangeSpec := { name := "holdPlays", fn := fun _ => fun
  | [d1, d2, d3] => { results := [.lit (.bool true)], args := [d1, d2, d3] }
  | _ => none }
def holdPlaysRow : OpenClaim := { program := "ytpkepkemjcjplaagreat", sum := "baace84ad8f08c70cb0988a28c6cf96ddb1680b8e348d6d963bee6f954ed60ca", func := "moiety/moietylaw13.HoldPlays", spec := "holdPlays", unfollowed := true, recurses := true, apart := false }
def HoldPlaysSaid : Prop := holdPlaysRow.holds Tryz.pinned (OpenSpec.ofChange holdPlaysSpec)

/-- ITS FALSE NEIGHBOUR: 'it returns false'. Refute it at one input. -/
def holdPlaysWrong : ChangeSpec := { name := "holdPlays", fn := fun _ => fun
  | [d1, d2, d3] => { results := [.lit (.bool false)], args := [d1, d2, d3] }
  | _ => none }
def HoldPlaysWrongFalsely : Prop := holdPlaysRow.holds Tryz.pinned (OpenSpec.ofChange holdPlaysWrong)

/-- 'moietylaw13.HoldBack': WHATEVER THE INPUT: true; the input reads as it did. -/
def holdBackSpec : ChangeSpec := { name := "holdBack", fn := fun _ => fun
  | [d1, d2, d3] => { results := [.lit (.bool true)], args := [d1, d2, d3] }
  | _ => none }
def holdBackRow : OpenClaim := { program := "ytpkepkemjcjplaagreat", sum := "baace84ad8f08c70cb0988a28c6cf96ddb1680b8e348d6d963bee6f954ed60ca", func := "moiety/moietylaw13.HoldBack", spec := "holdBack", unfollowed := true, recurses := true, apart := false }
def HoldBackSaid : Prop := holdBackRow.holds Tryz.pinned (OpenSpec.ofChange holdBackSpec)

/-- ITS FALSE NEIGHBOUR: 'it returns false'. Refute it at one input. -/
def holdBackWrong : ChangeSpec := { name := "holdBack", fn := fun _ => fun
  | [d1, d2, d3] => { results := [.lit (.bool false)], args := [d1, d2, d3] }
  | _ => none }
def HoldBackWrongFalsely : Prop := holdBackRow.holds Tryz.pinned (OpenSpec.ofChange holdBackWrong)

/-- 'moietylaw13.HoldOrder': WHATEVER THE INPUT: true; the input reads as it did. -/
def holdOrderSpec : ChangeSpec := { name := "holdOrder", fn := fun _ => fun
  | [d1, d2] => { results := [.lit (.bool true)], args := [d1, d2] }
  | _ => none }
def holdOrderRow : OpenClaim := { program := "ytpkepkemjcjplaagreat", sum := "baace84ad8f08c70cb0988a28c6cf96ddb1680b8e348d6d963bee6f954ed60ca", func := "moiety/moietylaw13.HoldOrder", spec := "holdOrder", unfollowed := true, recurses := true, apart := false }
def HoldOrderSaid : Prop := holdOrderRow.holds Tryz.pinned (OpenSpec.ofChange holdOrderSpec)

/-- ITS FALSE NEIGHBOUR: 'it returns false'. Refute it at one input. -/
def holdOrderWrong : ChangeSpec := { name := "holdOrder", fn := fun _ => fun
  | [d1, d2] => { results := [.lit (.bool false)], args := [d1, d2] }
  | _ => none }
def HoldOrderWrongFalsely : Prop := holdOrderRow.holds Tryz.pinned (OpenSpec.ofChange holdOrderWrong)

/-- 'moietylaw13.HoldRegion': WHATEVER THE INPUT: true; the input reads as it did. -/
def holdRegionSpec : ChangeSpec := { name := "holdRegion", fn := fun _ => fun
  | [d1, d2] => { results := [.lit (.bool true)], args := [d1, d2] }
  | _ => none }
def holdRegionRow : OpenClaim := { program := "ytpkepkemjcjplaagreat", sum := "baace84ad8f08c70cb0988a28c6cf96ddb1680b8e348d6d963bee6f954ed60ca", func := "moiety/moietylaw13.HoldRegion", spec := "holdRegion", unfollowed := true, recurses := true, apart := false }
def HoldRegionSaid : Prop := holdRegionRow.holds Tryz.pinned (OpenSpec.ofChange holdRegionSpec)

/-- ITS FALSE NEIGHBOUR: 'it returns false'. Refute it at one input. -/
def holdRegionWrong : ChangeSpec := { name := "holdRegion", fn := fun _ => fun
  | [d1, d2] => { results := [.lit (.bool false)], args := [d1, d2] }
  | _ => none }
def HoldRegionWrongFalsely : Prop := holdRegionRow.holds Tryz.pinned (OpenSpec.ofChange holdRegionWrong)

/- THE SECOND FORM. 'bulk': how many values and letters a reading holds, each counted each time it is reached (what is shared counts as often as it is met; a slice's spare places count too). A statement '..UptoSaid' is the law's where the arguments, and the package variables that the reading takes, are together of bulk at most 1048576: NARROWER than '..Said'. Prove '..Said' where nothing that the law and all that it calls make is longer than what came in: it says more and counts as full. Else prove '..UptoSaid'. A law counts once. -/
mutual
def uptoBulk {H : Type} : DataW H → Nat
  | .lit (.string bytes) => bytes.length + 1
  | .lit _ => 1
  | .nil => 1
  | .ptr d => uptoBulk d + 1
  | .slice elems spare => uptoBulkAll elems + uptoBulkAll spare + 1
  | .agg parts => uptoBulkAll parts + 1
  | .iface _ d => uptoBulk d + 1
  | .map entries => uptoBulkEntries entries + 1
  | .held _ => 1
def uptoBulkAll {H : Type} : List (DataW H) → Nat
  | [] => 0
  | d :: r => uptoBulk d + uptoBulkAll r
def uptoBulkEntries {H : Type} : List (Lit × DataW H) → Nat
  | [] => 0
  | x :: r => uptoBulkEntry x + uptoBulkEntries r
def uptoBulkEntry {H : Type} : Lit × DataW H → Nat
  | (.string bytes, d) => bytes.length + uptoBulk d + 1
  | (_, d) => uptoBulk d + 1
 end
def uptoSmall : (H : Type) → List (DataW H) → Bool := fun _ ds => decide (uptoBulkAll ds ≤ 1048576)
def OpenSpec.upto (s : _root_.Go.ChangeSpec) : _root_.Go.OpenSpec := { _root_.Go.OpenSpec.ofChange s with cond := some uptoSmall }

/-- 'moietylaw13.HoldPlays', WHERE WHAT IT READS IS OF BULK AT MOST 1048576: true; the input reads as it did. -/
def holdPlaysUptoRow : OpenClaim := { program := "ytpkepkemjcjplaagreat", sum := "baace84ad8f08c70cb0988a28c6cf96ddb1680b8e348d6d963bee6f954ed60ca", func := "moiety/moietylaw13.HoldPlays", spec := "holdPlays", unfollowed := true, recurses := true, apart := false, narrowed := true }
def HoldPlaysUptoSaid : Prop := holdPlaysUptoRow.holds Tryz.pinned (OpenSpec.upto holdPlaysSpec)

/-- 'moietylaw13.HoldBack', WHERE WHAT IT READS IS OF BULK AT MOST 1048576: true; the input reads as it did. -/
def holdBackUptoRow : OpenClaim := { program := "ytpkepkemjcjplaagreat", sum := "baace84ad8f08c70cb0988a28c6cf96ddb1680b8e348d6d963bee6f954ed60ca", func := "moiety/moietylaw13.HoldBack", spec := "holdBack", unfollowed := true, recurses := true, apart := false, narrowed := true }
def HoldBackUptoSaid : Prop := holdBackUptoRow.holds Tryz.pinned (OpenSpec.upto holdBackSpec)

/-- 'moietylaw13.HoldOrder', WHERE WHAT IT READS IS OF BULK AT MOST 1048576: true; the input reads as it did. -/
def holdOrderUptoRow : OpenClaim := { program := "ytpkepkemjcjplaagreat", sum := "baace84ad8f08c70cb0988a28c6cf96ddb1680b8e348d6d963bee6f954ed60ca", func := "moiety/moietylaw13.HoldOrder", spec := "holdOrder", unfollowed := true, recurses := true, apart := false, narrowed := true }
def HoldOrderUptoSaid : Prop := holdOrderUptoRow.holds Tryz.pinned (OpenSpec.upto holdOrderSpec)

/-- 'moietylaw13.HoldRegion', WHERE WHAT IT READS IS OF BULK AT MOST 1048576: true; the input reads as it did. -/
def holdRegionUptoRow : OpenClaim := { program := "ytpkepkemjcjplaagreat", sum := "baace84ad8f08c70cb0988a28c6cf96ddb1680b8e348d6d963bee6f954ed60ca", func := "moiety/moietylaw13.HoldRegion", spec := "holdRegion", unfollowed := true, recurses := true, apart := false, narrowed := true }
def HoldRegionUptoSaid : Prop := holdRegionUptoRow.holds Tryz.pinned (OpenSpec.upto holdRegionSpec)

end Rows
end Go.Proofs.YtpkepkemjcjplaaGreat
