/- What the listed variables and the world's shape give; a start that fits. -/
import Derived.Test.YtpehinmckppjoaaGreatDoorCards
import Derived.Test.YtpehinmckppjoaaGreatDoorTie
import Derived.Test.YtpehinmckppjoaaGreatDoorWText8B
import Derived.Test.YtpehinmckppjoaaGreatDoorWPsMB
import Derived.WalkKit
import Derived.ProofKit
import Derived.OpenShut
import Derived.ShutString
import Derived.ChangeOld
import Derived.Below
import Derived.SizedLaws
import Derived.Lay
import Derived.LaidMore
import Derived.Deep.DeepHandedRow
import Derived.Deep.Strs
import Derived.Stop.LaidErr
import Derived.Stop.Joined
import Derived.Shelf.Vars
namespace Go.Proofs.YtpehinmckppjoaaGreatDoor
open Go.ChangeShapes Go.WideShapes Go.ChangeAt Go.RowKit
set_option linter.unusedVariables false

abbrev laid7 : List (String × DataW Unit) := Rows.parseLinesRow.laid
theorem own : ownKnob Tryz.prog.godebug = none := by kernel_rfl
theorem laidOut : laidOutB Tryz.prog = true := by kernel_rfl
theorem gES : Tryz.prog.globalNamed "strconv.ErrSyntax" = some 2 := by kernel_rfl
theorem gER : Tryz.prog.globalNamed "strconv.ErrRange" = some 3 := by kernel_rfl
theorem gEST : (Tryz.prog.globals[2]?).map (·.type) = some 159 := by kernel_rfl
theorem gERT : (Tryz.prog.globals[3]?).map (·.type) = some 159 := by kernel_rfl
theorem cellsES : Tryz.prog.cellsOf 219 = 1 := by kernel_rfl
theorem cellsS : Tryz.prog.cellsOf 9 = 1 := by kernel_rfl
theorem star : "*" ++ "errors.errorString" = "*errors.errorString" := by decide
theorem rowES (u : TypeId) (h : Tryz.prog.typeName? 3 u = some "*errors.errorString") : u = 217 :=
  typeName_ptr_named (nm := "errors.errorString") (by rw [star]; kernel_rfl) (by kernel_rfl) (by decide) u (by rw [star]; exact h)

theorem gFI : Tryz.prog.globalNamed "moiety/parse.firsts" = some 0 := by kernel_rfl
theorem gFIT : (Tryz.prog.globals[0]?).map (·.type) = some 81 := by kernel_rfl
theorem cellsFI : Tryz.prog.cellsOf 81 = 19 := by kernel_rfl
theorem laid_fi : Rows.laid_moiety_parse_firsts (H := Unit) = .agg (kwL.map fun s => .lit (.string s.data.toList)) := by rfl
/-- An array of texts that reads as the table holds the table's texts. -/
theorem fv_of_head {W : World} {rest : List (String × DataW Unit)} (h : laidMet Tryz.prog (("moiety/parse.firsts", Rows.laid_moiety_parse_firsts) :: rest) W) : FV W := by
  obtain ⟨ps, ⟨g', t', cs, fuel, p, q, hg', ht', hvar, hd, _, _⟩, _⟩ := h
  obtain rfl := Option.some.inj (gFI.symm.trans hg')
  obtain rfl := Option.some.inj (gFIT.symm.trans ht')
  rw [laid_fi] at hd
  obtain ⟨xs, m, _, hx, hl, hxl, hq⟩ := DataW.trod_array Tryz.underlying81 hd
  rw [cellsFI] at hl
  simp only [Prod.mk.injEq, DataW.agg.injEq] at hx
  intro i hi
  have h1 := hq i hi
  rw [cellsS, Nat.mul_one, List.getElem?_eq_getElem (by omega)] at h1
  obtain ⟨s, e1, e2, _⟩ := DataW.trod_string Tryz.underlying9 h1
  have h2 : (xs.map (·.1))[i]? = some (DataW.lit (.string s.data.toList) : DataW Unit) := by
    rw [List.getElem?_map, List.getElem?_eq_getElem (by omega), e2]
    rfl
  rw [← hx.1, List.getElem?_map] at h2
  have hk : i < kwL.length := hi
  rw [List.getElem?_eq_getElem hk] at h2
  simp only [Option.map_some, Option.some.injEq, DataW.lit.injEq, Lit.string.injEq] at h2
  have h3 : kwL[i] = s := data_inj h2
  have h4 : cs.toList[i]? = some (.string s) := by
    have h5 := congrArg (·[0]?) e1
    simpa [List.getElem?_take, List.getElem?_drop] using h5
  have hc := World.var?_cell gFI hvar i
  rw [hc, List.getD_eq_getElem?_getD, List.getElem?_eq_getElem hk]
  rw [Option.getD_some, h3]
  simpa using h4
def VarsP (W : World) : Prop := Vars W ∧ FV W
theorem VarsP.kept {w w' : World} (h : VarsP w) (k : Kept w w') : VarsP w' := ⟨h.1.kept k, h.2.kept k⟩
theorem vars_of {W : World} (hL : laidMetH Tryz.prog laid7 W) (hsh : W.ShapedOpen Tryz.prog) : VarsP W := by
  rw [MakeChecks.laidMetH_plain _ _ _ (by kernel_rfl)] at hL
  have h4 : laidMet Tryz.prog [("strconv.ErrRange", Rows.laid_strconv_ErrRange), ("strconv.ErrSyntax", Rows.laid_strconv_ErrSyntax), ("moiety/parse.firsts", Rows.laid_moiety_parse_firsts), ("unicode/utf8.first", Rows.laid_unicode_utf8_first)] W := hL.tail.tail.tail.tail
  obtain ⟨a1, s1, hv1, -, -, -⟩ := laid_sentinel h4 gER gERT Tryz.underlying159 rowES Tryz.underlying217 Tryz.underlying219 rfl rfl Tryz.underlying9 cellsES cellsS
  obtain ⟨a0, s0, hv0, -, -, -⟩ := laid_sentinel h4.tail gES gEST Tryz.underlying159 rowES Tryz.underlying217 Tryz.underlying219 rfl rfl Tryz.underlying9 cellsES cellsS
  refine ⟨?_, fv_of_head h4.tail.tail⟩
  refine ⟨⟨_, (by have h0 := World.var?_cell gES hv0 0; simpa using h0), Or.inr ⟨_, _, rfl⟩⟩, ⟨_, (by have h0 := World.var?_cell gER hv1 0; simpa using h0), Or.inr ⟨_, _, rfl⟩⟩, ?_⟩
  exact cell_of_shapedOpen_int (zero := #[.int .i64 0]) (t := 3) hsh (of_decide_eq_true (by kernel_rfl)) (by kernel_rfl) rfl (by kernel_rfl) (by kernel_rfl) Tryz.underlying3

theorem start_fits {H : Type} {enc : TypeId × Value → H} {os : Os} {f : FuncId} {fn : Func} {s : OpenSpec} (args : Array Value)
    (hsh : ((World.laidAll Tryz.prog os laid7).forCall (fun _ _ => 0) ⟨#[], args, []⟩).Shaped Tryz.checked.prog)
    (hok : Input.okWideB Tryz.checked.prog ((World.laidAll Tryz.prog os laid7).forCall (fun _ _ => 0) ⟨#[], args, []⟩) f ⟨#[], args, []⟩ = true)
    (hrow : s.preRow enc Tryz.checked.prog fn [] false laid7 ((World.laidAll Tryz.prog os laid7).forCall (fun _ _ => 0) ⟨#[], args, []⟩).memory args) :
    ∃ (w : World) (tape : Tape) (i : Input), w.os = os ∧ (w.forCall tape i).Shaped Tryz.checked.prog ∧ i.vars = [] ∧ Input.okWide Tryz.checked.prog (w.forCall tape i) .any w.heap.size f i ∧
      s.preRow enc Tryz.checked.prog fn [] false laid7 (w.forCall tape i).memory i.args ∧ ({} : Assume).holds Tryz.checked.prog (lone (Frame.enter Tryz.checked.prog f i.args .normal) [] (w.forCall tape i)) :=
  ⟨World.laidAll Tryz.prog os laid7, fun _ _ => 0, ⟨#[], args, []⟩, World.laidAll_os _ _ _, hsh, (Input.okWide_of_okWideB (base := 0) hok).1, (Input.okWide_of_okWideB hok).2, hrow, by
    simp only [Assume.holds]
    exact ⟨by simp, by simp, by simp, by simp, by simp⟩⟩
theorem laid_all (os : Os) (args : Array Value) : laidMetH Tryz.prog laid7 ((World.laidAll Tryz.prog os laid7).forCall (fun _ _ => 0) ⟨#[], args, []⟩).memory := by
  rw [MakeChecks.laidMetH_plain _ _ _ (by kernel_rfl)]
  exact laidMet_laidAll _ (by kernel_rfl) (by kernel_rfl)
end Go.Proofs.YtpehinmckppjoaaGreatDoor
