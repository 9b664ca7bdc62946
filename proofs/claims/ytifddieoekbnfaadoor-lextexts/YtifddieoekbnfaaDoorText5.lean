/- text.Read and the definition's. -/
import Derived.Test.YtifddieoekbnfaaDoorText4
import Derived.Test.YtifddieoekbnfaaDoorReadMath
import Derived.Test.YtifddieoekbnfaaDoorDoorShelf
import Derived.Test.YtifddieoekbnfaaDoorOwn
namespace Go.Proofs.YtifddieoekbnfaaDoor
open Go.RowKit
set_option linter.unusedSimpArgs false
set_option linter.unusedVariables false

/-- The library's variables that are read: two errors, and a number. -/
def Vars (w : World) : Prop := (∃ e, w.cell? ⟨1, 0, none⟩ = some e ∧ (e = .nilIface ∨ ∃ te pe, e = .iface te pe)) ∧ (∃ e, w.cell? ⟨2, 0, none⟩ = some e ∧ (e = .nilIface ∨ ∃ te pe, e = .iface te pe)) ∧ ∃ m, w.cell? ⟨0, 0, none⟩ = some (.int .i64 m)
theorem Vars.kept {w w' : World} (h : Vars w) (k : Kept w w') : Vars w' := by
  obtain ⟨⟨e, h1, h2⟩, ⟨f, h3, h4⟩, m, h5⟩ := h
  exact ⟨⟨e, (k.cell (p := ⟨1, 0, none⟩) (cell_lt h1)).trans h1, h2⟩, ⟨f, (k.cell (p := ⟨2, 0, none⟩) (cell_lt h3)).trans h3, h4⟩, m, (k.cell (p := ⟨0, 0, none⟩) (cell_lt h5)).trans h5⟩
theorem kept_bytes (w : World) (e : TypeId) (t : ByteArray) : Kept w (Lib.bytesWorld w e t) := by
  exact Lib.bytesWorld_below _ _ _

theorem neq_nil (w : World) : (binOp .neq 60 .nilIface .nilIface).run Tryd.prog w = .ok (.bool false) w := by kernel_rfl
theorem neq_ptr (T : TypeId) (a : Addr) (w : World) : (binOp .neq 60 (.iface 93 (.pointer (some a))) .nilIface).run Tryd.prog w = .ok (.bool true) w := by kernel_rfl

set_option maxHeartbeats 400000 in
theorem text_Read_ok (v : Int) (hv : isI v) (w : World) : Calls Tryd.prog 28 #[.string (numS v)] w fun e w' => e = .returned (.tuple #[.int .i64 v, .int .i64 0]) ∧ Kept w w' := by
  have hsz := numS_size v hv
  have HP := hidMk (Tryd.strconv_ParseInt_10_at64_ok (numS v) (by omega) v (parse_num v hv))
  have HN := hidMk (text_Num v hv)
  have hq := neq_nil
  generalize numS v = s at *
  go_enter Tryd.func28, Tryd.ntmps28
  go_wp2_with fail
  refine (HP.out _).mono ?_
  rintro e w1 ⟨rfl, h1⟩
  have K1 : Hid (Kept w w1) := hidMk (by rcases h1 with rfl | ⟨t, rfl⟩
                                         · exact Kept.refl _
                                         · exact kept_bytes _ _ _)
  clear h1
  go_wp2_with (go_at_call 43; refine (HN.out _).mono ?_; rintro e w2 ⟨rfl, k2⟩)
  go_ret2
  exact ⟨rfl, K1.out.trans k2⟩

set_option maxHeartbeats 400000 in
theorem text_Read_no (s : ByteArray) (hs : s.size ≤ 140737488355328) (hno : ∀ v, isI v → numS v ≠ s) (w : World) (hV : Vars w) : Calls Tryd.prog 28 #[.string s] w fun e w' => e = .returned (.tuple #[.int .i64 0, .int .i64 6]) ∧ Kept w w' := by
  have HNO := hidMk hno
  have HV := hidMk hV
  clear hno hV
  cases hp : Lib.parseIntB 64 s.data.toList with
  | ok v =>
    have hv := parse_is hp
    have HP := hidMk (Tryd.strconv_ParseInt_10_at64_ok s (by omega) v hp)
    have HN := hidMk (text_Num v hv)
    have hne := HNO.out v hv
    have hne2 : ((numS v).toList == s.toList) = false := by
      rw [beq_eq_false_iff_ne]
      intro e
      apply hne
      apply ByteArray.ext
      rw [ByteArray.toList_eq, ByteArray.toList_eq] at e
      exact Array.ext' e
    have hq := neq_nil
    clear hp hv hne
    generalize numS v = x at *
    go_enter Tryd.func28, Tryd.ntmps28
    go_wp2_with fail
    refine (HP.out _).mono ?_
    rintro e w1 ⟨rfl, h1⟩
    have K1 : Hid (Kept w w1) := hidMk (by rcases h1 with rfl | ⟨t, rfl⟩
                                           · exact Kept.refl _
                                           · exact kept_bytes _ _ _)
    clear h1
    go_wp2_with (go_at_call 43; refine (HN.out _).mono ?_; rintro e w2 ⟨rfl, k2⟩)
    go_ret2
    exact ⟨rfl, K1.out.trans k2⟩
  | «syntax» =>
    obtain ⟨⟨ev, h1, h2⟩, _⟩ := HV.out
    have HP := hidMk (Tryd.strconv_ParseInt_10_at64_syntax s (by omega) hp ev w h1 h2)
    have hq := neq_ptr
    clear hp h1 h2
    go_enter Tryd.func28, Tryd.ntmps28
    go_wp2_with fail
    refine HP.out.mono ?_
    rintro e w1 ⟨N, rfl, _, _, k1⟩
    have K1 : Hid (Kept w w1) := hidMk k1
    clear k1
    go_wp2_with fail
    go_ret2
    exact ⟨rfl, K1.out⟩
  | range =>
    obtain ⟨_, ⟨ev, h1, h2⟩, _⟩ := HV.out
    have HP := hidMk (Tryd.strconv_ParseInt_10_at64_range s (by omega) hp ev w h1 h2)
    have hq := neq_ptr
    clear hp h1 h2
    go_enter Tryd.func28, Tryd.ntmps28
    go_wp2_with fail
    refine HP.out.mono ?_
    rintro e w1 ⟨N, rfl, _, _, k1⟩
    have K1 : Hid (Kept w w1) := hidMk k1
    clear k1
    go_wp2_with fail
    go_ret2
    exact ⟨rfl, K1.out⟩
end Go.Proofs.YtifddieoekbnfaaDoor
