/- text.Read and the definition's. · The definition's Read. · text.Words, text.Lines; two lists that are held against each other. · Two lists of texts held against each other; what must come of fixed calls (layer 3). -/
import Derived.Test.YtpehinmckppjoaaGreatDoorQReadMathB
import Derived.Test.YtpehinmckppjoaaGreatDoorQDoorShelf
import Derived.Test.YtpehinmckppjoaaGreatDoorQStrsB
import Derived.Lib.SplitLaws
namespace Go.Proofs.YtpehinmckppjoaaGreatDoor
open Go.RowKit
set_option linter.unusedSimpArgs false
set_option linter.unusedVariables false

/-- The library's variables that are read: two errors, and a number. -/
def Vars (w : World) : Prop := (∃ e, w.cell? ⟨2, 0, none⟩ = some e ∧ (e = .nilIface ∨ ∃ te pe, e = .iface te pe)) ∧ (∃ e, w.cell? ⟨3, 0, none⟩ = some e ∧ (e = .nilIface ∨ ∃ te pe, e = .iface te pe)) ∧ ∃ m, w.cell? ⟨1, 0, none⟩ = some (.int .i64 m)
theorem Vars.kept {w w' : World} (h : Vars w) (k : Kept w w') : Vars w' := by
  obtain ⟨⟨e, h1, h2⟩, ⟨f, h3, h4⟩, m, h5⟩ := h
  exact ⟨⟨e, (k.cell (p := ⟨2, 0, none⟩) (cell_lt h1)).trans h1, h2⟩, ⟨f, (k.cell (p := ⟨3, 0, none⟩) (cell_lt h3)).trans h3, h4⟩, m, (k.cell (p := ⟨1, 0, none⟩) (cell_lt h5)).trans h5⟩
theorem kept_bytes (w : World) (e : TypeId) (t : ByteArray) : Kept w (Lib.bytesWorld w e t) := by
  exact Lib.bytesWorld_below _ _ _

theorem neq_nil (w : World) : (binOp .neq 159 .nilIface .nilIface).run Tryz.prog w = .ok (.bool false) w := by kernel_rfl
theorem neq_ptr (T : TypeId) (a : Addr) (w : World) : (binOp .neq 159 (.iface 207 (.pointer (some a))) .nilIface).run Tryz.prog w = .ok (.bool true) w := by kernel_rfl

set_option maxHeartbeats 400000 in
theorem text_Read_ok (v : Int) (hv : isI v) (w : World) : Calls Tryz.prog 76 #[.string (numS v)] w fun e w' => e = .returned (.tuple #[.int .i64 v, .int .i64 0]) ∧ Kept w w' := by
  have hsz := numS_size v hv
  have HP := hidMk (Tryz.strconv_ParseInt_10_at64_ok (numS v) (by omega) v (parse_num v hv))
  have HN := hidMk (text_Num v hv)
  have hq := neq_nil
  generalize numS v = s at *
  go_enter Tryz.func76, Tryz.ntmps76
  go_wp2_with fail
  refine (HP.out _).mono ?_
  rintro e w1 ⟨rfl, h1⟩
  have K1 : Hid (Kept w w1) := hidMk (by rcases h1 with rfl | ⟨t, rfl⟩
                                         · exact Kept.refl _
                                         · exact kept_bytes _ _ _)
  clear h1
  go_wp2_with (go_at_call 105; refine (HN.out _).mono ?_; rintro e w2 ⟨rfl, k2⟩)
  go_ret2
  exact ⟨rfl, K1.out.trans k2⟩

set_option maxHeartbeats 400000 in
theorem text_Read_no (s : ByteArray) (hs : s.size ≤ 140737488355328) (hno : ∀ v, isI v → numS v ≠ s) (w : World) (hV : Vars w) : Calls Tryz.prog 76 #[.string s] w fun e w' => e = .returned (.tuple #[.int .i64 0, .int .i64 6]) ∧ Kept w w' := by
  have HNO := hidMk hno
  have HV := hidMk hV
  clear hno hV
  cases hp : Lib.parseIntB 64 s.data.toList with
  | ok v =>
    have hv := parse_is hp
    have HP := hidMk (Tryz.strconv_ParseInt_10_at64_ok s (by omega) v hp)
    have HN := hidMk (text_Num v hv)
    have hne := HNO.out v hv
    have hne2 : ((numS v).toList == s.toList) = false := by
      rw [beq_eq_false_iff_ne]
      intro e
      apply hne
      apply ByteArray.ext
      rw [ByteArray.toList_eq, ByteArray.toList_eq] at e
      exact Array.ext' e
    have hq := neq_nil
    clear hp hv hne
    generalize numS v = x at *
    go_enter Tryz.func76, Tryz.ntmps76
    go_wp2_with fail
    refine (HP.out _).mono ?_
    rintro e w1 ⟨rfl, h1⟩
    have K1 : Hid (Kept w w1) := hidMk (by rcases h1 with rfl | ⟨t, rfl⟩
                                           · exact Kept.refl _
                                           · exact kept_bytes _ _ _)
    clear h1
    go_wp2_with (go_at_call 105; refine (HN.out _).mono ?_; rintro e w2 ⟨rfl, k2⟩)
    go_ret2
    exact ⟨rfl, K1.out.trans k2⟩
  | «syntax» =>
    obtain ⟨⟨ev, h1, h2⟩, _⟩ := HV.out
    have HP := hidMk (Tryz.strconv_ParseInt_10_at64_syntax s (by omega) hp ev w h1 h2)
    have hq := neq_ptr
    clear hp h1 h2
    go_enter Tryz.func76, Tryz.ntmps76
    go_wp2_with fail
    refine HP.out.mono ?_
    rintro e w1 ⟨N, rfl, _, _, k1⟩
    have K1 : Hid (Kept w w1) := hidMk k1
    clear k1
    go_wp2_with fail
    go_ret2
    exact ⟨rfl, K1.out⟩
  | range =>
    obtain ⟨_, ⟨ev, h1, h2⟩, _⟩ := HV.out
    have HP := hidMk (Tryz.strconv_ParseInt_10_at64_range s (by omega) hp ev w h1 h2)
    have hq := neq_ptr
    clear hp h1 h2
    go_enter Tryz.func76, Tryz.ntmps76
    go_wp2_with fail
    refine HP.out.mono ?_
    rintro e w1 ⟨N, rfl, _, _, k1⟩
    have K1 : Hid (Kept w w1) := hidMk k1
    clear k1
    go_wp2_with fail
    go_ret2
    exact ⟨rfl, K1.out⟩
end Go.Proofs.YtpehinmckppjoaaGreatDoor
namespace Go.Proofs.YtpehinmckppjoaaGreatDoor
open Go.RowKit
set_option linter.unusedSimpArgs false
set_option linter.unusedVariables false

theorem bytes_ne {a b : ByteArray} (h : a ≠ b) : (a.toList == b.toList) = false := by
  rw [beq_eq_false_iff_ne]
  intro e
  apply h
  apply ByteArray.ext
  rw [ByteArray.toList_eq, ByteArray.toList_eq] at e
  exact Array.ext' e
/-- What the definition's Read comes to. -/
def refV (s : ByteArray) : Int := if 0 < s.size ∧ bat s 0 = 45 then wrap64 (IntKind.u64.wrap (-valR 0 (byt s))) else wrap64 (valR 0 (byt s))
theorem refV_is (s : ByteArray) : isI (refV s) := by
  unfold refV; split <;> exact wrap64_is _
theorem refV_num (v : Int) (hv : isI v) : refV (numS v) = v := by
  have h1 := numL_head v
  have e : bat (numS v) 0 = (numL v).getD 0 0 := by unfold bat; rw [numS_byt]
  have hs : 0 < (numS v).size := by unfold numS; rw [str_size]; exact h1.1
  unfold refV
  rw [numS_byt, valR_num v hv, e]
  unfold isI at hv
  by_cases h : v < 0
  · rw [if_pos ⟨hs, h1.2.2 h⟩, if_pos h, IntKind.wrap_u64]
    unfold wrap64; omega
  · rw [if_neg (fun hh => h (h1.2.1 hh.2)), if_neg h]
    unfold wrap64; omega

end Go.Proofs.YtpehinmckppjoaaGreatDoor
namespace Go.Proofs.YtpehinmckppjoaaGreatDoor
open Go.RowKit
set_option linter.unusedSimpArgs false
set_option linter.unusedVariables false

theorem ss_new (w : World) (l : List ByteArray) (T : TypeId) (h : l.length ≤ maxLen) : Ss (w.alloc (.cells (l.map Value.string).toArray T)) (some ⟨w.heap.size, 0, none⟩) l.length l := by
  refine ⟨rfl, h, fun hp => ⟨_, _, rfl, by simp, fun i hi => ?_⟩⟩
  simp [List.getElem?_eq_getElem hi, List.getD]

def isBlank : Nat → Bool := fun x => (x : Int) == 32
theorem words_fn (x : Nat) (w : World) : Calls Tryz.prog 102 #[.int .i32 (x : Int)] w fun e w' => e = .returned (.bool (isBlank x)) ∧ w' = w := by
  unfold isBlank
  go_enter Tryz.func102, Tryz.ntmps102
  go_wp2
  go_ret
  exact ⟨rfl, rfl⟩
theorem words_pred (w : World) : PredAt Tryz.prog 102 #[] encR isBlank w := by
  intro W x _
  refine (words_fn x W).mono ?_
  rintro e w' ⟨rfl, rfl⟩
  exact ⟨rfl, 0, rfl⟩
theorem words_enters : ∀ args w, (callFunc 102 args).run Tryz.prog w = .ok (.enter 102 args) w :=
  enters_of Tryz.func102 (by kernel_rfl) rfl

def wordsB (s : ByteArray) : List ByteArray := Lib.goFieldsP isBlank s
end Go.Proofs.YtpehinmckppjoaaGreatDoor
namespace Go.Proofs.YtpehinmckppjoaaGreatDoor
open Go.RowKit
set_option linter.unusedSimpArgs false
set_option linter.unusedVariables false

end Go.Proofs.YtpehinmckppjoaaGreatDoor
