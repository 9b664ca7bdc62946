/- block: what is not there; what must come of fixed calls. -/
import Derived.Test.YtapcmkhpbdphoaaBk2
import Derived.Test.YtapcmkhpbdphoaaByteRow2
import Derived.Lib.SmallJoins
namespace Go.Proofs.Ytapcmkhpbdphoaa
open Go.RowKit Go.Maps
set_option linter.unusedSimpArgs false
set_option linter.unusedVariables false

theorem nil_Size (w : World) : Calls Try.prog 44 #[.pointer none] w fun e w' => e = .returned (.int .i64 0) ∧ w' = w := by
  go_enter Try.func44, Try.ntmps44
  go_wp2_with fail
  go_ret
  exact ⟨rfl, rfl⟩
theorem nil_Off (w : World) : Calls Try.prog 32 #[.pointer none] w fun e w' => e = .returned (.bool false) ∧ w' = w := by
  go_enter Try.func32, Try.ntmps32
  go_wp2_with fail
  go_ret
  exact ⟨rfl, rfl⟩
theorem nil_Writes (w : World) : Calls Try.prog 30 #[.pointer none] w fun e w' => e = .returned (.int .i64 0) ∧ w' = w := by
  go_enter Try.func30, Try.ntmps30
  go_wp2_with fail
  go_ret
  exact ⟨rfl, rfl⟩
theorem nil_Up (w : World) : Calls Try.prog 16 #[.pointer none] w fun e w' => e = .returned (.int .i64 1) ∧ w' = w := by
  go_enter Try.func16, Try.ntmps16
  go_wp2_with fail
  go_ret
  exact ⟨rfl, rfl⟩
theorem nil_Copy (w : World) : Calls Try.prog 45 #[.pointer none] w fun e w' => e = .returned (.pointer none) ∧ w' = w := by
  go_enter Try.func45, Try.ntmps45
  go_wp2_with fail
  go_ret
  exact ⟨rfl, rfl⟩
theorem nil_Stop (x y : Int) (w : World) : Calls Try.prog 15 #[.pointer none, .int .i64 x, .int .i64 y] w fun e w' => e = .returned (.int .i64 1) ∧ w' = w := by
  go_enter Try.func15, Try.ntmps15
  go_wp2_with fail
  go_ret
  exact ⟨rfl, rfl⟩
theorem nil_reach (n : Int) (w : World) : Calls Try.prog 50 #[.pointer none, .int .i64 n] w fun e w' => e = .returned (.int .i64 1) ∧ w' = w := by
  go_enter Try.func50, Try.ntmps50
  go_wp2_with fail
  go_ret
  exact ⟨rfl, rfl⟩
theorem nil_Read (n : Int) (w : World) : Calls Try.prog 46 #[.pointer none, .int .i64 n] w fun e w' => e = .returned (.tuple #[.slice none 0 0, .int .i64 1]) ∧ w' = w := by
  go_enter Try.func46, Try.ntmps46
  go_wp2_with (go_at_call 50; refine (nil_reach _ _).mono ?_; rintro e w1 ⟨rfl, rfl⟩)
  go_ret2
  exact ⟨rfl, rfl⟩
theorem nil_Write (n : Int) (a : Option Addr) (m c : Nat) (w : World) : Calls Try.prog 38 #[.pointer none, .int .i64 n, .slice a m c] w fun e w' => e = .returned (.int .i64 1) ∧ w' = w := by
  go_enter Try.func38, Try.ntmps38
  go_wp2_with (go_at_call 50; refine (nil_reach _ _).mono ?_; rintro e w1 ⟨rfl, rfl⟩)
  go_ret
  exact ⟨rfl, rfl⟩
theorem Fl.down {w0 w w' : World} {f d : Nat} (k : Kept w0 w) (g : Chg (Of f d) w w') (hf : w0.heap.size ≤ f) (hd : w0.heap.size ≤ d) : Kept w0 w' := Chg.kept k g (fun j hj => by rcases hj with rfl | rfl <;> assumption)
theorem new_ok (N : Nat) : Ok (news N) := ⟨Int.le_refl 0, by simp [news], Int.le_refl 0, by simp [news], Int.le_refl 0⟩
/-- Bytes that stand in the program's own text. -/
theorem sl_lit (w : World) (l : List Int) (t : TypeId) (fr : Nat × Nat) (h : l.length ≤ 100) : Sl .u8 (w.alloc (.cells (bv l).toArray t fr)) (some ⟨w.heap.size, 0, none⟩) l.length l := by
  refine ⟨rfl, by unfold maxLen; omega, fun _ => ⟨_, _, rfl, by simp, fun i hi => ?_⟩⟩
  rw [Nat.zero_add, World.cell?_alloc_mark w _ t fr i]
  rw [List.getElem?_toArray]; exact bv_get hi

def k1 : Bf := wrS (news 2) 2 0 [97, 98, 99]
def k2 : Bf := stS k1 0 1
def k3 : Bf := wrS k2 2 0 [120, 121, 122]
def k4 : Bf := upS k3
theorem k4_blk : blk k4.F 0 = [120, 98, 99, 0, 0, 0, 0, 0, 0, 0, 0, 0, 0, 0, 0, 0, 0, 0, 0, 0, 0, 0, 0, 0, 0, 0, 0, 0, 0, 0, 0, 0] := by rfl
end Go.Proofs.Ytapcmkhpbdphoaa
