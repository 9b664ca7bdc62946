/- block: what is not there; what must come of fixed calls. -/
import Derived.Test.YtcmhfmbpbbdemaaBk2
import Derived.Test.YtcmhfmbpbbdemaaByteRow2
import Derived.Lib.SmallJoins
namespace Go.Proofs.Ytcmhfmbpbbdemaa
open Go.RowKit Go.Maps
set_option linter.unusedSimpArgs false
set_option linter.unusedVariables false

theorem nil_Size (w : World) : Calls Try.prog 11 #[.pointer none] w fun e w' => e = .returned (.int .i64 0) ∧ w' = w := by
  go_enter Try.func11, Try.ntmps11
  go_wp2_with fail
  go_ret
  exact ⟨rfl, rfl⟩
theorem nil_Off (w : World) : Calls Try.prog 25 #[.pointer none] w fun e w' => e = .returned (.bool false) ∧ w' = w := by
  go_enter Try.func25, Try.ntmps25
  go_wp2_with fail
  go_ret
  exact ⟨rfl, rfl⟩
theorem nil_Writes (w : World) : Calls Try.prog 26 #[.pointer none] w fun e w' => e = .returned (.int .i64 0) ∧ w' = w := by
  go_enter Try.func26, Try.ntmps26
  go_wp2_with fail
  go_ret
  exact ⟨rfl, rfl⟩
theorem nil_Up (w : World) : Calls Try.prog 20 #[.pointer none] w fun e w' => e = .returned (.int .i64 1) ∧ w' = w := by
  go_enter Try.func20, Try.ntmps20
  go_wp2_with fail
  go_ret
  exact ⟨rfl, rfl⟩
theorem nil_Copy (w : World) : Calls Try.prog 21 #[.pointer none] w fun e w' => e = .returned (.pointer none) ∧ w' = w := by
  go_enter Try.func21, Try.ntmps21
  go_wp2_with fail
  go_ret
  exact ⟨rfl, rfl⟩
theorem nil_Stop (x y : Int) (w : World) : Calls Try.prog 17 #[.pointer none, .int .i64 x, .int .i64 y] w fun e w' => e = .returned (.int .i64 1) ∧ w' = w := by
  go_enter Try.func17, Try.ntmps17
  go_wp2_with fail
  go_ret
  exact ⟨rfl, rfl⟩
theorem nil_reach (n : Int) (w : World) : Calls Try.prog 36 #[.pointer none, .int .i64 n] w fun e w' => e = .returned (.int .i64 1) ∧ w' = w := by
  go_enter Try.func36, Try.ntmps36
  go_wp2_with fail
  go_ret
  exact ⟨rfl, rfl⟩
theorem nil_Read (n : Int) (w : World) : Calls Try.prog 15 #[.pointer none, .int .i64 n] w fun e w' => e = .returned (.tuple #[.slice none 0 0, .int .i64 1]) ∧ w' = w := by
  go_enter Try.func15, Try.ntmps15
  go_wp2_with (go_at_call 36; refine (nil_reach _ _).mono ?_; rintro e w1 ⟨rfl, rfl⟩)
  go_ret2
  exact ⟨rfl, rfl⟩
theorem nil_Write (n : Int) (a : Option Addr) (m c : Nat) (w : World) : Calls Try.prog 13 #[.pointer none, .int .i64 n, .slice a m c] w fun e w' => e = .returned (.int .i64 1) ∧ w' = w := by
  go_enter Try.func13, Try.ntmps13
  go_wp2_with (go_at_call 36; refine (nil_reach _ _).mono ?_; rintro e w1 ⟨rfl, rfl⟩)
  go_ret
  exact ⟨rfl, rfl⟩
theorem nil_Same (w : World) : Calls Try.prog 24 #[.pointer none, .pointer none] w fun e w' => e = .returned (.bool false) ∧ Kept w w' := by
  go_enter Try.func24, Try.ntmps24
  go_wp2_with fail
  go_quiet (fail)
  go_wp2_with fail
  go_ret
  exact ⟨rfl, (Kept.refl w).drewN _⟩
theorem Fl.down {w0 w w' : World} {f d : Nat} (k : Kept w0 w) (g : Chg (Of f d) w w') (hf : w0.heap.size ≤ f) (hd : w0.heap.size ≤ d) : Kept w0 w' := Chg.kept k g (fun j hj => by rcases hj with rfl | rfl <;> assumption)
theorem new_ok (N : Nat) : Ok (news N) := ⟨Int.le_refl 0, by simp [news], Int.le_refl 0, by simp [news], Int.le_refl 0⟩
/-- Bytes that stand in the program's own text. -/
theorem sl_lit (w : World) (l : List Int) (t : TypeId) (fr : Nat × Nat) (h : l.length ≤ 100) : Sl .u8 (w.alloc (.cells (bv l).toArray t fr)) (some ⟨w.heap.size, 0, none⟩) l.length l := by
  refine ⟨rfl, by unfold maxLen; omega, fun _ => ⟨_, _, rfl, by simp, fun i hi => ?_⟩⟩
  rw [Nat.zero_add, World.cell?_alloc_mark w _ t fr i]
  rw [List.getElem?_toArray]; exact bv_get hi

def k1 : Bf := wrS (news 2) 2 0 [97, 98, 99]
def k2 : Bf := stS k1 0 1
def k3 : Bf := wrS k2 2 0 [120, 121, 122]
def k4 : Bf := upS k3
theorem k4_blk : blk k4.F 0 = [120, 98, 99, 0, 0, 0, 0, 0, 0, 0, 0, 0, 0, 0, 0, 0, 0, 0, 0, 0, 0, 0, 0, 0, 0, 0, 0, 0, 0, 0, 0, 0] := by rfl
set_option maxHeartbeats 4000000 in
set_option maxRecDepth 100000 in
theorem law23_known (w : World) : Calls Try.prog 10 #[] w fun e w' => e = .returned (.bool true) ∧ Kept w w' := by
  go_enter Try.func10, Try.ntmps10
  go_wp2_with fail
  refine (bk_New 2 w).mono ?_
  intro e w1 h1
  rw [if_pos (by omega)] at h1
  obtain ⟨f, d, rfl, hf, hd, f1, q1⟩ := h1
  have F1 := hidMk (show Fl w1 f d 2 (news 2) from f1)
  have Q1 := hidMk q1
  clear f1 q1
  go_wp2_with fail
  rw [Lib.run_convert_bytes_const w1 _ _ _ 3 3 Try.underlying32 Try.underlying5]
  go_wp2_with fail
  have HL2 := hidMk (sl_lit w1 [97, 98, 99] 5 (3, 4) (by decide))
  have K2 := hidMk (((Kept.refl w1).alloc (.cells (bv [97, 98, 99]).toArray 5 (3, 4))))
  have F2 := hidMk (F1.out.kept K2.out)
  have Q2 := hidMk (Q1.out.trans K2.out)
  refine (bk_Write (s := news 2) (N := 2) (l := [97, 98, 99]) F2.out (new_ok 2) (by decide) 0 _ 3 3 HL2.out (by intro x hx; simp at hx; unfold isB; omega)).mono ?_
  rintro e w3 ⟨rfl, f3, q3⟩
  have F3 := hidMk (show Fl w3 f d 2 k1 from f3)
  have Q3 := hidMk (Fl.down Q2.out q3 hf hd)
  clear f3 q3 F1 Q1 K2 F2 HL2 Q2
  rw [show wrE (news 2) 2 0 3 = 0 by decide]
  go_wp2_with fail
  refine (bk_Stop F3.out 0 1).mono ?_
  rintro e w4 ⟨rfl, f4, q4⟩
  have F4 := hidMk (show Fl w4 f d 2 k2 from f4)
  have Q4 := hidMk (Fl.down Q3.out (q4.mono (fun j _ e => .inl e)) hf hd)
  clear f4 q4 F3 Q3
  rw [show stE k1 0 1 = 0 by decide]
  go_wp2_with fail
  rw [Lib.run_convert_bytes_const w4 _ _ _ 3 3 Try.underlying32 Try.underlying5]
  go_wp2_with fail
  have HL5 := hidMk (sl_lit w4 [120, 121, 122] 5 (3, 4) (by decide))
  have K5 := hidMk (((Kept.refl w4).alloc (.cells (bv [120, 121, 122]).toArray 5 (3, 4))))
  have F5 := hidMk (F4.out.kept K5.out)
  have Q5 := hidMk (Q4.out.trans K5.out)
  refine (bk_Write (s := k2) (N := 2) (l := [120, 121, 122]) F5.out ⟨by decide, by decide, by decide, by decide, by decide⟩ (by decide) 0 _ 3 3 HL5.out (by intro x hx; simp at hx; unfold isB; omega)).mono ?_
  rintro e w6 ⟨rfl, f6, q6⟩
  have F6 := hidMk (show Fl w6 f d 2 k3 from f6)
  have Q6 := hidMk (Fl.down Q5.out q6 hf hd)
  clear f6 q6 F4 Q4 K5 F5 HL5 Q5
  rw [show wrE k2 2 0 3 = 21 by decide]
  go_wp2_with fail
  refine (bk_Off F6.out).mono ?_
  rintro e w7 ⟨rfl, hw7⟩
  rw [hw7, show k3.off = true by decide]
  clear hw7 w7
  go_wp2_with fail
  refine (bk_Up F6.out).mono ?_
  rintro e w8 ⟨rfl, f8, q8⟩
  have F8 := hidMk (show Fl w8 f d 2 k4 from f8)
  have Q8 := hidMk (Fl.down Q6.out (q8.mono (fun j _ e => .inl e)) hf hd)
  clear f8 q8 F6 Q6
  go_wp2_with fail
  refine (bk_Read F8.out 0).mono ?_
  rintro e w9 ⟨v, rfl, o9, q9⟩
  rw [show bad k4 2 0 = 0 by decide] at o9 ⊢
  rw [if_pos rfl, show (0 : Int).toNat = 0 from rfl, k4_blk] at o9
  obtain ⟨g, c, rfl, hg1, hg2⟩ := owned_at o9 (by decide)
  have S9 := hidMk (owned_slx o9 rfl (by unfold maxLen; decide))
  have F9 := hidMk (F8.out.kept q9)
  have Q9 := hidMk (Q8.out.trans q9)
  have hc : 32 ≤ c := by
    obtain ⟨_, ⟨e, _⟩ | ⟨g', cap, cur, hv, _, _, hcc, _⟩⟩ := o9
    · cases e
    · cases hv; exact hcc
  clear o9 q9 F8 Q8
  have st := run_string_sl (c := c) (sl_take S9.out 4 (by decide)) (by intro x hx; simp at hx; unfold isB; omega)
  rw [show str (List.take 4 [120, 98, 99, 0, 0, 0, 0, 0, 0, 0, 0, 0, 0, 0, 0, 0, 0, 0, 0, 0, 0, 0, 0, 0, 0, 0, 0, 0, 0, 0, 0, 0]) = ⟨#[120, 98, 99, 0]⟩ from rfl] at st
  rw [show ([120, 98, 99, 0, 0, 0, 0, 0, 0, 0, 0, 0, 0, 0, 0, 0, 0, 0, 0, 0, 0, 0, 0, 0, 0, 0, 0, 0, 0, 0, 0, 0] : List Int).length = 32 from rfl]
  have h4c : (4 : Int) ≤ (c : Int) := by omega
  go_wp2_with (go_at_call 26; refine (bk_Writes F9.out).mono ?_; rintro e w10 ⟨rfl, hw10⟩; rw [hw10, show k4.wr = 2 by decide]; clear hw10 w10)
  go_ret
  exact ⟨rfl, Q9.out⟩
end Go.Proofs.Ytcmhfmbpbbdemaa
