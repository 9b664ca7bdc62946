/- A history that leaves some blocks alone; what must come of fixed calls. -/
import Derived.Test.YtbikelbobanfbaaUndo4
import Derived.Test.YtbikelbobanfbaaIntsR
namespace Go.Proofs.Ytbikelbobanfbaa
open Go.RowKit Go.Maps
set_option linter.unusedSimpArgs false
set_option linter.unusedVariables false

/-- A history none of whose blocks is one of T. -/
def Hs (w : World) (T : Nat → Prop) (hb : Nat) (past : List Int) (now : Int) (fut : List Int) : Prop := ∃ pa pc fa fc, Hi w hb pa pc fa fc past now fut ∧ ∀ b, HB hb pa pc fa fc b → ¬ T b
section
variable {w w' : World} {T : Nat → Prop} {hb : Nat} {past : List Int} {now : Int} {fut : List Int}
theorem Hs.many (h : Hs w T hb past now fut) : past.length + fut.length ≤ 12 := by obtain ⟨_, _, _, _, h, _⟩ := h; exact h.many
theorem Hs.hlt (h : Hs w T hb past now fut) : hb < w.heap.size := by obtain ⟨_, _, _, _, h, _⟩ := h; exact h.hlt
theorem Hs.chg {S : Nat → Prop} (h : Hs w T hb past now fut) (k : Chg S w w') (hs : ∀ b, b < w.heap.size → S b → T b) : Hs w' T hb past now fut := by
  obtain ⟨pa, pc, fa, fc, h, ht⟩ := h
  exact ⟨pa, pc, fa, fc, h.chg k (fun b e f => ht b e (hs b (h.lt b e) f)), ht⟩
theorem Hs.kept (h : Hs w T hb past now fut) (k : Kept w w') : Hs w' T hb past now fut := h.chg (Chg.of_kept (S := fun _ => False) k) (fun _ _ e => e.elim)
/-- Blocks that are there since, too, are left alone. -/
theorem Hs.more {T' : Nat → Prop} (h : Hs w T hb past now fut) (ht : ∀ b, b < w.heap.size → T' b → T b) : Hs w T' hb past now fut := by
  obtain ⟨pa, pc, fa, fc, h, h2⟩ := h
  exact ⟨pa, pc, fa, fc, h, fun b e f => h2 b e (ht b (h.lt b e) f)⟩
def DoS (w : World) (T : Nat → Prop) (hb : Nat) (past : List Int) (now : Int) (fut : List Int) (next : Int) (e : Ending) (w' : World) : Prop :=
  ∃ ga gc, e = .returned (.slice ga (goneL past fut).length gc) ∧ Sl .i64 w' ga (goneL past fut).length (goneL past fut) ∧ (0 < (goneL past fut).length → ∀ ad, ga = some ad → w.heap.size ≤ ad.block) ∧ Hs w' T hb (pastL past now) next [] ∧ Chg (fun b => ¬ T b) w w'
theorem hs_Do (h : Hs w T hb past now fut) (ht : ∀ b, T b → b < w.heap.size) (next : Int) : Calls Try.prog 11 #[.pointer (some ⟨hb, 0, none⟩), .int .i64 next] w (DoS w T hb past now fut next) := by
  obtain ⟨pa, pc, fa, fc, h, h2⟩ := h
  refine (undo_Do h next).mono ?_
  rintro e w' ⟨ga, gc, pa', pc', rfl, r, hi, hc, hb', hg⟩
  refine ⟨ga, gc, rfl, r.sl, fun hp ad e => hg _ ⟨Nat.lt_of_lt_of_le hp r.le, ad, e, rfl⟩, ⟨pa', pc', none, 0, hi, fun b e f => (hb' b e).elim (fun q => h2 b q f) (fun q => by have := ht b f; omega)⟩, hc.mono (fun j _ e => h2 j e)⟩
def GoS (w : World) (T : Nat → Prop) (hb : Nat) (past' : List Int) (now' : Int) (fut' : List Int) (e : Ending) (w' : World) : Prop :=
  e = .returned (.tuple #[.int .i64 now', .int .i64 0]) ∧ Hs w' T hb past' now' fut' ∧ Chg (fun b => ¬ T b) w w'
theorem hs_Undo {p : List Int} {x : Int} (h : Hs w T hb (p ++ [x]) now fut) (ht : ∀ b, T b → b < w.heap.size) : Calls Try.prog 13 #[.pointer (some ⟨hb, 0, none⟩)] w (GoS w T hb p x (now :: fut)) := by
  obtain ⟨pa, pc, fa, fc, h, h2⟩ := h
  refine (undo_Undo_some h).mono ?_
  rintro e w' ⟨pa', pc', fa', fc', rfl, hi, hc, hb'⟩
  exact ⟨rfl, ⟨pa', pc', fa', fc', hi, fun b e f => (hb' b e).elim (fun q => h2 b q f) (fun q => by have := ht b f; omega)⟩, hc.mono (fun j _ e => h2 j e)⟩
theorem hs_Redo {x : Int} {f : List Int} (h : Hs w T hb past now (x :: f)) (ht : ∀ b, T b → b < w.heap.size) : Calls Try.prog 15 #[.pointer (some ⟨hb, 0, none⟩)] w (GoS w T hb (past ++ [now]) x f) := by
  obtain ⟨pa, pc, fa, fc, h, h2⟩ := h
  refine (undo_Redo_some h).mono ?_
  rintro e w' ⟨pa', pc', fa', fc', rfl, hi, hc, hb'⟩
  exact ⟨rfl, ⟨pa', pc', fa', fc', hi, fun b e f => (hb' b e).elim (fun q => h2 b q f) (fun q => by have := ht b f; omega)⟩, hc.mono (fun j _ e => h2 j e)⟩
theorem hs_UndoNone (h : Hs w T hb [] now fut) : Calls Try.prog 13 #[.pointer (some ⟨hb, 0, none⟩)] w fun e w' => e = .returned (.tuple #[.int .i64 0, .int .i64 19]) ∧ w' = w := by
  obtain ⟨pa, pc, fa, fc, h, h2⟩ := h
  exact undo_Undo_none h
theorem hs_RedoNone (h : Hs w T hb past now []) : Calls Try.prog 15 #[.pointer (some ⟨hb, 0, none⟩)] w fun e w' => e = .returned (.tuple #[.int .i64 0, .int .i64 19]) ∧ w' = w := by
  obtain ⟨pa, pc, fa, fc, h, h2⟩ := h
  exact undo_Redo_none h
theorem hs_Now (h : Hs w T hb past now fut) : Calls Try.prog 19 #[.pointer (some ⟨hb, 0, none⟩)] w fun e w' => e = .returned (.int .i64 now) ∧ Kept w w' := by
  obtain ⟨pa, pc, fa, fc, h, h2⟩ := h
  exact undo_Now h
end
theorem hs_New (x : Int) (w : World) : Calls Try.prog 7 #[.int .i64 x] w fun e w' => e = .returned (.pointer (some ⟨w.heap.size, 0, none⟩)) ∧ Hs w' (· < w.heap.size) w.heap.size [] x [] ∧ Kept w w' := by
  refine (undo_New x w).mono ?_
  rintro e w' ⟨rfl, h, k⟩
  refine ⟨rfl, ⟨none, 0, none, 0, h, ?_⟩, k⟩
  rintro b (rfl | e | e)
  · omega
  · exact absurd e (not_bk_none _ _)
  · exact absurd e (not_bk_none _ _)
theorem Chg.keptT {w0 w w' : World} (h : Kept w0 w) (k : Chg (fun b => ¬ b < w0.heap.size) w w') : Kept w0 w' := k.kept h (fun j e => by omega)
set_option maxHeartbeats 800000 in
theorem law18_known (w : World) : Calls Try.prog 17 #[] w fun e w' => e = .returned (.bool true) ∧ Kept w w' := by
  have H1 := hidMk (hs_New 1 w)
  have lt : ∀ {w1 : World}, Kept w w1 → ∀ b, b < w.heap.size → b < w1.heap.size := fun k b e => Nat.lt_of_lt_of_le e k.size
  go_enter Try.func17, Try.ntmps17
  go_wp2_with fail
  refine H1.out.mono ?_
  rintro e w1 ⟨rfl, h1, k1⟩
  have K1 := hidMk k1
  have H2 := hidMk (hs_Do h1 (lt k1) 2)
  clear h1 k1
  go_wp2_with fail
  refine H2.out.mono ?_
  rintro e w2 ⟨ga2, gc2, rfl, -, -, h2, c2⟩
  have K2 := hidMk (c2.keptT K1.out)
  have H3 := hidMk (hs_Do h2 (lt K2.out) 3)
  clear h2 c2
  go_wp2_with fail
  refine H3.out.mono ?_
  rintro e w3 ⟨ga3, gc3, rfl, -, -, h3, c3⟩
  have K3 := hidMk (c3.keptT K2.out)
  have H4 := hidMk (hs_Undo (p := [1]) (x := 2) h3 (lt K3.out))
  clear h3 c3
  go_wp2_with fail
  refine H4.out.mono ?_
  rintro e w4 ⟨rfl, h4, c4⟩
  have K4 := hidMk (c4.keptT K3.out)
  have H5 := hidMk (hs_Undo (p := []) (x := 1) h4 (lt K4.out))
  clear h4 c4
  go_wp2_with fail
  refine H5.out.mono ?_
  rintro e w5 ⟨rfl, h5, c5⟩
  have K5 := hidMk (c5.keptT K4.out)
  have H6 := hidMk (hs_Redo h5 (lt K5.out))
  clear h5 c5
  go_wp2_with fail
  refine H6.out.mono ?_
  rintro e w6 ⟨rfl, h6, c6⟩
  have K6 := hidMk (c6.keptT K5.out)
  have H7 := hidMk (hs_Do h6 (lt K6.out) 9)
  clear h6 c6
  go_wp2_with fail
  refine H7.out.mono ?_
  rintro e w7 ⟨ga7, gc7, rfl, s7, -, -, c7⟩
  have hg7 : goneL ([] ++ [1]) [3] = [3] := rfl
  rw [hg7] at s7 ⊢
  have K7 := hidMk (c7.keptT K6.out)
  have H8 := hidMk (fun t c => ref_Ints ga7 (some ⟨w7.heap.size, 0, none⟩) 1 1 gc7 c [3] [3] _ (s7.kept ((Kept.refl w7).alloc _)) (sl_new .i64 w7 [3] t (by unfold maxLen; decide)))
  clear s7 c7
  go_wp2_with fail
  refine (H8.out _ _).mono ?_
  rintro e w8 ⟨rfl, k8⟩
  have K8 := hidMk (((K7.out.alloc _)).trans k8)
  clear k8
  go_wp2_with fail
  go_ret
  exact ⟨by simp, K8.out⟩
end Go.Proofs.Ytbikelbobanfbaa
