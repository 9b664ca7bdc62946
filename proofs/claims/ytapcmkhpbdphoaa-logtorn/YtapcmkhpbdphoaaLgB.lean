/- log: Add: what it refuses. -/
import Derived.Test.YtapcmkhpbdphoaaLg9
import Derived.Test.YtapcmkhpbdphoaaLgA
import Derived.Test.YtapcmkhpbdphoaaLg3
namespace Go.Proofs.Ytapcmkhpbdphoaa
open Go.RowKit Go.Maps
set_option linter.unusedSimpArgs false
set_option linter.unusedVariables false

section
variable {w : World} {T : Nat → Prop} {p f d g K : Nat} {va : Option Addr} {vn vc : Nat} {qs : List Sv} {N fr to : Nat} {s : Bf} {rs : List (List Int)}
theorem box2 (w : World) (v : Value) (t t' : TypeId) : ((w.alloc (.cells #[v] t)).alloc (.cells #[.int .i64 0] t')).cell? ⟨w.heap.size, 0, none⟩ = some v ∧ ((w.alloc (.cells #[v] t)).alloc (.cells #[.int .i64 0] t')).cell? ⟨w.heap.size + 1, 0, none⟩ = some (.int .i64 0) ∧ ((w.alloc (.cells #[v] t)).alloc (.cells #[.int .i64 0] t')).frozen? ⟨w.heap.size + 1, 0, none⟩ = false := by
  have hs : (w.alloc (.cells #[v] t)).heap.size = w.heap.size + 1 := by simp
  refine ⟨?_, ?_, ?_⟩
  · exact ((Kept.refl _).alloc _).cellp (by simp)
  · rw [← hs]; simp
  · rw [← hs]; simp
set_option maxHeartbeats 2000000 in
set_option maxRecDepth 100000 in
theorem log_Add_bad (h : w.cell? ⟨p, 0, none⟩ = some (.pointer (some ⟨f, 0, none⟩))) (a : Option Addr) (n c : Nat) (hn : n = 0 ∨ 250 < n) : Calls Try.prog 7 #[.pointer (some ⟨p, 0, none⟩), .slice a n c] w fun e w' => e = .returned (.int .i64 5) ∧ Kept w w' := by
  obtain ⟨W2, hW2⟩ : ∃ W2, W2 = (w.alloc (.cells #[.pointer (some ⟨p, 0, none⟩)] 27)).alloc (.cells #[.int .i64 0] 25) := ⟨_, rfl⟩
  have K2 := hidMk (show Kept w W2 by rw [hW2]; exact ((Kept.refl w).alloc _).alloc _)
  obtain ⟨y0, y1, f1⟩ := box2 w (.pointer (some ⟨p, 0, none⟩)) 27 25
  rw [← hW2] at y0 y1 f1
  have HN := hidMk (none_ok p f W2 (K2.out.cellp h))
  have HP := hidMk (rec_Put_bad a n c W2 hn)
  have HW2 := hidMk hW2
  clear h hn hW2
  go_enter Try.func7, Try.ntmps7
  go_wp2_with fail
  rw [← HW2.out]
  refine HN.out.mono ?_
  rintro e w1 ⟨rfl, hw1⟩
  rw [hw1]
  clear hw1 w1
  go_wp2_with fail
  refine HP.out.mono ?_
  rintro e w1 ⟨rfl, hw1⟩
  rw [hw1]
  clear hw1 w1
  go_wp2_with fail
  exact err_ret rfl (w.heap.size + 1) rfl rfl (World.cell?_setCell_same _ _ _ y1) ⟨rfl, K2.out.setCell (show w.heap.size ≤ w.heap.size + 1 by omega) _⟩
set_option maxHeartbeats 2000000 in
set_option maxRecDepth 100000 in
theorem log_Add_full (h : Lg w T p f d g K va vn vc qs N fr to s rs) (a : Option Addr) (n c : Nat) (l : List Int) (hs : Sl .u8 w a n l) (hl : RecOk l) (hf : (to - fr) * 32 < (catR rs).length + (recB l).length) : Calls Try.prog 7 #[.pointer (some ⟨p, 0, none⟩), .slice a n c] w fun e w' => e = .returned (.int .i64 14) ∧ Kept w w' := by
  obtain ⟨W2, hW2⟩ : ∃ W2, W2 = (w.alloc (.cells #[.pointer (some ⟨p, 0, none⟩)] 27)).alloc (.cells #[.int .i64 0] 25) := ⟨_, rfl⟩
  have k2 : Kept w W2 := by rw [hW2]; exact ((Kept.refl w).alloc _).alloc _
  have K2 := hidMk k2
  obtain ⟨y0, y1, f1⟩ := box2 w (.pointer (some ⟨p, 0, none⟩)) 27 25
  rw [← hW2] at y0 y1 f1
  have HN := hidMk (none_ok p f W2 (k2.cellp h.lc.c0))
  have hlen := hs.len
  have HP := hidMk (rec_Put a n c l W2 (hs.kept k2) hl.2.2 (fun e => by subst e; have := hs.cells (by have := hl.1; omega); obtain ⟨_, _, e, _⟩ := this; cases e) (by have := hl.1; omega) (by have := hl.2.1; omega))
  have H := hidMk h
  have HW2 := hidMk hW2
  have HRS := hidMk (recB_small hl)
  obtain ⟨rl, hrl⟩ : ∃ rl, rl = (recB l).length := ⟨_, rfl⟩
  obtain ⟨u, hu⟩ : ∃ u, u = (catR rs).length := ⟨_, rfl⟩
  obtain ⟨L, hL⟩ : ∃ L, L = (to - fr) * 32 := ⟨_, rfl⟩
  have HLB := hidMk (show L ≤ 32000 ∧ u ≤ L by have := h.ft; have := h.le; omega)
  rw [← hL, ← hu, ← hrl] at hf
  rw [← hrl] at HRS
  have hf' : (rl : Int) > (L : Int) - (u : Int) := by omega
  have HCL := hidMk (show ∀ Y, Kept W2 Y → _ from fun Y kY => log_Clean ((h.lc.kept k2).kept kY) ((h.fl.kept k2).kept kY))
  have HRM := hidMk (show ∀ Y, Kept W2 Y → Calls Try.prog 18 #[.pointer (some ⟨p, 0, none⟩)] Y fun e w' => e = .returned (.int .i64 ((L : Int) - (u : Int))) ∧ Kept Y w' from fun Y kY => by
    rw [hL, hu]
    exact log_Room ((h.lc.kept k2).kept kY) ((h.fl.kept k2).kept kY) h.le (by have := h.ft; omega))
  have yp := h.lc.c3
  have HYP := hidMk (show ∀ Y, Kept W2 Y → Y.cell? ⟨p, 3, none⟩ = some (.bool false) from fun Y kY => (k2.trans kY).cellp yp)
  have HY0 := hidMk (show ∀ Y, Kept W2 Y → Y.cell? ⟨w.heap.size, 0, none⟩ = some (.pointer (some ⟨p, 0, none⟩)) from fun Y kY => kY.cellp y0)
  have HY1 := hidMk (show ∀ Y, Kept W2 Y → Y.cell? ⟨w.heap.size + 1, 0, none⟩ = some (.int .i64 0) from fun Y kY => kY.cellp y1)
  have HF1 := hidMk (show ∀ Y, Kept W2 Y → Y.frozen? ⟨w.heap.size + 1, 0, none⟩ = false from fun Y kY => (kY.frozen (p := ⟨w.heap.size + 1, 0, none⟩) (cell_lt y1)).trans f1)
  have HRLE := hidMk hrl
  clear h hs hl hW2 k2 hlen hrl hu hL hf yp f1
  go_enter Try.func7, Try.ntmps7
  go_wp2_with fail
  rw [← HW2.out]
  refine HN.out.mono ?_
  rintro e w1 ⟨rfl, hw1⟩
  rw [hw1]
  clear hw1 w1
  go_wp2_with fail
  refine HP.out.mono ?_
  rintro e w3 ⟨v3, rfl, o3, k3⟩
  obtain ⟨a3, c3, rfl⟩ := o3.form
  rw [← HRLE.out]
  have K3 := hidMk k3
  clear o3 k3 y0 y1
  have y0 := HY0.out _ K3.out
  have yp := HYP.out _ K3.out
  go_wp2_with fail
  refine (HCL.out w3 K3.out).mono ?_
  rintro e w4 ⟨rfl, k4⟩
  have K4 := hidMk (K3.out.trans k4)
  clear k4 y0 yp
  have y0 := HY0.out _ K4.out
  go_wp2_with fail
  refine (HRM.out w4 K4.out).mono ?_
  rintro e w5 ⟨rfl, k5⟩
  have K5 := hidMk (K4.out.trans k5)
  clear k5 y0
  have y1 := HY1.out _ K5.out
  have f1 := HF1.out _ K5.out
  go_wp2_with fail
  exact err_ret rfl (w.heap.size + 1) rfl rfl (World.cell?_setCell_same _ _ _ y1) ⟨rfl, (K2.out.trans K5.out).setCell (show w.heap.size ≤ w.heap.size + 1 by omega) _⟩
end
end Go.Proofs.Ytapcmkhpbdphoaa
