/- coord: slices.Backward over the four counts. · coord: parts. · coord: parts, walked. · coord: Cell. · coord: Leaf. · coord: Inside, Swap. · coord: a space that is not there. · coord: a tree of one member or more has a leaf. -/
import Derived.Test.YtmedgkccicbieaaGreatPTk
import Derived.Test.YtmedgkccicbieaaGreatPCo8
import Derived.Deep.Heap
namespace Go.Proofs.YtmedgkccicbieaaGreat
open Go.RowKit Go.Maps Go.Shelf
set_option linter.unusedSimpArgs false
set_option linter.unusedVariables false
attribute [local go_sem] Oper.semAt_some

theorem coord_Backward (a : Option Addr) (n c : Nat) (w : World) : Calls Tryz.prog 145 #[.slice a n c] w fun e w' => e = .returned (.func (.func 158) #[] #[.pointer (some ⟨w.heap.size, 0, none⟩)]) ∧ w' = w.alloc (.cells #[.slice a n c] 52) := by
  go_enter Tryz.func145, Tryz.ntmps145
  go_wp2_with fail
  go_ret
  exact ⟨rfl, rfl⟩
set_option maxHeartbeats 4000000 in
set_option maxRecDepth 100000 in
theorem back_it {l cb sb : Nat} (f : Nat → Int) (W : World) (J : List Nat → World → Prop)
    (hJs : ∀ pre X, J pre X → X.cell? ⟨sb, 0, none⟩ = some (.slice (some ⟨cb, 0, none⟩) 4 4) ∧ X.cell? ⟨cb, 0, none⟩ = some (.int .i64 (f 0)) ∧ X.cell? ⟨cb, 1, none⟩ = some (.int .i64 (f 1)) ∧ X.cell? ⟨cb, 2, none⟩ = some (.int .i64 (f 2)) ∧ X.cell? ⟨cb, 3, none⟩ = some (.int .i64 (f 3)))
    (n : Nat) (hY : ∀ pre x X, J pre X → pre ++ [x] <+: [3, 2, 1, 0] → YieldAt Fence.wide (n - 1) Tryz.prog l #[.int .i64 (x : Nat), .int .i64 (f x)] X fun e X' => e = .returned (.bool true) ∧ J (pre ++ [x]) X')
    (h0 : J [] W) : CallsIn Fence.wide n Tryz.prog 158 #[.func (.yield l) #[] #[], .pointer (some ⟨sb, 0, none⟩)] W fun e X' => (∃ v, e = .returned v) ∧ J [3, 2, 1, 0] X' := by
  have HJS := hidMk hJs
  have c0 := (hJs _ _ h0).1
  have H3 := hidMk (fun X (h : J [] X) => hY [] 3 X h ⟨[2, 1, 0], rfl⟩)
  have H2 := hidMk (fun X (h : J [3] X) => hY [3] 2 X h ⟨[1, 0], rfl⟩)
  have H1 := hidMk (fun X (h : J [3, 2] X) => hY [3, 2] 1 X h ⟨[0], rfl⟩)
  have H0 := hidMk (fun X (h : J [3, 2, 1] X) => hY [3, 2, 1] 0 X h ⟨[], rfl⟩)
  have HJ0 := hidMk h0
  clear hJs hY h0
  refine callsIn_of_wp Tryz.func158 rfl trivial ?_ rfl
  simp only [Tryz.ntmps158, List.size_toArray, List.length_cons, List.length_nil, Nat.reduceAdd, Nat.reduceSub, Array.replicate_succ, Array.replicate_zero, List.push_toArray, List.append_toArray, List.nil_append, List.cons_append]
  gi_wp2
  clear c0
  gi_loopw [3] (fun s wr => (s = .int .i64 3 ∧ Hid (J [] wr)) ∨ (s = .int .i64 2 ∧ Hid (J [3] wr)) ∨ (s = .int .i64 1 ∧ Hid (J [3, 2] wr)) ∨ (s = .int .i64 0 ∧ Hid (J [3, 2, 1] wr)) ∨ (s = .int .i64 (-1) ∧ Hid (J [3, 2, 1, 0] wr))) (fun s _ => (intOf s + 1).toNat)
  case atStart => exact .inl ⟨rfl, HJ0⟩
  case round =>
    clear HJ0
    rcases hrel with ⟨rfl, HS⟩ | ⟨rfl, HS⟩ | ⟨rfl, HS⟩ | ⟨rfl, HS⟩ | ⟨rfl, HS⟩
    · obtain ⟨c0, q0, q1, q2, q3⟩ := HJS.out _ _ HS.out
      obtain ⟨fn, tmps, assign, body, hy, hR⟩ := H3.out _ HS.out
      rw [show ((3 : Nat) : Int) = 3 from rfl] at hy
      have HR := hidMk hR
      clear hR H3 H2 H1 H0
      generalize f 3 = fx at *
      gi_wp2
      refine ⟨fun e => (by cases e), ?_⟩
      refine HR.out.mono ?_
      rintro e X' ⟨rfl, hJ'⟩
      have HF := hidMk hJ'
      clear hJ' HR
      gi_wp2
      go_roundw
      case rel => exact .inr (.inl ⟨rfl, HF⟩)
      case measure => simp [intOf]
    · obtain ⟨c0, q0, q1, q2, q3⟩ := HJS.out _ _ HS.out
      obtain ⟨fn, tmps, assign, body, hy, hR⟩ := H2.out _ HS.out
      rw [show ((2 : Nat) : Int) = 2 from rfl] at hy
      have HR := hidMk hR
      clear hR H3 H2 H1 H0
      generalize f 2 = fx at *
      gi_wp2
      refine ⟨fun e => (by cases e), ?_⟩
      refine HR.out.mono ?_
      rintro e X' ⟨rfl, hJ'⟩
      have HF := hidMk hJ'
      clear hJ' HR
      gi_wp2
      go_roundw
      case rel => exact .inr (.inr (.inl ⟨rfl, HF⟩))
      case measure => simp [intOf]
    · obtain ⟨c0, q0, q1, q2, q3⟩ := HJS.out _ _ HS.out
      obtain ⟨fn, tmps, assign, body, hy, hR⟩ := H1.out _ HS.out
      rw [show ((1 : Nat) : Int) = 1 from rfl] at hy
      have HR := hidMk hR
      clear hR H3 H2 H1 H0
      generalize f 1 = fx at *
      gi_wp2
      refine ⟨fun e => (by cases e), ?_⟩
      refine HR.out.mono ?_
      rintro e X' ⟨rfl, hJ'⟩
      have HF := hidMk hJ'
      clear hJ' HR
      gi_wp2
      go_roundw
      case rel => exact .inr (.inr (.inr (.inl ⟨rfl, HF⟩)))
      case measure => simp [intOf]
    · obtain ⟨c0, q0, q1, q2, q3⟩ := HJS.out _ _ HS.out
      obtain ⟨fn, tmps, assign, body, hy, hR⟩ := H0.out _ HS.out
      rw [show ((0 : Nat) : Int) = 0 from rfl] at hy
      have HR := hidMk hR
      clear hR H3 H2 H1 H0
      generalize f 0 = fx at *
      gi_wp2
      refine ⟨fun e => (by cases e), ?_⟩
      refine HR.out.mono ?_
      rintro e X' ⟨rfl, hJ'⟩
      have HF := hidMk hJ'
      clear hJ' HR
      gi_wp2
      go_roundw
      case rel => exact .inr (.inr (.inr (.inr ⟨rfl, HF⟩)))
      case measure => simp [intOf]
    · gi_wp2
      go_end0
      exact ⟨⟨_, rfl⟩, HS.out⟩
end Go.Proofs.YtmedgkccicbieaaGreat
namespace Go.Proofs.YtmedgkccicbieaaGreat
open Go.RowKit Go.Maps Go.Shelf
set_option linter.unusedSimpArgs false
set_option linter.unusedVariables false
attribute [local go_sem] Oper.semAt_some

def prQ (f : Nat → Int) (N : Int) : Nat → Int
  | 0 => N
  | i + 1 => (prQ f N i).tdiv (f (3 - i))
def prA (f : Nat → Int) (N : Int) (k : Nat) : Int := (prQ f N (3 - k)).tmod (f k)
theorem put_cell {X : World} {b c k : Nat} {o : Obj} (h : c ≠ b) : (X.putObj b o).cell? ⟨c, k, none⟩ = X.cell? ⟨c, k, none⟩ := by
  simp only [World.cell?, World.putObj_heap_other h]
theorem put_frozen {X : World} {b c k : Nat} {o : Obj} (h : c ≠ b) : (X.putObj b o).frozen? ⟨c, k, none⟩ = X.frozen? ⟨c, k, none⟩ := by
  simp only [World.frozen?, World.putObj_heap_other h]
theorem put_kept {w X : World} {b : Nat} {o : Obj} (h : Kept w X) (hb : w.heap.size ≤ b) : Kept w (X.putObj b o) :=
  ⟨h.os, h.tape, h.output, by rw [World.putObj_size]; exact h.size, fun j hj => (World.putObj_heap_other (by omega)).trans (h.block j hj)⟩
structure PJ (f : Nat → Int) (N : Int) (w : World) (i : Nat) (X : World) : Prop where
  q : X.cell? ⟨w.heap.size + 1, 0, none⟩ = some (.int .i64 (prQ f N i))
  qf : X.frozen? ⟨w.heap.size + 1, 0, none⟩ = false
  a : ∀ k, k < 4 → X.cell? ⟨w.heap.size + 3, k, none⟩ = some (.int .i64 (if 4 - i ≤ k then prA f N k else 0))
  af : ∀ k, X.frozen? ⟨w.heap.size + 3, k, none⟩ = false
  n : ∀ k, k < 4 → X.cell? ⟨w.heap.size, k, none⟩ = some (.int .i64 (f k))
  s : X.cell? ⟨w.heap.size + 4, 0, none⟩ = some (.slice (some ⟨w.heap.size, 0, none⟩) 4 4)
  r : ∀ k, k < 4 → X.cell? ⟨w.heap.size + 2, k, none⟩ = some (.int .i64 0)
  rf : ∀ k, X.frozen? ⟨w.heap.size + 2, k, none⟩ = false
  kp : Kept w X
theorem PJ.put {f : Nat → Int} {N : Int} {w X : World} {i b : Nat} {o : Obj} (h : PJ f N w i X) (hb : w.heap.size + 5 ≤ b) : PJ f N w i (X.putObj b o) :=
  ⟨(put_cell (by omega)).trans h.q, (put_frozen (by omega)).trans h.qf, fun k hk => (put_cell (by omega)).trans (h.a k hk), fun k => (put_frozen (by omega)).trans (h.af k), fun k hk => (put_cell (by omega)).trans (h.n k hk),
    (put_cell (by omega)).trans h.s, fun k hk => (put_cell (by omega)).trans (h.r k hk), fun k => (put_frozen (by omega)).trans (h.rf k), put_kept h.kp (by omega)⟩
theorem PJ.step {f : Nat → Int} {N : Int} {w X : World} {i : Nat} (h : PJ f N w i X) (hi : i < 4) : PJ f N w (i + 1) ((X.setCell ⟨w.heap.size + 3, 3 - i, none⟩ (.int .i64 ((prQ f N i).tmod (f (3 - i))))).setCell ⟨w.heap.size + 1, 0, none⟩ (.int .i64 ((prQ f N i).tdiv (f (3 - i))))) := by
  have far : ∀ {c o : Nat} {u : Value}, c ≠ w.heap.size + 3 → c ≠ w.heap.size + 1 → X.cell? ⟨c, o, none⟩ = some u → ((X.setCell ⟨w.heap.size + 3, 3 - i, none⟩ (.int .i64 ((prQ f N i).tmod (f (3 - i))))).setCell ⟨w.heap.size + 1, 0, none⟩ (.int .i64 ((prQ f N i).tdiv (f (3 - i))))).cell? ⟨c, o, none⟩ = some u := fun h1 h2 hu => by
    rw [World.cell?_setCell_other _ _ _ _ (by intro e; injection e with e1 _ _; omega), World.cell?_setCell_other _ _ _ _ (by intro e; injection e with e1 _ _; omega)]; exact hu
  refine ⟨?_, by rw [World.frozen?_setCell, World.frozen?_setCell]; exact h.qf, fun k hk => ?_, fun k => by rw [World.frozen?_setCell, World.frozen?_setCell]; exact h.af k, fun k hk => far (by omega) (by omega) (h.n k hk), far (by omega) (by omega) h.s, fun k hk => far (by omega) (by omega) (h.r k hk), fun k => by rw [World.frozen?_setCell, World.frozen?_setCell]; exact h.rf k, (h.kp.setCell (p := ⟨w.heap.size + 3, 3 - i, none⟩) (by simp) _).setCell (p := ⟨w.heap.size + 1, 0, none⟩) (by simp) _⟩
  · exact World.cell?_setCell_same _ _ _ (by rw [World.cell?_setCell_other _ _ _ _ (by intro e; injection e with e1 _ _; omega)]; exact h.q)
  · rw [World.cell?_setCell_other _ _ _ _ (by intro e; injection e with e1 _ _; omega)]
    by_cases e : k = 3 - i
    · subst e
      rw [World.cell?_setCell_same _ _ _ (h.a _ hk), if_pos (by omega)]
      unfold prA
      rw [show 3 - (3 - i) = i by omega]
    · rw [World.cell?_setCell_other _ _ _ _ (by intro e'; injection e' with _ e1 _; omega), h.a k hk]
      by_cases e2 : 4 - i ≤ k
      · rw [if_pos e2, if_pos (by omega)]
      · rw [if_neg e2, if_neg (by omega)]
theorem four_pre {pre : List Nat} {x : Nat} (h : pre ++ [x] <+: [3, 2, 1, 0]) : pre.length < 4 ∧ x = 3 - pre.length := by
  obtain ⟨t, ht⟩ := h
  have h1 : (pre ++ [x] ++ t).length = 4 := by rw [ht]; rfl
  simp at h1
  have h2 : pre.length < 4 := by omega
  refine ⟨h2, ?_⟩
  have h3 : ([3, 2, 1, 0] : List Nat)[pre.length]? = some x := by rw [← ht]; simp
  have : pre.length = 0 ∨ pre.length = 1 ∨ pre.length = 2 ∨ pre.length = 3 := by omega
  rcases this with e | e | e | e <;> rw [e] at h3 ⊢ <;> simp at h3 <;> omega
theorem prQ_bound {f : Nat → Int} {N : Int} (hN : 0 ≤ N ∧ N ≤ 1000000000000000) (hf : ∀ k, 1 ≤ f k ∧ f k ≤ 1000) (i : Nat) : 0 ≤ prQ f N i ∧ prQ f N i ≤ 1000000000000000 := by
  induction i with
  | zero => exact hN
  | succ i ih =>
    show 0 ≤ (prQ f N i).tdiv (f (3 - i)) ∧ (prQ f N i).tdiv (f (3 - i)) ≤ _
    have := hf (3 - i)
    rw [Int.tdiv_eq_ediv_of_nonneg ih.1]
    exact ⟨Int.ediv_nonneg ih.1 (by omega), Int.le_trans (Int.ediv_le_self _ ih.1) ih.2⟩
theorem rem_bound {q d : Int} (hq : 0 ≤ q) (hd : 1 ≤ d ∧ d ≤ 1000) : 0 ≤ q.tmod d ∧ q.tmod d < d := by
  rw [Int.tmod_eq_emod_of_nonneg hq]
  exact ⟨Int.emod_nonneg _ (by omega), Int.emod_lt_of_pos _ (by omega)⟩
end Go.Proofs.YtmedgkccicbieaaGreat
namespace Go.Proofs.YtmedgkccicbieaaGreat
open Go.RowKit Go.Maps Go.Shelf
set_option linter.unusedSimpArgs false
set_option linter.unusedVariables false
attribute [local go_sem] Oper.semAt_some

theorem then_only {F : Fence} {n : Nat} {P : Program} {c : Code} {K : Act → World → Prop} {Q : Exit → Act → World → Prop} {a : Act} {w : World} (h : c.wpIn F n P (Exit.then K (fun _ _ _ => False)) a w) : c.wpIn F n P (Exit.then K Q) a w :=
  Go.wpIn_mono h (fun e a w h => by cases e <;> first | exact h | exact h.elim)
theorem PJ.keep {f : Nat → Int} {N : Int} {w X Y : World} {i : Nat} (h : PJ f N w i X) (k : Kept X Y) : PJ f N w i Y :=
  ⟨k.cellp h.q, (k.frozen (p := ⟨w.heap.size + 1, 0, none⟩) (cell_lt h.q)).trans h.qf, fun j hj => k.cellp (h.a j hj), fun j => (k.frozen (p := ⟨w.heap.size + 3, j, none⟩) (show w.heap.size + 3 < X.heap.size from cell_lt (h.a 0 (by omega)))).trans (h.af j), fun j hj => k.cellp (h.n j hj), k.cellp h.s,
    fun j hj => k.cellp (h.r j hj), fun j => (k.frozen (p := ⟨w.heap.size + 2, j, none⟩) (show w.heap.size + 2 < X.heap.size from cell_lt (h.r 0 (by omega)))).trans (h.rf j), h.kp.trans k⟩
theorem pj_start (f : Nat → Int) (N : Int) (w : World) (t1 t2 t3 t4 t5 : TypeId) : PJ f N w 0 (((((w.alloc (.cells #[.int .i64 (f 0), .int .i64 (f 1), .int .i64 (f 2), .int .i64 (f 3)] t1)).alloc (.cells #[.int .i64 N] t2)).alloc (.cells #[.int .i64 0, .int .i64 0, .int .i64 0, .int .i64 0] t3)).alloc (.cells #[.int .i64 0, .int .i64 0, .int .i64 0, .int .i64 0] t4)).alloc (.cells #[.slice (some ⟨w.heap.size, 0, none⟩) 4 4] t5)) := by
  obtain ⟨A1, h1⟩ : ∃ X, X = w.alloc (.cells #[.int .i64 (f 0), .int .i64 (f 1), .int .i64 (f 2), .int .i64 (f 3)] t1) := ⟨_, rfl⟩
  obtain ⟨A2, h2⟩ : ∃ X, X = A1.alloc (.cells #[.int .i64 N] t2) := ⟨_, rfl⟩
  obtain ⟨A3, h3⟩ : ∃ X, X = A2.alloc (.cells #[.int .i64 0, .int .i64 0, .int .i64 0, .int .i64 0] t3) := ⟨_, rfl⟩
  obtain ⟨A4, h4⟩ : ∃ X, X = A3.alloc (.cells #[.int .i64 0, .int .i64 0, .int .i64 0, .int .i64 0] t4) := ⟨_, rfl⟩
  obtain ⟨A5, h5⟩ : ∃ X, X = A4.alloc (.cells #[.slice (some ⟨w.heap.size, 0, none⟩) 4 4] t5) := ⟨_, rfl⟩
  rw [← h1, ← h2, ← h3, ← h4, ← h5]
  have s1 : w.heap.size + 1 = A1.heap.size := by rw [h1]; simp
  have s2 : w.heap.size + 2 = A2.heap.size := by rw [h2]; simp; omega
  have s3 : w.heap.size + 3 = A3.heap.size := by rw [h3]; simp; omega
  have s4 : w.heap.size + 4 = A4.heap.size := by rw [h4]; simp; omega
  have k5 : Kept A4 A5 := by rw [h5]; exact (Kept.refl _).alloc _
  have k4 : Kept A3 A5 := by have : Kept A3 A4 := by rw [h4]; exact (Kept.refl _).alloc _
                             exact this.trans k5
  have k3 : Kept A2 A5 := by have : Kept A2 A3 := by rw [h3]; exact (Kept.refl _).alloc _
                             exact this.trans k4
  have k2 : Kept A1 A5 := by have : Kept A1 A2 := by rw [h2]; exact (Kept.refl _).alloc _
                             exact this.trans k3
  have k1 : Kept w A5 := by have : Kept w A1 := by rw [h1]; exact (Kept.refl _).alloc _
                            exact this.trans k2
  have f4 : ∀ {k : Nat}, k < 4 → k = 0 ∨ k = 1 ∨ k = 2 ∨ k = 3 := by omega
  have c2 : A2.cell? ⟨w.heap.size + 1, 0, none⟩ = some (.int .i64 N) := by rw [h2]; exact new_cell _ _ _ _ 0 _ s1 rfl
  have c3 : ∀ k, k < 4 → A3.cell? ⟨w.heap.size + 2, k, none⟩ = some (.int .i64 0) := fun k hk => by
    rw [h3]
    rcases f4 hk with rfl | rfl | rfl | rfl
    · exact new_cell _ _ _ _ 0 _ s2 rfl
    · exact new_cell _ _ _ _ 1 _ s2 rfl
    · exact new_cell _ _ _ _ 2 _ s2 rfl
    · exact new_cell _ _ _ _ 3 _ s2 rfl
  have c4 : ∀ k, k < 4 → A4.cell? ⟨w.heap.size + 3, k, none⟩ = some (.int .i64 0) := fun k hk => by
    rw [h4]
    rcases f4 hk with rfl | rfl | rfl | rfl
    · exact new_cell _ _ _ _ 0 _ s3 rfl
    · exact new_cell _ _ _ _ 1 _ s3 rfl
    · exact new_cell _ _ _ _ 2 _ s3 rfl
    · exact new_cell _ _ _ _ 3 _ s3 rfl
  refine ⟨k3.cellp c2, (k3.frozen (p := ⟨w.heap.size + 1, 0, none⟩) (cell_lt c2)).trans (by rw [h2]; exact new_frozen _ _ _ s1 0), fun k hk => ?_, fun k => (k5.frozen (p := ⟨w.heap.size + 3, k, none⟩) (show w.heap.size + 3 < A4.heap.size by omega)).trans (by rw [h4]; exact new_frozen _ _ _ s3 k), fun k hk => k2.cellp ?_, by rw [h5]; exact new_cell _ _ _ _ 0 _ s4 rfl, fun k hk => k4.cellp (c3 k hk), fun k => (k4.frozen (p := ⟨w.heap.size + 2, k, none⟩) (show w.heap.size + 2 < A3.heap.size by omega)).trans (by rw [h3]; exact new_frozen _ _ _ s2 k), k1⟩
  · rw [k5.cellp (c4 k hk), if_neg (by omega)]
  · rw [h1]
    rcases f4 hk with rfl | rfl | rfl | rfl
    · exact new_cell _ _ _ _ 0 _ rfl rfl
    · exact new_cell _ _ _ _ 1 _ rfl rfl
    · exact new_cell _ _ _ _ 2 _ rfl rfl
    · exact new_cell _ _ _ _ 3 _ rfl rfl
def HoldP (f : Nat → Int) (N : Int) (w X : World) : Prop := Hid (X.cell? ⟨w.heap.size + 1, 0, none⟩ = some (.int .i64 (prQ f N 4)) ∧ X.cell? ⟨w.heap.size + 1 + 1 + 1, 0, none⟩ = some (.int .i64 (prA f N 0)) ∧ X.cell? ⟨w.heap.size + 1 + 1 + 1, 1, none⟩ = some (.int .i64 (prA f N 1)) ∧ X.cell? ⟨w.heap.size + 1 + 1 + 1, 2, none⟩ = some (.int .i64 (prA f N 2)) ∧ X.cell? ⟨w.heap.size + 1 + 1 + 1, 3, none⟩ = some (.int .i64 (prA f N 3)))
set_option maxHeartbeats 4000000 in
set_option maxRecDepth 100000 in
theorem coord_parts (f : Nat → Int) (N : Int) (hN : 0 ≤ N ∧ N ≤ 1000000000000000) (hf : ∀ k, 1 ≤ f k ∧ f k ≤ 1000) (w : World) : Calls Tryz.prog 124 #[arr4 f, .int .i64 N] w fun e w' => e = .returned (.tuple #[.int .i64 (prQ f N 4), arr4 (prA f N)]) ∧ Kept w w' := by
  have HB := hidMk (fun a n c w => callsIn_wide (n := 2).2 (coord_Backward a n c w))
  obtain ⟨W0, hW0⟩ : ∃ X, X = ((((w.alloc (.cells #[.int .i64 (f 0), .int .i64 (f 1), .int .i64 (f 2), .int .i64 (f 3)] 145)).alloc (.cells #[.int .i64 N] 3)).alloc (.cells #[.int .i64 0, .int .i64 0, .int .i64 0, .int .i64 0] 27)).alloc (.cells #[.int .i64 0, .int .i64 0, .int .i64 0, .int .i64 0] 27)).alloc (.cells #[.slice (some ⟨w.heap.size, 0, none⟩) 4 4] 52) := ⟨_, rfl⟩
  have HP0 := hidMk (show PJ f N w 0 W0 from by rw [hW0]; exact pj_start f N w _ _ _ _ _)
  have HS0 := hidMk (show W0.heap.size = w.heap.size + 5 from by rw [hW0]; simp)
  generalize hA : arr4 (prA f N) = A
  unfold arr4
  refine (callsIn_wide (n := 3)).1 ?_
  refine callsIn_of_wp_marks Tryz.func124 rfl trivial ?_ rfl
  simp only [Tryz.ntmps124, List.size_toArray, List.length_cons, List.length_nil, Nat.reduceAdd, Nat.reduceSub, Array.replicate_succ, Array.replicate_zero, List.push_toArray, List.append_toArray, List.nil_append, List.cons_append]
  gi_wp2
  refine ⟨trivial, ?_⟩
  refine (HB.out _ _ _ _).mono ?_
  rintro e w1 ⟨rfl, hw1⟩
  rw [← hW0] at hw1
  rw [hw1]
  clear hw1 w1 hW0
  gi_wp2
  have hb4 : ∀ k, 1 ≤ f k ∧ f k ≤ 1000 := hf
  refine range_st (n := 1) (gf := 158) (lb := #[.pointer (some ⟨w.heap.size + 1 + 1 + 1 + 1, 0, none⟩)]) (by rfl) (enters_of Tryz.func158 (by kernel_rfl) rfl) (encs := fun x : Nat => #[.int .i64 (x : Nat), .int .i64 (f x)]) (fun _ => rfl) [3, 2, 1, 0]
    (fun pre X => PJ f N w pre.length X) (fun _ _ => True) (fun pre X o h _ => h.put (by have := HS0.out; omega)) (fun _ _ _ => trivial) (fun _ _ => trivial) (fun o o' => HP0.out.keep (((Kept.refl W0).alloc o).alloc o')) ?_ ?_ ?_
  · intro R R' pre x X hJ hpre hR
    obtain ⟨hi, hx⟩ := four_pre hpre
    have hx4 : x < 4 := by omega
    have hxi : (x : Int) < 4 := by omega
    have HX := hidMk hx
    have HI := hidMk hi
    have HR := hidMk hR
    have HJ := hidMk hJ
    have HQB := hidMk (prQ_bound hN hf pre.length)
    have HFX := hidMk (hf x)
    clear hpre hR hJ hx hi
    gi_wp2
    refine ⟨HJ.out, trivial, HR.out, ?_⟩
    have HY := hidMk (HJ.out.put (b := W0.heap.size + 1) (o := R') (by have := HS0.out; omega))
    have HRY := hidMk (show Recs W0.heap.size R' (X.putObj (W0.heap.size + 1) R') from ⟨World.putObj_heap_same ((Array.getElem?_eq_some_iff.1 HR.out.1).1), (World.putObj_heap_other (by omega)).trans HR.out.2⟩)
    generalize X.putObj (W0.heap.size + 1) R' = Y at *
    have e1 : Y.cell? ⟨w.heap.size + 1, 0, none⟩ = some (.int .i64 (prQ f N pre.length)) := HY.out.q
    have e2 : ∀ u, (Y.setCell ⟨w.heap.size + 1 + 1 + 1, x, none⟩ u).cell? ⟨w.heap.size + 1, 0, none⟩ = some (.int .i64 (prQ f N pre.length)) := fun u => by
      rw [World.cell?_setCell_other _ _ _ _ (by intro e; injection e with e1 _ _; omega)]; exact e1
    have e3 : ∀ u, (Y.setCell ⟨w.heap.size + 1 + 1 + 1, x, none⟩ u).frozen? ⟨w.heap.size + 1, 0, none⟩ = false := fun u => by
      rw [World.frozen?_setCell]; exact HY.out.qf
    have e4 : Y.cell? ⟨w.heap.size + 1 + 1 + 1, x, none⟩ = some (.int .i64 (if 4 - pre.length ≤ x then prA f N x else 0)) := HY.out.a x hx4
    have e5 : Y.frozen? ⟨w.heap.size + 1 + 1 + 1, x, none⟩ = false := HY.out.af x
    have HST := hidMk (show PJ f N w (pre.length + 1) ((Y.setCell ⟨w.heap.size + 1 + 1 + 1, x, none⟩ (.int .i64 ((prQ f N pre.length).tmod (f x)))).setCell ⟨w.heap.size + 1, 0, none⟩ (.int .i64 ((prQ f N pre.length).tdiv (f x)))) from by have := HY.out.step HI.out; rw [← HX.out] at this; exact this)
    clear HY HJ HR
    generalize prQ f N pre.length = q at *
    generalize (if 4 - pre.length ≤ x then prA f N x else 0) = old at *
    generalize f x = fx at *
    have hfx : ¬ fx = 0 := by have := HFX.out; omega
    have hfb : (fx == 0) = false := by simpa using hfx
    have hw1 : wrap64 (q.tmod fx) = q.tmod fx := by have h1 := rem_bound HQB.out.1 HFX.out; have h2 := HFX.out; exact wrap_c (by omega) (by omega)
    have hw2 : wrap64 (q.tdiv fx) = q.tdiv fx := by
      have h1 := HQB.out
      have h2 := HFX.out
      have h3 : 0 ≤ q.tdiv fx ∧ q.tdiv fx ≤ 1000000000000000 := by
        rw [Int.tdiv_eq_ediv_of_nonneg h1.1]
        exact ⟨Int.ediv_nonneg h1.1 (by omega), Int.le_trans (Int.ediv_le_self _ h1.1) h1.2⟩
      exact wrap_c (by omega) (by omega)
    gi_wp2
    refine ⟨HST.out, ?_, ?_⟩
    · rw [Go.Deep.blk_setCell_other _ _ _ _ (by have := HS0.out; simp; omega), Go.Deep.blk_setCell_other _ _ _ _ (by have := HS0.out; simp; omega)]; exact HRY.out.1
    · rw [Go.Deep.blk_setCell_other _ _ _ _ (by have := HS0.out; simp; omega), Go.Deep.blk_setCell_other _ _ _ _ (by have := HS0.out; simp; omega)]; exact HRY.out.2
  · intro R hy
    have hsz := HS0.out
    refine (back_it (cb := w.heap.size) (sb := w.heap.size + 1 + 1 + 1 + 1) f _ (fun pre X => PJ f N w pre.length X ∧ Recs W0.heap.size R X) (fun pre X h => ⟨h.1.s, h.1.n 0 (by omega), h.1.n 1 (by omega), h.1.n 2 (by omega), h.1.n 3 (by omega)⟩) (1 + 1) (fun pre x X h hpre => (hy pre x X h.1 h.2 hpre).mono fun e X' h' => ⟨h'.1, h'.2.1, h'.2.2.1⟩) ⟨?_, ?_, ?_⟩).mono ?_
    · exact HP0.out.keep (((Kept.refl W0).alloc _).alloc _)
    · have := World.alloc_heap_new (W0.alloc (.deferred (some []))) R
      rw [World.size_alloc] at this
      exact this
    · have h1 := World.alloc_heap_new W0 (.deferred (some []))
      have h2 := ((Kept.refl (W0.alloc (.deferred (some [])))).alloc R).block W0.heap.size (by rw [World.size_alloc]; omega)
      exact h2.trans h1
    · rintro e X ⟨h1, h2, h3⟩
      exact ⟨h1, h2, h3⟩
  · intro X hJ hD
    have HJ := hidMk hJ
    have HD := hidMk hD
    clear hJ hD HB HP0 hb4 hf
    gi_wp2
    have HHX := hidMk (show HoldP f N w X from hidMk ⟨HJ.out.q, HJ.out.a 0 (by omega), HJ.out.a 1 (by omega), HJ.out.a 2 (by omega), HJ.out.a 3 (by omega)⟩)
    have HHD := hidMk (show HoldP f N w X.drew from hidMk HHX.out.out)
    have r0 : X.cell? ⟨w.heap.size + 1 + 1, 0, none⟩ = some (.int .i64 0) := HJ.out.r 0 (by omega)
    have r1 : X.cell? ⟨w.heap.size + 1 + 1, 1, none⟩ = some (.int .i64 0) := HJ.out.r 1 (by omega)
    have r2 : X.cell? ⟨w.heap.size + 1 + 1, 2, none⟩ = some (.int .i64 0) := HJ.out.r 2 (by omega)
    have r3 : X.cell? ⟨w.heap.size + 1 + 1, 3, none⟩ = some (.int .i64 0) := HJ.out.r 3 (by omega)
    have f0 : X.frozen? ⟨w.heap.size + 1 + 1, 0, none⟩ = false := HJ.out.rf 0
    have f1 : X.frozen? ⟨w.heap.size + 1 + 1, 1, none⟩ = false := HJ.out.rf 1
    have f2 : X.frozen? ⟨w.heap.size + 1 + 1, 2, none⟩ = false := HJ.out.rf 2
    have f3 : X.frozen? ⟨w.heap.size + 1 + 1, 3, none⟩ = false := HJ.out.rf 3
    obtain ⟨V, hV⟩ : ∃ V, V = (((X.setCell ⟨w.heap.size + 1 + 1, 0, none⟩ (.int .i64 (prA f N 0))).setCell ⟨w.heap.size + 1 + 1, 1, none⟩ (.int .i64 (prA f N 1))).setCell ⟨w.heap.size + 1 + 1, 2, none⟩ (.int .i64 (prA f N 2))).setCell ⟨w.heap.size + 1 + 1, 3, none⟩ (.int .i64 (prA f N 3)) := ⟨_, rfl⟩
    have ot : ∀ {b o : Nat} {u : Value}, b ≠ w.heap.size + 1 + 1 → X.cell? ⟨b, o, none⟩ = some u → V.drew.cell? ⟨b, o, none⟩ = some u := fun hb hu => ((Kept.refl V).drew).cellp (by
      rw [hV, World.cell?_setCell_other _ _ _ _ (by intro e; injection e with e1 _ _; omega), World.cell?_setCell_other _ _ _ _ (by intro e; injection e with e1 _ _; omega), World.cell?_setCell_other _ _ _ _ (by intro e; injection e with e1 _ _; omega), World.cell?_setCell_other _ _ _ _ (by intro e; injection e with e1 _ _; omega)]; exact hu)
    have HHE := hidMk (show HoldP f N w V.drew from hidMk ⟨ot (by omega) HHX.out.out.1, ot (by omega) HHX.out.out.2.1, ot (by omega) HHX.out.out.2.2.1, ot (by omega) HHX.out.out.2.2.2.1, ot (by omega) HHX.out.out.2.2.2.2⟩)
    have HVC := hidMk (show V.cell? ⟨w.heap.size + 1 + 1, 0, none⟩ = some (.int .i64 (prA f N 0)) ∧ V.cell? ⟨w.heap.size + 1 + 1, 1, none⟩ = some (.int .i64 (prA f N 1)) ∧ V.cell? ⟨w.heap.size + 1 + 1, 2, none⟩ = some (.int .i64 (prA f N 2)) ∧ V.cell? ⟨w.heap.size + 1 + 1, 3, none⟩ = some (.int .i64 (prA f N 3)) from by
      rw [hV]; refine ⟨?_, ?_, ?_, ?_⟩ <;> simp [World.cell?_setCell_other, World.cell?_setCell_same, r0, r1, r2, r3])
    have HVK := hidMk (show Kept w V from by
      rw [hV]
      exact (((HJ.out.kp.setCell (p := ⟨w.heap.size + 1 + 1, 0, none⟩) (by simp; omega) _).setCell (p := ⟨w.heap.size + 1 + 1, 1, none⟩) (by simp; omega) _).setCell (p := ⟨w.heap.size + 1 + 1, 2, none⟩) (by simp; omega) _).setCell (p := ⟨w.heap.size + 1 + 1, 3, none⟩) (by simp; omega) _)
    have HVD := hidMk (show V.heap[W0.heap.size]? = some (.deferred (some [])) from by
      have := HS0.out
      rw [hV, Go.Deep.blk_setCell_other _ _ _ _ (by simp; omega), Go.Deep.blk_setCell_other _ _ _ _ (by simp; omega), Go.Deep.blk_setCell_other _ _ _ _ (by simp; omega), Go.Deep.blk_setCell_other _ _ _ _ (by simp; omega)]
      exact HD.out)
    clear ot
    refine then_only ?_
    refine wpIn_wide.2 ?_
    refine wp_region_held_drew (S := (fun w' => HoldP f N w w')) (by kernel_rfl) ?_ (fun hHeld => ?_)
    · exact HHD.out
    refine tkL 0 21 (v := ?_) rfl ?_ ?_
    rotate_left
    · (intro w9 hSw; obtain ⟨s0, t0, t1, t2, t3⟩ := hSw.out; clear hSw; go_simp; (try with_reducible rfl))
    (try simp only [tkS])
    refine tkL 1 22 (v := ?_) rfl ?_ ?_
    rotate_left
    · (intro w9 hSw; obtain ⟨s0, t0, t1, t2, t3⟩ := hSw.out; clear hSw; go_simp; (try with_reducible rfl))
    (try simp only [tkS])
    refine tkL 2 4 (v := ?_) rfl ?_ ?_
    rotate_left
    · (intro w9 hSw; obtain ⟨s0, t0, t1, t2, t3⟩ := hSw.out; clear hSw; go_simp; (try with_reducible rfl))
    (try simp only [tkS])
    refine wpAnyH_ready (rs := [3]) (by kernel_rfl) (by simp) ?_
    refine AllReadyH.cons (o := ⟨none, _, _, _, _, _⟩) rfl (fun K hK => ?_) AllReadyH.nil
    go_simp
    refine hK.out _ _ ?_ (fun hHeld => ?_)
    · (rw [← hV]; exact HHE.out)
    clear hK K
    (try simp only [tkS])
    refine wpAnyH_done (by kernel_rfl) ?_ _
    rw [← hV]
    clear hV r0 r1 r2 r3 f0 f1 f2 f3 HHX HHD HHE HJ HD hHeld
    gi_wp2
    have hK : V.drew.heap[W0.heap.size]? = some (.deferred (some [])) := HVD.out
    have hsz := HS0.out
    have pc : ∀ (k : Nat) (u : Value), V.cell? ⟨w.heap.size + 1 + 1, k, none⟩ = some u → (V.drew.putObj W0.heap.size (.deferred none)).cell? ⟨w.heap.size + 1 + 1, k, none⟩ = some u := fun k u hu => (put_cell (by omega)).trans (((Kept.refl V).drew).cellp hu)
    have v0 := pc _ _ HVC.out.1
    have v1 := pc _ _ HVC.out.2.1
    have v2 := pc _ _ HVC.out.2.2.1
    have v3 := pc _ _ HVC.out.2.2.2
    have HKV := hidMk (show Kept w (V.drew.putObj W0.heap.size (.deferred none)) from put_kept HVK.out.drew (by omega))
    refine ⟨by simp, .inl ⟨_, _, rfl, run_takeDeferred hK, ?_⟩⟩
    generalize V.drew.putObj W0.heap.size (.deferred none) = U at *
    clear hK pc HVD HVK HVC hsz HS0
    refine ⟨.tuple #[.int .i64 (prQ f N 4), A], ?_, rfl, HKV.out⟩
    rw [← hA]
    unfold arr4
    simp only [results, show Tryz.f124.results = #[.tmp 4, .cell 5 27] from rfl]
    go_simp
end Go.Proofs.YtmedgkccicbieaaGreat
namespace Go.Proofs.YtmedgkccicbieaaGreat
open Go.RowKit Go.Maps Go.Shelf
set_option linter.unusedSimpArgs false
set_option linter.unusedVariables false
attribute [local go_sem] Oper.semAt_some

section
variable {w : World} {s p : Nat} {ds : List Dm} {ms : List ByteArray} {tp : Nat → Nat} {rv : Nat → Option Addr × Nat}
def set5 (X : World) (b : Nat) (v0 v1 v2 v3 v4 : Value) : World := ((((X.setCell ⟨b, 0, none⟩ v0).setCell ⟨b, 1, none⟩ v1).setCell ⟨b, 2, none⟩ v2).setCell ⟨b, 3, none⟩ v3).setCell ⟨b, 4, none⟩ v4
theorem set5_cells {X : World} {b : Nat} {u0 u1 u2 u3 u4 : Value} (h0 : X.cell? ⟨b, 0, none⟩ = some u0) (h1 : X.cell? ⟨b, 1, none⟩ = some u1) (h2 : X.cell? ⟨b, 2, none⟩ = some u2) (h3 : X.cell? ⟨b, 3, none⟩ = some u3) (h4 : X.cell? ⟨b, 4, none⟩ = some u4) (v0 v1 v2 v3 v4 : Value) : (set5 X b v0 v1 v2 v3 v4).cell? ⟨b, 0, none⟩ = some v0 ∧ (set5 X b v0 v1 v2 v3 v4).cell? ⟨b, 1, none⟩ = some v1 ∧ (set5 X b v0 v1 v2 v3 v4).cell? ⟨b, 2, none⟩ = some v2 ∧ (set5 X b v0 v1 v2 v3 v4).cell? ⟨b, 3, none⟩ = some v3 ∧ (set5 X b v0 v1 v2 v3 v4).cell? ⟨b, 4, none⟩ = some v4 := by
  unfold set5
  refine ⟨?_, ?_, ?_, ?_, ?_⟩ <;> simp [World.cell?_setCell_other, World.cell?_setCell_same, h0, h1, h2, h3, h4]
theorem set5_kept {w X : World} {b : Nat} (k : Kept w X) (hb : w.heap.size ≤ b) (v0 v1 v2 v3 v4 : Value) : Kept w (set5 X b v0 v1 v2 v3 v4) :=
  ((((k.setCell (p := ⟨b, 0, none⟩) hb _).setCell (p := ⟨b, 1, none⟩) hb _).setCell (p := ⟨b, 2, none⟩) hb _).setCell (p := ⟨b, 3, none⟩) hb _).setCell (p := ⟨b, 4, none⟩) hb _
end
end Go.Proofs.YtmedgkccicbieaaGreat
namespace Go.Proofs.YtmedgkccicbieaaGreat
open Go.RowKit Go.Maps Go.Shelf
set_option linter.unusedSimpArgs false
set_option linter.unusedVariables false
attribute [local go_sem] Oper.semAt_some

def lfF (ds : List Dm) (N : Int) (j k : Nat) : Int := if k < j then (ints (lvsN (dmL ds k))).getD (prA (fun k => leas ds k) N k).toNat 0 else 0
section
variable {w : World} {s p : Nat} {ds : List Dm} {ms : List ByteArray} {tp : Nat → Nat} {rv : Nat → Option Addr × Nat}
theorem leas_pos (h : SW w s p ds ms tp rv) (k : Nat) : 1 ≤ (leas ds k : Int) ∧ (leas ds k : Int) ≤ 1000 := by
  unfold leas; split
  · next e => have := h.l60 k e; have h2 := h.ln k e; omega
  · omega
set_option maxHeartbeats 8000000 in
set_option maxRecDepth 100000 in
theorem sw_LeafOf (h : SW w s p ds ms tp rv) (i : Int) : Calls Tryz.prog 84 #[.pointer (some ⟨s, 0, none⟩), .int .i64 i] w fun e w' => (if 0 ≤ i ∧ i < mulK (fun k => leas ds k) ms.length 4 then e = .returned (.tuple #[cellV (prQ (fun k => leas ds k) i 4) (lfF ds i ds.length), .bool true]) else e = .returned (.tuple #[cellV 0 (fun _ => 0), .bool false])) ∧ Kept w w' := by
  obtain ⟨cb, hcb⟩ : ∃ x, x = w.heap.size := ⟨_, rfl⟩
  obtain ⟨W1, hW1⟩ : ∃ X, X = w.alloc (.cells #[.int .i64 0, .int .i64 0, .int .i64 0, .int .i64 0, .int .i64 0] 29) := ⟨_, rfl⟩
  have k1 : Kept w W1 := by rw [hW1]; exact (Kept.refl w).alloc _
  have HK1 := hidMk k1
  have HLT := hidMk (show w.heap.size ≤ cb by omega)
  have HCC := hidMk (show W1.cell? ⟨cb, 0, none⟩ = some (.int .i64 0) ∧ W1.cell? ⟨cb, 1, none⟩ = some (.int .i64 0) ∧ W1.cell? ⟨cb, 2, none⟩ = some (.int .i64 0) ∧ W1.cell? ⟨cb, 3, none⟩ = some (.int .i64 0) ∧ W1.cell? ⟨cb, 4, none⟩ = some (.int .i64 0) from by
    rw [hW1]; exact ⟨new_cell _ _ _ _ 0 _ hcb rfl, new_cell _ _ _ _ 1 _ hcb rfl, new_cell _ _ _ _ 2 _ hcb rfl, new_cell _ _ _ _ 3 _ hcb rfl, new_cell _ _ _ _ 4 _ hcb rfl⟩)
  have HCF := hidMk (show ∀ k, W1.frozen? ⟨cb, k, none⟩ = false from fun k => by rw [hW1]; exact new_frozen _ _ _ hcb k)
  have HCB := hidMk (show cb < W1.heap.size from cell_lt HCC.out.1)
  have HCS := hidMk (fun X (kX : Kept W1 X) => sw_Leaves (h.keep (k1.trans kX)))
  have HCN := hidMk (fun X (kX : Kept W1 X) => (h.keep (k1.trans kX)).counts.2)
  have HC0 := hidMk (fun X (kX : Kept W1 X) => (h.keep (k1.trans kX)).sp.c0)
  have HCR := hidMk (fun X (kX : Kept W1 X) => (h.keep (k1.trans kX)).sp.cr)
  have HMN := hidMk (fun X (kX : Kept W1 X) => sw_Many (h.keep (k1.trans kX)))
  have HMB := hidMk (mulK_bound (f := fun k => (leas ds k : Int)) (m := ms.length) (by have := h.m4; omega) (fun k => leas_bound h k)).2.2.2.2
  have HPT := hidMk (fun hN X => coord_parts (fun k => leas ds k) i hN (fun k => leas_pos h k) X)
  have HRK := hidMk (show 0 ≤ i → i ≤ 1000000000000000 → ∀ k, k < ds.length → ∃ r : Nat, prA (fun k => leas ds k) i k = r ∧ r < (lvsN (dmL ds k)).length from fun h1 h2 k hk => by
    have hb := rem_bound (prQ_bound ⟨h1, h2⟩ (fun k => leas_pos h k) (3 - k)).1 (leas_pos h k)
    have e : leas ds k = (lvsN (dmL ds k)).length := if_pos hk
    refine ⟨(prA (fun k => leas ds k) i k).toNat, ?_, ?_⟩ <;> unfold prA <;> dsimp only <;> omega)
  have H4 := hidMk h.d4
  have HL6 := hidMk h.l60
  unfold arr4 at HPT
  dsimp only at HPT
  unfold cellV
  clear h k1
  generalize mulK (fun k => (leas ds k : Int)) (ms.length : Int) 4 = M at *
  generalize prQ (fun k => (leas ds k : Int)) i 4 = pm at *
  by_cases hi : 0 ≤ i
  · have hin : ¬ i < 0 := by omega
    by_cases hm : i < M
    · have hmn : ¬ (M ≤ i) := by omega
      simp only [if_pos (And.intro hi hm)]
      have HRK2 := hidMk (HRK.out hi (by have := HMB.out; omega))
      go_enter Tryz.func84, Tryz.ntmps84
      go_upto_region 1 with fail
      rw [← hW1, ← hcb]
      clear hW1 hcb HRK
      go_wp2_with fail
      refine (HCS.out _ (Kept.refl _)).mono ?_
      rintro e w2 ⟨rfl, k2⟩
      have HK2 := hidMk k2
      clear k2
      obtain ⟨q0, q1, q2, q3⟩ := HCN.out w2 HK2.out
      go_wp2_with fail
      refine (HPT.out (by have := HMB.out; omega) _).mono ?_
      rintro e w3 ⟨rfl, k3⟩
      have HK3 := hidMk (HK2.out.trans k3)
      clear k3 q0 q1 q2 q3
      go_upto_region 4 with fail
      obtain ⟨W4, hW4⟩ : ∃ X, X = w3.alloc (.cells #[.int .i64 (prA (fun k => (leas ds k : Int)) i 0), .int .i64 (prA (fun k => (leas ds k : Int)) i 1), .int .i64 (prA (fun k => (leas ds k : Int)) i 2), .int .i64 (prA (fun k => (leas ds k : Int)) i 3)] 27) := ⟨_, rfl⟩
      have HK4 := hidMk (show Kept W1 W4 from by rw [hW4]; exact HK3.out.alloc _)
      obtain ⟨ab, hab⟩ : ∃ x, x = w3.heap.size := ⟨_, rfl⟩
      have HAR := hidMk (show ∀ k, k < 4 → W4.cell? ⟨ab, k, none⟩ = some (.int .i64 (prA (fun k => (leas ds k : Int)) i k)) from fun k hk => by
        rw [hW4]
        have : k = 0 ∨ k = 1 ∨ k = 2 ∨ k = 3 := by omega
        rcases this with rfl | rfl | rfl | rfl
        · exact new_cell _ _ _ _ 0 _ hab rfl
        · exact new_cell _ _ _ _ 1 _ hab rfl
        · exact new_cell _ _ _ _ 2 _ hab rfl
        · exact new_cell _ _ _ _ 3 _ hab rfl)
      rw [← hW4, ← hab]
      clear hW4 hab HK3
      generalize prA (fun k => (leas ds k : Int)) i 0 = a0 at *
      generalize prA (fun k => (leas ds k : Int)) i 1 = a1 at *
      generalize prA (fun k => (leas ds k : Int)) i 2 = a2 at *
      generalize prA (fun k => (leas ds k : Int)) i 3 = a3 at *
      go_upto_region 5 with fail
      obtain ⟨W5, hW5⟩ : ∃ X, X = W4.alloc (.cells #[.int .i64 pm, .int .i64 0, .int .i64 0, .int .i64 0, .int .i64 0] 29) := ⟨_, rfl⟩
      have HK5 := hidMk (show Kept W4 W5 from by rw [hW5]; exact (Kept.refl W4).alloc _)
      obtain ⟨lb, hlb⟩ : ∃ x, x = W4.heap.size := ⟨_, rfl⟩
      have HLB := hidMk (show W4.heap.size ≤ lb by omega)
      have HR0 := hidMk (show (W5.cell? ⟨lb, 0, none⟩ = some (.int .i64 pm)) ∧ (∀ k, k < 4 → W5.cell? ⟨lb, 1 + k, none⟩ = some (.int .i64 (lfF ds i 0 k))) ∧ (∀ k, W5.frozen? ⟨lb, k, none⟩ = false) from by
        rw [hW5]
        refine ⟨new_cell _ _ _ _ 0 _ hlb rfl, fun k hk => ?_, fun k => new_frozen _ _ _ hlb k⟩
        have : k = 0 ∨ k = 1 ∨ k = 2 ∨ k = 3 := by omega
        rcases this with rfl | rfl | rfl | rfl
        · exact new_cell _ _ _ _ 1 _ hlb rfl
        · exact new_cell _ _ _ _ 2 _ hlb rfl
        · exact new_cell _ _ _ _ 3 _ hlb rfl
        · exact new_cell _ _ _ _ 4 _ hlb rfl)
      rw [← hW5, ← hlb]
      clear hW5 hlb HPT HCS HCN
      have c0 := HC0.out W5 (HK4.out.trans HK5.out)
      go_wp2_with fail
      refine (HMN.out _ (HK4.out.trans HK5.out)).mono ?_
      rintro e w9 ⟨rfl, hw9⟩
      rw [hw9]
      clear hw9 w9 c0
      go_wp2_with fail
      go_loopg [35] (ds.length + 1) (fun gg x wr => ∃ j : Nat, j + gg = ds.length + 1 ∧ j ≤ ds.length ∧ x = .int .i64 j ∧ Hid ((wr.cell? ⟨lb, 0, none⟩ = some (.int .i64 pm)) ∧ (∀ k, k < 4 → wr.cell? ⟨lb, 1 + k, none⟩ = some (.int .i64 (lfF ds i j k))) ∧ (∀ k, wr.frozen? ⟨lb, k, none⟩ = false) ∧ Kept W4 wr))
      case atStart => exact ⟨0, by omega, by omega, rfl, hidMk ⟨HR0.out.1, HR0.out.2.1, HR0.out.2.2, HK5.out⟩⟩
      case round =>
        clear HR0 HK5
        obtain ⟨j, hjg, hjd, rfl, HS⟩ := hrel
        have HG := hidMk hjg
        clear hjg
        by_cases hj : j < ds.length
        · have hj' : (j : Int) < (ds.length : Int) := by omega
          have hj4 : (j : Int) < 4 := by have := H4.out; omega
          have hjn : j < 4 := by omega
          obtain ⟨r, hr, hrl⟩ := HRK2.out j hj
          have hrl' : (r : Int) < ((lvsN (dmL ds j)).length : Int) := by omega
          obtain ⟨hbr, hsl, _⟩ := HCR.out W4 HK4.out j hj
          obtain ⟨b2, o2, hva, _, hcc⟩ := hsl.cells (by omega)
          have hel := hcc r hrl
          rw [hva] at hbr
          have HBR := hidMk hbr
          have HRJ := hidMk (show W4.cell? ⟨ab, j, none⟩ = some (.int .i64 r) from by rw [← hr]; exact HAR.out j hjn)
          have HEL := hidMk hel
          have HVV := hidMk (show lfF ds i (j + 1) j = (ints (lvsN (dmL ds j))).getD r 0 from by unfold lfF; rw [if_pos (by omega), hr, Int.toNat_natCast])
          obtain ⟨n, hn⟩ : ∃ n, n = (lvsN (dmL ds j)).length := ⟨_, rfl⟩
          have HKD0 := hidMk HS.out.2.2.2.drew
          have e1 : wr.drew.cell? ⟨lb, 1 + j, none⟩ = some (.int .i64 (lfF ds i j j)) := ((Kept.refl wr).drew).cellp (HS.out.2.1 j hjn)
          have f1 : wr.drew.frozen? ⟨lb, 1 + j, none⟩ = false := HS.out.2.2.1 (1 + j)
          have HN := hidMk (show ((wr.drew.setCell ⟨lb, 1 + j, none⟩ (.int .i64 (lfF ds i (j + 1) j))).cell? ⟨lb, 0, none⟩ = some (.int .i64 pm)) ∧ (∀ k, k < 4 → (wr.drew.setCell ⟨lb, 1 + j, none⟩ (.int .i64 (lfF ds i (j + 1) j))).cell? ⟨lb, 1 + k, none⟩ = some (.int .i64 (lfF ds i (j + 1) k))) ∧ (∀ k, (wr.drew.setCell ⟨lb, 1 + j, none⟩ (.int .i64 (lfF ds i (j + 1) j))).frozen? ⟨lb, k, none⟩ = false) from by
            refine ⟨?_, fun k hk => ?_, fun k => by rw [World.frozen?_setCell]; exact HS.out.2.2.1 k⟩
            · rw [World.cell?_setCell_other _ _ _ _ (by intro h; injection h with _ h1 _; omega)]; exact ((Kept.refl wr).drew).cellp HS.out.1
            · by_cases e : k = j
              · subst e
                rw [World.cell?_setCell_same _ _ _ e1]
              · rw [World.cell?_setCell_other _ _ _ _ (by intro h; injection h with _ h1 _; omega), ((Kept.refl wr).drew).cellp (HS.out.2.1 k hk)]
                unfold lfF
                by_cases e2 : k < j
                · rw [if_pos e2, if_pos (by omega)]
                · rw [if_neg e2, if_neg (by omega)])
          have HKN := hidMk (show Kept W4 (wr.drew.setCell ⟨lb, 1 + j, none⟩ (.int .i64 (lfF ds i (j + 1) j))) from HKD0.out.setCell (p := ⟨lb, 1 + j, none⟩) HLB.out _)
          rw [HVV.out] at HN HKN
          clear hva hcc hel hsl hbr HS hr HAR HRK2 HCR HC0 HMN HVV
          rw [← hn] at hrl' HBR
          generalize (ints (lvsN (dmL ds j))).getD r 0 = v at *
          clear hn hrl
          go_upto_region 8 with fail
          refine wp_region_held_drew (S := (fun w' => Kept W4 w')) (by kernel_rfl) ?_ (fun hHeld => ?_)
          · exact HKD0.out
          refine tkL 0 38 (v := ?_) rfl ?_ ?_
          rotate_left
          · (intro w9 hSw; have g1 := hSw.cellp HBR.out; have g2 := hSw.cellp HRJ.out; have g3 := hSw.cellp HEL.out; clear hSw; go_simp; (try with_reducible rfl))
          (try simp only [tkS])
          refine tkL 1 39 (v := ?_) rfl ?_ ?_
          rotate_left
          · (intro w9 hSw; have g1 := hSw.cellp HBR.out; have g2 := hSw.cellp HRJ.out; have g3 := hSw.cellp HEL.out; clear hSw; go_simp; (try with_reducible rfl))
          (try simp only [tkS])
          refine tkL 2 40 (v := ?_) rfl ?_ ?_
          rotate_left
          · (intro w9 hSw; have g1 := hSw.cellp HBR.out; have g2 := hSw.cellp HRJ.out; have g3 := hSw.cellp HEL.out; clear hSw; go_simp; (try with_reducible rfl))
          (try simp only [tkS])
          refine tkL 3 41 (v := ?_) rfl ?_ ?_
          rotate_left
          · (intro w9 hSw; have g1 := hSw.cellp HBR.out; have g2 := hSw.cellp HRJ.out; have g3 := hSw.cellp HEL.out; clear hSw; go_simp; (try with_reducible rfl))
          (try simp only [tkS])
          refine tkL 4 42 (v := ?_) rfl ?_ ?_
          rotate_left
          · (intro w9 hSw; have g1 := hSw.cellp HBR.out; have g2 := hSw.cellp HRJ.out; have g3 := hSw.cellp HEL.out; clear hSw; go_simp; (try with_reducible rfl))
          (try simp only [tkS])
          refine tkL 5 43 (v := ?_) rfl ?_ ?_
          rotate_left
          · (intro w9 hSw; have g1 := hSw.cellp HBR.out; have g2 := hSw.cellp HRJ.out; have g3 := hSw.cellp HEL.out; clear hSw; go_simp; (try with_reducible rfl))
          (try simp only [tkS])
          refine tkL 6 44 (v := ?_) rfl ?_ ?_
          rotate_left
          · (intro w9 hSw; have g1 := hSw.cellp HBR.out; have g2 := hSw.cellp HRJ.out; have g3 := hSw.cellp HEL.out; clear hSw; go_simp; (try with_reducible rfl))
          (try simp only [tkS])
          refine tkL 7 45 (v := ?_) rfl ?_ ?_
          rotate_left
          · (intro w9 hSw; have g1 := hSw.cellp HBR.out; have g2 := hSw.cellp HRJ.out; have g3 := hSw.cellp HEL.out; clear hSw; go_simp; (try with_reducible rfl))
          (try simp only [tkS])
          refine tkL 8 46 (v := ?_) rfl ?_ ?_
          rotate_left
          · (intro w9 hSw; have g1 := hSw.cellp HBR.out; have g2 := hSw.cellp HRJ.out; have g3 := hSw.cellp HEL.out; clear hSw; go_simp; (try with_reducible rfl))
          (try simp only [tkS])
          refine tkL 9 47 (v := ?_) rfl ?_ ?_
          rotate_left
          · (intro w9 hSw; have g1 := hSw.cellp HBR.out; have g2 := hSw.cellp HRJ.out; have g3 := hSw.cellp HEL.out; clear hSw; go_simp; (try with_reducible rfl))
          (try simp only [tkS])
          refine tkL 10 48 (v := ?_) rfl ?_ ?_
          rotate_left
          · (intro w9 hSw; have g1 := hSw.cellp HBR.out; have g2 := hSw.cellp HRJ.out; have g3 := hSw.cellp HEL.out; clear hSw; go_simp; (try with_reducible rfl))
          (try simp only [tkS])
          refine tkL 11 49 (v := ?_) rfl ?_ ?_
          rotate_left
          · (intro w9 hSw; have g1 := hSw.cellp HBR.out; have g2 := hSw.cellp HRJ.out; have g3 := hSw.cellp HEL.out; clear hSw; go_simp; (try with_reducible rfl))
          (try simp only [tkS])
          refine tkL 12 50 (v := ?_) rfl ?_ ?_
          rotate_left
          · (intro w9 hSw; have g1 := hSw.cellp HBR.out; have g2 := hSw.cellp HRJ.out; have g3 := hSw.cellp HEL.out; clear hSw; go_simp; (try with_reducible rfl))
          (try simp only [tkS])
          refine tkL 13 51 (v := ?_) rfl ?_ ?_
          rotate_left
          · (intro w9 hSw; have g1 := hSw.cellp HBR.out; have g2 := hSw.cellp HRJ.out; have g3 := hSw.cellp HEL.out; clear hSw; go_simp; (try with_reducible rfl))
          (try simp only [tkS])
          refine wpAnyH_ready (rs := [14]) (by kernel_rfl) (by simp) ?_
          refine AllReadyH.cons (o := ⟨none, _, _, _, _, _⟩) rfl (fun K hK => ?_) AllReadyH.nil
          go_simp
          refine hK.out _ _ ?_ (fun hHeld => ?_)
          · (first | exact HKN.out | exact HKD0.out | assumption)
          clear hK K
          (try simp only [tkS])
          refine wpAnyH_done (by kernel_rfl) ?_ _
          go_wp2_with fail
          go_roundg (gk - 1)
          case measure => have := HG.out; omega
          case rel => exact ⟨j + 1, by have := HG.out; omega, by omega, by go_num, hidMk ⟨HN.out.1, HN.out.2.1, HN.out.2.2, HKN.out⟩⟩
        · have hje : j = ds.length := by omega
          subst hje
          have g0 := HS.out.1
          have g1 : wr.cell? ⟨lb, 1, none⟩ = some (.int .i64 (lfF ds i ds.length 0)) := HS.out.2.1 0 (by omega)
          have g2 : wr.cell? ⟨lb, 2, none⟩ = some (.int .i64 (lfF ds i ds.length 1)) := HS.out.2.1 1 (by omega)
          have g3 : wr.cell? ⟨lb, 3, none⟩ = some (.int .i64 (lfF ds i ds.length 2)) := HS.out.2.1 2 (by omega)
          have g4 : wr.cell? ⟨lb, 4, none⟩ = some (.int .i64 (lfF ds i ds.length 3)) := HS.out.2.1 3 (by omega)
          have HKR1 := hidMk (HK4.out.trans HS.out.2.2.2)
          clear HS HG
          have f0 : wr.frozen? ⟨cb, 0, none⟩ = false := (HKR1.out.frozen (p := ⟨cb, 0, none⟩) (show cb < W1.heap.size from HCB.out)).trans (HCF.out 0)
          have f1 : wr.frozen? ⟨cb, 1, none⟩ = false := (HKR1.out.frozen (p := ⟨cb, 1, none⟩) (show cb < W1.heap.size from HCB.out)).trans (HCF.out 1)
          have f2 : wr.frozen? ⟨cb, 2, none⟩ = false := (HKR1.out.frozen (p := ⟨cb, 2, none⟩) (show cb < W1.heap.size from HCB.out)).trans (HCF.out 2)
          have f3 : wr.frozen? ⟨cb, 3, none⟩ = false := (HKR1.out.frozen (p := ⟨cb, 3, none⟩) (show cb < W1.heap.size from HCB.out)).trans (HCF.out 3)
          have f4 : wr.frozen? ⟨cb, 4, none⟩ = false := (HKR1.out.frozen (p := ⟨cb, 4, none⟩) (show cb < W1.heap.size from HCB.out)).trans (HCF.out 4)
          have s0 := HKR1.out.cellp HCC.out.1
          have s1 := HKR1.out.cellp HCC.out.2.1
          have s2 := HKR1.out.cellp HCC.out.2.2.1
          have s3 := HKR1.out.cellp HCC.out.2.2.2.1
          have s4 := HKR1.out.cellp HCC.out.2.2.2.2
          go_wp2_with fail
          obtain ⟨V, hV⟩ : ∃ V, V = set5 wr cb (.int .i64 pm) (.int .i64 (lfF ds i ds.length 0)) (.int .i64 (lfF ds i ds.length 1)) (.int .i64 (lfF ds i ds.length 2)) (.int .i64 (lfF ds i ds.length 3)) := ⟨_, rfl⟩
          have c5 := set5_cells s0 s1 s2 s3 s4 (.int .i64 pm) (.int .i64 (lfF ds i ds.length 0)) (.int .i64 (lfF ds i ds.length 1)) (.int .i64 (lfF ds i ds.length 2)) (.int .i64 (lfF ds i ds.length 3))
          have kk := set5_kept (HK1.out.trans HKR1.out) HLT.out (.int .i64 pm) (.int .i64 (lfF ds i ds.length 0)) (.int .i64 (lfF ds i ds.length 1)) (.int .i64 (lfF ds i ds.length 2)) (.int .i64 (lfF ds i ds.length 3))
          rw [← hV] at c5 kk
          unfold set5 at hV
          rw [← hV]
          clear s0 s1 s2 s3 s4 hV
          refine bodyPost_ret (v := .tuple #[.agg #[.int .i64 pm, .int .i64 (lfF ds i ds.length 0), .int .i64 (lfF ds i ds.length 1), .int .i64 (lfF ds i ds.length 2), .int .i64 (lfF ds i ds.length 3)], .bool true]) ?_ rfl ⟨rfl, kk⟩
          simp only [results, show Tryz.f84.results = #[.cell 4 29, .tmp 5] from rfl]
          obtain ⟨s0, s1, s2, s3, s4⟩ := c5
          go_simp
    · have hmn : M ≤ i := by omega
      simp only [if_neg (fun e : 0 ≤ i ∧ i < M => hm e.2)]
      go_enter Tryz.func84, Tryz.ntmps84
      go_upto_region 1 with fail
      rw [← hW1, ← hcb]
      clear hW1 hcb
      go_wp2_with fail
      refine (HCS.out _ (Kept.refl _)).mono ?_
      rintro e w2 ⟨rfl, k2⟩
      have HK2 := hidMk k2
      clear k2
      have f0 : w2.frozen? ⟨cb, 0, none⟩ = false := (HK2.out.frozen (p := ⟨cb, 0, none⟩) (show cb < W1.heap.size from HCB.out)).trans (HCF.out 0)
      have f1 : w2.frozen? ⟨cb, 1, none⟩ = false := (HK2.out.frozen (p := ⟨cb, 1, none⟩) (show cb < W1.heap.size from HCB.out)).trans (HCF.out 1)
      have f2 : w2.frozen? ⟨cb, 2, none⟩ = false := (HK2.out.frozen (p := ⟨cb, 2, none⟩) (show cb < W1.heap.size from HCB.out)).trans (HCF.out 2)
      have f3 : w2.frozen? ⟨cb, 3, none⟩ = false := (HK2.out.frozen (p := ⟨cb, 3, none⟩) (show cb < W1.heap.size from HCB.out)).trans (HCF.out 3)
      have f4 : w2.frozen? ⟨cb, 4, none⟩ = false := (HK2.out.frozen (p := ⟨cb, 4, none⟩) (show cb < W1.heap.size from HCB.out)).trans (HCF.out 4)
      have s0 := HK2.out.cellp HCC.out.1
      have s1 := HK2.out.cellp HCC.out.2.1
      have s2 := HK2.out.cellp HCC.out.2.2.1
      have s3 := HK2.out.cellp HCC.out.2.2.2.1
      have s4 := HK2.out.cellp HCC.out.2.2.2.2
      go_wp2_with fail
      obtain ⟨V, hV⟩ : ∃ V, V = set5 w2 cb (.int .i64 0) (.int .i64 0) (.int .i64 0) (.int .i64 0) (.int .i64 0) := ⟨_, rfl⟩
      have c5 := set5_cells s0 s1 s2 s3 s4 (.int .i64 0) (.int .i64 0) (.int .i64 0) (.int .i64 0) (.int .i64 0)
      have kk := set5_kept (HK1.out.trans HK2.out) HLT.out (.int .i64 0) (.int .i64 0) (.int .i64 0) (.int .i64 0) (.int .i64 0)
      rw [← hV] at c5 kk
      unfold set5 at hV
      rw [← hV]
      clear s0 s1 s2 s3 s4 hV
      refine bodyPost_ret (v := .tuple #[.agg #[.int .i64 0, .int .i64 0, .int .i64 0, .int .i64 0, .int .i64 0], .bool false]) ?_ rfl ⟨rfl, kk⟩
      simp only [results, show Tryz.f84.results = #[.cell 4 29, .tmp 5] from rfl]
      obtain ⟨s0, s1, s2, s3, s4⟩ := c5
      go_simp
  · have hin : i < 0 := by omega
    simp only [if_neg (fun e : 0 ≤ i ∧ i < M => hi e.1)]
    go_enter Tryz.func84, Tryz.ntmps84
    go_upto_region 1 with fail
    rw [← hW1, ← hcb]
    clear hW1 hcb
    obtain ⟨s0, s1, s2, s3, s4⟩ := HCC.out
    have f0 := HCF.out 0
    have f1 := HCF.out 1
    have f2 := HCF.out 2
    have f3 := HCF.out 3
    have f4 := HCF.out 4
    go_wp2_with fail
    obtain ⟨V, hV⟩ : ∃ V, V = set5 W1 cb (.int .i64 0) (.int .i64 0) (.int .i64 0) (.int .i64 0) (.int .i64 0) := ⟨_, rfl⟩
    have c5 := set5_cells s0 s1 s2 s3 s4 (.int .i64 0) (.int .i64 0) (.int .i64 0) (.int .i64 0) (.int .i64 0)
    have kk := set5_kept (HK1.out) HLT.out (.int .i64 0) (.int .i64 0) (.int .i64 0) (.int .i64 0) (.int .i64 0)
    rw [← hV] at c5 kk
    unfold set5 at hV
    rw [← hV]
    clear s0 s1 s2 s3 s4 hV
    refine bodyPost_ret (v := .tuple #[.agg #[.int .i64 0, .int .i64 0, .int .i64 0, .int .i64 0, .int .i64 0], .bool false]) ?_ rfl ⟨rfl, kk⟩
    simp only [results, show Tryz.f84.results = #[.cell 4 29, .tmp 5] from rfl]
    obtain ⟨s0, s1, s2, s3, s4⟩ := c5
    go_simp
end
end Go.Proofs.YtmedgkccicbieaaGreat
namespace Go.Proofs.YtmedgkccicbieaaGreat
open Go.RowKit Go.Maps Go.Shelf
set_option linter.unusedSimpArgs false
set_option linter.unusedVariables false
attribute [local go_sem] Oper.semAt_some

def okC (ms : List ByteArray) (ds : List Dm) (n : Int) : Prop := 0 ≤ n ∧ n < mulK (fun k => leas ds k) ms.length 4
section
variable {w : World} {s p : Nat} {ds : List Dm} {ms : List ByteArray} {tp : Nat → Nat} {rv : Nat → Option Addr × Nat}
set_option maxHeartbeats 4000000 in
set_option maxRecDepth 100000 in
theorem sw_Inside (h : SW w s p ds ms tp rv) (cm : Int) (at_ : Nat → Int) (n : Int) : Calls Tryz.prog 42 #[.pointer (some ⟨s, 0, none⟩), cellV cm at_, .int .i64 n] w fun e w' => ∃ r, e = .returned (.bool r) ∧ (r = true ↔ okC ms ds n ∧ inC ms ds (prQ (fun k => leas ds k) n 4) (lfF ds n ds.length) cm at_) ∧ Kept w w' := by
  obtain ⟨cb, hcb⟩ : ∃ x, x = w.heap.size := ⟨_, rfl⟩
  obtain ⟨W1, hW1⟩ : ∃ X, X = w.alloc (.cells #[.int .i64 cm, .int .i64 (at_ 0), .int .i64 (at_ 1), .int .i64 (at_ 2), .int .i64 (at_ 3)] 29) := ⟨_, rfl⟩
  have k1 : Kept w W1 := by rw [hW1]; exact (Kept.refl w).alloc _
  have HCC := hidMk (show W1.cell? ⟨cb, 0, none⟩ = some (.int .i64 cm) ∧ W1.cell? ⟨cb, 1, none⟩ = some (.int .i64 (at_ 0)) ∧ W1.cell? ⟨cb, 2, none⟩ = some (.int .i64 (at_ 1)) ∧ W1.cell? ⟨cb, 3, none⟩ = some (.int .i64 (at_ 2)) ∧ W1.cell? ⟨cb, 4, none⟩ = some (.int .i64 (at_ 3)) from by
    rw [hW1]; exact ⟨new_cell _ _ _ _ 0 _ hcb rfl, new_cell _ _ _ _ 1 _ hcb rfl, new_cell _ _ _ _ 2 _ hcb rfl, new_cell _ _ _ _ 3 _ hcb rfl, new_cell _ _ _ _ 4 _ hcb rfl⟩)
  have HLF := hidMk (fun X (kX : Kept W1 X) => sw_LeafOf (h.keep (k1.trans kX)) n)
  have HWI := hidMk (fun X (kX : Kept W1 X) => sw_Within (h.keep (k1.trans kX)) (prQ (fun k => leas ds k) n 4) (lfF ds n ds.length) cm at_)
  have HK1 := hidMk k1
  have HOK := hidMk (show okC ms ds n ↔ (0 ≤ n ∧ n < mulK (fun k => leas ds k) ms.length 4) from Iff.rfl)
  generalize inC ms ds (prQ (fun k => leas ds k) n 4) (lfF ds n ds.length) cm at_ = I at *
  generalize okC ms ds n = O at *
  unfold cellV at *
  dsimp only at HLF
  generalize mulK (fun k => (leas ds k : Int)) (ms.length : Int) 4 = M at *
  generalize prQ (fun k => (leas ds k : Int)) n 4 = pm at *
  generalize lfF ds n ds.length 0 = x0 at *
  generalize lfF ds n ds.length 1 = x1 at *
  generalize lfF ds n ds.length 2 = x2 at *
  generalize lfF ds n ds.length 3 = x3 at *
  clear h k1
  by_cases ho : 0 ≤ n ∧ n < M
  · simp only [if_pos ho] at HLF
    go_enter Tryz.func42, Tryz.ntmps42
    go_upto_region 1 with fail
    rw [← hW1, ← hcb]
    clear hW1 hcb
    go_wp2_with fail
    refine (HLF.out _ (Kept.refl _)).mono ?_
    rintro e w2 ⟨rfl, k2⟩
    have HK2 := hidMk k2
    clear k2 HLF
    go_upto_region 2 with fail
    obtain ⟨W3, hW3⟩ : ∃ X, X = w2.alloc (.cells #[.int .i64 pm, .int .i64 x0, .int .i64 x1, .int .i64 x2, .int .i64 x3] 29) := ⟨_, rfl⟩
    obtain ⟨lb, hlb⟩ : ∃ x, x = w2.heap.size := ⟨_, rfl⟩
    have HK3 := hidMk (show Kept W1 W3 from by rw [hW3]; exact HK2.out.alloc _)
    have z0 : W3.cell? ⟨lb, 0, none⟩ = some (.int .i64 pm) := by rw [hW3]; exact new_cell _ _ _ _ 0 _ hlb rfl
    have z1 : W3.cell? ⟨lb, 1, none⟩ = some (.int .i64 x0) := by rw [hW3]; exact new_cell _ _ _ _ 1 _ hlb rfl
    have z2 : W3.cell? ⟨lb, 2, none⟩ = some (.int .i64 x1) := by rw [hW3]; exact new_cell _ _ _ _ 2 _ hlb rfl
    have z3 : W3.cell? ⟨lb, 3, none⟩ = some (.int .i64 x2) := by rw [hW3]; exact new_cell _ _ _ _ 3 _ hlb rfl
    have z4 : W3.cell? ⟨lb, 4, none⟩ = some (.int .i64 x3) := by rw [hW3]; exact new_cell _ _ _ _ 4 _ hlb rfl
    rw [← hW3, ← hlb]
    clear hW3 hlb HK2
    have s0 := HK3.out.cellp HCC.out.1
    have s1 := HK3.out.cellp HCC.out.2.1
    have s2 := HK3.out.cellp HCC.out.2.2.1
    have s3 := HK3.out.cellp HCC.out.2.2.2.1
    have s4 := HK3.out.cellp HCC.out.2.2.2.2
    go_wp2_with fail
    refine (HWI.out _ HK3.out).mono ?_
    rintro e w4 ⟨r, rfl, hr, k4⟩
    have HR := hidMk hr
    have HK4 := hidMk (HK3.out.trans k4)
    clear hr k4
    go_wp2_with fail
    go_ret
    exact ⟨r, rfl, ⟨fun e => ⟨HOK.out.2 ho, HR.out.1 e⟩, fun e => HR.out.2 e.2⟩, HK1.out.trans HK4.out⟩
  · simp only [if_neg ho] at HLF
    go_enter Tryz.func42, Tryz.ntmps42
    go_upto_region 1 with fail
    rw [← hW1, ← hcb]
    clear hW1 hcb
    go_wp2_with fail
    refine (HLF.out _ (Kept.refl _)).mono ?_
    rintro e w2 ⟨rfl, k2⟩
    have HK2 := hidMk k2
    clear k2 HLF
    go_wp2_with fail
    go_ret
    exact ⟨false, rfl, ⟨fun e => Bool.noConfusion e, fun e => absurd (HOK.out.1 e.1) ho⟩, HK1.out.trans (HK2.out.alloc _)⟩
end
end Go.Proofs.YtmedgkccicbieaaGreat
namespace Go.Proofs.YtmedgkccicbieaaGreat
open Go.RowKit Go.Maps Go.Shelf
set_option linter.unusedSimpArgs false
set_option linter.unusedVariables false
attribute [local go_sem] Oper.semAt_some

theorem n_New (w : World) : Calls Tryz.prog 45 #[.pointer none] w fun e w' => e = .returned (.tuple #[.pointer none, .int .i64 1]) ∧ w' = w := by
  go_enter Tryz.func45, Tryz.ntmps45
  go_wp2_with fail
  go_ret2
  exact ⟨rfl, rfl⟩
end Go.Proofs.YtmedgkccicbieaaGreat
namespace Go.Proofs.YtmedgkccicbieaaGreat
open Go.RowKit Go.Maps Go.Shelf
set_option linter.unusedSimpArgs false
set_option linter.unusedVariables false

theorem leaf_from {l : List Nd} (h : Tr l) : ∀ (g i : Nat), i < l.length → 6 < hl l (i : Int) + g → ∃ x, x < l.length ∧ leafB l x = true := by
  intro g
  induction g with
  | zero => intro i hi hg; have := h.deep i hi; omega
  | succ g ih =>
    intro i hi hg
    cases hb : leafB l i with
    | true => exact ⟨i, hi, hb⟩
    | false =>
      unfold leafB at hb
      cases hk : kidN l (i : Int) with
      | nil => rw [hk] at hb; simp at hb
      | cons k r =>
        obtain ⟨k1, k2⟩ := mem_kidN.1 (show k ∈ kidN l (i : Int) by rw [hk]; simp)
        have e : upI l (k : Int) = (i : Int) := by unfold upI; rw [if_pos (isP_nat k1)]; exact k2
        have h1 := hl_up h.nl (isP_nat k1)
        rw [e] at h1
        exact ih k k1 (by omega)
theorem lvs_ne {l : List Nd} (h : Tr l) (h1 : 1 ≤ l.length) : 1 ≤ (lvsN l).length := by
  obtain ⟨x, hx, hb⟩ := leaf_from h 7 0 (by omega) (by omega)
  have : x ∈ lvsN l := by unfold lvsN; rw [List.mem_filter]; exact ⟨ord_all h hx, hb⟩
  exact List.length_pos_of_mem this
end Go.Proofs.YtmedgkccicbieaaGreat
