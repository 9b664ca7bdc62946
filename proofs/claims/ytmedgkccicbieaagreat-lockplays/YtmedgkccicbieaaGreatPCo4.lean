/- A range over a function whose iterator keeps cells of its own: the law for the caller; regions that draw, inside a round. · coord: products and numbers of four counts. · coord: together: all ways to take one of each list. · coord: together's closure; numbers. · coord: together, numbers; rows of rows. -/
import Derived.RangeFuncNested
import Derived.RangeFuncBound
import Derived.RangeFuncCalls
import Derived.RangeFuncLeaves
import Derived.Shelf.Abstract
import Derived.Shelf.RegionOpen
import Derived.WalkKit
import Derived.OwnWalkIn
import Derived.TacticsInMore
import Derived.LoopNIn
import Derived.LoopIn
import Derived.OrdersHeld
import Derived.Deep.RegionHeld
import Derived.Test.YtmedgkccicbieaaGreatPDims14B
namespace Go.Proofs.YtmedgkccicbieaaGreat
open Go Go.RowKit
set_option linter.unusedSimpArgs false
set_option linter.unusedVariables false

section
variable {P : Program} {l n : Nat} {Q : Exit → Act → World → Prop}
theorem oper_lift {o : Oper} (hd : ∀ c, o.op ≠ .defer c) {a : Act} {w : World} {K : Act → World → Prop} (h : o.wp P a w K Q) : o.wpIn (Fence.wide.inRound l) n P a w K Q := by
  refine ⟨fun _ _ => trivial, ?_⟩
  rw [show (Fence.wide.inRound l).round = some l from rfl, Oper.semAt_some l _ _ hd]
  unfold Oper.wp at h
  generalize (execOp a.eval o).run P w = r at *
  cases r with
  | ok x w' =>
    cases x with
    | value v => exact h
    | skip => exact h
    | defer d => exact h
    | enter f args => exact ⟨fun e => by simp [Fence.inRound, Fence.wide] at e, CallsIn.inRound l (callsIn_wide.2 h)⟩
    | row row args => exact ⟨fun e => by simp [Fence.inRound, Fence.wide] at e, fun c cs _ => let ⟨v, w', r, s⟩ := h c cs; ⟨v, w', r, stepsIn_wide.2 s⟩⟩
    | _ => exact False.elim h
  | halt x w' => cases x <;> first | exact h | exact False.elim h
theorem any_lift {md : Region.Mode} {ops : Array Oper} (hd : ∀ o ∈ ops.toList, ∀ c, o.op ≠ .defer c) (hQ : ¬ LetsOut Q) : ∀ (fuel : Nat) (listed : Array Bool) (a : Act) (w : World), wpAny P md ops Q fuel listed a w → wpAnyIn (Fence.wide.inRound l) n P md ops Q fuel listed a w := by
  intro fuel
  induction fuel with
  | zero => intro listed a w h; exact h
  | succ fuel ih =>
    intro listed a w h
    refine ⟨h.1, fun i hi => ?_⟩
    have h1 := h.2 i hi
    unfold wpOp at h1
    unfold wpOpIn
    cases ho : ops[i]? with
    | none => rw [ho] at h1; exact ih _ _ _ h1
    | some o =>
      rw [ho] at h1
      simp only at h1 ⊢
      have hmem : o ∈ ops.toList := by
        have := List.mem_of_getElem? (l := ops.toList) (i := i) (a := o) (by simpa using ho)
        exact this
      split
      · next hw =>
        rw [if_pos hw] at h1
        rcases h1 with h1 | ⟨_, h1⟩
        · exact Oper.wpIn_mono (fun a w => ih _ a w) (oper_lift (hd o hmem) h1)
        · exact absurd h1 hQ
      · next hw =>
        rw [if_neg hw] at h1
        exact ⟨fun _ _ => trivial, ih _ _ _ h1⟩
theorem round_region_held {id : Nat} {ops : Array Oper} {S : World → Prop} {a : Act} {w : World} (hm : P.follows .mixedOrders = true) (hd : ∀ o ∈ ops.toList, ∀ c, o.op ≠ .defer c) (hQ : ¬ LetsOut Q) (hS : S w.drew)
    (h : S w.drew → wpAnyH P .any ops Q S ops.size (Array.replicate ops.size false) a w.drew) : (Code.region id ops true).wpIn (Fence.wide.inRound l) n P Q a w :=
  wpIn_region_any hm (any_lift hd hQ _ _ _ _ (wpAny_of_held _ _ _ _ (h hS)))
end
def Recs (d : Nat) (R : Obj) (X : World) : Prop := X.heap[d + 1]? = some R ∧ X.heap[d]? = some (.deferred (some []))
theorem range_su {α : Type} {P : Program} {g : Operand} {ps : Array Tmp} {assign body : Code} {Q : Exit → Act → World → Prop} {a : Act} {w : World} {n gf : Nat} {lb : Array Value}
    (hg : a.eval g = .func (.func gf) #[] lb) (eg : ∀ args w, (callFunc gf args).run P w = .ok (.enter gf args) w) {encs : α → Array Value} (hps : ∀ x, (encs x).size = ps.size)
    (xs : List α) (J : List α → World → Prop) (Kp : World → World → Prop)
    (hJr : ∀ pre X o, J pre X → w.heap.size + 1 < X.heap.size → J pre (X.putObj (w.heap.size + 1) o)) (hKr : ∀ X o, w.heap.size + 1 < X.heap.size → Kp X (X.putObj (w.heap.size + 1) o)) (hKt : ∀ {A B C : World}, Kp A B → Kp B C → Kp A C)
    (hround : ∀ (R R' : Obj) (pre : List α) (x : α) (X : World), J pre X → pre ++ [x] <+: xs → Recs w.heap.size R X →
      assign.wpIn (Fence.wide.inRound (w.heap.size + 1)) n P (Exit.then (fun a1 X1 => J pre X1 ∧ Kp X X1 ∧ Recs w.heap.size R X1 ∧
        body.wpIn (Fence.wide.inRound (w.heap.size + 1)) n P (fun e _ X' => e = .normal ∧ J (pre ++ [x]) X' ∧ Kp (X1.putObj (w.heap.size + 1) R') X' ∧ Recs w.heap.size R' X') a1 (X1.putObj (w.heap.size + 1) R')) (fun _ _ _ => False))
        { tmps := (ps.zip (encs x)).foldl (fun t (p, v) => t.setIfInBounds p v) a.tmps, defers := [] } X)
    (hit : ∀ R : Obj, (∀ pre x X, J pre X → Recs w.heap.size R X → pre ++ [x] <+: xs → YieldAt Fence.wide n P (w.heap.size + 1) (encs x) X (fun e X' => e = .returned (.bool true) ∧ J (pre ++ [x]) X' ∧ Recs w.heap.size R X' ∧ Kp X X')) →
      CallsIn Fence.wide (n + 1) P gf (#[.func (.yield (w.heap.size + 1)) #[] #[]] ++ lb) ((w.alloc (.deferred (some []))).alloc R) (fun e X' => (∃ v, e = .returned v) ∧ J xs X' ∧ Recs w.heap.size R X'))
    (hdone : ∀ X, J xs X → X.heap[w.heap.size]? = some (.deferred (some [])) → Q .normal { a with defers := { target := .collected w.heap.size, args := #[] } :: a.defers } X) :
    (Code.rangeFunc g ps assign body).wpIn Fence.wide (n + 2) P Q a w := by
  refine wpIn_rangeFunc ?_
  intro fn hfn
  obtain ⟨rec, hrec⟩ : ∃ rec : LoopState → Loop, rec = fun st => { state := st, pending := none, fn, tmps := a.tmps, params := ps, assign, body, defers := w.heap.size } := ⟨_, rfl⟩
  refine ⟨w.heap.size + 1, [{ target := .collected w.heap.size, args := #[] }], (w.alloc (.deferred (some []))).alloc (.loop (rec .ready)), { target := .fn (.func gf) lb, args := #[.func (.yield (w.heap.size + 1)) #[] #[]] }, (w.alloc (.deferred (some []))).alloc (.loop (rec .ready)), gf,
    #[.func (.yield (w.heap.size + 1)) #[] #[]] ++ lb, (w.alloc (.deferred (some []))).alloc (.loop (rec .ready)), ?_, ?_, ?_, ?_, fun _ => by omega, ?_⟩
  · rw [hrec]; exact run_enterLoop_outer _ _ _ _ _
  · simp only [resolve, hg]
    simp [go_sem]
  · intro f' _; trivial
  · simp [invoke, go_sem, eg]
  · refine (hit (.loop (rec .ready)) ?_).mono ?_
    · intro pre x X hJ hR hpre
      have hlt : w.heap.size + 1 < X.heap.size := (Array.getElem?_eq_some_iff.1 hR.1).1
      have hy := run_yield (P := P) (args := encs x) hR.1 (by rw [hrec]; exact hps x)
      rw [hrec] at hy
      refine ⟨fn, _, assign, body, hy, roundIn_of_wpIn hfn (Go.wpIn_mono (hround (.loop (rec .ready)) (.loop (rec .busy)) pre x X hJ hpre hR) ?_)⟩
      rintro e a1 X1 h
      cases e with
      | normal =>
        obtain ⟨h1, h2, h3, h4⟩ := h
        have hlt1 : w.heap.size + 1 < X1.heap.size := (Array.getElem?_eq_some_iff.1 h3.1).1
        refine ⟨X1.putObj (w.heap.size + 1) (.loop (rec .busy)), ?_, Go.wpIn_mono h4 ?_⟩
        · have := run_beginRound (P := P) h3.1 (by rw [hrec])
          rw [hrec] at this ⊢
          exact this
        · rintro e2 a2 X2 ⟨rfl, j1, j2, j3⟩
          have hlt2 : w.heap.size + 1 < X2.heap.size := (Array.getElem?_eq_some_iff.1 j3.1).1
          have he := run_endRound (P := P) none j3.1
          rw [hrec] at he
          refine ⟨_, _, he, rfl, hJr _ _ _ j1 hlt2, ⟨?_, ?_⟩, ?_⟩
          · rw [hrec]; exact World.putObj_heap_same hlt2
          · exact (World.putObj_heap_other (by omega)).trans j3.2
          · exact hKt (hKt (hKt h2 (hKr _ _ hlt1)) j2) (hKr _ _ hlt2)
      | ret => exact h.elim
      | exit id => exact h.elim
      | goto t => exact h.elim
      | panic c => exact h.elim
      | outgrown => exact h.elim
    · rintro e X ⟨⟨v, rfl⟩, hJ, hR⟩
      have hlt : w.heap.size + 1 < X.heap.size := (Array.getElem?_eq_some_iff.1 hR.1).1
      have he := run_endLoop (P := P) hR.1 (by rw [hrec]; simp)
      rw [hrec] at he
      exact ⟨none, _, he, hdone _ (hJr _ _ _ hJ hlt) ((World.putObj_heap_other (by omega)).trans hR.2)⟩
theorem range_st {α : Type} {P : Program} {g : Operand} {ps : Array Tmp} {assign body : Code} {Q : Exit → Act → World → Prop} {a : Act} {w : World} {n gf : Nat} {lb : Array Value}
    (hg : a.eval g = .func (.func gf) #[] lb) (eg : ∀ args w, (callFunc gf args).run P w = .ok (.enter gf args) w) {encs : α → Array Value} (hps : ∀ x, (encs x).size = ps.size)
    (xs : List α) (J : List α → World → Prop) (Kp : World → World → Prop)
    (hJr : ∀ pre X o, J pre X → w.heap.size + 1 < X.heap.size → J pre (X.putObj (w.heap.size + 1) o)) (hKr : ∀ X o, w.heap.size + 1 < X.heap.size → Kp X (X.putObj (w.heap.size + 1) o)) (hKt : ∀ {A B C : World}, Kp A B → Kp B C → Kp A C)
    (h0 : ∀ o o', J [] ((w.alloc o).alloc o'))
    (hround : ∀ (R R' : Obj) (pre : List α) (x : α) (X : World), J pre X → pre ++ [x] <+: xs → Recs w.heap.size R X →
      assign.wpIn (Fence.wide.inRound (w.heap.size + 1)) n P (Exit.then (fun a1 X1 => J pre X1 ∧ Kp X X1 ∧ Recs w.heap.size R X1 ∧
        body.wpIn (Fence.wide.inRound (w.heap.size + 1)) n P (fun e _ X' => e = .normal ∧ J (pre ++ [x]) X' ∧ Kp (X1.putObj (w.heap.size + 1) R') X' ∧ Recs w.heap.size R' X') a1 (X1.putObj (w.heap.size + 1) R')) (fun _ _ _ => False))
        { tmps := (ps.zip (encs x)).foldl (fun t (p, v) => t.setIfInBounds p v) a.tmps, defers := [] } X)
    (hit : ∀ R : Obj, (∀ pre x X, J pre X → Recs w.heap.size R X → pre ++ [x] <+: xs → YieldAt Fence.wide n P (w.heap.size + 1) (encs x) X (fun e X' => e = .returned (.bool true) ∧ J (pre ++ [x]) X' ∧ Recs w.heap.size R X' ∧ Kp X X')) →
      CallsIn Fence.wide (n + 1) P gf (#[.func (.yield (w.heap.size + 1)) #[] #[]] ++ lb) ((w.alloc (.deferred (some []))).alloc R) (fun e X' => (∃ v, e = .returned v) ∧ J xs X' ∧ Recs w.heap.size R X'))
    (hdone : ∀ X, J xs X → X.heap[w.heap.size]? = some (.deferred (some [])) → Q .normal { a with defers := { target := .collected w.heap.size, args := #[] } :: a.defers } X) :
    (Code.rangeFunc g ps assign body).wpIn Fence.wide (n + 2) P Q a w :=
  range_su hg eg hps xs J Kp hJr hKr hKt hround hit hdone

def mulK (f : Nat → Int) (m : Int) : Nat → Int
  | 0 => m
  | k + 1 => mulK f m k * f k
def numK (f at_ : Nat → Int) (m : Int) : Nat → Int
  | 0 => m
  | k + 1 => numK f at_ m k * f k + at_ k
def arr4 (f : Nat → Int) : Value := .agg #[.int .i64 (f 0), .int .i64 (f 1), .int .i64 (f 2), .int .i64 (f 3)]
theorem mulK_bound {f : Nat → Int} {m : Int} (h0 : 0 ≤ m ∧ m ≤ 1000) (hf : ∀ k, 0 ≤ f k ∧ f k ≤ 1000) : (0 ≤ mulK f m 0 ∧ mulK f m 0 ≤ 1000) ∧ (0 ≤ mulK f m 1 ∧ mulK f m 1 ≤ 1000000) ∧ (0 ≤ mulK f m 2 ∧ mulK f m 2 ≤ 1000000000) ∧ (0 ≤ mulK f m 3 ∧ mulK f m 3 ≤ 1000000000000) ∧ (0 ≤ mulK f m 4 ∧ mulK f m 4 ≤ 1000000000000000) := by
  have st : ∀ (x y b : Int), 0 ≤ x ∧ x ≤ b → 0 ≤ y ∧ y ≤ 1000 → 0 ≤ x * y ∧ x * y ≤ b * 1000 := fun x y b hx hy =>
    ⟨Int.mul_nonneg hx.1 hy.1, Int.mul_le_mul hx.2 hy.2 hy.1 (by omega)⟩
  have a1 := st _ _ 1000 h0 (hf 0)
  have a2 := st _ _ 1000000 a1 (hf 1)
  have a3 := st _ _ 1000000000 a2 (hf 2)
  have a4 := st _ _ 1000000000000 a3 (hf 3)
  exact ⟨h0, a1, a2, a3, a4⟩
theorem numK_bound {f at_ : Nat → Int} {m : Int} (h0 : 0 ≤ m ∧ m ≤ 1000) (hf : ∀ k, 0 ≤ f k ∧ f k ≤ 1000) (ha : ∀ k, 0 ≤ at_ k ∧ at_ k ≤ 1000) : (0 ≤ numK f at_ m 1 ∧ numK f at_ m 1 ≤ 1001000) ∧ (0 ≤ numK f at_ m 2 ∧ numK f at_ m 2 ≤ 1001001000) ∧ (0 ≤ numK f at_ m 3 ∧ numK f at_ m 3 ≤ 1001001001000) ∧ (0 ≤ numK f at_ m 4 ∧ numK f at_ m 4 ≤ 1001001001001000) := by
  have st : ∀ (x y z b : Int), 0 ≤ x ∧ x ≤ b → 0 ≤ y ∧ y ≤ 1000 → 0 ≤ z ∧ z ≤ 1000 → 0 ≤ x * y + z ∧ x * y + z ≤ b * 1000 + 1000 := fun x y z b hx hy hz => by
    have h1 := Int.mul_nonneg hx.1 hy.1
    have h2 : x * y ≤ b * 1000 := Int.mul_le_mul hx.2 hy.2 hy.1 (by omega)
    omega
  have a1 := st _ _ _ 1000 h0 (hf 0) (ha 0)
  have a2 := st _ _ _ 1001000 a1 (hf 1) (ha 1)
  have a3 := st _ _ _ 1001001000 a2 (hf 2) (ha 2)
  have a4 := st _ _ _ 1001001001000 a3 (hf 3) (ha 3)
  exact ⟨a1, a2, a3, a4⟩
theorem ix_arr (f0 f1 f2 f3 : Int) (W : World) : (Instr.index 145 (.agg #[.int .i64 f0, .int .i64 f1, .int .i64 f2, .int .i64 f3]) (.int .i64 0)).run Tryz.prog W = .ok (.int .i64 f0) W ∧ (Instr.index 145 (.agg #[.int .i64 f0, .int .i64 f1, .int .i64 f2, .int .i64 f3]) (.int .i64 1)).run Tryz.prog W = .ok (.int .i64 f1) W ∧ (Instr.index 145 (.agg #[.int .i64 f0, .int .i64 f1, .int .i64 f2, .int .i64 f3]) (.int .i64 2)).run Tryz.prog W = .ok (.int .i64 f2) W ∧ (Instr.index 145 (.agg #[.int .i64 f0, .int .i64 f1, .int .i64 f2, .int .i64 f3]) (.int .i64 3)).run Tryz.prog W = .ok (.int .i64 f3) W := by
  refine ⟨?_, ?_, ?_, ?_⟩ <;> kernel_rfl
theorem wrap_c {z : Int} (h1 : -4611686018427387904 ≤ z) (h2 : z ≤ 4611686018427387904) : wrap64 z = z := by unfold wrap64; omega
set_option maxHeartbeats 2000000 in
set_option maxRecDepth 100000 in
theorem coord_times (f : Nat → Int) (m : Int) (h0 : 0 ≤ m ∧ m ≤ 1000) (hf : ∀ k, 0 ≤ f k ∧ f k ≤ 1000) (w : World) : Calls Tryz.prog 83 #[arr4 f, .int .i64 m] w fun e w' => e = .returned (.int .i64 (mulK f m 4)) ∧ Kept w w' := by
  obtain ⟨b0, b1, b2, b3, b4⟩ := mulK_bound h0 hf
  have hs : ∀ k, k < 4 → wrap64 (mulK f m k * f k) = mulK f m (k + 1) := fun k hk => by
    have : k = 0 ∨ k = 1 ∨ k = 2 ∨ k = 3 := by omega
    rcases this with rfl | rfl | rfl | rfl
    · exact wrap_c (by have := b1; show -4611686018427387904 ≤ mulK f m 1; omega) (by show mulK f m 1 ≤ _; omega)
    · exact wrap_c (by have := b1; show -4611686018427387904 ≤ mulK f m 2; omega) (by show mulK f m 2 ≤ _; omega)
    · exact wrap_c (by have := b1; show -4611686018427387904 ≤ mulK f m 3; omega) (by show mulK f m 3 ≤ _; omega)
    · exact wrap_c (by have := b1; show -4611686018427387904 ≤ mulK f m 4; omega) (by show mulK f m 4 ≤ _; omega)
  have e1 := hs 0 (by omega)
  have e2 := hs 1 (by omega)
  have e3 := hs 2 (by omega)
  have e4 := hs 3 (by omega)
  rw [show mulK f m 0 = m from rfl] at e1
  unfold arr4
  generalize mulK f m 1 = m1 at *
  generalize mulK f m 2 = m2 at *
  generalize mulK f m 3 = m3 at *
  generalize mulK f m 4 = m4 at *
  generalize f 0 = f0 at *
  generalize f 1 = f1 at *
  generalize f 2 = f2 at *
  generalize f 3 = f3 at *
  clear b0 b1 b2 b3 b4 hs h0 hf
  have x0 := fun W => (ix_arr f0 f1 f2 f3 W).1
  have x1 := fun W => (ix_arr f0 f1 f2 f3 W).2.1
  have x2 := fun W => (ix_arr f0 f1 f2 f3 W).2.2.1
  have x3 := fun W => (ix_arr f0 f1 f2 f3 W).2.2.2
  go_enter Tryz.func83, Tryz.ntmps83
  go_wp2_with fail
  go_loopg [1, 8] 5 (fun gg s x wr => wr = w.alloc (.cells #[.int .i64 f0, .int .i64 f1, .int .i64 f2, .int .i64 f3] 145) ∧ ((gg = 5 ∧ s = .int .i64 m ∧ x = .int .i64 0) ∨ (gg = 4 ∧ s = .int .i64 m1 ∧ x = .int .i64 1) ∨ (gg = 3 ∧ s = .int .i64 m2 ∧ x = .int .i64 2) ∨ (gg = 2 ∧ s = .int .i64 m3 ∧ x = .int .i64 3) ∨ (gg = 1 ∧ s = .int .i64 m4 ∧ x = .int .i64 4)))
  case atStart => exact ⟨rfl, .inl ⟨rfl, rfl, rfl⟩⟩
  case round =>
    obtain ⟨hwr, hrel⟩ := hrel
    have HG := hidMk hwr
    rcases hrel with ⟨hgk, rfl, rfl⟩ | ⟨hgk, rfl, rfl⟩ | ⟨hgk, rfl, rfl⟩ | ⟨hgk, rfl, rfl⟩ | ⟨hgk, rfl, rfl⟩
    · have HGK := hidMk hgk
      clear hgk 
      go_wp2_with fail
      go_roundg (gk - 1)
      case measure => have := HGK.out; omega
      case rel => exact ⟨rfl, .inr (.inl ⟨by have := HGK.out; omega, by go_num, rfl⟩)⟩
    · have HGK := hidMk hgk
      clear hgk 
      go_wp2_with fail
      go_roundg (gk - 1)
      case measure => have := HGK.out; omega
      case rel => exact ⟨rfl, .inr (.inr (.inl ⟨by have := HGK.out; omega, by go_num, rfl⟩))⟩
    · have HGK := hidMk hgk
      clear hgk 
      go_wp2_with fail
      go_roundg (gk - 1)
      case measure => have := HGK.out; omega
      case rel => exact ⟨rfl, .inr (.inr (.inr (.inl ⟨by have := HGK.out; omega, by go_num, rfl⟩)))⟩
    · have HGK := hidMk hgk
      clear hgk 
      go_wp2_with fail
      go_roundg (gk - 1)
      case measure => have := HGK.out; omega
      case rel => exact ⟨rfl, .inr (.inr (.inr (.inr ⟨by have := HGK.out; omega, by go_num, rfl⟩)))⟩
    · have HGK := hidMk hgk
      clear hgk 
      go_wp2_with fail
      go_ret

      exact ⟨rfl, (Kept.refl w).alloc _⟩
set_option maxHeartbeats 2000000 in
set_option maxRecDepth 100000 in
theorem coord_number (f at_ : Nat → Int) (m : Int) (h0 : 0 ≤ m ∧ m ≤ 1000) (hf : ∀ k, 0 ≤ f k ∧ f k ≤ 1000) (ha : ∀ k, 0 ≤ at_ k ∧ at_ k ≤ 1000) (w : World) : Calls Tryz.prog 102 #[arr4 f, .int .i64 m, arr4 at_] w fun e w' => e = .returned (.int .i64 (numK f at_ m 4)) ∧ Kept w w' := by
  obtain ⟨b1, b2, b3, b4⟩ := numK_bound h0 hf ha
  have st : ∀ (x y z b : Int), 0 ≤ x ∧ x ≤ b → b ≤ 1001001001000 → 0 ≤ y ∧ y ≤ 1000 → wrap64 (x * y) = x * y := fun x y z b hx hb hy => by
    have h1 := Int.mul_nonneg hx.1 hy.1
    have h2 : x * y ≤ b * 1000 := Int.mul_le_mul hx.2 hy.2 hy.1 (by omega)
    exact wrap_c (by omega) (by omega)
  have p1 : wrap64 (m * f 0) = m * f 0 := st _ _ 0 1000 h0 (by omega) (hf 0)
  have p2 : wrap64 (numK f at_ m 1 * f 1) = numK f at_ m 1 * f 1 := st _ _ 0 1001000 b1 (by omega) (hf 1)
  have p3 : wrap64 (numK f at_ m 2 * f 2) = numK f at_ m 2 * f 2 := st _ _ 0 1001001000 b2 (by omega) (hf 2)
  have p4 : wrap64 (numK f at_ m 3 * f 3) = numK f at_ m 3 * f 3 := st _ _ 0 1001001001000 b3 (by omega) (hf 3)
  have q1 : wrap64 (m * f 0 + at_ 0) = numK f at_ m 1 := wrap_c (by show _ ≤ numK f at_ m 1; omega) (by show numK f at_ m 1 ≤ _; omega)
  have q2 : wrap64 (numK f at_ m 1 * f 1 + at_ 1) = numK f at_ m 2 := wrap_c (by show _ ≤ numK f at_ m 2; omega) (by show numK f at_ m 2 ≤ _; omega)
  have q3 : wrap64 (numK f at_ m 2 * f 2 + at_ 2) = numK f at_ m 3 := wrap_c (by show _ ≤ numK f at_ m 3; omega) (by show numK f at_ m 3 ≤ _; omega)
  have q4 : wrap64 (numK f at_ m 3 * f 3 + at_ 3) = numK f at_ m 4 := wrap_c (by show _ ≤ numK f at_ m 4; omega) (by show numK f at_ m 4 ≤ _; omega)
  unfold arr4
  generalize numK f at_ m 1 = m1 at *
  generalize numK f at_ m 2 = m2 at *
  generalize numK f at_ m 3 = m3 at *
  generalize numK f at_ m 4 = m4 at *
  generalize f 0 = f0 at *
  generalize f 1 = f1 at *
  generalize f 2 = f2 at *
  generalize f 3 = f3 at *
  generalize at_ 0 = a0 at *
  generalize at_ 1 = a1 at *
  generalize at_ 2 = a2 at *
  generalize at_ 3 = a3 at *
  clear b1 b2 b3 b4 st h0 hf ha
  have x0 := fun W => (ix_arr f0 f1 f2 f3 W).1
  have x1 := fun W => (ix_arr f0 f1 f2 f3 W).2.1
  have x2 := fun W => (ix_arr f0 f1 f2 f3 W).2.2.1
  have x3 := fun W => (ix_arr f0 f1 f2 f3 W).2.2.2
  go_enter Tryz.func102, Tryz.ntmps102
  go_wp2_with fail
  go_loopg [7, 12] 5 (fun gg s x wr => wr = ((w.alloc (.cells #[.int .i64 f0, .int .i64 f1, .int .i64 f2, .int .i64 f3] 145)).alloc (.cells #[.int .i64 a0, .int .i64 a1, .int .i64 a2, .int .i64 a3] 27)) ∧ ((gg = 5 ∧ s = .int .i64 m ∧ x = .int .i64 0) ∨ (gg = 4 ∧ s = .int .i64 m1 ∧ x = .int .i64 1) ∨ (gg = 3 ∧ s = .int .i64 m2 ∧ x = .int .i64 2) ∨ (gg = 2 ∧ s = .int .i64 m3 ∧ x = .int .i64 3) ∨ (gg = 1 ∧ s = .int .i64 m4 ∧ x = .int .i64 4)))
  case atStart => exact ⟨rfl, .inl ⟨rfl, rfl, rfl⟩⟩
  case round =>
    obtain ⟨hwr, hrel⟩ := hrel
    have HG := hidMk hwr
    subst hwr
    rcases hrel with ⟨hgk, rfl, rfl⟩ | ⟨hgk, rfl, rfl⟩ | ⟨hgk, rfl, rfl⟩ | ⟨hgk, rfl, rfl⟩ | ⟨hgk, rfl, rfl⟩
    · have HGK := hidMk hgk
      clear hgk 
      go_wp2_with fail
      go_roundg (gk - 1)
      case measure => have := HGK.out; omega
      case rel => exact ⟨rfl, .inr (.inl ⟨by have := HGK.out; omega, by go_num, rfl⟩)⟩
    · have HGK := hidMk hgk
      clear hgk 
      go_wp2_with fail
      go_roundg (gk - 1)
      case measure => have := HGK.out; omega
      case rel => exact ⟨rfl, .inr (.inr (.inl ⟨by have := HGK.out; omega, by go_num, rfl⟩))⟩
    · have HGK := hidMk hgk
      clear hgk 
      go_wp2_with fail
      go_roundg (gk - 1)
      case measure => have := HGK.out; omega
      case rel => exact ⟨rfl, .inr (.inr (.inr (.inl ⟨by have := HGK.out; omega, by go_num, rfl⟩)))⟩
    · have HGK := hidMk hgk
      clear hgk 
      go_wp2_with fail
      go_roundg (gk - 1)
      case measure => have := HGK.out; omega
      case rel => exact ⟨rfl, .inr (.inr (.inr (.inr ⟨by have := HGK.out; omega, by go_num, rfl⟩)))⟩
    · have HGK := hidMk hgk
      clear hgk 
      go_wp2_with fail
      go_ret
      exact ⟨rfl, ((Kept.refl w).alloc _).alloc _⟩
end Go.Proofs.YtmedgkccicbieaaGreat
namespace Go.Proofs.YtmedgkccicbieaaGreat
open Go.RowKit Go.Maps Go.Shelf
set_option linter.unusedSimpArgs false
set_option linter.unusedVariables false
attribute [local go_sem] Oper.semAt_some

def prods : List (List Int) → List (List Int)
  | [] => [[]]
  | l :: r => l.flatMap fun v => (prods r).map fun t => v :: t
def at4 (x : List Int) (k : Nat) : Int := x.getD k 0
theorem prods_len : ∀ (r : List (List Int)) (x : List Int), x ∈ prods r → x.length = r.length := by
  intro r
  induction r with
  | nil => intro x hx; simp [prods] at hx; subst hx; rfl
  | cons l r ih =>
    intro x hx
    simp only [prods, List.mem_flatMap, List.mem_map] at hx
    obtain ⟨v, _, t, ht, rfl⟩ := hx
    rw [List.length_cons, List.length_cons, ih t ht]
def Lls (w : World) (a : Option Addr) (n : Nat) (ls : List (List Int)) (nv : Nat → Option Addr × Nat) : Prop :=
  ls.length = n ∧ n ≤ 4 ∧ (∀ k, k < n → Sl .i64 w (nv k).1 (ls.getD k []).length (ls.getD k [])) ∧ (0 < n → ∃ b o, a = some ⟨b, o, none⟩ ∧ ∀ k, k < n → w.cell? ⟨b, o + k, none⟩ = some (.slice (nv k).1 (ls.getD k []).length (nv k).2))
def AtC (w : World) (ab : Nat) (t : List Int) : Prop := t.length = 4 ∧ (∀ k, k < 4 → w.cell? ⟨ab, k, none⟩ = some (.int .i64 (t.getD k 0))) ∧ ∀ k, w.frozen? ⟨ab, k, none⟩ = false
theorem AtC.put {w : World} {ab : Nat} {t : List Int} (h : AtC w ab t) {k : Nat} (hk : k < 4) (v : Int) : AtC (w.setCell ⟨ab, k, none⟩ (.int .i64 v)) ab (t.set k v) := by
  refine ⟨by rw [List.length_set]; exact h.1, fun j hj => ?_, fun j => by rw [World.frozen?_setCell]; exact h.2.2 j⟩
  by_cases e : j = k
  · subst e
    rw [World.cell?_setCell_same _ _ _ (h.2.1 j hj), List.getD_eq_getElem?_getD, List.getElem?_set_self (by rw [h.1]; exact hj)]
    rfl
  · rw [World.cell?_setCell_other _ _ _ _ (by intro e'; cases e'; exact e rfl), h.2.1 j hj, List.getD_eq_getElem?_getD (l := t.set k v), List.getElem?_set_ne (fun e' => e e'.symm), ← List.getD_eq_getElem?_getD]
def frV (lbx yb ab fb : Nat) : Value := .func (.func 140) #[] #[.pointer (some ⟨lbx, 0, none⟩), .pointer (some ⟨yb, 0, none⟩), .pointer (some ⟨ab, 0, none⟩), .pointer (some ⟨fb, 0, none⟩)]
structure IT (C : Nat → Prop) (B lbx yb ab fb l : Nat) (la : Option Addr) (lc d : Nat) (ls : List (List Int)) (nv : Nat → Option Addr × Nat) (X : World) : Prop where
  c1 : X.cell? ⟨lbx, 0, none⟩ = some (.slice la d lc)
  c2 : X.cell? ⟨yb, 0, none⟩ = some (.func (.yield l) #[] #[])
  c4 : X.cell? ⟨fb, 0, none⟩ = some (frV lbx yb ab fb)
  ll : Lls X la d ls nv
  s1 : lbx < B ∧ ¬ C lbx ∧ lbx ≠ ab
  s2 : yb < B ∧ ¬ C yb ∧ yb ≠ ab
  s4 : fb < B ∧ ¬ C fb ∧ fb ≠ ab
  sa : ab < B ∧ ¬ C ab
  sl : ∀ ad, la = some ad → ad.block < B ∧ ¬ C ad.block ∧ ad.block ≠ ab
  sn : ∀ k, k < d → ∀ ad, (nv k).1 = some ad → ad.block < B ∧ ¬ C ad.block ∧ ad.block ≠ ab
section
variable {C : Nat → Prop} {B lbx yb ab fb l : Nat} {la : Option Addr} {lc d : Nat} {ls : List (List Int)} {nv : Nat → Option Addr × Nat}
theorem IT.chg {S : Nat → Prop} {X Y : World} (h : IT C B lbx yb ab fb l la lc d ls nv X) (k : Chg S X Y) (hS : ∀ j, S j → j = ab ∨ C j ∨ B ≤ j) : IT C B lbx yb ab fb l la lc d ls nv Y := by
  have no : ∀ j, j < B ∧ ¬ C j ∧ j ≠ ab → ¬ S j := fun j hj e => by
    rcases hS j e with e | e | e
    · exact hj.2.2 e
    · exact hj.2.1 e
    · omega
  obtain ⟨l1, l2, l3, l4⟩ := h.ll
  refine ⟨k.cellp h.c1 (no _ h.s1), k.cellp h.c2 (no _ h.s2), k.cellp h.c4 (no _ h.s4), ⟨l1, l2, fun j hj => (l3 j hj).chg k (fun _ ad e => no _ (h.sn j hj ad e)), fun hd => ?_⟩, h.s1, h.s2, h.s4, h.sa, h.sl, h.sn⟩
  obtain ⟨b, o, e, hc⟩ := l4 hd
  exact ⟨b, o, e, fun j hj => k.cellp (hc j hj) (no _ (h.sl _ e))⟩
theorem AtC.chg {S : Nat → Prop} {X Y : World} {t : List Int} (h : AtC X ab t) (k : Chg S X Y) (hS : ¬ S ab) : AtC Y ab t := by
  refine ⟨h.1, fun j hj => k.cellp (h.2.1 j hj) hS, fun j => (k.frozen (p := ⟨ab, j, none⟩) ?_ hS).trans (h.2.2 j)⟩
  exact cell_lt (p := ⟨ab, 0, none⟩) (h.2.1 0 (by omega))
theorem yield_any {m m' : Nat} {P : Program} {l : Nat} {args : Array Value} {W : World} {R : Ending → World → Prop} (h : YieldAt Fence.wide m P l args W R) : YieldAt Fence.wide m' P l args W R := by
  obtain ⟨fn, tmps, assign, body, hy, hR⟩ := h
  exact ⟨fn, tmps, assign, body, hy, hR.1, fun c cs _ => hR.2 c cs (room_wide _)⟩
theorem take_getD {t pfx : List Int} {k j : Nat} (h : t.take k = pfx) (hj : j < k) : t.getD j 0 = pfx.getD j 0 := by
  rw [← h, List.getD_eq_getElem?_getD, List.getD_eq_getElem?_getD, List.getElem?_take_of_lt hj]
def FrP (J : List (List Int) → World → Prop) (C : Nat → Prop) (B lbx yb ab fb l : Nat) (la : Option Addr) (lc d : Nat) (ls : List (List Int)) (nv : Nat → Option Addr × Nat) (k : Nat) (pfx : List Int) (q : List (List Int)) (X : World) (e : Ending) (X' : World) : Prop :=
  e = .returned (.bool true) ∧ J q X' ∧ (∃ t, AtC X' ab t ∧ t.take k = pfx ∧ ∀ j, d ≤ j → t.getD j 0 = 0) ∧ IT C B lbx yb ab fb l la lc d ls nv X' ∧ Chg (fun j => j = ab ∨ C j ∨ B ≤ j) X X'
set_option maxHeartbeats 4000000 in
set_option maxRecDepth 100000 in
theorem from_end (J : List (List Int) → World → Prop) (xs : List (List Int)) (hY : ∀ m pre x X, J pre X → pre ++ [x] <+: xs → YieldAt Fence.wide m Tryz.prog l #[arr4 (at4 x)] X fun e X' => e = .returned (.bool true) ∧ J (pre ++ [x]) X' ∧ Chg (fun j => C j ∨ B ≤ j) X X')
    (n : Nat) (pfx : List Int) (hp : pfx.length = d) (t : List Int) (ht : t.take d = pfx) (hz : ∀ j, d ≤ j → t.getD j 0 = 0) (pre : List (List Int)) (X : World) (hI : IT C B lbx yb ab fb l la lc d ls nv X) (hA : AtC X ab t) (hJ : J pre X) (hx : pre ++ [pfx] <+: xs) :
    CallsIn Fence.wide n Tryz.prog 140 #[.int .i64 d, .pointer (some ⟨lbx, 0, none⟩), .pointer (some ⟨yb, 0, none⟩), .pointer (some ⟨ab, 0, none⟩), .pointer (some ⟨fb, 0, none⟩)] X (FrP J C B lbx yb ab fb l la lc d ls nv d pfx (pre ++ [pfx]) X) := by
  have c1 := hI.c1
  have c2 := hI.c2
  have a0 := hA.2.1 0 (by omega)
  have a1 := hA.2.1 1 (by omega)
  have a2 := hA.2.1 2 (by omega)
  have a3 := hA.2.1 3 (by omega)
  have hg : ∀ j, t.getD j 0 = at4 pfx j := fun j => by
    unfold at4
    by_cases e : j < d
    · exact take_getD ht e
    · rw [hz j (by omega), List.getD_eq_getElem?_getD, List.getElem?_eq_none (by omega)]; rfl
  rw [hg] at a0 a1 a2 a3
  obtain ⟨fn, tmps, assign, body, hy, hR⟩ := hY (n - 1) pre pfx X hJ hx
  unfold arr4 at hy
  generalize at4 pfx 0 = z0 at *
  generalize at4 pfx 1 = z1 at *
  generalize at4 pfx 2 = z2 at *
  generalize at4 pfx 3 = z3 at *
  have HR := hidMk hR
  have HI := hidMk hI
  have HA := hidMk (And.intro hA (And.intro ht hz))
  clear hR hI hA ht hz hY hg hJ hx
  refine callsIn_of_wp Tryz.func140 rfl trivial ?_ rfl
  simp only [Tryz.ntmps140, List.size_toArray, List.length_cons, List.length_nil, Nat.reduceAdd, Nat.reduceSub, Array.replicate_succ, Array.replicate_zero, List.push_toArray, List.append_toArray, List.nil_append, List.cons_append]
  gi_wp2
  refine ⟨fun e => (by cases e), ?_⟩
  refine HR.out.mono ?_
  rintro e X' ⟨rfl, hJ', hc'⟩
  have HF := hidMk (And.intro hJ' hc')
  clear hJ' hc' HR
  gi_wp2
  go_ret
  have hc := HF.out.2
  refine ⟨rfl, HF.out.1, ⟨t, HA.out.1.chg hc (fun e => ?_), HA.out.2.1, HA.out.2.2⟩, HI.out.chg hc (fun j e => .inr e), hc.mono (fun j _ e => .inr e)⟩
  rcases e with e | e
  · exact HI.out.sa.2 e
  · have := HI.out.sa.1; omega
def FrS (J : List (List Int) → World → Prop) (C : Nat → Prop) (B lbx yb ab fb l : Nat) (la : Option Addr) (lc d : Nat) (ls : List (List Int)) (nv : Nat → Option Addr × Nat) (k : Nat) (pfx : List Int) (pre : List (List Int)) (gg : Int → List (List Int)) (vs : List Int) (X : World) (j : Nat) (X' : World) : Prop :=
  J (pre ++ (vs.take j).flatMap gg) X' ∧ (∃ t, AtC X' ab t ∧ t.take k = pfx ∧ ∀ j, d ≤ j → t.getD j 0 = 0) ∧ IT C B lbx yb ab fb l la lc d ls nv X' ∧ Chg (fun j => j = ab ∨ C j ∨ B ≤ j) X X'
theorem prods_done (vs : List Int) (r : List (List Int)) (pfx : List Int) : (prods (vs :: r)).map (fun s => pfx ++ s) = vs.flatMap fun v => (prods r).map fun s => (pfx ++ [v]) ++ s := by
  simp only [prods, List.map_flatMap, List.map_map]
  congr 1
  funext v
  congr 1
  funext s
  simp
set_option maxHeartbeats 8000000 in
set_option maxRecDepth 100000 in
theorem from_it (J : List (List Int) → World → Prop) (hJa : ∀ pre X Y, J pre X → Chg (fun j => j = ab) X Y → J pre Y) (xs : List (List Int)) (hY : ∀ m pre x X, J pre X → pre ++ [x] <+: xs → YieldAt Fence.wide m Tryz.prog l #[arr4 (at4 x)] X fun e X' => e = .returned (.bool true) ∧ J (pre ++ [x]) X' ∧ Chg (fun j => C j ∨ B ≤ j) X X') :
    ∀ (r : List (List Int)) (n k : Nat), k + r.length = d → d ≤ 4 → (∀ i, i < r.length → r.getD i [] = ls.getD (k + i) []) → (∀ i, i < d → (ls.getD i []).length ≤ 1000) → ∀ (pfx : List Int), pfx.length = k → ∀ (t : List Int), t.take k = pfx → (∀ j, d ≤ j → t.getD j 0 = 0) → ∀ (pre : List (List Int)) (X : World), IT C B lbx yb ab fb l la lc d ls nv X → AtC X ab t → J pre X → pre ++ (prods r).map (fun s => pfx ++ s) <+: xs →
    CallsIn Fence.wide n Tryz.prog 140 #[.int .i64 k, .pointer (some ⟨lbx, 0, none⟩), .pointer (some ⟨yb, 0, none⟩), .pointer (some ⟨ab, 0, none⟩), .pointer (some ⟨fb, 0, none⟩)] X (FrP J C B lbx yb ab fb l la lc d ls nv k pfx (pre ++ (prods r).map (fun s => pfx ++ s)) X) := by
  intro r
  induction r with
  | nil =>
    intro n k hk h4 hr hlen pfx hp t ht hz pre X hI hA hJ hx
    have hkd : k = d := by simpa using hk
    subst hkd
    have e : (prods []).map (fun s => pfx ++ s) = [pfx] := by simp [prods]
    rw [e] at hx ⊢
    exact from_end J xs hY n pfx hp t ht hz pre X hI hA hJ hx
  | cons vs r ih =>
    intro n k hk h4 hr hlen pfx hp t ht hz pre X hI hA hJ hx
    rw [prods_done] at hx ⊢
    rw [List.length_cons] at hk
    have hkd : k < d := by omega
    have hv : vs = ls.getD k [] := by have := hr 0 (by simp); simpa using this
    obtain ⟨l1, l2, l3, l4⟩ := hI.ll
    obtain ⟨b, o, hla, hcs⟩ := l4 (by omega)
    have c1 := hI.c1
    have cin := hcs k hkd
    have hsl := l3 k hkd
    rw [← hv] at cin hsl
    have hlv : vs.length ≤ 1000 := by rw [hv]; exact hlen k hkd
    obtain ⟨m, hm⟩ : ∃ m, m = vs.length := ⟨_, rfl⟩
    rw [← hm] at cin hsl hlv
    subst hla
    have IH := hidMk (fun v (tt : List Int) (h1 : tt.take (k + 1) = pfx ++ [v]) (h2 : ∀ j, d ≤ j → tt.getD j 0 = 0) pre Y (hI' : IT C B lbx yb ab fb l (some ⟨b, o, none⟩) lc d ls nv Y) (hA' : AtC Y ab tt) (hJ' : J pre Y) (hx' : pre ++ (prods r).map (fun s => (pfx ++ [v]) ++ s) <+: xs) =>
      ih (n - 1) (k + 1) (by omega) h4 (fun i hi => by have := hr (i + 1) (by simpa using hi); rw [show k + 1 + i = k + (i + 1) by omega]; simpa using this) hlen (pfx ++ [v]) (by simp [hp]) tt h1 h2 pre Y hI' hA' hJ' hx')
    have hne : ((k : Int) == (d : Int)) = false := by simp; omega
    have hk4 : (k : Int) < 4 := by omega
    have hkd' : (k : Int) < (d : Int) := by omega
    have hwk : wrap64 ((k : Int) + 1) = ((k + 1 : Nat) : Int) := by rw [wrap_c (by omega) (by omega)]; omega
    have HSK := hidMk (fun Y (hI' : IT C B lbx yb ab fb l (some ⟨b, o, none⟩) lc d ls nv Y) => show Sl .i64 Y (nv k).1 m vs from by have := hI'.ll.2.2.1 k hkd; rw [← hv, ← hm] at this; exact this)
    obtain ⟨va, hva⟩ : ∃ x, x = (nv k).1 := ⟨_, rfl⟩
    obtain ⟨vc, hvc⟩ : ∃ x, x = (nv k).2 := ⟨_, rfl⟩
    rw [← hva, ← hvc] at cin
    rw [← hva] at HSK
    obtain ⟨gg, hgg⟩ : ∃ gg : Int → List (List Int), gg = fun v => (prods r).map fun s => (pfx ++ [v]) ++ s := ⟨_, rfl⟩
    have HGG := hidMk hgg
    have hgx : ∀ v, gg v = (prods r).map fun s => (pfx ++ [v]) ++ s := fun v => by rw [hgg]
    have HGX := hidMk hgx
    rw [← hgg] at hx ⊢
    have HX := hidMk hx
    have HS0 := hidMk (show FrS J C B lbx yb ab fb l (some ⟨b, o, none⟩) lc d ls nv k pfx pre gg vs X 0 X from ⟨by simpa using hJ, ⟨t, hA, ht, hz⟩, hI, Chg.refl _ _⟩)
    have HJA := hidMk hJa
    have HP := hidMk hp
    have HM := hidMk hm
    have hk4n : k < 4 := by omega
    clear hx hgg hgx hJ hA ht hz hI l1 l2 l3 l4 hsl hv hr hlen ih hY hJa hp hm hva hvc hcs
    refine callsIn_of_wp Tryz.func140 rfl trivial ?_ rfl
    simp only [Tryz.ntmps140, List.size_toArray, List.length_cons, List.length_nil, Nat.reduceAdd, Nat.reduceSub, Array.replicate_succ, Array.replicate_zero, List.push_toArray, List.append_toArray, List.nil_append, List.cons_append]
    gi_wp2
    gi_loopw [21] (fun s wr => ∃ j : Nat, j ≤ m ∧ s = .int .i64 j ∧ Hid (FrS J C B lbx yb ab fb l (some ⟨b, o, none⟩) lc d ls nv k pfx pre gg vs X j wr)) (fun s _ => m - (intOf s).toNat)
    case atStart => exact ⟨0, by omega, rfl, HS0⟩
    case round =>
      clear HS0
      obtain ⟨j, hjm, rfl, HS⟩ := hrel
      by_cases hj : j < m
      · have hj' : (j : Int) < (m : Int) := by omega
        obtain ⟨hJ, ⟨t, hA, ht, hz⟩, hI, hc⟩ := HS.out
        obtain ⟨b2, o2, hva2, _, hcc⟩ := (HSK.out wr hI).cells (by omega)
        have cv := hcc j hj
        obtain ⟨v, hvv⟩ : ∃ v, v = vs.getD j 0 := ⟨_, rfl⟩
        rw [← hvv] at cv
        subst hva2
        have ca := hA.2.1 k hk4n
        have cf := hA.2.2 k
        obtain ⟨Y, hYw⟩ : ∃ Y, Y = wr.setCell ⟨ab, k, none⟩ (.int .i64 v) := ⟨_, rfl⟩
        have hch : Chg (fun j => j = ab) wr Y := by rw [hYw]; exact Chg.setCell (S := fun j => j = ab) (Chg.refl _ wr) (p := ⟨ab, k, none⟩) (.inl rfl) _
        have hIY := hI.chg hch (fun j e => .inl e)
        have hAY : AtC Y ab (t.set k v) := by rw [hYw]; exact hA.put hk4n v
        have hlt : t.length = 4 := hA.1
        have htk : (t.set k v).take (k + 1) = pfx ++ [v] := by
          rw [List.take_set, List.take_add_one, ht]
          have hpl := HP.out
          rw [List.getElem?_eq_getElem (by omega)]
          simp only [Option.toList_some]
          rw [List.set_append_right _ _ (by omega), hpl, Nat.sub_self]
          rfl
        have hzk : ∀ i, d ≤ i → (t.set k v).getD i 0 = 0 := fun i hi => by
          rw [List.getD_eq_getElem?_getD, List.getElem?_set_ne (by omega), ← List.getD_eq_getElem?_getD]; exact hz i hi
        have htake : vs.take (j + 1) = vs.take j ++ [v] := by
          rw [List.take_add_one, List.getElem?_eq_getElem (by have := HM.out; omega), hvv, List.getD_eq_getElem?_getD, List.getElem?_eq_getElem (by have := HM.out; omega)]; rfl
        have hxx : pre ++ (vs.take j).flatMap gg ++ (prods r).map (fun s => (pfx ++ [v]) ++ s) <+: xs := by
          rw [← HGX.out v]
          refine List.IsPrefix.trans ?_ HX.out
          have : vs.flatMap gg = (vs.take j).flatMap gg ++ gg v ++ (vs.drop (j + 1)).flatMap gg := by
            have e1 : vs = vs.take (j + 1) ++ vs.drop (j + 1) := (List.take_append_drop _ _).symm
            conv => lhs; rw [e1]
            rw [htake, List.flatMap_append, List.flatMap_append, List.flatMap_singleton]
          rw [this, List.append_assoc, List.append_assoc]
          exact ⟨_, by simp [List.append_assoc]; rfl⟩
        have hcl := IH.out v (t.set k v) htk hzk (pre ++ (vs.take j).flatMap gg) Y hIY hAY (HJA.out _ _ _ hJ hch) hxx
        rw [show ((k + 1 : Nat) : Int) = (k : Int) + 1 by omega] at hcl
        have HCL := hidMk hcl
        clear hcl
        have c4 := hIY.c4
        unfold frV at c4
        have HFN := hidMk (show ∀ X', FrP J C B lbx yb ab fb l (some ⟨b, o, none⟩) lc d ls nv (k + 1) (pfx ++ [v]) (pre ++ (vs.take j).flatMap gg ++ (prods r).map (fun s => (pfx ++ [v]) ++ s)) Y (.returned (.bool true)) X' → FrS J C B lbx yb ab fb l (some ⟨b, o, none⟩) lc d ls nv k pfx pre gg vs X (j + 1) X' from fun X' h => by
          obtain ⟨_, g1, ⟨t', g2, g3, g4⟩, g5, g6⟩ := h
          refine ⟨?_, ⟨t', g2, ?_, g4⟩, g5, hc.thn (hch.mono (fun _ _ e => .inl e) |>.thn g6 (fun _ _ e => e)) (fun _ _ e => e)⟩
          · rw [htake, List.flatMap_append, List.flatMap_singleton, HGX.out v, ← List.append_assoc]; exact g1
          · have : (t'.take (k + 1)).take k = (pfx ++ [v]).take k := by rw [g3]
            rw [List.take_take, show min k (k + 1) = k by omega] at this
            rw [this]
            exact List.take_left' HP.out)
        clear hJ hA ht hz hI hc hcc hvv hch hIY hAY hlt htk hzk htake hxx HS
        subst hYw
        gi_wp2
        refine ⟨trivial, fun e => (by cases e), ?_⟩
        refine HCL.out.mono ?_
        rintro e X' hp'
        have he := hp'.1
        subst he
        have HF := hidMk (HFN.out X' hp')
        clear hp' HCL HFN
        gi_wp2
        go_roundw
        case rel => exact ⟨j + 1, by omega, by go_num, HF⟩
        case measure => simp [intOf]; omega
      · have hje : j = m := by omega
        subst hje
        have hj' : ¬ ((j : Int) < (j : Int)) := by omega
        have HF := hidMk (show FrP J C B lbx yb ab fb l (some ⟨b, o, none⟩) lc d ls nv k pfx (pre ++ vs.flatMap gg) X (.returned (.bool true)) wr from by
          obtain ⟨g1, g2, g3, g4⟩ := HS.out
          have : vs.take j = vs := List.take_of_length_le (by have := HM.out; omega)
          rw [this] at g1
          exact ⟨rfl, g1, g2, g3, g4⟩)
        clear HS
        gi_wp2
        go_ret
        exact HF.out
end
end Go.Proofs.YtmedgkccicbieaaGreat
namespace Go.Proofs.YtmedgkccicbieaaGreat
open Go.RowKit Go.Maps Go.Shelf
set_option linter.unusedSimpArgs false
set_option linter.unusedVariables false
attribute [local go_sem] Oper.semAt_some

theorem new_frozen (w : World) (vs : Array Value) (t : TypeId) {g : Nat} (hg : g = w.heap.size) (j : Nat) : (w.alloc (.cells vs t)).frozen? ⟨g, j, none⟩ = false := by
  subst hg
  have hh := World.alloc_heap_new w (.cells vs t)
  simp only [World.frozen?, hh]; simp
set_option maxHeartbeats 4000000 in
set_option maxRecDepth 100000 in
theorem together_it {C : Nat → Prop} {lbx l : Nat} {la : Option Addr} {lc d : Nat} {ls : List (List Int)} {nv : Nat → Option Addr × Nat} (W : World) (J : List (List Int) → World → Prop) (hJa : ∀ pre X Y, J pre X → Chg (fun j => j = W.heap.size + 1) X Y → J pre Y)
    (hY : ∀ m pre x X, J pre X → pre ++ [x] <+: prods ls → YieldAt Fence.wide m Tryz.prog l #[arr4 (at4 x)] X fun e X' => e = .returned (.bool true) ∧ J (pre ++ [x]) X' ∧ Chg (fun j => C j ∨ W.heap.size + 3 ≤ j) X X')
    (hc : W.cell? ⟨lbx, 0, none⟩ = some (.slice la d lc)) (hl : Lls W la d ls nv) (hC : ∀ j, C j → j < W.heap.size) (h1 : ¬ C lbx) (h2 : ∀ ad, la = some ad → ad.block < W.heap.size ∧ ¬ C ad.block) (h3 : ∀ k, k < d → ∀ ad, (nv k).1 = some ad → ad.block < W.heap.size ∧ ¬ C ad.block) (hlen : ∀ i, i < d → (ls.getD i []).length ≤ 1000) (h0 : ∀ Y, Kept W Y → W.heap.size + 3 ≤ Y.heap.size → J [] Y) (n : Nat) :
    CallsIn Fence.wide n Tryz.prog 139 #[.func (.yield l) #[] #[], .pointer (some ⟨lbx, 0, none⟩)] W fun e X' => (∃ v, e = .returned v) ∧ J (prods ls) X' := by
  obtain ⟨yb, hyb⟩ : ∃ x, x = W.heap.size := ⟨_, rfl⟩
  obtain ⟨ab, hab⟩ : ∃ x, x = W.heap.size + 1 := ⟨_, rfl⟩
  obtain ⟨fb, hfb⟩ : ∃ x, x = W.heap.size + 1 + 1 := ⟨_, rfl⟩
  obtain ⟨W3, hW3⟩ : ∃ X, X = (((W.alloc (.cells #[.func (.yield l) #[] #[]] 210)).alloc (.cells #[.int .i64 0, .int .i64 0, .int .i64 0, .int .i64 0] 27)).alloc (.cells #[frV lbx yb ab fb] 135)) := ⟨_, rfl⟩
  have k3 : Kept W W3 := by rw [hW3]; exact (((Kept.refl W).alloc _).alloc _).alloc _
  have hlx : lbx < W.heap.size := cell_lt hc
  have c2 : W3.cell? ⟨yb, 0, none⟩ = some (.func (.yield l) #[] #[]) := by rw [hW3, hyb]; exact (((Kept.refl (W.alloc _)).alloc _).alloc _).cellp (new_cell W _ _ _ 0 _ rfl rfl)
  have hat : AtC W3 ab [0, 0, 0, 0] := by
    have kk : Kept (((W.alloc (.cells #[.func (.yield l) #[] #[]] 210)).alloc (.cells #[.int .i64 0, .int .i64 0, .int .i64 0, .int .i64 0] 27))) W3 := by rw [hW3]; exact (Kept.refl _).alloc _
    refine ⟨rfl, fun k hk => kk.cellp ?_, fun k => (kk.frozen (p := ⟨ab, k, none⟩) (by simp; omega)).trans (new_frozen _ _ _ (by rw [hab]; simp) k)⟩
    have : k = 0 ∨ k = 1 ∨ k = 2 ∨ k = 3 := by omega
    rcases this with rfl | rfl | rfl | rfl
    · exact new_cell _ _ _ _ 0 _ (by rw [hab]; simp) rfl
    · exact new_cell _ _ _ _ 1 _ (by rw [hab]; simp) rfl
    · exact new_cell _ _ _ _ 2 _ (by rw [hab]; simp) rfl
    · exact new_cell _ _ _ _ 3 _ (by rw [hab]; simp) rfl
  have c4 : W3.cell? ⟨fb, 0, none⟩ = some (frV lbx yb ab fb) := by
    rw [hW3]
    exact new_cell _ _ _ _ 0 _ (by rw [hfb]; simp) rfl
  have hIT : IT C (W.heap.size + 3) lbx yb ab fb l la lc d ls nv W3 := by
    obtain ⟨l1, l2, l3, l4⟩ := hl
    have nC : ∀ j, W.heap.size ≤ j → ¬ C j := fun j hj e => by have := hC j e; omega
    refine ⟨k3.cellp hc, c2, c4, ⟨l1, l2, fun k hk => (l3 k hk).kept k3, fun hd => ?_⟩, ⟨by omega, h1, by omega⟩, ⟨by omega, nC _ (by omega), by omega⟩, ⟨by omega, nC _ (by omega), by omega⟩, ⟨by omega, nC _ (by omega)⟩, fun ad e => ?_, fun k hk ad e => ?_⟩
    · obtain ⟨b, o, e, hcs⟩ := l4 hd
      exact ⟨b, o, e, fun k hk => k3.cellp (hcs k hk)⟩
    · obtain ⟨a1, a2⟩ := h2 ad e
      exact ⟨by omega, a2, by omega⟩
    · obtain ⟨a1, a2⟩ := h3 k hk ad e
      exact ⟨by omega, a2, by omega⟩
  have hd4 := hl.2.1
  have hfr := from_it J (by rw [hab]; exact hJa) (prods ls) hY ls (n - 1) 0 (by rw [hl.1]; omega) hd4 (fun i hi => by rw [Nat.zero_add]) hlen [] rfl [0, 0, 0, 0] rfl (fun j hj => by
    have : j = 0 ∨ j = 1 ∨ j = 2 ∨ j = 3 ∨ 4 ≤ j := by omega
    rcases this with rfl | rfl | rfl | rfl | h
    · rfl
    · rfl
    · rfl
    · rfl
    · rw [List.getD_eq_getElem?_getD, List.getElem?_eq_none (by simpa using h)]; rfl) [] W3 hIT hat (h0 W3 k3 (by rw [hW3]; simp)) (by simp)
  have HFR := hidMk hfr
  unfold frV at hW3 c4
  clear hfr hIT hat c2 hl h0 hY hJa h1 h2 h3 hC hc hlx hlen k3 hd4
  refine callsIn_of_wp Tryz.func139 rfl trivial ?_ rfl
  simp only [Tryz.ntmps139, List.size_toArray, List.length_cons, List.length_nil, Nat.reduceAdd, Nat.reduceSub, Array.replicate_succ, Array.replicate_zero, List.push_toArray, List.append_toArray, List.nil_append, List.cons_append]
  gi_wp2
  refine ⟨trivial, fun e => (by cases e), ?_⟩
  rw [← hfb, ← hab, ← hyb, ← hW3]
  refine HFR.out.mono ?_
  rintro e X' hp'
  have he := hp'.1
  subst he
  have HF := hidMk hp'.2.1
  clear hp' HFR
  gi_wp2
  go_end0
  refine ⟨⟨_, rfl⟩, ?_⟩
  have := HF.out
  simpa using this

theorem coord_together (a : Option Addr) (n c : Nat) (w : World) : Calls Tryz.prog 108 #[.slice a n c] w fun e w' => e = .returned (.func (.func 139) #[] #[.pointer (some ⟨w.heap.size, 0, none⟩)]) ∧ w' = w.alloc (.cells #[.slice a n c] 103) := by
  go_enter Tryz.func108, Tryz.ntmps108
  go_wp2_with fail
  go_ret
  exact ⟨rfl, rfl⟩
def rngI (f : Int) (m : Nat) : List Int := (List.range m).map fun (k : Nat) => f + (k : Int)
theorem rngI_succ (f : Int) (m : Nat) : rngI f (m + 1) = rngI f m ++ [f + (m : Int)] := by simp [rngI, List.range_succ]
theorem rngI_len (f : Int) (m : Nat) : (rngI f m).length = m := by simp [rngI]
set_option maxHeartbeats 2000000 in
set_option maxRecDepth 100000 in
theorem coord_numbers (f t : Int) (hf : 0 ≤ f ∧ f ≤ 1000) (ht : t ≤ 1000) (w : World) : Calls Tryz.prog 106 #[.int .i64 f, .int .i64 t] w fun e w' => ∃ v, e = .returned v ∧ OwnI w' w.heap.size v (rngI f (t - f).toNat) ∧ Kept w w' := by
  obtain ⟨m, hm⟩ : ∃ m, m = (t - f).toNat := ⟨_, rfl⟩
  rw [← hm]
  have hm1 : m ≤ 1000 := by omega
  have HM := hidMk hm
  clear hm
  go_enter Tryz.func106, Tryz.ntmps106
  go_wp2_with fail
  go_loopg [5, 6] (m + 1) (fun gg sv s wr => ∃ j : Nat, j + gg = m + 1 ∧ j ≤ m ∧ s = .int .i64 (f + (j : Int)) ∧ Hid (OwnI wr w.heap.size sv (rngI f j) ∧ Kept w wr))
  case atStart => exact ⟨0, by omega, by omega, by simp, hidMk ⟨ownI_nil _ _, Kept.refl _⟩⟩
  case round =>
    obtain ⟨j, hjg, hjm, rfl, HS⟩ := hrel
    have HG := hidMk hjg
    clear hjg
    obtain ⟨sa, sc, hsv, hsl⟩ := HS.out.1.sl (by unfold maxLen; rw [rngI_len]; omega)
    subst hsv
    rw [rngI_len] at HS hsl ⊢
    clear hsl
    by_cases hj : j < m
    · have hjt : f + (j : Int) < t := by have := HM.out; omega
      have hwj : wrap64 (f + (j : Int) + 1) = f + ((j + 1 : Nat) : Int) := by rw [wrap_c (by omega) (by omega)]; omega
      have HSZ := hidMk HS.out.2.size
      go_wp2_with (at_builtin; refine wpList_pushI _ (by rfl) _ _ (by rfl) w.heap.size (.slice sa j sc) (rngI f j) (by rfl) (HS.out.1.chg (S := fun _ => False) (Chg.of_kept ((Kept.refl _).alloc _)) (fun _ _ e => e)) (by have := HSZ.out; simp; omega) wr.heap.size (f + (j : Int)) (by rfl) (by simp) (by rw [rngI_len]; omega) (wr.heap.size + 1) (by simp) ?_; intro g6 cap6 w6 o6 k6 a6 l6; have H6 := hidMk o6; have C6 := hidMk (Chg.kept (HS.out.2.alloc _) k6 (fun z hz => (HS.out.1.lt z hz).1)); clear o6 k6 a6 l6)
      go_roundg (gk - 1)
      case measure => have := HG.out; omega
      case rel => exact ⟨j + 1, by have := HG.out; omega, by omega, by go_num, hidMk ⟨by rw [rngI_succ]; exact H6.out, C6.out⟩⟩
    · have hje : j = m := by omega
      subst hje
      have hjt : ¬ (f + (j : Int) < t) := by have := HM.out; omega
      go_wp2_with fail
      go_ret
      exact ⟨_, rfl, HS.out.1, HS.out.2⟩
end Go.Proofs.YtmedgkccicbieaaGreat
