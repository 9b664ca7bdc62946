/- A range over a function whose body may return: the law for the caller; regions that draw, inside a round. -/
import Derived.RangeFuncNested
import Derived.RangeFuncBound
import Derived.RangeFuncCalls
import Derived.RangeFuncLeaves
import Derived.Shelf.Abstract
import Derived.Shelf.RegionOpen
import Derived.WalkKit
import Derived.OwnWalkIn
import Derived.TacticsInMore
import Derived.LoopNIn
import Derived.LoopIn
import Derived.OrdersHeld
import Derived.Deep.RegionHeld
import Derived.Test.YtifddieoekbnfaaDoorChecked
namespace Go.Proofs.YtifddieoekbnfaaDoor
open Go Go.RowKit
set_option linter.unusedSimpArgs false
set_option linter.unusedVariables false

section
variable {P : Program} {l n : Nat} {Q : Exit → Act → World → Prop}
/-- An operation that is no defer goes in a round as everywhere. -/
theorem oper_lift {o : Oper} (hd : ∀ c, o.op ≠ .defer c) {a : Act} {w : World} {K : Act → World → Prop} (h : o.wp P a w K Q) : o.wpIn (Fence.wide.inRound l) n P a w K Q := by
  refine ⟨fun _ _ => trivial, ?_⟩
  rw [show (Fence.wide.inRound l).round = some l from rfl, Oper.semAt_some l _ _ hd]
  unfold Oper.wp at h
  generalize (execOp a.eval o).run P w = r at *
  cases r with
  | ok x w' =>
    cases x with
    | value v => exact h
    | skip => exact h
    | defer d => exact h
    | enter f args => exact ⟨fun e => by simp [Fence.inRound, Fence.wide] at e, CallsIn.inRound l (callsIn_wide.2 h)⟩
    | row row args => exact ⟨fun e => by simp [Fence.inRound, Fence.wide] at e, fun c cs _ => let ⟨v, w', r, s⟩ := h c cs; ⟨v, w', r, stepsIn_wide.2 s⟩⟩
    | _ => exact False.elim h
  | halt x w' => cases x <;> first | exact h | exact False.elim h
theorem any_lift {md : Region.Mode} {ops : Array Oper} (hd : ∀ o ∈ ops.toList, ∀ c, o.op ≠ .defer c) (hQ : ¬ LetsOut Q) : ∀ (fuel : Nat) (listed : Array Bool) (a : Act) (w : World), wpAny P md ops Q fuel listed a w → wpAnyIn (Fence.wide.inRound l) n P md ops Q fuel listed a w := by
  intro fuel
  induction fuel with
  | zero => intro listed a w h; exact h
  | succ fuel ih =>
    intro listed a w h
    refine ⟨h.1, fun i hi => ?_⟩
    have h1 := h.2 i hi
    unfold wpOp at h1
    unfold wpOpIn
    cases ho : ops[i]? with
    | none => rw [ho] at h1; exact ih _ _ _ h1
    | some o =>
      rw [ho] at h1
      simp only at h1 ⊢
      have hmem : o ∈ ops.toList := by
        have := List.mem_of_getElem? (l := ops.toList) (i := i) (a := o) (by simpa using ho)
        exact this
      split
      · next hw =>
        rw [if_pos hw] at h1
        rcases h1 with h1 | ⟨_, h1⟩
        · exact Oper.wpIn_mono (fun a w => ih _ a w) (oper_lift (hd o hmem) h1)
        · exact absurd h1 hQ
      · next hw =>
        rw [if_neg hw] at h1
        exact ⟨fun _ _ => trivial, ih _ _ _ h1⟩
/-- A region that draws, inside a round, its reads held by S. -/
theorem round_region_held {id : Nat} {ops : Array Oper} {S : World → Prop} {a : Act} {w : World} (hm : P.follows .mixedOrders = true) (hd : ∀ o ∈ ops.toList, ∀ c, o.op ≠ .defer c) (hQ : ¬ LetsOut Q) (hS : S w.drew)
    (h : S w.drew → wpAnyH P .any ops Q S ops.size (Array.replicate ops.size false) a w.drew) : (Code.region id ops true).wpIn (Fence.wide.inRound l) n P Q a w :=
  wpIn_region_any hm (any_lift hd hQ _ _ _ _ (wpAny_of_held _ _ _ _ (h hS)))
end
/-- The loop's record and the block of deferred calls lie as they lay. -/
def Recs (d : Nat) (R : Obj) (X : World) : Prop := X.heap[d + 1]? = some R ∧ X.heap[d]? = some (.deferred (some []))
/-- A range over a function: J between two rounds, Jx behind one that returned. -/
theorem range_sr {α : Type} {P : Program} {g : Operand} {ps : Array Tmp} {assign body : Code} {Q : Exit → Act → World → Prop} {a : Act} {w : World} {n gf : Nat} {lb : Array Value}
    (hg : a.eval g = .func (.func gf) #[] lb) (eg : ∀ args w, (callFunc gf args).run P w = .ok (.enter gf args) w) {encs : α → Array Value} (hps : ∀ x, (encs x).size = ps.size)
    (xs : List α) (J Jx : List α → World → Prop)
    (hJr : ∀ pre X o, J pre X → w.heap.size + 1 < X.heap.size → J pre (X.putObj (w.heap.size + 1) o)) (hJx : ∀ pre X o, Jx pre X → w.heap.size + 1 < X.heap.size → Jx pre (X.putObj (w.heap.size + 1) o))
    (hround : ∀ (R R' : Obj) (pre : List α) (x : α) (X : World), J pre X → pre ++ [x] <+: xs → Recs w.heap.size R X →
      assign.wpIn (Fence.wide.inRound (w.heap.size + 1)) n P (Exit.then (fun a1 X1 => J pre X1 ∧ Recs w.heap.size R X1 ∧
        body.wpIn (Fence.wide.inRound (w.heap.size + 1)) n P (fun e _ X' => (e = .normal ∧ J (pre ++ [x]) X' ∧ Recs w.heap.size R' X') ∨ (e = .ret ∧ Jx (pre ++ [x]) X' ∧ Recs w.heap.size R' X')) a1 (X1.putObj (w.heap.size + 1) R')) (fun _ _ _ => False))
        { tmps := (ps.zip (encs x)).foldl (fun t (p, v) => t.setIfInBounds p v) a.tmps, defers := [] } X)
    (hit : ∀ R D : Obj, (∀ pre x X, J pre X → Recs w.heap.size R X → pre ++ [x] <+: xs → YieldAt Fence.wide n P (w.heap.size + 1) (encs x) X (fun e X' => (e = .returned (.bool true) ∧ J (pre ++ [x]) X' ∧ Recs w.heap.size R X') ∨ (e = .returned (.bool false) ∧ Jx (pre ++ [x]) X' ∧ Recs w.heap.size D X'))) →
      CallsIn Fence.wide (n + 1) P gf (#[.func (.yield (w.heap.size + 1)) #[] #[]] ++ lb) ((w.alloc (.deferred (some []))).alloc R) (fun e X' => (∃ v, e = .returned v) ∧ ((J xs X' ∧ Recs w.heap.size R X') ∨ (∃ pre, Jx pre X' ∧ Recs w.heap.size D X'))))
    (hdone : ∀ X, J xs X → X.heap[w.heap.size]? = some (.deferred (some [])) → Q .normal { a with defers := { target := .collected w.heap.size, args := #[] } :: a.defers } X)
    (hstop : ∀ pre X, Jx pre X → X.heap[w.heap.size]? = some (.deferred (some [])) → Code.ret.wpIn Fence.wide (n + 2) P Q { a with defers := { target := .collected w.heap.size, args := #[] } :: a.defers } X) :
    (Code.rangeFunc g ps assign body).wpIn Fence.wide (n + 2) P Q a w := by
  refine wpIn_rangeFunc ?_
  intro fn hfn
  obtain ⟨rec, hrec⟩ : ∃ rec : LoopState → Option Code → Loop, rec = fun st pe => { state := st, pending := pe, fn, tmps := a.tmps, params := ps, assign, body, defers := w.heap.size } := ⟨_, rfl⟩
  refine ⟨w.heap.size + 1, [{ target := .collected w.heap.size, args := #[] }], (w.alloc (.deferred (some []))).alloc (.loop (rec .ready none)), { target := .fn (.func gf) lb, args := #[.func (.yield (w.heap.size + 1)) #[] #[]] }, (w.alloc (.deferred (some []))).alloc (.loop (rec .ready none)), gf,
    #[.func (.yield (w.heap.size + 1)) #[] #[]] ++ lb, (w.alloc (.deferred (some []))).alloc (.loop (rec .ready none)), ?_, ?_, ?_, ?_, fun _ => by omega, ?_⟩
  · rw [hrec]; exact run_enterLoop_outer _ _ _ _ _
  · simp only [resolve, hg]
    simp [go_sem]
  · intro f' _; trivial
  · simp [invoke, go_sem, eg]
  · refine (hit (.loop (rec .ready none)) (.loop (rec .done (some .ret))) ?_).mono ?_
    · intro pre x X hJ hR hpre
      have hlt : w.heap.size + 1 < X.heap.size := (Array.getElem?_eq_some_iff.1 hR.1).1
      have hy := run_yield (P := P) (args := encs x) hR.1 (by rw [hrec]; exact hps x)
      rw [hrec] at hy
      refine ⟨fn, _, assign, body, hy, roundIn_of_wpIn hfn (Go.wpIn_mono (hround (.loop (rec .ready none)) (.loop (rec .busy none)) pre x X hJ hpre hR) ?_)⟩
      rintro e a1 X1 h
      cases e with
      | normal =>
        obtain ⟨h1, h3, h4⟩ := h
        have hlt1 : w.heap.size + 1 < X1.heap.size := (Array.getElem?_eq_some_iff.1 h3.1).1
        refine ⟨X1.putObj (w.heap.size + 1) (.loop (rec .busy none)), ?_, Go.wpIn_mono h4 ?_⟩
        · have := run_beginRound (P := P) h3.1 (by rw [hrec])
          rw [hrec] at this ⊢
          exact this
        · rintro e2 a2 X2 (⟨rfl, j1, j3⟩ | ⟨rfl, j1, j3⟩)
          · have hlt2 : w.heap.size + 1 < X2.heap.size := (Array.getElem?_eq_some_iff.1 j3.1).1
            have he := run_endRound (P := P) none j3.1
            rw [hrec] at he
            refine ⟨_, _, he, .inl ⟨rfl, hJr _ _ _ j1 hlt2, ⟨?_, ?_⟩⟩⟩
            · rw [hrec]; exact World.putObj_heap_same hlt2
            · exact (World.putObj_heap_other (by omega)).trans j3.2
          · have hlt2 : w.heap.size + 1 < X2.heap.size := (Array.getElem?_eq_some_iff.1 j3.1).1
            have he := run_endRound (P := P) (some .ret) j3.1
            rw [hrec] at he
            refine ⟨_, _, he, .inr ⟨rfl, hJx _ _ _ j1 hlt2, ⟨?_, ?_⟩⟩⟩
            · rw [hrec]; exact World.putObj_heap_same hlt2
            · exact (World.putObj_heap_other (by omega)).trans j3.2
      | ret => exact h.elim
      | exit id => exact h.elim
      | goto t => exact h.elim
      | panic c => exact h.elim
      | outgrown => exact h.elim
    · rintro e X ⟨⟨v, rfl⟩, (⟨hJ, hR⟩ | ⟨pre, hJ, hR⟩)⟩
      · have hlt : w.heap.size + 1 < X.heap.size := (Array.getElem?_eq_some_iff.1 hR.1).1
        have he := run_endLoop (P := P) hR.1 (by rw [hrec]; simp)
        rw [hrec] at he
        exact ⟨none, _, he, hdone _ (hJr _ _ _ hJ hlt) ((World.putObj_heap_other (by omega)).trans hR.2)⟩
      · have hlt : w.heap.size + 1 < X.heap.size := (Array.getElem?_eq_some_iff.1 hR.1).1
        have he := run_endLoop (P := P) hR.1 (by rw [hrec]; simp)
        rw [hrec] at he
        exact ⟨some .ret, _, he, hstop pre _ (hJx _ _ _ hJ hlt) ((World.putObj_heap_other (by omega)).trans hR.2)⟩
end Go.Proofs.YtifddieoekbnfaaDoor
