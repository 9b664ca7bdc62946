/- A range over a function with a relation between the worlds of a round: the law for the caller. -/
import Derived.Test.YtifddieoekbnfaaDoorRfSt
namespace Go.Proofs.YtifddieoekbnfaaDoor
open Go Go.RowKit
set_option linter.unusedSimpArgs false
set_option linter.unusedVariables false

/-- The same, without a word of the start: the iterator shows J there by itself. -/
theorem range_su {α : Type} {P : Program} {g : Operand} {ps : Array Tmp} {assign body : Code} {Q : Exit → Act → World → Prop} {a : Act} {w : World} {n gf : Nat} {lb : Array Value}
    (hg : a.eval g = .func (.func gf) #[] lb) (eg : ∀ args w, (callFunc gf args).run P w = .ok (.enter gf args) w) {encs : α → Array Value} (hps : ∀ x, (encs x).size = ps.size)
    (xs : List α) (J : List α → World → Prop) (Kp : World → World → Prop)
    (hJr : ∀ pre X o, J pre X → w.heap.size + 1 < X.heap.size → J pre (X.putObj (w.heap.size + 1) o)) (hKr : ∀ X o, w.heap.size + 1 < X.heap.size → Kp X (X.putObj (w.heap.size + 1) o)) (hKt : ∀ {A B C : World}, Kp A B → Kp B C → Kp A C)
    (hround : ∀ (R R' : Obj) (pre : List α) (x : α) (X : World), J pre X → pre ++ [x] <+: xs → Recs w.heap.size R X →
      assign.wpIn (Fence.wide.inRound (w.heap.size + 1)) n P (Exit.then (fun a1 X1 => J pre X1 ∧ Kp X X1 ∧ Recs w.heap.size R X1 ∧
        body.wpIn (Fence.wide.inRound (w.heap.size + 1)) n P (fun e _ X' => e = .normal ∧ J (pre ++ [x]) X' ∧ Kp (X1.putObj (w.heap.size + 1) R') X' ∧ Recs w.heap.size R' X') a1 (X1.putObj (w.heap.size + 1) R')) (fun _ _ _ => False))
        { tmps := (ps.zip (encs x)).foldl (fun t (p, v) => t.setIfInBounds p v) a.tmps, defers := [] } X)
    (hit : ∀ R : Obj, (∀ pre x X, J pre X → Recs w.heap.size R X → pre ++ [x] <+: xs → YieldAt Fence.wide n P (w.heap.size + 1) (encs x) X (fun e X' => e = .returned (.bool true) ∧ J (pre ++ [x]) X' ∧ Recs w.heap.size R X' ∧ Kp X X')) →
      CallsIn Fence.wide (n + 1) P gf (#[.func (.yield (w.heap.size + 1)) #[] #[]] ++ lb) ((w.alloc (.deferred (some []))).alloc R) (fun e X' => (∃ v, e = .returned v) ∧ J xs X' ∧ Recs w.heap.size R X'))
    (hdone : ∀ X, J xs X → X.heap[w.heap.size]? = some (.deferred (some [])) → Q .normal { a with defers := { target := .collected w.heap.size, args := #[] } :: a.defers } X) :
    (Code.rangeFunc g ps assign body).wpIn Fence.wide (n + 2) P Q a w := by
  refine wpIn_rangeFunc ?_
  intro fn hfn
  obtain ⟨rec, hrec⟩ : ∃ rec : LoopState → Loop, rec = fun st => { state := st, pending := none, fn, tmps := a.tmps, params := ps, assign, body, defers := w.heap.size } := ⟨_, rfl⟩
  refine ⟨w.heap.size + 1, [{ target := .collected w.heap.size, args := #[] }], (w.alloc (.deferred (some []))).alloc (.loop (rec .ready)), { target := .fn (.func gf) lb, args := #[.func (.yield (w.heap.size + 1)) #[] #[]] }, (w.alloc (.deferred (some []))).alloc (.loop (rec .ready)), gf,
    #[.func (.yield (w.heap.size + 1)) #[] #[]] ++ lb, (w.alloc (.deferred (some []))).alloc (.loop (rec .ready)), ?_, ?_, ?_, ?_, fun _ => by omega, ?_⟩
  · rw [hrec]; exact run_enterLoop_outer _ _ _ _ _
  · simp only [resolve, hg]
    simp [go_sem]
  · intro f' _; trivial
  · simp [invoke, go_sem, eg]
  · refine (hit (.loop (rec .ready)) ?_).mono ?_
    · intro pre x X hJ hR hpre
      have hlt : w.heap.size + 1 < X.heap.size := (Array.getElem?_eq_some_iff.1 hR.1).1
      have hy := run_yield (P := P) (args := encs x) hR.1 (by rw [hrec]; exact hps x)
      rw [hrec] at hy
      refine ⟨fn, _, assign, body, hy, roundIn_of_wpIn hfn (Go.wpIn_mono (hround (.loop (rec .ready)) (.loop (rec .busy)) pre x X hJ hpre hR) ?_)⟩
      rintro e a1 X1 h
      cases e with
      | normal =>
        obtain ⟨h1, h2, h3, h4⟩ := h
        have hlt1 : w.heap.size + 1 < X1.heap.size := (Array.getElem?_eq_some_iff.1 h3.1).1
        refine ⟨X1.putObj (w.heap.size + 1) (.loop (rec .busy)), ?_, Go.wpIn_mono h4 ?_⟩
        · have := run_beginRound (P := P) h3.1 (by rw [hrec])
          rw [hrec] at this ⊢
          exact this
        · rintro e2 a2 X2 ⟨rfl, j1, j2, j3⟩
          have hlt2 : w.heap.size + 1 < X2.heap.size := (Array.getElem?_eq_some_iff.1 j3.1).1
          have he := run_endRound (P := P) none j3.1
          rw [hrec] at he
          refine ⟨_, _, he, rfl, hJr _ _ _ j1 hlt2, ⟨?_, ?_⟩, ?_⟩
          · rw [hrec]; exact World.putObj_heap_same hlt2
          · exact (World.putObj_heap_other (by omega)).trans j3.2
          · exact hKt (hKt (hKt h2 (hKr _ _ hlt1)) j2) (hKr _ _ hlt2)
      | ret => exact h.elim
      | exit id => exact h.elim
      | goto t => exact h.elim
      | panic c => exact h.elim
      | outgrown => exact h.elim
    · rintro e X ⟨⟨v, rfl⟩, hJ, hR⟩
      have hlt : w.heap.size + 1 < X.heap.size := (Array.getElem?_eq_some_iff.1 hR.1).1
      have he := run_endLoop (P := P) hR.1 (by rw [hrec]; simp)
      rw [hrec] at he
      exact ⟨none, _, he, hdone _ (hJr _ _ _ hJ hlt) ((World.putObj_heap_other (by omega)).trans hR.2)⟩
end Go.Proofs.YtifddieoekbnfaaDoor
