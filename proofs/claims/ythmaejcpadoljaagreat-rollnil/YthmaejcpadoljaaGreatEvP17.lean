/- A certified evaluator of closed calls, part P17. -/
import Derived.Test.YthmaejcpadoljaaGreatEvP16
namespace Go.Ev
open Go Go.RowKit
set_option linter.unusedVariables false
set_option linter.unusedSimpArgs false
variable {P : Program} {I : FuncId → List AV → Option AV} {w0 : World} {E : Env} {h : T AB} {nx : Nat} {w : World}

/-! ### one step of the machine, any frame -/
section steps
variable {fr : Frame} {cs : List Frame} {k : List Item}
theorem step_to (hm : fr.mode = .run) {todo todo' : List Item} (ht : fr.todo = todo)
    (hs : ∀ (g : Frame), g.mode = .run → g.todo = todo → (stepG P true { frame := g, callers := cs, status := .running, dying := none } w).bare = .go { frame := { g with todo := todo' }, callers := cs, status := .running, dying := none } w) :
    Go.step P (lone fr cs w) = .next (lone { fr with todo := todo' } cs w) := step_lone_go (hs fr hm ht)
theorem m_skip (hm : fr.mode = .run) (ht : fr.todo = .code .skip :: k) : Go.step P (lone fr cs w) = .next (lone { fr with todo := k } cs w) := step_lone_go (by simp [stepG, stepG.exec, hm, ht])
theorem m_label {l : Nat} (hm : fr.mode = .run) (ht : fr.todo = .code (.label l) :: k) : Go.step P (lone fr cs w) = .next (lone { fr with todo := k } cs w) := step_lone_go (by simp [stepG, stepG.exec, hm, ht])
theorem m_inBlock {l : Nat} (hm : fr.mode = .run) (ht : fr.todo = .inBlock l :: k) : Go.step P (lone fr cs w) = .next (lone { fr with todo := k } cs w) := step_lone_go (by simp [stepG, stepG.exec, hm, ht])
theorem m_inScope {c : Code} (hm : fr.mode = .run) (ht : fr.todo = .inScope c :: k) : Go.step P (lone fr cs w) = .next (lone { fr with todo := k } cs w) := step_lone_go (by simp [stepG, stepG.exec, hm, ht])
theorem m_seq {a b : Code} (hm : fr.mode = .run) (ht : fr.todo = .code (.seq a b) :: k) : Go.step P (lone fr cs w) = .next (lone { fr with todo := .code a :: .code b :: k } cs w) := step_lone_go (by simp [stepG, stepG.exec, hm, ht])
theorem m_cond {c : Operand} {a b : Code} {t : Bool} (hm : fr.mode = .run) (ht : fr.todo = .code (.cond c a b) :: k) (hc : fr.eval c = .bool t) : Go.step P (lone fr cs w) = .next (lone { fr with todo := .code (if t then a else b) :: k } cs w) := step_lone_go (by simp [stepG, stepG.exec, hm, ht, hc])
theorem m_block {l : Nat} {a : Code} (hm : fr.mode = .run) (ht : fr.todo = .code (.block l a) :: k) : Go.step P (lone fr cs w) = .next (lone { fr with todo := .code a :: .inBlock l :: k } cs w) := step_lone_go (by simp [stepG, stepG.exec, hm, ht])
theorem m_loop {a : Code} (hm : fr.mode = .run) (ht : fr.todo = .code (.loop a) :: k) : Go.step P (lone fr cs w) = .next (lone { fr with todo := .code a :: .inLoop a :: k } cs w) := step_lone_go (by simp [stepG, stepG.exec, hm, ht])
theorem m_inLoop {a : Code} (hm : fr.mode = .run) (ht : fr.todo = .inLoop a :: k) : Go.step P (lone fr cs w) = .next (lone { fr with todo := .code a :: .inLoop a :: k } cs w) := step_lone_go (by simp [stepG, stepG.exec, hm, ht])
theorem m_scope {a : Code} (hm : fr.mode = .run) (ht : fr.todo = .code (.scope a) :: k) : Go.step P (lone fr cs w) = .next (lone { fr with todo := .code a :: .inScope a :: k } cs w) := step_lone_go (by simp [stepG, stepG.exec, hm, ht])
theorem m_exit {l : Nat} {k' : List Item} (hm : fr.mode = .run) (ht : fr.todo = .code (.exit l) :: k) (he : exitTo l k = some k') : Go.step P (lone fr cs w) = .next (lone { fr with todo := k' } cs w) := step_lone_go (by simp [stepG, stepG.exec, hm, ht, he])
theorem m_ret (hm : fr.mode = .run) (hr : fr.roundOf = none) (ht : fr.todo = .code .ret :: k) : Go.step P (lone fr cs w) = .next (lone { fr with mode := .returning } cs w) := step_lone_go (by simp [stepG, stepG.exec, hm, ht, hr])
theorem m_end (hm : fr.mode = .run) (hr : fr.roundOf = none) (ht : fr.todo = []) : Go.step P (lone fr cs w) = .next (lone { fr with mode := .returning } cs w) := step_lone_go (by simp [stepG, stepG.exec, hm, ht, hr])
theorem m_region {id : Nat} {ops : Array Oper} (hm : fr.mode = .run) (ht : fr.todo = .code (.region id ops false) :: k) : Go.step P (lone fr cs w) = .next (lone { fr with todo := .inRegion ops (List.range ops.size) :: k } cs w) := step_lone_go (by simp [stepG, stepG.exec, hm, ht])
theorem m_draw {id : Nat} {ops : Array Oper} (hm : fr.mode = .run) (ht : fr.todo = .code (.region id ops true) :: k) : Go.step P (lone fr cs w) = .next (lone { fr with todo := .inRegion ops (Region.schedule (P.follows .mixedOrders) ops (w.tape w.drawn (.order fr.fn id))) :: k } cs w.drew) :=
  step_lone_go (by simp [stepG, stepG.exec, hm, ht, choose, Sem.run, Question.forced, Question.cut])
theorem m_regionEnd {ops : Array Oper} (hm : fr.mode = .run) (ht : fr.todo = .inRegion ops [] :: k) : Go.step P (lone fr cs w) = .next (lone { fr with todo := k } cs w) := step_lone_go (by simp [stepG, stepG.exec, hm, ht])
theorem m_unwanted {ops : Array Oper} {i : Nat} {rest : List Nat} {o : Oper} (hm : fr.mode = .run) (ht : fr.todo = .inRegion ops (i :: rest) :: k) (ho : ops[i]? = some o) (hw : Region.wanted o (yielded ops fr.tmps) = false) :
    Go.step P (lone fr cs w) = .next (lone (fr.finish undef) cs w) := step_lone_go (by simp [stepG, stepG.exec, hm, ht, ho, hw])
/-- an operation that is wanted -/
theorem g_oper {ops : Array Oper} {i : Nat} {rest : List Nat} {o : Oper} (hm : fr.mode = .run) (ht : fr.todo = .inRegion ops (i :: rest) :: k) (ho : ops[i]? = some o) (hw : Region.wanted o (yielded ops fr.tmps) = true) (hd : ∀ l c, fr.roundOf = some l → o.op ≠ .defer c) :
    stepG P true { frame := fr, callers := cs, status := .running, dying := none } w = stepG.apply P true fr cs none (execOp fr.eval o) w := by
  have ho' : fr.oper? = some o := by simp [Frame.oper?, ht, ho]
  have e1 : stepG P true { frame := fr, callers := cs, status := .running, dying := none } w = stepG.oper P true fr cs none w := by
    simp [stepG, stepG.exec, hm, ht, ho, hw]
  rw [e1]
  unfold stepG.oper
  rw [ho']
  dsimp only
  split
  · rename_i l c hr hop; exact absurd hop (hd l c hr)
  · rfl
theorem m_value {s : Sem Next} {v : Value} {w' : World} (hg : stepG P true { frame := fr, callers := cs, status := .running, dying := none } w = stepG.apply P true fr cs none s w) (hr : s.run P w = .ok (.value v) w') :
    Go.step P (lone fr cs w) = .next (lone (fr.finish v) cs w') := step_lone_go (by rw [hg]; simp [stepG.apply, hr])
theorem m_skipOp {s : Sem Next} {w' : World} (hg : stepG P true { frame := fr, callers := cs, status := .running, dying := none } w = stepG.apply P true fr cs none s w) (hr : s.run P w = .ok .skip w') :
    Go.step P (lone fr cs w) = .next (lone (fr.finish undef) cs w') := step_lone_go (by rw [hg]; simp [stepG.apply, hr])
theorem m_enter {s : Sem Next} {f : FuncId} {args : Array Value} {w' : World} (hg : stepG P true { frame := fr, callers := cs, status := .running, dying := none } w = stepG.apply P true fr cs none s w) (hr : s.run P w = .ok (.enter f args) w') (hk : ∀ d r s l, fr.todo ≠ .call d true r s :: l) :
    Go.step P (lone fr cs w) = .next (lone (Frame.enter P f args .normal) (fr :: cs) w') := step_lone_go (by
      rw [hg]
      simp [stepG.apply, hr])
theorem m_round {s : Sem Next} {l : Nat} {f : FuncId} {ts : Array Value} {a b : Code} {w' : World} (hg : stepG P true { frame := fr, callers := cs, status := .running, dying := none } w = stepG.apply P true fr cs none s w) (hr : s.run P w = .ok (.round l f ts a b) w') :
    Go.step P (lone fr cs w) = .next (lone (Frame.round l f ts a b .normal) (fr :: cs) w') := step_lone_go (by rw [hg]; simp [stepG.apply, hr])
theorem m_defer {s : Sem Next} {d : Deferred} {w' : World} (hg : stepG P true { frame := fr, callers := cs, status := .running, dying := none } w = stepG.apply P true fr cs none s w) (hr : s.run P w = .ok (.defer d) w') :
    Go.step P (lone fr cs w) = .next (lone ({ fr with defers := d :: fr.defers }.finish undef) cs w') := step_lone_go (by rw [hg]; simp [stepG.apply, hr])
theorem m_recover {s : Sem Next} {w' : World} (hg : stepG P true { frame := fr, callers := cs, status := .running, dying := none } w = stepG.apply P true fr cs none s w) (hr : s.run P w = .ok .recover w') (h0 : fr.roundOf = none) (ht : tryRecover fr cs = none) :
    Go.step P (lone fr cs w) = .next (lone (fr.finish .nilIface) cs w') := step_lone_go (by rw [hg]; simp [stepG.apply, hr, h0, ht])
/-! the same, of what is applied -/
theorem ap_value {s : Sem Next} {v : Value} {w' : World} (hr : s.run P w = .ok (.value v) w') :
    (stepG.apply P true fr cs none s w).bare = .go { frame := fr.finish v, callers := cs, status := .running, dying := none } w' := by simp [stepG.apply, hr]
theorem ap_enter {s : Sem Next} {f : FuncId} {args : Array Value} {w' : World} (hr : s.run P w = .ok (.enter f args) w') (hk : ∀ d r s l, fr.todo ≠ .call d true r s :: l) :
    (stepG.apply P true fr cs none s w).bare = .go { frame := Frame.enter P f args .normal, callers := fr :: cs, status := .running, dying := none } w' := by simp [stepG.apply, hr]
theorem ap_round {s : Sem Next} {l : Nat} {f : FuncId} {ts : Array Value} {a b : Code} {w' : World} (hr : s.run P w = .ok (.round l f ts a b) w') :
    (stepG.apply P true fr cs none s w).bare = .go { frame := Frame.round l f ts a b .normal, callers := fr :: cs, status := .running, dying := none } w' := by simp [stepG.apply, hr]
theorem ap_defer {s : Sem Next} {d : Deferred} {w' : World} (hr : s.run P w = .ok (.defer d) w') :
    (stepG.apply P true fr cs none s w).bare = .go { frame := { fr with defers := d :: fr.defers }.finish undef, callers := cs, status := .running, dying := none } w' := by simp [stepG.apply, hr]
theorem ap_recover {s : Sem Next} {w' : World} (hr : s.run P w = .ok .recover w') (h0 : fr.roundOf = none) (ht : tryRecover fr cs = none) :
    (stepG.apply P true fr cs none s w).bare = .go { frame := fr.finish .nilIface, callers := cs, status := .running, dying := none } w' := by simp [stepG.apply, hr, h0, ht]
/-- a machine whose next step is what s comes to at frame fr -/
def Ap (P : Program) (m : Machine) (fr : Frame) (cs : List Frame) (s : Sem Next) (w : World) : Prop := ∀ g' cs' w', (stepG.apply P true fr cs none s w).bare = .go { frame := g', callers := cs', status := .running, dying := none } w' → Go.step P m = .next (lone g' cs' w')
theorem Ap.of {s : Sem Next} (hg : stepG P true { frame := fr, callers := cs, status := .running, dying := none } w = stepG.apply P true fr cs none s w) : Ap P (lone fr cs w) fr cs s w :=
  fun g' cs' w' q => step_lone_go (by rw [hg]; exact q)
end steps

/-! ### what an abstract machine stands for -/
inductive KIs : List AItem → List Item → Prop
  | nil : KIs [] []
  | code (c : Code) (k : List AItem) (l : List Item) (h : KIs k l) : KIs (.code c :: k) (.code c :: l)
  | inBlock (c : Nat) (k : List AItem) (l : List Item) (h : KIs k l) : KIs (.inBlock c :: k) (.inBlock c :: l)
  | inLoop (c : Code) (k : List AItem) (l : List Item) (h : KIs k l) : KIs (.inLoop c :: k) (.inLoop c :: l)
  | inScope (c : Code) (k : List AItem) (l : List Item) (h : KIs k l) : KIs (.inScope c :: k) (.inScope c :: l)
  | begin (k : List AItem) (l : List Item) (h : KIs k l) : KIs (.begin :: k) (.beginRound :: l)
theorem KIs.exit : ∀ {k : List AItem} {l : List Item} (id : Nat), KIs k l → (∀ k', exitToA id k = some k' → ∃ l', exitTo id l = some l' ∧ KIs k' l') ∧ (exitToA id k = none → exitTo id l = none)
  | _, _, id, .nil => ⟨fun k' e => by simp [exitToA] at e, fun _ => rfl⟩
  | _, _, id, .code c k l h => by have := KIs.exit id h; simpa [exitToA, exitTo] using this
  | _, _, id, .inLoop c k l h => by have := KIs.exit id h; simpa [exitToA, exitTo] using this
  | _, _, id, .inScope c k l h => by have := KIs.exit id h; simpa [exitToA, exitTo] using this
  | _, _, id, .begin k l h => by have := KIs.exit id h; simpa [exitToA, exitTo] using this
  | _, _, id, .inBlock c k l h => by
    have ih := KIs.exit id h
    by_cases hc : c = id
    · subst hc
      have : Nat.beq c c = true := Nat.beq_refl c
      simp [exitToA, exitTo, this]
      exact h
    · have h1 : Nat.beq c id = false := by
        cases q : Nat.beq c id with
        | true => exact absurd (beq_eq q) hc
        | false => rfl
      have h2 : (c == id) = false := by simpa using hc
      simpa [exitToA, exitTo, h1, h2] using ih
end Go.Ev
