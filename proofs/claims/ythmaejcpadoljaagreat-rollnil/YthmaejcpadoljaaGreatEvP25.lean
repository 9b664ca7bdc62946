/- A certified evaluator of closed calls, part P25. -/
import Derived.Test.YthmaejcpadoljaaGreatEvP24
import Derived.Laws.Sem
import Derived.RangeFuncNested
import Derived.RangeFuncLeaves
namespace Go.Ev
open Go Go.RowKit
set_option linter.unusedVariables false
set_option linter.unusedSimpArgs false
variable {P : Program} {I : FuncId → List AV → Option AV} {w0 : World} {E : Env} {h : T AB} {nx : Nat} {w : World} {f0 : Nat} {cs0 : List Frame}

/-! ### results -/
def resF (ts : Array Value) : ResultVar → Sem Value
  | .tmp t => pure (ts.getD t undef)
  | .cell a t => do loadVar t (← asAddr (ts.getD a undef))
theorem results_eq (fn : Func) (ts : Array Value) : results fn ts = (do let vs ← fn.results.mapM (resF ts); pure (if h : vs.size = 1 then vs[0] else .tuple vs)) := by
  unfold results
  congr 1
theorem resA_ok (st : St P w0 E h nx w) {t : T AV} {ts : Array Value} (ht : TR E t ts) : ∀ {rs : List ResultVar} {l : List AV}, resA P h t rs = some l →
    ∃ vs, IsL E l vs ∧ (rs.mapM (resF ts)).run P w = .ok vs w
  | [], l, e => by simp only [resA, Option.some.injEq] at e; subst e; exact ⟨[], .nil, by simp⟩
  | .tmp k :: rs, l, e => by
    simp only [resA] at e
    split at e
    · rename_i v hv
      split at e
      · rename_i r hr
        cases e
        obtain ⟨vs, h1, h2⟩ := resA_ok st ht hr
        obtain ⟨x, x1, x2⟩ := ht k v hv
        refine ⟨x :: vs, .cons _ _ _ _ x2 h1, ?_⟩
        have : ts.getD k undef = x := by rw [Array.getD_eq_getD_getElem?, x1]; rfl
        simp only [List.mapM_cons, Sem.run_bind, Sem.run_pure, Result.andThen_ok, resF, this, h2]
      · cases e
    · cases e
  | .cell a ty :: rs, l, e => by
    simp only [resA] at e
    split at e
    · rename_i v hv
      split at e
      · rename_i r hr
        cases e
        obtain ⟨vs, h1, h2⟩ := resA_ok st ht hr
        have ⟨u, hu⟩ : ∃ u, t.get a = some u := by
          cases q : t.get a with
          | some u => exact ⟨u, rfl⟩
          | none => rw [q] at hv; simp [loadA] at hv; split at hv <;> cases hv
        rw [hu] at hv
        obtain ⟨x, x1, x2⟩ := ht a u hu
        obtain ⟨r', o, y, rfl, k1, k2⟩ := loadVar_ok st hv x2
        refine ⟨y :: vs, .cons _ _ _ _ k2 h1, ?_⟩
        have : ts.getD a undef = .pointer (some ⟨r', o, none⟩) := by rw [Array.getD_eq_getD_getElem?, x1]; rfl
        simp only [List.mapM_cons, Sem.run_bind, Sem.run_pure, Result.andThen_ok, resF, this, asAddr, k1, h2]
      · cases e
    · cases e
theorem results_ok (st : St P w0 E h nx w) {t : T AV} {ts : Array Value} (ht : TR E t ts) {fn : Func} {l : List AV} (e : resA P h t fn.results.toList = some l) : ∃ v, (results fn ts).run P w = .ok v w ∧ Is E (one l) v := by
  obtain ⟨vs, h1, h2⟩ := resA_ok st ht e
  have hr : (results fn ts).run P w = .ok (if h : vs.toArray.size = 1 then vs.toArray[0] else .tuple vs.toArray) w := by
    rw [results_eq]
    simp only [Sem.run_bind, Array.mapM_eq_mapM_toList, Sem.run_map, h2, Result.andThen_ok, Sem.run_pure]
  refine ⟨_, hr, ?_⟩
  cases h1 with
  | nil => exact .undef
  | cons a x l' m ha hl =>
    cases hl with
    | nil => exact ha
    | cons b y l2 m2 hb hl2 =>
      have : ¬ (x :: y :: m2).toArray.size = 1 := by simp
      rw [dif_neg this]
      exact .tup _ _ (.cons _ _ _ _ ha (.cons _ _ _ _ hb hl2))

/-! ### steps of a frame that ends -/
section steps
variable {fr c : Frame} {cs rest : List Frame} {k : List Item}
theorem m_back {fn : Func} {v : Value} (hm : fr.mode = .returning) (hd : fr.defers = []) (hk : fr.kind = .normal) (hf : P.funcs[fr.fn]? = some fn) (hr : (results fn fr.tmps).run P w = .ok v w) :
    Go.step P (lone fr (c :: rest) w) = .next (lone (c.finish v) rest w) := step_lone_go (by simp [stepG, unwind, doReturn, hm, hd, hk, hf, hr])
theorem m_backD {fn : Func} {v : Value} (hm : fr.mode = .returning) (hd : fr.defers = []) (hk : fr.kind = .deferred) (hc : c.mode = .returning) (hf : P.funcs[fr.fn]? = some fn) (hr : (results fn fr.tmps).run P w = .ok v w) :
    Go.step P (lone fr (c :: rest) w) = .next (lone c rest w) := step_lone_go (by simp [stepG, unwind, doReturn, hm, hd, hk, hc, hf, hr])
theorem m_dEnter {d : Deferred} {ds : List Deferred} {g : Fn} {cap : Array Value} {f : FuncId} {args : Array Value} {w' : World} (hm : fr.mode = .returning) (hd : fr.defers = d :: ds) (ht : d.target = .fn g cap) (hr : (invoke d.target d.args).run P w = .ok (.enter f args) w') :
    Go.step P (lone fr cs w) = .next (lone (Frame.enter P f args .deferred) ({ fr with defers := ds } :: cs) w') := by
  obtain ⟨tg, as⟩ := d
  simp only at ht; subst ht
  exact step_lone_go (by simp [stepG, unwind, callDeferred, hm, hd, hr])
theorem m_dValue {d : Deferred} {ds : List Deferred} {g : Fn} {cap : Array Value} {v : Value} {w' : World} (hm : fr.mode = .returning) (hd : fr.defers = d :: ds) (ht : d.target = .fn g cap) (hr : (invoke d.target d.args).run P w = .ok (.value v) w') :
    Go.step P (lone fr cs w) = .next (lone { fr with defers := ds } cs w') := by
  obtain ⟨tg, as⟩ := d
  simp only at ht; subst ht
  exact step_lone_go (by simp [stepG, unwind, callDeferred, hm, hd, hr])
theorem m_roundEnd {l : Nat} {v : Value} {w' : World} (hm : fr.mode = .run) (hb : fr.roundOf = some l) (hk : fr.kind = .normal) (ht : fr.todo = []) (hr : (Instr.endRound l none).run P w = .ok v w') :
    Go.step P (lone fr (c :: cs) w) = .next (lone (c.finish v) cs w') := step_lone_go (by simp [stepG, stepG.exec, hm, ht, hb, hk, Sem.runT_eq, hr, doReturn])
theorem m_roundRet {l : Nat} {v : Value} {w' : World} (hm : fr.mode = .run) (hb : fr.roundOf = some l) (hk : fr.kind = .normal) (ht : fr.todo = .code .ret :: k) (hr : (Instr.endRound l (some .ret)).run P w = .ok v w') :
    Go.step P (lone fr (c :: cs) w) = .next (lone (c.finish v) cs w') := step_lone_go (by simp [stepG, stepG.exec, hm, ht, hb, hk, Sem.runT_eq, hr, doReturn])
theorem m_roundExit {l id : Nat} {v : Value} {w' : World} (hm : fr.mode = .run) (hb : fr.roundOf = some l) (hk : fr.kind = .normal) (ht : fr.todo = .code (.exit id) :: k) (hx : exitTo id k = none) (hr : (Instr.endRound l (some (.exit id))).run P w = .ok v w') :
    Go.step P (lone fr (c :: cs) w) = .next (lone (c.finish v) cs w') := step_lone_go (by simp [stepG, stepG.exec, hm, ht, hb, hk, hx, Sem.runT_eq, hr, doReturn])
theorem m_begin {l : Nat} {w' : World} (hm : fr.mode = .run) (hb : fr.roundOf = some l) (ht : fr.todo = .beginRound :: k) (hr : (Instr.beginRound l).run P w = .ok () w') :
    Go.step P (lone fr cs w) = .next (lone { fr with todo := k } cs w') := step_lone_go (by simp [stepG, stepG.exec, stepG.apply, hm, ht, hb, Sem.runT_eq, hr, Result.andThen, Frame.finish])
theorem m_endRF {l : Nat} {jump : Option Code} {w' : World} (hm : fr.mode = .run) (ht : fr.todo = .endRangeFunc l :: k) (hr : (Instr.endLoop l).run P w = .ok jump w') :
    Go.step P (lone fr cs w) = .next (lone { fr with todo := (jump.map Item.code).toList ++ k } cs w') := step_lone_go (by simp [stepG, stepG.exec, hm, ht, Sem.runT_eq, hr, GStep.bare_after])
theorem g_rangeFunc {f : Operand} {ps : Array Tmp} {assign body : Code} {l : Nat} {mark : List Deferred} {w1 : World} (hm : fr.mode = .run) (ht : fr.todo = .code (.rangeFunc f ps assign body) :: k)
    (he : (Instr.enterLoop fr.fn fr.tmps ps assign body fr.roundOf).run P w = .ok (l, mark) w1) :
    (stepG P true { frame := fr, callers := cs, status := .running, dying := none } w).bare = (stepG.apply P true { fr with todo := .inRangeFunc l :: k, defers := mark ++ fr.defers } cs none (do let d ← resolve fr.eval { callee := .value f, args := #[.const (.func (.yield l) #[] #[])], argTypes := #[] } 0; invoke d.target d.args) w1).bare := by
  simp [stepG, stepG.exec, hm, ht, Sem.runT_eq, he, GStep.bare_after]
  rfl
end steps
end Go.Ev
