/- A certified evaluator of closed calls, part P16. -/
import Derived.Test.YthmaejcpadoljaaGreatEvP15
namespace Go.Ev
open Go Go.RowKit
set_option linter.unusedVariables false
set_option linter.unusedSimpArgs false
variable {P : Program} {I : FuncId → List AV → Option AV} {w0 : World} {E : Env} {h : T AB} {nx : Nat} {w : World}

/-- functions whose value is known outright -/
def KnownOk (P : Program) (I : FuncId → List AV → Option AV) : Prop := ∀ f args v, I f args = some v → ∀ (E : Env) vs, IsL E args vs → ∀ w, ∃ x, Is E v x ∧ (callFunc f vs.toArray).run P w = .ok (.value x) w
def NextIs (E : Env) (r : ANext) (n : Next) : Prop := match r with
  | .value v => ∃ x, n = .value x ∧ Is E v x
  | .enter f args => ∃ vs : List Value, n = .enter f vs.toArray ∧ IsL E args vs
  | .round l r t => ∃ rl ts, n = .round rl r.fn ts r.assign r.body ∧ E.at_ l = some rl ∧ r.nt ≤ ts.size ∧ TR E t ts
  | .defer d => ∃ d', n = .defer d' ∧ DIs E d d'
  | .recover => n = .recover
def CallOk (P : Program) (o : Oper) (f : T AV → T AB → Nat → Option (ANext × T AB × Nat)) : Prop := ∀ w0 E h nx w t ρ r h' nx', St P w0 E h nx w → OvR E t ρ o.op.operands.toList → f t h nx = some (r, h', nx') →
  h' = h ∧ nx' = nx ∧ ∃ n, (execOp ρ o).run P w = .ok n w ∧ NextIs E r n

theorem callF_ok (hI : KnownOk P I) {f : FuncId} {args : List AV} {r : ANext} {h' : T AB} {nx' : Nat} {vs : List Value} (hv : IsL E args vs) (e : callF P I h nx f args = some (r, h', nx')) :
    h' = h ∧ nx' = nx ∧ ∃ n, (callFunc f vs.toArray).run P w = .ok n w ∧ NextIs E r n := by
  unfold callF at e
  split at e
  · rename_i v hv'
    cases e
    obtain ⟨x, x1, x2⟩ := hI _ _ _ hv' E vs hv w
    exact ⟨rfl, rfl, _, x2, x, rfl, x1⟩
  · split at e
    · cases e
    · rename_i fn hfn
      split at e
      · rename_i c hc
        split at e
        · cases e
        · rename_i hnm
          cases e
          refine ⟨rfl, rfl, .enter f vs.toArray, ?_, vs, rfl, hv⟩
          have hb : fn.body.isNone = false := by rw [hc]; rfl
          simp only [callFunc, Sem.run_bind, run_program, Result.andThen_ok, hfn, hnm, hb, Bool.false_eq_true, if_false, Sem.run_pure]
      · cases e
theorem setArgs_tr : ∀ {ps : List Tmp} {args : List AV} {vs : List Value} {t : T AV} {ts : Array Value}, IsL E args vs → TR E t ts → (∀ k ∈ ps, k < ts.size) →
    TR E (setArgs t (ps.zip args)) ((ps.zip vs).foldl (fun tmps (p : Tmp × Value) => tmps.setIfInBounds p.1 p.2) ts) ∧ ((ps.zip vs).foldl (fun tmps (p : Tmp × Value) => tmps.setIfInBounds p.1 p.2) ts).size = ts.size
  | [], _, _, t, ts, _, ht, _ => ⟨ht, rfl⟩
  | p :: ps, [], _, t, ts, .nil, ht, _ => ⟨ht, rfl⟩
  | p :: ps, a :: args, _, t, ts, .cons _ x _ vs hx hl, ht, hp => by
    have hlt := hp p (by simp)
    have ht' : TR E (t.set p a) (ts.setIfInBounds p x) := by
      intro k v q
      rw [T.get_set] at q
      split at q
      · rename_i e; subst e; cases q
        exact ⟨x, by simp [hlt], hx⟩
      · rename_i e
        obtain ⟨y, y1, y2⟩ := ht k v q
        exact ⟨y, by rw [Array.getElem?_setIfInBounds_ne e]; exact y1, y2⟩
    have := setArgs_tr (ps := ps) hl ht' (fun k hk => by simp; exact hp k (by simp [hk]))
    simp only [List.zip_cons_cons, setArgs, List.foldl_cons]
    exact ⟨this.1, by rw [this.2]; simp⟩
theorem run_getLoop {r : Nat} {l : Loop} (hg : w.heap[r]? = some (.loop l)) : (Instr.getLoop r).run P w = .ok l w := by
  have : (getObj r).run P w = .ok (.loop l) w := by simp only [getObj, Sem.run, hg]
  simp [Instr.getLoop, this]
theorem St.loop (s : St P w0 E h nx w) {b r : Nat} {l : ALoop} (hb : E.at_ b = some r) (hg : h.get b = some (.loop l)) : ∃ lp, w.heap[r]? = some (.loop lp) ∧ LIs E l lp := by
  obtain ⟨o, h1, lp, rfl, h2⟩ := s.obj b r _ hb hg
  exact ⟨lp, h1, h2⟩
theorem callM_ok (hI : KnownOk P I) {name : String} {args : List AV} {r : ANext} {h' : T AB} {nx' : Nat} {vs : List Value} (hv : IsL E args vs) (e : callM P I h nx name args = some (r, h', nx')) :
    h' = h ∧ nx' = nx ∧ ∃ n, (∀ (y : Value) (ys : List Value), vs = y :: ys → (callMethod y name ys.toArray).run P w = .ok n w) ∧ (∃ y ys, vs = y :: ys) ∧ NextIs E r n := by
  unfold callM at e
  split at e
  · rename_i ty v rest
    cases hv with
    | cons _ y _ ys hy hl =>
    cases hy with
    | ifc _ _ x hx =>
    split at e
    · rename_i i hi
      split at e
      · rename_i m hm
        obtain ⟨fu, hfu⟩ : ∃ n, P.types.size + Made.depth = n + 1 := ⟨P.types.size + 99, rfl⟩
        have app : (#[x] ++ ys.toArray : Array Value) = (x :: ys).toArray := Array.ext' (by simp)
        split at e
        · rename_i f el hp hf hu
          have hu' : P.underlying ty = _ := hu
          obtain ⟨q1, q2, n, n1, n2⟩ := callF_ok (w := w) hI (.cons _ _ _ _ hx hl) e
          refine ⟨q1, q2, n, fun y' ys' q => ?_, ⟨_, _, rfl⟩, n2⟩
          cases q
          have : (method (P.types.size + Made.depth) ty x name).run P w = .ok (f, x) w := by
            rw [hfu]
            simp [method, typeInfo, hi, hm, hp, follow, hf, receiverAt, run_underlying hu', Place.get]
          simp only [callMethod, Sem.run_bind, run_program, Result.andThen_ok, this, app]
          exact n1
        · cases e
        · rename_i f d hd hp hf hu
          have hu' : P.underlying ty = _ := hu
          obtain ⟨q1, q2, n, n1, n2⟩ := callF_ok (w := w) hI (.cons _ _ _ _ hx hl) e
          refine ⟨q1, q2, n, fun y' ys' q => ?_, ⟨_, _, rfl⟩, n2⟩
          cases q
          have : (method (P.types.size + Made.depth) ty x name).run P w = .ok (f, x) w := by
            have hrc : ∀ wr, (receiverAt ty (.val x) false wr).run P w = .ok x w := by
              intro wr
              simp only [receiverAt, Sem.run_bind, run_underlying hu', Result.andThen_ok]
              cases d <;> first | (exact absurd rfl (hd _)) | rfl
            rw [hfu]
            simp [method, typeInfo, hi, hm, hp, follow, hf, hrc]
          simp only [callMethod, Sem.run_bind, run_program, Result.andThen_ok, this, app]
          exact n1
        · cases e
      · cases e
    · cases e
  · cases e
theorem invokeA_ok (hI : KnownOk P I) (s : St P w0 E h nx w) {f g : Fn} {cap args : List AV} {r : ANext} {h' : T AB} {nx' : Nat} {cs vs : List Value} (hf : IsF E f g) (hc : IsL E cap cs) (hv : IsL E args vs) (e : invokeA P I h nx f cap args = some (r, h', nx')) :
    h' = h ∧ nx' = nx ∧ ∃ n, (invoke (.fn g cs.toArray) vs.toArray).run P w = .ok n w ∧ NextIs E r n := by
  unfold invokeA at e
  split at e
  · rename_i k
    have hg : g = .func k := hf
    subst hg
    obtain ⟨q1, q2, n, n1, n2⟩ := callF_ok (w := w) hI (hv.app hc) e
    refine ⟨q1, q2, n, ?_, n2⟩
    have : vs.toArray ++ cs.toArray = (vs ++ cs).toArray := Array.ext' (by simp)
    simp only [invoke, this]
    exact n1
  · rename_i l
    obtain ⟨rl, hl, rfl⟩ := hf
    split at e
    · rename_i lp hg
      split at e
      · rename_i c1 c2
        cases e
        obtain ⟨lo, g1, l1, l2, l3, l4, l5, l6, l7, l8, l9⟩ := s.loop hl hg
        have c1 := beq_eq c1
        have hlen := hv.length
        have hp : ∀ k ∈ lp.params.toList, k < lo.tmps.size := by
          intro k hk
          have := List.all_eq_true.1 c2 k hk
          have := ble_le this
          exact Nat.lt_of_lt_of_le this l7
        obtain ⟨t1, t2⟩ := setArgs_tr hv l8 hp
        refine ⟨rfl, rfl, _, ?_, rl, _, rfl, hl, by rw [t2]; exact l7, t1⟩
        have hsz0 : vs.length = lo.params.size := by rw [l4, ← c1, hlen]
        have hsz : ¬ (vs.toArray.size ≠ lo.params.size) := fun q => q (by simpa using hsz0)
        have hz : (lo.params.zip vs.toArray).foldl (fun tmps (t, a) => tmps.setIfInBounds t a) lo.tmps = (lp.params.toList.zip vs).foldl (fun tmps (p : Tmp × Value) => tmps.setIfInBounds p.1 p.2) lo.tmps := by
          rw [← Array.foldl_toList]
          simp only [Array.toList_zip, List.toList_toArray, l4]
        simp only [invoke, Instr.yield, Sem.run_bind, run_getLoop g1, Result.andThen_ok, Sem.run_ite, if_neg hsz, Sem.run_pure, l3, l5, l6, hz]
      · cases e
    · cases e
  · rename_i name
    have hg : g = .method name := hf
    subst hg
    obtain ⟨q1, q2, n, n1, ⟨y, ys, n2⟩, n3⟩ := callM_ok (w := w) hI hv e
    refine ⟨q1, q2, n, ?_, n3⟩
    subst n2
    have e1 : ((y :: ys).toArray.extract 1 (y :: ys).toArray.size) = ys.toArray := Array.ext' (by simp [List.extract_eq_take_drop])
    have e0 : (y :: ys).toArray[0]? = some y := by simp
    simp only [invoke, e0, e1]
    exact n1 y ys rfl
  · cases e
theorem is_fn {f : Fn} {l m : List AV} {x : Value} (k : Is E (.fn f l m) x) : ∃ g vs ws, x = .func g (vs : List Value).toArray (ws : List Value).toArray ∧ IsF E f g ∧ IsL E l vs ∧ IsL E m ws := by
  cases k with | fn _ g _ _ vs ws a b c => exact ⟨g, vs, ws, rfl, a, b, c⟩
theorem cop_call (hI : KnownOk P I) {o : Oper} {f : T AV → T AB → Nat → Option (ANext × T AB × Nat)} (e : cop P I o = .cl f) : CallOk P o f := by
  obtain ⟨dst, op, type, pos, af, g⟩ := o
  cases op with
  | call c =>
    have hargs : ∀ {E t ρ}, OvR E t ρ (Op.call c).operands.toList → OvR E t ρ c.args.toList := fun hr x hx => hr x (by simp [Op.operands, Call.operands]; exact .inr (Array.mem_toList_iff.1 hx))
    have hmap : ∀ ρ : Operand → Value, c.args.map ρ = (c.args.toList.map ρ).toArray := fun ρ => Array.ext' (by simp)
    simp only [cop, copCall] at e
    split at e
    · rename_i b hc
      unfold copB copLen copApp at e
      split at e <;> first
        | ((repeat' split at e) <;> cases e; done)
        | (cases e
           intro w0 E h nx w t ρ r h' nx' s hr hv
           cases hv
           refine ⟨rfl, rfl, .recover, ?_, rfl⟩
           rw [exec_builtin hc]
           rfl)
    · rename_i fo hc
      split at e
      · rename_i fid
        cases e
        intro w0 E h nx w t ρ r h' nx' s hr hv
        dsimp only at hv
        unfold callD at hv
        split at hv
        · rename_i args ha
          have hl := OvR.evl (hargs hr) ha
          by_cases hfn : ρ (.func fid) = .func (.func fid) #[] #[]
          · obtain ⟨q1, q2, n, n1, n2⟩ := callF_ok (w := w) hI hl hv
            refine ⟨q1, q2, n, ?_, n2⟩
            simp only [execOp, resolve, hc, hfn, Deferred.ofValue, Sem.run_bind, Sem.run_pure, Result.andThen_ok, invoke, hmap]
            have : (#[] ++ (c.args.toList.map ρ).toArray ++ #[] : Array Value) = (c.args.toList.map ρ).toArray := by simp
            rw [this]
            exact n1
          · exfalso
            have := hr (.func fid) (by simp [Op.operands, Call.operands, hc]) (.fn (.func fid) [] []) rfl
            obtain ⟨g, vs, ws, h1, h2, h3, h4⟩ := is_fn this
            cases h3; cases h4
            have h2' : g = .func fid := h2
            exact hfn (by rw [h1, h2'])
        · cases hv
      · cases e
        intro w0 E h nx w t ρ r h' nx' s hr hv
        dsimp only at hv
        unfold callV at hv
        split at hv
        · rename_i fn first cap args hf ha
          have hl := OvR.evl (hargs hr) ha
          have hfo := hr fo (by simp [Op.operands, Call.operands, hc]) _ hf
          obtain ⟨g, vs, ws, h1, h2, h3, h4⟩ := is_fn hfo
          obtain ⟨q1, q2, n, n1, n2⟩ := invokeA_ok hI s h2 h4 (h3.app hl) hv
          refine ⟨q1, q2, n, ?_, n2⟩
          have : vs.toArray ++ (c.args.toList.map ρ).toArray = (vs ++ c.args.toList.map ρ).toArray := Array.ext' (by simp)
          simp only [execOp, resolve, hc, h1, Deferred.ofValue, Sem.run_bind, Sem.run_pure, Result.andThen_ok, hmap, this]
          exact n1
        · cases hv
    · rename_i rv name hc
      cases e
      intro w0 E h nx w t ρ r h' nx' s hr hv
      dsimp only at hv
      unfold callI at hv
      split at hv
      · rename_i rr args hrr ha
        have hl := OvR.evl (hargs hr) ha
        have hrv := hr rv (by simp [Op.operands, Call.operands, hc]) _ hrr
        obtain ⟨q1, q2, n, n1, n2, n3⟩ := callM_ok (w := w) hI (.cons _ _ _ _ hrv hl) hv
        refine ⟨q1, q2, n, ?_, n3⟩
        have e0 : (#[ρ rv] ++ (c.args.toList.map ρ).toArray : Array Value) = (ρ rv :: c.args.toList.map ρ).toArray := Array.ext' (by simp)
        have e1 : ((ρ rv :: c.args.toList.map ρ).toArray.extract 1 (ρ rv :: c.args.toList.map ρ).toArray.size) = (c.args.toList.map ρ).toArray := Array.ext' (by simp [List.extract_eq_take_drop]; exact List.take_of_length_le (by simp))
        have e2 : (ρ rv :: c.args.toList.map ρ).toArray[0]? = some (ρ rv) := by simp
        simp only [execOp, resolve, hc, Sem.run_bind, Sem.run_pure, Result.andThen_ok, hmap, e0, invoke, e2, e1]
        exact n1 _ _ rfl
      · cases hv
  | defer c =>
    have hmap : ∀ ρ : Operand → Value, c.args.map ρ = (c.args.toList.map ρ).toArray := fun ρ => Array.ext' (by simp)
    simp only [cop] at e
    split at e
    · rename_i fo hc
      cases e
      intro w0 E h nx w t ρ r h' nx' s hr hv
      dsimp only at hv
      unfold deferA at hv
      split at hv
      · rename_i fn first cap args hf ha
        cases hv
        have hl := OvR.evl (fun x hx => hr x (by simp [Op.operands, Call.operands]; exact .inr (Array.mem_toList_iff.1 hx))) ha
        have hfo := hr fo (by simp [Op.operands, Call.operands, hc]) _ hf
        obtain ⟨g, vs, ws, h1, h2, h3, h4⟩ := is_fn hfo
        refine ⟨rfl, rfl, .defer { target := .fn g ws.toArray, args := vs.toArray ++ c.args.map ρ }, ?_, _, rfl, g, vs ++ c.args.toList.map ρ, ws, ?_, h2, h4, h3.app hl⟩
        · simp only [execOp, resolve, hc, h1, Deferred.ofValue, Sem.run_bind, Sem.run_pure, Result.andThen_ok]
        · rw [hmap]
          congr 1
          exact Array.ext' (by simp)
      · cases hv
    · cases e
  | store ty a x => simp only [cop, cop.stC] at e; (repeat' split at e) <;> cases e
  | mapUpdate ty m k x => simp only [cop] at e; (repeat' split at e) <;> cases e
  | insert ty m k x => simp only [cop] at e; (repeat' split at e) <;> cases e
  | alloc ty => simp only [cop] at e; (repeat' split at e) <;> cases e
  | box ty x => simp only [cop, cop.bxC] at e; cases e
  | buildSlice ty n ps => simp only [cop] at e; (repeat' split at e) <;> cases e
  | makeMap ty r => simp only [cop, cop.mmC] at e; (repeat' split at e) <;> cases e
  | makeSlice ty l c => simp only [cop] at e; (repeat' split at e) <;> cases e
  | move x => cases e
  | assign x => cases e
  | pick c a b => cases e
  | build ty ps => cases e
  | load ty a => simp only [cop, cop.ldC] at e; (repeat' split at e) <;> cases e
  | ready n => cases e
  | waits n => cases e
  | nilCheck x => cases e
  | binOp op ty x y yt => simp only [cop, copBin] at e; (repeat' split at e) <;> cases e
  | unOp op ty x => cases e
  | convert s d x => simp only [cop] at e; (repeat' split at e) <;> cases e
  | sliceToArrayPointer ty x => cases e
  | makeInterface ty x => simp only [cop] at e; (repeat' split at e) <;> cases e
  | makeFunc f a b => simp only [cop] at e; (repeat' split at e) <;> cases e
  | makeChan ty x => cases e
  | slice ty x lo hi mx => cases e
  | fieldAddr ty x f => simp only [cop] at e; (repeat' split at e) <;> cases e
  | field ty x f => simp only [cop] at e; (repeat' split at e) <;> cases e
  | indexAddr ty x ix => simp only [cop] at e; (repeat' split at e) <;> cases e
  | index ty x ix => simp only [cop] at e; (repeat' split at e) <;> cases e
  | lookup ty x ix ok => simp only [cop] at e; (repeat' split at e) <;> cases e
  | mapEntry ty m k => cases e
  | entryStore ty m k x => cases e
  | range ty x => cases e
  | next x s => cases e
  | entry x => cases e
  | typeAssert x xt ty ok => simp only [cop] at e; (repeat' split at e) <;> cases e
  | extract x i => cases e
  | go c => cases e
  | panic x => cases e
  | send c x => cases e
  | recv t c k => cases e
  | select cs b => cases e
end Go.Ev
