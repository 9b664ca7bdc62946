/- A certified evaluator of closed calls, part P28. -/
import Derived.Test.YthmaejcpadoljaaGreatEvP27
namespace Go.Ev
open Go Go.RowKit
set_option linter.unusedVariables false
set_option linter.unusedSimpArgs false
variable {P : Program} {I : FuncId → List AV → Option AV} {w0 : World} {E : Env} {h : T AB} {nx : Nat} {w : World} {f0 : Nat} {cs0 : List Frame}
section
variable {K : K} {res : R} {v' : AV} {h' : T AB} {nx' : Nat} {F : Fr} {f nt : Nat} {ds : List ADef} {kind : CallKind} {round : Option Nat} {ut : T AV} {utodo : List AItem} {up : Fr} {t : T AV} {fr : Frame} {cs : List Frame} {k : List AItem} {l : List Item} {Z : List Nat}
theorem reg_ok (hI : KnownOk P I) (hmix : P.follows .mixedOrders = true) (hres : res = .done v' h' nx') (hF : F = .mk f nt ds kind round ut utodo up) (st : St P w0 E h nx w) (hfr : FrIs E fr f nt ds kind round) (hstk : Stk P I E h nx f0 cs0 F cs Z) (hm : fr.mode = .run) (ht : TR E t fr.tmps)
    (hk : KIs k l) {id : Nat} {ops : Array Oper} {d : Bool} (hq : fr.todo = .code (.region id ops d) :: l) (e : regA P I K F t ops d k h nx = res) : Good P I w0 f0 cs0 K res (lone fr cs w) := by
  subst hF
  unfold regA at e
  simp only at e
  split at e
  · split at e
    · rename_i dl hd
      unfold planD at hd
      simp only at hd
      split at hd
      · rename_i o1 o2
        cases hd
        refine Good.head (.one (m_draw hm hq)) ?_
        rw [hmix]
        obtain ⟨s1, s2, s3⟩ := schedule_ok (okOps_after o1) (w.tape w.drawn (.order fr.fn id))
        refine execD_ok hI hres hk _ [] [] [] (fun _ => 0) [] _ E t h nx w.drew _ st.drew ⟨hfr.fn, hfr.kind, hfr.nt, hfr.ds, hfr.round⟩ hstk hm ⟨o1, by simpa using s1, fun i => by simpa using s2 i, fun a i b q => s3 a i b (by simpa using q), ?_, ?_, ?_, ?_, ?_, ?_, fun k v q _ => ht k v q, ?_, ?_⟩ o2 rfl (fun x hx => by simp [pends] at hx) e
        all_goals simp
      · cases hd
    · rw [hres] at e; cases e
  · rw [cos_eq] at e
    refine Good.head (.one (m_region hm hq)) ?_
    exact exec_ok hI hres hk _ E t h nx w _ (fun j hj => List.mem_range.1 hj) st ⟨hfr.fn, hfr.kind, hfr.nt, hfr.ds, hfr.round⟩ hstk hm ht rfl e
theorem stepC_ok (hI : KnownOk P I) (hmix : P.follows .mixedOrders = true) (hres : res = .done v' h' nx') (hF : F = .mk f nt ds kind round ut utodo up) (st : St P w0 E h nx w) (hfr : FrIs E fr f nt ds kind round) (hstk : Stk P I E h nx f0 cs0 F cs Z) (hm : fr.mode = .run) (ht : TR E t fr.tmps)
    (hk : KIs k l) {c : Code} (hq : fr.todo = .code c :: l) (e : stepC P I K F t c k h nx = res) : Good P I w0 f0 cs0 K res (lone fr cs w) := by
  have to : ∀ {k2 : List AItem} {l2 : List Item}, Go.step P (lone fr cs w) = .next (lone { fr with todo := l2 } cs w) → KIs k2 l2 → K F t k2 h nx = res → Good P I w0 f0 cs0 K res (lone fr cs w) := by
    intro k2 l2 hs hk2 e
    subst hF
    exact .inl ⟨_, _, _, _, _, _, _, _, E, [], Z, .one hs, ⟨st, ⟨_, _, _, _, _, _, _, _, rfl, ⟨hfr.fn, hfr.kind, hfr.nt, hfr.ds, hfr.round⟩, .plain _ hm ht hk2⟩, hstk, fun x hx => by simp at hx⟩, e⟩
  cases c with
  | skip => exact to (m_skip hm hq) hk e
  | label n => exact to (m_label hm hq) hk e
  | seq a b => exact to (m_seq hm hq) (.code _ _ _ (.code _ _ _ hk)) e
  | block id b => exact to (m_block hm hq) (.code _ _ _ (.inBlock _ _ _ hk)) e
  | loop b => exact to (m_loop hm hq) (.code _ _ _ (.inLoop _ _ _ hk)) e
  | scope b => exact to (m_scope hm hq) (.code _ _ _ (.inScope _ _ _ hk)) e
  | goto n => simp only [stepC] at e; rw [hres] at e; cases e
  | refuse n => simp only [stepC] at e; rw [hres] at e; cases e
  | region id ops d => exact reg_ok hI hmix hres hF st hfr hstk hm ht hk hq e
  | rangeFunc fo ps a b => exact rf_ok hI hres hF st hfr hstk hm ht hk hq e
  | ret => exact leave_ok hres hF st hfr hstk hm ht (.inr (.inl ⟨l, rfl, hq⟩)) e
  | exit id =>
    simp only [stepC] at e
    unfold exitA at e
    split at e
    · rename_i k2 hx
      obtain ⟨l2, hl, hk2⟩ := (KIs.exit id hk).1 k2 hx
      exact to (m_exit hm hq hl) hk2 e
    · rename_i hx
      exact leave_ok hres hF st hfr hstk hm ht (.inr (.inr ⟨id, l, rfl, hq, (KIs.exit id hk).2 hx⟩)) e
  | cond c a b =>
    simp only [stepC] at e
    unfold condA at e
    split at e
    · rename_i hc
      have := opn_is st.gl (fun k v _ q => ht k v q) hc
      generalize hv : fr.eval c = x at this
      cases this
      exact to (m_cond hm hq hv) (.code _ _ _ hk) e
    · rename_i hc
      have := opn_is st.gl (fun k v _ q => ht k v q) hc
      generalize hv : fr.eval c = x at this
      cases this
      exact to (m_cond hm hq hv) (.code _ _ _ hk) e
    · rw [hres] at e; cases e
end
theorem step_ok (hI : KnownOk P I) (hmix : P.follows .mixedOrders = true) {K : K} {res : R} {v' : AV} {h' : T AB} {nx' : Nat} (hres : res = .done v' h' nx') {F : Fr} {t : T AV} {todo : List AItem} {fr : Frame} {cs : List Frame} {z Z : List Nat}
    (r : Rl P I w0 f0 cs0 F t todo h nx fr cs w E z Z) (e : step P I K F t todo h nx = res) : Good P I w0 f0 cs0 K res (lone fr cs w) := by
  obtain ⟨st, ⟨f, nt, ds, kind, round, ut, utodo, up, hF, hfr, td⟩, hstk, hz⟩ := r
  have to : ∀ {k2 : List AItem} {l2 : List Item}, fr.mode = .run → TR E t fr.tmps → Go.step P (lone fr cs w) = .next (lone { fr with todo := l2 } cs w) → KIs k2 l2 → K F t k2 h nx = res → Good P I w0 f0 cs0 K res (lone fr cs w) := by
    intro k2 l2 hm ht hs hk2 e
    subst hF
    exact .inl ⟨_, _, _, _, _, _, _, _, E, [], Z, .one hs, ⟨st, ⟨_, _, _, _, _, _, _, _, rfl, ⟨hfr.fn, hfr.kind, hfr.nt, hfr.ds, hfr.round⟩, .plain _ hm ht hk2⟩, hstk, fun x hx => by simp at hx⟩, e⟩
  cases td with
  | plain k hm ht hk =>
    generalize hq : fr.todo = l at hk
    cases hk with
    | nil => exact leave_ok hres hF st hfr hstk hm ht (.inl ⟨rfl, hq⟩) e
    | code c k l hk => exact stepC_ok hI hmix hres hF st hfr hstk hm ht hk hq e
    | inBlock c k l hk => exact to hm ht (m_inBlock hm hq) hk e
    | inLoop c k l hk => exact to hm ht (m_inLoop hm hq) (.code _ _ _ (.inLoop _ _ _ hk)) e
    | inScope c k l hk => exact to hm ht (m_inScope hm hq) hk e
    | begin k l hk => exact begin_ok hres hF st hfr hstk hm ht hk hq e
  | reg ops rest k l hm ht hk hr hq =>
    subst hF
    exact exec_ok hI hres hk rest E t h nx w fr hr st hfr hstk hm ht hq e
  | endRF a r k l hm ht hk ha hq => exact endRF_ok hres hF st hfr hstk hm ht hk ha hq e
  | unw k hm ht => exact unwA_ok hI hres hF st hfr hstk hm ht e
  | dr ops ps Q L V bo dn rest k l hm hk d hp hq =>
    subst hF
    exact execD_ok hI hres hk ps Q L V bo dn rest E t h nx w fr st hfr hstk hm d hp hq hz e
theorem run_ok (hI : KnownOk P I) (hmix : P.follows .mixedOrders = true) {v' : AV} {h' : T AB} {nx' : Nat} : ∀ (n : Nat) {F : Fr} {t : T AV} {todo : List AItem} {h : T AB} {nx : Nat} {fr : Frame} {cs : List Frame} {w : World} {E : Env} {z Z : List Nat},
    Rl P I w0 f0 cs0 F t todo h nx fr cs w E z Z → run P I n F t todo h nx = .done v' h' nx' →
    ∃ fr' w' E' x, Steps P (lone fr cs w) (lone fr' cs0 w') ∧ fr'.fn = f0 ∧ fr'.leaving P w' (.returned x) ∧ Is E' v' x ∧ St P w0 E' h' nx' w'
  | 0, F, t, todo, h, nx, fr, cs, w, E, z, Z, r, e => by simp [run] at e
  | n + 1, F, t, todo, h, nx, fr, cs, w, E, z, Z, r, e => by
    rcases step_ok hI hmix rfl r e with ⟨F1, t1, todo1, h1, nx1, fr1, cs1, w1, E1, z1, Z1, s1, r1, e1⟩ | ⟨v, h1, nx1, fr1, w1, E1, x, e1, s1, k1, k2, k3, k4⟩
    · obtain ⟨fr', w', E', x, q1, q2, q3, q4, q5⟩ := run_ok hI hmix n r1 e1
      exact ⟨fr', w', E', x, s1.trans q1, q2, q3, q4, q5⟩
    · cases e1
      exact ⟨fr1, w1, E1, x, s1, k1, k2, k3, k4⟩
/-- **A RUN OF THE EVALUATOR IS A CALL.** -/
theorem run_calls (hI : KnownOk P I) (hmix : P.follows .mixedOrders = true) {f : FuncId} {fn : Func} {c : Code} (hfn : P.funcs[f]? = some fn) (hb : fn.body = some c) {n : Nat} {args : List AV} {vs : List Value} {h0 : T AB} {nx0 : Nat} (st : St P w0 E h0 nx0 w) (hv : IsL E args vs) {v : AV} {h : T AB} {nx : Nat}
    (e : run P I n (.mk f fn.ntmps [] .normal none .leaf [] .bot) (setAll .leaf 0 args) [.code c] h0 nx0 = .done v h nx) :
    Calls P f vs.toArray w fun e w' => ∃ E' x, e = .returned x ∧ Is E' v x ∧ St P w0 E' h nx w' := by
  intro cs
  obtain ⟨k1, k2⟩ := entered (P := P) (I := I) hfn hb hv .normal h0 nx0
  obtain ⟨fr', w', E', x, q1, q2, q3, q4, q5⟩ := run_ok (cs0 := cs) (f0 := f) hI hmix n (z := []) (Z := []) (fr := Frame.enter P f vs.toArray .normal) (cs := cs) ⟨st, ⟨_, _, _, _, _, _, _, _, rfl, k1, k2⟩, .base _ _ _ _, fun x hx => by simp at hx⟩ e
  exact ⟨.returned x, w', fr', ⟨E', x, rfl, q4, q5⟩, q1, q2, q3⟩
/-! ### where it begins -/
def Env.start (ov : Nat → Option Value) : Env := { at_ := fun k => if k < 256 then some k else none, cap := fun _ => 0, ov }
theorem St.start {ov : Nat → Option Value} (hflat : ∀ k v, ov k = some v → v.oneCell' = true) {h0 : T AB} (hh : ∀ b ab, h0.get b = some ab → b < 256 ∧ (∃ n c, ab = .ro n c) ∧ ∃ o, w.heap[b]? = some o ∧ OIs P (Env.start ov) b ab o) :
    St P w (Env.start ov) h0 256 w := by
  have key : ∀ b r, (Env.start ov).at_ b = some r → r = b ∧ b < 256 := fun b r e => by
    simp only [Env.start] at e
    split at e
    · rename_i hb; cases e; exact ⟨rfl, hb⟩
    · cases e
  refine ⟨.refl _ _, fun b hb => ?_, fun b r ab e q => .inl (hh b ab q).2.1, fun b b' r ab ab' e1 e2 _ _ _ _ => (key b r e1).1.symm.trans (key b' r e2).1, fun b r ab e q => ?_, hflat, fun g hg => by simp [Env.start, hg], fun b hb => ?_⟩
  · have : ¬ b < 256 := by omega
    simp [Env.start, this]
  · obtain ⟨rfl, _⟩ := key b r e
    exact (hh _ ab q).2.2
  · cases q : h0.get b with
    | none => rfl
    | some ab => have := (hh b ab q).1; omega
end Go.Ev
