/- A certified evaluator of closed calls, part P26. -/
import Derived.Test.YthmaejcpadoljaaGreatEvP25
namespace Go.Ev
open Go Go.RowKit
set_option linter.unusedVariables false
set_option linter.unusedSimpArgs false
variable {P : Program} {I : FuncId → List AV → Option AV} {w0 : World} {E : Env} {h : T AB} {nx : Nat} {w : World} {f0 : Nat} {cs0 : List Frame}

theorem turn_put (s : St P w0 E h nx w) {b r : Nat} {old ab : AB} {o : Obj} (hb : E.at_ b = some r) (hg : h.get b = some old) (hd : old ≠ .dead) (hro : ∀ n c, old ≠ .ro n c) (hab : OIs P E b ab o) : St P w0 E (h.set b ab) nx (w.putObj r o) := by
  have hlt := s.lt hb hg
  have hr : w0.heap.size ≤ r := by
    rcases s.own b r old hb hg with ⟨n, c, q⟩ | q
    · exact absurd q (hro n c)
    · exact q
  exact s.turn hb hr ⟨old, hg, hd⟩ (by simp [World.putObj]) (World.putObj_heap_same hlt) (fun k hk => World.putObj_heap_other hk) rfl rfl rfl hab
theorem Stk.defs {F0 : Nat} {nt : Nat} {ds ds' : List ADef} {kind : CallKind} {round : Option Nat} {ut : T AV} {utodo : List AItem} {up : Fr} {cs : List Frame} {Z : List Nat} (s : Stk P I E h nx f0 cs0 (.mk F0 nt ds kind round ut utodo up) cs Z) :
    Stk P I E h nx f0 cs0 (.mk F0 nt ds' kind round ut utodo up) cs Z := by
  cases s with
  | base => exact .base _ _ _ _
  | call _ _ _ _ _ _ _ _ _ _ _ _ _ _ _ _ _ _ a1 a2 a3 a4 a5 => exact .call _ _ _ _ _ _ _ _ _ _ _ _ _ _ _ _ _ _ a1 a2 a3 a4 a5
  | deferred _ _ _ _ _ _ _ _ _ _ _ _ _ _ _ a1 a2 a3 a4 => exact .deferred _ _ _ _ _ _ _ _ _ _ _ _ _ _ _ a1 a2 a3 a4

/-! ### a value goes to the frame above -/
theorem giveUp_call {K : K} {res : R} {f nt : Nat} {ds : List ADef} {round : Option Nat} {ut : T AV} {utodo : List AItem} {f' nt' : Nat} {ds' : List ADef} {k' : CallKind} {r' : Option Nat} {ut' : T AV} {ud' : List AItem} {up' : Fr} {c : Frame} {rest : List Frame} {z Z : List Nat} {v : AV} {x : Value}
    (st : St P w0 E h nx w) (hv : Is E v x) (hf : FrIs E c f' nt' ds' k' r') (hm : c.mode = .run) (hw : Wt P I E h nx nt' ut c.tmps utodo c.todo z) (hs : Stk P I E h nx f0 cs0 (.mk f' nt' ds' k' r' ut' ud' up') rest Z) (hz : Fresh z Z nx E)
    (e : giveUp K v (.mk f nt ds .normal round ut utodo (.mk f' nt' ds' k' r' ut' ud' up')) h nx = res) : Good P I w0 f0 cs0 K res (lone (c.finish x) rest w) := by
  generalize hq : c.todo = td at hw
  cases hw with
  | wait ops i r k l ht hk hi hr hd =>
    have hfin := finish_region hq x
    refine .inl ⟨_, _, _, _, _, _, _, _, E, [], Z, Steps.refl (P := P) _, ⟨st, ⟨_, _, _, _, _, _, _, _, rfl, hf.fin (fin_region hq x), .reg ops r k l (by rw [hfin]; exact hm) ?_ hk hr (by rw [hfin])⟩, hs, fun x hx => by simp at hx⟩, e⟩
    rw [hfin]
    exact ht.put hd hf.nt hv
  | inRF a r k l ht hk ha =>
    have hfin := fin_inRF hq x
    refine .inl ⟨_, _, _, _, _, _, _, _, E, [], Z, Steps.refl (P := P) _, ⟨st, ⟨_, _, _, _, _, _, _, _, rfl, ?_, .endRF a r k l (by rw [hfin]; exact hm) (by rw [hfin]; exact ht) hk ha (by rw [hfin])⟩, hs, fun x hx => by simp at hx⟩, e⟩
    rw [hfin]
    exact ⟨hf.fn, hf.kind, hf.nt, hf.ds, hf.round⟩
  | waitD ops i ps Q L V bo dn r k l hk hd hV dr hi hdi hl hp =>
    have hfin := finish_region hq x
    refine .inl ⟨_, _, _, _, _, _, _, _, E, pends P I nt' ops V r bo, Z, Steps.refl (P := P) _, ⟨st, ⟨_, _, _, _, _, _, _, _, rfl, hf.fin (fin_region hq x), .dr ops ps (i :: Q) (i :: L) V bo (dn ++ [i]) r k l (by rw [hfin]; exact hm) hk ?_ hp (by rw [hfin])⟩, hs, ?_⟩, e⟩
    · rw [hfin]
      exact dr.loud (.refl _ _ _ _) (fun j a b c => mem_pends a b c) hV hi hdi hd hf.nt hv
    · exact Fresh.sub hz (pends_sub (fun _ q => q) (fun _ q => by simp [q]))

/-! ### a frame that returns -/
theorem unwA_ok (hI : KnownOk P I) {K : K} {res : R} {v' : AV} {h' : T AB} {nx' : Nat} (hres : res = .done v' h' nx') {F : Fr} {f nt : Nat} {ds : List ADef} {kind : CallKind} {round : Option Nat} {ut : T AV} {utodo : List AItem} {up : Fr} {t : T AV} {k : List AItem} {fr : Frame} {cs : List Frame} {Z : List Nat}
    (hF : F = .mk f nt ds kind round ut utodo up) (st : St P w0 E h nx w) (hfr : FrIs E fr f nt ds kind round) (hstk : Stk P I E h nx f0 cs0 F cs Z) (hm : fr.mode = .returning) (ht : TR E t fr.tmps) (e : unwA P I K F t k h nx = res) : Good P I w0 f0 cs0 K res (lone fr cs w) := by
  subst hF
  unfold unwA at e
  simp only at e
  split at e
  · rw [hres] at e; cases e
  · split at e
    · have hd0 : fr.defers = [] := by
        have := hfr.ds
        cases q : fr.defers with
        | nil => rfl
        | cons a l => rw [q] at this; cases this
      split at e
      · rename_i fn hfn
        split at e
        · rename_i l hl
          obtain ⟨x, x1, x2⟩ := results_ok st ht hl
          have hfn' : P.funcs[fr.fn]? = some fn := by rw [hfr.fn]; exact hfn
          cases hstk with
          | base =>
            exact .inr ⟨_, _, _, fr, w, E, x, e.symm, Steps.refl (P := P) _, hfr.fn, ⟨hm, hd0, hfr.kind, fn, hfn', x1⟩, x2, st⟩
          | call _ _ _ _ _ _ f1 nt1 ds1 k1 r1 ut1 ud1 up1 c rest z Z a1 a2 a3 a4 a5 =>
            refine Good.head (.one (m_back hm hd0 hfr.kind hfn' x1)) ?_
            exact giveUp_call st x2 a1 a2 a3 a4 a5 e
          | deferred _ _ _ _ k f1 nt1 ds1 k1 ut1 ud1 up1 c rest Z a1 a2 a3 a4 =>
            exact .inl ⟨_, _, _, _, _, _, _, _, E, [], Z, .one (m_backD hm hd0 hfr.kind a2 hfn' x1), ⟨st, ⟨_, _, _, _, _, _, _, _, rfl, a1, .unw _ a2 a3⟩, a4, fun x hx => by simp at hx⟩, e⟩
        · rw [hres] at e; cases e
      · rw [hres] at e; cases e
    · rename_i d ds1
      obtain ⟨d', ds', hdd, hD, hDs⟩ : ∃ d' ds', fr.defers = d' :: ds' ∧ DIs E d d' ∧ DsIs E ds1 ds' := by
        have := hfr.ds
        cases q : fr.defers with
        | nil => rw [q] at this; cases this
        | cons a l => rw [q] at this; cases this with | cons _ _ _ _ x y => exact ⟨a, l, rfl, x, y⟩
      split at e
      · rename_i b hb
        split at e
        · rename_i l hl
          unfold DIs at hD
          rw [hb] at hD
          obtain ⟨r, r1, r2⟩ := hD
          obtain ⟨o, o1, lp, rfl, o2⟩ := st.obj b r _ r1 hl
          have hst := turn_put st r1 hl (by simp) (by simp) (ab := .dead) (o := .deferred none) trivial
          have hext := Ext.turn st .dead r1
          refine .inl ⟨_, _, _, _, _, _, _, _, E, [], Z, .one (step_collected (by rw [hm]; simp) hdd r2 (run_takeDeferred o1)), ⟨hst, ⟨_, _, _, _, _, _, _, _, rfl, ⟨hfr.fn, hfr.kind, hfr.nt, o2.app hDs, hfr.round⟩, .unw _ hm ht⟩, (hstk.lat (hext.lat Z)).defs, fun x hx => by simp at hx⟩, e⟩
        · rw [hres] at e; cases e
      · rename_i g cap hb
        unfold DIs at hD
        rw [hb] at hD
        obtain ⟨g', vs, ws, rfl, i1, i2, i3⟩ := hD
        split at e
        · rename_i g2 args h2 nx2 hv
          obtain ⟨rfl, rfl, n, n1, n2⟩ := invokeA_ok (w := w) hI st i1 i2 i3 hv
          obtain ⟨us, rfl, n3⟩ := n2
          obtain ⟨fn, c, q1, q2, q3⟩ := enter_ok hres e
          obtain ⟨k1, k2⟩ := entered q1 q2 n3 .deferred _ _
          exact .inl ⟨_, _, _, _, _, _, _, _, E, [], Z, .one (m_dEnter hm hdd rfl n1), ⟨st, ⟨_, _, _, _, _, _, _, _, rfl, k1, k2⟩, .deferred _ _ _ _ _ _ _ _ _ _ _ _ _ _ _ ⟨hfr.fn, hfr.kind, hfr.nt, hDs, hfr.round⟩ hm ht hstk.defs, fun x hx => by simp at hx⟩, q3⟩
        · rename_i v h2 nx2 hv
          obtain ⟨rfl, rfl, n, n1, x, rfl, n2⟩ := invokeA_ok (w := w) hI st i1 i2 i3 hv
          exact .inl ⟨_, _, _, _, _, _, _, _, E, [], Z, .one (m_dValue hm hdd rfl n1), ⟨st, ⟨_, _, _, _, _, _, _, _, rfl, ⟨hfr.fn, hfr.kind, hfr.nt, hDs, hfr.round⟩, .unw _ hm ht⟩, hstk.defs, fun x hx => by simp at hx⟩, e⟩
        · rw [hres] at e; cases e

/-! ### a frame leaves its code -/
def endA (lp : ALoop) (j : Option Code) : ALoop := { lp with state := (match j with | none => .ready | some _ => .done), pending := j }
theorem endA_is {E : Env} {lp : ALoop} {lo : Loop} (j : Option Code) (k : LIs E lp lo) : LIs E (endA lp j) { lo with state := if j.isNone then .ready else .done, pending := j } := by
  obtain ⟨l1, l2, l3, l4, l5, l6, l7, l8, l9⟩ := k
  exact ⟨by cases j <;> rfl, rfl, l3, l4, l5, l6, l7, l8, l9⟩
theorem leave_ok {K : K} {res : R} {v' : AV} {h' : T AB} {nx' : Nat} (hres : res = .done v' h' nx') {F : Fr} {f nt : Nat} {ds : List ADef} {kind : CallKind} {round : Option Nat} {ut : T AV} {utodo : List AItem} {up : Fr} {t : T AV} {j : Option Code} {fr : Frame} {cs : List Frame} {Z : List Nat}
    (hF : F = .mk f nt ds kind round ut utodo up) (st : St P w0 E h nx w) (hfr : FrIs E fr f nt ds kind round) (hstk : Stk P I E h nx f0 cs0 F cs Z) (hm : fr.mode = .run) (ht : TR E t fr.tmps)
    (hj : (j = none ∧ fr.todo = []) ∨ (∃ l, j = some .ret ∧ fr.todo = .code .ret :: l) ∨ ∃ id l, j = some (.exit id) ∧ fr.todo = .code (.exit id) :: l ∧ exitTo id l = none) (e : leave K F t j h nx = res) : Good P I w0 f0 cs0 K res (lone fr cs w) := by
  subst hF
  unfold leave at e
  simp only at e
  split at e
  · have h0 : fr.roundOf = none := by
      have := hfr.round
      cases q : fr.roundOf with
      | none => rfl
      | some r => rw [q] at this; exact this.elim
    have fin : ∀ {g : Frame}, g = { fr with mode := .returning } → FrIs E g f nt ds kind none := fun q => by subst q; exact ⟨hfr.fn, hfr.kind, hfr.nt, hfr.ds, hfr.round⟩
    rcases hj with ⟨rfl, hq⟩ | ⟨l, rfl, hq⟩ | ⟨id, l, rfl, hq, hx⟩
    · exact .inl ⟨_, _, _, _, _, _, _, _, E, [], Z, .one (m_end hm h0 hq), ⟨st, ⟨_, _, _, _, _, _, _, _, rfl, fin rfl, .unw _ rfl ht⟩, hstk, fun x hx => by simp at hx⟩, e⟩
    · exact .inl ⟨_, _, _, _, _, _, _, _, E, [], Z, .one (m_ret hm h0 hq), ⟨st, ⟨_, _, _, _, _, _, _, _, rfl, fin rfl, .unw _ rfl ht⟩, hstk, fun x hx => by simp at hx⟩, e⟩
    · simp only at e; rw [hres] at e; cases e
  · rename_i l
    split at e
    · split at e
      · rename_i lp hl
        obtain ⟨r, hr0, hr1⟩ : ∃ r, fr.roundOf = some r ∧ E.at_ l = some r := by
          have := hfr.round
          cases q : fr.roundOf with
          | none => rw [q] at this; exact this.elim
          | some r => rw [q] at this; exact ⟨r, rfl, this⟩
        obtain ⟨lo, g1, lk⟩ := st.loop hr1 hl
        cases hstk with
        | call _ _ _ _ _ _ f1 nt1 ds1 k1 r1 ut1 ud1 up1 c rest z Z a1 a2 a3 a4 a5 =>
          have run := run_endRound (P := P) j g1
          have hst := turn_put st hr1 hl (by simp) (by simp) (ab := .loop (endA lp j)) (o := .loop { lo with state := if j.isNone then .ready else .done, pending := j }) ⟨_, rfl, endA_is j lk⟩
          have hext := Ext.turn st (.loop (endA lp j)) hr1
          have go : Go.step P (lone fr (c :: rest) w) = .next (lone (c.finish (.bool j.isNone)) rest (w.putObj r (.loop { lo with state := if j.isNone then .ready else .done, pending := j }))) := by
            rcases hj with ⟨rfl, hq⟩ | ⟨l, rfl, hq⟩ | ⟨id, l, rfl, hq, hx⟩
            · exact m_roundEnd hm hr0 hfr.kind hq run
            · exact m_roundRet hm hr0 hfr.kind hq run
            · exact m_roundExit hm hr0 hfr.kind hq hx run
          refine Good.head (.one go) ?_
          exact giveUp_call hst (.b _) (a1.le hext.le) a2 (a3.lat (hext.lat z) (fun _ q => q)) (a4.lat (hext.lat Z)) (fun x hx => ⟨(a5 x hx).1, Nat.lt_of_lt_of_le (a5 x hx).2.1 hext.nle, (hext.pend x (a5 x hx).2.1 (a5 x hx).2.2).1⟩) e
      · rw [hres] at e; cases e
    · rw [hres] at e; cases e
end Go.Ev
