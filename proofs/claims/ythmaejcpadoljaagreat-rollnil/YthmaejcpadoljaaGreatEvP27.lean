/- A certified evaluator of closed calls, part P27. -/
import Derived.Test.YthmaejcpadoljaaGreatEvP26
namespace Go.Ev
open Go Go.RowKit
set_option linter.unusedVariables false
set_option linter.unusedSimpArgs false
variable {P : Program} {I : FuncId → List AV → Option AV} {w0 : World} {E : Env} {h : T AB} {nx : Nat} {w : World} {f0 : Nat} {cs0 : List Frame}

theorem cos_eq {nt : Nat} {ops : Array Oper} : cos P I nt ops ops.toList = (List.range ops.size).map (coAt P I nt ops) := by
  have h1 : ∀ l : List Oper, cos P I nt ops l = l.map (co P I nt ops) := by
    intro l
    induction l with
    | nil => rfl
    | cons o l ih => simp only [cos, List.map_cons, ih]
  rw [h1]
  apply List.ext_getElem?
  intro i
  simp only [List.getElem?_map]
  by_cases hi : i < ops.size
  · simp [hi, coAt]
  · simp [hi]
section
variable {K : K} {res : R} {v' : AV} {h' : T AB} {nx' : Nat} {F : Fr} {f nt : Nat} {ds : List ADef} {kind : CallKind} {round : Option Nat} {ut : T AV} {utodo : List AItem} {up : Fr} {t : T AV} {fr : Frame} {cs : List Frame} {k : List AItem} {l : List Item} {Z : List Nat}
theorem begin_ok (hres : res = .done v' h' nx') (hF : F = .mk f nt ds kind round ut utodo up) (st : St P w0 E h nx w) (hfr : FrIs E fr f nt ds kind round) (hstk : Stk P I E h nx f0 cs0 F cs Z) (hm : fr.mode = .run) (ht : TR E t fr.tmps)
    (hk : KIs k l) (hq : fr.todo = .beginRound :: l) (e : beginA K F t k h nx = res) : Good P I w0 f0 cs0 K res (lone fr cs w) := by
  subst hF
  unfold beginA at e
  split at e
  · rename_i f1 nt1 ds1 kind1 b ut1 ud1 up1 hF
    cases hF
    split at e
    · rename_i lp hl
      split at e
      · rename_i hs
        obtain ⟨r, hr0, hr1⟩ : ∃ r, fr.roundOf = some r ∧ E.at_ b = some r := by
          have := hfr.round
          cases q : fr.roundOf with
          | none => rw [q] at this; exact this.elim
          | some r => rw [q] at this; exact ⟨r, rfl, this⟩
        obtain ⟨lo, g1, lk⟩ := st.loop hr1 hl
        have hs' : lo.state = .ready := lk.1.trans hs
        have run := run_beginRound (P := P) g1 hs'
        have hst := turn_put st hr1 hl (by simp) (by simp) (ab := .loop { lp with state := .busy }) (o := .loop { lo with state := .busy }) ⟨_, rfl, rfl, lk.2⟩
        have hext := Ext.turn st (.loop { lp with state := .busy }) hr1
        exact .inl ⟨_, _, _, _, _, _, _, _, E, [], Z, .one (m_begin hm hr0 hq run), ⟨hst, ⟨_, _, _, _, _, _, _, _, rfl, ⟨hfr.fn, hfr.kind, hfr.nt, hfr.ds, hfr.round⟩, .plain _ hm ht hk⟩, hstk.lat (hext.lat Z), fun x hx => by simp at hx⟩, e⟩
      · rw [hres] at e; cases e
    · rw [hres] at e; cases e
  · rw [hres] at e; cases e
theorem endRF_ok (hres : res = .done v' h' nx') (hF : F = .mk f nt ds kind round ut utodo up) (st : St P w0 E h nx w) (hfr : FrIs E fr f nt ds kind round) (hstk : Stk P I E h nx f0 cs0 F cs Z) (hm : fr.mode = .run) (ht : TR E t fr.tmps)
    (hk : KIs k l) {a r : Nat} (ha : E.at_ a = some r) (hq : fr.todo = .endRangeFunc r :: l) (e : endRFA K F t a k h nx = res) : Good P I w0 f0 cs0 K res (lone fr cs w) := by
  subst hF
  unfold endRFA at e
  split at e
  · rename_i lp hl
    obtain ⟨lo, g1, lk⟩ := st.loop ha hl
    have main : lo.state ≠ .busy → K (.mk f nt ds kind round ut utodo up) t (jumpTo lp.pending k) (h.set a (.loop { lp with state := .exhausted })) nx = res → Good P I w0 f0 cs0 K res (lone fr cs w) := by
      intro hb e
      have run := run_endLoop (P := P) g1 hb
      have hst := turn_put st ha hl (by simp) (by simp) (ab := .loop { lp with state := .exhausted }) (o := .loop { lo with state := .exhausted }) ⟨_, rfl, rfl, lk.2⟩
      have hext := Ext.turn st (.loop { lp with state := .exhausted }) ha
      refine .inl ⟨_, _, _, _, _, _, _, _, E, [], Z, .one (m_endRF hm hq run), ⟨hst, ⟨_, _, _, _, _, _, _, _, rfl, ⟨hfr.fn, hfr.kind, hfr.nt, hfr.ds, hfr.round⟩, .plain _ hm ht ?_⟩, hstk.lat (hext.lat Z), fun x hx => by simp at hx⟩, e⟩
      rw [lk.2.1]
      cases lp.pending with
      | none => exact hk
      | some j => exact .code _ _ _ hk
    split at e
    · rename_i hs; exact main (by rw [lk.1, hs]; simp) e
    · rename_i hs; exact main (by rw [lk.1, hs]; simp) e
    · rw [hres] at e; cases e
  · rw [hres] at e; cases e
theorem rf_ok (hI : KnownOk P I) (hres : res = .done v' h' nx') (hF : F = .mk f nt ds kind round ut utodo up) (st : St P w0 E h nx w) (hfr : FrIs E fr f nt ds kind round) (hstk : Stk P I E h nx f0 cs0 F cs Z) (hm : fr.mode = .run) (ht : TR E t fr.tmps)
    (hk : KIs k l) {fo : Operand} {ps : Array Tmp} {a b : Code} (hq : fr.todo = .code (.rangeFunc fo ps a b) :: l) (e : rfA P I K F t ((opn fo).ev t) ps a b k h nx = res) : Good P I w0 f0 cs0 K res (lone fr cs w) := by
  subst hF
  unfold rfA at e
  simp only at e
  split at e
  · rename_i g first cap hfo
    have hfi := opn_is st.gl (fun k v _ q => ht k v q) hfo
    obtain ⟨g', vs, ws, h1, h2, h3, h4⟩ := is_fn hfi
    -- the call
    have call : ∀ (E' : Env) (h2' : T AB) (n2 b2 r2 : Nat) (w2 : World) (fr' : Frame), E.le E' → St P w0 E' h2' n2 w2 → E'.at_ b2 = some r2 → fr'.eval fo = fr.eval fo → ∀ r' h'' nx'', invokeA P I h2' n2 g cap (first ++ [.fn (.yield b2) [] []]) = some (r', h'', nx'') →
        h'' = h2' ∧ nx'' = n2 ∧ ∃ n, (do let d ← resolve fr'.eval { callee := .value fo, args := #[.const (.func (.yield r2) #[] #[])], argTypes := #[] } 0; invoke d.target d.args).run P w2 = .ok n w2 ∧ NextIs E' r' n := by
      intro E' h2' n2 b2 r2 w2 fr' hle st2 hb hev r' h'' nx'' q
      have hyl : Is E' (.fn (.yield b2) [] []) (.func (.yield r2) (([] : List Value)).toArray (([] : List Value)).toArray) := .fn _ _ _ _ [] [] ⟨r2, hb, rfl⟩ .nil .nil
      have h2e : IsF E' g g' := by
        have : Is E' (.fn g first cap) (fr.eval fo) := hfi.le hle
        rw [h1] at this
        obtain ⟨g2, vs2, ws2, e1, e2, _, _⟩ := is_fn this
        cases e1
        exact e2
      obtain ⟨q1, q2, n, n1, n2'⟩ := invokeA_ok (w := w2) hI st2 h2e (h4.le hle) ((h3.le hle).app (.cons _ _ _ _ hyl .nil)) q
      refine ⟨q1, q2, n, ?_, n2'⟩
      have : vs.toArray ++ (#[Operand.const (.func (.yield r2) #[] #[])]).map fr'.eval = (vs ++ [Value.func (.yield r2) (([] : List Value)).toArray (([] : List Value)).toArray]).toArray := Array.ext' (by simp [Frame.eval])
      simp only [resolve, hev, h1, Deferred.ofValue, Sem.run_bind, Sem.run_pure, Result.andThen_ok, this]
      exact n1
    split at e
    · rename_i b0
      split at e
      · rename_i lp hl
        obtain ⟨r, hr0, hr1⟩ : ∃ r, fr.roundOf = some r ∧ E.at_ b0 = some r := by
          have := hfr.round
          cases q : fr.roundOf with
          | none => rw [q] at this; exact this.elim
          | some r => rw [q] at this; exact ⟨r, rfl, this⟩
        obtain ⟨lo, g1, lk⟩ := st.loop hr1 hl
        have he := run_enterLoop_inner (P := P) g1 fr.fn fr.tmps ps a b
        rw [← hr0] at he
        have hle := E.upd_le w.heap.size 0 (st.new nx (Nat.le_refl _))
        obtain ⟨s1, s2⟩ := st.alloc (.loop { state := .ready, pending := none, fn := fr.fn, tmps := fr.tmps, params := ps, assign := a, body := b, defers := lo.defers }) (.loop { state := .ready, pending := none, fn := f, tmps := t, nt := nt, params := ps, assign := a, body := b, defers := lp.defers }) 0
          ⟨_, rfl, rfl, rfl, hfr.fn, rfl, rfl, rfl, hfr.nt, ht.le hle, hle.at_ _ _ lk.2.2.2.2.2.2.2.2⟩
        refine after_ok (z := []) (z' := []) (fr := { fr with todo := .inRangeFunc w.heap.size :: l, defers := [] ++ fr.defers }) hres s1 ⟨hfr.fn, hfr.kind, hfr.nt, hfr.ds.le hle, hfr.round.le hle⟩ (hstk.lat (s2.lat Z)) hm
          (fun g' cs' w' q => step_lone_go ((g_rangeFunc hm hq he).trans q)) (fun r' h'' nx'' q => call _ _ _ nx _ _ _ hle s1 (by simp) rfl r' h'' nx'' q) (by simp) (.inRF nx _ k l (ht.le hle) hk (by simp)) (fun x hx => by simp at hx) ?_ (fun x hx => by simp at hx) e
        intro v x gf hv gm gt gq
        have hfin := fin_inRF gq x
        rw [hfin]
        exact ⟨.endRF nx _ k l gm (by show TR _ _ gf.tmps; rw [gt]; exact ht.le hle) hk (by simp) rfl, ⟨rfl, rfl, rfl, rfl, rfl⟩⟩
      · rw [hres] at e; cases e
    · have h0 : fr.roundOf = none := by
        have := hfr.round
        cases q : fr.roundOf with
        | none => rfl
        | some r => rw [q] at this; exact this.elim
      have he := run_enterLoop_outer (P := P) (w := w) fr.fn fr.tmps ps a b
      rw [← h0] at he
      have hle1 := E.upd_le w.heap.size 0 (st.new nx (Nat.le_refl _))
      obtain ⟨s1, s2⟩ := st.alloc (.deferred (some [])) (.defr []) 0 ⟨_, rfl, .nil⟩
      have hle2 := (E.upd nx w.heap.size 0).upd_le (w.alloc (.deferred (some []))).heap.size 0 (s1.new (Nat.succ nx) (Nat.le_refl _))
      have hle := hle1.trans hle2
      obtain ⟨s3, s4⟩ := s1.alloc (.loop { state := .ready, pending := none, fn := fr.fn, tmps := fr.tmps, params := ps, assign := a, body := b, defers := w.heap.size }) (.loop { state := .ready, pending := none, fn := f, tmps := t, nt := nt, params := ps, assign := a, body := b, defers := nx }) 0
        ⟨_, rfl, rfl, rfl, hfr.fn, rfl, rfl, rfl, hfr.nt, ht.le hle, hle2.at_ _ _ (by simp)⟩
      have hsz : (w.alloc (.deferred (some []))).heap.size = w.heap.size + 1 := World.size_alloc ..
      refine after_ok (z := []) (z' := []) (fr := { fr with todo := .inRangeFunc (w.heap.size + 1) :: l, defers := [{ target := .collected w.heap.size, args := #[] }] ++ fr.defers }) hres s3
        ⟨hfr.fn, hfr.kind, hfr.nt, .cons ⟨.collected nx, []⟩ _ _ _ (show DIs _ ⟨.collected nx, []⟩ _ from ⟨w.heap.size, hle2.at_ _ _ (by simp), rfl⟩) (hfr.ds.le hle), hfr.round.le hle⟩ ((hstk.lat ((s2.trans s4).lat Z)).defs) hm
        (fun g' cs' w' q => step_lone_go ((g_rangeFunc hm hq he).trans q)) (fun r' h'' nx'' q => call _ _ _ (Nat.succ nx) (w.heap.size + 1) _ _ hle s3 (by simp [hsz]) rfl r' h'' nx'' q) (by simp) (.inRF (Nat.succ nx) _ k l (ht.le hle) hk (by simp [hsz])) (fun x hx => by simp at hx) ?_ (fun x hx => by simp at hx) e
      intro v x gf hv gm gt gq
      have hfin := fin_inRF gq x
      rw [hfin]
      exact ⟨.endRF (Nat.succ nx) _ k l gm (by show TR _ _ gf.tmps; rw [gt]; exact ht.le hle) hk (by simp [hsz]) rfl, ⟨rfl, rfl, rfl, rfl, rfl⟩⟩
  · rw [hres] at e; cases e
end
end Go.Ev
