/- A certified evaluator of closed calls, part P20. -/
import Derived.Test.YthmaejcpadoljaaGreatEvP19
namespace Go.Ev
open Go Go.RowKit
set_option linter.unusedVariables false
set_option linter.unusedSimpArgs false
variable {P : Program} {I : FuncId → List AV → Option AV} {w0 : World} {E : Env} {h : T AB} {nx : Nat} {w : World} {f0 : Nat} {cs0 : List Frame}

/-- what a frame's end of an operation leaves as it was -/
structure Fin (fr g : Frame) : Prop where
  fn : g.fn = fr.fn
  kind : g.kind = fr.kind
  size : g.tmps.size = fr.tmps.size
  ds : g.defers = fr.defers
  round : g.roundOf = fr.roundOf
theorem fin_region {fr : Frame} {ops : Array Oper} {i : Nat} {rest : List Nat} {k : List Item} (ht : fr.todo = .inRegion ops (i :: rest) :: k) (v : Value) : Fin fr (fr.finish v) := by
  rw [finish_region ht]; exact ⟨rfl, rfl, putV_size, rfl, rfl⟩
theorem fin_inRF {fr : Frame} {r : Nat} {k : List Item} (ht : fr.todo = .inRangeFunc r :: k) (v : Value) : fr.finish v = { fr with todo := .endRangeFunc r :: k } := by
  unfold Frame.finish; rw [ht]
theorem FrIs.fin {fr g : Frame} {f nt : Nat} {ds : List ADef} {kind : CallKind} {round : Option Nat} (a : Fin fr g) (q : FrIs E fr f nt ds kind round) : FrIs E g f nt ds kind round :=
  ⟨a.fn.trans q.fn, a.kind.trans q.kind, by rw [a.size]; exact q.nt, by rw [a.ds]; exact q.ds, by rw [a.round]; exact q.round⟩
def Fresh (z Z : List Nat) (nx : Nat) (E : Env) : Prop := ∀ x ∈ z, x ∉ Z ∧ x < nx ∧ E.at_ x = none

theorem after_ok {K : K} {f nt : Nat} {ds : List ADef} {kind : CallKind} {round : Option Nat} {ut : T AV} {utodo : List AItem} {up : Fr} {t : T AV} {d : Option (List Bool)} {wait done : List AItem} {r : Option (ANext × T AB × Nat)} {res : R} {v' : AV} {h' : T AB} {nx' : Nat}
    {fr : Frame} {cs : List Frame} {s : Sem Next} {m0 : Machine} {z z' Z : List Nat}
    (hres : res = .done v' h' nx') (st : St P w0 E h nx w) (hfr : FrIs E fr f nt ds kind round) (hstk : Stk P I E h nx f0 cs0 (.mk f nt ds kind round ut utodo up) cs Z) (hm : fr.mode = .run)
    (hg : Ap P m0 fr cs s w)
    (hrun : ∀ r' h'' nx'', r = some (r', h'', nx'') → h'' = h ∧ nx'' = nx ∧ ∃ n, s.run P w = .ok n w ∧ NextIs E r' n) (hnc : ∀ d r s l, fr.todo ≠ .call d true r s :: l)
    (hW : Wt P I E h nx nt t fr.tmps wait fr.todo z) (hz : Fresh z Z nx E)
    (hD : ∀ v x (g : Frame), Is E v x → g.mode = .run → g.tmps = fr.tmps → g.todo = fr.todo → Td P I E h nx nt (put d v t) (g.finish x) done z' ∧ Fin g (g.finish x)) (hz' : Fresh z' Z nx E)
    (e : after P K (.mk f nt ds kind round ut utodo up) t d wait done r = res) : Good P I w0 f0 cs0 K res m0 := by
  unfold after at e
  split at e
  · obtain ⟨rfl, rfl, n, n1, x, rfl, n2⟩ := hrun _ _ _ rfl
    obtain ⟨k1, k2⟩ := hD _ x fr n2 hm rfl rfl
    exact .inl ⟨_, _, _, _, _, _, _, _, E, z', Z, .one (hg _ _ _ (ap_value n1)), ⟨st, ⟨f, nt, ds, kind, round, ut, utodo, up, rfl, hfr.fin k2, k1⟩, hstk, hz'⟩, e⟩
  · obtain ⟨rfl, rfl, n, n1, vs, rfl, n2⟩ := hrun _ _ _ rfl
    obtain ⟨fn, c, q1, q2, q3⟩ := enter_ok hres e
    obtain ⟨k1, k2⟩ := entered q1 q2 n2 .normal _ _
    exact .inl ⟨_, _, _, _, _, _, _, _, E, [], z ++ Z, .one (hg _ _ _ (ap_enter n1 hnc)), ⟨st, ⟨_, _, _, _, _, _, _, _, rfl, k1, k2⟩, .call _ _ _ _ _ _ _ _ _ _ _ _ _ _ _ _ _ _ hfr hm hW hstk hz, fun x hx => by simp at hx⟩, q3⟩
  · obtain ⟨rfl, rfl, n, n1, rl, ts, rfl, n2, n3, n4⟩ := hrun _ _ _ rfl
    refine .inl ⟨_, _, _, _, _, _, _, _, E, [], z ++ Z, .one (hg _ _ _ (ap_round n1)), ⟨st, ⟨_, _, _, _, _, _, _, _, rfl, ⟨rfl, rfl, n3, .nil, (show RIs E (some _) (some _) from n2)⟩, .plain _ rfl n4 (.code _ _ _ (.begin _ _ (.code _ _ _ .nil)))⟩, .call _ _ _ _ _ _ _ _ _ _ _ _ _ _ _ _ _ _ hfr hm hW hstk hz, fun x hx => by simp at hx⟩, e⟩
  · obtain ⟨rfl, rfl, n, n1, dd, rfl, n2⟩ := hrun _ _ _ rfl
    split at e
    · rename_i f' n' ds' k' ut' ud' up' hF
      cases hF
      obtain ⟨k1, k2⟩ := hD .undef undef { fr with defers := dd :: fr.defers } .undef hm rfl rfl
      have hfr' : FrIs E { fr with defers := dd :: fr.defers } f nt (_ :: ds) kind none := ⟨hfr.fn, hfr.kind, hfr.nt, .cons _ _ _ _ n2 hfr.ds, hfr.round⟩
      refine .inl ⟨_, _, _, _, _, _, _, _, E, z', Z, .one (hg _ _ _ (ap_defer n1)), ⟨st, ⟨_, _, _, _, _, _, _, _, rfl, hfr'.fin k2, k1⟩, ?_, hz'⟩, e⟩
      cases hstk with
      | base => exact .base _ _ _ _
      | call _ _ _ _ _ _ _ _ _ _ _ _ _ _ _ _ _ _ a1 a2 a3 a4 a5 => exact .call _ _ _ _ _ _ _ _ _ _ _ _ _ _ _ _ _ _ a1 a2 a3 a4 a5
      | deferred _ _ _ _ _ _ _ _ _ _ _ _ _ _ _ a1 a2 a3 a4 => exact .deferred _ _ _ _ _ _ _ _ _ _ _ _ _ _ _ a1 a2 a3 a4
    · rw [hres] at e; cases e
  · obtain ⟨rfl, rfl, n, n1, n2⟩ := hrun _ _ _ rfl
    have n2' : n = .recover := n2
    subst n2'
    split at e
    · rename_i hF
      cases hF
      obtain ⟨k1, k2⟩ := hD .ni .nilIface fr .ni hm rfl rfl
      have h0 : fr.roundOf = none := by
        have := hfr.round
        cases q : fr.roundOf with
        | none => rfl
        | some r => rw [q] at this; exact this.elim
      have htr : tryRecover fr cs = none := by
        have hk := hfr.kind
        cases hstk with
        | deferred _ _ _ _ _ _ _ _ _ _ _ _ _ _ _ a1 a2 a3 a4 =>
          unfold tryRecover
          rw [hk]
          simp only [a2]
      exact .inl ⟨_, _, _, _, _, _, _, _, E, z', Z, .one (hg _ _ _ (ap_recover n1 h0 htr)), ⟨st, ⟨_, _, _, _, _, _, _, _, rfl, hfr.fin k2, k1⟩, hstk, hz'⟩, e⟩
    · rw [hres] at e; cases e
  · rw [hres] at e; cases e

/-! ### a region in order -/
theorem exec_ok (hI : KnownOk P I) {K : K} {f nt : Nat} {ds : List ADef} {kind : CallKind} {round : Option Nat} {ut : T AV} {utodo : List AItem} {up : Fr} {res : R} {v' : AV} {h' : T AB} {nx' : Nat} (hres : res = .done v' h' nx') {ops : Array Oper} {k : List AItem} {l : List Item} (hk : KIs k l) {cs : List Frame} {Z : List Nat} :
    ∀ (rest : List Nat) (E : Env) (t : T AV) (h : T AB) (nx : Nat) (w : World) (fr : Frame), (∀ j ∈ rest, j < ops.size) → St P w0 E h nx w → FrIs E fr f nt ds kind round → Stk P I E h nx f0 cs0 (.mk f nt ds kind round ut utodo up) cs Z → fr.mode = .run → TR E t fr.tmps → fr.todo = .inRegion ops rest :: l →
      exec P K (.mk f nt ds kind round ut utodo up) k (rest.map (coAt P I nt ops)) t h nx = res → Good P I w0 f0 cs0 K res (lone fr cs w)
  | [], E, t, h, nx, w, fr, _, st, hfr, hstk, hm, ht, hq, e => by
    refine .inl ⟨_, _, _, _, _, _, _, _, E, [], Z, .one (m_regionEnd hm hq), ⟨st, ⟨_, _, _, _, _, _, _, _, rfl, ⟨hfr.fn, hfr.kind, hfr.nt, hfr.ds, hfr.round⟩, .plain _ hm ht hk⟩, hstk, fun x hx => by simp at hx⟩, e⟩
  | i :: rest, E, t, h, nx, w, fr, hr, st, hfr, hstk, hm, ht, hq, e => by
    have hi := hr i (by simp)
    obtain ⟨o, ho⟩ : ∃ o, ops[i]? = some o := ⟨ops[i], by simp [hi]⟩
    have hr' : ∀ j ∈ rest, j < ops.size := fun j hj => hr j (by simp [hj])
    simp only [List.map_cons, exec] at e
    have next : ∀ (E' : Env) (v : AV) (x : Value) (h1 : T AB) (nx1 : Nat) (w1 : World), Steps P (lone fr cs w) (lone (fr.finish x) cs w1) → St P w0 E' h1 nx1 w1 → Ext E h nx E' h1 nx1 → Is E' v x → okDst nt (dstAt ops i) = true →
        exec P K (.mk f nt ds kind round ut utodo up) k (rest.map (coAt P I nt ops)) (put (pdst (dstAt ops i)) v t) h1 nx1 = res → Good P I w0 f0 cs0 K res (lone fr cs w) := by
      intro E' v x h1 nx1 w1 hs st1 ex hv hd e1
      refine Good.head hs ?_
      refine exec_ok hI hres hk rest E' _ h1 nx1 w1 _ hr' st1 ((hfr.le ex.le).fin (fin_region hq x)) (hstk.lat (ex.lat Z)) (by rw [finish_region hq]; exact hm) ?_ (by rw [finish_region hq]) e1
      rw [finish_region hq]
      exact (ht.le ex.le).put hd hfr.nt hv
    unfold execG at e
    split at e
    · rw [hres] at e; cases e
    · rename_i hgd
      -- it is not wanted
      rcases coAt_cases (P := P) (I := I) (nt := nt) ho with ⟨c1, c2⟩ | ⟨c1, c2, c3, c4⟩
      · rw [c2] at hgd; simp [guardOk] at hgd
      · rw [c2] at e
        have hw := guard_is (P := P) (I := I) (nt := nt) ho (ts := fr.tmps) (fun k _ v q => ht k v q) (.inr rfl) hgd
        exact next E .undef undef h nx w (.one (m_unwanted hm hq ho hw)) st (.refl _ _ _) .undef c1 e
    · rename_i hgd
      unfold execC at e
      rcases coAt_cases (P := P) (I := I) (nt := nt) ho with ⟨c1, c2⟩ | ⟨c1, c2, c3, c4⟩
      · rw [c1] at e; simp only at e; rw [hres] at e; cases e
      · have hw : (coAt P I nt ops i).op ≠ .bad → Region.wanted o (yielded ops fr.tmps) = true := fun q => guard_is (P := P) (I := I) (nt := nt) ho (ts := fr.tmps) (fun k _ v q => ht k v q) (.inl q) hgd
        rw [c2] at e
        have hov : OvR E t fr.eval o.op.operands.toList := ovr_of st.gl ht _
        have nd : ∀ {c : COp}, cop P I o = c → (∀ f, c ≠ .cl f) → c ≠ .bad → ∀ l c, fr.roundOf = some l → o.op ≠ .defer c := by
          intro c hc h1 h2 l cc _ q
          rcases cop_defer (P := P) (I := I) q with ⟨f, hf, _⟩ | hb
          · exact h1 f (hc.symm.trans hf)
          · exact h2 (hc.symm.trans hb)
        split at e
        · rename_i fp hf
          rw [hf] at hw c3
          split at e
          · rename_i v hv
            obtain ⟨x, x1, x2⟩ := cop_pure c3.symm E t fr.eval v st.flat hov hv w
            exact next E v x h nx w (.one (m_value (g_oper (P := P) (w := w) (cs := cs) hm hq ho (hw (by simp)) (nd c3.symm (by simp) (by simp))) x1)) st (.refl _ _ _) x2 c1 e
          · rw [hres] at e; cases e
        · rename_i fp hf
          rw [hf] at hw c3
          split at e
          · rename_i v hv
            obtain ⟨x, x1, x2⟩ := cop_read c3.symm w0 E h nx w t fr.eval v st hov hv
            exact next E v x h nx w (.one (m_value (g_oper (P := P) (w := w) (cs := cs) hm hq ho (hw (by simp)) (nd c3.symm (by simp) (by simp))) x1)) st (.refl _ _ _) x2 c1 e
          · rw [hres] at e; cases e
        · rename_i fp hf
          rw [hf] at hw c3
          split at e
          · rename_i ab v hv
            obtain ⟨ob, x, x1, x2, x3, x4⟩ := cop_fresh c3.symm E t fr.eval nx ab v st.flat hov hv (st.new nx (Nat.le_refl _)) w
            obtain ⟨s1, s2⟩ := st.alloc ob ab 0 x3
            exact next _ v x _ _ _ (.one (m_value (g_oper (P := P) (w := w) (cs := cs) hm hq ho (hw (by simp)) (nd c3.symm (by simp) (by simp))) x1)) s1 s2 x4 c1 e
          · rw [hres] at e; cases e
        · rename_i fp hf
          rw [hf] at hw c3
          split at e
          · rename_i v h1 nx1 hv
            obtain ⟨E', w', n, r1, ⟨x, r2⟩, r3, r4⟩ := cop_state c3.symm w0 E h nx w t fr.eval v h1 nx1 st hov hv
            have gop := g_oper (P := P) (w := w) (cs := cs) hm hq ho (hw (by simp)) (nd c3.symm (by simp) (by simp))
            rcases r2 with ⟨rfl, r2⟩ | ⟨rfl, rfl⟩
            · exact next E' v x h1 nx1 w' (.one (m_value gop r1)) r3 r4 r2 c1 e
            · exact next E' .undef undef h1 nx1 w' (.one (m_skipOp gop r1)) r3 r4 .undef c1 e
          · rw [hres] at e; cases e
        · rename_i fp hf
          rw [hf] at hw c3
          have hround : ∀ l c, fr.roundOf = some l → o.op ≠ .defer c := by
            intro l' c hro q
            rcases cop_defer (P := P) (I := I) q with ⟨g, hg, hall⟩ | hb
            · have hfg : fp = g := by rw [hg] at c3; exact COp.cl.inj c3
              subst hfg
              cases hv : fp t h nx with
              | none => rw [hv] at e; unfold after at e; rw [hres] at e; cases e
              | some r =>
                obtain ⟨d, hd⟩ := hall t h nx r hv
                obtain ⟨r1, r2, r3⟩ := r
                simp only at hd; subst hd
                rw [hv] at e
                unfold after at e
                simp only at e
                split at e
                · rename_i hF
                  cases hF
                  have := hfr.round
                  rw [hro] at this; exact this
                · rw [hres] at e; cases e
            · rw [hb] at c3; cases c3
          refine after_ok (z := []) (z' := []) hres st hfr hstk hm (.of (g_oper (P := P) (w := w) (cs := cs) hm hq ho (hw (by simp)) hround)) ?_ (by rw [hq]; simp) (hq ▸ .wait ops i rest k l ht hk hi hr' c1) (fun x hx => by simp at hx) ?_ (fun x hx => by simp at hx) e
          · intro r' h1 nx1 q
            exact cop_call hI c3.symm w0 E h nx w t fr.eval r' h1 nx1 st hov q
          · intro v x g hv gm gt gq
            have gq' : g.todo = .inRegion ops (i :: rest) :: l := gq.trans hq
            refine ⟨?_, fin_region gq' x⟩
            rw [finish_region gq']
            exact .reg ops rest k l gm ((gt ▸ ht).put c1 (by rw [gt]; exact hfr.nt) hv) hk hr' rfl
        · rw [hres] at e; cases e
end Go.Ev
