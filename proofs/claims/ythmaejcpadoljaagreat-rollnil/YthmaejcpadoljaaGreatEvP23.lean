/- A certified evaluator of closed calls, part P23. -/
import Derived.Test.YthmaejcpadoljaaGreatEvP22
namespace Go.Ev
open Go Go.RowKit
set_option linter.unusedVariables false
set_option linter.unusedSimpArgs false
variable {P : Program} {I : FuncId → List AV → Option AV} {w0 : World} {E : Env} {h : T AB} {nx : Nat} {w : World} {f0 : Nat} {cs0 : List Frame}

/-! ### a value is what it was -/
theorem eq0_eq {a b : AV} (e : eq0 a b = true) : a = b := by
  unfold eq0 at e
  split at e <;> first
    | (cases e; done)
    | (split at e)
  all_goals first
    | (cases e; done)
    | (try simp only [Bool.and_eq_true, beq_iff_eq] at e
       first
        | rfl
        | (subst e; rfl)
        | (obtain ⟨rfl, q⟩ := e; rw [eqI_eq q])
        | (rw [bytesEq_eq e])
        | (rw [beq_eq e])
        | (obtain ⟨q1, q2⟩ := e; rw [beq_eq q1, beq_eq q2])
        | (obtain ⟨⟨⟨⟨q1, q2⟩, q3⟩, q4⟩, q5⟩ := e; rw [beq_eq q1, beq_eq q2, beq_eq q3, beq_eq q4, q5]))
theorem eqIf_eq {a b : AV} (e : eqIf a b = true) : a = b := by
  unfold eqIf at e
  split at e
  · split at e
    · simp only [Bool.and_eq_true] at e
      rw [beq_eq e.1, eq0_eq e.2]
    · cases e
  · exact eq0_eq e
theorem eqL_eq : ∀ {a b : List AV}, eqL a b = true → a = b
  | [], [], _ => rfl
  | [], _ :: _, e => by simp [eqL] at e
  | _ :: _, [], e => by simp [eqL] at e
  | x :: a, y :: b, e => by
    simp only [eqL, Bool.and_eq_true] at e
    rw [eqIf_eq e.1, eqL_eq e.2]
theorem eqAV_eq {a b : AV} (e : eqAV a b = true) : a = b := by
  unfold eqAV at e
  split at e
  · split at e
    · rw [eqL_eq e]
    · cases e
  · split at e
    · rw [eqL_eq e]
    · cases e
  · exact eqIf_eq e
theorem same_has {ops : Array Oper} {i : Nat} {v : AV} {t : T AV} (e : same (pdst (dstAt ops i)) v t = true) : hasDst ops i v t := by
  intro d hd
  rw [hd] at e
  unfold same at e
  simp only [pdst] at e
  split at e
  · rename_i u hu; have := eqAV_eq e; subst this; exact hu
  · cases e

/-! ### those that were told of run -/
theorem run1 {nt : Nat} {ops : Array Oper} {Q L V : List Nat} {bo : Nat → Nat} {t : T AV} {dn r : List Nat} {fr : Frame} {cs : List Frame} {l : List Item} {j : Nat} {Z : List Nat} (st : St P w0 E h nx w) (d : Dr P I E h nx nt ops Q L V bo t fr.tmps dn (j :: r)) (hn : nt ≤ fr.tmps.size)
    (hm : fr.mode = .run) (hq : fr.todo = .inRegion ops (j :: r) :: l) (hV : j ∈ V) (hZ : Fresh (pends P I nt ops V (j :: r) bo) Z nx E) :
    ∃ x E' w', Steps P (lone fr cs w) (lone (fr.finish x) cs w') ∧ St P w0 E' h nx w' ∧ Lat Z E h nx E' h nx ∧ Dr P I E' h nx nt ops Q L V bo t (putV (dstAt ops j) x fr.tmps) (dn ++ [j]) r ∧ Fresh (pends P I nt ops V r bo) Z nx E' := by
  obtain ⟨ti, ha, hv⟩ := d.ver j hV (by simp)
  have hj : j < ops.size := d.rlt (by simp)
  obtain ⟨o, ho⟩ : ∃ o, ops[j]? = some o := ⟨ops[j], by simp [hj]⟩
  have hsee : ∀ k ∈ looksAt ops j, ∀ v, ti.get k = some v → ∃ y, fr.tmps[k]? = some y ∧ Is E v y := fun k hk v e => by rw [ha k hk] at e; exact d.see k hk v e
  have hsub : Fresh (pends P I nt ops V r bo) Z nx E := hZ.sub (pends_sub (fun _ q => q) (fun _ q => by simp [q]))
  have hQ := d.VQ j hV
  have hjr : j ∉ r := (List.nodup_cons.1 (List.nodup_append.1 d.nodup).2.1).1
  rcases hv with ⟨hg, hv⟩ | ⟨hg, hv⟩
  · rcases coAt_cases (P := P) (I := I) (nt := nt) ho with ⟨c1, c2⟩ | ⟨c1, c2, c3, c4⟩
    · rw [c2] at hg; simp [guardOk] at hg
    · have hw := guard_is (P := P) (I := I) (nt := nt) ho hsee (.inr rfl) hg
      exact ⟨undef, E, w, .one (m_unwanted hm hq ho hw), st, .refl _ _ _ _, d.ran hQ (.refl E) (fun i a b => d.ver i a (by simp [b])) hv .undef c1 hn, hsub⟩
  · rcases coAt_cases (P := P) (I := I) (nt := nt) ho with ⟨c1, c2⟩ | ⟨c1, c2, c3, c4⟩
    · rw [c1] at hv; exact hv.elim
    have hw : (coAt P I nt ops j).op ≠ .bad → Region.wanted o (yielded ops fr.tmps) = true := fun q => guard_is (P := P) (I := I) (nt := nt) ho hsee (.inl q) hg
    have hov : OvR E ti fr.eval o.op.operands.toList := ovr_at st.gl ho hsee
    have nd : ∀ {c : COp}, cop P I o = c → (∀ f, c ≠ .cl f) → c ≠ .bad → ∀ l c, fr.roundOf = some l → o.op ≠ .defer c := by
      intro c hc h1 h2 l cc _ q
      rcases cop_defer (P := P) (I := I) q with ⟨f, hf, _⟩ | hb
      · exact h1 f (hc.symm.trans hf)
      · exact h2 (hc.symm.trans hb)
    split at hv
    · rename_i fp hf
      rw [hf] at hw c3
      obtain ⟨v, hv, hd⟩ := hv
      obtain ⟨x, x1, x2⟩ := cop_pure c3.symm E ti fr.eval v st.flat hov hv w
      exact ⟨x, E, w, .one (m_value (g_oper (P := P) (w := w) (cs := cs) hm hq ho (hw (by simp)) (nd c3.symm (by simp) (by simp))) x1), st, .refl _ _ _ _, d.ran hQ (.refl E) (fun i a b => d.ver i a (by simp [b])) hd x2 c1 hn, hsub⟩
    · rename_i fp hf
      rw [hf] at hw c3
      obtain ⟨h0, v, hv, hd, hs⟩ := hv
      obtain ⟨x, x1, x2⟩ := cop_read c3.symm w0 E h0 nx w ti fr.eval v (st.sub hs) hov hv
      exact ⟨x, E, w, .one (m_value (g_oper (P := P) (w := w) (cs := cs) hm hq ho (hw (by simp)) (nd c3.symm (by simp) (by simp))) x1), st, .refl _ _ _ _, d.ran hQ (.refl E) (fun i a b => d.ver i a (by simp [b])) hd x2 c1 hn, hsub⟩
    · rename_i fp hf
      have hfr : isFrC (coAt P I nt ops j) = true := by simp [isFrC, hf]
      rw [hf] at hw c3
      obtain ⟨ab, v, hv, hd, h3, h4, h5⟩ := hv
      obtain ⟨ob, x, x1, x2, x3, x4⟩ := cop_fresh c3.symm E ti fr.eval (bo j) ab v st.flat hov hv h3 w
      have hle := E.upd_le w.heap.size 0 h3
      have hst := st.fresh ob ab 0 (bo j) h3 (Nat.le_refl _) h4 h5 (h' := h) (fun k cb q => .inr q) x3
      have hlat : ∀ Z' : List Nat, bo j ∉ Z' → Lat Z' E h nx (E.upd (bo j) w.heap.size 0) h nx := fun Z' hb => ⟨hle, Nat.le_refl _, fun b hz _ q => ⟨by
        have : b ≠ bo j := fun x => hb (x ▸ hz)
        simp only [Env.upd, this, if_false]; exact q, fun _ q => q⟩⟩
      have hbj : bo j ∈ pends P I nt ops V (j :: r) bo := mem_pends hV (by simp) hfr
      have hbr : bo j ∉ pends P I nt ops V r bo := fun q => by
        obtain ⟨i, a, b, c, e⟩ := pends_mem q
        have := d.bo i a j hV (by simp [b]) (by simp) c hfr e
        exact hjr (this ▸ b)
      refine ⟨x, _, _, .one (m_value (g_oper (P := P) (w := w) (cs := cs) hm hq ho (hw (by simp)) (nd c3.symm (by simp) (by simp))) x1), hst, hlat Z (hZ _ hbj).1, d.ran hQ hle (fun i a b => (d.ver i a (by simp [b])).lat (hlat _ hbr) (fun c => mem_pends a b c) (.inr fun _ _ q => q)) hd x4 c1 hn, fun x hx => ?_⟩
      obtain ⟨k1, k2, k3⟩ := hsub x hx
      refine ⟨k1, k2, ?_⟩
      have : x ≠ bo j := fun e => hbr (e ▸ hx)
      simp only [Env.upd, this, if_false]; exact k3
    · exact hv.elim
theorem run_pre {nt : Nat} {ops : Array Oper} {Q L V : List Nat} {bo : Nat → Nat} {t : T AV} {rest : List Nat} {cs : List Frame} {l : List Item} {Z : List Nat} :
    ∀ (pre : List Nat) (dn : List Nat) (fr : Frame) (E : Env) (w : World), (∀ j ∈ pre, j ∈ V) → St P w0 E h nx w → Dr P I E h nx nt ops Q L V bo t fr.tmps dn (pre ++ rest) → nt ≤ fr.tmps.size → fr.mode = .run → fr.todo = .inRegion ops (pre ++ rest) :: l → Fresh (pends P I nt ops V (pre ++ rest) bo) Z nx E →
    ∃ fr' E' w', Steps P (lone fr cs w) (lone fr' cs w') ∧ St P w0 E' h nx w' ∧ Lat Z E h nx E' h nx ∧ Fin fr fr' ∧ fr'.mode = .run ∧ fr'.todo = .inRegion ops rest :: l ∧ Dr P I E' h nx nt ops Q L V bo t fr'.tmps (dn ++ pre) rest ∧ Fresh (pends P I nt ops V rest bo) Z nx E'
  | [], dn, fr, E, w, _, st, d, hn, hm, hq, hZ => ⟨fr, E, w, Steps.refl (P := P) _, st, .refl _ _ _ _, .refl _, hm, hq, by simpa using d, hZ⟩
  | j :: pre, dn, fr, E, w, hV, st, d, hn, hm, hq, hZ => by
    obtain ⟨x, E1, w1, s1, st1, l1, d1, z1⟩ := run1 (cs := cs) st d hn hm hq (hV j (by simp)) hZ
    have hf := finish_region hq x
    have d1' : Dr P I E1 h nx nt ops Q L V bo t (fr.finish x).tmps (dn ++ [j]) (pre ++ rest) := by rw [hf]; exact d1
    obtain ⟨fr', E', w', s2, st2, l2, fin2, m2, q2, d2, z2⟩ := run_pre pre (dn ++ [j]) (fr.finish x) E1 w1 (fun i q => hV i (by simp [q])) st1 d1' (by rw [hf]; simpa [putV_size] using hn) (by rw [hf]; exact hm) (by rw [hf]; rfl) z1
    exact ⟨fr', E', w', s1.trans s2, st2, l1.trans l2, (fin_region hq x).trans fin2, m2, q2, by simpa using d2, z2⟩
end Go.Ev
