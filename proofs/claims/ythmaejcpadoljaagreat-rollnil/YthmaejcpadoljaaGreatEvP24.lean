/- A certified evaluator of closed calls, part P24. -/
import Derived.Test.YthmaejcpadoljaaGreatEvP23
namespace Go.Ev
open Go Go.RowKit
set_option linter.unusedVariables false
set_option linter.unusedSimpArgs false
variable {P : Program} {I : FuncId → List AV → Option AV} {w0 : World} {E : Env} {h : T AB} {nx : Nat} {w : World} {f0 : Nat} {cs0 : List Frame}

theorem Stk.lt {F : Fr} {cs : List Frame} {Z : List Nat} (s : Stk P I E h nx f0 cs0 F cs Z) : ∀ x ∈ Z, x < nx := by
  induction s with
  | base nt ds ut utodo => intro x q; cases q
  | call f nt ds round ut utodo f' nt' ds' k' r' ut' ud' up' c rest z Z hf hm hw hs hz ih =>
    intro x q
    rcases List.mem_append.1 q with q | q
    · exact (hz x q).2.1
    · exact ih x q
  | deferred f nt ds ut k f' nt' ds' k' ut' ud' up' c rest Z hf hm ht hs ih => exact ih
theorem contains_mem {l : List Nat} {x : Nat} (e : l.contains x = true) : x ∈ l := by simpa using e
theorem not_contains {l : List Nat} {x : Nat} (e : l.contains x = false) : x ∉ l := by simpa using e
theorem depsIn_deps {ops : Array Oper} {i : Nat} {Q : List Nat} (e : depsIn ops i Q = true) : ∀ o, ops[i]? = some o → deps o Q := by
  intro o ho ed he hb
  unfold depsIn at e
  rw [ho] at e
  have := List.all_eq_true.1 e ed (Array.mem_toList_iff.2 he)
  rw [hb] at this
  simpa using this

theorem St.skip (s : St P w0 E h nx w) : St P w0 E h (Nat.succ nx) w :=
  ⟨s.below, fun b hb => s.new b (Nat.le_trans (Nat.le_succ _) hb), s.own, s.inj, s.obj, s.flat, s.gl, fun b hb => s.top b (Nat.le_trans (Nat.le_succ _) hb)⟩
theorem Ver.bo {nt : Nat} {ops : Array Oper} {bo : Nat → Nat} {t : T AV} {i j n : Nat} (hj : j ≠ i) (v : Ver P I E h nx nt ops bo t j) : Ver P I E h nx nt ops (fun j => if j = i then n else bo j) t j := by
  obtain ⟨ti, ha, hv⟩ := v
  refine ⟨ti, ha, ?_⟩
  simp only [hj, if_false]
  exact hv
theorem bo_inj {nt : Nat} {ops : Array Oper} {V rest : List Nat} {bo : Nat → Nat} {i n : Nat} (hne : ∀ j ∈ V, j ≠ i) (hbo : ∀ j, j ∈ V → j ∈ rest → isFrC (coAt P I nt ops j) = true → bo j < n)
    (hb : ∀ i ∈ V, ∀ j ∈ V, i ∈ rest → j ∈ rest → isFrC (coAt P I nt ops i) = true → isFrC (coAt P I nt ops j) = true → bo i = bo j → i = j) :
    ∀ i1 ∈ i :: V, ∀ j1 ∈ i :: V, i1 ∈ rest → j1 ∈ rest → isFrC (coAt P I nt ops i1) = true → isFrC (coAt P I nt ops j1) = true → (fun j => if j = i then n else bo j) i1 = (fun j => if j = i then n else bo j) j1 → i1 = j1 := by
  intro i1 a j1 b q1 q2 f1 f2 q
  have a' := List.mem_cons.1 a
  have b' := List.mem_cons.1 b
  by_cases x : i1 = i
  · by_cases y : j1 = i
    · rw [x, y]
    · have hb1 := hbo j1 (b'.resolve_left y) q2 f2
      simp only [x, y, if_true, if_false] at q; omega
  · by_cases y : j1 = i
    · have hb1 := hbo i1 (a'.resolve_left x) q1 f1
      simp only [x, y, if_true, if_false] at q; omega
    · simp only [x, y, if_false] at q
      exact hb i1 (a'.resolve_left x) j1 (b'.resolve_left y) q1 q2 f1 f2 q
theorem fresh_bo {nt : Nat} {ops : Array Oper} {V rest Z : List Nat} {bo : Nat → Nat} {i : Nat} (hn : E.at_ nx = none) (hlt : ∀ x ∈ Z, x < nx) (hZ : Fresh (pends P I nt ops V rest bo) Z nx E) :
    Fresh (pends P I nt ops (i :: V) rest (fun j => if j = i then nx else bo j)) Z (Nat.succ nx) E := by
  intro x hx
  obtain ⟨j, a, b, c, rfl⟩ := pends_mem hx
  by_cases hj : j = i
  · simp only [hj, if_true]
    exact ⟨fun q => absurd (hlt _ q) (Nat.lt_irrefl _), Nat.lt_succ_self _, hn⟩
  · simp only [hj, if_false]
    have a' := (List.mem_cons.1 a).resolve_left hj
    obtain ⟨k1, k2, k3⟩ := hZ _ (mem_pends a' b c)
    exact ⟨k1, Nat.lt_succ_of_lt k2, k3⟩
theorem execD_ok (hI : KnownOk P I) {K : K} {f nt : Nat} {ds : List ADef} {kind : CallKind} {round : Option Nat} {ut : T AV} {utodo : List AItem} {up : Fr} {res : R} {v' : AV} {h' : T AB} {nx' : Nat} (hres : res = .done v' h' nx') {ops : Array Oper} {k : List AItem} {l : List Item} (hk : KIs k l) {cs : List Frame} {Z : List Nat} :
    ∀ (ps : List PS) (Q L V : List Nat) (bo : Nat → Nat) (dn rest : List Nat) (E : Env) (t : T AV) (h : T AB) (nx : Nat) (w : World) (fr : Frame), St P w0 E h nx w → FrIs E fr f nt ds kind round → Stk P I E h nx f0 cs0 (.mk f nt ds kind round ut utodo up) cs Z → fr.mode = .run → Dr P I E h nx nt ops Q L V bo t fr.tmps dn rest →
      okPlan ops ops.size (coAt P I nt ops) Q L V ps = true → fr.todo = .inRegion ops rest :: l → Fresh (pends P I nt ops V rest bo) Z nx E →
      execD P K (.mk f nt ds kind round ut utodo up) k (dsOf (coAt P I nt ops) ps) t h nx = res → Good P I w0 f0 cs0 K res (lone fr cs w)
  | [], Q, L, V, bo, dn, rest, E, t, h, nx, w, fr, st, hfr, hstk, hm, d, hp, hq, hZ, e => by
    have hV : ∀ j ∈ rest, j ∈ V := fun j hj => by
      have := List.all_eq_true.1 hp j (List.mem_range.2 (d.rlt hj))
      simp only [Bool.or_eq_true] at this
      rcases this with q | q
      · exact contains_mem q
      · exact (d.apart (d.listed q) hj).elim
    obtain ⟨fr', E', w', s1, st1, l1, fin, m1, q1, d1, z1⟩ := run_pre (cs := cs) (l := l) (Z := Z) (rest := []) rest dn fr E w hV st (by simpa using d) hfr.nt hm (by simpa using hq) (by simpa using hZ)
    have ht : TR E' t fr'.tmps := fun k v q => d1.tr k v q (fun i hi => by cases hi)
    refine .inl ⟨_, _, _, _, _, _, _, _, E', [], Z, s1.trans (.one (m_regionEnd m1 q1)), ⟨st1, ⟨_, _, _, _, _, _, _, _, rfl, ?_, .plain _ m1 ht hk⟩, hstk.lat l1, fun x hx => by simp at hx⟩, e⟩
    have := (hfr.le l1.le).fin fin
    exact ⟨this.fn, this.kind, this.nt, this.ds, this.round⟩
  | .q i :: ps, Q, L, V, bo, dn, rest, E, t, h, nx, w, fr, st, hfr, hstk, hm, d, hp, hq, hZ, e => by
    simp only [okPlan, Bool.and_eq_true, Bool.not_eq_true'] at hp
    obtain ⟨⟨⟨⟨⟨p1, p2⟩, p3⟩, p4⟩, p5⟩, p6⟩ := hp
    have hQ := not_contains p1
    have hi : i < ops.size := ble_le p2
    obtain ⟨o, ho⟩ : ∃ o, ops[i]? = some o := ⟨ops[i], by simp [hi]⟩
    have hag : ∀ u, agree ops i t (put (pdst (dstAt ops i)) u t) := fun u k hk => by
      rw [put_get (fun q => by rw [q] at p5; simp [dstIn] at p5; exact p5 hk)]
    -- all but a fresh block: the state stays
    have next : ∀ u, Ver P I E h nx nt ops bo (put (pdst (dstAt ops i)) u t) i → isFrC (coAt P I nt ops i) = false → execD P K (.mk f nt ds kind round ut utodo up) k (dsOf (coAt P I nt ops) ps) (put (pdst (dstAt ops i)) u t) h nx = res → Good P I w0 f0 cs0 K res (lone fr cs w) := by
      intro u hv hf e
      refine execD_ok hI hres hk ps (i :: Q) L (i :: V) bo dn rest E _ h nx w fr st hfr hstk hm (d.told hQ (depsIn_deps p3) p4 hi p5 hv (fun j a b => d.ver j a b) ?_) p6 hq ?_ e
      · intro i1 a j1 b q1 q2 f1 f2
        rcases List.mem_cons.1 a with rfl | a
        · rw [hf] at f1; cases f1
        · rcases List.mem_cons.1 b with rfl | b
          · rw [hf] at f2; cases f2
          · exact d.bo i1 a j1 b q1 q2 f1 f2
      · intro x hx
        obtain ⟨j, a, b, c, rfl⟩ := pends_mem hx
        rcases List.mem_cons.1 a with rfl | a
        · rw [hf] at c; cases c
        · exact hZ _ (mem_pends a b c)
    simp only [dsOf, execD] at e
    unfold execQ at e
    split at e
    · rw [hres] at e; cases e
    · rename_i hgd
      rcases coAt_cases (P := P) (I := I) (nt := nt) ho with ⟨c1, c2⟩ | ⟨c1, c2, c3, c4⟩
      · rw [c2] at hgd; simp [guardOk] at hgd
      · rw [c2] at e
        split at e
        · -- a fresh one that is not wanted
          rename_i fp hf
          have hn := st.new nx (Nat.le_refl _)
          have hlat : ∀ Z', Lat Z' E h nx E h (Nat.succ nx) := fun Z' => ⟨.refl E, Nat.le_succ _, fun b _ hb q => ⟨q, fun cb q => q⟩⟩
          have hbo : ∀ j, j ∈ V → j ∈ rest → isFrC (coAt P I nt ops j) = true → bo j < nx := fun j a b c => (hZ _ (mem_pends a b c)).2.1
          have hne : ∀ j ∈ V, j ≠ i := fun j a q => hQ (q ▸ d.VQ j a)
          refine execD_ok hI hres hk ps (i :: Q) L (i :: V) (fun j => if j = i then nx else bo j) dn rest E _ h (Nat.succ nx) w fr st.skip hfr (hstk.lat (hlat Z)) hm (d.told hQ (depsIn_deps p3) p4 hi p5 (v := .undef) ⟨t, hag _, .inl ⟨hgd, fun k hk => by rw [hk]; exact put_at⟩⟩ ?_ ?_) p6 hq ?_ e
          · intro j a b
            exact Ver.bo (hne j a) ((d.ver j a b).lat (hlat (pends P I nt ops V rest bo)) (fun c => mem_pends a b c) (.inr fun _ _ q => q))
          · exact bo_inj hne hbo d.bo
          · exact fresh_bo hn hstk.lt hZ
        · rename_i hno
          exact next .undef ⟨t, hag _, .inl ⟨hgd, fun k hk => by rw [hk]; exact put_at⟩⟩ (by
            unfold isFrC
            split
            · rename_i f hf; exact absurd hf (hno f)
            · rfl) e
    · rename_i hgd
      rcases coAt_cases (P := P) (I := I) (nt := nt) ho with ⟨c1, c2⟩ | ⟨c1, c2, c3, c4⟩
      · rw [c1] at e; simp only at e; rw [hres] at e; cases e
      rw [c2] at e
      split at e
      · rename_i fp hf
        split at e
        · rename_i v hv
          exact next v ⟨t, hag _, .inr ⟨hgd, by rw [hf]; exact ⟨v, hv, fun k hk => by rw [hk]; exact put_at⟩⟩⟩ (by simp [isFrC, hf]) e
        · rw [hres] at e; cases e
      · rename_i fp hf
        split at e
        · rename_i v hv
          exact next v ⟨t, hag _, .inr ⟨hgd, by rw [hf]; exact ⟨h, v, hv, fun k hk => by rw [hk]; exact put_at, fun _ _ q => q⟩⟩⟩ (by simp [isFrC, hf]) e
        · rw [hres] at e; cases e
      · rename_i fp hf
        split at e
        · rename_i ab v hv
          have hn := st.new nx (Nat.le_refl _)
          have hs1 : ∀ b cb, h.get b = some cb → (h.set nx ab).get b = some cb := fun b cb q => by
            rw [T.get_set, if_neg (fun x => by subst x; rw [st.top _ (Nat.le_refl _)] at q; cases q)]; exact q
          have hlat : ∀ Z', Lat Z' E h nx E (h.set nx ab) (Nat.succ nx) := fun Z' => ⟨.refl E, Nat.le_succ _, fun b _ hb q => ⟨q, fun cb q => by rw [T.get_set, if_neg (by omega)] at q; exact q⟩⟩
          have hbo : ∀ j, j ∈ V → j ∈ rest → isFrC (coAt P I nt ops j) = true → bo j < nx := fun j a b c => (hZ _ (mem_pends a b c)).2.1
          have hne : ∀ j ∈ V, j ≠ i := fun j a q => hQ (q ▸ d.VQ j a)
          refine execD_ok hI hres hk ps (i :: Q) L (i :: V) (fun j => if j = i then nx else bo j) dn rest E _ (h.set nx ab) (Nat.succ nx) w fr (st.tell ab) hfr (hstk.lat (hlat Z)) hm (d.told hQ (depsIn_deps p3) p4 hi p5 (v := v) ⟨t, hag _, .inr ⟨hgd, ?_⟩⟩ ?_ ?_) p6 hq ?_ e
          · rw [hf]
            simp only [if_true]
            exact ⟨ab, v, hv, fun k hk => by rw [hk]; exact put_at, hn, Nat.lt_succ_self _, fun cb q => by rw [T.get_set, if_pos rfl] at q; exact (Option.some.inj q).symm⟩
          · intro j a b
            exact Ver.bo (hne j a) ((d.ver j a b).lat (hlat (pends P I nt ops V rest bo)) (fun c => mem_pends a b c) (.inr hs1))
          · exact bo_inj hne hbo d.bo
          · exact fresh_bo hn hstk.lt hZ
        · rw [hres] at e; cases e
      · rw [hres] at e; cases e
  | .r i :: ps, Q, L, V, bo, dn, rest, E, t, h, nx, w, fr, st, hfr, hstk, hm, d, hp, hq, hZ, e => by
    simp only [okPlan, Bool.and_eq_true] at hp
    obtain ⟨⟨⟨p1, p2⟩, p3⟩, p4⟩ := hp
    have hQ := contains_mem p1
    have hi : i < ops.size := ble_le p2
    obtain ⟨o, ho⟩ : ∃ o, ops[i]? = some o := ⟨ops[i], by simp [hi]⟩
    have hf : isFrC (coAt P I nt ops i) = false := by
      unfold isReadC at p3; unfold isFrC
      split at p3
      · rename_i f hf; rw [hf]
      · cases p3
    have next : Ver P I E h nx nt ops bo t i → execD P K (.mk f nt ds kind round ut utodo up) k (dsOf (coAt P I nt ops) ps) t h nx = res → Good P I w0 f0 cs0 K res (lone fr cs w) := by
      intro hv e
      refine execD_ok hI hres hk ps Q L (i :: V) bo dn rest E t h nx w fr st hfr hstk hm (d.again hQ p3 hv) p4 hq ?_ e
      intro x hx
      obtain ⟨j, a, b, c, rfl⟩ := pends_mem hx
      rcases List.mem_cons.1 a with rfl | a
      · rw [hf] at c; cases c
      · exact hZ _ (mem_pends a b c)
    simp only [dsOf, execD] at e
    unfold execR at e
    rcases coAt_cases (P := P) (I := I) (nt := nt) ho with ⟨c1, c2⟩ | ⟨c1, c2, c3, c4⟩
    · rw [isReadC, c1] at p3; cases p3
    rw [c2] at e
    split at e
    · rw [hres] at e; cases e
    · rename_i hgd
      split at e
      · rename_i hs; exact next ⟨t, fun _ _ => rfl, .inl ⟨hgd, same_has hs⟩⟩ e
      · rw [hres] at e; cases e
    · rename_i hgd
      split at e
      · rename_i fp hf
        split at e
        · rename_i v hv
          split at e
          · rename_i hs; exact next ⟨t, fun _ _ => rfl, .inr ⟨hgd, by rw [hf]; exact ⟨h, v, hv, same_has hs, fun _ _ q => q⟩⟩⟩ e
          · rw [hres] at e; cases e
        · rw [hres] at e; cases e
      · rw [hres] at e; cases e
  | .l i :: ps, Q, L, V, bo, dn, rest, E, t, h, nx, w, fr, st, hfr, hstk, hm, d, hp, hq, hZ, e => by
    simp only [okPlan, Bool.and_eq_true, Bool.not_eq_true'] at hp
    obtain ⟨⟨⟨⟨⟨p1, p2⟩, p3⟩, p4⟩, p5⟩, p6⟩ := hp
    have hQ := not_contains p1
    have hi : i < ops.size := ble_le p2
    obtain ⟨o, ho⟩ : ∃ o, ops[i]? = some o := ⟨ops[i], by simp [hi]⟩
    have hir : i ∈ rest := by
      rcases List.mem_append.1 ((d.all i).2 hi) with q | q
      · exact absurd (d.dnQ i q) hQ
      · exact q
    obtain ⟨pre, r, rfl⟩ := List.append_of_mem hir
    have hnd := (List.nodup_append.1 d.nodup).2.1
    have hV : ∀ j ∈ pre, j ∈ V := fun j hj => by
      have hjn := d.rlt (i := j) (by simp [hj])
      have hne : j ≠ i := fun q => (List.nodup_append.1 hnd).2.2 j hj i (by simp) q
      have := List.all_eq_true.1 p5 j (List.mem_range.2 hjn)
      simp only [Bool.or_eq_true] at this
      rcases this with ((q | q) | q) | q
      · exact absurd (beq_eq q) hne
      · exact contains_mem q
      · obtain ⟨a, b, rfl⟩ := List.append_of_mem hj
        have := d.before _ j i q (dn ++ a) (b ++ i :: r) (by simp)
        exfalso
        rcases List.mem_append.1 this with q | q
        · exact d.apart q hir
        · exact (List.nodup_append.1 hnd).2.2 i (by simp [q]) i (by simp) rfl
      · exact (d.apart (d.listed q) (by simp [hj])).elim
    obtain ⟨fr1, E1, w1, s1, st1, l1, fin, m1, q1, d1, z1⟩ := run_pre (cs := cs) (l := l) (Z := Z) (rest := i :: r) pre dn fr E w hV st d hfr.nt hm hq hZ
    have hfr1 := (hfr.le l1.le).fin fin
    have hstk1 := hstk.lat l1
    refine Good.head s1 ?_
    -- reads are forgotten
    have d2 := d1.weak (V' := V.filter fun j => !isReadC (coAt P I nt ops j)) (fun j q => (List.mem_filter.1 q).1)
    have hVr : ∀ j ∈ V.filter (fun j => !isReadC (coAt P I nt ops j)), isReadC (coAt P I nt ops j) = false := fun j q => by simpa using (List.mem_filter.1 q).2
    have z2 : Fresh (pends P I nt ops (V.filter fun j => !isReadC (coAt P I nt ops j)) (i :: r) bo) Z nx E1 := z1.sub (pends_sub (fun j q => (List.mem_filter.1 q).1) (fun _ q => q))
    have hsee := d2.see
    have next : ∀ (E' : Env) (v : AV) (x : Value) (h1 : T AB) (nx1 : Nat) (w2 : World), Steps P (lone fr1 cs w1) (lone (fr1.finish x) cs w2) → St P w0 E' h1 nx1 w2 → Ext E1 h nx E' h1 nx1 → Is E' v x → okDst nt (dstAt ops i) = true →
        execD P K (.mk f nt ds kind round ut utodo up) k (dsOf (coAt P I nt ops) ps) (put (pdst (dstAt ops i)) v t) h1 nx1 = res → Good P I w0 f0 cs0 K res (lone fr1 cs w1) := by
      intro E' v x h1 nx1 w2 hs st2 ex hv hd e1
      refine Good.head hs ?_
      have hfin := finish_region q1 x
      refine execD_ok hI hres hk ps (i :: Q) (i :: L) _ bo (dn ++ pre ++ [i]) r E' _ h1 nx1 w2 _ st2 ((hfr1.le ex.le).fin (fin_region q1 x)) (hstk1.lat (ex.lat Z)) (by rw [hfin]; exact m1) ?_ p6 (by rw [hfin]) ?_ e1
      · rw [hfin]
        exact d2.loud (ex.lat _) (fun j a b c => mem_pends a b c) hVr hQ (depsIn_deps p3) hd hfr1.nt hv
      · intro y hy
        obtain ⟨k1, k2, k3⟩ := z2 y (pends_sub (fun _ q => q) (fun _ q => by simp [q]) y hy)
        exact ⟨k1, Nat.lt_of_lt_of_le k2 ex.nle, (ex.pend y k2 k3).1⟩
    simp only [dsOf, execD] at e
    unfold execL at e
    split at e
    · rw [hres] at e; cases e
    · rename_i hgd
      rcases coAt_cases (P := P) (I := I) (nt := nt) ho with ⟨c1, c2⟩ | ⟨c1, c2, c3, c4⟩
      · rw [c2] at hgd; simp [guardOk] at hgd
      · rw [c2] at e
        have hw := guard_is (P := P) (I := I) (nt := nt) ho hsee (.inr rfl) hgd
        exact next E1 .undef undef h nx w1 (.one (m_unwanted m1 q1 ho hw)) st1 (.refl _ _ _) .undef c1 e
    · rename_i hgd
      rcases coAt_cases (P := P) (I := I) (nt := nt) ho with ⟨c1, c2⟩ | ⟨c1, c2, c3, c4⟩
      · rw [c1] at e; simp only at e; rw [hres] at e; cases e
      have hw : (coAt P I nt ops i).op ≠ .bad → Region.wanted o (yielded ops fr1.tmps) = true := fun q => guard_is (P := P) (I := I) (nt := nt) ho hsee (.inl q) hgd
      rw [c2] at e
      have hov : OvR E1 t fr1.eval o.op.operands.toList := ovr_at st1.gl ho hsee
      have nd : ∀ {c : COp}, cop P I o = c → (∀ f, c ≠ .cl f) → c ≠ .bad → ∀ l c, fr1.roundOf = some l → o.op ≠ .defer c := by
        intro c hc h1 h2 l cc _ q
        rcases cop_defer (P := P) (I := I) q with ⟨f, hf, _⟩ | hb
        · exact h1 f (hc.symm.trans hf)
        · exact h2 (hc.symm.trans hb)
      split at e
      · rename_i fp hf
        rw [hf] at hw c3
        split at e
        · rename_i v hv
          obtain ⟨x, x1, x2⟩ := cop_pure c3.symm E1 t fr1.eval v st1.flat hov hv w1
          exact next E1 v x h nx w1 (.one (m_value (g_oper (P := P) (w := w1) (cs := cs) m1 q1 ho (hw (by simp)) (nd c3.symm (by simp) (by simp))) x1)) st1 (.refl _ _ _) x2 c1 e
        · rw [hres] at e; cases e
      · rename_i fp hf
        rw [hf] at hw c3
        split at e
        · rename_i v hv
          obtain ⟨x, x1, x2⟩ := cop_read c3.symm w0 E1 h nx w1 t fr1.eval v st1 hov hv
          exact next E1 v x h nx w1 (.one (m_value (g_oper (P := P) (w := w1) (cs := cs) m1 q1 ho (hw (by simp)) (nd c3.symm (by simp) (by simp))) x1)) st1 (.refl _ _ _) x2 c1 e
        · rw [hres] at e; cases e
      · rename_i fp hf
        rw [hf] at hw c3
        split at e
        · rename_i v h1 nx1 hv
          obtain ⟨E', w', n, r1, ⟨x, r2⟩, r3, r4⟩ := cop_state c3.symm w0 E1 h nx w1 t fr1.eval v h1 nx1 st1 hov hv
          have gop := g_oper (P := P) (w := w1) (cs := cs) m1 q1 ho (hw (by simp)) (nd c3.symm (by simp) (by simp))
          rcases r2 with ⟨rfl, r2⟩ | ⟨rfl, rfl⟩
          · exact next E' v x h1 nx1 w' (.one (m_value gop r1)) r3 r4 r2 c1 e
          · exact next E' .undef undef h1 nx1 w' (.one (m_skipOp gop r1)) r3 r4 .undef c1 e
        · rw [hres] at e; cases e
      · rename_i fp hf
        rw [hf] at hw c3
        have hround : ∀ l c, fr1.roundOf = some l → o.op ≠ .defer c := by
          intro l' c hro q
          rcases cop_defer (P := P) (I := I) q with ⟨g, hg, hall⟩ | hb
          · have hfg : fp = g := by rw [hg] at c3; exact COp.cl.inj c3
            subst hfg
            cases hv : fp t h nx with
            | none => rw [hv] at e; unfold after at e; rw [hres] at e; cases e
            | some r =>
              obtain ⟨d, hd⟩ := hall t h nx r hv
              obtain ⟨r1, r2, r3⟩ := r
              simp only at hd; subst hd
              rw [hv] at e
              unfold after at e
              simp only at e
              split at e
              · rename_i hF
                cases hF
                have := hfr1.round
                rw [hro] at this; exact this
              · rw [hres] at e; cases e
          · rw [hb] at c3; cases c3
        refine after_ok (z := pends P I nt ops _ (i :: r) bo) (z' := pends P I nt ops _ r bo) hres st1 hfr1 hstk1 m1 (.of (g_oper (P := P) (w := w1) (cs := cs) m1 q1 ho (hw (by simp)) hround)) ?_ (by rw [q1]; simp)
          (q1 ▸ .waitD ops i ps Q L _ bo (dn ++ pre) r k l hk c1 hVr d2 hQ (depsIn_deps p3) p4 p6) z2 ?_ (z2.sub (pends_sub (fun _ q => q) (fun _ q => by simp [q]))) e
        · intro r' h1 nx1 q
          exact cop_call hI c3.symm w0 E1 h nx w1 t fr1.eval r' h1 nx1 st1 hov q
        · intro v x g hv gm gt gq
          have gq' : g.todo = .inRegion ops (i :: r) :: l := gq.trans q1
          refine ⟨?_, fin_region gq' x⟩
          have hfin := finish_region gq' x
          refine .dr ops ps (i :: Q) (i :: L) _ bo (dn ++ pre ++ [i]) r k l (by rw [hfin]; exact gm) hk ?_ p6 (by rw [hfin])
          rw [hfin]
          exact (gt ▸ d2).loud (.refl _ _ _ _) (fun j a b c => mem_pends a b c) hVr hQ (depsIn_deps p3) c1 (by rw [gt]; exact hfr1.nt) hv
      · rw [hres] at e; cases e
end Go.Ev
