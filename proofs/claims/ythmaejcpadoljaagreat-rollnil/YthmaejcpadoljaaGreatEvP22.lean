/- A certified evaluator of closed calls, part P22. -/
import Derived.Test.YthmaejcpadoljaaGreatEvP21
namespace Go.Ev
open Go Go.RowKit
set_option linter.unusedVariables false
set_option linter.unusedSimpArgs false
variable {P : Program} {I : FuncId → List AV → Option AV} {w0 : World} {E : Env} {h : T AB} {nx : Nat} {w : World} {f0 : Nat} {cs0 : List Frame}

theorem okOps_after {ops : Array Oper} {c : Nat → CO} (e : okOps ops c = true) : AllAfter ops := by
  intro i o ho ed he hb
  have hi : i < ops.size := (Array.getElem?_eq_some_iff.1 ho).1
  have h1 := List.all_eq_true.1 e i (List.mem_range.2 hi)
  rw [ho] at h1
  simp only [Bool.and_eq_true] at h1
  have h2 := List.all_eq_true.1 h1.1 ed (Array.mem_toList_iff.2 he)
  rw [hb] at h2
  simp only [Bool.not_true, Bool.false_or] at h2
  exact ble_le h2
theorem okOps_pair {ops : Array Oper} {c : Nat → CO} (e : okOps ops c = true) {i j : Nat} (hi : i < ops.size) (hj : j < ops.size) (hne : i ≠ j) :
    (∀ k, dstAt ops i = some k → dstAt ops j ≠ some k) ∧ (dstIn (dstAt ops j) (looksAt ops i) = true → reach ops ops.size i j = true ∨ (loudAt ops ops.size c j = true ∧ reach ops ops.size j i = true)) := by
  have h1 := List.all_eq_true.1 e i (List.mem_range.2 hi)
  simp only [Bool.and_eq_true] at h1
  have h2 := List.all_eq_true.1 h1.2 j (List.mem_range.2 hj)
  unfold okPair at h2
  have hb : Nat.beq i j = false := by
    cases q : Nat.beq i j with
    | true => exact absurd (beq_eq q) hne
    | false => rfl
  rw [hb] at h2
  simp only [Bool.false_or, Bool.and_eq_true, Bool.not_eq_true', Bool.or_eq_true] at h2
  obtain ⟨h3, h4⟩ := h2
  refine ⟨fun k a b => ?_, fun q => ?_⟩
  · rw [a, b] at h3
    simp [eqDst] at h3
  · rcases h4 with (h4 | h4) | h4
    · rw [h4] at q; cases q
    · exact .inl h4
    · exact .inr h4

section dr
variable {nt : Nat} {ops : Array Oper} {Q L V : List Nat} {bo : Nat → Nat} {t : T AV} {ts : Array Value} {dn rest : List Nat}
theorem Dr.before (d : Dr P I E h nx nt ops Q L V bo t ts dn rest) : ∀ (f i j : Nat), reach ops f i j = true → ∀ a b, dn ++ rest = a ++ i :: b → j ∈ a
  | 0, i, j, q, a, b, hab => by simp [reach] at q
  | f + 1, i, j, q, a, b, hab => by
    unfold reach at q
    split at q
    · cases q
    · rename_i o ho
      obtain ⟨e, he, q⟩ := List.any_eq_true.1 q
      simp only [Bool.and_eq_true, Bool.or_eq_true] at q
      have hd := d.valid a i b hab o ho e (Array.mem_toList_iff.1 he) q.1
      rcases q.2 with q | q
      · have := beq_eq q; subst this; exact hd
      · obtain ⟨a1, a2, rfl⟩ := List.append_of_mem hd
        have := Dr.before d f e.on j q a1 (a2 ++ i :: b) (by rw [hab]; simp)
        simp [this]
theorem Dr.inQ (d : Dr P I E h nx nt ops Q L V bo t ts dn rest) : ∀ (f i j : Nat), reach ops f i j = true → i ∈ Q → j ∈ Q
  | 0, i, j, q, _ => by simp [reach] at q
  | f + 1, i, j, q, hi => by
    unfold reach at q
    split at q
    · cases q
    · rename_i o ho
      obtain ⟨e, he, q⟩ := List.any_eq_true.1 q
      simp only [Bool.and_eq_true, Bool.or_eq_true] at q
      have hd := d.closed i hi o ho e (Array.mem_toList_iff.1 he) q.1
      rcases q.2 with q | q
      · have := beq_eq q; subst this; exact hd
      · exact Dr.inQ d f e.on j q hd
theorem Dr.apart (d : Dr P I E h nx nt ops Q L V bo t ts dn rest) {i : Nat} (h1 : i ∈ dn) (h2 : i ∈ rest) : False :=
  (List.nodup_append.1 d.nodup).2.2 i h1 i h2 rfl
theorem Dr.rlt (d : Dr P I E h nx nt ops Q L V bo t ts dn rest) {i : Nat} (h2 : i ∈ rest) : i < ops.size := (d.all i).1 (by simp [h2])
theorem Dr.listed (d : Dr P I E h nx nt ops Q L V bo t ts dn rest) {j : Nat} (e : listed ops ops.size L j = true) : j ∈ dn := by
  obtain ⟨l, hl, q⟩ := List.any_eq_true.1 e
  have hd := d.Ldn l hl
  simp only [Bool.or_eq_true] at q
  rcases q with q | q
  · have := beq_eq q; subst this; exact hd
  · obtain ⟨a, b, rfl⟩ := List.append_of_mem hd
    have := d.before _ l j q a (b ++ rest) (by simp)
    simp [this]
/-- what the next operation looks at is there -/
theorem Dr.see {j : Nat} {r : List Nat} (d : Dr P I E h nx nt ops Q L V bo t ts dn (j :: r)) : ∀ k ∈ looksAt ops j, ∀ v, t.get k = some v → ∃ y, ts[k]? = some y ∧ Is E v y := by
  intro k hk v e
  refine d.tr k v e fun i hi hQ hd => ?_
  have hdin : dstIn (dstAt ops i) (looksAt ops j) = true := by rw [hd]; simpa [dstIn] using hk
  by_cases hij : i = j
  · subst hij; rw [d.self i hQ hi] at hdin; cases hdin
  · rcases (okOps_pair d.ok (d.rlt (i := j) (by simp)) (d.rlt hi) (Ne.symm hij)).2 hdin with q | ⟨q1, q2⟩
    · exact d.apart (d.before _ j i q dn r rfl) hi
    · exact d.apart (d.Ldn i (d.loudQ i hQ q1)) hi
theorem ovr_at (hg : ∀ g, g < 256 → E.at_ g = some g) {ti : T AV} {fr : Frame} {i : Nat} {o : Oper} (ho : ops[i]? = some o) (hs : ∀ k ∈ looksAt ops i, ∀ v, ti.get k = some v → ∃ y, fr.tmps[k]? = some y ∧ Is E v y) :
    OvR E ti fr.eval o.op.operands.toList := fun x hx v e => opn_is hg (fun k v hk q => hs k (by
      subst hk
      simp only [looksAt, ho, looksO, List.mem_append, List.mem_filterMap]
      exact .inl ⟨_, hx, rfl⟩) v q) e
theorem putV_get {d : Option Tmp} {x : Value} {k : Nat} (hk : d ≠ some k) : (putV d x ts)[k]? = ts[k]? := by
  cases d with
  | none => rfl
  | some d => simp only [putV]; rw [Array.getElem?_setIfInBounds_ne (fun e => hk (by rw [e]))]
theorem putV_at {x : Value} {k : Nat} (hd : okDst nt (some k) = true) (hn : nt ≤ ts.size) : (putV (some k) x ts)[k]? = some x := by
  have : k < ts.size := Nat.lt_of_lt_of_le (ble_le hd) hn
  simp [putV, this]
theorem put_get {d : Option Tmp} {v : AV} {k : Nat} (hk : d ≠ some k) : (put (pdst d) v t).get k = t.get k := by
  cases d with
  | none => rfl
  | some d =>
    show (t.set d v).get k = _
    rw [T.get_set, if_neg (fun e => hk (by rw [e]))]
theorem put_at {v : AV} {k : Nat} : (put (pdst (some k)) v t).get k = some v := by
  show (t.set k v).get k = _
  rw [T.get_set, if_pos rfl]
/-- one that was told of has run -/
theorem Dr.ran {E' : Env} {j : Nat} {r : List Nat} (d : Dr P I E h nx nt ops Q L V bo t ts dn (j :: r)) (hQ : j ∈ Q) (hle : E.le E') (hver : ∀ i ∈ V, i ∈ r → Ver P I E' h nx nt ops bo t i) {v : AV} {x : Value}
    (hd : hasDst ops j v t) (hv : Is E' v x) (ho : okDst nt (dstAt ops j) = true) (hn : nt ≤ ts.size) : Dr P I E' h nx nt ops Q L V bo t (putV (dstAt ops j) x ts) (dn ++ [j]) r := by
  have e0 : dn ++ [j] ++ r = dn ++ j :: r := by simp
  refine ⟨d.ok, by rw [e0]; exact d.nodup, fun i => by rw [e0]; exact d.all i, fun a i b q => d.valid a i b (by rw [← e0]; exact q), fun i hi => ?_, fun i hi => by simp [d.Ldn i hi], d.VQ, d.loudQ, d.closed, fun i hi q => d.self i hi (by simp [q]), fun k v' e hno => ?_, hver, fun i a j' b q1 q2 => d.bo i a j' b (by simp [q1]) (by simp [q2])⟩
  · rcases List.mem_append.1 hi with q | q
    · exact d.dnQ i q
    · simp at q; subst q; exact hQ
  · by_cases hk : dstAt ops j = some k
    · have := hd k hk
      rw [this] at e; cases e
      exact ⟨x, by rw [hk] at ho ⊢; exact putV_at ho hn, hv⟩
    · obtain ⟨y, y1, y2⟩ := d.tr k v' e (fun i hi q => by
        rcases List.mem_cons.1 hi with rfl | hi
        · exact hk
        · exact hno i hi q)
      exact ⟨y, by rw [putV_get hk]; exact y1, y2.le hle⟩
theorem Ver.put {i j : Nat} (hne : ∀ k, dstAt ops j = some k → dstAt ops i ≠ some k) (hlk : dstIn (dstAt ops i) (looksAt ops j) = false) (u : AV) (v : Ver P I E h nx nt ops bo t j) : Ver P I E h nx nt ops bo (put (pdst (dstAt ops i)) u t) j := by
  have hD : ∀ v, hasDst ops j v t → hasDst ops j v (Ev.put (pdst (dstAt ops i)) u t) := fun v q k hk => by rw [put_get (hne k hk)]; exact q k hk
  obtain ⟨ti, ha, hv⟩ := v
  refine ⟨ti, fun k hk => ?_, ?_⟩
  · rw [put_get (fun q => by rw [q] at hlk; simp [dstIn] at hlk; exact hlk hk)]; exact ha k hk
  · rcases hv with ⟨h1, h2⟩ | ⟨hg, hv⟩
    · exact .inl ⟨h1, hD _ h2⟩
    · refine .inr ⟨hg, ?_⟩
      split
      · rename_i f hf; rw [hf] at hv; obtain ⟨v, h1, h2⟩ := hv; exact ⟨v, h1, hD _ h2⟩
      · rename_i f hf; rw [hf] at hv; obtain ⟨h0, v, h1, h2, h3⟩ := hv; exact ⟨h0, v, h1, hD _ h2, h3⟩
      · rename_i f hf; rw [hf] at hv; obtain ⟨ab, v, h1, h2, h3⟩ := hv; exact ⟨ab, v, h1, hD _ h2, h3⟩
      · rename_i h1 h2 h3
        revert hv
        split <;> first | (rename_i f hf; intro; exact absurd hf (by first | exact h1 f | exact h2 f | exact h3 f)) | (intro hv; exact hv)
/-- one is told of -/
theorem Dr.told {h' : T AB} {nx' : Nat} {bo' : Nat → Nat} (d : Dr P I E h nx nt ops Q L V bo t ts dn rest) {i : Nat} (hQ : i ∉ Q) (hdeps : ∀ o, ops[i]? = some o → deps o Q) (hl : loudAt ops ops.size (coAt P I nt ops) i = false)
    (hi : i < ops.size) (hs : dstIn (dstAt ops i) (looksAt ops i) = false) {v : AV} (hver : Ver P I E h' nx' nt ops bo' (put (pdst (dstAt ops i)) v t) i) (hold : ∀ j ∈ V, j ∈ rest → Ver P I E h' nx' nt ops bo' t j)
    (hbo : ∀ i1 ∈ i :: V, ∀ j1 ∈ i :: V, i1 ∈ rest → j1 ∈ rest → isFrC (coAt P I nt ops i1) = true → isFrC (coAt P I nt ops j1) = true → bo' i1 = bo' j1 → i1 = j1) :
    Dr P I E h' nx' nt ops (i :: Q) L (i :: V) bo' (put (pdst (dstAt ops i)) v t) ts dn rest := by
  refine ⟨d.ok, d.nodup, d.all, d.valid, fun j hj => List.mem_cons_of_mem _ (d.dnQ j hj), d.Ldn, fun j hj => ?_, fun j hj q => ?_, fun j hj o ho e he hb => ?_, fun j hj q => ?_, fun k v' e hno => ?_, fun j hj hr => ?_, hbo⟩
  · rcases List.mem_cons.1 hj with rfl | hj
    · simp
    · exact List.mem_cons_of_mem _ (d.VQ j hj)
  · rcases List.mem_cons.1 hj with rfl | hj
    · rw [hl] at q; cases q
    · exact d.loudQ j hj q
  · rcases List.mem_cons.1 hj with rfl | hj
    · exact List.mem_cons_of_mem _ (hdeps o ho e he hb)
    · exact List.mem_cons_of_mem _ (d.closed j hj o ho e he hb)
  · rcases List.mem_cons.1 hj with rfl | hj
    · exact hs
    · exact d.self j hj q
  · have hir : i ∈ rest := by
      rcases List.mem_append.1 ((d.all i).2 hi) with q | q
      · exact absurd (d.dnQ i q) hQ
      · exact q
    have hk : dstAt ops i ≠ some k := hno i hir (by simp)
    rw [put_get hk] at e
    exact d.tr k v' e (fun j hj q => hno j hj (List.mem_cons_of_mem _ q))
  · rcases List.mem_cons.1 hj with rfl | hj
    · exact hver
    · have hjQ := d.VQ j hj
      have hne : j ≠ i := fun q => hQ (q ▸ hjQ)
      obtain ⟨p1, p2⟩ := okOps_pair d.ok (d.rlt hr) hi hne
      refine (hold j hj hr).put p1 ?_ v
      cases q : dstIn (dstAt ops i) (looksAt ops j) with
      | false => rfl
      | true =>
        rcases p2 q with q | ⟨q, _⟩
        · exact absurd (d.inQ _ j i q hjQ) hQ
        · rw [hl] at q; cases q
/-- a loud one has run -/
theorem Dr.loud {E' : Env} {h' : T AB} {nx' : Nat} {i : Nat} {r : List Nat} {Z : List Nat} (l : Lat Z E h nx E' h' nx') (hz : ∀ j ∈ V, j ∈ i :: r → isFrC (coAt P I nt ops j) = true → bo j ∈ Z) (hV : ∀ j ∈ V, isReadC (coAt P I nt ops j) = false)
    (d : Dr P I E h nx nt ops Q L V bo t ts dn (i :: r)) (hQ : i ∉ Q) (hdeps : ∀ o, ops[i]? = some o → deps o Q) (ho : okDst nt (dstAt ops i) = true) (hn : nt ≤ ts.size) {v : AV} {x : Value} (hv : Is E' v x) :
    Dr P I E' h' nx' nt ops (i :: Q) (i :: L) V bo (put (pdst (dstAt ops i)) v t) (putV (dstAt ops i) x ts) (dn ++ [i]) r := by
  have e0 : dn ++ [i] ++ r = dn ++ i :: r := by simp
  have hir : i ∉ r := fun q => by
    have := (List.nodup_append.1 d.nodup).2.1
    exact (List.nodup_cons.1 this).1 q
  refine ⟨d.ok, by rw [e0]; exact d.nodup, fun j => by rw [e0]; exact d.all j, fun a j b q => d.valid a j b (by rw [← e0]; exact q), fun j hj => ?_, fun j hj => ?_, fun j hj => List.mem_cons_of_mem _ (d.VQ j hj), fun j hj q => ?_, fun j hj o hjo e he hb => ?_, fun j hj q => ?_, fun k v' e hno => ?_, fun j hj hr => ?_, fun j a j' b q1 q2 => d.bo j a j' b (by simp [q1]) (by simp [q2])⟩
  · rcases List.mem_append.1 hj with q | q
    · exact List.mem_cons_of_mem _ (d.dnQ j q)
    · simp at q; simp [q]
  · rcases List.mem_cons.1 hj with rfl | hj
    · simp
    · simp [d.Ldn j hj]
  · rcases List.mem_cons.1 hj with rfl | hj
    · simp
    · exact List.mem_cons_of_mem _ (d.loudQ j hj q)
  · rcases List.mem_cons.1 hj with rfl | hj
    · exact List.mem_cons_of_mem _ (hdeps o hjo e he hb)
    · exact List.mem_cons_of_mem _ (d.closed j hj o hjo e he hb)
  · rcases List.mem_cons.1 hj with rfl | hj
    · exact absurd q hir
    · exact d.self j hj (by simp [q])
  · by_cases hk : dstAt ops i = some k
    · rw [hk] at e ho ⊢
      rw [put_at] at e; cases e
      exact ⟨x, putV_at ho hn, hv⟩
    · rw [put_get hk] at e
      obtain ⟨y, y1, y2⟩ := d.tr k v' e (fun j hj q => by
        rcases List.mem_cons.1 hj with rfl | hj
        · exact absurd q hQ
        · exact hno j hj (List.mem_cons_of_mem _ q))
      exact ⟨y, by rw [putV_get hk]; exact y1, y2.le l.le⟩
  · have hjQ := d.VQ j hj
    have hne : j ≠ i := fun q => hQ (q ▸ hjQ)
    have hr' : j ∈ i :: r := by simp [hr]
    obtain ⟨p1, p2⟩ := okOps_pair d.ok (d.rlt hr') (d.rlt (i := i) (by simp)) hne
    refine ((d.ver j hj hr').lat l (hz j hj hr') (.inl (hV j hj))).put p1 ?_ v
    cases q : dstIn (dstAt ops i) (looksAt ops j) with
    | false => rfl
    | true =>
      rcases p2 q with q | ⟨_, q⟩
      · exact absurd (d.inQ _ j i q hjQ) hQ
      · exact (d.apart (d.before _ i j q dn r rfl) hr').elim
theorem Dr.weak {V' : List Nat} (d : Dr P I E h nx nt ops Q L V bo t ts dn rest) (hs : ∀ i ∈ V', i ∈ V) : Dr P I E h nx nt ops Q L V' bo t ts dn rest :=
  ⟨d.ok, d.nodup, d.all, d.valid, d.dnQ, d.Ldn, fun i q => d.VQ i (hs i q), d.loudQ, d.closed, d.self, d.tr, fun i q => d.ver i (hs i q), fun i a j b => d.bo i (hs i a) j (hs j b)⟩
theorem Dr.again {i : Nat} (d : Dr P I E h nx nt ops Q L V bo t ts dn rest) (hQ : i ∈ Q) (hr : isReadC (coAt P I nt ops i) = true) (hv : Ver P I E h nx nt ops bo t i) : Dr P I E h nx nt ops Q L (i :: V) bo t ts dn rest := by
  have hf : isFrC (coAt P I nt ops i) = false := by
    unfold isReadC at hr; unfold isFrC
    split at hr
    · rename_i f hf; rw [hf]
    · cases hr
  refine ⟨d.ok, d.nodup, d.all, d.valid, d.dnQ, d.Ldn, fun j q => ?_, d.loudQ, d.closed, d.self, d.tr, fun j q hj => ?_, fun j a j' b q1 q2 f1 f2 => ?_⟩
  · rcases List.mem_cons.1 q with rfl | q
    · exact hQ
    · exact d.VQ j q
  · rcases List.mem_cons.1 q with rfl | q
    · exact hv
    · exact d.ver j q hj
  · rcases List.mem_cons.1 a with rfl | a
    · rw [hf] at f1; cases f1
    · rcases List.mem_cons.1 b with rfl | b
      · rw [hf] at f2; cases f2
      · exact d.bo j a j' b q1 q2 f1 f2
theorem pends_mem {x : Nat} (q : x ∈ pends P I nt ops V rest bo) : ∃ i, i ∈ V ∧ i ∈ rest ∧ isFrC (coAt P I nt ops i) = true ∧ bo i = x := by
  unfold pends at q
  obtain ⟨i, h1, rfl⟩ := List.mem_map.1 q
  obtain ⟨h2, h3⟩ := List.mem_filter.1 h1
  simp only [Bool.and_eq_true] at h3
  exact ⟨i, h2, by simpa using h3.1, h3.2, rfl⟩
theorem pends_sub {V' rest' : List Nat} (h1 : ∀ i ∈ V', i ∈ V) (h2 : ∀ i ∈ rest', i ∈ rest) : ∀ x ∈ pends P I nt ops V' rest' bo, x ∈ pends P I nt ops V rest bo := fun x q => by
  obtain ⟨i, a, b, c, rfl⟩ := pends_mem q
  exact mem_pends (h1 i a) (h2 i b) c
end dr

theorem Lat.refl (Z : List Nat) (E : Env) (h : T AB) (nx : Nat) : Lat Z E h nx E h nx := ⟨.refl E, Nat.le_refl _, fun b _ _ q => ⟨q, fun _ q => q⟩⟩
theorem Lat.trans {Z : List Nat} {E1 E2 E3 : Env} {h1 h2 h3 : T AB} {n1 n2 n3 : Nat} (a : Lat Z E1 h1 n1 E2 h2 n2) (b : Lat Z E2 h2 n2 E3 h3 n3) : Lat Z E1 h1 n1 E3 h3 n3 :=
  ⟨a.le.trans b.le, Nat.le_trans a.nle b.nle, fun k hz hk e =>
    let ⟨e2, q⟩ := a.pend k hz hk e
    let ⟨e3, q2⟩ := b.pend k hz (Nat.lt_of_lt_of_le hk a.nle) e2
    ⟨e3, fun ab x => q ab (q2 ab x)⟩⟩
theorem Fin.refl (fr : Frame) : Fin fr fr := ⟨rfl, rfl, rfl, rfl, rfl⟩
theorem Fin.trans {a b c : Frame} (x : Fin a b) (y : Fin b c) : Fin a c := ⟨y.fn.trans x.fn, y.kind.trans x.kind, y.size.trans x.size, y.ds.trans x.ds, y.round.trans x.round⟩
theorem Fresh.sub {z z' Z : List Nat} (hz : Fresh z Z nx E) (hs : ∀ x ∈ z', x ∈ z) : Fresh z' Z nx E := fun x q => hz x (hs x q)
end Go.Ev
