/- A certified evaluator of closed calls, part P10. -/
import Derived.Test.YthmaejcpadoljaaGreatEvP9
namespace Go.Ev
open Go Go.RowKit
set_option linter.unusedVariables false
set_option linter.unusedSimpArgs false
variable {P : Program} {I : FuncId → List AV → Option AV} {w0 : World} {E : Env} {h : T AB} {nx : Nat} {w : World}

/-! ### maps -/
theorem EsIs.length : ∀ {l : List (AV × AV × Nat)} {m : List MapEntry}, EsIs E l m → l.length = m.length
  | _, _, .nil => rfl
  | _, _, .cons _ _ _ _ _ _ _ _ _ h => by simp [h.length]
theorem EsIs.get : ∀ {l : List (AV × AV × Nat)} {m : List MapEntry}, EsIs E l m → ∀ (i : Nat) (e : AV × AV × Nat), l[i]? = some e → ∃ y, m[i]? = some y ∧ Is E e.1 y.key ∧ Is E e.2.1 y.val ∧ y.born = e.2.2
  | _, _, .nil, i, e, q => by simp at q
  | _, _, .cons _ _ _ _ _ _ _ hk hv h, 0, e, q => by simp at q; subst q; exact ⟨_, rfl, hk, hv, rfl⟩
  | _, _, .cons _ _ _ _ _ _ _ hk hv h, i + 1, e, q => by simpa using h.get i e (by simpa using q)
theorem findAsking_ok (s : St P w0 E h nx w) {kt : TypeId} {k : AV} {kv : Value} (hk : Is E k kv) : ∀ (es : List (AV × AV × Nat)) (ms : List MapEntry) (i : Nat) (r : Option (Nat × AV)), EsIs E es ms → findA P h kt k es i = some r →
    ∃ r', (Instr.findAsking kt kv ms i).run P w = .ok r' w ∧ (match r with
      | none => r' = none
      | some (j, v) => ∃ x, r' = some (j, x) ∧ Is E v x ∧ i ≤ j ∧ j < i + es.length ∧ ∃ e, es[j - i]? = some e ∧ ∃ d, eqv P h d kt k e.1 = some true)
  | [], _, i, r, .nil, e => by simp [findA] at e; subst e; exact ⟨none, by simp [Instr.findAsking], rfl⟩
  | (key, v, n) :: es, _, i, r, .cons _ _ _ x y _ ms h1 h2 hl, e => by
    rw [findA] at e
    split at e
    · rename_i hq
      cases e
      have := eqv_ok s 50 _ _ _ _ hq 10000 (by omega) _ _ hk h1
      exact ⟨some (i, y), by simp [Instr.findAsking, Op.equal, Op.maxDepth, this], y, rfl, h2, by omega, by simp, (key, v, n), by simp, 50, hq⟩
    · rename_i hq
      have := eqv_ok s 50 _ _ _ _ hq 10000 (by omega) _ _ hk h1
      obtain ⟨r', q1, q2⟩ := findAsking_ok s hk es ms (i + 1) r hl e
      refine ⟨r', by simp [Instr.findAsking, Op.equal, Op.maxDepth, this, q1], ?_⟩
      cases r with
      | none => exact q2
      | some p =>
        obtain ⟨j, u⟩ := p
        obtain ⟨x', a1, a2, a3, a4, e', a5, a6⟩ := q2
        refine ⟨x', a1, a2, by omega, by simp; omega, e', ?_, a6⟩
        rw [show j - i = (j - (i + 1)) + 1 by omega]; simpa using a5
    · cases e
/-- where a key is found at once it is found as by asking -/
theorem findNow_ok (s : St P w0 E h nx w) {kt : TypeId} {d : TypeDesc} (hd : und P kt = some d) {k : AV} {kv : Value} (hk : Is E k kv) : ∀ (es : List (AV × AV × Nat)) (ms : List MapEntry) (i : Nat) (r : Option (Nat × AV)) (r' : Option (Nat × Value)), EsIs E es ms → findA P h kt k es i = some r →
    (Instr.findAsking kt kv ms i).run P w = .ok r' w → ∀ q, Instr.findNow d kv ms i = some q → q = r'
  | [], _, i, r, r', .nil, e, hr, q, hq => by
    simp [Instr.findNow] at hq; simp [Instr.findAsking] at hr; rw [← hq, ← hr]
  | (key, v, n) :: es, _, i, r, r', .cons _ _ _ x y _ ms h1 h2 hl, e, hr, q, hq => by
    rw [findA] at e
    have hd' : P.underlying kt = _ := hd
    have same : ∀ b, Instr.sameNow d kv x = some b → ∀ b', (Op.equal kt kv x).run P w = .ok b' w → b = b' := by
      intro b hb b' hb'
      unfold Instr.sameNow at hb
      split at hb
      · split at hb
        · rename_i hkk; subst hkk; cases hb; have hb2 := (run_equalIn_int w 9999 kt _ _ _ _ hd').symm.trans hb'; cases hb2; rfl
        · cases hb
      · cases hb; have hb2 := (run_equalIn_string w 9999 kt _ _ hd').symm.trans hb'; cases hb2; rw [beq_toListBytes]
      · cases hb; have hb2 := (run_equalIn_bool w 9999 kt _ _ hd').symm.trans hb'; cases hb2; rfl
      · cases hb
    split at e
    · rename_i hv
      have := eqv_ok s 50 _ _ _ _ hv 10000 (by omega) _ _ hk h1
      simp only [Instr.findNow] at hq
      split at hq
      · cases hq
        simp [Instr.findAsking, Op.equal, Op.maxDepth, this] at hr
        exact hr
      · rename_i hs; have := same _ hs _ this; cases this
      · cases hq
    · rename_i hv
      have := eqv_ok s 50 _ _ _ _ hv 10000 (by omega) _ _ hk h1
      simp only [Instr.findNow] at hq
      split at hq
      · rename_i hs; have := same _ hs _ this; cases this
      · simp [Instr.findAsking, Op.equal, Op.maxDepth, this] at hr
        exact findNow_ok s hd hk es ms (i + 1) r r' hl e hr q hq
      · cases hq
    · cases e
theorem findKey_ok (s : St P w0 E h nx w) {kt : TypeId} {d : TypeDesc} (hd : und P kt = some d) {k : AV} {kv : Value} (hk : Is E k kv) {es : List (AV × AV × Nat)} {ms : List MapEntry} {r : Option (Nat × AV)} (he : EsIs E es ms) (e : findA P h kt k es 0 = some r) :
    ∃ r', (Instr.findKey kt kv ms).run P w = .ok r' w ∧ (match r with
      | none => r' = none
      | some (j, v) => ∃ x, r' = some (j, x) ∧ Is E v x ∧ j < es.length ∧ ∃ e, es[j]? = some e ∧ ∃ d, eqv P h d kt k e.1 = some true) := by
  have hd' : P.underlying kt = _ := hd
  obtain ⟨r', q1, q2⟩ := findAsking_ok s hk es ms 0 r he e
  refine ⟨r', ?_, ?_⟩
  · simp only [Instr.findKey, Sem.run_bind, run_underlying hd', Result.andThen_ok]
    split
    · rename_i q hq
      rw [findNow_ok s hd hk es ms 0 r r' he e q1 q hq]; rfl
    · exact q1
  · cases r with
    | none => exact q2
    | some p =>
      obtain ⟨j, u⟩ := p
      obtain ⟨x', a1, a2, a3, a4, e', a5, a6⟩ := q2
      exact ⟨x', a1, a2, by omega, e', by simpa using a5, a6⟩

theorem chkFs_ok {D : Nat} {b : Bool} {ck : TypeId → AV → Bool} (hck : ∀ t x vx, ck t x = true → Is E x vx → (Instr.checkKey b D t vx).run P w = .ok () w) {l : List AV} {vs : List Value} (hl : IsL E l vs) :
    ∀ (fs : List Field), chkFs P ck l fs = true → (forIn fs PUnit.unit fun (f : Field) _ => (if f.name ≠ "_" then (do let x ← Go.part f.type vs.toArray f.offset; Instr.checkKey b D f.type x; pure (ForInStep.yield PUnit.unit)) else pure (ForInStep.yield PUnit.unit) : Sem (ForInStep PUnit))).run P w = .ok PUnit.unit w
  | [], _ => by simp
  | f :: fs, e => by
    rw [chkFs] at e
    have ih := chkFs_ok hck hl fs
    split at e
    · rename_i hn
      simp only [List.forIn_cons, hn, ne_eq, not_true_eq_false, if_false, Sem.run_bind, Sem.run_pure, Result.andThen_ok]
      simpa [hn] using ih e
    · rename_i hn
      split at e
      · rename_i x hx
        simp only [Bool.and_eq_true] at e
        obtain ⟨vx, k1, i1⟩ := part_ok (P := P) (w := w) hx hl
        have := hck _ _ _ e.1 i1
        have ih' := ih e.2
        simp only [List.forIn_cons, ne_eq, hn, not_false_eq_true, if_true, Sem.run_bind, k1, this, Sem.run_pure, Result.andThen_ok]
        simpa using ih'
      · cases e
theorem chkEs_ok {D : Nat} {b : Bool} {ck : TypeId → AV → Bool} (hck : ∀ t x vx, ck t x = true → Is E x vx → (Instr.checkKey b D t vx).run P w = .ok () w) {l : List AV} {vs : List Value} (hl : IsL E l vs) (t : TypeId) (m : Nat) (hm : size P t = some m) :
    ∀ (n i : Nat), chkEs P ck t m l n i = true → (forIn (List.range' i n) PUnit.unit fun i _ => (do Instr.checkKey b D t (← Go.part t vs.toArray (i * (← sizeOf t))); pure (ForInStep.yield PUnit.unit) : Sem (ForInStep PUnit))).run P w = .ok PUnit.unit w
  | 0, i, _ => by simp
  | n + 1, i, e => by
    rw [chkEs] at e
    have ih := chkEs_ok hck hl t m hm n (i + 1)
    split at e
    · rename_i x hx
      simp only [Bool.and_eq_true] at e
      obtain ⟨vx, k1, i1⟩ := part_ok (P := P) (w := w) hx hl
      have := hck _ _ _ e.1 i1
      have ih' := ih e.2
      rw [List.range'_succ]
      simp only [List.forIn_cons, Sem.run_bind, run_size hm, k1, this, Sem.run_pure, Result.andThen_ok]
      simpa using ih'
    · cases e
theorem chkKey_ok {b : Bool} : ∀ (d : Nat) (t : TypeId) (x : AV), chkKey P d t x = true → ∀ (D : Nat), d ≤ D → ∀ vx, Is E x vx → (Instr.checkKey b D t vx).run P w = .ok () w
  | 0, t, x, e, _, _, _, _ => by simp [chkKey] at e
  | d + 1, t, x, e, D, hD, vx, ix => by
    obtain ⟨D, rfl⟩ : ∃ D', D = D' + 1 := ⟨D - 1, by omega⟩
    unfold chkKey at e
    split at e
    · rename_i hu; have hu' : P.underlying t = _ := hu
      simp [Instr.checkKey, run_underlying hu']
    · rename_i hu; have hu' : P.underlying t = _ := hu
      simp [Instr.checkKey, run_underlying hu']
    · rename_i hu; have hu' : P.underlying t = _ := hu
      simp [Instr.checkKey, run_underlying hu']
    · rename_i fs hu; have hu' : P.underlying t = _ := hu
      split at e
      · obtain ⟨vs, rfl, hl⟩ := is_agg ix
        have := chkFs_ok (w := w) (b := b) (D := D) (fun t x vx q i => chkKey_ok d t x q D (by omega) vx i) hl fs.toList e
        simp only [Instr.checkKey, Sem.run_bind, run_underlying hu', Result.andThen_ok]
        rw [← Array.forIn_toList]
        simp at this
        simp [this]
      · cases e
    · rename_i n el hu; have hu' : P.underlying t = _ := hu
      split at e
      · obtain ⟨vs, rfl, hl⟩ := is_agg ix
        split at e
        · rename_i m hm
          have := chkEs_ok (w := w) (b := b) (D := D) (fun t x vx q i => chkKey_ok d t x q D (by omega) vx i) hl el m hm n 0 e
          simp only [Instr.checkKey, Sem.run_bind, run_underlying hu', Result.andThen_ok]
          simp only [Std.Legacy.Range.forIn_eq_forIn_range', Std.Legacy.Range.size, Nat.sub_zero, Nat.add_one_sub_one, Nat.div_one]
          have e2 : ∀ (r : Result PUnit), (r.andThen fun _ w' => Result.ok () w') = r := by intro r; cases r <;> rfl
          simp at this
          simp [this]
        · cases e
      · cases e
    · cases e
end Go.Ev
