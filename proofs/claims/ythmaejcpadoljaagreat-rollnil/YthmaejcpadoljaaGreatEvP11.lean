/- A certified evaluator of closed calls, part P11. -/
import Derived.Test.YthmaejcpadoljaaGreatEvP10
namespace Go.Ev
open Go Go.RowKit
set_option linter.unusedVariables false
set_option linter.unusedSimpArgs false
variable {P : Program} {I : FuncId → List AV → Option AV} {w0 : World} {E : Env} {h : T AB} {nx : Nat} {w : World}

theorem St.map (s : St P w0 E h nx w) {b r : Nat} {es : List (AV × AV × Nat)} {cl : Nat} (hb : E.at_ b = some r) (hg : h.get b = some (.map es cl)) : ∃ ms : List MapEntry, w.heap[r]? = some (.map ms.toArray cl) ∧ EsIs E es ms := by
  obtain ⟨o, h1, ms, rfl, h2⟩ := s.obj b r _ hb hg
  exact ⟨ms, h1, h2⟩
theorem run_getObj {r : Nat} {o : Obj} (hg : w.heap[r]? = some o) (hc : ∀ a b c, o ≠ .cells a b c) : (getObj r).run P w = .ok o w := by
  simp only [getObj, Sem.run, hg]
theorem run_getMap {r : Nat} {es : Array MapEntry} {cl : Nat} (hg : w.heap[r]? = some (.map es cl)) : (getObj r).run P w = .ok (.map es cl) w := by
  simp only [getObj, Sem.run, hg]
theorem bytesOf_is : ∀ {l : List AV} {s : List Nat} {vs : List Value}, bytesOf l = some s → IsL E l vs → vs = s.map (fun n => Value.int .u8 (.ofNat n)) ∧ ∀ x ∈ s, x < 256
  | [], s, vs, e, hl => by simp [bytesOf] at e; subst e; cases hl; simp
  | v :: l, s, vs, e, hl => by
    cases hl with | cons _ x _ ws hv hl =>
    simp only [bytesOf] at e
    split at e
    · rename_i n r hn hr
      split at e
      · rename_i hb
        cases e
        have hb := not_ble hb
        obtain ⟨h1, h2⟩ := bytesOf_is hr hl
        unfold byteOf at hn
        split at hn
        · cases hn; cases hv
          refine ⟨by simp [h1], fun y hy => ?_⟩
          rcases List.mem_cons.1 hy with rfl | q
          · exact hb
          · exact h2 y q
        · cases hn
      · cases e
    · cases e
theorem b2s_loop : ∀ (s : List Nat) (acc : ByteArray), (forIn (s.map fun n => Value.int .u8 (.ofNat n)) acc fun c r => (match c with
      | .int .u8 n => pure (ForInStep.yield (r.push (UInt8.ofNat n.toNat)))
      | _ => (do stuck "bytesToString: byte expected"; pure (ForInStep.yield r)) : Sem (ForInStep ByteArray))).run P w = .ok (acc ++ byts s) w
  | [], acc => by
    have : acc ++ byts [] = acc := by apply ByteArray.ext; simp [byts, ByteArray.data_append]
    rw [this]; simp
  | n :: s, acc => by
    have ih := b2s_loop s (acc.push (UInt8.ofNat n))
    have e1 : (Int.ofNat n).toNat = n := rfl
    simp only [List.map_cons, List.forIn_cons, Sem.run_bind, Sem.run_pure, Result.andThen_ok, e1]
    rw [ih]
    congr 1
    apply ByteArray.ext
    simp [byts, ByteArray.data_append, ByteArray.push]
theorem convA_read (s : St P w0 E h nx w) {src dst : TypeId} {x v : AV} {y : Value} (hx : Is E x y) (e : convA P h src dst x = some v) : ∃ z, (convert src dst y).run P w = .ok z w ∧ Is E v z := by
  unfold convA at e
  split at e
  · rename_i hs hd
    have hs' : P.underlying src = _ := hs
    have hd' : P.underlying dst = _ := hd
    split at e
    · cases e; have k := hx; cases hx; exact ⟨_, by simp [convert, run_underlying hs', run_underlying hd'] <;> rfl, k⟩
    · cases e
  · rename_i el hs hd
    have hs' : P.underlying src = _ := hs
    have hd' : P.underlying dst = _ := hd
    split at e
    · rename_i hu
      have hu' : P.underlying el = _ := hu
      split at e
      · cases e; cases hx
        refine ⟨.string .empty, by simp [convert, run_underlying hs', run_underlying hd', run_underlying hu', Conv.bytesToString], ?_⟩
        exact Is.s (E := E) [] (by simp)
      · rename_i b o n c op
        obtain ⟨r, cc, rfl, hb⟩ : ∃ r cc, y = .slice (some ⟨r, o, none⟩) n cc ∧ E.at_ b = some r := by
          cases hx <;> exact ⟨_, _, rfl, by assumption⟩
        split at e
        · rename_i m cs hr
          obtain ⟨arr, t, fz, hg, hi⟩ := s.row hb hr
          split at e
          · rename_i hle
            split at e
            · rename_i l hl
              split at e
              · rename_i str hstr
                cases e
                obtain ⟨vs, h1, h2, h3⟩ := range_is hi n o l hl (ble_le hle)
                have hrun := run_loads (P := P) hg h3
                rw [h2] at hrun
                obtain ⟨q1, q2⟩ := bytesOf_is hstr h1
                refine ⟨.string (byts str), ?_, .s _ q2⟩
                have loop := b2s_loop (P := P) (w := w) str .empty
                have e0 : ByteArray.empty ++ byts str = byts str := by apply ByteArray.ext; simp [ByteArray.data_append]
                rw [e0] at loop
                subst q1
                simp only [convert, Sem.run_bind, run_underlying hs', run_underlying hd', run_underlying hu', Result.andThen_ok, Conv.bytesToString, hrun]
                rw [← Array.forIn_toList]
                simp only [Sem.run_bind, List.toList_toArray]
                erw [loop]; rfl
              · cases e
            · cases e
          · cases e
        · cases e
      · cases e
    · cases e
  · cases e

theorem cop_read {o : Oper} {f : T AV → T AB → Option AV} (e : cop P I o = .q f) : ReadOk P o f := by
  obtain ⟨dst, op, type, pos, af, g⟩ := o
  cases op with
  | load ty a =>
    simp only [cop, cop.ldC] at e
    intro w0 E h nx w t ρ v s hr hv
    have key : loadA P h ty ((opn a).ev t) = some v → ∃ x, (execOp ρ ⟨dst, .load ty a, type, pos, af, g⟩).run P w = .ok (.value x) w ∧ Is E v x := by
      intro q
      cases ha : (opn a).ev t with
      | none => rw [ha] at q; unfold loadA ld1 ldN at q; split at q <;> cases q
      | some u =>
        rw [ha] at q
        obtain ⟨r, o, y, q1, q2, q3⟩ := loadVar_ok s q (hr a (by simp [Op.operands]) u ha)
        exact ⟨y, by simp [execOp, Instr.loadAt, q1, Instr.sureAddr, q2], q3⟩
    split at e
    · rename_i n h1 h2
      cases e
      refine key ?_
      unfold loadA; rw [h1, h2]; exact hv
    · rename_i h1
      cases e
      refine key ?_
      unfold loadA; rw [h1]; exact hv
    · cases e
  | binOp op ty x y yt =>
    simp only [cop, copBin] at e
    split at e
    · cases e
    · cases e
    · split at e
      · cases e
      · cases e
      · rename_i d hd1 hd2 hu
        have hty : und P ty ≠ some .string := by rw [hu]; intro q; cases q; exact hd2 rfl
        have main : ∀ neg, (∀ w0 E h nx w t ρ v, St P w0 E h nx w → OvR E t ρ [x, y] → bin2 noI (eqFb P (isIface0 x y) ty neg h) ((opn x).ev t) ((opn y).ev t) = some v →
            ∃ z, (do eqGuard (if neg then .neq else .eql) ty x y (ρ x) (ρ y); Go.binOp (if neg then .neq else .eql) ty (ρ x) (ρ y) : Sem Value).run P w = .ok z w ∧ Is E v z) := by
          intro neg w0 E h nx w t ρ v s hr hv
          unfold bin2 at hv
          split at hv
          · cases hv
          · rename_i u hu1
            split at hv
            · cases hv
            · rename_i u2 hu2
              split at hv
              · split at hv
                · split at hv
                  · unfold noI at hv; cases hv
                  · cases hv
                · cases hv
              · rename_i hni
                exact eqFb_ok s hty (fun k n q => hni k n q) (hr x (by simp) _ hu1) (hr y (by simp) _ hu2) hv
        split at e
        · cases e
          intro w0 E h nx w t ρ v s hr hv
          obtain ⟨z, q1, q2⟩ := main false w0 E h nx w t ρ v s (fun k hk => hr k (by simpa [Op.operands] using hk)) hv
          refine ⟨z, ?_, q2⟩
          have q1' : (do eqGuard .eql ty x y (ρ x) (ρ y); Go.binOp .eql ty (ρ x) (ρ y) : Sem Value).run P w = .ok z w := q1
          simp only [execOp]
          exact run_v q1'
        · cases e
          intro w0 E h nx w t ρ v s hr hv
          obtain ⟨z, q1, q2⟩ := main true w0 E h nx w t ρ v s (fun k hk => hr k (by simpa [Op.operands] using hk)) hv
          refine ⟨z, ?_, q2⟩
          have q1' : (do eqGuard .neq ty x y (ρ x) (ρ y); Go.binOp .neq ty (ρ x) (ρ y) : Sem Value).run P w = .ok z w := q1
          simp only [execOp]
          exact run_v q1'
        · cases e
      · cases e
  | convert s d x =>
    have main : (COp.q fun t h => on1 ((opn x).ev t) fun v => convA P h s d v) = .q f → ReadOk P ⟨dst, .convert s d x, type, pos, af, g⟩ f := by
      intro e
      cases e
      intro w0 E h nx w t ρ v st hr hv
      obtain ⟨y, hy, hv⟩ := on1_some hv
      obtain ⟨z, q1, q2⟩ := convA_read st (hr x (by simp [Op.operands]) y hy) hv
      exact ⟨z, by simp [execOp, q1], q2⟩
    simp only [cop] at e
    split at e
    · split at e
      · exact main e
      · cases e
    · split at e <;> cases e
    · exact main e
    · cases e
  | lookup ty x ix ok =>
    simp only [cop] at e
    split at e
    · rename_i kt et hu
      have hu' : P.underlying ty = _ := hu
      split at e
      · rename_i z hz hk
        cases e
        intro w0 E h nx w t ρ v s hr hv
        have main : lookA P kt z ok h ((opn x).ev t) ((opn ix).ev t) = some v := hv
        unfold lookA at main
        obtain ⟨zv, z1, z2⟩ := run_zero (P := P) (E := E) (w := w) hz
        split at main
        · rename_i k hx hix
          split at main
          · rename_i hck
            have i1 := hr x (by simp [Op.operands]) _ hx
            have i2 := hr ix (by simp [Op.operands]) _ hix
            cases q1 : ρ x <;> rw [q1] at i1 <;> cases i1
            have ck := chkKey_ok (w := w) (b := true) 20 kt k hck 10000 (by omega) _ i2
            have fk : ∃ d, und P kt = some d := by
              cases hd : und P kt with
              | none => unfold chkKey at hck; rw [hd] at hck; cases hck
              | some d => exact ⟨d, rfl⟩
            obtain ⟨d, hd⟩ := fk
            obtain ⟨r', f1, f2⟩ := findKey_ok s hd i2 (es := []) (ms := []) (r := none) .nil rfl
            simp only at f2
            subst f2
            cases main
            refine ⟨if ok then .tuple #[zv, .bool false] else zv, ?_, ?_⟩
            · simp [execOp, Instr.lookup, run_underlying hu', q1, ck, f1, z1]
            · cases ok
              · exact z2
              · exact .tup _ [zv, .bool false] (.cons _ _ _ _ z2 (.cons _ _ _ _ (.b _) .nil))
          · cases main
        · rename_i b k hx hix
          split at main
          · rename_i es cl hg hck
            have i1 := hr x (by simp [Op.operands]) _ hx
            have i2 := hr ix (by simp [Op.operands]) _ hix
            cases q1 : ρ x <;> rw [q1] at i1 <;> cases i1
            rename_i r hb
            obtain ⟨ms, g1, g2⟩ := s.map hb hg
            have fk : ∃ d, und P kt = some d := by
              cases hd : und P kt with
              | none => unfold chkKey at hck; rw [hd] at hck; cases hck
              | some d => exact ⟨d, rfl⟩
            obtain ⟨d, hd⟩ := fk
            have ck := fun bb => chkKey_ok (w := w) (b := bb) 20 kt k hck 10000 (by omega) _ i2
            have go := run_getMap (P := P) g1
            split at main
            · rename_i j u hf
              obtain ⟨r', f1, x', rfl, f3, f4, _⟩ := findKey_ok s hd i2 g2 hf
              cases main
              refine ⟨if ok then .tuple #[x', .bool true] else x', ?_, ?_⟩
              · simp [execOp, Instr.lookup, run_underlying hu', q1, go, ck, f1]
              · cases ok
                · exact f3
                · exact .tup _ [x', .bool true] (.cons _ _ _ _ f3 (.cons _ _ _ _ (.b _) .nil))
            · rename_i hf
              obtain ⟨r', f1, rfl⟩ := findKey_ok s hd i2 g2 hf
              cases main
              refine ⟨if ok then .tuple #[zv, .bool false] else zv, ?_, ?_⟩
              · simp [execOp, Instr.lookup, run_underlying hu', q1, go, ck, f1, z1]
              · cases ok
                · exact z2
                · exact .tup _ [zv, .bool false] (.cons _ _ _ _ z2 (.cons _ _ _ _ (.b _) .nil))
            · cases main
          · cases main
        · cases main
      · cases e
    · cases e
  | entry x =>
    cases e
    intro w0 E h nx w t ρ v s hr hv
    have main : entA h ((opn x).ev t) = some v := hv
    unfold entA at main
    split at main
    · rename_i b hx
      have i1 := hr x (by simp [Op.operands]) _ hx
      cases q1 : ρ x <;> rw [q1] at i1 <;> cases i1
      rename_i r hb
      split at main
      · rename_i m since seen st hg
        obtain ⟨ob, o1, rm, o2, rfl⟩ := s.obj b r _ hb hg
        split at main
        · rename_i stamp es cl hs hm
          obtain ⟨ms, g1, g2⟩ := s.map o2 hm
          split at main
          · rename_i k u bo hcl hfi
            cases main
            have hcl := beq_eq hcl; subst hcl
            have key : ∀ {es : List (AV × AV × Nat)} {ms : List MapEntry}, EsIs E es ms → es.find? (fun e => Nat.beq e.2.2 stamp) = some (k, u, bo) → ∃ y, ms.find? (fun e => e.born == stamp) = some y ∧ Is E k y.key ∧ Is E u y.val := by
              intro es ms hh
              induction hh with
              | nil => intro q; simp at q
              | cons k' v' n x y l m hk hv hl ih =>
                intro q
                rw [List.find?_cons] at q ⊢
                have e1 : ((⟨x, y, n⟩ : MapEntry).born == stamp) = Nat.beq n stamp := by rw [Bool.eq_iff_iff, Nat.beq_eq]; simp
                simp only [e1]
                split at q
                · rename_i hh; cases q; simp only [hh]; exact ⟨_, rfl, hk, hv⟩
                · rename_i hh; simp only [hh]; exact ih q
            obtain ⟨y, y1, y2, y3⟩ := key g2 hfi
            refine ⟨.tuple #[y.key, y.val], ?_, .tup _ [y.key, y.val] (.cons _ _ _ _ y2 (.cons _ _ _ _ y3 .nil))⟩
            have go := run_getMap (P := P) g1
            have go2 : (getObj r).run P w = .ok (.mapIter (some rm) since seen.toArray cl) w := by simp only [getObj, Sem.run, o1]
            have hback : seen.toArray.back? = some stamp := by simpa using hs
            simp [execOp, Instr.entry, q1, go2, hback, go, y1]
          · cases main
        · cases main
      · cases main
    · cases main
  | call c =>
    simp only [cop, copCall] at e
    split at e
    · rename_i b hc
      unfold copB at e
      split at e
      · split at e
        · rename_i x ty hx ha
          obtain ⟨a, h1, rfl⟩ := args1 hx
          unfold copLen at e
          split at e
          · rename_i k v hu
            have hu' : P.underlying ty = _ := hu
            cases e
            intro w0 E h nx w t ρ u s hr hv
            obtain ⟨y, hy, hv⟩ := on1_some hv
            have i1 := hr a (by simp [Op.operands, Call.operands, hc, h1]) y hy
            rw [exec_builtin hc]
            unfold lenA at hv
            rw [hu] at hv
            simp only at hv
            split at hv
            · rename_i n hn
              cases hv
              split at hn
              · cases hn
                cases q1 : ρ a <;> rw [q1] at i1 <;> cases i1
                exact ⟨_, by simp [callOp, Go.builtin, h1, Builtin.len_, ha, run_underlying hu', q1] <;> rfl, .i _ _⟩
              · rename_i b'
                split at hn
                · rename_i es cl hg
                  cases hn
                  cases q1 : ρ a <;> rw [q1] at i1 <;> cases i1
                  rename_i r hb
                  obtain ⟨ms, g1, g2⟩ := s.map hb hg
                  have go := run_getMap (P := P) g1
                  refine ⟨goInt es.length, ?_, .i _ _⟩
                  simp [callOp, Go.builtin, h1, Builtin.len_, ha, run_underlying hu', q1, go, g2.length]
                · cases hn
              · cases hn
            · cases hv
          · cases e
        · cases e
      · (repeat' split at e) <;> cases e
      · cases e
      · cases e
      · (repeat' split at e) <;> cases e
      · split at e
        · split at e
          · split at e
            · unfold copApp at e; (repeat' split at e) <;> cases e
            · cases e
          · cases e
        · cases e
      · cases e
      · cases e
    · split at e <;> cases e
    · cases e
  | move x => cases e
  | assign x => cases e
  | pick c a b => cases e
  | alloc ty => simp only [cop] at e; (repeat' split at e) <;> cases e
  | box ty x => simp only [cop, cop.bxC] at e; cases e
  | build ty ps => cases e
  | buildSlice ty n ps => simp only [cop] at e; (repeat' split at e) <;> cases e
  | insert ty m k x => simp only [cop] at e; (repeat' split at e) <;> cases e
  | store ty a x => simp only [cop, cop.stC] at e; (repeat' split at e) <;> cases e
  | ready n => cases e
  | waits n => cases e
  | nilCheck x => cases e
  | unOp op ty x => cases e
  | sliceToArrayPointer ty x => cases e
  | makeInterface ty x => simp only [cop] at e; (repeat' split at e) <;> cases e
  | makeFunc f a b => simp only [cop] at e; (repeat' split at e) <;> cases e
  | makeMap ty r => simp only [cop, cop.mmC] at e; (repeat' split at e) <;> cases e
  | makeChan ty x => cases e
  | makeSlice ty l c => simp only [cop] at e; (repeat' split at e) <;> cases e
  | slice ty x lo hi mx => cases e
  | fieldAddr ty x f => simp only [cop] at e; (repeat' split at e) <;> cases e
  | field ty x f => simp only [cop] at e; (repeat' split at e) <;> cases e
  | indexAddr ty x ix => simp only [cop] at e; (repeat' split at e) <;> cases e
  | index ty x ix => simp only [cop] at e; (repeat' split at e) <;> cases e
  | mapUpdate ty m k x => simp only [cop] at e; (repeat' split at e) <;> cases e
  | mapEntry ty m k => cases e
  | entryStore ty m k x => cases e
  | range ty x => cases e
  | next x s => cases e
  | typeAssert x xt ty ok => simp only [cop] at e; (repeat' split at e) <;> cases e
  | extract x i => cases e
  | go c => cases e
  | defer c => simp only [cop] at e; split at e <;> cases e
  | panic x => cases e
  | send c x => cases e
  | recv t c k => cases e
  | select cs b => cases e
end Go.Ev
