/- A certified evaluator of closed calls, part P15. -/
import Derived.Test.YthmaejcpadoljaaGreatEvP14
namespace Go.Ev
open Go Go.RowKit
set_option linter.unusedVariables false
set_option linter.unusedSimpArgs false
variable {P : Program} {I : FuncId → List AV → Option AV} {w0 : World} {E : Env} {h : T AB} {nx : Nat} {w : World}

theorem bytesEq_eq : ∀ {a b : List Nat}, bytesEq a b = true → a = b
  | [], [], _ => rfl
  | [], _ :: _, e => by simp [bytesEq] at e
  | _ :: _, [], e => by simp [bytesEq] at e
  | a :: x, b :: y, e => by
    simp only [bytesEq, Bool.and_eq_true] at e
    rw [beq_eq e.1, bytesEq_eq e.2]
theorem eqI_eq {a b : Int} (e : eqI a b = true) : a = b := by rw [eqI_iff] at e; simpa using e
theorem same0_eq {a b : AV} (e : same0 a b = true) : a = b := by
  unfold same0 at e
  split at e
  · split at e
    · simp at e; rw [e]
    · cases e
  · split at e
    · simp only [Bool.and_eq_true] at e; rw [sameK_eq e.1, eqI_eq e.2]
    · cases e
  · split at e
    · rw [bytesEq_eq e]
    · cases e
  · cases e
theorem sameL_eq : ∀ {l m : List AV}, sameL l m = true → l = m
  | [], [], _ => rfl
  | [], _ :: _, e => by simp [sameL] at e
  | _ :: _, [], e => by simp [sameL] at e
  | a :: l, b :: m, e => by
    simp only [sameL, Bool.and_eq_true] at e
    rw [same0_eq e.1, sameL_eq e.2]
theorem sameBits0 {a b : AV} (e : same0 a b = true) {x y : Value} (hx : Is E a x) (hy : Is E b y) (n : Nat) : Instr.sameBits n y x = true := by
  have hab := same0_eq e
  subst hab
  unfold same0 at e
  split at e
  · cases hx; cases hy; simp [Instr.sameBits]
  · cases hx; cases hy; simp [Instr.sameBits]
  · cases hx; cases hy; rw [Instr.sameBits, beq_toListBytes]; simp
  · cases e
theorem sameBitsL {n : Nat} : ∀ {l m : List AV} {xs ys : List Value}, sameL l m = true → IsL E l xs → IsL E m ys → (ys.zip xs).all (fun p => Instr.sameBits n p.1 p.2) = true ∧ ys.length = xs.length
  | [], [], _, _, _, .nil, .nil => by simp
  | [], _ :: _, _, _, e, _, _ => by simp [sameL] at e
  | _ :: _, [], _, _, e, _, _ => by simp [sameL] at e
  | a :: l, b :: m, _, _, e, .cons _ _ _ _ h1 h2, .cons _ _ _ _ h3 h4 => by
    simp only [sameL, Bool.and_eq_true] at e
    have := sameBitsL (n := n) e.2 h2 h4
    simp [sameBits0 e.1 h1 h3 n, this.1, this.2]
/-- a key that is the same bit by bit stays, whichever of the two it is -/
theorem keySame_ok {k : AV} {e : AV × AV × Nat} (h : keySame k (some e) = true) {x y : Value} (hx : Is E k x) (hy : Is E e.1 y) : Is E e.1 x ∧ (Instr.keyThatStays y x).run P w = .ok x w := by
  have key : k = e.1 ∧ Instr.sameBits 10000 y x = true := by
    unfold keySame at h
    simp only at h
    split at h
    · rename_i l
      split at h
      · rename_i m hm
        have := sameL_eq h
        refine ⟨by rw [hm, this], ?_⟩
        obtain ⟨vs, rfl, h1⟩ := is_agg hx
        rw [hm] at hy
        obtain ⟨ws, rfl, h2⟩ := is_agg hy
        have := sameBitsL (n := 9999) h h1 h2
        show (ws.toArray.size == vs.toArray.size && (ws.toArray.toList.zip vs.toArray.toList).all fun (x, y) => Instr.sameBits 9999 x y) = true
        simp only [Bool.and_eq_true, beq_iff_eq, List.size_toArray, List.toList_toArray]
        exact ⟨this.2, this.1⟩
      · cases h
    · exact ⟨same0_eq h, sameBits0 h hx hy 10000⟩
  refine ⟨by rw [← key.1]; exact hx, by simp [Instr.keyThatStays, key.2]⟩

theorem stA_ok (s : St P w0 E h nx w) {sz : Nat} {ty : TypeId} (hsz : size P ty = some sz) {a x : Option AV} {av xv : Value} {v : AV} {h' : T AB} {nx' : Nat} (ha : ∀ u, a = some u → Is E u av) (hx : ∀ u, x = some u → Is E u xv) (e : stA sz h nx a x = some (v, h', nx')) :
    v = .undef ∧ nx' = nx ∧ ∃ w', (Instr.storeAt ty av xv).run P w = .ok () w' ∧ St P w0 E h' nx w' ∧ Ext E h nx E h' nx := by
  unfold stA at e
  split at e
  · rename_i b o u
    split at e
    · rename_i c1 c2
      split at e
      · rename_i hh hst
        cases e
        have i1 := ha _ rfl
        have i2 := hx _ rfl
        cases i1 with
        | ptr _ _ r hb =>
        have hc := is_cells s.flat i2
        obtain ⟨w', k1, k2, k3⟩ := storeA_ok s hb hst hc c2
        refine ⟨rfl, rfl, w', ?_, k2, k3⟩
        have hlen : xv.cells.size = sz := by have := hc.length; have c1 := beq_eq c1; simp at this; omega
        simp [Instr.storeAt, Instr.sureAddr, storeVar, run_size hsz, hlen, k1]
      · cases e
    · cases e
  · cases e

theorem setObj_map {r : Nat} {es : Array MapEntry} {cl : Nat} {o : Obj} (hg : w.heap[r]? = some (.map es cl)) : (setObj r o).run P w = .ok () { w with heap := w.heap.setIfInBounds r o } := by
  simp only [setObj, Sem.run, hg]
theorem heap_set {r : Nat} {old o : Obj} (hg : w.heap[r]? = some old) : (w.heap.setIfInBounds r o)[r]? = some o := by
  have := (Array.getElem?_eq_some_iff.1 hg).1
  simp [this]
theorem EsIs.app : ∀ {l l' : List (AV × AV × Nat)} {m m' : List MapEntry}, EsIs E l m → EsIs E l' m' → EsIs E (l ++ l') (m ++ m')
  | _, _, _, _, .nil, h => h
  | _, _, _, _, .cons k v n x y l m h1 h2 hl, h => .cons _ _ _ _ _ _ _ h1 h2 (hl.app h)
theorem EsIs.modify {v : AV} {x y : Value} : ∀ {l : List (AV × AV × Nat)} {m : List MapEntry}, EsIs E l m → ∀ (i : Nat) (e : AV × AV × Nat), l[i]? = some e → Is E e.1 x → Is E v y →
    EsIs E (l.modify i fun e => (e.1, v, e.2.2)) (m.modify i fun q => { q with key := x, val := y })
  | _, _, .nil, i, e, q, _, _ => by simp at q
  | _, _, .cons k u n a b l m h1 h2 hl, 0, e, q, hx, hy => by
    simp at q; subst q
    exact .cons _ _ _ _ _ _ _ hx hy hl
  | _, _, .cons k u n a b l m h1 h2 hl, i + 1, e, q, hx, hy => by
    simp only [List.modify_succ_cons]
    exact .cons _ _ _ _ _ _ _ h1 h2 (EsIs.modify hl i e (by simpa using q) hx hy)
theorem mapUpA_ok (s : St P w0 E h nx w) {ty kt et : TypeId} (hu : P.underlying ty = some (.map kt et)) {m k x : Option AV} {mv kv xv : Value} {v : AV} {h' : T AB} {nx' : Nat}
    (hm : ∀ u, m = some u → Is E u mv) (hk : ∀ u, k = some u → Is E u kv) (hx : ∀ u, x = some u → Is E u xv) (e : mapUpA P kt h nx m k x = some (v, h', nx')) :
    v = .undef ∧ nx' = nx ∧ ∃ w', (Instr.mapUpdate ty mv kv xv).run P w = .ok () w' ∧ St P w0 E h' nx w' ∧ Ext E h nx E h' nx := by
  unfold mapUpA at e
  split at e
  · rename_i b ku xu
    have i1 := hm _ rfl
    have i2 := hk _ rfl
    have i3 := hx _ rfl
    cases i1 with
    | mp _ r hb =>
    split at e
    · rename_i es cl hg hck
      obtain ⟨ms, g1, g2⟩ := s.map hb hg
      have fk : ∃ d, und P kt = some d := by
        cases hd : und P kt with
        | none => unfold chkKey at hck; rw [hd] at hck; cases hck
        | some d => exact ⟨d, rfl⟩
      obtain ⟨d, hd⟩ := fk
      have ck := fun bb => chkKey_ok (w := w) (b := bb) 20 kt ku hck 10000 (by omega) _ i2
      have go := run_getMap (P := P) g1
      have hr : w0.heap.size ≤ r := by
        rcases s.own b r _ hb hg with ⟨_, _, z⟩ | z
        · cases z
        · exact z
      have fin : ∀ (es' : List (AV × AV × Nat)) (ms' : List MapEntry) (cl' : Nat), EsIs E es' ms' → St P w0 E (h.set b (.map es' cl')) nx { w with heap := w.heap.setIfInBounds r (.map ms'.toArray cl') } ∧ Ext E h nx E (h.set b (.map es' cl')) nx := by
        intro es' ms' cl' hh
        refine ⟨s.turn hb hr ⟨_, hg, by simp⟩ (by simp) (heap_set g1) (fun q hq => by simp [Array.getElem?_setIfInBounds_ne (Ne.symm hq)]) rfl rfl rfl ⟨ms', rfl, hh⟩, Ext.turn s _ hb⟩
      split at e
      · rename_i j u hf
        obtain ⟨r', f1, x', rfl, f3, f4, ee, f5, _⟩ := findKey_ok s hd i2 g2 hf
        split at e
        · rename_i hks
          cases e
          rw [f5] at hks
          obtain ⟨me, m1, m2, m3, m4⟩ := g2.get j ee f5
          obtain ⟨t1, t2⟩ := keySame_ok (P := P) (w := w) hks i2 m2
          have fin' := fin _ _ cl (g2.modify j ee f5 t1 i3)
          refine ⟨rfl, rfl, _, ?_, fin'.1, fin'.2⟩
          have hmj : ms.toArray[j]? = some me := by simpa using m1
          have hmod : ms.toArray.modify j (fun q => { q with key := kv, val := xv }) = (ms.modify j fun q => { q with key := kv, val := xv }).toArray := Array.ext' (by simp)
          simp only [Instr.mapUpdate, Sem.run_bind, run_underlying hu, Result.andThen_ok, go, ck, f1, hmj, Option.map_some, Option.getD_some, t2, setObj_map g1]
          rw [hmod]
        · cases e
      · rename_i hf
        obtain ⟨r', f1, rfl⟩ := findKey_ok s hd i2 g2 hf
        cases e
        have fin' := fin _ _ (cl + 1) (g2.app (.cons ku xu cl kv xv [] [] i2 i3 .nil))
        refine ⟨rfl, rfl, _, ?_, fin'.1, fin'.2⟩
        have hpush : ms.toArray.push ({ key := kv, val := xv, born := cl } : MapEntry) = (ms ++ [({ key := kv, val := xv, born := cl } : MapEntry)]).toArray := Array.ext' (by simp)
        simp only [Instr.mapUpdate, Sem.run_bind, run_underlying hu, Result.andThen_ok, go, ck, f1, setObj_map g1]
        rw [hpush]
      · cases e
    · cases e
  · cases e
theorem cop_state {o : Oper} {f : T AV → T AB → Nat → Option (AV × T AB × Nat)} (e : cop P I o = .st f) : StateOk P o f := by
  obtain ⟨dst, op, type, pos, af, g⟩ := o
  cases op with
  | store ty a x =>
    simp only [cop, cop.stC] at e
    split at e
    · rename_i n hn
      cases e
      intro w0 E h nx w t ρ v h' nx' s hr hv
      obtain ⟨rfl, rfl, w', k1, k2, k3⟩ := stA_ok s hn (fun u hu => hr a (by simp [Op.operands]) u hu) (fun u hu => hr x (by simp [Op.operands]) u hu) hv
      exact ⟨E, w', .skip, by simp [execOp, k1], ⟨undef, .inr ⟨rfl, rfl⟩⟩, k2, k3⟩
    · cases e
  | mapUpdate ty m k x =>
    simp only [cop] at e
    split at e
    · rename_i kt et hu
      split at e
      · cases e
        intro w0 E h nx w t ρ v h' nx' s hr hv
        obtain ⟨rfl, rfl, w', k1, k2, k3⟩ := mapUpA_ok s hu (fun u hu => hr m (by simp [Op.operands]) u hu) (fun u hu => hr k (by simp [Op.operands]) u hu) (fun u hu => hr x (by simp [Op.operands]) u hu) hv
        exact ⟨E, w', .skip, by simp [execOp, k1], ⟨undef, .inr ⟨rfl, rfl⟩⟩, k2, k3⟩
      · cases e
    · cases e
  | insert ty m k x =>
    simp only [cop] at e
    split at e
    · rename_i kt et hu
      split at e
      · cases e
        intro w0 E h nx w t ρ v h' nx' s hr hv
        obtain ⟨rfl, rfl, w', k1, k2, k3⟩ := mapUpA_ok s hu (fun u hu => hr m (by simp [Op.operands]) u hu) (fun u hu => hr k (by simp [Op.operands]) u hu) (fun u hu => hr x (by simp [Op.operands]) u hu) hv
        exact ⟨E, w', .skip, by simp [execOp, k1], ⟨undef, .inr ⟨rfl, rfl⟩⟩, k2, k3⟩
      · cases e
    · cases e
  | call c =>
    simp only [cop, copCall] at e
    split at e
    · rename_i b hc
      have hb : b = .append := by
        unfold copB copLen at e
        split at e <;> first | rfl | ((repeat' split at e) <;> cases e)
      subst hb
      exact copApp_state hc e
    · split at e <;> cases e
    · cases e
  | alloc ty => simp only [cop] at e; (repeat' split at e) <;> cases e
  | box ty x => simp only [cop, cop.bxC] at e; cases e
  | buildSlice ty n ps => simp only [cop] at e; (repeat' split at e) <;> cases e
  | makeMap ty r => simp only [cop, cop.mmC] at e; (repeat' split at e) <;> cases e
  | makeSlice ty l c => simp only [cop] at e; (repeat' split at e) <;> cases e
  | move x => cases e
  | assign x => cases e
  | pick c a b => cases e
  | build ty ps => cases e
  | load ty a => simp only [cop, cop.ldC] at e; (repeat' split at e) <;> cases e
  | ready n => cases e
  | waits n => cases e
  | nilCheck x => cases e
  | binOp op ty x y yt => simp only [cop, copBin] at e; (repeat' split at e) <;> cases e
  | unOp op ty x => cases e
  | convert s d x => simp only [cop] at e; (repeat' split at e) <;> cases e
  | sliceToArrayPointer ty x => cases e
  | makeInterface ty x => simp only [cop] at e; (repeat' split at e) <;> cases e
  | makeFunc f a b => simp only [cop] at e; (repeat' split at e) <;> cases e
  | makeChan ty x => cases e
  | slice ty x lo hi mx => cases e
  | fieldAddr ty x f => simp only [cop] at e; (repeat' split at e) <;> cases e
  | field ty x f => simp only [cop] at e; (repeat' split at e) <;> cases e
  | indexAddr ty x ix => simp only [cop] at e; (repeat' split at e) <;> cases e
  | index ty x ix => simp only [cop] at e; (repeat' split at e) <;> cases e
  | lookup ty x ix ok => simp only [cop] at e; (repeat' split at e) <;> cases e
  | mapEntry ty m k => cases e
  | entryStore ty m k x => cases e
  | range ty x => cases e
  | next x s => cases e
  | entry x => cases e
  | typeAssert x xt ty ok => simp only [cop] at e; (repeat' split at e) <;> cases e
  | extract x i => cases e
  | go c => cases e
  | defer c => simp only [cop] at e; split at e <;> cases e
  | panic x => cases e
  | send c x => cases e
  | recv t c k => cases e
  | select cs b => cases e
end Go.Ev
