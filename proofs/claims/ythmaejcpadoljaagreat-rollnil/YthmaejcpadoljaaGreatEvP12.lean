/- A certified evaluator of closed calls, part P12. -/
import Derived.Test.YthmaejcpadoljaaGreatEvP11
namespace Go.Ev
open Go Go.RowKit
set_option linter.unusedVariables false
set_option linter.unusedSimpArgs false
variable {P : Program} {I : FuncId → List AV → Option AV} {w0 : World} {E : Env} {h : T AB} {nx : Nat} {w : World}

def FreshOk (P : Program) (o : Oper) (f : T AV → Nat → Option (AB × AV)) : Prop := ∀ E t ρ b ab v, Flat E → OvR E t ρ o.op.operands.toList → f t b = some (ab, v) → E.at_ b = none → ∀ w : World,
  ∃ ob x, (execOp ρ o).run P w = .ok (.value x) (w.alloc ob) ∧ ab ≠ .dead ∧ OIs P (E.upd b w.heap.size 0) b ab ob ∧ Is (E.upd b w.heap.size 0) v x

theorem row_ok {E : Env} {b : Nat} {l : List AV} {vs : List Value} (hl : IsL E l vs) (e : TypeId) : OIs P E b (row l e) (.cells vs.toArray e (0, 0)) := by
  have hn := hl.length
  refine ⟨vs.toArray, rfl, by simp; omega, fun _ => by simp; omega, fun q => (by cases q), fun k v hk hv => ?_⟩
  rw [get_setAll] at hv
  simp only [Nat.zero_le, Nat.zero_add, true_and, hk, if_true, Nat.sub_zero] at hv
  obtain ⟨x, h1, h2⟩ := hl.get k v hv
  exact ⟨x, by simpa using h1, h2⟩
theorem run_newVar {t : TypeId} {v : Value} : (newVar t v).run P w = .ok ⟨w.heap.size, 0, none⟩ (w.alloc (.cells v.cells t)) := by
  simp [newVar, newRow]
theorem run_newRow {t : TypeId} {c : Array Value} : (newRow t c).run P w = .ok ⟨w.heap.size, 0, none⟩ (w.alloc (.cells c t)) := by
  simp [newRow]
def repV (c : List Value) : Nat → List Value
  | 0 => []
  | n + 1 => c ++ repV c n
theorem rep_is {z : List AV} {zs : List Value} (hz : IsL E z zs) : ∀ n, IsL E (rep z n) (repV zs n)
  | 0 => .nil
  | n + 1 => hz.app (rep_is hz n)
theorem repV_length (zs : List Value) : ∀ n, (repV zs n).length = n * zs.length
  | 0 => by simp [repV]
  | n + 1 => by simp [repV, repV_length zs n, Nat.add_mul, Nat.add_comm]
theorem repV_get (zs : List Value) (hz : 0 < zs.length) : ∀ n i, i < n * zs.length → (repV zs n)[i]? = zs[i % zs.length]?
  | 0, i, h => by omega
  | n + 1, i, h => by
    rw [repV]
    rcases Nat.lt_or_ge i zs.length with q | q
    · rw [List.getElem?_append_left q, Nat.mod_eq_of_lt q]
    · rw [List.getElem?_append_right q, repV_get zs hz n (i - zs.length) (by rw [Nat.add_mul] at h; omega), Nat.mod_eq_sub_mod q]
theorem range_rep (zs : Array Value) (n : Nat) (hz : 0 < zs.size) : (Array.range (n * zs.size)).map (fun i => zs[i % zs.size]!) = (repV zs.toList n).toArray := by
  apply Array.ext'
  apply List.ext_getElem?
  intro i
  rcases Nat.lt_or_ge i (n * zs.size) with q | q
  · have hm : i % zs.size < zs.size := Nat.mod_lt _ hz
    have h1 := repV_get zs.toList (by simpa using hz) n i (by simpa using q)
    simp only [List.toList_toArray, h1]
    simp [q, hm]
  · have h1 : (repV zs.toList n)[i]? = none := List.getElem?_eq_none (by rw [repV_length]; simpa using q)
    simp only [List.toList_toArray, h1]
    simp; omega
theorem zero_cells (hf : Flat E) {t : TypeId} {z : AV} (e : zeroA P t = some z) : ∃ v, (∀ w, (zeroValue t).run P w = .ok v w) ∧ IsL E (cells z) v.cells.toList := by
  unfold zeroA at e
  split at e
  · rename_i i hi
    split at e
    · rename_i v hv; exact ⟨v, fun w => by simp [zeroValue, typeInfo, hi, hv], is_cells hf (ofValue_is E v z e)⟩
    · cases e
  · cases e
theorem flat_upd {E : Env} {b r c : Nat} (hf : Flat E) : Flat (E.upd b r c) := hf

theorem cop_fresh {o : Oper} {f : T AV → Nat → Option (AB × AV)} (e : cop P I o = .fr f) : FreshOk P o f := by
  obtain ⟨dst, op, type, pos, af, g⟩ := o
  cases op with
  | alloc ty =>
    simp only [cop] at e
    split at e
    · rename_i z hz
      split at e
      · cases e
        intro E t ρ b ab v hf hr hv hb w
        cases hv
        obtain ⟨zv, z1, z2⟩ := zero_cells (E := E) hf hz
        have hle := E.upd_le w.heap.size 0 hb
        refine ⟨.cells zv.cells ty, .pointer (some ⟨w.heap.size, 0, none⟩), ?_, by simp [row], ?_, .ptr _ _ _ (by simp)⟩
        · simp [execOp, Instr.alloc, z1, run_newVar]
        · have := row_ok (P := P) (b := b) (z2.le hle) ty
          simpa using this
      · cases e
    · cases e
  | box ty x =>
    cases e
    intro E t ρ b ab v hf hr hv hb w
    dsimp only at hv
    split at hv
    · rename_i u hu
      unfold allFlatS at hv
      split at hv
      · cases hv
        have hle := E.upd_le w.heap.size 0 hb
        have hc := is_cells hf (hr x (by simp [Op.operands]) u hu)
        refine ⟨.cells (ρ x).cells ty, .pointer (some ⟨w.heap.size, 0, none⟩), ?_, by simp [row], ?_, .ptr _ _ _ (by simp)⟩
        · simp [execOp, Instr.box, run_newVar]
        · have := row_ok (P := P) (b := b) (hc.le hle) ty
          simpa using this
      · cases hv
    · cases hv
  | buildSlice ty n ps =>
    simp only [cop] at e
    split at e
    · rename_i el hu
      have hu' : P.underlying ty = _ := hu
      split at e
      · rename_i sz z hsz hz
        split at e
        · rename_i c1 c2 c3
          cases e
          intro E t ρ b ab v hf hr hv hb w
          have hle := E.upd_le w.heap.size 0 hb
          dsimp only at hv
          unfold slLit at hv
          split at hv
          · rename_i l hl
            split at hv
            · rename_i cs hcs
              unfold allFlatS at hv
              split at hv
              · cases hv
                have hp := OvR.evs (ρ := ρ) (xs := ps.toList) (fun x hx => hr x (by simpa [Op.operands] using hx)) hl
                obtain ⟨zv, z1, z2⟩ := zero_cells (E := E) hf hz
                have c1 : n * sz ≤ 16777216 := ble_le c1
                have c2 : 1 ≤ sz := ble_le c2
                have c3 := beq_eq c3
                have hzs : zv.cells.size = sz := by have := z2.length; simp at this; omega
                obtain ⟨ws, k1, k2⟩ := fill_ok hf (fun i => some (i * sz, sz)) l _ _ _ _ hp (rep_is z2 n) hcs
                refine ⟨.cells ws.toArray el, .slice (some ⟨w.heap.size, 0, none⟩) n n, ?_, by simp [row], row_ok (k2.le hle) el, .sl _ _ _ _ _ (by simp) (Nat.le_refl _)⟩
                have hn : ¬ (n * sz > 2 ^ 24) := by omega
                have hrun : (Instr.buildSlice ty n (ps.map fun (i, x) => (i, ρ x))).run P w = .ok (.slice (some ⟨w.heap.size, 0, none⟩) n n) (w.alloc (.cells ws.toArray el)) := by
                  have hfill : Instr.fill (fun i => some (i * sz, sz)) ((Array.range (n * sz)).map (fun i => (if n * sz = 0 then #[] else zv.cells)[i % (if n * sz = 0 then #[] else zv.cells).size]!)) (ps.map fun (i, x) => (i, ρ x)).toList = some ws.toArray := by
                    have e1 : ((Array.range (n * sz)).map (fun i => (if n * sz = 0 then #[] else zv.cells)[i % (if n * sz = 0 then #[] else zv.cells).size]!)) = (repV zv.cells.toList n).toArray := by
                      by_cases h0 : n * sz = 0
                      · have : n = 0 := by rcases Nat.mul_eq_zero.1 h0 with q | q; exact q; omega
                        subst this
                        apply Array.ext'
                        simp [repV]
                      · simp only [h0, if_false]
                        rw [← hzs]
                        exact range_rep zv.cells n (by omega)
                    rw [e1]
                    simpa using k1
                  simp only [Instr.buildSlice, Sem.run_bind, run_underlying hu', Result.andThen_ok, run_size hsz, Sem.run_ite, hn, if_false]
                  by_cases h0 : n * sz = 0
                  · simp only [h0, if_true, Sem.run_pure, Result.andThen_ok] at hfill ⊢
                    rw [hfill]; simp [run_newRow]
                  · simp only [h0, if_false, Sem.run_bind, z1, Result.andThen_ok, Sem.run_pure] at hfill ⊢
                    rw [hfill]; simp [run_newRow]
                simp only [execOp]
                exact run_v hrun
              · cases hv
            · cases hv
          · cases hv
        · cases e
      · cases e
    · cases e
  | makeSlice ty l c =>
    simp only [cop] at e
    split at e
    · rename_i el hu
      have hu' : P.underlying ty = _ := hu
      split at e
      · rename_i sz z ti hsz hz hti
        split at e
        · rename_i c1 c2 c3
          cases e
          intro E t ρ b ab v hf hr hv hb w
          have hle := E.upd_le w.heap.size 0 hb
          dsimp only at hv
          unfold mkSl at hv
          split at hv
          · rename_i n m hl hc
            split at hv
            · rename_i d1 d2
              unfold allFlatS at hv
              split at hv
              · cases hv
                have i1 := hr l (by simp [Op.operands]) _ hl
                have i2 := hr c (by simp [Op.operands]) _ hc
                cases q1 : ρ l <;> rw [q1] at i1 <;> cases i1
                cases q2 : ρ c <;> rw [q2] at i2 <;> cases i2
                obtain ⟨zv, z1, z2⟩ := zero_cells (E := E) hf hz
                have c1 : 1 ≤ sz := ble_le c1
                have c2 := beq_eq c2
                have c3 : ti.bytes ≤ 1024 := ble_le c3
                have d1 := ble_le d1
                have d2 : m ≤ 1048576 := ble_le d2
                have hzs : zv.cells.size = sz := by have := z2.length; simp at this; omega
                refine ⟨.cells (repV zv.cells.toList m).toArray el, .slice (some ⟨w.heap.size, 0, none⟩) n m, ?_, by simp [row], row_ok ((rep_is z2 m).le hle) el, .sl _ _ _ _ _ (by simp) d1⟩
                have w1 : IntKind.i64.wrap (Int.ofNat n) = Int.ofNat n := wrap_nat .i64 n (by simp only [topN]; omega)
                have w2 : IntKind.i64.wrap (Int.ofNat m) = Int.ofNat m := wrap_nat .i64 m (by simp only [topN]; omega)
                have hmul : ti.bytes * m ≤ 1024 * 1048576 := Nat.mul_le_mul c3 d2
                have big : (decide (Int.ofNat m < 0) || decide ((ti.bytes : Int) * Int.ofNat m > 2 ^ 48)) = false := by
                  have a1 : ¬ (Int.ofNat m < 0) := by have := Int.natCast_nonneg m; intro q; have : (Int.ofNat m) = (m : Int) := rfl; omega
                  have a2 : ¬ ((ti.bytes : Int) * Int.ofNat m > 2 ^ 48) := by
                    have : (ti.bytes : Int) * Int.ofNat m = ((ti.bytes * m : Nat) : Int) := by simp
                    rw [this]; omega
                  rw [decide_eq_false a1, decide_eq_false a2]; rfl
                have o1 : (decide (Int.ofNat n < 0) || decide (Int.ofNat n > Int.ofNat m)) = false := by
                  have : (Int.ofNat n) = (n : Int) := rfl
                  have : (Int.ofNat m) = (m : Int) := rfl
                  simp; omega
                have hrun : (Instr.makeSlice ty (.int .i64 (.ofNat n)) (.int .i64 (.ofNat m))).run P w = .ok (.slice (some ⟨w.heap.size, 0, none⟩) n m) (w.alloc (.cells (repV zv.cells.toList m).toArray el)) := by
                  have e1 : ((Array.range (m * sz)).map (fun i => (if m * sz = 0 then #[] else zv.cells)[i % (if m * sz = 0 then #[] else zv.cells).size]!)) = (repV zv.cells.toList m).toArray := by
                    by_cases h0 : m * sz = 0
                    · have : m = 0 := by rcases Nat.mul_eq_zero.1 h0 with q | q; exact q; omega
                      subst this
                      apply Array.ext'
                      simp [repV]
                    · simp only [h0, if_false]
                      rw [← hzs]
                      exact range_rep zv.cells m (by omega)
                  have t1 : (typeInfo el).run P w = .ok ti w := by simp [typeInfo, hti]
                  have cond : (decide (Int.ofNat m < 0) || decide ((ti.bytes : Int) * Int.ofNat m > 2 ^ 48) || decide (Int.ofNat n < 0) || decide (Int.ofNat n > Int.ofNat m)) = false := by
                    rw [Bool.or_assoc, big, o1]; rfl
                  simp only [Instr.makeSlice, Sem.run_bind, run_underlying hu', Result.andThen_ok, asInt, asIntOf, Sem.run_pure, t1, w1, w2, Sem.run_ite]
                  rw [if_neg (by rw [cond]; simp)]
                  have n1 : (Int.ofNat n).toNat = n := rfl
                  have n2 : (Int.ofNat m).toNat = m := rfl
                  simp only [Sem.run_bind, run_askRoom, Result.andThen_ok, run_size hsz, n1, n2, Sem.run_ite]
                  by_cases h0 : m * sz = 0
                  · simp only [h0, if_true, Sem.run_pure, Result.andThen_ok] at e1 ⊢
                    simp only [Sem.run_bind, run_newRow, Result.andThen_ok, Sem.run_pure]
                    rw [e1]
                  · simp only [h0, if_false, Sem.run_bind, z1, Result.andThen_ok, Sem.run_pure] at e1 ⊢
                    simp only [Sem.run_bind, run_newRow, Result.andThen_ok, Sem.run_pure]
                    rw [e1]
                simp only [execOp, q1, q2]
                exact run_v hrun
              · cases hv
            · cases hv
          · cases hv
        · cases e
      · cases e
    · cases e
  | makeMap ty r =>
    simp only [cop] at e
    split at e
    · cases e
      intro E t ρ b ab v hf hr hv hb w
      cases hv
      exact ⟨.map #[] 0, .map (some w.heap.size), by simp [execOp, Instr.makeMap], by simp, ⟨[], rfl, .nil⟩, .mp _ _ (by simp)⟩
    · rename_i r
      split at e
      · rename_i k v hu
        have hu' : P.underlying ty = _ := hu
        cases e
        intro E t ρ b ab v hf hr hv hb w
        dsimp only at hv
        split at hv
        · rename_i kk n hx
          cases hv
          have i1 := hr r (by simp [Op.operands]) _ hx
          cases q1 : ρ r <;> rw [q1] at i1 <;> cases i1
          exact ⟨.map #[] 0, .map (some w.heap.size), by simp [execOp, Instr.makeMap, run_underlying hu', q1, asInt, asIntOf], by simp, ⟨[], rfl, .nil⟩, .mp _ _ (by simp)⟩
        · cases hv
      · cases e
  | move x => cases e
  | assign x => cases e
  | pick c a b => cases e
  | build ty ps => cases e
  | insert ty m k x => simp only [cop] at e; (repeat' split at e) <;> cases e
  | load ty a => simp only [cop, cop.ldC] at e; (repeat' split at e) <;> cases e
  | store ty a x => simp only [cop, cop.stC] at e; (repeat' split at e) <;> cases e
  | ready n => cases e
  | waits n => cases e
  | nilCheck x => cases e
  | binOp op ty x y yt => simp only [cop, copBin] at e; (repeat' split at e) <;> cases e
  | unOp op ty x => cases e
  | convert s d x => simp only [cop] at e; (repeat' split at e) <;> cases e
  | sliceToArrayPointer ty x => cases e
  | makeInterface ty x => simp only [cop] at e; (repeat' split at e) <;> cases e
  | makeFunc f a b => simp only [cop] at e; (repeat' split at e) <;> cases e
  | makeChan ty x => cases e
  | slice ty x lo hi mx => cases e
  | fieldAddr ty x f => simp only [cop] at e; (repeat' split at e) <;> cases e
  | field ty x f => simp only [cop] at e; (repeat' split at e) <;> cases e
  | indexAddr ty x ix => simp only [cop] at e; (repeat' split at e) <;> cases e
  | index ty x ix => simp only [cop] at e; (repeat' split at e) <;> cases e
  | lookup ty x ix ok => simp only [cop] at e; (repeat' split at e) <;> cases e
  | mapUpdate ty m k x => simp only [cop] at e; (repeat' split at e) <;> cases e
  | mapEntry ty m k => cases e
  | entryStore ty m k x => cases e
  | range ty x => cases e
  | next x s => cases e
  | entry x => cases e
  | typeAssert x xt ty ok => simp only [cop] at e; (repeat' split at e) <;> cases e
  | extract x i => cases e
  | call c =>
    simp only [cop, copCall] at e
    split at e
    · unfold copB copLen copApp at e; (repeat' split at e) <;> cases e
    · split at e <;> cases e
    · cases e
  | go c => cases e
  | defer c => simp only [cop] at e; split at e <;> cases e
  | panic x => cases e
  | send c x => cases e
  | recv t c k => cases e
  | select cs b => cases e
end Go.Ev
