/- A certified evaluator of closed calls, part P14. -/
import Derived.Test.YthmaejcpadoljaaGreatEvP13
namespace Go.Ev
open Go Go.RowKit
set_option linter.unusedVariables false
set_option linter.unusedSimpArgs false
variable {P : Program} {I : FuncId → List AV → Option AV} {w0 : World} {E : Env} {h : T AB} {nx : Nat} {w : World}
theorem notInt : ∀ {d : TypeDesc}, (∀ k, d ≠ .int k) → (match d with | .int _ => true | _ => false) = false := by
  intro d hd
  cases d <;> first | rfl | exact absurd rfl (hd _)
theorem run_append_x {ats : Array TypeId} {t0 t1 e sz rt : TypeId} {d : TypeDesc} (a0 : ats[0]? = some t0) (a1 : ats[1]? = some t1) (u0 : P.underlying t0 = some (.slice e)) (hsz : size P e = some sz) (u1 : P.underlying t1 = some d) (hd : ∀ k, d ≠ .int k)
    {base : Option Addr} {sLen sCap n : Nat} {xv : Value} (hl : (Builtin.lenOf xv).run P w = .ok n w) :
    (Builtin.append_ ats rt #[.slice base sLen sCap, xv]).run P w = (appTail e sz base sLen sCap n (.slice base sLen sCap) (Builtin.firstCells sz n xv) (false = true) xv).run P w := by
  have g0 : (#[Value.slice base sLen sCap, xv] : Array Value)[0]? = some (.slice base sLen sCap) := rfl
  have g1 : (#[Value.slice base sLen sCap, xv] : Array Value)[1]? = some xv := rfl
  have hz := notInt hd
  unfold Builtin.append_
  simp only [a0, a1, g0, g1, Sem.run_bind, run_underlying u0, run_underlying u1, run_size hsz, Result.andThen_ok, Sem.run_pure, hz]
  rw [if_neg (by simp), Sem.run_bind, hl, Result.andThen_ok]
  rfl
theorem run_append_z {ats : Array TypeId} {t0 t1 e sz rt : TypeId} {kk : IntKind} (ha : AppOk P e sz) (a0 : ats[0]? = some t0) (a1 : ats[1]? = some t1) (u0 : P.underlying t0 = some (.slice e)) (hsz : size P e = some sz) (u1 : P.underlying t1 = some (.int kk))
    {base : Option Addr} {sLen sCap n : Nat} (hn : n ≤ 1048576) :
    (Builtin.append_ ats rt #[.slice base sLen sCap, .int .i64 (.ofNat n)]).run P w = (appTail e sz base sLen sCap n (.slice base sLen sCap) (if n * sz = 0 then pure #[] else do pure (Builtin.zeroCells (← zeroValue e).cells n)) True (.int .i64 (.ofNat n))).run P w := by
  have g0 : (#[Value.slice base sLen sCap, .int .i64 (.ofNat n)] : Array Value)[0]? = some (.slice base sLen sCap) := rfl
  have g1 : (#[Value.slice base sLen sCap, .int .i64 (.ofNat n)] : Array Value)[1]? = some (.int .i64 (.ofNat n)) := rfl
  obtain ⟨i, hi, hb, _⟩ := ha.info
  have ti : ∀ w : World, (typeInfo e).run P w = .ok i w := fun w => by simp [typeInfo, hi]
  have w1 : IntKind.i64.wrap (Int.ofNat n) = Int.ofNat n := wrap_nat .i64 n (by simp only [topN]; omega)
  have c1 : ¬ ((Int.ofNat n) < 0) := by have := Int.natCast_nonneg n; intro q; have : (Int.ofNat n) = (n : Int) := rfl; omega
  have hmul : n * i.bytes ≤ 1048576 * 1048576 := Nat.mul_le_mul hn hb
  have c2 : ¬ ((Int.ofNat n) * (i.bytes : Int) > 2 ^ 48) := by
    have : (Int.ofNat n) * (i.bytes : Int) = ((n * i.bytes : Nat) : Int) := by simp
    rw [this]; omega
  unfold Builtin.append_
  simp only [a0, a1, g0, g1, Sem.run_bind, run_underlying u0, run_underlying u1, run_size hsz, Result.andThen_ok, Sem.run_pure]
  have ai : (asInt (.int .i64 (.ofNat n))).run P w = .ok (Int.ofNat n) w := rfl
  rw [if_pos trivial, Sem.run_bind, ai, Result.andThen_ok]
  rw [w1, if_neg c1, Sem.run_bind, ti, Result.andThen_ok, if_neg c2]
  rfl

theorem lenOf_ok {x : AV} {y : Value} {n : Nat} (hx : Is E x y) (e : lenOfA x = some n) : (Builtin.lenOf y).run P w = .ok n w := by
  unfold lenOfA at e
  split at e
  · cases e; cases hx; rfl
  · cases e; cases hx; rfl
  · cases e; cases hx <;> rfl
  · cases e; cases hx; simp [Builtin.lenOf, byts_size]
  · cases e
theorem allFlat_app : ∀ {l m : List AV}, allFlat l = true → allFlat m = true → allFlat (l ++ m) = true
  | [], _, _, h => h
  | a :: l, m, h1, h2 => by
    simp only [allFlat, Bool.and_eq_true, List.cons_append] at h1 ⊢
    exact ⟨h1.1, allFlat_app h1.2 h2⟩
theorem allFlat_rep {z : List AV} (hz : allFlat z = true) : ∀ n, allFlat (rep z n) = true
  | 0 => rfl
  | n + 1 => allFlat_app hz (allFlat_rep hz n)
theorem copApp_state {c : Call} (hc : c.callee = .builtin .append) {f : T AV → T AB → Nat → Option (AV × T AB × Nat)} (e : copB P .append c.argTypes (opns c.args.toList) = .st f) {dst : Option Tmp} {ty : TypeId} {pos : String} {af : Array Edge} {g : Option (Nat × Bool)} :
    StateOk P ⟨dst, .call c, ty, pos, af, g⟩ f := by
  intro w0 E h nx w t ρ v h' nx' s hr hv
  rw [exec_builtin hc]
  simp only [copB] at e
  split at e
  · rename_i o1 o2 t0 t1 hx a0 a1
    obtain ⟨a, b, h1, rfl, rfl⟩ := args2 hx
    have ra : ∀ u, (opn a).ev t = some u → Is E u (ρ a) := fun u hu => hr a (by simp [Op.operands, Call.operands, hc, h1]) u hu
    have rb : ∀ u, (opn b).ev t = some u → Is E u (ρ b) := fun u hu => hr b (by simp [Op.operands, Call.operands, hc, h1]) u hu
    split at e
    · rename_i el u0
      have u0' : P.underlying t0 = _ := u0
      split at e
      · rename_i sz hsz
        unfold copApp at e
        split at e
        · cases e
        · rename_i hok
          have ha := appOk_ok hsz hok
          have fin : ∀ {x w'}, (Builtin.append_ c.argTypes ty #[ρ a, ρ b]).run P w = .ok x w' → (callOp .append c ty ρ).run P w = .ok (.value x) w' := by
            intro x w' q
            simp [callOp, Go.builtin, h1, q]
          split at e
          · rename_i kk u1
            have u1' : P.underlying t1 = _ := u1
            split at e
            · rename_i z hz
              cases e
              dsimp only at hv
              unfold appZ at hv
              split at hv
              · rename_i sv n q1 q2
                split at hv
                · rename_i d1 d2 d3
                  have d1 := beq_eq d1
                  have d3 : n ≤ 1048576 := ble_le d3
                  have i1 := ra _ q1
                  have i2 := rb _ q2
                  cases p2 : ρ b <;> rw [p2] at i2 <;> cases i2
                  obtain ⟨zv, z1, z2⟩ := zero_cells (E := E) s.flat hz
                  have zl := z2.length
                  have hzl : zv.cells.toList.length = sz := by omega
                  have hnew : ∀ w' : World, (∀ k : Nat, w'.heap[k]? = w.heap[k]?) → (if n * sz = 0 then pure #[] else do pure (Builtin.zeroCells (← zeroValue el).cells n) : Sem (Array Value)).run P w' = .ok (repV zv.cells.toList n).toArray w' := by
                    intro w' _
                    by_cases h0 : n * sz = 0
                    · have : (repV zv.cells.toList n) = [] := List.length_eq_zero_iff.1 (by rw [repV_length, hzl]; exact h0)
                      simp [h0, this]
                    · have hp : 0 < zv.cells.size := by
                        have : zv.cells.size = sz := by simpa using hzl
                        rw [this]
                        exact Nat.pos_of_ne_zero (fun q => h0 (by rw [q, Nat.mul_zero]))
                      simp only [h0, if_false, Sem.run_bind, z1, Result.andThen_ok, Sem.run_pure]
                      congr 1
                      exact range_rep zv.cells n hp
                  obtain ⟨base, sLen, sCap, E', w', x, p1, k1, k2, k3, k4⟩ := appendA_ok (P := P) (x0 := .int .i64 (.ofNat n)) (z := True) s ha i1 hv hnew (rep_is z2 n) (by rw [repV_length, hzl]) (allFlat_rep d2 n)
                  refine ⟨E', w', .value x, fin ?_, ⟨x, .inl ⟨rfl, k2⟩⟩, k3, k4⟩
                  rw [p1, p2, run_append_z ha a0 a1 u0' hsz u1' d3, ← p1]
                  exact k1
                · cases hv
              · cases hv
            · cases e
          · rename_i d hd u1
            have u1' : P.underlying t1 = _ := u1
            cases e
            dsimp only at hv
            unfold appX at hv
            split at hv
            · rename_i sv xv q1 q2
              have i1 := ra _ q1
              have i2 := rb _ q2
              split at hv
              · rename_i n hn
                split at hv
                · rename_i new hnew
                  split at hv
                  · rename_i hfl
                    obtain ⟨vs, v1, v2, v3⟩ := firstA_ok (P := P) s i2 hnew
                    obtain ⟨base, sLen, sCap, E', w', x, p1, k1, k2, k3, k4⟩ := appendA_ok (P := P) (x0 := ρ b) (z := (false = true)) s ha i1 hv v1 v2 (by rw [← v2.length, v3]) hfl
                    refine ⟨E', w', .value x, fin ?_, ⟨x, .inl ⟨rfl, k2⟩⟩, k3, k4⟩
                    rw [p1, run_append_x a0 a1 u0' hsz u1' (fun k q => hd k (by rw [q])) (lenOf_ok i2 hn), ← p1]
                    exact k1
                  · cases hv
                · cases hv
              · cases hv
            · cases hv
          · cases e
      · cases e
    · cases e
  · cases e
end Go.Ev
