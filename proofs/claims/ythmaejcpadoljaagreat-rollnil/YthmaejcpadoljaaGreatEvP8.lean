/- A certified evaluator of closed calls, part P8. -/
import Derived.Test.YthmaejcpadoljaaGreatEvP7
namespace Go.Ev
open Go Go.RowKit
set_option linter.unusedVariables false
set_option linter.unusedSimpArgs false
variable {P : Program} {I : FuncId → List AV → Option AV} {w0 : World} {E : Env} {h : T AB} {nx : Nat} {w : World}

theorem eqv_o {d : Nat} {ty : TypeId} {k : Nat} {b : AV} {r : Bool} (e : eqv P h d ty (.o k) b = some r) : False := by
  cases d with
  | zero => simp [eqv] at e
  | succ d => unfold eqv at e; split at e <;> simp at e
theorem eqv_o' {d : Nat} {ty : TypeId} {k : Nat} {a : AV} {r : Bool} (e : eqv P h d ty a (.o k) = some r) : False := by
  cases d with
  | zero => simp [eqv] at e
  | succ d => unfold eqv at e; split at e <;> simp at e
theorem eqv_s {d : Nat} {ty : TypeId} {l : List Nat} {b : AV} {r : Bool} (e : eqv P h d ty (.s l) b = some r) : und P ty = some .string := by
  cases d with
  | zero => simp [eqv] at e
  | succ d => unfold eqv at e; split at e <;> first | assumption | (simp at e; done)
theorem guard_ni {neg : Bool} {ty : TypeId} {xo yo : Operand} (ho : isIface0 xo yo = true) : (eqGuard (if neg then .neq else .eql) ty xo yo .nilIface .nilIface).run P w = .ok () w := by
  cases neg <;> cases xo <;> cases yo <;> first | (simp [isIface0] at ho; done) | simp [eqGuard]
theorem guard_agg {neg : Bool} {ty : TypeId} {xo yo : Operand} {a b : Array Value} (ho : P.eqGuardType P.depth ty = false) : (eqGuard (if neg then .neq else .eql) ty xo yo (.agg a) (.agg b)).run P w = .ok () w := by
  cases neg <;> simp [eqGuard, ho]
def plainG : Value → Value → Prop
  | .nilIface, .nilIface => False
  | .agg _, .agg _ => False
  | _, _ => True
theorem guard_else {neg : Bool} {ty : TypeId} {xo yo : Operand} {x y : Value} (hp : plainG x y) : (eqGuard (if neg then .neq else .eql) ty xo yo x y).run P w = .ok () w := by
  cases neg <;> cases x <;> (first | (simp [eqGuard]; done) | (cases y <;> first | exact hp.elim | (simp [eqGuard]; done)))
theorem guard_ok {neg : Bool} {ty : TypeId} {xo yo : Operand} {d : Nat} {a b : AV} {x y : Value} {r : Bool} (ho : okEq P (isIface0 xo yo) ty a b = true) (e : eqv P h d ty a b = some r) (ia : Is E a x) (ib : Is E b y) :
    (eqGuard (if neg then .neq else .eql) ty xo yo x y).run P w = .ok () w := by
  cases ia with
  | ni =>
    cases ib with
    | ni => exact guard_ni ho
    | o => exact (eqv_o' e).elim
    | _ => exact guard_else trivial
  | agg l vs hl =>
    cases ib with
    | agg m ws hm =>
      have : (!(P.eqGuardType P.depth ty)) = true := ho
      exact guard_agg (by simpa using this)
    | o => exact (eqv_o' e).elim
    | _ => exact guard_else trivial
  | o => exact (eqv_o e).elim
  | _ => exact guard_else trivial
def notNum : Value → Prop
  | .int .. | .float .. | .complex .. | .string _ => False
  | _ => True
theorem binOp_eql {t : TypeId} {x y : Value} (h : notNum x) : Go.binOp .eql t x y = (do pure (.bool (← Op.equal t x y))) := by
  cases x <;> first | exact h.elim | rfl | (cases y <;> rfl)
theorem binOp_neq {t : TypeId} {x y : Value} (h : notNum x) : Go.binOp .neq t x y = (do pure (.bool (!(← Op.equal t x y)))) := by
  cases x <;> first | exact h.elim | rfl | (cases y <;> rfl)
theorem eqFb_ok (s : St P w0 E h nx w) {ty : TypeId} {xo yo : Operand} {neg : Bool} {a b : AV} {x y : Value} {v : AV} (hty : und P ty ≠ some .string) (hni : ∀ k n, a ≠ .i k n) (ia : Is E a x) (ib : Is E b y)
    (e : eqFb P (isIface0 xo yo) ty neg h a b = some v) : ∃ z, (do eqGuard (if neg then .neq else .eql) ty xo yo x y; Go.binOp (if neg then .neq else .eql) ty x y : Sem Value).run P w = .ok z w ∧ Is E v z := by
  unfold eqFb at e
  split at e
  · rename_i ho
    split at e
    · rename_i r hr
      cases e
      have g : (eqGuard (if neg then .neq else .eql) ty xo yo x y).run P w = .ok () w := guard_ok ho hr ia ib
      have q : (Op.equal ty x y).run P w = .ok r w := eqv_ok s 50 ty a b r hr 10000 (by omega) x y ia ib
      have hx : notNum x := by
        cases ia with
        | i k n => exact absurd rfl (hni k n)
        | s l _ => exact hty (eqv_s hr)
        | o => exact (eqv_o hr).elim
        | _ => trivial
      cases neg
      · refine ⟨.bool r, ?_, .b _⟩
        simp only [Sem.run_bind, g, Result.andThen_ok, Bool.false_eq_true, if_false] at g ⊢
        rw [g, Result.andThen_ok, binOp_eql hx]
        simp [q]
      · refine ⟨.bool (!r), ?_, .b _⟩
        simp only [Sem.run_bind, if_true] at g ⊢
        rw [g, Result.andThen_ok, binOp_neq hx]
        simp [q]
    · cases e
  · cases e

theorem nilChk_ok {a : Option AV} {v : AV} {x : Value} (hx : ∀ u, a = some u → Is E u x) (e : nilChk P a = some v) {o : Oper} {y : Operand} (ho : o.op = .nilCheck y) {ρ : Operand → Value} (hy : ρ y = x) :
    (execOp ρ o).run P w = .ok (.value x) w ∧ Is E v x := by
  obtain ⟨dst, op, type, pos, after, guard⟩ := o
  simp only at ho; subst ho
  unfold nilChk at e
  split at e
  · cases e; have := hx _ rfl; have k := this; cases this; exact ⟨by simp [execOp, hy], k⟩
  · rename_i n f c
    split at e
    · rename_i ty v' rest
      split at e
      · rename_i i hi
        split at e
        · rename_i m hm
          split at e
          · rename_i f' hp hfn
            cases e
            have hi' := hx _ rfl
            cases hi' with
            | fn _ g _ _ vs ws hg h1 h2 =>
            have hg' : g = .method n := hg
            subst hg'
            cases h1 with
            | cons _ z _ vs' hz hl =>
            cases hz with
            | ifc _ _ xx hxx =>
            refine ⟨?_, .fn _ _ _ _ _ _ rfl (.cons _ _ _ _ (.ifc _ _ _ hxx) hl) h2⟩
            have hdep : ∃ n, P.types.size + Made.depth = n + 1 := ⟨P.types.size + (Made.depth - 1), by have : Made.depth = (Made.depth - 1) + 1 := by decide
                                                                                                       omega⟩
            obtain ⟨fu, hfu⟩ := hdep
            have hpe : m.path.toList = [] := hp
            have : (nilAhead (P.types.size + Made.depth) ty xx n).run P w = .ok (some false) w := by
              rw [hfu]
              simp [nilAhead, typeInfo, hi, hm, hpe, followBlind, hfn]
            simp [execOp, hy, this]
          · cases e
        · cases e
      · cases e
    · cases e
  · rename_i f a' b' hne
    cases e
    have hi' := hx _ rfl
    cases hi' with
    | fn _ g _ _ vs ws hg h1 h2 =>
    refine ⟨?_, .fn _ _ _ _ _ _ hg h1 h2⟩
    have : ∀ n, g ≠ .method n := by
      rintro n rfl
      cases f with
      | method m => exact hne m rfl
      | yield l => obtain ⟨r, _, q⟩ := hg; cases q
      | _ => cases hg
    cases g with
    | method n => exact absurd rfl (this n)
    | _ => simp [execOp, hy]
  · cases e; have := hx _ rfl; have k := this; cases this; exact ⟨by simp [execOp, hy], k⟩
  · cases e
end Go.Ev
