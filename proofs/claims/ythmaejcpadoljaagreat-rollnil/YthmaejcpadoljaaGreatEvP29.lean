/- A certified evaluator of closed calls, part P29. -/
import Derived.Test.YthmaejcpadoljaaGreatEvP28
import Derived.Laws.Externs
namespace Go.Ev
open Go Go.RowKit
set_option linter.unusedVariables false
set_option linter.unusedSimpArgs false
def okR : R → Bool
  | .done (.b true) _ _ => true
  | _ => false
def runF (P : Program) (I : FuncId → List AV → Option AV) (f : FuncId) (args : List AV) (h0 : T AB) (n : Nat) : R := match fnOf P f with
  | some (c, m) => run P I n (.mk f m [] .normal none .leaf [] .bot) (setAll .leaf 0 args) [.code c] h0 256
  | none => .fail 99 .bot 0
/-- math/bits.Add64 of numbers without a carry -/
def addA : List AV → Option AV
  | [.i k (.ofNat x), .i k' (.ofNat y), .i k'' (.ofNat 0)] => (match k, k', k'' with | .u64, .u64, .u64 => some (.tup [.i .u64 (.ofNat (Nat.mod (Nat.add x y) 18446744073709551616)), .i .u64 (.ofNat (Nat.div (Nat.add x y) 18446744073709551616))]) | _, _, _ => none)
  | _ => none
def addI (a : FuncId) (f : FuncId) (args : List AV) : Option AV := match Nat.beq f a with | true => addA args | false => none
variable {P : Program}
theorem addI_ok {a : FuncId} {fn : Func} (hf : P.funcs[a]? = some fn) (hname : (fn.name == "runtime.NumGoroutine") = false) (hb : fn.body.isNone = true) (hn : Extern.findNext fn = none) (he : Extern.find fn = some add64Entry) : KnownOk P (addI a) := by
  intro f args v e E vs hv w
  unfold addI at e
  split at e
  · rename_i hfa
    have := beq_eq hfa; subst this
    unfold addA at e
    split at e
    · rename_i k x k' y k''
      split at e
      · cases e
        cases hv with | cons _ x1 _ l1 a1 b1 =>
        cases b1 with | cons _ x2 _ l2 a2 b2 =>
        cases b2 with | cons _ x3 _ l3 a3 b3 =>
        cases b3
        cases a1; cases a2; cases a3
        refine ⟨.tuple #[.int .u64 (.ofNat (Nat.mod (Nat.add x y) 18446744073709551616)), .int .u64 (.ofNat (Nat.div (Nat.add x y) 18446744073709551616))], .tup _ _ (.cons _ _ _ _ (.i _ _) (.cons _ _ _ _ (.i _ _) .nil)), ?_⟩
        rw [run_callFunc_extern hf hname hb hn he]
        have := run_add64 (P := P) (Int.ofNat x) (Int.ofNat y) (Int.ofNat 0) (Int.natCast_nonneg x) (Int.natCast_nonneg y) (Int.le_refl 0) (by decide) w
        rw [show ([Value.int .u64 (Int.ofNat x), .int .u64 (Int.ofNat y), .int .u64 (Int.ofNat 0)] : List Value).toArray = #[.int .u64 (Int.ofNat x), .int .u64 (Int.ofNat y), .int .u64 (Int.ofNat 0)] from rfl, this]
        rfl
      · cases e
    · cases e
  · cases e
theorem runF_calls {I : FuncId → List AV → Option AV} {w : World} (hI : KnownOk P I) (hmix : P.follows .mixedOrders = true) {f : FuncId} {E : Env} {args : List AV} {vs : List Value} {h0 : T AB} {n : Nat} (st : St P w E h0 256 w) (hv : IsL E args vs) (e : okR (runF P I f args h0 n) = true) :
    Calls P f vs.toArray w fun e w' => e = .returned (.bool true) ∧ Below w.heap.size w w' := by
  unfold runF at e
  split at e
  · rename_i c m hf
    unfold fnOf at hf
    split at hf
    · rename_i fn hfn
      split at hf
      · rename_i c' hb
        cases hf
        generalize hr : run P I n (.mk f fn.ntmps [] .normal none .leaf [] .bot) (setAll .leaf 0 args) [.code c] h0 256 = r at e
        unfold okR at e
        split at e
        · rename_i h nx
          refine (run_calls hI hmix hfn hb st hv hr).mono fun e w' ⟨E', x, e1, e2, e3⟩ => ?_
          cases e2
          exact ⟨e1, e3.below⟩
        · cases e
      · cases hf
    · cases hf
  · cases e
end Go.Ev
