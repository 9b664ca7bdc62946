/- moietylaw09.known; ArenaNil. -/
import Derived.Test.YtjkbhaplngnniaaDoorAr11
namespace Go.Proofs.YtjkbhaplngnniaaDoor
open Go.RowKit
set_option linter.unusedSimpArgs false
set_option linter.unusedVariables false

def kn1 : ANd := ⟨true, zNd.kids, zNd.vals⟩
def kn2 : ANd := ⟨false, [1, 0, 0, 0, 0, 0, 0, 0], zNd.vals⟩
theorem wpl_buildLf {ops : Array Oper} {rest : List Oper} {o : Oper} {a : Act} {w : World} {Q : Exit → Act → World → Prop} (hg : o.guard = none) (ho : o.op = .build 91 #[(0, .const (.bool true))])
    (h : wpList Tryd.prog ops Q rest (a.put o.dst (ndV kn1)) w) : wpList Tryd.prog ops Q (o :: rest) a w := by
  refine wpl_to hg _ _ ?_ h
  unfold execOp
  simp only [ho, List.map_toArray, List.map_cons, List.map_nil]
  exact (show ∀ w : World, Sem.run Tryd.prog (do let x ← Instr.build 91 #[(0, .bool true)]; pure (Next.value x)) w = .ok (.value (ndV kn1)) w from fun w => by kernel_rfl) w
def kd1 (i : Int) : List Int := [i, 0, 0, 0, 0, 0, 0, 0]
theorem wpl_buildK1 {ops : Array Oper} {rest : List Oper} {o : Oper} {a : Act} {w : World} {Q : Exit → Act → World → Prop} (i : Int) (hg : o.guard = none) {x : Operand} (ho : o.op = .build 83 #[(0, x)]) (hx : a.eval x = .int .i64 i)
    (h : wpList Tryd.prog ops Q rest (a.put o.dst (.agg (kdV (kd1 i)).toArray)) w) : wpList Tryd.prog ops Q (o :: rest) a w := by
  refine wpl_to hg _ _ ?_ h
  unfold execOp
  simp only [ho, List.map_toArray, List.map_cons, List.map_nil, hx]
  exact (show ∀ (i : Int) (w : World), Sem.run Tryd.prog (do let x ← Instr.build 83 #[(0, .int .i64 i)]; pure (Next.value x)) w = .ok (.value (.agg (kdV (kd1 i)).toArray)) w from fun i w => by kernel_rfl) i w
theorem buildNk {l : List Int} (hl : l.length = 8) (w : World) : (Instr.build 91 #[(1, .agg (kdV l).toArray)]).run Tryd.prog w = .ok (ndV ⟨false, l, zNd.vals⟩) w := by
  obtain ⟨a, b, c, d, e, f, g, h, rfl⟩ := eight hl
  kernel_rfl
theorem wpl_buildNk {ops : Array Oper} {rest : List Oper} {o : Oper} {a : Act} {w : World} {Q : Exit → Act → World → Prop} (l : List Int) (hl : l.length = 8) (hg : o.guard = none) {x : Operand} (ho : o.op = .build 91 #[(1, x)]) (hx : a.eval x = .agg (kdV l).toArray)
    (h : wpList Tryd.prog ops Q rest (a.put o.dst (ndV ⟨false, l, zNd.vals⟩)) w) : wpList Tryd.prog ops Q (o :: rest) a w := by
  refine wpl_to hg _ _ ?_ h
  unfold execOp
  simp only [ho, List.map_toArray, List.map_cons, List.map_nil, hx, Sem.run_bind, buildNk hl, Result.andThen_ok, Sem.run_pure]
/-- The example's numbers. -/
def kr1 : Int → Nat := fun i => if i = 1 then 1 else 0
def kr2 : Int → Nat := fun i => if i = 2 then 1 else if i = 1 then 2 else 0
def kr3 : Int → Nat := fun i => if i = 2 then 1 else if i = 1 then 1 else 0
def kndA : Int → ANd := updN (fun _ => zNd) ((1 : Nat) : Int) kn1
def kndB : Int → ANd := updN kndA ((2 : Nat) : Int) kn2
theorem kn_1 : setR (incR (fun _ => 0) kn1.kids) ((1 : Nat) : Int) 1 = kr1 := by
  funext i; unfold setR incR kr1
  by_cases c : i = 1 <;> simp [c]
theorem kn_2 : setR (incR kr1 kn2.kids) ((2 : Nat) : Int) 1 = kr2 := by
  funext i; unfold setR incR kr2 kr1 kn2
  by_cases c : i = 2
  · simp [c]
  · by_cases d : i = 1
    · subst d; decide
    · simp [c, d]
theorem kn_3 : stR kr2 1 = kr3 := by
  funext i; unfold stR kr2 kr3
  by_cases c : i = 2
  · subst c; decide
  · by_cases d : i = 1
    · subst d; decide
    · simp [c, d]
theorem kn_d1 : DropsN (kdA kndB) 1 kr2 [1] kr3 := by
  refine drops_cons.2 ⟨?_, kn_3.symm⟩
  unfold stK
  rw [if_neg (by decide)]
  rfl
theorem drops_zeros (kd : Int → List Int) {rf : Int → Nat} (h : rf 0 = 0) : ∀ m, DropsN kd m rf (List.replicate m 0) rf := by
  intro m
  induction m with
  | zero => exact ⟨rfl, rfl⟩
  | succ m ih =>
    rw [List.replicate_succ]
    refine drops_cons.2 ?_
    rw [stR_none h]
    have : stK kd rf 0 = [] := by unfold stK; rw [if_neg (by omega)]
    rw [this]
    exact ih
theorem kn_d2 : DropsN (kdA kndB) 17 kr3 [2] (fun _ => 0) := by
  have e1 : stR (stR kr3 2) 1 = fun _ => 0 := by
    funext i; unfold stR kr3
    by_cases c : i = 2
    · subst c; decide
    · by_cases d : i = 1
      · subst d; decide
      · simp [c, d]
  have k2 : stK (kdA kndB) kr3 2 = [1, 0, 0, 0, 0, 0, 0, 0] := by unfold stK; rw [if_pos (by decide)]; rfl
  have k1 : stK (kdA kndB) (stR kr3 2) 1 = [0, 0, 0, 0, 0, 0, 0, 0] := by unfold stK; rw [if_pos (by decide)]; rfl
  refine drops_cons.2 ?_
  rw [k2]
  refine drops_cons.2 ?_
  rw [k1, e1]
  exact drops_zeros (kdA kndB) rfl 15
theorem kn_low1 {x : Nat} (h : LowN (fun _ => 0) x) : x = 1 := h.one' ⟨by omega, rfl, fun j h1 h2 => by omega⟩
theorem kn_low2 {x : Nat} (h : LowN kr1 x) : x = 2 := h.one' ⟨by omega, by decide, fun j h1 h2 => by
  have : j = 1 := by omega
  subst this; decide⟩
theorem kn_u2 : usd kr3 2 = 2 := by decide
theorem kn_u0 : usd (fun _ => 0) 2 = 0 := by decide
end Go.Proofs.YtjkbhaplngnniaaDoor
