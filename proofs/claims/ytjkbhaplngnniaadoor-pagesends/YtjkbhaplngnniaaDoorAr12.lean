/- moietylaw09.node, moietylaw09.given: the node of an act. -/
import Derived.Test.YtjkbhaplngnniaaDoorArKnown
namespace Go.Proofs.YtjkbhaplngnniaaDoor
open Go.RowKit
set_option linter.unusedSimpArgs false
set_option linter.unusedVariables false

/-- An act's twelve cells. -/
def acL (kd n : Int) (lf : Bool) (ks : List Int) (v : Int) : List Value := .int .i64 kd :: .int .i64 n :: .bool lf :: (kdV ks ++ [.int .i64 v])
/-- Its node. -/
def acN (lf : Bool) (ks : List Int) (v : Int) (b : Bool) : ANd := ⟨lf, ks, [(v, b), (0, false), (0, false), (0, false), (0, false), (0, false), (0, false), (0, false)]⟩
def enV (vs : List (Int × Bool)) : List Value := vs.flatMap fun v => [Value.int .i64 v.1, Value.bool v.2]
theorem kdV_len (ks : List Int) : (kdV ks).length = ks.length := by simp [kdV]
theorem kdV_one (ks : List Int) : ∀ u ∈ kdV ks, u.oneCell' = true := by
  intro u hu; unfold kdV at hu; obtain ⟨y, _, rfl⟩ := List.mem_map.1 hu; rfl
theorem enV_len (l : List (Int × Bool)) : (enV l).length = 2 * l.length := by
  unfold enV
  induction l with
  | nil => rfl
  | cons a r ih => simp only [List.flatMap_cons, List.length_append, List.length_cons, List.length_nil, ih]; omega
theorem acL_len {kd n : Int} {lf : Bool} {ks : List Int} {v : Int} (h : ks.length = 8) : (acL kd n lf ks v).length = 12 := by
  unfold acL; simp [kdV_len, h]
theorem acL_one {kd n : Int} {lf : Bool} {ks : List Int} {v : Int} : ∀ u ∈ acL kd n lf ks v, u.oneCell' = true := by
  intro u hu
  unfold acL at hu
  simp only [List.mem_cons, List.mem_append, List.not_mem_nil, or_false] at hu
  rcases hu with rfl | rfl | rfl | hu | rfl
  · rfl
  · rfl
  · rfl
  · exact kdV_one ks u hu
  · rfl
theorem range_drop {w : World} {b f : Nat} {L : List Value} (h : w.rangeAt b f L) (o : Nat) (M : List Value) (hM : ∀ j v, M[j]? = some v → L[o + j]? = some v) : w.rangeAt b (f + o) M := fun j v hv => by
  have := h (o + j) v (hM j v hv)
  rwa [← Nat.add_assoc] at this
theorem acL_kids {kd n : Int} {lf : Bool} {ks : List Int} {v : Int} : ∀ j u, (kdV ks)[j]? = some u → (acL kd n lf ks v)[3 + j]? = some u := by
  intro j u h
  unfold acL
  rw [show 3 + j = j + 1 + 1 + 1 by omega]
  simp only [List.getElem?_cons_succ]
  rw [List.getElem?_append_left (List.getElem?_eq_some_iff.1 h).1]
  exact h
theorem acL_val {kd n : Int} {lf : Bool} {ks : List Int} {v : Int} (h : ks.length = 8) : (acL kd n lf ks v)[11]? = some (.int .i64 v) := by
  obtain ⟨a, b, c, d, e, f, g, k, rfl⟩ := eight h
  rfl
theorem ndL_kids (x : ANd) : ∀ j u, (kdV x.kids)[j]? = some u → (ndL x)[1 + j]? = some u := by
  intro j u h
  unfold kdV at h
  unfold ndL
  rw [show 1 + j = j + 1 by omega]
  simp only [List.getElem?_cons_succ]
  rw [List.getElem?_append_left (List.getElem?_eq_some_iff.1 h).1]
  exact h
theorem ndL_vals (x : ANd) (hk : x.kids.length = 8) : ∀ j u, (enV x.vals)[j]? = some u → (ndL x)[9 + j]? = some u := by
  intro j u h
  unfold ndL
  rw [show 9 + j = 8 + j + 1 by omega]
  simp only [List.getElem?_cons_succ]
  rw [List.getElem?_append_right (by simp [hk]), show 8 + j - (List.map (Value.int .i64) x.kids).length = j by simp [hk]]
  exact h
theorem ac_set {lf : Bool} {ks : List Int} (h : ks.length = 8) (v : Int) (b : Bool) : setL (ndL ⟨lf, ks, zNd.vals⟩) 9 [.int .i64 v, .bool b] = ndL (acN lf ks v b) := by
  obtain ⟨a, b, c, d, e, f, g, k, rfl⟩ := eight h
  rfl
theorem acN_ok {lf : Bool} {ks : List Int} (h : ks.length = 8) (v : Int) (b : Bool) : (acN lf ks v b).kids.length = 8 ∧ (acN lf ks v b).vals.length = 8 := ⟨h, rfl⟩
theorem rd_size : (Tryd.prog.info? 86).map (·.size) = some 25 := by kernel_rfl
theorem rd_row : ∃ d, Tryd.prog.underlying 86 = some d ∧ d.isRow = true := ⟨_, Tryd.underlying86, rfl⟩
theorem en_size : (Tryd.prog.info? 39).map (·.size) = some 2 := by kernel_rfl
theorem wpl_allocR {ops : Array Oper} {rest : List Oper} {o : Oper} {a : Act} {w : World} {Q : Exit → Act → World → Prop} (hg : o.guard = none) (ho : o.op = .alloc 86)
    (h : wpList Tryd.prog ops Q rest (a.put o.dst (.pointer (some ⟨w.heap.size, 0, none⟩))) (w.alloc (.cells (ndL zNd).toArray 86))) : wpList Tryd.prog ops Q (o :: rest) a w := by
  refine wpl_to hg _ _ ?_ h
  unfold execOp
  simp only [ho]
  exact (show ∀ w : World, Sem.run Tryd.prog (do let x ← Instr.alloc 86 true (.tuple #[]); pure (Next.value x)) w = .ok (.value (.pointer (some ⟨w.heap.size, 0, none⟩))) (w.alloc (.cells (ndL zNd).toArray 86)) from fun w => by kernel_rfl) w
theorem buildR {l : List Int} (hl : l.length = 8) (lf : Bool) (w : World) : (Instr.build 86 #[(0, .bool lf), (1, .agg (kdV l).toArray)]).run Tryd.prog w = .ok (ndV ⟨lf, l, zNd.vals⟩) w := by
  obtain ⟨a, b, c, d, e, f, g, h, rfl⟩ := eight hl
  kernel_rfl
theorem wpl_buildR {ops : Array Oper} {rest : List Oper} {o : Oper} {a : Act} {w : World} {Q : Exit → Act → World → Prop} {K Z : List Value} (lf : Bool) (hb : ∀ w, (Instr.build 86 #[(0, .bool lf), (1, .agg K.toArray)]).run Tryd.prog w = .ok (.agg Z.toArray) w) (hg : o.guard = none) {x y : Operand} (ho : o.op = .build 86 #[(0, x), (1, y)]) (hx : a.eval x = .bool lf) (hy : a.eval y = .agg K.toArray)
    (h : wpList Tryd.prog ops Q rest (a.put o.dst (.agg Z.toArray)) w) : wpList Tryd.prog ops Q (o :: rest) a w := by
  refine wpl_to hg _ _ ?_ h
  unfold execOp
  simp only [ho, List.map_toArray, List.map_cons, List.map_nil, hx, hy, Sem.run_bind, hb, Result.andThen_ok, Sem.run_pure]
theorem buildG {l : List Int} {vs : List (Int × Bool)} (hl : l.length = 8) (hv : vs.length = 8) (lf : Bool) (w : World) : (Instr.build 91 #[(0, .bool lf), (1, .agg (kdV l).toArray), (2, .agg (enV vs).toArray)]).run Tryd.prog w = .ok (ndV ⟨lf, l, vs⟩) w := by
  obtain ⟨a, b, c, d, e, f, g, h, rfl⟩ := eight hl
  obtain ⟨a', b', c', d', e', f', g', h', rfl⟩ := eight hv
  kernel_rfl
theorem wpl_buildG {ops : Array Oper} {rest : List Oper} {o : Oper} {a : Act} {w : World} {Q : Exit → Act → World → Prop} {K V Z : List Value} (lf : Bool) (hb : ∀ w, (Instr.build 91 #[(0, .bool lf), (1, .agg K.toArray), (2, .agg V.toArray)]).run Tryd.prog w = .ok (.agg Z.toArray) w) (hg : o.guard = none) {x y z : Operand} (ho : o.op = .build 91 #[(0, x), (1, y), (2, z)]) (hx : a.eval x = .bool lf) (hy : a.eval y = .agg K.toArray) (hz : a.eval z = .agg V.toArray)
    (h : wpList Tryd.prog ops Q rest (a.put o.dst (.agg Z.toArray)) w) : wpList Tryd.prog ops Q (o :: rest) a w := by
  refine wpl_to hg _ _ ?_ h
  unfold execOp
  simp only [ho, List.map_toArray, List.map_cons, List.map_nil, hx, hy, hz, Sem.run_bind, hb, Result.andThen_ok, Sem.run_pure]
end Go.Proofs.YtjkbhaplngnniaaDoor
