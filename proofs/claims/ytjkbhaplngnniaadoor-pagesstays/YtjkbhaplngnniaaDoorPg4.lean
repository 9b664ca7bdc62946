/- '==' of entries, of kids, of nodes. -/
import Derived.Test.YtjkbhaplngnniaaDoorPg3
import Derived.Laws.StructEq
namespace Go.Proofs.YtjkbhaplngnniaaDoor
open Go.RowKit Go.Maps
set_option linter.unusedSimpArgs false
set_option linter.unusedVariables false

theorem run_equalIn_all {P : Program} (w : World) (d : Nat) (t e : TypeId) (n s : Nat) (xs ys : Array Value) (r : Nat → Bool) (ht : P.underlying t = some (.array n e)) (hsz : ∀ w, (sizeOf e).run P w = .ok s w)
    (h : ∀ i, i < n → ∃ p q, (∀ w, (part e xs (i * s)).run P w = .ok p w) ∧ (∀ w, (part e ys (i * s)).run P w = .ok q w) ∧ ∀ w, (Op.equalIn d e p q).run P w = .ok (r i) w) :
    (Op.equalIn (d + 1) t (.agg xs) (.agg ys)).run P w = .ok ((List.range' 0 n 1).all r) w := by
  rw [Op.equalIn]
  simp only [Sem.run_bind, run_underlying ht, Result.andThen_ok, hsz, Std.Legacy.Range.forIn_eq_forIn_range', Std.Legacy.Range.size, Nat.sub_zero, Nat.add_sub_cancel, Nat.div_one]
  have hl : ∀ i ∈ List.range' 0 n 1, i < n := fun i hi => by simpa using (List.mem_range'_1.1 hi).2
  generalize List.range' 0 n 1 = l at hl ⊢
  induction l with
  | nil => simp
  | cons i l ih =>
    obtain ⟨p, q, hp, hq, hr⟩ := h i (hl i (by simp))
    cases hri : r i with
    | true =>
      rw [hri] at hr
      simp only [List.forIn_cons, Sem.run_bind, hp, hq, hr, Result.andThen_ok, Bool.not_true, Bool.false_eq_true, if_false, Sem.run_pure, List.all_cons, hri, Bool.true_and]
      exact ih fun j hj => hl j (by simp [hj])
    | false =>
      rw [hri] at hr
      simp only [List.forIn_cons, Sem.run_bind, hp, hq, hr, Result.andThen_ok, Bool.not_false, if_true, Sem.run_pure, List.all_cons, hri, Bool.false_and]
theorem en_eq (d : Nat) (a a' : Int) (b b' : Bool) (w : World) : (Op.equalIn (d + 2) 39 (.agg #[.int .i64 a, .bool b]) (.agg #[.int .i64 a', .bool b'])).run Tryd.prog w = .ok (decide ((a, b) = (a', b'))) w := by
  have hf : Tryd.prog.underlying 39 = some (.struct (Tryd.prog.fieldsOf 39)) := by kernel_rfl
  rw [run_equalIn_struct w (d + 1) _ _ _ hf (by kernel_rfl)]
  have hl : ∃ f g : Field, (Tryd.prog.fieldsOf 39).toList = [f, g] ∧ f.name ≠ "_" ∧ g.name ≠ "_" ∧ f.offset = 0 ∧ g.offset = 1 ∧ f.type = 2 ∧ g.type = 4 := by
    have hn : (Tryd.prog.fieldsOf 39).toList.map (·.name) = ["Val", "Held"] := by kernel_rfl
    have ho : (Tryd.prog.fieldsOf 39).toList.map (·.offset) = [0, 1] := by kernel_rfl
    have ht : (Tryd.prog.fieldsOf 39).toList.map (·.type) = [2, 4] := by kernel_rfl
    clear hf
    generalize (Tryd.prog.fieldsOf 39).toList = l at *
    have hlen : l.length = 2 := by have := congrArg List.length hn; simpa using this
    match l, hlen with
    | [f, g], _ =>
      simp only [List.map_cons, List.map_nil, List.cons.injEq, and_true] at hn ho ht
      exact ⟨f, g, rfl, by rw [hn.1]; decide, by rw [hn.2]; decide, ho.1, ho.2, ht.1, ht.2⟩
  obtain ⟨f, g, h1, h2, h3, h4, h5, h6, h7⟩ := hl
  rw [h1]
  have p1 : ∀ (a : Int) (b : Bool) w, (part 2 #[.int .i64 a, .bool b] 0).run Tryd.prog w = .ok (.int .i64 a) w := fun a b w => by kernel_rfl
  have p2 : ∀ (a : Int) (b : Bool) w, (part 4 #[.int .i64 a, .bool b] 1).run Tryd.prog w = .ok (.bool b) w := fun a b w => by kernel_rfl
  simp only [Op.eqFields, h2, h3, h4, h5, h6, h7, ne_eq, not_false_eq_true, if_true, Sem.run_bind, p1, p2, Result.andThen_ok, run_equalIn_int w d _ .i64 .i64 _ _ Tryd.underlying2, run_equalIn_bool' w d _ _ _ Tryd.underlying4, Sem.run_pure]
  by_cases ha : a = a' <;> by_cases hb : b = b' <;> simp [ha, hb, p1, p2, run_equalIn_bool' _ d _ _ _ Tryd.underlying4]
theorem range8 (r : Nat → Bool) : (List.range' 0 8 1).all r = (r 0 && (r 1 && (r 2 && (r 3 && (r 4 && (r 5 && (r 6 && (r 7 && true)))))))) := by rfl
theorem kd_eq {l m : List Int} (hl : l.length = 8) (hm : m.length = 8) (dd : Nat) (w : World) : (Op.equalIn (dd + 2) 83 (.agg (kdV l).toArray) (.agg (kdV m).toArray)).run Tryd.prog w = .ok (decide (l = m)) w := by
  rw [run_equalIn_all w (dd + 1) 83 3 8 1 _ _ (fun i => decide (l.getD i 0 = m.getD i 0)) Tryd.underlying83 (fun w => by kernel_rfl) (fun i hi => ⟨.int .i64 (l.getD i 0), .int .i64 (m.getD i 0), fun w => ?_, fun w => ?_, fun w => ?_⟩)]
  · obtain ⟨a, b, c, d, e, f, g, h, rfl⟩ := eight hl
    obtain ⟨a', b', c', d', e', f', g', h', rfl⟩ := eight hm
    rw [range8]
    simp [List.getD]
  · have := kdV_get (l := l) (k := i) (by omega)
    simp [part, isAgg, run_underlying Tryd.underlying3, this]
  · have := kdV_get (l := m) (k := i) (by omega)
    simp [part, isAgg, run_underlying Tryd.underlying3, this]
  · rw [run_equalIn_int w dd _ .i64 .i64 _ _ Tryd.underlying3]
    generalize l.getD i 0 = x
    generalize m.getD i 0 = y
    by_cases h : x = y <;> simp [h]
theorem en_part2 {vs : List (Int × Bool)} (hl : vs.length = 8) (i : Nat) (hi : i < 8) (w : World) : (part 39 (enV vs).toArray (i * 2)).run Tryd.prog w = .ok (.agg #[.int .i64 (vs.getD i (0, false)).1, .bool (vs.getD i (0, false)).2]) w := by
  obtain ⟨a, b, c, d, e, f, g, h, rfl⟩ := eight hl
  have : i = 0 ∨ i = 1 ∨ i = 2 ∨ i = 3 ∨ i = 4 ∨ i = 5 ∨ i = 6 ∨ i = 7 := by omega
  rcases this with rfl | rfl | rfl | rfl | rfl | rfl | rfl | rfl <;> (show _ = _; kernel_rfl)
theorem ens_eq {l m : List (Int × Bool)} (hl : l.length = 8) (hm : m.length = 8) (dd : Nat) (w : World) : (Op.equalIn (dd + 3) 84 (.agg (enV l).toArray) (.agg (enV m).toArray)).run Tryd.prog w = .ok (decide (l = m)) w := by
  rw [run_equalIn_all w (dd + 2) 84 39 8 2 _ _ (fun i => decide (l.getD i (0, false) = m.getD i (0, false))) Tryd.underlying84 (fun w => by kernel_rfl) (fun i hi => ⟨_, _, en_part2 hl i hi, en_part2 hm i hi, fun w => en_eq dd _ _ _ _ w⟩)]
  obtain ⟨a, b, c, d, e, f, g, h, rfl⟩ := eight hl
  obtain ⟨a', b', c', d', e', f', g', h', rfl⟩ := eight hm
  rw [range8]
  simp only [List.getD_eq_getElem?_getD, List.getElem?_cons_zero, List.getElem?_cons_succ, Option.getD_some, List.cons.injEq, and_true, Bool.and_true]
  by_cases h1 : a = a' <;> by_cases h2 : b = b' <;> by_cases h3 : c = c' <;> by_cases h4 : d = d' <;> simp only [h1, h2, h3, h4, decide_true, decide_false, Bool.true_and, Bool.false_and, true_and, false_and, and_false, Bool.and_false]
  by_cases h5 : e = e' <;> by_cases h6 : f = f' <;> by_cases h7 : g = g' <;> by_cases h8 : h = h' <;> simp only [h5, h6, h7, h8, decide_true, decide_false, Bool.true_and, Bool.false_and, true_and, false_and, and_false, Bool.and_false, and_self]
theorem nd_parts {y : ANd} (hk : y.kids.length = 8) (hv : y.vals.length = 8) (w : World) : (part 4 (ndL y).toArray 0).run Tryd.prog w = .ok (.bool y.leaf) w ∧ (part 83 (ndL y).toArray 1).run Tryd.prog w = .ok (.agg (kdV y.kids).toArray) w ∧ (part 84 (ndL y).toArray 9).run Tryd.prog w = .ok (.agg (enV y.vals).toArray) w := by
  obtain ⟨lf, ks, vs⟩ := y
  obtain ⟨a, b, c, d, e, f, g, h, rfl⟩ := eight hk
  obtain ⟨a', b', c', d', e', f', g', h', rfl⟩ := eight hv
  exact ⟨by kernel_rfl, by kernel_rfl, by kernel_rfl⟩
theorem an_eq {y z : ANd} (hk : y.kids.length = 8) (hv : y.vals.length = 8) (hk' : z.kids.length = 8) (hv' : z.vals.length = 8) (w : World) : (Op.equalIn 10000 91 (.agg (ndL y).toArray) (.agg (ndL z).toArray)).run Tryd.prog w = .ok (decide (y.leaf = z.leaf) && (decide (y.kids = z.kids) && decide (y.vals = z.vals))) w := by
  have hf : Tryd.prog.underlying 91 = some (.struct (Tryd.prog.fieldsOf 91)) := by kernel_rfl
  rw [run_equalIn_struct w 9999 _ _ _ hf (by kernel_rfl)]
  have hl : ∃ f g h : Field, (Tryd.prog.fieldsOf 91).toList = [f, g, h] ∧ f.name ≠ "_" ∧ g.name ≠ "_" ∧ h.name ≠ "_" ∧ f.offset = 0 ∧ g.offset = 1 ∧ h.offset = 9 ∧ f.type = 4 ∧ g.type = 83 ∧ h.type = 84 := by
    have hn : (Tryd.prog.fieldsOf 91).toList.map (·.name) = ["Leaf", "Kids", "Vals"] := by kernel_rfl
    have ho : (Tryd.prog.fieldsOf 91).toList.map (·.offset) = [0, 1, 9] := by kernel_rfl
    have ht : (Tryd.prog.fieldsOf 91).toList.map (·.type) = [4, 83, 84] := by kernel_rfl
    clear hf
    generalize (Tryd.prog.fieldsOf 91).toList = l at *
    have hlen : l.length = 3 := by have := congrArg List.length hn; simpa using this
    match l, hlen with
    | [f, g, h], _ =>
      simp only [List.map_cons, List.map_nil, List.cons.injEq, and_true] at hn ho ht
      exact ⟨f, g, h, rfl, by rw [hn.1]; decide, by rw [hn.2.1]; decide, by rw [hn.2.2]; decide, ho.1, ho.2.1, ho.2.2, ht.1, ht.2.1, ht.2.2⟩
  obtain ⟨f, g, h, h1, h2, h3, h3', h4, h5, h5', h6, h7, h7'⟩ := hl
  rw [h1]
  have p1 := fun w => (nd_parts hk hv w).1
  have p2 := fun w => (nd_parts hk hv w).2.1
  have p3 := fun w => (nd_parts hk hv w).2.2
  have q1 := fun w => (nd_parts hk' hv' w).1
  have q2 := fun w => (nd_parts hk' hv' w).2.1
  have q3 := fun w => (nd_parts hk' hv' w).2.2
  have k1 := fun w => kd_eq hk hk' 9997 w
  have k2 := fun w => ens_eq hv hv' 9996 w
  simp only [Op.eqFields, h2, h3, h3', h4, h5, h5', h6, h7, h7', ne_eq, not_false_eq_true, if_true, Sem.run_bind, p1, p2, p3, q1, q2, q3, Result.andThen_ok, run_equalIn_bool' w 9998 _ _ _ Tryd.underlying4, k1, k2, Sem.run_pure]
  by_cases e1 : y.leaf = z.leaf
  · simp [e1, p2, q2, k1]
    by_cases e2 : y.kids = z.kids
    · simp [e2, p3, q3, k2]
      by_cases e3 : y.vals = z.vals <;> simp [e3]
    · simp [e2]
  · simp [e1]
theorem an_build (lf : Bool) (w : World) : (Instr.build 91 #[(0, .bool lf)]).run Tryd.prog w = .ok (.agg (ndL ⟨lf, zNd.kids, zNd.vals⟩).toArray) w := by kernel_rfl
theorem wpl_an {ops : Array Oper} {rest : List Oper} {o : Oper} {a : Act} {w : World} {Q : Exit → Act → World → Prop} {Z : List Value} (lf : Bool) (hZ : ndL ⟨lf, zNd.kids, zNd.vals⟩ = Z) (hg : o.guard = none) {x : Operand} (ho : o.op = .build 91 #[(0, x)]) (hx : a.eval x = .bool lf)
    (h : wpList Tryd.prog ops Q rest (a.put o.dst (.agg Z.toArray)) w) : wpList Tryd.prog ops Q (o :: rest) a w := by
  subst hZ
  refine wpl_to hg _ _ ?_ h
  unfold execOp
  simp only [ho, List.map_toArray, List.map_cons, List.map_nil, hx, Sem.run_bind, an_build, Result.andThen_ok, Sem.run_pure]
theorem rn_eq {y z : ANd} (hk : y.kids.length = 8) (hv : y.vals.length = 8) (hk' : z.kids.length = 8) (hv' : z.vals.length = 8) (w : World) : (Op.equalIn 10000 86 (.agg (ndL y).toArray) (.agg (ndL z).toArray)).run Tryd.prog w = .ok (decide (y.leaf = z.leaf) && (decide (y.kids = z.kids) && decide (y.vals = z.vals))) w := by
  have hf : Tryd.prog.underlying 86 = some (.struct (Tryd.prog.fieldsOf 86)) := by kernel_rfl
  rw [run_equalIn_struct w 9999 _ _ _ hf (by kernel_rfl)]
  have hl : ∃ f g h : Field, (Tryd.prog.fieldsOf 86).toList = [f, g, h] ∧ f.name ≠ "_" ∧ g.name ≠ "_" ∧ h.name ≠ "_" ∧ f.offset = 0 ∧ g.offset = 1 ∧ h.offset = 9 ∧ f.type = 4 ∧ g.type = 83 ∧ h.type = 84 := by
    have hn : (Tryd.prog.fieldsOf 86).toList.map (·.name) = ["Leaf", "Kids", "Vals"] := by kernel_rfl
    have ho : (Tryd.prog.fieldsOf 86).toList.map (·.offset) = [0, 1, 9] := by kernel_rfl
    have ht : (Tryd.prog.fieldsOf 86).toList.map (·.type) = [4, 83, 84] := by kernel_rfl
    clear hf
    generalize (Tryd.prog.fieldsOf 86).toList = l at *
    have hlen : l.length = 3 := by have := congrArg List.length hn; simpa using this
    match l, hlen with
    | [f, g, h], _ =>
      simp only [List.map_cons, List.map_nil, List.cons.injEq, and_true] at hn ho ht
      exact ⟨f, g, h, rfl, by rw [hn.1]; decide, by rw [hn.2.1]; decide, by rw [hn.2.2]; decide, ho.1, ho.2.1, ho.2.2, ht.1, ht.2.1, ht.2.2⟩
  obtain ⟨f, g, h, h1, h2, h3, h3', h4, h5, h5', h6, h7, h7'⟩ := hl
  rw [h1]
  have p1 := fun w => (nd_parts hk hv w).1
  have p2 := fun w => (nd_parts hk hv w).2.1
  have p3 := fun w => (nd_parts hk hv w).2.2
  have q1 := fun w => (nd_parts hk' hv' w).1
  have q2 := fun w => (nd_parts hk' hv' w).2.1
  have q3 := fun w => (nd_parts hk' hv' w).2.2
  have k1 := fun w => kd_eq hk hk' 9997 w
  have k2 := fun w => ens_eq hv hv' 9996 w
  simp only [Op.eqFields, h2, h3, h3', h4, h5, h5', h6, h7, h7', ne_eq, not_false_eq_true, if_true, Sem.run_bind, p1, p2, p3, q1, q2, q3, Result.andThen_ok, run_equalIn_bool' w 9998 _ _ _ Tryd.underlying4, k1, k2, Sem.run_pure]
  by_cases e1 : y.leaf = z.leaf
  · simp [e1, p2, q2, k1]
    by_cases e2 : y.kids = z.kids
    · simp [e2, p3, q3, k2]
      by_cases e3 : y.vals = z.vals <;> simp [e3]
    · simp [e2]
  · simp [e1]
theorem rn_build (lf : Bool) (w : World) : (Instr.build 86 #[(0, .bool lf)]).run Tryd.prog w = .ok (.agg (ndL ⟨lf, zNd.kids, zNd.vals⟩).toArray) w := by kernel_rfl
theorem wpl_rn {ops : Array Oper} {rest : List Oper} {o : Oper} {a : Act} {w : World} {Q : Exit → Act → World → Prop} {Z : List Value} (lf : Bool) (hZ : ndL ⟨lf, zNd.kids, zNd.vals⟩ = Z) (hg : o.guard = none) {x : Operand} (ho : o.op = .build 86 #[(0, x)]) (hx : a.eval x = .bool lf)
    (h : wpList Tryd.prog ops Q rest (a.put o.dst (.agg Z.toArray)) w) : wpList Tryd.prog ops Q (o :: rest) a w := by
  subst hZ
  refine wpl_to hg _ _ ?_ h
  unfold execOp
  simp only [ho, List.map_toArray, List.map_cons, List.map_nil, hx, Sem.run_bind, rn_build, Result.andThen_ok, Sem.run_pure]
end Go.Proofs.YtjkbhaplngnniaaDoor
