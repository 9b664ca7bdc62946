/- moietylaw09.node, moietylaw09.given: the node of an act. · moietylaw09.node: the node of an act. · Two nodes that are the same; what is loaded where it is asked for; acts. -/
import Derived.Test.YtjkbhaplngnniaaDoorArKnown
import Derived.Test.YtjkbhaplngnniaaDoorArMath3
import Derived.Laws.StructEq
namespace Go.Proofs.YtjkbhaplngnniaaDoor
open Go.RowKit
set_option linter.unusedSimpArgs false
set_option linter.unusedVariables false

/-- An act's twelve cells. -/
def acL (kd n : Int) (lf : Bool) (ks : List Int) (v : Int) : List Value := .int .i64 kd :: .int .i64 n :: .bool lf :: (kdV ks ++ [.int .i64 v])
/-- Its node. -/
def acN (lf : Bool) (ks : List Int) (v : Int) (b : Bool) : ANd := ⟨lf, ks, [(v, b), (0, false), (0, false), (0, false), (0, false), (0, false), (0, false), (0, false)]⟩
def enV (vs : List (Int × Bool)) : List Value := vs.flatMap fun v => [Value.int .i64 v.1, Value.bool v.2]
theorem kdV_len (ks : List Int) : (kdV ks).length = ks.length := by simp [kdV]
theorem kdV_one (ks : List Int) : ∀ u ∈ kdV ks, u.oneCell' = true := by
  intro u hu; unfold kdV at hu; obtain ⟨y, _, rfl⟩ := List.mem_map.1 hu; rfl
theorem enV_len (l : List (Int × Bool)) : (enV l).length = 2 * l.length := by
  unfold enV
  induction l with
  | nil => rfl
  | cons a r ih => simp only [List.flatMap_cons, List.length_append, List.length_cons, List.length_nil, ih]; omega
theorem acL_len {kd n : Int} {lf : Bool} {ks : List Int} {v : Int} (h : ks.length = 8) : (acL kd n lf ks v).length = 12 := by
  unfold acL; simp [kdV_len, h]
theorem acL_one {kd n : Int} {lf : Bool} {ks : List Int} {v : Int} : ∀ u ∈ acL kd n lf ks v, u.oneCell' = true := by
  intro u hu
  unfold acL at hu
  simp only [List.mem_cons, List.mem_append, List.not_mem_nil, or_false] at hu
  rcases hu with rfl | rfl | rfl | hu | rfl
  · rfl
  · rfl
  · rfl
  · exact kdV_one ks u hu
  · rfl
theorem range_drop {w : World} {b f : Nat} {L : List Value} (h : w.rangeAt b f L) (o : Nat) (M : List Value) (hM : ∀ j v, M[j]? = some v → L[o + j]? = some v) : w.rangeAt b (f + o) M := fun j v hv => by
  have := h (o + j) v (hM j v hv)
  rwa [← Nat.add_assoc] at this
theorem acL_kids {kd n : Int} {lf : Bool} {ks : List Int} {v : Int} : ∀ j u, (kdV ks)[j]? = some u → (acL kd n lf ks v)[3 + j]? = some u := by
  intro j u h
  unfold acL
  rw [show 3 + j = j + 1 + 1 + 1 by omega]
  simp only [List.getElem?_cons_succ]
  rw [List.getElem?_append_left (List.getElem?_eq_some_iff.1 h).1]
  exact h
theorem acL_val {kd n : Int} {lf : Bool} {ks : List Int} {v : Int} (h : ks.length = 8) : (acL kd n lf ks v)[11]? = some (.int .i64 v) := by
  obtain ⟨a, b, c, d, e, f, g, k, rfl⟩ := eight h
  rfl
theorem ndL_kids (x : ANd) : ∀ j u, (kdV x.kids)[j]? = some u → (ndL x)[1 + j]? = some u := by
  intro j u h
  unfold kdV at h
  unfold ndL
  rw [show 1 + j = j + 1 by omega]
  simp only [List.getElem?_cons_succ]
  rw [List.getElem?_append_left (List.getElem?_eq_some_iff.1 h).1]
  exact h
theorem ndL_vals (x : ANd) (hk : x.kids.length = 8) : ∀ j u, (enV x.vals)[j]? = some u → (ndL x)[9 + j]? = some u := by
  intro j u h
  unfold ndL
  rw [show 9 + j = 8 + j + 1 by omega]
  simp only [List.getElem?_cons_succ]
  rw [List.getElem?_append_right (by simp [hk]), show 8 + j - (List.map (Value.int .i64) x.kids).length = j by simp [hk]]
  exact h
theorem ac_set {lf : Bool} {ks : List Int} (h : ks.length = 8) (v : Int) (b : Bool) : setL (ndL ⟨lf, ks, zNd.vals⟩) 9 [.int .i64 v, .bool b] = ndL (acN lf ks v b) := by
  obtain ⟨a, b, c, d, e, f, g, k, rfl⟩ := eight h
  rfl
theorem acN_ok {lf : Bool} {ks : List Int} (h : ks.length = 8) (v : Int) (b : Bool) : (acN lf ks v b).kids.length = 8 ∧ (acN lf ks v b).vals.length = 8 := ⟨h, rfl⟩
theorem rd_size : (Tryd.prog.info? 86).map (·.size) = some 25 := by kernel_rfl
theorem rd_row : ∃ d, Tryd.prog.underlying 86 = some d ∧ d.isRow = true := ⟨_, Tryd.underlying86, rfl⟩
theorem en_size : (Tryd.prog.info? 39).map (·.size) = some 2 := by kernel_rfl
theorem wpl_allocR {ops : Array Oper} {rest : List Oper} {o : Oper} {a : Act} {w : World} {Q : Exit → Act → World → Prop} (hg : o.guard = none) (ho : o.op = .alloc 86)
    (h : wpList Tryd.prog ops Q rest (a.put o.dst (.pointer (some ⟨w.heap.size, 0, none⟩))) (w.alloc (.cells (ndL zNd).toArray 86))) : wpList Tryd.prog ops Q (o :: rest) a w := by
  refine wpl_to hg _ _ ?_ h
  unfold execOp
  simp only [ho]
  exact (show ∀ w : World, Sem.run Tryd.prog (do let x ← Instr.alloc 86 true (.tuple #[]); pure (Next.value x)) w = .ok (.value (.pointer (some ⟨w.heap.size, 0, none⟩))) (w.alloc (.cells (ndL zNd).toArray 86)) from fun w => by kernel_rfl) w
theorem buildR {l : List Int} (hl : l.length = 8) (lf : Bool) (w : World) : (Instr.build 86 #[(0, .bool lf), (1, .agg (kdV l).toArray)]).run Tryd.prog w = .ok (ndV ⟨lf, l, zNd.vals⟩) w := by
  obtain ⟨a, b, c, d, e, f, g, h, rfl⟩ := eight hl
  kernel_rfl
theorem wpl_buildR {ops : Array Oper} {rest : List Oper} {o : Oper} {a : Act} {w : World} {Q : Exit → Act → World → Prop} {K Z : List Value} (lf : Bool) (hb : ∀ w, (Instr.build 86 #[(0, .bool lf), (1, .agg K.toArray)]).run Tryd.prog w = .ok (.agg Z.toArray) w) (hg : o.guard = none) {x y : Operand} (ho : o.op = .build 86 #[(0, x), (1, y)]) (hx : a.eval x = .bool lf) (hy : a.eval y = .agg K.toArray)
    (h : wpList Tryd.prog ops Q rest (a.put o.dst (.agg Z.toArray)) w) : wpList Tryd.prog ops Q (o :: rest) a w := by
  refine wpl_to hg _ _ ?_ h
  unfold execOp
  simp only [ho, List.map_toArray, List.map_cons, List.map_nil, hx, hy, Sem.run_bind, hb, Result.andThen_ok, Sem.run_pure]
theorem buildG {l : List Int} {vs : List (Int × Bool)} (hl : l.length = 8) (hv : vs.length = 8) (lf : Bool) (w : World) : (Instr.build 91 #[(0, .bool lf), (1, .agg (kdV l).toArray), (2, .agg (enV vs).toArray)]).run Tryd.prog w = .ok (ndV ⟨lf, l, vs⟩) w := by
  obtain ⟨a, b, c, d, e, f, g, h, rfl⟩ := eight hl
  obtain ⟨a', b', c', d', e', f', g', h', rfl⟩ := eight hv
  kernel_rfl
theorem wpl_buildG {ops : Array Oper} {rest : List Oper} {o : Oper} {a : Act} {w : World} {Q : Exit → Act → World → Prop} {K V Z : List Value} (lf : Bool) (hb : ∀ w, (Instr.build 91 #[(0, .bool lf), (1, .agg K.toArray), (2, .agg V.toArray)]).run Tryd.prog w = .ok (.agg Z.toArray) w) (hg : o.guard = none) {x y z : Operand} (ho : o.op = .build 91 #[(0, x), (1, y), (2, z)]) (hx : a.eval x = .bool lf) (hy : a.eval y = .agg K.toArray) (hz : a.eval z = .agg V.toArray)
    (h : wpList Tryd.prog ops Q rest (a.put o.dst (.agg Z.toArray)) w) : wpList Tryd.prog ops Q (o :: rest) a w := by
  refine wpl_to hg _ _ ?_ h
  unfold execOp
  simp only [ho, List.map_toArray, List.map_cons, List.map_nil, hx, hy, hz, Sem.run_bind, hb, Result.andThen_ok, Sem.run_pure]
end Go.Proofs.YtjkbhaplngnniaaDoor
namespace Go.Proofs.YtjkbhaplngnniaaDoor
open Go.RowKit
set_option linter.unusedSimpArgs false
set_option linter.unusedVariables false

end Go.Proofs.YtjkbhaplngnniaaDoor
namespace Go.Proofs.YtjkbhaplngnniaaDoor
open Go.RowKit
set_option linter.unusedSimpArgs false
set_option linter.unusedVariables false

theorem run_equalIn_same {P : Program} (w : World) (d : Nat) (t e : TypeId) (n s : Nat) (xs : Array Value) (ht : P.underlying t = some (.array n e)) (hsz : ∀ w, (sizeOf e).run P w = .ok s w)
    (h : ∀ i, i < n → ∃ p, (∀ w, (part e xs (i * s)).run P w = .ok p w) ∧ ∀ w, (Op.equalIn d e p p).run P w = .ok true w) :
    (Op.equalIn (d + 1) t (.agg xs) (.agg xs)).run P w = .ok true w := by
  rw [Op.equalIn]
  simp only [Sem.run_bind, run_underlying ht, Result.andThen_ok, hsz, Std.Legacy.Range.forIn_eq_forIn_range', Std.Legacy.Range.size, Nat.sub_zero, Nat.add_sub_cancel, Nat.div_one]
  have hl : ∀ i ∈ List.range' 0 n 1, i < n := fun i hi => by simpa using (List.mem_range'_1.1 hi).2
  generalize List.range' 0 n 1 = l at hl ⊢
  induction l with
  | nil => simp
  | cons i l ih =>
    obtain ⟨p, hp, hq⟩ := h i (hl i (by simp))
    simp only [List.forIn_cons, Sem.run_bind, hp, hq, Result.andThen_ok, Bool.not_true, Bool.false_eq_true, if_false, Sem.run_pure]
    exact ih fun j hj => hl j (by simp [hj])
theorem kd_same {l : List Int} (hl : l.length = 8) (w : World) : (Op.equalIn 10000 83 (.agg (kdV l).toArray) (.agg (kdV l).toArray)).run Tryd.prog w = .ok true w := by
  refine run_equalIn_same w 9999 83 3 8 1 _ Tryd.underlying83 (fun w => by kernel_rfl) (fun i hi => ⟨.int .i64 (l.getD i 0), fun w => ?_, fun w => ?_⟩)
  · have := kdV_get (l := l) (k := i) (by omega)
    simp [part, isAgg, run_underlying Tryd.underlying3, this]
  · rw [run_equalIn_int w 9998 _ .i64 .i64 _ _ Tryd.underlying3]
    simp
theorem en_same1 (d : Nat) (a : Int) (b : Bool) (w : World) : (Op.equalIn (d + 2) 39 (.agg #[.int .i64 a, .bool b]) (.agg #[.int .i64 a, .bool b])).run Tryd.prog w = .ok true w := by
  have hf : Tryd.prog.underlying 39 = some (.struct (Tryd.prog.fieldsOf 39)) := by kernel_rfl
  rw [run_equalIn_struct w (d + 1) _ _ _ hf (by kernel_rfl)]
  have hl : ∃ f g : Field, (Tryd.prog.fieldsOf 39).toList = [f, g] ∧ f.name ≠ "_" ∧ g.name ≠ "_" ∧ f.offset = 0 ∧ g.offset = 1 ∧ f.type = 2 ∧ g.type = 4 := by
    have hn : (Tryd.prog.fieldsOf 39).toList.map (·.name) = ["Val", "Held"] := by kernel_rfl
    have ho : (Tryd.prog.fieldsOf 39).toList.map (·.offset) = [0, 1] := by kernel_rfl
    have ht : (Tryd.prog.fieldsOf 39).toList.map (·.type) = [2, 4] := by kernel_rfl
    clear hf
    generalize (Tryd.prog.fieldsOf 39).toList = l at *
    have hlen : l.length = 2 := by have := congrArg List.length hn; simpa using this
    match l, hlen with
    | [f, g], _ =>
      simp only [List.map_cons, List.map_nil, List.cons.injEq, and_true] at hn ho ht
      exact ⟨f, g, rfl, by rw [hn.1]; decide, by rw [hn.2]; decide, ho.1, ho.2, ht.1, ht.2⟩
  obtain ⟨f, g, h1, h2, h3, h4, h5, h6, h7⟩ := hl
  rw [h1]
  have p1 : ∀ w, (part 2 #[.int .i64 a, .bool b] 0).run Tryd.prog w = .ok (.int .i64 a) w := fun w => by kernel_rfl
  have p2 : ∀ w, (part 4 #[.int .i64 a, .bool b] 1).run Tryd.prog w = .ok (.bool b) w := fun w => by kernel_rfl
  simp only [Op.eqFields, h2, h3, h4, h5, h6, h7, ne_eq, not_false_eq_true, if_true, Sem.run_bind, p1, p2, Result.andThen_ok, run_equalIn_int w d _ .i64 .i64 _ _ Tryd.underlying2, run_equalIn_bool' w d _ _ _ Tryd.underlying4, beq_self_eq_true, Bool.not_true, Bool.false_eq_true, if_false, Sem.run_pure]
theorem en_part {vs : List (Int × Bool)} (hl : vs.length = 8) (i : Nat) (hi : i < 8) : ∃ a b, ∀ w, (part 39 (enV vs).toArray (i * 2)).run Tryd.prog w = .ok (.agg #[.int .i64 a, .bool b]) w := by
  obtain ⟨a, b, c, d, e, f, g, h, rfl⟩ := eight hl
  have : i = 0 ∨ i = 1 ∨ i = 2 ∨ i = 3 ∨ i = 4 ∨ i = 5 ∨ i = 6 ∨ i = 7 := by omega
  rcases this with rfl | rfl | rfl | rfl | rfl | rfl | rfl | rfl
  · exact ⟨a.1, a.2, fun w => by kernel_rfl⟩
  · exact ⟨b.1, b.2, fun w => by kernel_rfl⟩
  · exact ⟨c.1, c.2, fun w => by kernel_rfl⟩
  · exact ⟨d.1, d.2, fun w => by kernel_rfl⟩
  · exact ⟨e.1, e.2, fun w => by kernel_rfl⟩
  · exact ⟨f.1, f.2, fun w => by kernel_rfl⟩
  · exact ⟨g.1, g.2, fun w => by kernel_rfl⟩
  · exact ⟨h.1, h.2, fun w => by kernel_rfl⟩
theorem en_same {vs : List (Int × Bool)} (hl : vs.length = 8) (w : World) : (Op.equalIn 10000 84 (.agg (enV vs).toArray) (.agg (enV vs).toArray)).run Tryd.prog w = .ok true w := by
  refine run_equalIn_same w 9999 84 39 8 2 _ Tryd.underlying84 (fun w => by kernel_rfl) (fun i hi => ?_)
  obtain ⟨a, b, hp⟩ := en_part hl i hi
  exact ⟨_, hp, fun w => en_same1 9997 a b w⟩
/-- A load that is asked for. -/
theorem wpl_loadG {ops : Array Oper} {rest : List Oper} {o : Oper} {a : Act} {w : World} {Q : Exit → Act → World → Prop} {T : TypeId} {n : Nat} (hs : (Tryd.prog.info? T).map (·.size) = some n) (hr' : ∃ d, Tryd.prog.underlying T = some d ∧ d.isRow = true) (x : Operand) (ho : o.op = .load T x) (hg : Region.wanted o (yielded ops a.tmps) = true) (b f : Nat) (hx : a.eval x = .pointer (some ⟨b, f, none⟩)) (L : List Value) (hL : L.length = n) (hr : w.rangeAt b f L)
    (h : wpList Tryd.prog ops Q rest (a.put o.dst (.agg L.toArray)) w) : wpList Tryd.prog ops Q (o :: rest) a w := by
  obtain ⟨d, h1, h2⟩ := hr'
  refine wpList_step fun K hK => ?_
  rw [if_pos hg]
  exact wp_load_mid T x ho b f hx L d hr h1 h2 (by rw [hL]; exact hs) (hK _ _ h)
/-- A new block for an act. -/
def zAc : List Value := acL 0 0 false [0, 0, 0, 0, 0, 0, 0, 0] 0
/-- Acts that came in. -/
structure AcT where
  kd : Int
  n : Int
  lf : Bool
  ks : List Int
  v : Int
def AcT.L (x : AcT) : List Value := acL x.kd x.n x.lf x.ks x.v
def Acs (w : World) (a : Option Addr) (n : Nat) (f : Nat → AcT) : Prop :=
  (∀ i, i < n → (f i).ks.length = 8) ∧ n ≤ maxLen ∧ (0 < n → ∃ b off, a = some ⟨b, off, none⟩ ∧ b < w.heap.size ∧ ∀ i, i < n → w.rangeAt b (off + i * 12) (f i).L)
end Go.Proofs.YtjkbhaplngnniaaDoor
