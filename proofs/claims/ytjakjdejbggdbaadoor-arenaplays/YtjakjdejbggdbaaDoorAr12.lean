/- moietylaw09.node, moietylaw09.given: the node of an act. -/
import Derived.Test.YtjakjdejbggdbaaDoorArKnown
namespace Go.Proofs.YtjakjdejbggdbaaDoor
open Go.RowKit
set_option linter.unusedSimpArgs false
set_option linter.unusedVariables false

/-- An act's twelve cells. -/
def acL (kd n : Int) (lf : Bool) (ks : List Int) (v : Int) : List Value := .int .i64 kd :: .int .i64 n :: .bool lf :: (kdV ks ++ [.int .i64 v])
/-- Its node. -/
def acN (lf : Bool) (ks : List Int) (v : Int) (b : Bool) : ANd := ⟨lf, ks, [(v, b), (0, false), (0, false), (0, false), (0, false), (0, false), (0, false), (0, false)]⟩
def enV (vs : List (Int × Bool)) : List Value := vs.flatMap fun v => [Value.int .i64 v.1, Value.bool v.2]
theorem kdV_len (ks : List Int) : (kdV ks).length = ks.length := by simp [kdV]
theorem kdV_one (ks : List Int) : ∀ u ∈ kdV ks, u.oneCell' = true := by
  intro u hu; unfold kdV at hu; obtain ⟨y, _, rfl⟩ := List.mem_map.1 hu; rfl
theorem enV_len (l : List (Int × Bool)) : (enV l).length = 2 * l.length := by
  unfold enV
  induction l with
  | nil => rfl
  | cons a r ih => simp only [List.flatMap_cons, List.length_append, List.length_cons, List.length_nil, ih]; omega
theorem acL_len {kd n : Int} {lf : Bool} {ks : List Int} {v : Int} (h : ks.length = 8) : (acL kd n lf ks v).length = 12 := by
  unfold acL; simp [kdV_len, h]
theorem acL_one {kd n : Int} {lf : Bool} {ks : List Int} {v : Int} : ∀ u ∈ acL kd n lf ks v, u.oneCell' = true := by
  intro u hu
  unfold acL at hu
  simp only [List.mem_cons, List.mem_append, List.not_mem_nil, or_false] at hu
  rcases hu with rfl | rfl | rfl | hu | rfl
  · rfl
  · rfl
  · rfl
  · exact kdV_one ks u hu
  · rfl
theorem range_drop {w : World} {b f : Nat} {L : List Value} (h : w.rangeAt b f L) (o : Nat) (M : List Value) (hM : ∀ j v, M[j]? = some v → L[o + j]? = some v) : w.rangeAt b (f + o) M := fun j v hv => by
  have := h (o + j) v (hM j v hv)
  rwa [← Nat.add_assoc] at this
theorem acL_kids {kd n : Int} {lf : Bool} {ks : List Int} {v : Int} : ∀ j u, (kdV ks)[j]? = some u → (acL kd n lf ks v)[3 + j]? = some u := by
  intro j u h
  unfold acL
  rw [show 3 + j = j + 1 + 1 + 1 by omega]
  simp only [List.getElem?_cons_succ]
  rw [List.getElem?_append_left (List.getElem?_eq_some_iff.1 h).1]
  exact h
theorem acL_val {kd n : Int} {lf : Bool} {ks : List Int} {v : Int} (h : ks.length = 8) : (acL kd n lf ks v)[11]? = some (.int .i64 v) := by
  obtain ⟨a, b, c, d, e, f, g, k, rfl⟩ := eight h
  rfl
theorem ndL_kids (x : ANd) : ∀ j u, (kdV x.kids)[j]? = some u → (ndL x)[1 + j]? = some u := by
  intro j u h
  unfold kdV at h
  unfold ndL
  rw [show 1 + j = j + 1 by omega]
  simp only [List.getElem?_cons_succ]
  rw [List.getElem?_append_left (List.getElem?_eq_some_iff.1 h).1]
  exact h
theorem ndL_vals (x : ANd) (hk : x.kids.length = 8) : ∀ j u, (enV x.vals)[j]? = some u → (ndL x)[9 + j]? = some u := by
  intro j u h
  unfold ndL
  rw [show 9 + j = 8 + j + 1 by omega]
  simp only [List.getElem?_cons_succ]
  rw [List.getElem?_append_right (by simp [hk]), show 8 + j - (List.map (Value.int .i64) x.kids).length = j by simp [hk]]
  exact h
theorem ac_set {lf : Bool} {ks : List Int} (h : ks.length = 8) (v : Int) (b : Bool) : setL (ndL ⟨lf, ks, zNd.vals⟩) 9 [.int .i64 v, .bool b] = ndL (acN lf ks v b) := by
  obtain ⟨a, b, c, d, e, f, g, k, rfl⟩ := eight h
  rfl
theorem acN_ok {lf : Bool} {ks : List Int} (h : ks.length = 8) (v : Int) (b : Bool) : (acN lf ks v b).kids.length = 8 ∧ (acN lf ks v b).vals.length = 8 := ⟨h, rfl⟩
theorem rd_size : (Tryd.prog.info? 38).map (·.size) = some 25 := by kernel_rfl
theorem rd_row : ∃ d, Tryd.prog.underlying 38 = some d ∧ d.isRow = true := ⟨_, Tryd.underlying38, rfl⟩
theorem ac_size : (Tryd.prog.info? 33).map (·.size) = some 12 := by kernel_rfl
theorem ac_row : ∃ d, Tryd.prog.underlying 33 = some d ∧ d.isRow = true := ⟨_, Tryd.underlying33, rfl⟩
theorem en_size : (Tryd.prog.info? 35).map (·.size) = some 2 := by kernel_rfl
theorem wpl_allocR {ops : Array Oper} {rest : List Oper} {o : Oper} {a : Act} {w : World} {Q : Exit → Act → World → Prop} (hg : o.guard = none) (ho : o.op = .alloc 38)
    (h : wpList Tryd.prog ops Q rest (a.put o.dst (.pointer (some ⟨w.heap.size, 0, none⟩))) (w.alloc (.cells (ndL zNd).toArray 38))) : wpList Tryd.prog ops Q (o :: rest) a w := by
  refine wpl_to hg _ _ ?_ h
  unfold execOp
  simp only [ho]
  exact (show ∀ w : World, Sem.run Tryd.prog (do let x ← Instr.alloc 38 true (.tuple #[]); pure (Next.value x)) w = .ok (.value (.pointer (some ⟨w.heap.size, 0, none⟩))) (w.alloc (.cells (ndL zNd).toArray 38)) from fun w => by kernel_rfl) w
theorem buildR {l : List Int} (hl : l.length = 8) (lf : Bool) (w : World) : (Instr.build 38 #[(0, .bool lf), (1, .agg (kdV l).toArray)]).run Tryd.prog w = .ok (ndV ⟨lf, l, zNd.vals⟩) w := by
  obtain ⟨a, b, c, d, e, f, g, h, rfl⟩ := eight hl
  kernel_rfl
theorem wpl_buildR {ops : Array Oper} {rest : List Oper} {o : Oper} {a : Act} {w : World} {Q : Exit → Act → World → Prop} {K Z : List Value} (lf : Bool) (hb : ∀ w, (Instr.build 38 #[(0, .bool lf), (1, .agg K.toArray)]).run Tryd.prog w = .ok (.agg Z.toArray) w) (hg : o.guard = none) {x y : Operand} (ho : o.op = .build 38 #[(0, x), (1, y)]) (hx : a.eval x = .bool lf) (hy : a.eval y = .agg K.toArray)
    (h : wpList Tryd.prog ops Q rest (a.put o.dst (.agg Z.toArray)) w) : wpList Tryd.prog ops Q (o :: rest) a w := by
  refine wpl_to hg _ _ ?_ h
  unfold execOp
  simp only [ho, List.map_toArray, List.map_cons, List.map_nil, hx, hy, Sem.run_bind, hb, Result.andThen_ok, Sem.run_pure]
theorem buildG {l : List Int} {vs : List (Int × Bool)} (hl : l.length = 8) (hv : vs.length = 8) (lf : Bool) (w : World) : (Instr.build 42 #[(0, .bool lf), (1, .agg (kdV l).toArray), (2, .agg (enV vs).toArray)]).run Tryd.prog w = .ok (ndV ⟨lf, l, vs⟩) w := by
  obtain ⟨a, b, c, d, e, f, g, h, rfl⟩ := eight hl
  obtain ⟨a', b', c', d', e', f', g', h', rfl⟩ := eight hv
  kernel_rfl
theorem wpl_buildG {ops : Array Oper} {rest : List Oper} {o : Oper} {a : Act} {w : World} {Q : Exit → Act → World → Prop} {K V Z : List Value} (lf : Bool) (hb : ∀ w, (Instr.build 42 #[(0, .bool lf), (1, .agg K.toArray), (2, .agg V.toArray)]).run Tryd.prog w = .ok (.agg Z.toArray) w) (hg : o.guard = none) {x y z : Operand} (ho : o.op = .build 42 #[(0, x), (1, y), (2, z)]) (hx : a.eval x = .bool lf) (hy : a.eval y = .agg K.toArray) (hz : a.eval z = .agg V.toArray)
    (h : wpList Tryd.prog ops Q rest (a.put o.dst (.agg Z.toArray)) w) : wpList Tryd.prog ops Q (o :: rest) a w := by
  refine wpl_to hg _ _ ?_ h
  unfold execOp
  simp only [ho, List.map_toArray, List.map_cons, List.map_nil, hx, hy, hz, Sem.run_bind, hb, Result.andThen_ok, Sem.run_pure]
theorem given_rets {R : Ending → World → Prop} {a : Act} {w : World} (g : Nat) (L : List Value) (hL : L.length = 25) (hr : w.rangeAt g 0 L) (hp : a.tmps.getD 2 undef = .pointer (some ⟨g, 0, none⟩)) (hd : a.defers = [])
    (h : R (.returned (.agg L.toArray)) w) : bodyPost Tryd.prog Tryd.f9 R .ret a w := by
  obtain ⟨d, h1, h2⟩ := nd_row
  exact bodyPost_ret (results_cell1 rfl _ _ g _ hp (run_loadVar_mid w g 0 _ L d hr h1 h2 (by rw [hL]; exact nd_size))) hd h
theorem node_rets {R : Ending → World → Prop} {a : Act} {w : World} (g : Nat) (L : List Value) (hL : L.length = 25) (hr : w.rangeAt g 0 L) (hp : a.tmps.getD 2 undef = .pointer (some ⟨g, 0, none⟩)) (hd : a.defers = [])
    (h : R (.returned (.agg L.toArray)) w) : bodyPost Tryd.prog Tryd.f7 R .ret a w := by
  obtain ⟨d, h1, h2⟩ := rd_row
  exact bodyPost_ret (results_cell1 rfl _ _ g _ hp (run_loadVar_mid w g 0 _ L d hr h1 h2 (by rw [hL]; exact rd_size))) hd h
set_option maxHeartbeats 2000000 in
set_option maxRecDepth 100000 in
theorem law9_given (x : ANd) (hk : x.kids.length = 8) (hv : x.vals.length = 8) (w : World) : Calls Tryd.prog 9 #[ndV x] w fun e w' => e = .returned (ndV x) ∧ Kept w w' := by
  have hlen := ndL_len x hk hv
  have hob := ndL_one x
  obtain ⟨W, hW⟩ : ∃ W, W = (w.alloc (.cells (ndL x).toArray 38)).alloc (.cells (ndL zNd).toArray 42) := ⟨_, rfl⟩
  have kW : Kept w W := by rw [hW]; exact ((Kept.refl w).alloc _).alloc _
  have r1 : W.rangeAt w.heap.size 0 (ndL x) := by rw [hW]; exact ((Kept.refl _).alloc _).range (new_range _ _ _)
  have t2 : W.there (w.heap.size + 1) 0 25 := by
    rw [hW]
    have := new_there (w.alloc (.cells (ndL x).toArray 38)) (ndL zNd) 42 25 (by rfl)
    simpa using this
  have c0 : W.cell? ⟨w.heap.size, 0, none⟩ = some (.bool x.leaf) := by
    have := r1 0 (.bool x.leaf) rfl
    simpa using this
  have rk : W.rangeAt w.heap.size 1 (kdV x.kids) := by have := range_drop r1 1 _ (ndL_kids x); simpa using this
  have rv : W.rangeAt w.heap.size 9 (enV x.vals) := by have := range_drop r1 9 _ (ndL_vals x hk); simpa using this
  have HB := hidMk (fun w => buildG hk hv x.leaf w)
  have HK := hidMk (And.intro (show (kdV x.kids).length = 8 by rw [kdV_len, hk]) rk)
  have HV := hidMk (And.intro (show (enV x.vals).length = 16 by rw [enV_len, hv]) rv)
  have HX := hidMk (And.intro hlen (And.intro hob t2))
  have HKW := hidMk kW
  have H25 := hidMk (show ∀ (Y : World) (L : List Value), L.length = 25 → Y.there (w.heap.size + 1) 0 25 → (Y.setCells (w.heap.size + 1) 0 L).rangeAt (w.heap.size + 1) 0 L from fun Y L hL ht => World.rangeAt_setCells_same _ _ _ _ (by rw [hL]; exact ht))
  unfold ndV at *
  generalize kdV x.kids = K at *
  generalize enV x.vals = V at *
  generalize ndL x = LX at *
  obtain ⟨lf, hlf⟩ : ∃ lf, x.leaf = lf := ⟨_, rfl⟩
  rw [hlf] at c0 HB
  clear hlen hob kW r1 t2 rk rv hlf
  go_enter Tryd.func9, Tryd.ntmps9
  go_wp2_with (first | (refine wpl_allocN rfl rfl ?_; rw [← hW]; clear hW) | (refine wpl_loadT k_size k_row rfl _ rfl _ _ rfl K HK.out.1 HK.out.2 ?_) | (refine wpl_loadT v_size v_row rfl _ rfl _ _ rfl V HV.out.1 HV.out.2 ?_) | (refine wpl_buildG lf HB.out rfl rfl rfl rfl rfl ?_) | (refine wpl_storeT nd_size rfl _ _ rfl _ _ rfl LX HX.out.1 rfl HX.out.2.1 HX.out.2.2 ?_))
  exact given_rets (w.heap.size + 1) LX HX.out.1 (H25.out _ _ HX.out.1 HX.out.2.2) rfl rfl ⟨rfl, kept_setCells (by omega) _ _ HKW.out⟩
end Go.Proofs.YtjakjdejbggdbaaDoor
