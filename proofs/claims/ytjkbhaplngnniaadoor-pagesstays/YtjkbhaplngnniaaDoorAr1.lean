/- An arena that is not there; arena.New. -/
import Derived.Test.YtjkbhaplngnniaaDoorArMath
import Derived.Test.YtjkbhaplngnniaaDoorChgI
import Derived.Deep.MidRow
namespace Go.Proofs.YtjkbhaplngnniaaDoor
open Go.RowKit
set_option linter.unusedSimpArgs false
set_option linter.unusedVariables false

theorem nil_Used (w : World) : Calls Tryd.prog 18 #[.pointer none] w fun e w' => e = .returned (.int .i64 0) ∧ w' = w := by
  go_enter Tryd.func18, Tryd.ntmps18
  go_wp2
  go_ret
  exact ⟨rfl, rfl⟩
theorem nil_find (i : Int) (w : World) : Calls Tryd.prog 51 #[.pointer none, .int .i64 i] w fun e w' => e = .returned (.tuple #[.pointer none, .int .i64 1]) ∧ w' = w := by
  go_enter Tryd.func51, Tryd.ntmps51
  go_wp2
  go_ret2
  exact ⟨rfl, rfl⟩
theorem nil_Keep (i : Int) (w : World) : Calls Tryd.prog 43 #[.pointer none, .int .i64 i] w fun e w' => e = .returned (.int .i64 1) ∧ w' = w := by
  have H := hidMk (nil_find i w)
  go_enter Tryd.func43, Tryd.ntmps43
  go_wp2_with fail
  refine H.out.mono ?_
  rintro e w1 ⟨rfl, rfl⟩
  go_wp2_with fail
  go_ret
  exact ⟨rfl, rfl⟩
theorem nil_Drop (i : Int) (w : World) : Calls Tryd.prog 39 #[.pointer none, .int .i64 i] w fun e w' => e = .returned (.int .i64 1) ∧ Kept w w' := by
  have H := hidMk (nil_find i)
  go_enter Tryd.func39, Tryd.ntmps39
  go_wp2_with fail
  refine (H.out _).mono ?_
  rintro e w1 ⟨rfl, hw⟩
  rw [hw]
  go_wp2_with fail
  go_ret
  exact ⟨rfl, by first | exact Kept.refl _ | exact (Kept.refl _).alloc _⟩
/-- A node's 25 cells. -/
def ndL (x : ANd) : List Value := Value.bool x.leaf :: (x.kids.map (Value.int .i64) ++ x.vals.flatMap fun v => [Value.int .i64 v.1, Value.bool v.2])
def zNd : ANd := ⟨false, [0, 0, 0, 0, 0, 0, 0, 0], [(0, false), (0, false), (0, false), (0, false), (0, false), (0, false), (0, false), (0, false)]⟩
def ndV (x : ANd) : Value := .agg (ndL x).toArray
theorem ndL_len (x : ANd) (h : x.kids.length = 8) (h' : x.vals.length = 8) : (ndL x).length = 25 := by
  have : ∀ l : List (Int × Bool), (l.flatMap fun v => [Value.int .i64 v.1, Value.bool v.2]).length = 2 * l.length := by
    intro l
    induction l with
    | nil => rfl
    | cons a r ih => simp only [List.flatMap_cons, List.length_append, List.length_cons, List.length_nil, ih]; omega
  unfold ndL
  rw [List.length_cons, List.length_append, List.length_map, h, this, h']
theorem ndL_kid (x : ANd) (h : x.kids.length = 8) (j : Nat) (hj : j < 8) : (ndL x)[1 + j]? = some (.int .i64 (x.kids.getD j 0)) := by
  unfold ndL
  rw [show 1 + j = j + 1 by omega, List.getElem?_cons_succ, List.getElem?_append_left (by simp; omega), List.getElem?_map, List.getElem?_eq_getElem (by omega), List.getD_eq_getElem?_getD, List.getElem?_eq_getElem (by omega)]
  rfl
theorem ndL_one (x : ANd) : ∀ u ∈ ndL x, u.oneCell' = true := by
  intro u hu
  unfold ndL at hu
  rcases List.mem_cons.1 hu with rfl | hu
  · rfl
  · rcases List.mem_append.1 hu with hu | hu
    · obtain ⟨y, _, rfl⟩ := List.mem_map.1 hu; rfl
    · obtain ⟨y, _, hy⟩ := List.mem_flatMap.1 hu
      rcases List.mem_cons.1 hy with rfl | hy
      · rfl
      · simp at hy; subst hy; rfl
theorem zAr_ex : ∃ Z : Array Value, (∀ w, (zeroValue 70).run Tryd.prog w = .ok (.agg Z) w) ∧ Z ≠ #[] ∧ Z[1]? = some (.int .i64 0) ∧ Z[2]? = some (.slice none 0 0) ∧ 0 < Z.size ∧ ∀ j, j < 313 → Z[3 + j]? = some (.int .u64 0) := by
  refine ⟨#[.int .i64 0, .int .i64 0, .slice none 0 0] ++ Array.replicate 313 (.int .u64 0), fun w => by kernel_rfl, ?_, by simp, by simp, by simp, fun j hj => ?_⟩
  · intro h
    have := congrArg Array.size h
    simp at this
  · rw [Array.getElem?_append_right (by simp)]
    simp [Array.getElem?_replicate]
    omega
/-- A new arena's block. -/
structure NewA (w w' : World) (most : Int) : Prop where
  kept : Kept w w'
  lt : w.heap.size < w'.heap.size
  c0 : w'.cell? ⟨w.heap.size, 0, none⟩ = some (.int .i64 most)
  c1 : w'.cell? ⟨w.heap.size, 1, none⟩ = some (.int .i64 0)
  c2 : w'.cell? ⟨w.heap.size, 2, none⟩ = some (.slice none 0 0)
  c3 : ∀ j, j < 313 → w'.cell? ⟨w.heap.size, 3 + j, none⟩ = some (.int .u64 0)
  fz : ∀ j, w'.frozen? ⟨w.heap.size, j, none⟩ = false
set_option maxRecDepth 100000 in
theorem arena_New (most : Int) (w : World) (h1 : 1 ≤ most) (h2 : most ≤ 20000) : Calls Tryd.prog 9 #[.int .i64 most] w fun e w' => e = .returned (.tuple #[.pointer (some ⟨w.heap.size, 0, none⟩), .int .i64 0]) ∧ NewA w w' most := by
  obtain ⟨Z, hz, hne, HZ⟩ := zAr_ex
  have hz := hz w
  have hne : (Z = #[]) = False := eq_false hne
  have HZ := hidMk HZ
  go_enter Tryd.func9, Tryd.ntmps9
  go_wp2
  go_ret2
  obtain ⟨z1, z2, z0, z3⟩ := HZ.out
  refine ⟨rfl, (Kept.refl w).alloc _, by simp, ?_, ?_, ?_, fun j hj => ?_, fun j => by simp⟩
  · simp [Array.getElem?_setIfInBounds, z0]
  · simp [Array.getElem?_setIfInBounds, z1]
  · simp [Array.getElem?_setIfInBounds, z2]
  · have := z3 j hj
    rw [show (w.alloc (.cells (Z.setIfInBounds 0 (.int .i64 most)) 70)).cell? ⟨w.heap.size, 3 + j, none⟩ = (Z.setIfInBounds 0 (.int .i64 most))[3 + j]? by simp, Array.getElem?_setIfInBounds_ne (by omega)]
    exact this
theorem arena_NewBad (most : Int) (w : World) (h : ¬ (1 ≤ most ∧ most ≤ 20000)) : Calls Tryd.prog 9 #[.int .i64 most] w fun e w' => e = .returned (.tuple #[.pointer none, .int .i64 2]) ∧ w' = w := by
  by_cases h1 : most < 1
  · go_enter Tryd.func9, Tryd.ntmps9
    go_wp2
    go_ret2
    exact ⟨rfl, rfl⟩
  · have h2 : 20000 < most := by omega
    have h1 : 1 ≤ most := by omega
    go_enter Tryd.func9, Tryd.ntmps9
    go_wp2
    go_ret2
    exact ⟨rfl, rfl⟩
theorem results_cell_tmp {P : Program} {fn : Func} {p : Tmp} {ty : TypeId} {u : Tmp} (h : fn.results = #[.cell p ty, .tmp u]) (tmps : Array Value) (w : World) (g : Nat) (v : Value)
    (hp : tmps.getD p undef = .pointer (some ⟨g, 0, none⟩)) (hg : (loadVar ty ⟨g, 0, none⟩).run P w = .ok v w) :
    (results fn tmps).run P w = .ok (.tuple #[v, tmps.getD u undef]) w := by
  have hp' : tmps[p]?.getD undef = .pointer (some ⟨g, 0, none⟩) := by simpa using hp
  simp [results, h, hp', asAddr, hg]
/-- An operation whose run is known. -/
theorem wpl_to {P : Program} {ops : Array Oper} {rest : List Oper} {o : Oper} {a : Act} {w : World} {Q : Exit → Act → World → Prop} (hg : o.guard = none) (v : Value) (w' : World) (hrun : (execOp a.eval o).run P w = .ok (.value v) w')
    (h : wpList P ops Q rest (a.put o.dst v) w') : wpList P ops Q (o :: rest) a w := by
  refine wpList_plain hg fun K hK => ?_
  unfold Oper.wp
  rw [hrun, Oper.upon_value]
  exact hK _ _ h
theorem nd_size : (Tryd.prog.info? 91).map (·.size) = some 25 := by kernel_rfl
theorem zNd_run (w : World) : (zeroValue 91).run Tryd.prog w = .ok (ndV zNd) w := by kernel_rfl
theorem wpl_allocN {ops : Array Oper} {rest : List Oper} {o : Oper} {a : Act} {w : World} {Q : Exit → Act → World → Prop} (hg : o.guard = none) (ho : o.op = .alloc 91)
    (h : wpList Tryd.prog ops Q rest (a.put o.dst (.pointer (some ⟨w.heap.size, 0, none⟩))) (w.alloc (.cells (ndL zNd).toArray 91))) : wpList Tryd.prog ops Q (o :: rest) a w := by
  refine wpl_to hg _ _ ?_ h
  unfold execOp
  simp only [ho]
  exact (show ∀ w : World, Sem.run Tryd.prog (do let x ← Instr.alloc 91 true (.tuple #[]); pure (Next.value x)) w = .ok (.value (.pointer (some ⟨w.heap.size, 0, none⟩))) (w.alloc (.cells (ndL zNd).toArray 91)) from fun w => by kernel_rfl) w
theorem wpl_buildZ {ops : Array Oper} {rest : List Oper} {o : Oper} {a : Act} {w : World} {Q : Exit → Act → World → Prop} (hg : o.guard = none) (ho : o.op = .build 91 #[])
    (h : wpList Tryd.prog ops Q rest (a.put o.dst (ndV zNd)) w) : wpList Tryd.prog ops Q (o :: rest) a w := by
  refine wpl_to hg _ _ ?_ h
  unfold execOp
  simp only [ho, List.map_toArray, List.map_nil]
  exact (show ∀ w : World, Sem.run Tryd.prog (do let x ← Instr.build 91 #[]; pure (Next.value x)) w = .ok (.value (ndV zNd)) w from fun w => by kernel_rfl) w
theorem nd_row : ∃ d, Tryd.prog.underlying 91 = some d ∧ d.isRow = true := ⟨_, Tryd.underlying91, rfl⟩
theorem wpl_loadN {ops : Array Oper} {rest : List Oper} {o : Oper} {a : Act} {w : World} {Q : Exit → Act → World → Prop} (hg : o.guard = none) (x : Operand) (ho : o.op = .load 91 x) (b f : Nat) (hx : a.eval x = .pointer (some ⟨b, f, none⟩)) (L : List Value) (hL : L.length = 25) (hr : w.rangeAt b f L)
    (h : wpList Tryd.prog ops Q rest (a.put o.dst (.agg L.toArray)) w) : wpList Tryd.prog ops Q (o :: rest) a w := by
  obtain ⟨d, h1, h2⟩ := nd_row
  exact wpList_load_mid hg _ x ho b f hx L d hr h1 h2 (by rw [hL]; exact nd_size) h
theorem wpl_storeN {ops : Array Oper} {rest : List Oper} {o : Oper} {a : Act} {w : World} {Q : Exit → Act → World → Prop} (hg : o.guard = none) (x y : Operand) (ho : o.op = .store 91 x y) (b f : Nat) (hx : a.eval x = .pointer (some ⟨b, f, none⟩)) (L : List Value) (hL : L.length = 25) (hy : a.eval y = .agg L.toArray) (h1 : ∀ u ∈ L, u.oneCell' = true) (ht : w.there b f 25)
    (h : wpList Tryd.prog ops Q rest (a.put o.dst undef) (w.setCells b f L)) : wpList Tryd.prog ops Q (o :: rest) a w := by
  refine wpList_store_mid hg _ x y ho b f L.toArray hx hy (by simpa [hL] using ht) (by rw [nd_size]; simp [hL]) (all_oneCell_toArray h1) ?_
  simpa using h
theorem chg_setCells {S : Nat → Prop} {b : Nat} (hb : S b) : ∀ (L : List Value) (o : Nat) {x y : World}, Chg S x y → Chg S x (y.setCells b o L) := by
  intro L
  induction L with
  | nil => intro o x y h; exact h
  | cons v r ih => intro o x y h; exact ih (o + 1) (h.setCell (p := ⟨b, o, none⟩) (.inl hb) v)
theorem kept_setCells {x y : World} {b : Nat} (hb : x.heap.size ≤ b) (L : List Value) (o : Nat) (h : Kept x y) : Kept x (y.setCells b o L) :=
  Chg.kept (S := fun j => j = b) h (chg_setCells (S := fun j => j = b) rfl L o (Chg.refl _ y)) (fun j e => by omega)
/-- A new block: its cells are there. -/
theorem new_range (w : World) (L : List Value) (T : TypeId) : (w.alloc (.cells L.toArray T)).rangeAt w.heap.size 0 L := fun j v hv => by simpa using hv
theorem new_there (w : World) (L : List Value) (T : TypeId) (n : Nat) (hn : L.length = n) : (w.alloc (.cells L.toArray T)).there w.heap.size 0 n := fun j hj => by
  constructor
  · simp [List.getElem?_eq_getElem (show j < L.length by omega)]
  · simp
theorem Kept.range {x y : World} (h : Kept x y) {b o : Nat} {L : List Value} (hr : x.rangeAt b o L) : y.rangeAt b o L := fun j v hv => h.cellp (hr j v hv)
theorem Kept.there {x y : World} (h : Kept x y) {b o n : Nat} (hb : b < x.heap.size) (hr : x.there b o n) : y.there b o n := fun j hj => by
  rw [h.cell (p := ⟨b, o + j, none⟩) hb, h.frozen (p := ⟨b, o + j, none⟩) hb]; exact hr j hj
theorem At_rets {R : Ending → World → Prop} {a : Act} {w : World} (g : Nat) (L : List Value) (hL : L.length = 25) (hr : w.rangeAt g 0 L) {er : Value} (hp : a.tmps.getD 4 undef = .pointer (some ⟨g, 0, none⟩)) (hq : a.tmps.getD 5 undef = er) (hd : a.defers = [])
    (h : R (.returned (.tuple #[.agg L.toArray, er])) w) : bodyPost Tryd.prog Tryd.f54 R .ret a w := by
  subst hq
  obtain ⟨d, h1, h2⟩ := nd_row
  exact bodyPost_ret (results_cell_tmp rfl _ _ g _ hp (run_loadVar_mid w g 0 _ L d hr h1 h2 (by rw [hL]; exact nd_size))) hd h
theorem nil_At (i : Int) (w : World) : Calls Tryd.prog 54 #[.pointer none, .int .i64 i] w fun e w' => e = .returned (.tuple #[ndV zNd, .int .i64 1]) ∧ Kept w w' := by
  have H := hidMk (nil_find i)
  go_enter Tryd.func54, Tryd.ntmps54
  go_wp2_with (first | (refine wpl_allocN rfl rfl ?_) | (refine wpl_buildZ rfl rfl ?_) | (refine wpl_storeN rfl _ _ rfl _ _ rfl _ (by rfl) rfl (ndL_one zNd) (new_there _ _ _ _ (by rfl)) ?_))
  refine (H.out _).mono ?_
  rintro e w1 ⟨rfl, hw⟩
  rw [hw]
  go_wp2_with (first | (refine wpl_allocN rfl rfl ?_) | (refine wpl_buildZ rfl rfl ?_) | (refine wpl_storeN rfl _ _ rfl _ _ rfl _ (by rfl) rfl (ndL_one zNd) (new_there _ _ _ _ (by rfl)) ?_))
  refine At_rets w.heap.size (ndL zNd) (by rfl) (World.rangeAt_setCells_same _ _ _ _ (new_there _ _ _ _ (by rfl))) rfl rfl rfl ⟨rfl, kept_setCells (Nat.le_refl _) _ _ ((Kept.refl w).alloc _)⟩
end Go.Proofs.YtjkbhaplngnniaaDoor
