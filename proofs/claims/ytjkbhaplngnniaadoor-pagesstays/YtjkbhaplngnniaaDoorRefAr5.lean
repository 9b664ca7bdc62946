/- The definition's arena: New. · The definition's arena: what Make writes, step by step. · The definition's arena: laws for Make (a struct that is boxed, appended), and what it answers (RMk). -/
import Derived.Test.YtjkbhaplngnniaaDoorRefAr2
import Derived.Deep.MidRow
namespace Go.Proofs.YtjkbhaplngnniaaDoor
open Go.RowKit Go.Maps
set_option linter.unusedSimpArgs false
set_option linter.unusedVariables false

theorem wpl_buildRZ {ops : Array Oper} {rest : List Oper} {o : Oper} {a : Act} {w : World} {Q : Exit → Act → World → Prop} {Z : List Value} (hZ : ndL zNd = Z) (hg : o.guard = none) (ho : o.op = .build 86 #[])
    (h : wpList Tryd.prog ops Q rest (a.put o.dst (.agg Z.toArray)) w) : wpList Tryd.prog ops Q (o :: rest) a w := by
  subst hZ
  refine wpl_to hg _ _ ?_ h
  unfold execOp
  simp only [ho, List.map_toArray, List.map_nil]
  exact (show ∀ w : World, Sem.run Tryd.prog (do let x ← Instr.build 86 #[]; pure (Next.value x)) w = .ok (.value (.agg (ndL zNd).toArray)) w from fun w => by kernel_rfl) w
theorem wpl_buildSZ {ops : Array Oper} {rest : List Oper} {o : Oper} {a : Act} {w : World} {Q : Exit → Act → World → Prop} {Z : List Value} (hZ : ndL zNd = Z) (hg : o.guard = none) {x : Operand} (ho : o.op = .buildSlice 76 1 #[(0, x)]) (hx : a.eval x = .agg Z.toArray)
    (h : wpList Tryd.prog ops Q rest (a.put o.dst (.slice (some ⟨w.heap.size, 0, none⟩) 1 1)) (w.alloc (.cells Z.toArray 86))) : wpList Tryd.prog ops Q (o :: rest) a w := by
  subst hZ
  refine wpl_to hg _ _ ?_ h
  unfold execOp
  simp only [ho, List.map_toArray, List.map_cons, List.map_nil, hx]
  exact (show ∀ w : World, Sem.run Tryd.prog (do let x ← Instr.buildSlice 76 1 #[(0, .agg (ndL zNd).toArray)]; pure (Next.value x)) w = .ok (.value (.slice (some ⟨w.heap.size, 0, none⟩) 1 1)) (w.alloc (.cells (ndL zNd).toArray 86)) from fun w => by kernel_rfl) w
theorem r9_NewBad (most : Int) (w : World) (h : ¬ (1 ≤ most ∧ most ≤ 20000)) : Calls Tryd.prog 31 #[.int .i64 most] w fun e w' => e = .returned (.tuple #[.pointer none, .int .i64 2]) ∧ w' = w := by
  by_cases h1 : most < 1
  · go_enter Tryd.func31, Tryd.ntmps31
    go_wp2
    go_ret2
    exact ⟨rfl, rfl⟩
  · have h2 : 20000 < most := by omega
    have h1 : 1 ≤ most := by omega
    go_enter Tryd.func31, Tryd.ntmps31
    go_wp2
    go_ret2
    exact ⟨rfl, rfl⟩
theorem r9_New (most : Int) (w : World) (h1 : 1 ≤ most) (h2 : most ≤ 20000) : Calls Tryd.prog 31 #[.int .i64 most] w fun e w' => e = .returned (.tuple #[.pointer (some ⟨w.heap.size + 2, 0, none⟩), .int .i64 0]) ∧ RQ w' w.heap.size (w.heap.size + 2) most 0 (fun _ => 0) (fun _ => zNd) 0 w.heap.size (w.heap.size + 1) 1 1 (ndL zNd) ∧ Kept w w' := by
  obtain ⟨Z, hZ⟩ : ∃ Z, ndL zNd = Z := ⟨_, rfl⟩
  have hzl : Z.length = 25 := by rw [← hZ]; rfl
  have HZ := hidMk hZ
  have HZL := hidMk hzl
  have HQ := hidMk (show ∀ W : World, W = ((w.alloc (.cells Z.toArray 86)).alloc (.cells #[.int .i64 0] 3)).alloc (.cells #[.int .i64 most, .slice (some ⟨w.heap.size, 0, none⟩) 1 1, .slice (some ⟨w.heap.size + 1, 0, none⟩) 1 1] 78) → RQ W w.heap.size (w.heap.size + 2) most 0 (fun _ => 0) (fun _ => zNd) 0 w.heap.size (w.heap.size + 1) 1 1 Z from fun W hW => by
    obtain ⟨Y1, hY1⟩ : ∃ Y, Y = w.alloc (.cells Z.toArray 86) := ⟨_, rfl⟩
    rw [← hY1] at hW
    obtain ⟨Y2, hY2⟩ : ∃ Y, Y = Y1.alloc (.cells #[.int .i64 0] 3) := ⟨_, rfl⟩
    rw [← hY2] at hW
    have z1 : Y1.heap.size = w.heap.size + 1 := by rw [hY1]; simp
    have z2 : Y2.heap.size = w.heap.size + 2 := by rw [hY2]; simp [z1]
    have b1 : Y1.heap[w.heap.size]? = some (.cells Z.toArray 86) := by rw [hY1]; exact World.heap_new _ _
    have b2 : Y2.heap[w.heap.size + 1]? = some (.cells #[.int .i64 0] 3) := by rw [hY2, ← z1]; exact World.heap_new _ _
    have k2 : Kept Y1 Y2 := by rw [hY2]; exact (Kept.refl _).alloc _
    have k3 : Kept Y2 W := by rw [hW]; exact (Kept.refl _).alloc _
    have b1' : W.heap[w.heap.size]? = some (.cells Z.toArray 86) := by rw [k3.block _ (by omega), k2.block _ (by omega), b1]
    have b2' : W.heap[w.heap.size + 1]? = some (.cells #[.int .i64 0] 3) := by rw [k3.block _ (by omega), b2]
    have r3 : W.rangeAt (w.heap.size + 2) 0 [.int .i64 most, .slice (some ⟨w.heap.size, 0, none⟩) 1 1, .slice (some ⟨w.heap.size + 1, 0, none⟩) 1 1] := by
      rw [hW, ← z2]
      exact new_range Y2 _ _
    have t3 : W.there (w.heap.size + 2) 0 3 := by
      rw [hW, ← z2]
      exact new_there Y2 [.int .i64 most, .slice (some ⟨w.heap.size, 0, none⟩) 1 1, .slice (some ⟨w.heap.size + 1, 0, none⟩) 1 1] _ 3 rfl
    have b3 : W.heap[w.heap.size + 2]? = some (.cells #[.int .i64 most, .slice (some ⟨w.heap.size, 0, none⟩) 1 1, .slice (some ⟨w.heap.size + 1, 0, none⟩) 1 1] 78) := by rw [hW, ← z2]; exact World.heap_new _ _
    refine ⟨r3 0 _ rfl, r3 1 _ rfl, r3 2 _ rfl, fun j => by simp [World.frozen?, b3], ?_, ?_, fun i g1 g2 => by omega, fun i _ => rfl, fun i => ⟨rfl, rfl⟩, by omega, by omega, fun i => Nat.le_refl _, by omega, by omega, by omega, by omega⟩
    · exact ⟨by rw [hzl], .inr ⟨w.heap.size, 1, Z.toArray, rfl, Nat.le_refl _, b1', by omega, by unfold maxLen; omega, by simp [hzl], by simp [← hzl]⟩⟩
    · exact ⟨rfl, .inr ⟨w.heap.size + 1, 1, #[.int .i64 0], rfl, by omega, b2', by simp [nL], by unfold maxLen; omega, rfl, rfl⟩⟩)
  rw [hZ]
  clear hzl hZ
  go_enter Tryd.func31, Tryd.ntmps31
  go_wp2_with (first | (refine wpl_buildRZ HZ.out rfl rfl ?_) | (refine wpl_buildSZ HZ.out rfl rfl rfl ?_))
  go_ret2
  exact ⟨rfl, HQ.out _ rfl, (((Kept.refl w).alloc _).alloc _).alloc _⟩
end Go.Proofs.YtjkbhaplngnniaaDoor
namespace Go.Proofs.YtjkbhaplngnniaaDoor
open Go.RowKit Go.Maps
set_option linter.unusedSimpArgs false
set_option linter.unusedVariables false

theorem nL_succ (rf : Int → Nat) (n : Nat) : nL rf (n + 1) = nL rf n ++ [(rf ((n + 1 : Nat) : Int) : Int)] := by
  unfold nL
  rw [List.range_succ, List.map_append]
  rfl
section
variable {w : World} {B q : Nat} {most : Int} {n : Nat} {rf : Int → Nat} {nd : Int → ANd} {M bL bN cL cN : Nat} {xs : List Value}
/-- A node is put into a free place. -/
theorem RQ.putL (h : RQ w B q most n rf nd M bL bN cL cN xs) {i : Nat} (h1 : 1 ≤ i) (hi : i ≤ n) (hz : rf i = 0) (x : ANd) (hk : x.kids.length = 8 ∧ x.vals.length = 8) :
    RQ (w.setCells bL (i * 25) (ndL x)) B q most n rf (updN nd (i : Nat) x) M bL bN cL cN (setL xs (i * 25) (ndL x)) ∧ (∀ j, j < 25 → (setL xs (i * 25) (ndL x))[25 * i + j]? = (ndL x)[j]?) ∧ Chg (fun j => j = bL) w (w.setCells bL (i * 25) (ndL x)) := by
  have c : Chg (fun j => j = bL) w (w.setCells bL (i * 25) (ndL x)) := chg_setCells (S := fun j => j = bL) rfl _ _ (Chg.refl _ w)
  have hlen : (ndL x).length = 25 := ndL_len x hk.1 hk.2
  have hxs : xs.length = (n + 1) * 25 := h.ownL.1
  refine ⟨⟨c.cellp h.c0 (fun e => h.d1 e.symm), c.cellp h.c1 (fun e => h.d1 e.symm), c.cellp h.c2 (fun e => h.d1 e.symm), fun j => (c.frozen (p := ⟨q, j, none⟩) (show q < w.heap.size from cell_lt h.c0) (fun e => h.d1 e.symm)).trans (h.fz j), own_setL _ _ h.ownL, h.ownN.chg c (fun k e => by cases e; exact fun e' => h.d3 e'.symm), fun k g1 g2 g3 j hj => ?_, h.ok, fun k => ?_, h.low, h.nm, h.rb, h.Mb, h.d1, h.d2, h.d3⟩, fun j hj => ?_, c⟩
  · have hne : k ≠ i := fun e => g3 (by rw [e]; exact hz)
    rw [setL_out _ _ _ _ (by rw [hlen]; omega), h.nodes k g1 g2 g3 j hj]
    unfold updN
    rw [if_neg (by omega)]
  · unfold updN; split
    · exact hk
    · exact h.kok k
  · rw [show 25 * i + j = i * 25 + j by omega, setL_in _ _ _ _ (by omega) (by omega)]
/-- It is asked for once. -/
theorem RQ.setOne (h : RQ w B q most n rf nd M bL bN cL cN xs) {i : Nat} (h1 : 1 ≤ i) (hi : i ≤ n) (v : Nat) (hx : ∀ j, j < 25 → xs[25 * i + j]? = (ndL (nd i))[j]?) {M' : Nat} (hM : M ≤ M') (hv' : v ≤ M') (hM' : M' ≤ 4611686018427387904) :
    RQ (w.setCell ⟨bN, i, none⟩ (.int .i64 v)) B q most n (setR rf (i : Nat) v) nd M' bL bN cL cN xs ∧ Chg (fun j => j = bN) w (w.setCell ⟨bN, i, none⟩ (.int .i64 v)) := by
  obtain ⟨s1, s2⟩ := h.setN h1 hi 0 (fun e => absurd rfl e) (M' := M') hM (Nat.zero_le _) hM'
  have c : Chg (fun j => j = bN) w (w.setCell ⟨bN, i, none⟩ (.int .i64 v)) := chg_setCells (S := fun j => j = bN) rfl [.int .i64 v] i (Chg.refl _ w)
  have nq : ¬ (q = bN) := fun e => h.d2 e.symm
  refine ⟨⟨c.cellp h.c0 nq, c.cellp h.c1 nq, c.cellp h.c2 nq, fun j => (c.frozen (p := ⟨q, j, none⟩) (show q < w.heap.size from cell_lt h.c0) nq).trans (h.fz j), ?_, ?_, fun k g1 g2 g3 => ?_, fun k hk => ?_, h.kok, h.low, h.nm, fun k => ?_, hM', h.d1, h.d2, h.d3⟩, c⟩
  · have hlt := World.ownsRow.lt h.ownL
    obtain ⟨h0, ⟨h1, _⟩ | ⟨k, cap, cur, hv, hb', hh, r⟩⟩ := h.ownL
    · cases h1
    · cases hv
      refine ⟨h0, .inr ⟨bL, _, cur, rfl, hb', ?_, r⟩⟩
      rw [c.block bL (hlt bL rfl).2 h.d3]
      exact hh
  · have ho := h.ownN
    unfold OwnI at ho ⊢
    rw [nL_len] at ho ⊢
    have := own_setL [.int .i64 (v : Int)] i ho
    rw [nL_set rf n hi v, List.map_set]
    exact this
  · by_cases e : k = i
    · subst e; exact hx
    · rw [setR_other _ _ (by omega)] at g3; exact h.nodes k g1 g2 g3
  · rw [setR_other _ _ (by omega)]; exact h.ok k hk
  · unfold setR; split
    · exact hv'
    · exact Nat.le_trans (h.rb k) hM
/-- A place more: what both rows say then. -/
theorem RQ.grow {w' : World} {bL' bN' cL' cN' : Nat} (h : RQ w B q most n rf nd M bL bN cL cN xs) (hn : n < 20000)
    (c0 : w'.cell? ⟨q, 0, none⟩ = some (.int .i64 most)) (c1 : w'.cell? ⟨q, 1, none⟩ = some (.slice (some ⟨bL', 0, none⟩) (n + 1 + 1) cL')) (c2 : w'.cell? ⟨q, 2, none⟩ = some (.slice (some ⟨bN', 0, none⟩) (n + 1 + 1) cN')) (fz : ∀ j, w'.frozen? ⟨q, j, none⟩ = false)
    (ownL : w'.ownsRow B 86 25 (.slice (some ⟨bL', 0, none⟩) (n + 1 + 1) cL') (n + 1 + 1) (xs ++ ndL zNd)) (ownN : OwnI w' B (.slice (some ⟨bN', 0, none⟩) (n + 1 + 1) cN') (nL rf n ++ [0])) (d1 : bL' ≠ q) (d2 : bN' ≠ q) (d3 : bL' ≠ bN') :
    RQ w' B q most (n + 1) rf nd M bL' bN' cL' cN' (xs ++ ndL zNd) := by
  have hz : rf ((n + 1 : Nat) : Int) = 0 := h.ok _ (by omega)
  have hxs : xs.length = (n + 1) * 25 := h.ownL.1
  refine ⟨c0, c1, c2, fz, ownL, ?_, fun k g1 g2 g3 j hj => ?_, fun k hk => h.ok k (by omega), h.kok, h.low, by omega, h.rb, h.Mb, d1, d2, d3⟩
  · rw [nL_succ, hz]; exact ownN
  · have hkn : k ≤ n := by
      by_cases e : k = n + 1
      · subst e; exact absurd hz g3
      · omega
    rw [List.getElem?_append_left (by omega)]
    exact h.nodes k g1 hkn g3 j hj
end
end Go.Proofs.YtjkbhaplngnniaaDoor
namespace Go.Proofs.YtjkbhaplngnniaaDoor
open Go.RowKit Go.Maps
set_option linter.unusedSimpArgs false
set_option linter.unusedVariables false

theorem wpl_boxR {ops : Array Oper} {rest : List Oper} {o : Oper} {a : Act} {w : World} {Q : Exit → Act → World → Prop} {L : List Value} (hg : o.guard = none) {x : Operand} (ho : o.op = .box 86 x) (hx : a.eval x = .agg L.toArray)
    (h : wpList Tryd.prog ops Q rest (a.put o.dst (.pointer (some ⟨w.heap.size, 0, none⟩))) (w.alloc (.cells L.toArray 86))) : wpList Tryd.prog ops Q (o :: rest) a w := by
  refine wpl_to hg _ _ ?_ h
  unfold execOp
  simp only [ho, hx]
  go_simp
theorem rdinfo : ∃ i0, Tryd.prog.info? 86 = some i0 ∧ i0.zero = some (.agg (ndL zNd).toArray) ∧ i0.size = 25 ∧ i0.bytes = 200 := by
  have h : (Tryd.prog.info? 86).map (fun i => (i.zero, i.size, i.bytes)) = some (some (.agg (ndL zNd).toArray), 25, 200) := by kernel_rfl
  exact info_parts h
/-- One more node behind those of a row. -/
theorem wpl_pushR {ops : Array Oper} {rest : List Oper} {o : Oper} {a : Act} {Q : Exit → Act → World → Prop} (w : World) (hgd : o.guard = none) (s x : Operand)
    (ho : o.op = .call { callee := .builtin .append, args := #[s, x], argTypes := #[76, 76] })
    (B : Nat) (v : Value) (n : Nat) (xs : List Value) (hs : a.eval s = v) (hv : w.ownsRow B 86 25 v n xs) (hB : B ≤ w.heap.size) (g : Nat) (L : List Value) (hL : L.length = 25) (h1 : ∀ u ∈ L, u.oneCell' = true) (hx : a.eval x = .slice (some ⟨g, 0, none⟩) 1 1)
    (hr : w.rangeAt g 0 L) (h47 : n ≤ 20001) (H : Nat) (hH : w.heap.size = H)
    (h : ∀ g' cap w', w'.ownsRow B 86 25 (.slice (some ⟨g', 0, none⟩) (n + 1) cap) (n + 1) (xs ++ L) → Chg (fun k => v.ownBlock = some k) w w' → (v.ownBlock = some g' ∨ g' = H) → g' < w'.heap.size → wpList Tryd.prog ops Q rest (a.put o.dst (.slice (some ⟨g', 0, none⟩) (n + 1) cap)) w') : wpList Tryd.prog ops Q (o :: rest) a w := by
  obtain ⟨i0, hi0, hz0, hz1, hz2⟩ := rdinfo
  refine wpList_append_lies w hgd s x 76 ho B 86 i0 _ 25 200 Tryd.underlying76 hi0 hz0 hz1 hz2 (by show (ndL zNd).toArray.size = 25; simp; exact ndL_len zNd rfl rfl) (by decide) v _ _ hs hv ⟨g, 0, none⟩ 1 1 L hx (by omega) (fun j u hu => ?_) h1 (by omega) (by unfold maxLen; omega) (by omega) hB H hH ?_
  · rw [Addr.add_lit]; exact hr j u hu
  · intro g' cap w' h2 h3 h4 h5
    exact h g' cap w' h2 ((Chg.refl _ w).grown h3 (fun k hk => .inl hk)) h4 h5
section
variable {w : World} {B q : Nat} {most : Int} {n : Nat} {rf : Int → Nat} {nd : Int → ANd} {M bL bN cL cN : Nat} {xs : List Value}
def RMk (w : World) (B q : Nat) (most : Int) (n : Nat) (rf : Int → Nat) (nd : Int → ANd) (M bL bN : Nat) (y : ANd) (e : Ending) (w' : World) : Prop :=
  (haveB rf y.kids = false ∧ e = .returned (.tuple #[.int .i64 0, .int .i64 10]) ∧ Kept w w') ∨
  (haveB rf y.kids = true ∧ most ≤ usd rf n ∧ e = .returned (.tuple #[.int .i64 0, .int .i64 14]) ∧ Kept w w') ∨
  (haveB rf y.kids = true ∧ (usd rf n : Int) < most ∧ ∃ x : Nat, LowN rf x ∧ e = .returned (.tuple #[.int .i64 x, .int .i64 0]) ∧ (∃ bL' bN' cL' cN' xs', RQ w' B q most (max n x) (setR (incR rf y.kids) x 1) (updN nd x y) (M + 9) bL' bN' cL' cN' xs' ∧ (bL' = bL ∨ w.heap.size ≤ bL') ∧ (bN' = bN ∨ w.heap.size ≤ bN')) ∧ Chg (fun j => j = q ∨ j = bL ∨ j = bN) w w')
theorem RQ.afterL {o : Obj} {w6 : World} {m c : Nat} (k : Chg (fun j => (Value.slice (some ⟨bL, 0, none⟩) m c).ownBlock = some j) (w.alloc o) w6) : Chg (fun j => j = bL) w w6 :=
  ((Chg.refl _ w).alloc o).trans (k.mono (fun j _ e => by simp [Value.ownBlock] at e; exact e.symm))
/-- An arena's own cells where another block was written. -/
theorem RQ.cells3 {b : Nat} {w6 : World} (h : RQ w B q most n rf nd M bL bN cL cN xs) (k : Chg (fun j => j = b) w w6) (hb : b ≠ q) : w6.cell? ⟨q, 0, none⟩ = some (.int .i64 most) ∧ w6.cell? ⟨q, 1, none⟩ = some (.slice (some ⟨bL, 0, none⟩) (n + 1) cL) ∧ w6.cell? ⟨q, 2, none⟩ = some (.slice (some ⟨bN, 0, none⟩) (n + 1) cN) ∧ ∀ j, w6.frozen? ⟨q, j, none⟩ = false :=
  ⟨k.cellp h.c0 (fun e => hb e.symm), k.cellp h.c1 (fun e => hb e.symm), k.cellp h.c2 (fun e => hb e.symm), fun j => (k.frozen (p := ⟨q, j, none⟩) (show q < w.heap.size from cell_lt h.c0) (fun e => hb e.symm)).trans (h.fz j)⟩
/-- Behind the first append and its store the counts stand as before. -/
theorem RQ.ownN_after {w6 : World} (h : RQ w B q most n rf nd M bL bN cL cN xs) (k : Chg (fun j => j = bL) w w6) (s : Value) (o : Obj) : OwnI ((w6.setCell ⟨q, 1, none⟩ s).alloc o) B (.slice (some ⟨bN, 0, none⟩) (n + 1) cN) (nL rf n) := by
  refine h.ownN.chg (S := fun j => j = bL ∨ j = q) (Chg.alloc (Chg.setCell (k.mono (fun j _ e => .inl e)) (p := ⟨q, 1, none⟩) (.inl (.inr rfl)) s) o) (fun j e => ?_)
  simp [Value.ownBlock] at e
  subst e
  exact fun e' => e'.elim (fun e' => h.d3 e'.symm) h.d2
/-- Both rows have a place more. -/
theorem RQ.grown {w6 w8 : World} {o o' : Obj} {Z : List Value} {g6 c6 g8 c8 : Nat} (h : RQ w B q most n rf nd M bL bN cL cN xs) (hZ : ndL zNd = Z) (hn : n < 20000)
    (k6 : Chg (fun j => j = bL) w w6) (o6 : w6.ownsRow B 86 25 (.slice (some ⟨g6, 0, none⟩) (n + 1 + 1) c6) (n + 1 + 1) (xs ++ Z)) (a6 : g6 = bL ∨ w.heap.size ≤ g6) (l6 : g6 < w6.heap.size)
    (k8 : Chg (fun j => j = bN) ((w6.setCell ⟨q, 1, none⟩ (.slice (some ⟨g6, 0, none⟩) (n + 1 + 1) c6)).alloc o') w8) (o8 : OwnI w8 B (.slice (some ⟨g8, 0, none⟩) (n + 1 + 1) c8) (nL rf n ++ [0])) (a8 : g8 = bN ∨ w6.heap.size ≤ g8) :
    RQ (w8.setCell ⟨q, 2, none⟩ (.slice (some ⟨g8, 0, none⟩) (n + 1 + 1) c8)) B q most (n + 1) rf nd M g6 g8 c6 c8 (xs ++ Z) ∧ Chg (fun j => j = q ∨ j = bL ∨ j = bN) w (w8.setCell ⟨q, 2, none⟩ (.slice (some ⟨g8, 0, none⟩) (n + 1 + 1) c8)) ∧ w8.cell? ⟨q, 2, none⟩ = some (.slice (some ⟨bN, 0, none⟩) (n + 1) cN) ∧ w8.frozen? ⟨q, 2, none⟩ = false := by
  subst hZ
  have hq : q < w.heap.size := cell_lt h.c0
  have hbN : bN < w.heap.size := (h.ownN.lt bN rfl).2
  obtain ⟨e0, e1, e2, ef⟩ := h.cells3 k6 h.d1
  have hq6 : q < w6.heap.size := Nat.lt_of_lt_of_le hq k6.size
  obtain ⟨W7, hW7⟩ : ∃ W, W = w6.setCell ⟨q, 1, none⟩ (.slice (some ⟨g6, 0, none⟩) (n + 1 + 1) c6) := ⟨_, rfl⟩
  rw [← hW7] at k8
  have z7 : W7.heap.size = w6.heap.size := by rw [hW7]; simp [World.setCell]
  have c7 : Chg (fun j => j = q) w6 W7 := by rw [hW7]; exact Chg.setCell (S := fun j => j = q) (Chg.refl _ w6) (p := ⟨q, 1, none⟩) (.inl rfl) _
  have f0 : W7.cell? ⟨q, 0, none⟩ = some (.int .i64 most) := by rw [hW7, World.cell?_setCell_other _ _ _ _ (by simp)]; exact e0
  have f1 : W7.cell? ⟨q, 1, none⟩ = some (.slice (some ⟨g6, 0, none⟩) (n + 1 + 1) c6) := by rw [hW7, World.cell?_setCell_same _ _ _ e1]
  have f2 : W7.cell? ⟨q, 2, none⟩ = some (.slice (some ⟨bN, 0, none⟩) (n + 1) cN) := by rw [hW7, World.cell?_setCell_other _ _ _ _ (by simp)]; exact e2
  have ff : ∀ j, W7.frozen? ⟨q, j, none⟩ = false := fun j => by rw [hW7]; simpa using ef j
  have k8' : Chg (fun j => j = bN) W7 w8 := ((Chg.refl _ W7).alloc o').trans k8
  have nq : ¬ (q = bN) := fun e => h.d2 e.symm
  have g0 := k8'.cellp f0 nq
  have g1 := k8'.cellp f1 nq
  have g2 := k8'.cellp f2 nq
  have gf : ∀ j, w8.frozen? ⟨q, j, none⟩ = false := fun j => (k8'.frozen (p := ⟨q, j, none⟩) (by rw [z7]; exact hq6) nq).trans (ff j)
  have n6q : g6 ≠ q := by
    rcases a6 with e | e
    · rw [e]; exact h.d1
    · omega
  have n6N : g6 ≠ bN := by
    rcases a6 with e | e
    · rw [e]; exact h.d3
    · omega
  have n8q : g8 ≠ q := by
    rcases a8 with e | e
    · rw [e]; exact h.d2
    · omega
  have n68 : g6 ≠ g8 := by
    rcases a8 with e | e
    · rw [e]; exact n6N
    · omega
  have c9 : Chg (fun j => j = q) w8 (w8.setCell ⟨q, 2, none⟩ (.slice (some ⟨g8, 0, none⟩) (n + 1 + 1) c8)) := Chg.setCell (S := fun j => j = q) (Chg.refl _ w8) (p := ⟨q, 2, none⟩) (.inl rfl) _
  refine ⟨h.grow hn (by rw [World.cell?_setCell_other _ _ _ _ (by simp)]; exact g0) (by rw [World.cell?_setCell_other _ _ _ _ (by simp)]; exact g1) (by rw [World.cell?_setCell_same _ _ _ g2]) (fun j => by simpa using gf j) ?_ (o8.chg c9 (fun j e => by simp [Value.ownBlock] at e; subst e; exact n8q)) n6q n8q n68, ?_, g2, gf 2⟩
  · have hlt := World.ownsRow.lt o6
    obtain ⟨h0, ⟨h1, _⟩ | ⟨k, cap, cur, hv, hb', hh, r⟩⟩ := o6
    · cases h1
    · cases hv
      refine ⟨h0, .inr ⟨g6, _, cur, rfl, hb', ?_, r⟩⟩
      rw [c9.block g6 (Nat.lt_of_lt_of_le (by rw [z7]; exact l6) k8'.size) n6q, k8'.block g6 (by rw [z7]; exact l6) n6N, c7.block g6 l6 n6q]
      exact hh
  · have s1 : Chg (fun j => j = q ∨ j = bL ∨ j = bN) w w6 := k6.mono (fun j _ e => .inr (.inl e))
    have s2 : Chg (fun j => j = q ∨ j = bL ∨ j = bN) w W7 := s1.thn c7 (fun j _ e => .inl e)
    have s3 : Chg (fun j => j = q ∨ j = bL ∨ j = bN) w w8 := s2.thn k8' (fun j _ e => .inr (.inr e))
    exact s3.thn c9 (fun j _ e => .inl e)
theorem len7 (w6 : World) (a : Addr) (s : Value) (o : Obj) : ((w6.setCell a s).alloc o).heap.size = w6.heap.size + 1 := by simp [World.setCell]
theorem new7 (w6 : World) (a : Addr) (s : Value) : ((w6.setCell a s).alloc (.cells #[.int .i64 0] 3)).cell? ⟨w6.heap.size, 0, none⟩ = some (.int .i64 0) := by
  have h := new_range (w6.setCell a s) [.int .i64 0] 3 0 _ rfl
  rw [show (w6.setCell a s).heap.size = w6.heap.size by simp [World.setCell]] at h
  exact h
end
end Go.Proofs.YtjkbhaplngnniaaDoor
