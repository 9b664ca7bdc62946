/- The definition's arena: New. -/
import Derived.Test.YtimnbbpiapjfhaaDoorRefAr2
namespace Go.Proofs.YtimnbbpiapjfhaaDoor
open Go.RowKit Go.Maps
set_option linter.unusedSimpArgs false
set_option linter.unusedVariables false

theorem wpl_buildRZ {ops : Array Oper} {rest : List Oper} {o : Oper} {a : Act} {w : World} {Q : Exit → Act → World → Prop} {Z : List Value} (hZ : ndL zNd = Z) (hg : o.guard = none) (ho : o.op = .build 86 #[])
    (h : wpList Tryd.prog ops Q rest (a.put o.dst (.agg Z.toArray)) w) : wpList Tryd.prog ops Q (o :: rest) a w := by
  subst hZ
  refine wpl_to hg _ _ ?_ h
  unfold execOp
  simp only [ho, List.map_toArray, List.map_nil]
  exact (show ∀ w : World, Sem.run Tryd.prog (do let x ← Instr.build 86 #[]; pure (Next.value x)) w = .ok (.value (.agg (ndL zNd).toArray)) w from fun w => by kernel_rfl) w
theorem wpl_buildSZ {ops : Array Oper} {rest : List Oper} {o : Oper} {a : Act} {w : World} {Q : Exit → Act → World → Prop} {Z : List Value} (hZ : ndL zNd = Z) (hg : o.guard = none) {x : Operand} (ho : o.op = .buildSlice 76 1 #[(0, x)]) (hx : a.eval x = .agg Z.toArray)
    (h : wpList Tryd.prog ops Q rest (a.put o.dst (.slice (some ⟨w.heap.size, 0, none⟩) 1 1)) (w.alloc (.cells Z.toArray 86))) : wpList Tryd.prog ops Q (o :: rest) a w := by
  subst hZ
  refine wpl_to hg _ _ ?_ h
  unfold execOp
  simp only [ho, List.map_toArray, List.map_cons, List.map_nil, hx]
  exact (show ∀ w : World, Sem.run Tryd.prog (do let x ← Instr.buildSlice 76 1 #[(0, .agg (ndL zNd).toArray)]; pure (Next.value x)) w = .ok (.value (.slice (some ⟨w.heap.size, 0, none⟩) 1 1)) (w.alloc (.cells (ndL zNd).toArray 86)) from fun w => by kernel_rfl) w
theorem r9_NewBad (most : Int) (w : World) (h : ¬ (1 ≤ most ∧ most ≤ 20000)) : Calls Tryd.prog 31 #[.int .i64 most] w fun e w' => e = .returned (.tuple #[.pointer none, .int .i64 2]) ∧ w' = w := by
  by_cases h1 : most < 1
  · go_enter Tryd.func31, Tryd.ntmps31
    go_wp2
    go_ret2
    exact ⟨rfl, rfl⟩
  · have h2 : 20000 < most := by omega
    have h1 : 1 ≤ most := by omega
    go_enter Tryd.func31, Tryd.ntmps31
    go_wp2
    go_ret2
    exact ⟨rfl, rfl⟩
theorem r9_New (most : Int) (w : World) (h1 : 1 ≤ most) (h2 : most ≤ 20000) : Calls Tryd.prog 31 #[.int .i64 most] w fun e w' => e = .returned (.tuple #[.pointer (some ⟨w.heap.size + 2, 0, none⟩), .int .i64 0]) ∧ RQ w' w.heap.size (w.heap.size + 2) most 0 (fun _ => 0) (fun _ => zNd) 0 w.heap.size (w.heap.size + 1) 1 1 (ndL zNd) ∧ Kept w w' := by
  obtain ⟨Z, hZ⟩ : ∃ Z, ndL zNd = Z := ⟨_, rfl⟩
  have hzl : Z.length = 25 := by rw [← hZ]; rfl
  have HZ := hidMk hZ
  have HZL := hidMk hzl
  have HQ := hidMk (show ∀ W : World, W = ((w.alloc (.cells Z.toArray 86)).alloc (.cells #[.int .i64 0] 3)).alloc (.cells #[.int .i64 most, .slice (some ⟨w.heap.size, 0, none⟩) 1 1, .slice (some ⟨w.heap.size + 1, 0, none⟩) 1 1] 78) → RQ W w.heap.size (w.heap.size + 2) most 0 (fun _ => 0) (fun _ => zNd) 0 w.heap.size (w.heap.size + 1) 1 1 Z from fun W hW => by
    obtain ⟨Y1, hY1⟩ : ∃ Y, Y = w.alloc (.cells Z.toArray 86) := ⟨_, rfl⟩
    rw [← hY1] at hW
    obtain ⟨Y2, hY2⟩ : ∃ Y, Y = Y1.alloc (.cells #[.int .i64 0] 3) := ⟨_, rfl⟩
    rw [← hY2] at hW
    have z1 : Y1.heap.size = w.heap.size + 1 := by rw [hY1]; simp
    have z2 : Y2.heap.size = w.heap.size + 2 := by rw [hY2]; simp [z1]
    have b1 : Y1.heap[w.heap.size]? = some (.cells Z.toArray 86) := by rw [hY1]; exact World.heap_new _ _
    have b2 : Y2.heap[w.heap.size + 1]? = some (.cells #[.int .i64 0] 3) := by rw [hY2, ← z1]; exact World.heap_new _ _
    have k2 : Kept Y1 Y2 := by rw [hY2]; exact (Kept.refl _).alloc _
    have k3 : Kept Y2 W := by rw [hW]; exact (Kept.refl _).alloc _
    have b1' : W.heap[w.heap.size]? = some (.cells Z.toArray 86) := by rw [k3.block _ (by omega), k2.block _ (by omega), b1]
    have b2' : W.heap[w.heap.size + 1]? = some (.cells #[.int .i64 0] 3) := by rw [k3.block _ (by omega), b2]
    have r3 : W.rangeAt (w.heap.size + 2) 0 [.int .i64 most, .slice (some ⟨w.heap.size, 0, none⟩) 1 1, .slice (some ⟨w.heap.size + 1, 0, none⟩) 1 1] := by
      rw [hW, ← z2]
      exact new_range Y2 _ _
    have t3 : W.there (w.heap.size + 2) 0 3 := by
      rw [hW, ← z2]
      exact new_there Y2 [.int .i64 most, .slice (some ⟨w.heap.size, 0, none⟩) 1 1, .slice (some ⟨w.heap.size + 1, 0, none⟩) 1 1] _ 3 rfl
    have b3 : W.heap[w.heap.size + 2]? = some (.cells #[.int .i64 most, .slice (some ⟨w.heap.size, 0, none⟩) 1 1, .slice (some ⟨w.heap.size + 1, 0, none⟩) 1 1] 78) := by rw [hW, ← z2]; exact World.heap_new _ _
    refine ⟨r3 0 _ rfl, r3 1 _ rfl, r3 2 _ rfl, fun j => by simp [World.frozen?, b3], ?_, ?_, fun i g1 g2 => by omega, fun i _ => rfl, fun i => ⟨rfl, rfl⟩, by omega, by omega, fun i => Nat.le_refl _, by omega, by omega, by omega, by omega⟩
    · exact ⟨by rw [hzl], .inr ⟨w.heap.size, 1, Z.toArray, rfl, Nat.le_refl _, b1', by omega, by unfold maxLen; omega, by simp [hzl], by simp [← hzl]⟩⟩
    · exact ⟨rfl, .inr ⟨w.heap.size + 1, 1, #[.int .i64 0], rfl, by omega, b2', by simp [nL], by unfold maxLen; omega, rfl, rfl⟩⟩)
  rw [hZ]
  clear hzl hZ
  go_enter Tryd.func31, Tryd.ntmps31
  go_wp2_with (first | (refine wpl_buildRZ HZ.out rfl rfl ?_) | (refine wpl_buildSZ HZ.out rfl rfl rfl ?_))
  go_ret2
  exact ⟨rfl, HQ.out _ rfl, (((Kept.refl w).alloc _).alloc _).alloc _⟩
end Go.Proofs.YtimnbbpiapjfhaaDoor
