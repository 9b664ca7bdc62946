/- moietylaw09.node: the node of an act. -/
import Derived.Test.YtjakjdejbggdbaaDoorAr12
namespace Go.Proofs.YtjakjdejbggdbaaDoor
open Go.RowKit
set_option linter.unusedSimpArgs false
set_option linter.unusedVariables false

set_option maxHeartbeats 2000000 in
set_option maxRecDepth 100000 in
theorem law9_node (kd n : Int) (lf : Bool) (ks : List Int) (v : Int) (hk : ks.length = 8) (w : World) : Calls Tryd.prog 7 #[.agg (acL kd n lf ks v).toArray] w fun e w' => (∃ b, e = .returned (ndV (acN lf ks v b))) ∧ Kept w w' := by
  obtain ⟨W, hW⟩ : ∃ W, W = (w.alloc (.cells (acL kd n lf ks v).toArray 33)).alloc (.cells (ndL zNd).toArray 38) := ⟨_, rfl⟩
  have kW : Kept w W := by rw [hW]; exact ((Kept.refl w).alloc _).alloc _
  have sW : W.heap.size = w.heap.size + 2 := by rw [hW]; simp
  have r1 : W.rangeAt w.heap.size 0 (acL kd n lf ks v) := by rw [hW]; exact ((Kept.refl _).alloc _).range (new_range _ _ _)
  have t2 : W.there (w.heap.size + 1) 0 25 := by
    rw [hW]
    have := new_there (w.alloc (.cells (acL kd n lf ks v).toArray 33)) (ndL zNd) 38 25 (by rfl)
    simpa using this
  have c2 : W.cell? ⟨w.heap.size, 2, none⟩ = some (.bool lf) := by
    have := r1 2 (.bool lf) rfl
    simpa using this
  have c11 : W.cell? ⟨w.heap.size, 11, none⟩ = some (.int .i64 v) := by
    have := r1 11 (.int .i64 v) (acL_val hk)
    simpa using this
  have rk : W.rangeAt w.heap.size 3 (kdV ks) := by have := range_drop r1 3 _ acL_kids; simpa using this
  obtain ⟨g, hg⟩ : ∃ g, g = W.heap.size := ⟨_, rfl⟩
  have hlenN : (ndL ⟨lf, ks, zNd.vals⟩).length = 25 := ndL_len _ hk rfl
  obtain ⟨W3, hW3⟩ : ∃ W3, W3 = (W.alloc (.cells (ndL zNd).toArray 38)).setCells g 0 (ndL ⟨lf, ks, zNd.vals⟩) := ⟨_, rfl⟩
  have t3 : (W.alloc (.cells (ndL zNd).toArray 38)).there g 0 25 := by rw [hg]; exact new_there _ _ _ _ (by rfl)
  have r3 : W3.rangeAt g 0 (ndL ⟨lf, ks, zNd.vals⟩) := by rw [hW3]; exact World.rangeAt_setCells_same _ _ _ _ (by rw [hlenN]; exact t3)
  have t3' : W3.there g 0 25 := by rw [hW3]; exact there_setCells t3 _ _ _
  have k3 : Kept W W3 := by rw [hW3]; exact kept_setCells (by omega) _ _ ((Kept.refl _).alloc _)
  obtain ⟨W4, hW4⟩ : ∃ W4, W4 = W3.setCells g 9 [.int .i64 v, .bool (v.tmod 2 == 0)] := ⟨_, rfl⟩
  have c11' : W3.cell? ⟨w.heap.size, 11, none⟩ = some (.int .i64 v) := k3.cellp c11
  have HR := hidMk (show W4.rangeAt g 0 (ndL (acN lf ks v (v.tmod 2 == 0))) from by
    rw [hW4, ← ac_set hk v _]
    exact range_setL r3 _ (by rw [hlenN]; simp))
  have HT2 := hidMk (show W4.there (w.heap.size + 1) 0 25 from by rw [hW4]; exact there_setCells (k3.there (by omega) t2) _ _ _)
  have HF := hidMk (show (ndL (acN lf ks v (v.tmod 2 == 0))).length = 25 ∧ (∀ u ∈ ndL (acN lf ks v (v.tmod 2 == 0)), u.oneCell' = true) from ⟨ndL_len _ hk rfl, ndL_one _⟩)
  have HT := hidMk (And.intro t3 (there_sub t3' (o' := 9) (n' := 2) (by omega) (by omega)))
  have HKD := hidMk (show ∀ L, Kept w (W4.setCells (w.heap.size + 1) 0 L) from fun L => by rw [hW4]; exact kept_setCells (by omega) _ _ (kept_setCells (by omega) _ _ (kW.trans k3)))
  have HB := hidMk (fun w => buildR hk lf w)
  have HK := hidMk (And.intro (show (kdV ks).length = 8 by rw [kdV_len, hk]) rk)
  have HN := hidMk (And.intro hlenN (ndL_one ⟨lf, ks, zNd.vals⟩))
  have H25 := hidMk (show ∀ (Y : World) (L : List Value), L.length = 25 → Y.there (w.heap.size + 1) 0 25 → (Y.setCells (w.heap.size + 1) 0 L).rangeAt (w.heap.size + 1) 0 L from fun Y L hL ht => World.rangeAt_setCells_same _ _ _ _ (by rw [hL]; exact ht))
  unfold ndV at *
  generalize kdV ks = K at *
  generalize ndL ⟨lf, ks, zNd.vals⟩ = LN at *
  have HE := hidMk (show ∃ b, ndL (acN lf ks v (v.tmod 2 == 0)) = ndL (acN lf ks v b) from ⟨_, rfl⟩)
  generalize ndL (acN lf ks v (v.tmod 2 == 0)) = LB at *
  generalize acL kd n lf ks v = LA at *
  clear kW sW r1 t2 c11 rk hlenN t3 r3 t3' k3
  go_enter Tryd.func7, Tryd.ntmps7
  go_wp2_with (first | (refine wpl_allocR rfl rfl ?_; rw [← hW]; clear hW) | (refine wpl_allocR rfl rfl ?_; rw [← hg]; clear hg) | (refine wpl_loadT k_size k_row rfl _ rfl _ _ rfl K HK.out.1 HK.out.2 ?_) | (refine wpl_buildR lf HB.out rfl rfl rfl rfl ?_) | (refine wpl_storeT rd_size rfl _ _ rfl _ _ rfl LB HF.out.1 rfl HF.out.2 HT2.out ?_) | (refine wpl_storeT rd_size rfl _ _ rfl _ _ rfl LN HN.out.1 rfl HN.out.2 HT.out.1 ?_; rw [← hW3]; clear hW3) | (refine wpl_storeT en_size rfl _ _ rfl _ _ rfl [.int .i64 v, .bool (v.tmod 2 == 0)] rfl rfl (by simp [Value.oneCell']) HT.out.2 ?_; rw [← hW4]; clear hW4) | (refine wpl_loadT rd_size rd_row rfl _ rfl _ _ rfl LB HF.out.1 HR.out ?_))
  refine node_rets (w.heap.size + 1) LB HF.out.1 (H25.out _ _ HF.out.1 HT2.out) rfl rfl ⟨?_, HKD.out _⟩
  obtain ⟨b, hb⟩ := HE.out
  exact ⟨b, by rw [hb]⟩
end Go.Proofs.YtjakjdejbggdbaaDoor
