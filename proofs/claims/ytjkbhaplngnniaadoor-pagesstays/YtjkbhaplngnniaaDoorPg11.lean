/- moietyref10: empty, at, next, Get. -/
import Derived.Test.YtjkbhaplngnniaaDoorPg10
import Derived.Deep.CutRange
import Derived.Deep.RegionHeld3
namespace Go.Proofs.YtjkbhaplngnniaaDoor
open Go.RowKit Go.Maps
set_option linter.unusedSimpArgs false
set_option linter.unusedVariables false

set_option maxHeartbeats 2000000 in
set_option maxRecDepth 100000 in
theorem r10_empty (y : ANd) (hy : y.kids.length = 8 ∧ y.vals.length = 8) (w : World) : Calls Tryd.prog 46 #[ndV y] w fun e w' => e = .returned (.bool (emptyN y)) ∧ Kept w w' := by
  have hlen := ndL_len y hy.1 hy.2
  obtain ⟨b, hb⟩ : ∃ b, b = w.heap.size := ⟨_, rfl⟩
  obtain ⟨W1, hW1⟩ : ∃ W1, W1 = w.alloc (.cells (ndL y).toArray 86) := ⟨_, rfl⟩
  have k1 : Kept w W1 := by rw [hW1]; exact (Kept.refl w).alloc _
  have r1 : W1.rangeAt b 0 (ndL y) := by rw [hW1, hb]; exact new_range _ _ _
  have d0 : W1.cell? ⟨b, 0, none⟩ = some (.bool y.leaf) := by
    have := r1 0 (.bool y.leaf) rfl
    simpa using this
  obtain ⟨c, hc⟩ : ∃ c, c = W1.heap.size := ⟨_, rfl⟩
  have hlz : (ndL ⟨y.leaf, zNd.kids, zNd.vals⟩).length = 25 := ndL_len _ rfl rfl
  obtain ⟨W2, hW2⟩ : ∃ W2, W2 = (W1.alloc (.cells (ndL zNd).toArray 86)).setCells c 0 (ndL ⟨y.leaf, zNd.kids, zNd.vals⟩) := ⟨_, rfl⟩
  have ht2 : (W1.alloc (.cells (ndL zNd).toArray 86)).there c 0 25 := by rw [hc]; exact new_there _ _ _ _ (by rfl)
  have k2 : Kept W1 W2 := by rw [hW2, hc]; exact kept_setCells (Nat.le_refl _) _ _ ((Kept.refl _).alloc _)
  have HR2 := hidMk (show W2.rangeAt c 0 (ndL ⟨y.leaf, zNd.kids, zNd.vals⟩) from by rw [hW2]; exact World.rangeAt_setCells_same _ _ _ _ (by rw [hlz]; exact ht2))
  have HR1 := hidMk (k2.range r1)
  have HT2 := hidMk ht2
  have HK := hidMk (k1.trans k2)
  have heq2 : ∀ W, (Op.equalIn 10000 86 (.agg (ndL y).toArray) (.agg (ndL ⟨y.leaf, zNd.kids, zNd.vals⟩).toArray)).run Tryd.prog W = .ok (emptyN y) W := fun W => by
    rw [rn_eq hy.1 hy.2 rfl rfl]
    unfold emptyN
    simp
  have HLY := hidMk hlen
  have HLZ := hidMk (And.intro hlz (ndL_one ⟨y.leaf, zNd.kids, zNd.vals⟩))
  unfold ndV
  generalize hZ : ndL ⟨y.leaf, zNd.kids, zNd.vals⟩ = Z at *
  have HZ := hidMk hZ
  generalize ndL y = LY at *
  generalize y.leaf = lf at *
  generalize emptyN y = em at *
  clear hy k1 k2 r1 hlen hZ hlz ht2
  go_enter Tryd.func46, Tryd.ntmps46
  go_wp2_with (first | (refine wpl_boxR rfl rfl rfl ?_; rw [← hW1, ← hb]; clear hW1 hb) | (refine wpl_rn lf HZ.out rfl rfl rfl ?_) | (refine wpl_allocR rfl rfl ?_; rw [← hc]; clear hc) | (refine wpl_storeT rd_size rfl _ _ rfl c 0 rfl Z HLZ.out.1 rfl HLZ.out.2 HT2.out ?_; rw [← hW2]; clear hW2) | (refine wpl_loadT rd_size rd_row rfl _ rfl b 0 rfl LY HLY.out HR1.out ?_) | (refine wpl_loadT rd_size rd_row rfl _ rfl c 0 rfl Z HLZ.out.1 HR2.out ?_))
  go_ret
  exact ⟨rfl, HK.out⟩
theorem at_rets10 {R : Ending → World → Prop} {a : Act} {w : World} (g : Nat) (L : List Value) (hL : L.length = 25) (hr : w.rangeAt g 0 L) (hp : a.tmps.getD 6 undef = .pointer (some ⟨g, 0, none⟩)) (hd : a.defers = [])
    (h : R (.returned (.agg L.toArray)) w) : bodyPost Tryd.prog Tryd.f45 R .ret a w := by
  obtain ⟨d, h1, h2⟩ := rd_row
  exact bodyPost_ret (results_cell1 rfl _ _ g _ hp (run_loadVar_mid w g 0 _ L d hr h1 h2 (by rw [hL]; exact rd_size))) hd h
section
variable {w : World} {B q : Nat} {most : Int} {n : Nat} {rf : Int → Nat} {nd : Int → ANd} {M bL bN cL cN : Nat} {xs : List Value}
def atN (nd : Int → ANd) (i : Int) (lf : Bool) : ANd := if i = 0 then ⟨lf, zNd.kids, zNd.vals⟩ else nd i
theorem atN_ok {nd : Int → ANd} (h : ∀ i, (nd i).kids.length = 8 ∧ (nd i).vals.length = 8) (i : Int) (lf : Bool) : (atN nd i lf).kids.length = 8 ∧ (atN nd i lf).vals.length = 8 := by
  unfold atN; split
  · exact ⟨rfl, rfl⟩
  · exact h i
set_option maxHeartbeats 2000000 in
set_option maxRecDepth 100000 in
theorem r10_at (h : RQ w B q most n rf nd M bL bN cL cN xs) (i : Int) (hi : i = 0 ∨ rf i ≠ 0) (lf : Bool) : Calls Tryd.prog 45 #[.pointer (some ⟨q, 0, none⟩), .int .i64 i, .bool lf] w fun e w' => e = .returned (ndV (atN nd i lf)) ∧ Kept w w' := by
  have hyo := atN_ok h.kok i lf
  have hlen := ndL_len _ hyo.1 hyo.2
  obtain ⟨W1, hW1⟩ : ∃ W1, W1 = w.alloc (.cells (ndL zNd).toArray 86) := ⟨_, rfl⟩
  have k1 : Kept w W1 := by rw [hW1]; exact (Kept.refl w).alloc _
  have HT := hidMk (show W1.there w.heap.size 0 25 from by rw [hW1]; exact new_there _ _ _ _ (by rfl))
  have HK := hidMk k1
  have HL := hidMk (And.intro hlen (ndL_one (atN nd i lf)))
  by_cases h0 : i = 0
  · have HZ := hidMk (show ndL ⟨lf, zNd.kids, zNd.vals⟩ = ndL (atN nd i lf) from by unfold atN; rw [if_pos h0])
    subst h0
    unfold ndV
    generalize ndL (atN nd 0 lf) = LY at *
    clear h hi hyo hlen k1
    go_enter Tryd.func45, Tryd.ntmps45
    go_wp2_with (first | (refine wpl_allocR rfl rfl ?_; rw [← hW1]; clear hW1) | (refine wpl_rn lf HZ.out rfl rfl rfl ?_) | (refine wpl_storeT rd_size rfl _ _ rfl _ 0 rfl LY HL.out.1 rfl HL.out.2 HT.out ?_))
    exact at_rets10 w.heap.size LY HL.out.1 (World.rangeAt_setCells_same _ _ _ _ (by rw [HL.out.1]; exact HT.out)) rfl rfl ⟨rfl, kept_setCells (Nat.le_refl _) _ _ HK.out⟩
  · have hz := hi.resolve_left h0
    have hin : 1 ≤ i ∧ i ≤ (n : Int) := by
      by_cases c : 1 ≤ i ∧ i ≤ (n : Int)
      · exact c
      · exact absurd (h.ok i c) hz
    obtain ⟨k, rfl⟩ : ∃ k : Nat, i = (k : Int) := ⟨i.toNat, by omega⟩
    have h1 := h.kept k1
    have c1 := h1.c1
    have hn := h.nm
    have HR := hidMk (show W1.rangeAt bL (k * 25) (ndL (atN nd k lf)) from by unfold atN; rw [if_neg h0]; exact h1.node (by omega) (by omega) hz)
    have hib : ((k : Int) == 0) = false := by simpa using h0
    have hkn : (k : Int) < (n : Int) + 1 := by omega
    unfold ndV
    generalize ndL (atN nd k lf) = LY at *
    clear h h1 hi hyo hlen k1 hz
    go_enter Tryd.func45, Tryd.ntmps45
    go_wp2_with (first | (refine wpl_allocR rfl rfl ?_; rw [← hW1]; clear hW1) | (refine wpl_loadT rd_size rd_row rfl _ rfl bL (k * 25) rfl LY HL.out.1 HR.out ?_) | (refine wpl_storeT rd_size rfl _ _ rfl _ 0 rfl LY HL.out.1 rfl HL.out.2 HT.out ?_))
    exact at_rets10 w.heap.size LY HL.out.1 (World.rangeAt_setCells_same _ _ _ _ (by rw [HL.out.1]; exact HT.out)) rfl rfl ⟨rfl, kept_setCells (Nat.le_refl _) _ _ HK.out⟩
set_option maxHeartbeats 2000000 in
set_option maxRecDepth 100000 in
theorem r10_next (h : RQ w B q most n rf nd M bL bN cL cN xs) (i : Int) (hi : i = 0 ∨ rf i ≠ 0) (c : Int) (l : Nat) (h0 : 0 ≤ c) (hc : c ≤ 1000000) (hl1 : 1 ≤ l) (hl5 : l ≤ 5) : Calls Tryd.prog 44 #[.pointer (some ⟨q, 0, none⟩), .int .i64 i, .int .i64 c, .int .i64 l] w fun e w' => e = .returned (.int .i64 ((ndZ nd i).kids.getD (dig c l).toNat 0)) ∧ Kept w w' := by
  by_cases hi0 : i = 0
  · have e0 : (ndZ nd i).kids.getD (dig c l).toNat 0 = 0 := by unfold ndZ; rw [if_pos hi0]; exact zk_getD _
    rw [e0]
    subst hi0
    clear h hi e0
    go_enter Tryd.func44, Tryd.ntmps44
    go_wp2_with fail
    go_ret
    exact ⟨rfl, Kept.refl _⟩
  have hz := hi.resolve_left hi0
  have hin : 1 ≤ i ∧ i ≤ (n : Int) := by
    by_cases c : 1 ≤ i ∧ i ≤ (n : Int)
    · exact c
    · exact absurd (h.ok i c) hz
  obtain ⟨k, rfl⟩ : ∃ k : Nat, i = (k : Int) := ⟨i.toNat, by omega⟩
  have hdl := dig_lt c l
  obtain ⟨dd, hdd⟩ : ∃ dd : Nat, dig c l = (dd : Int) := ⟨(dig c l).toNat, by omega⟩
  have hd8 : (dd : Int) < 8 := by omega
  obtain ⟨X, hX⟩ : ∃ X, X = w.drew := ⟨_, rfl⟩
  have HX := hidMk hX
  have kX : Kept w X := by rw [hX]; exact (Kept.refl w).drew
  have HKX := hidMk kX
  have hh := h.kept kX
  have c1 := hh.c1
  have hn := h.nm
  have kc : X.cell? ⟨bL, k * 25 + 1 + dd, none⟩ = some (.int .i64 ((nd k).kids.getD dd 0)) := hh.kid (i := k) (by omega) (h.kok k).1 (hh.nodes k (by omega) (by omega) hz) (by omega)
  have HDG := hidMk (r10_digit c l h0 hc hl1 hl5 X)
  rw [hdd] at HDG
  have e0 : (ndZ nd (k : Int)).kids.getD (dig c l).toNat 0 = (nd k).kids.getD dd 0 := by unfold ndZ; rw [if_neg hi0, hdd]; rfl
  rw [e0]
  have hib : ((k : Int) == 0) = false := by simpa using hi0
  have hkn : (k : Int) < (n : Int) + 1 := by omega
  generalize (nd (k : Int)).kids.getD dd 0 = kv at *
  clear h hh hi hz e0 hX kX hdd hdl
  go_enter Tryd.func44, Tryd.ntmps44
  go_wp2_with fail
  refine wp_region_held_drew (S := (fun w' => w' = X)) (by kernel_rfl) ?_ (fun hHeld => ?_)
  · exact HX.out.symm
  rw [hHeld]
  clear hHeld
  have hHeld : X = X := rfl
  refine wpAnyH_take (i := 0) (oi := { dst := some 11, op := _, type := _, pos := _, after := _, guard := _ }) (v := ?_) rfl (by kernel_rfl) (by kernel_rfl) (by kernel_rfl) (fun _ _ _ h => h) (Or.inl ⟨by rfl, ?_⟩) (by assumption) ?_
  rotate_left
  · (intro w hSw; subst hSw; go_simp; (try with_reducible rfl))
  (try simp only [Act.put, List.setIfInBounds_toArray, List.set_cons_zero, List.set_cons_succ])
  refine wpAnyH_take (i := 1) (oi := { dst := some 12, op := _, type := _, pos := _, after := _, guard := _ }) (v := ?_) rfl (by kernel_rfl) (by kernel_rfl) (by kernel_rfl) (fun _ _ _ h => h) (Or.inl ⟨by rfl, ?_⟩) (by assumption) ?_
  rotate_left
  · (intro w hSw; subst hSw; go_simp; (try with_reducible rfl))
  (try simp only [Act.put, List.setIfInBounds_toArray, List.set_cons_zero, List.set_cons_succ])
  refine wpAnyH_take (i := 2) (oi := { dst := some 13, op := _, type := _, pos := _, after := _, guard := _ }) (v := ?_) rfl (by kernel_rfl) (by kernel_rfl) (by kernel_rfl) (fun _ _ _ h => h) (Or.inl ⟨by rfl, ?_⟩) (by assumption) ?_
  rotate_left
  · (intro w hSw; subst hSw; go_simp; (try with_reducible rfl))
  (try simp only [Act.put, List.setIfInBounds_toArray, List.set_cons_zero, List.set_cons_succ])
  refine wpAnyH_take (i := 3) (oi := { dst := some 14, op := _, type := _, pos := _, after := _, guard := _ }) (v := ?_) rfl (by kernel_rfl) (by kernel_rfl) (by kernel_rfl) (fun _ _ _ h => h) (Or.inl ⟨by rfl, ?_⟩) (by assumption) ?_
  rotate_left
  · (intro w hSw; subst hSw; go_simp; (try with_reducible rfl))
  (try simp only [Act.put, List.setIfInBounds_toArray, List.set_cons_zero, List.set_cons_succ])
  refine wpAnyH_take (i := 4) (oi := { dst := some 15, op := _, type := _, pos := _, after := _, guard := _ }) (v := ?_) rfl (by kernel_rfl) (by kernel_rfl) (by kernel_rfl) (fun _ _ _ h => h) (Or.inl ⟨by rfl, ?_⟩) (by assumption) ?_
  rotate_left
  · (intro w hSw; subst hSw; go_simp; (try with_reducible rfl))
  (try simp only [Act.put, List.setIfInBounds_toArray, List.set_cons_zero, List.set_cons_succ])
  refine wpAnyH_take (i := 5) (oi := { dst := some 16, op := _, type := _, pos := _, after := _, guard := _ }) (v := ?_) rfl (by kernel_rfl) (by kernel_rfl) (by kernel_rfl) (fun _ _ _ h => h) (Or.inl ⟨by rfl, ?_⟩) (by assumption) ?_
  rotate_left
  · (intro w hSw; subst hSw; go_simp; (try with_reducible rfl))
  (try simp only [Act.put, List.setIfInBounds_toArray, List.set_cons_zero, List.set_cons_succ])
  refine wpAnyH_take (i := 6) (oi := { dst := some 17, op := _, type := _, pos := _, after := _, guard := _ }) (v := ?_) rfl (by kernel_rfl) (by kernel_rfl) (by kernel_rfl) (fun _ _ _ h => h) (Or.inl ⟨by rfl, ?_⟩) (by assumption) ?_
  rotate_left
  · (intro w hSw; subst hSw; go_simp; (try with_reducible rfl))
  (try simp only [Act.put, List.setIfInBounds_toArray, List.set_cons_zero, List.set_cons_succ])
  refine wpAnyH_take (i := 8) (oi := { dst := some 19, op := _, type := _, pos := _, after := _, guard := _ }) (v := ?_) rfl (by kernel_rfl) (by kernel_rfl) (by kernel_rfl) (fun _ _ _ h => h) (Or.inl ⟨by rfl, ?_⟩) (by assumption) ?_
  rotate_left
  · (intro w hSw; subst hSw; go_simp; (try with_reducible rfl))
  (try simp only [Act.put, List.setIfInBounds_toArray, List.set_cons_zero, List.set_cons_succ])
  refine wpAnyH_take (i := 9) (oi := { dst := some 20, op := _, type := _, pos := _, after := _, guard := _ }) (v := ?_) rfl (by kernel_rfl) (by kernel_rfl) (by kernel_rfl) (fun _ _ _ h => h) (Or.inl ⟨by rfl, ?_⟩) (by assumption) ?_
  rotate_left
  · (intro w hSw; subst hSw; go_simp; (try with_reducible rfl))
  (try simp only [Act.put, List.setIfInBounds_toArray, List.set_cons_zero, List.set_cons_succ])
  refine wpAnyH_ready (rs := [7]) (by kernel_rfl) (by simp) ?_
  refine AllReadyH.cons (o := { dst := some 18, op := _, type := _, pos := _, after := _, guard := _ }) rfl (fun K hK => ?_) AllReadyH.nil
  go_simp
  refine HDG.out.mono ?_
  rintro e w5 ⟨rfl, hw5⟩
  rw [hw5]
  (try go_wp2_with fail)
  refine hK.out _ _ ?_ (fun hHeld => ?_)
  · (first | rfl | assumption | exact hw5)
  clear hK K
  (try simp only [Act.put, List.setIfInBounds_toArray, List.set_cons_zero, List.set_cons_succ])
  refine wpAnyH_take (i := 10) (oi := { dst := some 21, op := _, type := _, pos := _, after := _, guard := _ }) (v := ?_) rfl (by kernel_rfl) (by kernel_rfl) (by kernel_rfl) (fun _ _ _ h => h) (Or.inl ⟨by rfl, ?_⟩) (by assumption) ?_
  rotate_left
  · (intro w hSw; subst hSw; go_simp; (try with_reducible rfl))
  (try simp only [Act.put, List.setIfInBounds_toArray, List.set_cons_zero, List.set_cons_succ])
  refine wpAnyH_take (i := 11) (oi := { dst := some 22, op := _, type := _, pos := _, after := _, guard := _ }) (v := ?_) rfl (by kernel_rfl) (by kernel_rfl) (by kernel_rfl) (fun _ _ _ h => h) (Or.inl ⟨by rfl, ?_⟩) (by assumption) ?_
  rotate_left
  · (intro w hSw; subst hSw; go_simp; (try with_reducible rfl))
  (try simp only [Act.put, List.setIfInBounds_toArray, List.set_cons_zero, List.set_cons_succ])
  refine wpAnyH_take (i := 12) (oi := { dst := some 8, op := _, type := _, pos := _, after := _, guard := _ }) (v := ?_) rfl (by kernel_rfl) (by kernel_rfl) (by kernel_rfl) (fun _ _ _ h => h) (Or.inl ⟨by rfl, ?_⟩) (by assumption) ?_
  rotate_left
  · (intro w hSw; subst hSw; go_simp; (try with_reducible rfl))
  (try simp only [Act.put, List.setIfInBounds_toArray, List.set_cons_zero, List.set_cons_succ])
  refine wpAnyH_done (by kernel_rfl) ?_ _
  go_wp2_with fail
  go_ret
  exact ⟨rfl, HKX.out⟩
theorem gets_rets10 {R : Ending → World → Prop} {a : Act} {w : World} (g : Nat) (x : Int) (b : Bool) (hr : w.rangeAt g 0 [.int .i64 x, .bool b]) (hp : a.tmps.getD 8 undef = .pointer (some ⟨g, 0, none⟩)) (hd : a.defers = [])
    (h : R (.returned (.agg #[.int .i64 x, .bool b])) w) : bodyPost Tryd.prog Tryd.f23 R .ret a w :=
  bodyPost_ret (results_cell1 rfl _ _ g _ hp (run_loadVar_mid w g 0 _ [.int .i64 x, .bool b] _ hr Tryd.underlying39 rfl en_size)) hd h
theorem wI_stop {nd : Int → ANd} {c root : Int} {L k : Nat} (h : wI nd c root L k = 0) : ∀ m, wI nd c root L (k + m) = 0 := by
  intro m
  induction m with
  | zero => exact h
  | succ m ih =>
    show (ndZ nd (wI nd c root L (k + m))).kids.getD _ 0 = 0
    rw [ih]; unfold ndZ; rw [if_pos rfl]; exact zk_getD _
theorem zv_getD (d : Nat) : zNd.vals.getD d (0, false) = (0, false) := by
  have : d = 0 ∨ d = 1 ∨ d = 2 ∨ d = 3 ∨ d = 4 ∨ d = 5 ∨ d = 6 ∨ d = 7 ∨ 8 ≤ d := by omega
  rcases this with rfl | rfl | rfl | rfl | rfl | rfl | rfl | rfl | h
  · rfl
  · rfl
  · rfl
  · rfl
  · rfl
  · rfl
  · rfl
  · rfl
  · rw [List.getD_eq_getElem?_getD, List.getElem?_eq_none (show zNd.vals.length ≤ d from h)]; rfl
set_option maxHeartbeats 4000000 in
set_option maxRecDepth 100000 in
theorem r10_Get (h : RQ w B q most n rf nd M bL bN cL cN xs) (root c : Int) (L : Nat) (h0 : 0 ≤ c) (hc : c ≤ 1000000) (hl1 : 1 ≤ L) (hl5 : L ≤ 5) (hw : WayOk rf nd c root L) : Calls Tryd.prog 23 #[.pointer (some ⟨q, 0, none⟩), .int .i64 root, .int .i64 c, .int .i64 L] w fun e w' => e = .returned (.agg #[.int .i64 (entN (wN nd c root L 1) c).1, .bool (entN (wN nd c root L 1) c).2]) ∧ Kept w w' := by
  obtain ⟨ra, hra⟩ : ∃ v, v = (entN (wN nd c root L 1) c).1 := ⟨_, rfl⟩
  obtain ⟨rb, hrb⟩ : ∃ v, v = (entN (wN nd c root L 1) c).2 := ⟨_, rfl⟩
  rw [← hra, ← hrb]
  have HRR := hidMk (show entN (wN nd c root L 1) c = (ra, rb) from by rw [hra, hrb])
  clear hra hrb
  obtain ⟨ob, hob⟩ : ∃ b, b = w.heap.size := ⟨_, rfl⟩
  obtain ⟨W1, hW1⟩ : ∃ W1, W1 = w.alloc (.cells #[.int .i64 0, .bool false] 39) := ⟨_, rfl⟩
  have k1 : Kept w W1 := by rw [hW1]; exact (Kept.refl w).alloc _
  have HT1 := hidMk (show Kept w W1 ∧ ob < W1.heap.size ∧ W1.there ob 0 2 from ⟨k1, by rw [hW1, hob]; simp, by rw [hW1, hob]; exact new_there w [.int .i64 0, .bool false] 39 2 rfl⟩)
  have HQ := hidMk (fun W (k : Kept w W) => h.kept k)
  have HW := hidMk hw
  have hn := h.nm
  have HOB := hidMk hob
  have HKO := hidMk h.kok
  have HOK := hidMk h.ok
  clear h hw k1
  go_enter Tryd.func23, Tryd.ntmps23
  go_upto_block 0 with fail
  rw [← hW1, ← hob]
  clear hW1 hob
  go_cut [1, 9] from 10 to 30 (fun s t W' => ∃ k : Nat, Hid (1 ≤ k ∧ k ≤ L ∧ s = .int .i64 (wI nd c root L (L - k)) ∧ (k = 1 ∨ wI nd c root L (L - k) = 0)) ∧ Hid (Kept w W' ∧ ob < W'.heap.size ∧ W'.there ob 0 2))
  case first =>
    go_wp2_with fail
    go_loopg [1, 9] (L + 1) (fun gg s t wr => ∃ k : Nat, k + 1 = gg ∧ 1 ≤ k ∧ k ≤ L ∧ Hid (s = .int .i64 (wI nd c root L (L - k))) ∧ t = .int .i64 k ∧ Hid (Kept w wr ∧ ob < wr.heap.size ∧ wr.there ob 0 2))
    case atStart => exact ⟨L, rfl, by omega, by omega, hidMk (by rw [Nat.sub_self]; rfl), rfl, HT1⟩
    case round =>
      clear HT1
      obtain ⟨k, hkg, hk1, hkL, HS, rfl, HR⟩ := hrel
      have HKG := hidMk hkg
      have hs := HS.out
      subst hs
      by_cases hk : 1 < k
      · by_cases hz0 : wI nd c root L (L - k) = 0
        · have HF := hidMk (show 1 ≤ k ∧ k ≤ L ∧ (.int .i64 0 : Value) = .int .i64 (wI nd c root L (L - k)) ∧ (k = 1 ∨ wI nd c root L (L - k) = 0) from ⟨hk1, hkL, by rw [hz0], .inr hz0⟩)
          have hk' : (1 : Int) < k := by omega
          rw [hz0]
          clear hkg HS hz0
          go_wp2_with fail
          go_meet
          exact ⟨k, HF, HR⟩
        · have hk' : (1 : Int) < k := by omega
          have hlive := (HW.out (L - k) (by omega)).resolve_left hz0
          have HNX := hidMk (show wI nd c root L (L - (k - 1)) = (ndZ nd (wI nd c root L (L - k))).kids.getD (dig c k).toNat 0 from by
            rw [show L - (k - 1) = L - k + 1 by omega]
            show (ndZ nd (wI nd c root L (L - k))).kids.getD (dig c (L - (L - k))).toNat 0 = _
            rw [show L - (L - k) = k by omega])
          generalize hid : wI nd c root L (L - k) = id at *
          have hin : 1 ≤ id ∧ id ≤ (n : Int) := by
            by_cases c : 1 ≤ id ∧ id ≤ (n : Int)
            · exact c
            · exact absurd (HOK.out id c) hlive
          obtain ⟨m, rfl⟩ : ∃ m : Nat, id = (m : Int) := ⟨id.toNat, by omega⟩
          have hdl := dig_lt c k
          obtain ⟨dd, hdd⟩ : ∃ dd : Nat, dig c k = (dd : Int) := ⟨(dig c k).toNat, by omega⟩
          have hd8 : (dd : Int) < 8 := by omega
          obtain ⟨X, hX⟩ : ∃ X, X = wr.drew := ⟨_, rfl⟩
          have HX := hidMk hX
          have kX : Kept wr X := by rw [hX]; exact (Kept.refl wr).drew
          have HKX := hidMk (show Kept w X ∧ ob < X.heap.size ∧ X.there ob 0 2 from ⟨HR.out.1.trans kX, Nat.lt_of_lt_of_le HR.out.2.1 kX.size, kX.there HR.out.2.1 HR.out.2.2⟩)
          have hh := HQ.out X HKX.out.1
          have c1 := hh.c1
          have kc : X.cell? ⟨bL, m * 25 + 1 + dd, none⟩ = some (.int .i64 ((nd m).kids.getD dd 0)) := hh.kid (i := m) (by omega) (HKO.out m).1 (hh.nodes m (by omega) (by omega) hlive) (by omega)
          have HDG := hidMk (r10_digit c k h0 hc (by omega) (by omega) X)
          rw [hdd] at HDG
          have HNV := hidMk (show (nd m).kids.getD dd 0 = wI nd c root L (L - (k - 1)) from by
            rw [HNX.out]; unfold ndZ; rw [if_neg hz0, hdd]; rfl)
          generalize (nd (m : Int)).kids.getD dd 0 = kv at *
          have hib : ((m : Int) == 0) = false := by simpa using hz0
          have hmn : (m : Int) < (n : Int) + 1 := by omega
          clear hkg HS hh hX kX hdd hdl hlive HNX hid
          go_wp2_with fail
          refine wp_region_held_drew (S := (fun w' => w' = X)) (by kernel_rfl) ?_ (fun hHeld => ?_)
          · exact HX.out.symm
          rw [hHeld]
          clear hHeld
          have hHeld : X = X := rfl
          refine wpAnyH_take (i := 0) (oi := { dst := some 19, op := _, type := _, pos := _, after := _, guard := _ }) (v := ?_) rfl (by kernel_rfl) (by kernel_rfl) (by kernel_rfl) (fun _ _ _ h => h) (Or.inl ⟨by rfl, ?_⟩) (by assumption) ?_
          rotate_left
          · (intro w hSw; subst hSw; go_simp; (try with_reducible rfl))
          (try simp only [Act.put, List.setIfInBounds_toArray, List.set_cons_zero, List.set_cons_succ])
          refine wpAnyH_take (i := 1) (oi := { dst := some 20, op := _, type := _, pos := _, after := _, guard := _ }) (v := ?_) rfl (by kernel_rfl) (by kernel_rfl) (by kernel_rfl) (fun _ _ _ h => h) (Or.inl ⟨by rfl, ?_⟩) (by assumption) ?_
          rotate_left
          · (intro w hSw; subst hSw; go_simp; (try with_reducible rfl))
          (try simp only [Act.put, List.setIfInBounds_toArray, List.set_cons_zero, List.set_cons_succ])
          refine wpAnyH_take (i := 2) (oi := { dst := some 21, op := _, type := _, pos := _, after := _, guard := _ }) (v := ?_) rfl (by kernel_rfl) (by kernel_rfl) (by kernel_rfl) (fun _ _ _ h => h) (Or.inl ⟨by rfl, ?_⟩) (by assumption) ?_
          rotate_left
          · (intro w hSw; subst hSw; go_simp; (try with_reducible rfl))
          (try simp only [Act.put, List.setIfInBounds_toArray, List.set_cons_zero, List.set_cons_succ])
          refine wpAnyH_take (i := 3) (oi := { dst := some 22, op := _, type := _, pos := _, after := _, guard := _ }) (v := ?_) rfl (by kernel_rfl) (by kernel_rfl) (by kernel_rfl) (fun _ _ _ h => h) (Or.inl ⟨by rfl, ?_⟩) (by assumption) ?_
          rotate_left
          · (intro w hSw; subst hSw; go_simp; (try with_reducible rfl))
          (try simp only [Act.put, List.setIfInBounds_toArray, List.set_cons_zero, List.set_cons_succ])
          refine wpAnyH_take (i := 4) (oi := { dst := some 23, op := _, type := _, pos := _, after := _, guard := _ }) (v := ?_) rfl (by kernel_rfl) (by kernel_rfl) (by kernel_rfl) (fun _ _ _ h => h) (Or.inl ⟨by rfl, ?_⟩) (by assumption) ?_
          rotate_left
          · (intro w hSw; subst hSw; go_simp; (try with_reducible rfl))
          (try simp only [Act.put, List.setIfInBounds_toArray, List.set_cons_zero, List.set_cons_succ])
          refine wpAnyH_take (i := 5) (oi := { dst := some 24, op := _, type := _, pos := _, after := _, guard := _ }) (v := ?_) rfl (by kernel_rfl) (by kernel_rfl) (by kernel_rfl) (fun _ _ _ h => h) (Or.inl ⟨by rfl, ?_⟩) (by assumption) ?_
          rotate_left
          · (intro w hSw; subst hSw; go_simp; (try with_reducible rfl))
          (try simp only [Act.put, List.setIfInBounds_toArray, List.set_cons_zero, List.set_cons_succ])
          refine wpAnyH_take (i := 6) (oi := { dst := some 25, op := _, type := _, pos := _, after := _, guard := _ }) (v := ?_) rfl (by kernel_rfl) (by kernel_rfl) (by kernel_rfl) (fun _ _ _ h => h) (Or.inl ⟨by rfl, ?_⟩) (by assumption) ?_
          rotate_left
          · (intro w hSw; subst hSw; go_simp; (try with_reducible rfl))
          (try simp only [Act.put, List.setIfInBounds_toArray, List.set_cons_zero, List.set_cons_succ])
          refine wpAnyH_take (i := 8) (oi := { dst := some 27, op := _, type := _, pos := _, after := _, guard := _ }) (v := ?_) rfl (by kernel_rfl) (by kernel_rfl) (by kernel_rfl) (fun _ _ _ h => h) (Or.inl ⟨by rfl, ?_⟩) (by assumption) ?_
          rotate_left
          · (intro w hSw; subst hSw; go_simp; (try with_reducible rfl))
          (try simp only [Act.put, List.setIfInBounds_toArray, List.set_cons_zero, List.set_cons_succ])
          refine wpAnyH_take (i := 9) (oi := { dst := some 28, op := _, type := _, pos := _, after := _, guard := _ }) (v := ?_) rfl (by kernel_rfl) (by kernel_rfl) (by kernel_rfl) (fun _ _ _ h => h) (Or.inl ⟨by rfl, ?_⟩) (by assumption) ?_
          rotate_left
          · (intro w hSw; subst hSw; go_simp; (try with_reducible rfl))
          (try simp only [Act.put, List.setIfInBounds_toArray, List.set_cons_zero, List.set_cons_succ])
          refine wpAnyH_ready (rs := [7]) (by kernel_rfl) (by simp) ?_
          refine AllReadyH.cons (o := { dst := some 26, op := _, type := _, pos := _, after := _, guard := _ }) rfl (fun K hK => ?_) AllReadyH.nil
          go_simp
          refine HDG.out.mono ?_
          rintro e w5 ⟨rfl, hw5⟩
          rw [hw5]
          (try go_wp2_with fail)
          refine hK.out _ _ ?_ (fun hHeld => ?_)
          · (first | rfl | assumption | exact hw5)
          clear hK K
          (try simp only [Act.put, List.setIfInBounds_toArray, List.set_cons_zero, List.set_cons_succ])
          refine wpAnyH_take (i := 10) (oi := { dst := some 29, op := _, type := _, pos := _, after := _, guard := _ }) (v := ?_) rfl (by kernel_rfl) (by kernel_rfl) (by kernel_rfl) (fun _ _ _ h => h) (Or.inl ⟨by rfl, ?_⟩) (by assumption) ?_
          rotate_left
          · (intro w hSw; subst hSw; go_simp; (try with_reducible rfl))
          (try simp only [Act.put, List.setIfInBounds_toArray, List.set_cons_zero, List.set_cons_succ])
          refine wpAnyH_take (i := 11) (oi := { dst := some 30, op := _, type := _, pos := _, after := _, guard := _ }) (v := ?_) rfl (by kernel_rfl) (by kernel_rfl) (by kernel_rfl) (fun _ _ _ h => h) (Or.inl ⟨by rfl, ?_⟩) (by assumption) ?_
          rotate_left
          · (intro w hSw; subst hSw; go_simp; (try with_reducible rfl))
          (try simp only [Act.put, List.setIfInBounds_toArray, List.set_cons_zero, List.set_cons_succ])
          refine wpAnyH_take (i := 12) (oi := { dst := some 1, op := _, type := _, pos := _, after := _, guard := _ }) (v := ?_) rfl (by kernel_rfl) (by kernel_rfl) (by kernel_rfl) (fun _ _ _ h => h) (Or.inl ⟨by rfl, ?_⟩) (by assumption) ?_
          rotate_left
          · (intro w hSw; subst hSw; go_simp; (try with_reducible rfl))
          (try simp only [Act.put, List.setIfInBounds_toArray, List.set_cons_zero, List.set_cons_succ])
          refine wpAnyH_done (by kernel_rfl) ?_ _
          go_wp2_with fail
          go_roundg (gk - 1)
          case measure => have := HKG.out; omega
          case rel => exact ⟨k - 1, by have := HKG.out; omega, by omega, by omega, hidMk (by rw [HNV.out]), by congr 1; omega, HKX⟩
      · have HK1 := hidMk (show k = 1 ∧ 1 ≤ k ∧ k ≤ L by omega)
        have hk' : ¬ ((1 : Int) < k) := by omega
        clear hkg HS
        go_wp2_with fail
        go_meet
        exact ⟨k, hidMk ⟨HK1.out.2.1, HK1.out.2.2, rfl, .inl HK1.out.1⟩, HR⟩
  case rest =>
    clear HT1
    obtain ⟨k, HF, HR⟩ := hcut
    obtain ⟨hk1, hkL, rfl, hor⟩ := HF.out
    have HEN := hidMk (show (k = 1 ∧ wN nd c root L 1 = ndZ nd (wI nd c root L (L - k))) ∨ (wI nd c root L (L - k) = 0 ∧ wN nd c root L 1 = zNd) from by
      rcases hor with e | e
      · left; exact ⟨e, by rw [e]; rfl⟩
      · right
        refine ⟨e, ?_⟩
        have := wI_stop e (k - 1)
        rw [show L - k + (k - 1) = L - 1 by omega] at this
        unfold wN ndZ
        rw [if_pos this])
    by_cases hz0 : wI nd c root L (L - k) = 0
    · have e1 : entN (wN nd c root L 1) c = (0, false) := by
        have : wN nd c root L 1 = zNd := by
          rcases HEN.out with ⟨_, e⟩ | ⟨_, e⟩
          · rw [e]; unfold ndZ; rw [if_pos hz0]
          · exact e
        rw [this]; exact zv_getD _
      have e2 := HRR.out.symm.trans e1
      simp only [Prod.mk.injEq] at e2
      obtain ⟨rfl, rfl⟩ := e2
      rw [hz0]
      clear HF hor HEN e1 hz0
      go_wp2_with (first | (refine wpl_storeT en_size rfl _ _ rfl ob 0 rfl [.int .i64 0, .bool false] rfl rfl (by simp [Value.oneCell']) HR.out.2.2 ?_))
      exact gets_rets10 ob 0 false (World.rangeAt_setCells_same _ _ _ _ HR.out.2.2) rfl rfl ⟨rfl, kept_setCells (by have := HOB.out; omega) _ _ HR.out.1⟩
    · have hlive := (HW.out (L - k) (by omega)).resolve_left hz0
      have hwn : wN nd c root L 1 = nd (wI nd c root L (L - k)) := by
        rcases HEN.out with ⟨_, e⟩ | ⟨e, _⟩
        · rw [e]; unfold ndZ; rw [if_neg hz0]
        · exact absurd e hz0
      have hre := HRR.out
      rw [hwn] at hre
      generalize hid : wI nd c root L (L - k) = id at *
      have hin : 1 ≤ id ∧ id ≤ (n : Int) := by
        by_cases c : 1 ≤ id ∧ id ≤ (n : Int)
        · exact c
        · exact absurd (HOK.out id c) hlive
      obtain ⟨m, rfl⟩ : ∃ m : Nat, id = (m : Int) := ⟨id.toNat, by omega⟩
      have hdl := dig_lt c 1
      obtain ⟨dd, hdd⟩ : ∃ dd : Nat, dig c 1 = (dd : Int) := ⟨(dig c 1).toNat, by omega⟩
      have hd8 : (dd : Int) < 8 := by omega
      have hm8 : c.tmod 8 = (dd : Int) := by rw [rem_pos h0, ← hdd]; unfold dig; simp
      have hh := HQ.out wc HR.out.1
      have c1 := hh.c1
      have hr := hh.node (i := m) (by omega) (by omega) hlive
      have hen := ndL_ent (nd m) (HKO.out m).1 (HKO.out m).2 dd (by omega)
      have e1 : wc.cell? ⟨bL, m * 25 + 9 + dd * 2, none⟩ = some (.int .i64 (entN (nd m) c).1) := by
        unfold entN; rw [hdd, show ((dd : Int)).toNat = dd by omega]
        have := hr _ _ hen.1
        rwa [show m * 25 + (9 + 2 * dd) = m * 25 + 9 + dd * 2 by omega] at this
      have e2 : wc.cell? ⟨bL, m * 25 + 9 + dd * 2 + 1, none⟩ = some (.bool (entN (nd m) c).2) := by
        unfold entN; rw [hdd, show ((dd : Int)).toNat = dd by omega]
        have := hr _ _ hen.2
        rwa [show m * 25 + (9 + 2 * dd + 1) = m * 25 + 9 + dd * 2 + 1 by omega] at this
      rw [hre] at e1 e2
      have hib : ((m : Int) == 0) = false := by simpa using hz0
      have hmn : (m : Int) < (n : Int) + 1 := by omega
      clear HF hor HEN hwn hh hr hen hdd hdl hlive hid hre
      go_wp2_with (first | (refine wpl_storeT en_size rfl _ _ rfl ob 0 rfl [.int .i64 ra, .bool rb] rfl rfl (by simp [Value.oneCell']) HR.out.2.2 ?_))
      exact gets_rets10 ob ra rb (World.rangeAt_setCells_same _ _ _ _ HR.out.2.2) rfl rfl ⟨rfl, kept_setCells (by have := HOB.out; omega) _ _ HR.out.1⟩
end
end Go.Proofs.YtjkbhaplngnniaaDoor
