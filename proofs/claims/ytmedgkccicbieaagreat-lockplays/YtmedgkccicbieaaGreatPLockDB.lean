/- lock: Within, Owner, Foreign; where a lock belongs. · lock: Foreign; whether one of some numbers is in a set. -/
import Derived.Test.YtmedgkccicbieaaGreatPTk
import Derived.Test.YtmedgkccicbieaaGreatPLockBB
namespace Go.Proofs.YtmedgkccicbieaaGreat
open Go.RowKit Go.Maps
set_option linter.unusedSimpArgs false
set_option linter.unusedVariables false

set_option maxHeartbeats 1000000 in
theorem slices_AnyW (a : Option Addr) (c : Nat) (l : List Pk) (g : Pk → Bool) (ub sb cb : Nat) (w : World)
    (hi : Calls Tryz.prog 111 #[.slice a l.length c, .func (.func 81) #[] #[.pointer (some ⟨ub, 0, none⟩), .pointer (some ⟨sb, 0, none⟩), .pointer (some ⟨cb, 0, none⟩)]] w (IfPk w g l)) :
    Calls Tryz.prog 80 #[.slice a l.length c, .func (.func 81) #[] #[.pointer (some ⟨ub, 0, none⟩), .pointer (some ⟨sb, 0, none⟩), .pointer (some ⟨cb, 0, none⟩)]] w fun e w' => e = .returned (.bool (l.any g)) ∧ Kept w w' := by
  have HI := hidMk hi
  have HA := hidMk (show ∀ z : Int, ((∃ k : Nat, z = k ∧ k < l.length ∧ g (pkA l k) = true ∧ ∀ t, t < k → g (pkA l t) = false) ∨ (z = -1 ∧ ∀ t, t < l.length → g (pkA l t) = false)) → (0 ≤ z ∧ l.any g = true) ∨ (z < 0 ∧ l.any g = false) from fun z hz => by
    rcases hz with ⟨k, rfl, hk, hg, _⟩ | ⟨rfl, hn⟩
    · exact .inl ⟨by omega, List.any_eq_true.2 ⟨_, List.getElem_mem hk, by rw [← pkA_get hk]; exact hg⟩⟩
    · refine .inr ⟨by omega, ?_⟩
      cases h : l.any g with
      | false => rfl
      | true =>
        obtain ⟨y, hy, hg⟩ := List.any_eq_true.1 h
        obtain ⟨t, ht, e⟩ := List.getElem_of_mem hy
        have := hn t ht
        rw [pkA_get ht, e, hg] at this
        cases this)
  clear hi
  generalize l.any g = z at *
  go_enter Tryz.func80, Tryz.ntmps80
  go_wp2_with fail
  refine HI.out.mono ?_
  rintro e w2 ⟨i, rfl, hi, k2⟩
  have HK2 := hidMk k2
  have hi := HA.out i hi
  clear k2 HA
  rcases hi with ⟨h0, rfl⟩ | ⟨h0, rfl⟩
  · go_wp2_with fail
    go_ret
    exact ⟨by simp [h0], HK2.out⟩
  · have h1 : ¬ 0 ≤ i := by omega
    go_wp2_with fail
    go_ret
    exact ⟨by simp [h1], HK2.out⟩
theorem cmp_Or2 (x y : Int) (b : Nat) (w : World) (h0 : w.cell? ⟨b, 0, none⟩ = some (.int .i64 x)) (h1 : w.cell? ⟨b, 1, none⟩ = some (.int .i64 y)) (hx : x ≠ 0) : Calls Tryz.prog 119 #[.slice (some ⟨b, 0, none⟩) 2 2] w fun e w' => e = .returned (.int .i64 x) ∧ w' = w := by
  have hn : (x != 0) = true := by simpa using hx
  have HX := hidMk hx
  clear hx
  go_enter Tryz.func119, Tryz.ntmps119
  go_wp2_with fail
  go_loopg [8] 3 (fun g i wr => i = .int .i64 0 ∧ wr = w)
  case atStart => exact ⟨rfl, rfl⟩
  case round =>
    obtain ⟨rfl, hwr⟩ := hrel
    subst hwr
    go_wp2_with fail
    go_ret
    exact ⟨rfl, rfl⟩
theorem cmp_Str (x y : ByteArray) (w : World) : Calls Tryz.prog 120 #[.string x, .string y] w fun e w' => ∃ z : Int, e = .returned (.int .i64 z) ∧ w' = w := by
  have hN : ∀ (x : ByteArray) (w : World), Calls Tryz.prog 143 #[.string x] w fun e w' => e = .returned (.bool false) ∧ w' = w := by
    intro x w
    go_enter Tryz.func143, Tryz.ntmps143
    go_wp2_with fail
    go_ret
    first | exact ⟨rfl, rfl⟩ | exact ⟨by simp, rfl⟩
  cases h1 : Op.bytesLess x.toList y.toList with
  | true =>
    go_enter Tryz.func120, Tryz.ntmps120
    go_wp2_with (go_at_call 143; refine (hN _ _).mono ?_; rintro e w1 ⟨rfl, rfl⟩)
    go_ret
    exact ⟨_, rfl, rfl⟩
  | false =>
    cases h2 : (x.toList == y.toList) with
    | true =>
      go_enter Tryz.func120, Tryz.ntmps120
      go_wp2_with (go_at_call 143; refine (hN _ _).mono ?_; rintro e w1 ⟨rfl, rfl⟩)
      go_ret
      exact ⟨_, rfl, rfl⟩
    | false =>
      go_enter Tryz.func120, Tryz.ntmps120
      go_wp2_with (go_at_call 143; refine (hN _ _).mono ?_; rintro e w1 ⟨rfl, rfl⟩)
      go_ret
      exact ⟨_, rfl, rfl⟩
set_option maxHeartbeats 4000000 in
set_option maxRecDepth 100000 in
theorem lock_against (x y : Pk) (w : World) (hne : x.2.2 ≠ y.2.2) : Calls Tryz.prog 76 #[pkV x, pkV y] w fun e w' => e = .returned (.int .i64 (cmpI x.2.2 y.2.2)) ∧ Kept w w' := by
  obtain ⟨xb, hxb⟩ : ∃ z, z = w.heap.size := ⟨_, rfl⟩
  obtain ⟨yb, hyb⟩ : ∃ z, z = w.heap.size + 1 := ⟨_, rfl⟩
  obtain ⟨WA, hWA⟩ : ∃ V, V = w.alloc (.cells #[.int .i64 x.1.1, .int .i64 x.1.2.1, .int .i64 x.1.2.2.1, .int .i64 x.1.2.2.2.1, .int .i64 x.1.2.2.2.2, .string x.2.1, .int .i64 x.2.2] 130) := ⟨_, rfl⟩
  obtain ⟨W1, hW1⟩ : ∃ V, V = WA.alloc (.cells #[.int .i64 y.1.1, .int .i64 y.1.2.1, .int .i64 y.1.2.2.1, .int .i64 y.1.2.2.2.1, .int .i64 y.1.2.2.2.2, .string y.2.1, .int .i64 y.2.2] 130) := ⟨_, rfl⟩
  have kA : Kept w WA := by rw [hWA]; exact (Kept.refl w).alloc _
  have kA1 : Kept WA W1 := by rw [hW1]; exact (Kept.refl WA).alloc _
  have k1 := kA.trans kA1
  have HK1 := hidMk k1
  have HX := hidMk (show ∀ Y, Kept W1 Y → _ from fun Y k => boxPk_at w x 130 hxb Y (by rw [← hWA]; exact kA1.trans k))
  have hyb' : yb = WA.heap.size := by rw [hWA, World.size_alloc]; exact hyb
  have HY := hidMk (show ∀ Y, Kept W1 Y → _ from fun Y k => boxPk_at WA y 130 hyb' Y (by rw [← hW1]; exact k))
  have HCI := hidMk (cmp_Compare x.2.2 y.2.2)
  have HCS := hidMk (cmp_Str x.2.1 y.2.1)
  obtain ⟨z, hz⟩ : ∃ z : Int, z = cmpI x.2.2 y.2.2 := ⟨_, rfl⟩
  have HZ := hidMk (show z ≠ 0 from by
    rw [hz]; unfold cmpI; split
    · omega
    · split <;> omega)
  rw [← hz]
  unfold cmpI at hz
  rw [← hz] at HCI
  rw [hWA] at hW1
  unfold pkV at *
  clear k1 kA kA1 hWA hyb' hz hne
  go_enter Tryz.func76, Tryz.ntmps76
  go_upto_region 1 with fail
  rw [← hW1, ← hyb, ← hxb]
  clear hW1 hyb hxb
  refine wp_region_held_drew (S := (fun w' => Kept W1 w')) (by kernel_rfl) ?_ (fun hHeld => ?_)
  · exact (Kept.refl W1).drew
  refine tkL 0 5 (v := ?_) rfl ?_ ?_
  rotate_left
  · (intro w9 hSw; clear hSw; go_simp; (try with_reducible rfl))
  (try simp only [tkS])
  refine tkL 1 6 (v := ?_) rfl ?_ ?_
  rotate_left
  · (intro w9 hSw; obtain ⟨b0, b1, b2, b3, b4, b5, b6⟩ := HX.out w9 hSw; clear hSw; go_simp; (try with_reducible rfl))
  (try simp only [tkS])
  refine tkL 2 7 (v := ?_) rfl ?_ ?_
  rotate_left
  · (intro w9 hSw; clear hSw; go_simp; (try with_reducible rfl))
  (try simp only [tkS])
  refine tkL 3 8 (v := ?_) rfl ?_ ?_
  rotate_left
  · (intro w9 hSw; obtain ⟨b0, b1, b2, b3, b4, b5, b6⟩ := HY.out w9 hSw; clear hSw; go_simp; (try with_reducible rfl))
  (try simp only [tkS])
  refine tkL 5 10 (v := ?_) rfl ?_ ?_
  rotate_left
  · (intro w9 hSw; clear hSw; go_simp; (try with_reducible rfl))
  (try simp only [tkS])
  refine tkL 6 11 (v := ?_) rfl ?_ ?_
  rotate_left
  · (intro w9 hSw; clear hSw; go_simp; (try with_reducible rfl))
  (try simp only [tkS])
  refine tkL 7 12 (v := ?_) rfl ?_ ?_
  rotate_left
  · (intro w9 hSw; obtain ⟨b0, b1, b2, b3, b4, b5, b6⟩ := HX.out w9 hSw; clear hSw; go_simp; (try with_reducible rfl))
  (try simp only [tkS])
  refine tkL 8 13 (v := ?_) rfl ?_ ?_
  rotate_left
  · (intro w9 hSw; clear hSw; go_simp; (try with_reducible rfl))
  (try simp only [tkS])
  refine tkL 9 14 (v := ?_) rfl ?_ ?_
  rotate_left
  · (intro w9 hSw; clear hSw; go_simp; (try with_reducible rfl))
  (try simp only [tkS])
  refine tkL 10 15 (v := ?_) rfl ?_ ?_
  rotate_left
  · (intro w9 hSw; obtain ⟨b0, b1, b2, b3, b4, b5, b6⟩ := HY.out w9 hSw; clear hSw; go_simp; (try with_reducible rfl))
  (try simp only [tkS])
  refine wpAnyH_ready (rs := [4]) (by kernel_rfl) (by simp) ?_
  refine AllReadyH.cons (o := ⟨some 9, _, _, _, _, _⟩) rfl (fun K hK => ?_) AllReadyH.nil
  go_simp
  refine (HCI.out _).mono ?_
  rintro e wA ⟨rfl, hA⟩
  have HAA := hidMk (show Kept W1 wA from by rw [hA]; exact hHeld)
  clear hA
  (try go_wp2_with fail)
  refine hK.out _ _ ?_ (fun hHeld => ?_)
  · exact HAA.out
  clear hK K
  (try simp only [tkS])
  refine wpAnyH_ready (rs := [11]) (by kernel_rfl) (by simp) ?_
  refine AllReadyH.cons (o := ⟨some 16, _, _, _, _, _⟩) rfl (fun K hK => ?_) AllReadyH.nil
  go_simp
  refine (HCS.out _).mono ?_
  rintro e wA ⟨z2, rfl, hA⟩
  have HAA := hidMk (show Kept W1 wA from by rw [hA]; exact hHeld)
  clear hA
  (try go_wp2_with fail)
  refine hK.out _ _ ?_ (fun hHeld => ?_)
  · exact HAA.out
  clear hK K
  (try simp only [tkS])
  refine wpAnyH_ready (rs := [12]) (by kernel_rfl) (by simp) ?_
  refine AllReadyH.cons (o := ⟨some 17, _, _, _, _, _⟩) rfl (fun K hK => ?_) AllReadyH.nil
  go_simp
  have HAA := hidMk (show Kept W1 (wA.alloc (.cells #[.int .i64 z, .int .i64 z2] 3)) from hHeld.alloc _)
  have HOR := hidMk (cmp_Or2 z z2 wA.heap.size (wA.alloc (.cells #[.int .i64 z, .int .i64 z2] 3)) (new_cell _ _ _ _ 0 _ rfl rfl) (new_cell _ _ _ _ 1 _ rfl rfl) HZ.out)
  refine hK.out _ _ ?_ (fun hHeld => ?_)
  · exact HAA.out
  clear hK K
  (try simp only [tkS])
  refine wpAnyH_ready (rs := [13]) (by kernel_rfl) (by simp) ?_
  refine AllReadyH.cons (o := ⟨some 18, _, _, _, _, _⟩) rfl (fun K hK => ?_) AllReadyH.nil
  go_simp
  refine (HOR.out).mono ?_
  rintro e wA ⟨rfl, hA⟩
  have HAA := hidMk (show Kept W1 wA from by rw [hA]; exact hHeld)
  clear hA
  (try go_wp2_with fail)
  refine hK.out _ _ ?_ (fun hHeld => ?_)
  · exact HAA.out
  clear hK K
  (try simp only [tkS])
  refine tkL 14 4 (v := ?_) rfl ?_ ?_
  rotate_left
  · (intro w9 hSw; clear hSw; go_simp; (try with_reducible rfl))
  (try simp only [tkS])
  refine wpAnyH_done (by kernel_rfl) ?_ _
  have HKF := hidMk hHeld
  clear hHeld
  go_wp2_with fail
  go_ret
  exact ⟨rfl, HK1.out.trans HKF.out⟩
def undC (ms : List ByteArray) (ds : List Dm) (x : Cl) : List Int := undL ms ds x.1 (clT x)
def ownI (ms : List ByteArray) (ds : List Dm) (n : Int) : List Lk → ByteArray
  | [] => ByteArray.empty
  | x :: l => if n ∈ undC ms ds x.1 then x.2 else ownI ms ds n l
theorem ownI_at {ms : List ByteArray} {ds : List Dm} {n : Int} : ∀ {l : List Lk} {k : Nat}, k < l.length → n ∈ undC ms ds (lkA l k).1 → (∀ t, t < k → ¬ n ∈ undC ms ds (lkA l t).1) → ownI ms ds n l = (lkA l k).2 := by
  intro l
  induction l with
  | nil => intro k hk; simp at hk
  | cons x r ih =>
    intro k hk h1 h2
    cases k with
    | zero => exact if_pos h1
    | succ k =>
      have h0 : ¬ n ∈ undC ms ds x.1 := h2 0 (by omega)
      show (if _ then _ else _) = _
      rw [if_neg h0, ih (k := k) (by simpa using hk) h1 (fun t ht => h2 (t + 1) (by omega))]
      rfl
theorem ownI_no {ms : List ByteArray} {ds : List Dm} {n : Int} : ∀ {l : List Lk}, (∀ t, t < l.length → ¬ n ∈ undC ms ds (lkA l t).1) → ownI ms ds n l = ByteArray.empty := by
  intro l
  induction l with
  | nil => intro _; rfl
  | cons x r ih =>
    intro h2
    have h0 : ¬ n ∈ undC ms ds x.1 := h2 0 (by simp)
    show (if _ then _ else _) = _
    rw [if_neg h0]
    exact ih (fun t ht => h2 (t + 1) (by simp; omega))
theorem lkA_map {l : List Pk} {k : Nat} (hk : k < l.length) : lkA (l.map lkOf) k = lkOf (pkA l k) := by
  rw [lkA_get (by simpa using hk), pkA_get hk, List.getElem_map]
section
variable {w : World} {s p : Nat} {ds : List Dm} {ms : List ByteArray} {tp : Nat → Nat} {rv : Nat → Option Addr × Nat}
theorem sw_InsideC (h : SW w s p ds ms tp rv) (x : Cl) (n : Int) : Calls Tryz.prog 42 #[.pointer (some ⟨s, 0, none⟩), clV x, .int .i64 n] w fun e w' => e = .returned (.bool (decide (n ∈ undC ms ds x))) ∧ Kept w w' := by
  rw [clV_at]
  refine (sw_Inside h x.1 (clT x) n).mono ?_
  rintro e w' ⟨r, rfl, hr, k⟩
  refine ⟨?_, k⟩
  have h9 := bool_is (b := r) (P := n ∈ undC ms ds x) (by rw [hr]; exact (mem_und h.ct).symm)
  rw [h9]
theorem sw_UnderC (h : SW w s p ds ms tp rv) (x : Cl) : Calls Tryz.prog 63 #[.pointer (some ⟨s, 0, none⟩), clV x] w (UndP w (undC ms ds x)) := by
  rw [clV_at]; exact sw_Under h _ _
set_option maxHeartbeats 2000000 in
theorem lock_Within (h : SW w s p ds ms tp rv) (a : Option Addr) (c : Nat) (l : List Pk) (x : Cl) (u : ByteArray) (hq : Pq w a l) (hl : l.length ≤ 100000) : Calls Tryz.prog 36 #[hdV a l.length c, .pointer (some ⟨s, 0, none⟩), clV x, .string u] w fun e w' => e = .returned (.bool ((l.map lkOf).any fun y => wiP ms ds x u y)) ∧ Kept w w' := by
  obtain ⟨WA, hWA⟩ : ∃ V, V = w.alloc (.cells #[.slice a l.length c] 66) := ⟨_, rfl⟩
  obtain ⟨WB, hWB⟩ : ∃ V, V = WA.alloc (.cells #[.pointer (some ⟨s, 0, none⟩)] 30) := ⟨_, rfl⟩
  obtain ⟨WC, hWC⟩ : ∃ V, V = WB.alloc (.cells #[.int .i64 x.1, .int .i64 x.2.1, .int .i64 x.2.2.1, .int .i64 x.2.2.2.1, .int .i64 x.2.2.2.2] 29) := ⟨_, rfl⟩
  obtain ⟨W1, hW1⟩ : ∃ V, V = WC.alloc (.cells #[.string u] 9) := ⟨_, rfl⟩
  have kA : Kept w WA := by rw [hWA]; exact (Kept.refl _).alloc _
  have kB : Kept WA WB := by rw [hWB]; exact (Kept.refl _).alloc _
  have kC : Kept WB WC := by rw [hWC]; exact (Kept.refl _).alloc _
  have kD : Kept WC W1 := by rw [hW1]; exact (Kept.refl _).alloc _
  have zA : WA.heap.size = w.heap.size + 1 := by rw [hWA, World.size_alloc]
  have zB : WB.heap.size = w.heap.size + 1 + 1 := by rw [hWB, World.size_alloc, zA]
  have zC : WC.heap.size = w.heap.size + 1 + 1 + 1 := by rw [hWC, World.size_alloc, zB]
  have k1 := kA.trans (kB.trans (kC.trans kD))
  have HK1 := hidMk k1
  have y0 : W1.cell? ⟨w.heap.size, 0, none⟩ = some (.slice a l.length c) := (kB.trans (kC.trans kD)).cellp (by rw [hWA]; exact new_cell _ _ _ _ 0 _ rfl rfl)
  have y1 : W1.cell? ⟨w.heap.size + 1, 0, none⟩ = some (.pointer (some ⟨s, 0, none⟩)) := (kC.trans kD).cellp (by rw [hWB]; exact new_cell _ _ _ _ 0 _ zA.symm rfl)
  have y2 : W1.cell? ⟨w.heap.size + 1 + 1 + 1, 0, none⟩ = some (.string u) := by rw [hW1]; exact new_cell _ _ _ _ 0 _ zC.symm rfl
  have HCX := hidMk (show ∀ Y, Kept W1 Y → _ from fun Y k => boxC_at WB x 29 (g := w.heap.size + 1 + 1) zB.symm Y (by rw [← hWC]; exact kD.trans k))
  have HI := hidMk (slices_IfWithin a c l (fun y => wiP ms ds x u (lkOf y)) (w.heap.size + 1 + 1 + 1) (w.heap.size + 1) (w.heap.size + 1 + 1) W1 (hq.kept k1) hl (fun Y k y => lock_wfn (h.keep (k1.trans k)) x u y _ _ _ (k.cellp y2) (k.cellp y1) (HCX.out Y k)))
  have HIF := hidMk (slices_AnyW a c l (fun y => wiP ms ds x u (lkOf y)) _ _ _ W1 HI.out)
  have hz : ((l.map lkOf).any fun y => wiP ms ds x u y) = l.any (fun y => wiP ms ds x u (lkOf y)) := by rw [List.any_map]; rfl
  rw [hz]
  generalize (l.any fun y => wiP ms ds x u (lkOf y)) = z at *
  rw [hWC, hWB, hWA] at hW1
  rw [hW1] at y0 y1 y2
  clear h hq k1 kA kB kC kD zA zB zC hWA hWB hWC HCX HI hz
  unfold clV hdV at *
  go_enter Tryz.func36, Tryz.ntmps36
  go_wp2_with fail
  rw [← hW1]
  clear hW1 y0 y1 y2
  refine HIF.out.mono ?_
  rintro e w2 ⟨rfl, k2⟩
  have HK2 := hidMk k2
  clear k2
  go_wp2_with fail
  go_ret
  exact ⟨rfl, HK1.out.trans HK2.out⟩
set_option maxHeartbeats 4000000 in
set_option maxRecDepth 100000 in
theorem lock_Owner (h : SW w s p ds ms tp rv) (a : Option Addr) (c : Nat) (l : List Pk) (n : Int) (hq : Pq w a l) (hl : l.length ≤ 1000) : Calls Tryz.prog 34 #[hdV a l.length c, .pointer (some ⟨s, 0, none⟩), .int .i64 n] w fun e w' => e = .returned (.string (ownI ms ds n (l.map lkOf))) ∧ Kept w w' := by
  obtain ⟨W1, hW1⟩ : ∃ V, V = w.alloc (.cells #[.slice a l.length c] 66) := ⟨_, rfl⟩
  have k1 : Kept w W1 := by rw [hW1]; exact (Kept.refl w).alloc _
  have HK1 := hidMk k1
  have hc := new_cell w #[.slice a l.length c] 66 _ 0 _ rfl rfl
  have HL := hidMk (hq.kept k1)
  have HIN := hidMk (show ∀ Y x, Kept W1 Y → _ from fun Y x k => sw_InsideC (h.keep (k1.trans k)) x n)
  obtain ⟨R, hR⟩ : ∃ R, ownI ms ds n (l.map lkOf) = R := ⟨_, rfl⟩
  rw [hR]
  have HR := hidMk hR
  clear h hq k1 hR
  unfold hdV clV at *
  go_enter Tryz.func34, Tryz.ntmps34
  go_wp2_with fail
  rw [← hW1]
  clear hW1 hc
  go_loopg [12] (l.length + 1) (fun g i wr => ∃ k : Nat, k + g = l.length + 1 ∧ k ≤ l.length ∧ i = .int .i64 k ∧ Hid (Kept W1 wr ∧ ∀ t, t < k → ¬ n ∈ undC ms ds (pkA l t).1))
  case atStart => exact ⟨0, by omega, by omega, rfl, hidMk ⟨Kept.refl _, fun t ht => absurd ht (by omega)⟩⟩
  case round =>
    obtain ⟨k, hkg, hkl, rfl, HS⟩ := hrel
    have HKG := hidMk hkg
    clear hkg
    by_cases hk : k < l.length
    · have hk' : (k : Int) < (l.length : Int) := by omega
      obtain ⟨b, o, rfl⟩ := HL.out.form (by omega)
      obtain ⟨e0, e1, e2, e3, e4, e5, e6⟩ := (HL.out.kept HS.out.1).at hk
      have HI := hidMk (HIN.out (wr.alloc (.cells #[.int .i64 (pkA l k).1.1, .int .i64 (pkA l k).1.2.1, .int .i64 (pkA l k).1.2.2.1, .int .i64 (pkA l k).1.2.2.2.1, .int .i64 (pkA l k).1.2.2.2.2, .string (pkA l k).2.1, .int .i64 (pkA l k).2.2] 130)) (pkA l k).1 (HS.out.1.alloc _))
      obtain ⟨y0, y1, y2, y3, y4, y5, y6⟩ := boxPk_at wr (pkA l k) 130 rfl _ (Kept.refl _)
      by_cases hin : n ∈ undC ms ds (pkA l k).1
      · have HF := hidMk (show R = (pkA l k).2.1 from by
          rw [← HR.out, ownI_at (k := k) (by simpa using hk) (by rw [lkA_map hk]; exact hin) (fun t ht => by rw [lkA_map (by omega)]; exact HS.out.2 t ht), lkA_map hk]; rfl)
        rw [decide_eq_true hin] at HI
        clear hin
        generalize pkA l k = y at *
        go_wp2_with fail
        refine HI.out.mono ?_
        rintro e w2 ⟨rfl, k2⟩
        have z5 := k2.cellp y5
        have HK2 := hidMk k2
        clear k2 e0 e1 e2 e3 e4 e5 e6 y0 y1 y2 y3 y4 y5 y6
        go_wp2_with fail
        go_ret
        exact ⟨by rw [HF.out]; rfl, HK1.out.trans ((HS.out.1.alloc _).trans HK2.out)⟩
      · have HJ := hidMk (show ∀ t, t < k + 1 → ¬ n ∈ undC ms ds (pkA l t).1 from fun t ht => by
          by_cases e : t = k
          · subst e; exact hin
          · exact HS.out.2 t (by omega))
        rw [decide_eq_false hin] at HI
        have HK := hidMk HS.out.1
        clear hin HS
        obtain ⟨y, hy⟩ : ∃ y, pkA l k = y := ⟨_, rfl⟩
        rw [hy] at e0 e1 e2 e3 e4 e5 e6 y0 y1 y2 y3 y4 y5 y6 HI
        clear hy
        go_wp2_with fail
        refine HI.out.mono ?_
        rintro e w2 ⟨rfl, k2⟩
        have HK2 := hidMk k2
        clear k2 e0 e1 e2 e3 e4 e5 e6 y0 y1 y2 y3 y4 y5 y6
        go_wp2_with fail
        go_roundg (gk - 1)
        case measure => have := HKG.out; omega
        case rel => exact ⟨k + 1, by have := HKG.out; omega, by omega, by go_num, hidMk ⟨(HK.out.alloc _).trans HK2.out, HJ.out⟩⟩
    · have hke : k = l.length := by omega
      have HF := hidMk (show R = ByteArray.empty from by
        rw [← HR.out]; exact ownI_no (fun t ht => by rw [List.length_map] at ht; rw [lkA_map ht]; exact HS.out.2 t (by omega)))
      have hk' : ¬ ((k : Int) < (l.length : Int)) := by omega
      go_wp2_with fail
      go_ret
      exact ⟨by rw [HF.out]; rfl, HK1.out.trans HS.out.1⟩
end
theorem ownPk_room (w : World) (cs : Array Value) (G B : Nat) (hB : B ≤ w.heap.size) (hG : G ≤ maxLen) (hc : cs.size = G * 7) : OwnPk (w.alloc (.cells cs 130)) B (.slice (some ⟨w.heap.size, 0, none⟩) 0 G) [] := World.ownsRow_made w cs G hB hG hc
set_option maxHeartbeats 2000000 in
set_option maxRecDepth 100000 in
theorem slices_GrowPk (n : Nat) (hn : n ≤ 200000) (w : World) : Calls Tryz.prog 113 #[.slice none 0 0, .int .i64 n] w fun e w' => ∃ v, e = .returned v ∧ OwnPk w' w.heap.size v [] ∧ Kept w w' := by
  have h1 : ¬ ((n : Int) < 0) := by omega
  have h2 : wrap64 ((0 : Int) - 0) = 0 := by unfold wrap64; omega
  have h3 : wrap64 ((n : Int) - 0) = n := by unfold wrap64; omega
  by_cases h0 : n = 0
  · subst h0
    go_enter Tryz.func113, Tryz.ntmps113
    go_wp2_with fail
    go_ret
    exact ⟨_, rfl, ownPk_nil _ _, Kept.refl _⟩
  · have h4 : (n : Int) > 0 := by omega
    obtain ⟨i0, hi0, hz0, hz1, hz2⟩ := cinfoPk
    obtain ⟨G, hG⟩ : ∃ G, G = grownCap w n 0 130 := ⟨_, rfl⟩
    have hGn : n ≤ G := by rw [hG]; exact grownCap_ge w _ _ _
    have hG63 : G ≤ maxLen := by rw [hG]; exact grownCap_le_maxLen w n 0 _ (by unfold maxLen; omega)
    have hr : ∀ ty, _ := fun ty => Lib.run_append_nil_zeros (P := Tryz.prog) w 64 3 ty 130 i0 _ .i64 .i64 Tryz.underlying64 Tryz.underlying3 hi0 hz0 n (by omega) (by omega) (by omega) (by rw [hz2]; omega)
    rw [← hG] at hr
    obtain ⟨cs, hcs⟩ : ∃ cs, cs = Builtin.zeroCells (Value.agg #[.int .i64 0, .int .i64 0, .int .i64 0, .int .i64 0, .int .i64 0, .string ByteArray.empty, .int .i64 0]).cells n ++ Builtin.zeroCells (Value.agg #[.int .i64 0, .int .i64 0, .int .i64 0, .int .i64 0, .int .i64 0, .string ByteArray.empty, .int .i64 0]).cells (G - n) := ⟨_, rfl⟩
    have hsz : cs.size = G * 7 := by
      rw [hcs, Array.size_append, size_zeroCells, size_zeroCells]
      show n * 7 + (G - n) * 7 = G * 7
      omega
    rw [← hcs] at hr
    have HO := hidMk (show OwnPk (w.drew.alloc (.cells cs 130)) w.heap.size (.slice (some ⟨w.heap.size, 0, none⟩) 0 G) [] from ownPk_room w.drew cs G w.heap.size (Nat.le_refl _) hG63 hsz)
    have hG' : (G : Int) ≤ 9223372036854775807 := by unfold maxLen at hG63; omega
    clear hcs hG hi0 hz0 hz1 hz2 hG63 hsz
    go_enter Tryz.func113, Tryz.ntmps113
    go_wp2_with (at_builtin; refine Lib.wpList_append_run _ rfl _ _ _ _ rfl _ _ rfl rfl _ _ (hr _) ?_)
    all_goals (go_ret; exact ⟨_, rfl, HO.out, ((Kept.refl w).drew).alloc _⟩)
def catNPk (pl : Nat → List Pk) (k : Nat) : List Pk := (List.range k).flatMap pl
theorem catN_succ_Pk (pl : Nat → List Pk) (k : Nat) : catNPk pl (k + 1) = catNPk pl k ++ pl k := by simp [catNPk, List.range_succ]
theorem catN_le_Pk {pl : Nat → List Pk} {K : Nat} (h : ∀ i, i < K → (pl i).length ≤ 1000) : ∀ k, k ≤ K → (catNPk pl k).length ≤ k * 1000 := by
  intro k
  induction k with
  | zero => intro _; simp [catNPk]
  | succ k ih =>
    intro hk
    have h1 := ih (by omega)
    have h2 := h k (by omega)
    rw [catN_succ_Pk, List.length_append]
    omega
set_option maxHeartbeats 4000000 in
set_option maxRecDepth 100000 in
theorem slices_ConcatPk (pb K kc : Nat) (pa : Nat → Option Addr) (pc : Nat → Nat) (pl : Nat → List Pk) (w : World) (hK : K ≤ 10) (h : ∀ i, i < K → w.cell? ⟨pb, i, none⟩ = some (.slice (pa i) (pl i).length (pc i)) ∧ Pq w (pa i) (pl i) ∧ (pa i = none → pl i = [] ∧ pc i = 0) ∧ (pl i).length ≤ 1000) : Calls Tryz.prog 70 #[.slice (some ⟨pb, 0, none⟩) K kc] w fun e w' => ∃ v, e = .returned v ∧ OwnPk w' w.heap.size v (catNPk pl K) ∧ Kept w w' := by
  have HLE := hidMk (catN_le_Pk (pl := pl) (K := K) (fun i hi => (h i hi).2.2.2))
  have HH := hidMk h
  obtain ⟨sz, hsz⟩ : ∃ sz : Nat → Nat, ∀ k, sz k = (catNPk pl k).length := ⟨fun k => (catNPk pl k).length, fun _ => rfl⟩
  have HZ := hidMk hsz
  clear h hsz
  go_enter Tryz.func70, Tryz.ntmps70
  go_wp2_with fail
  go_loopg [3, 11] (K + 1) (fun g sv x wr => ∃ k : Nat, k + g = K + 1 ∧ k ≤ K ∧ x = .int .i64 k ∧ sv = .int .i64 (sz k) ∧ w = wr)
  case atStart => exact ⟨0, by omega, by omega, rfl, by rw [HZ.out]; rfl, rfl⟩
  case round =>
    obtain ⟨k, hkg, hkK, rfl, rfl, hwr⟩ := hrel
    subst hwr
    have HG := hidMk hkg
    clear hkg
    by_cases hk : k < K
    · have hk' : (k : Int) < (K : Int) := by omega
      obtain ⟨c0, _, _, h5⟩ := HH.out k hk
      have h6 := HLE.out k (by omega)
      have hw : wrap64 ((sz k : Int) + ((pl k).length : Int)) = (sz (k + 1) : Int) := by rw [HZ.out, HZ.out, catN_succ_Pk, List.length_append]; unfold wrap64; omega
      have hneg : ¬ ((sz (k + 1) : Int) < 0) := by omega
      go_wp2_with fail
      go_roundg (gk - 1)
      case measure => have := HG.out; omega
      case rel => exact ⟨k + 1, by have := HG.out; omega, by omega, by go_num, rfl, rfl⟩
    · have hke : k = K := by omega
      subst hke
      have hk' : ¬ ((k : Int) < (k : Int)) := by omega
      have h6 := HLE.out k (by omega)
      have HGR := hidMk (slices_GrowPk (sz k) (by rw [HZ.out]; omega) w)
      go_wp2_with fail
      refine HGR.out.mono ?_
      rintro e w2 ⟨v2, rfl, ho2, k2⟩
      have HO2 := hidMk ho2
      have HK2 := hidMk k2
      clear ho2 k2 HGR hk'
      go_wp2_with fail
      go_loopg [6, 27] (k + 1) (fun g sv x wr => ∃ j : Nat, j + g = k + 1 ∧ j ≤ k ∧ x = .int .i64 j ∧ Hid (OwnPk wr w.heap.size sv (catNPk pl j) ∧ Kept w wr))
      case atStart => exact ⟨0, by omega, by omega, rfl, hidMk ⟨HO2.out, HK2.out⟩⟩
      case round =>
        obtain ⟨j, hjg, hjk, rfl, HS⟩ := hrel
        have HJG := hidMk hjg
        clear hjg
        obtain ⟨sa, sc, hsv, _, _⟩ := HS.out.1.form
        subst hsv
        by_cases hj : j < k
        · have hj' : (j : Int) < (k : Int) := by omega
          obtain ⟨c0, c1, c2, h5⟩ := HH.out j hj
          have c0' := HS.out.2.cellp c0
          have HC1 := hidMk c1
          have HC2 := hidMk c2
          have h7 := HLE.out j (by omega)
          have HSZ := hidMk HS.out.2.size
          clear c0 c1 c2
          obtain ⟨P, hP⟩ : ∃ P, P = pl j := ⟨_, rfl⟩
          have HP := hidMk hP
          rw [← hP] at c0' HC1 HC2 h5
          clear hP
          go_wp2_with (at_builtin; refine wpList_catPk _ (by rfl) _ _ (by rfl) w.heap.size (.slice sa (catNPk pl j).length sc) (catNPk pl j) P (by rfl) HS.out.1 HSZ.out (pa j) (pc j) (by rfl) (HC1.out.kept HS.out.2) HC2.out (by omega) ?_; intro v6 w6 o6 k6; have H6 := hidMk o6; have C6 := hidMk (show Kept w w6 from Chg.kept HS.out.2 k6 (fun z hz => (World.ownsRow.lt HS.out.1 z hz).1)); clear o6 k6)
          go_roundg (gk - 1)
          case measure => have := HJG.out; omega
          case rel => exact ⟨j + 1, by have := HJG.out; omega, by omega, by go_num, hidMk ⟨by rw [catN_succ_Pk, ← HP.out]; exact H6.out, C6.out⟩⟩
        · have hje : j = k := by omega
          subst hje
          have hj' : ¬ ((j : Int) < (j : Int)) := by omega
          go_wp2_with fail
          go_ret
          exact ⟨_, rfl, HS.out.1, HS.out.2⟩
def BinPk (w : World) (f : Pk → Int) (l : List Pk) (x : Pk) (e : Ending) (w' : World) : Prop := ∃ (i : Nat) (b : Bool), e = .returned (.tuple #[.int .i64 i, .bool b]) ∧ i ≤ l.length ∧ (∀ k, k < i → f (pkA l k) < f x) ∧ (∀ k, i ≤ k → k < l.length → f x ≤ f (pkA l k)) ∧ Kept w w'
set_option maxHeartbeats 4000000 in
set_option maxRecDepth 100000 in
theorem slices_BinPk (a : Option Addr) (c : Nat) (l : List Pk) (x : Pk) (f : Pk → Int) (w : World) (hs : Pq w a l) (hl : l.length ≤ 1000) (hr : ∀ i j, i < j → j < l.length → f (pkA l i) < f (pkA l j))
    (hf : ∀ Y, Kept w Y → ∀ y, y ∈ l → Calls Tryz.prog 76 #[pkV y, pkV x] Y fun e w' => e = .returned (.int .i64 (cmpI (f y) (f x))) ∧ Kept Y w') :
    Calls Tryz.prog 75 #[.slice a l.length c, pkV x, .func (.func 76) #[] #[]] w (BinPk w f l x) := by
  obtain ⟨xb, hxb⟩ : ∃ z, z = w.heap.size := ⟨_, rfl⟩
  obtain ⟨W1, hW1⟩ : ∃ V, V = w.alloc (.cells #[.int .i64 x.1.1, .int .i64 x.1.2.1, .int .i64 x.1.2.2.1, .int .i64 x.1.2.2.2.1, .int .i64 x.1.2.2.2.2, .string x.2.1, .int .i64 x.2.2] 130) := ⟨_, rfl⟩
  have k1 : Kept w W1 := by rw [hW1]; exact (Kept.refl w).alloc _
  have HK1 := hidMk k1
  have HX := hidMk (show ∀ Y, Kept W1 Y → _ from fun Y k => boxPk_at w x 130 hxb Y (by rw [← hW1]; exact k))
  have HL := hidMk (hs.kept k1)
  have HF := hidMk (show ∀ Y, Kept W1 Y → ∀ y, _ from fun Y k y => hf Y (k1.trans k) y)
  have HR := hidMk hr
  clear hs k1 hr hf
  unfold pkV at *
  go_enter Tryz.func75, Tryz.ntmps75
  go_wp2_with fail
  rw [← hW1, ← hxb]
  clear hW1 hxb
  go_loopg [9, 10] l.length (fun g p q wr => ∃ (i j : Nat), i ≤ j ∧ j - i = g ∧ j ≤ l.length ∧ p = .int .i64 i ∧ q = .int .i64 j ∧ Hid (Kept W1 wr ∧ (∀ k, k < i → f (pkA l k) < f x) ∧ ∀ k, j ≤ k → k < l.length → f x ≤ f (pkA l k)))
  case atStart => exact ⟨0, l.length, by omega, by omega, by omega, rfl, rfl, hidMk ⟨Kept.refl _, fun k hk => absurd hk (by omega), fun k h1 h2 => absurd h1 (by omega)⟩⟩
  case round =>
    obtain ⟨i, j, hij, hg, hjl, rfl, rfl, HJ⟩ := hrel
    have HG := hidMk hg
    clear hg
    by_cases hlt : i < j
    · have hlt' : (i : Int) < (j : Int) := by omega
      obtain ⟨h, hh⟩ : ∃ h : Nat, (i + j) / 2 = h := ⟨_, rfl⟩
      have hh1 : i ≤ h := by omega
      have hh2 : h < j := by omega
      have hhl : h < l.length := by omega
      have hhl' : (h : Int) < (l.length : Int) := by omega
      obtain ⟨bb, o, rfl⟩ := HL.out.form (by omega)
      have HCE := hidMk (show ∀ Y, Kept wr Y → _ from fun Y k => (HL.out.kept (HJ.out.1.trans k)).at hhl)
      have HXX := hidMk (show ∀ Y, Kept wr Y → _ from fun Y k => HX.out Y (HJ.out.1.trans k))
      have HFF := hidMk (show ∀ Y, Kept wr Y → _ from fun Y k => HF.out Y (HJ.out.1.trans k) (pkA l h) (by rw [pkA_get hhl]; exact List.getElem_mem hhl))
      have hw1 : IntKind.i64.wrap ((i : Int) + (j : Int)) = (i : Int) + (j : Int) := by rw [IntKind.wrap_i64]; omega
      have hH2 : ((i : Int) + (j : Int)) / 2 = (h : Int) := by omega
      have HC := hidMk (show cmpI (f (pkA l h)) (f x) < 0 ↔ f (pkA l h) < f x from by
        unfold cmpI
        by_cases e : f (pkA l h) < f x
        · rw [if_pos e]; exact ⟨fun _ => e, fun _ => by omega⟩
        · rw [if_neg e]; refine ⟨fun h9 => ?_, fun h9 => absurd h9 e⟩; split at h9 <;> omega)
      obtain ⟨y, hy⟩ : ∃ y, y = pkA l h := ⟨_, rfl⟩
      have HY := hidMk hy
      rw [← hy] at HCE HFF HC
      clear hy
      obtain ⟨z, hz⟩ : ∃ z, z = cmpI (f y) (f x) := ⟨_, rfl⟩
      rw [← hz] at HFF HC
      clear hz
      have HH := hidMk hh
      clear hh
      go_upto_region 5 with fail
      refine wp_region_held_drew (S := (fun w' => Kept wr w')) (by kernel_rfl) ?_ (fun hHeld => ?_)
      · exact (Kept.refl wr).drew
      refine tkL 0 24 (v := ?_) rfl ?_ ?_
      rotate_left
      · (intro w9 hSw; clear hSw; go_simp; (try with_reducible rfl))
      (try simp only [tkS])
      refine tkL 1 25 (v := ?_) rfl ?_ ?_
      rotate_left
      · (intro w9 hSw; clear hSw; go_simp; (try with_reducible rfl))
      (try simp only [tkS])
      refine tkL 2 26 (v := ?_) rfl ?_ ?_
      rotate_left
      · (intro w9 hSw; clear hSw; go_simp; (try with_reducible rfl))
      (try simp only [tkS])
      refine tkL 3 27 (v := ?_) rfl ?_ ?_
      rotate_left
      · (intro w9 hSw; clear hSw; go_simp; (try with_reducible rfl))
      (try simp only [tkS])
      refine tkL 4 28 (v := ?_) rfl ?_ ?_
      rotate_left
      · (intro w9 hSw; obtain ⟨b0, b1, b2, b3, b4, b5, b6⟩ := HCE.out w9 hSw; clear hSw; go_simp; (try with_reducible rfl))
      (try simp only [tkS])
      refine tkL 5 29 (v := ?_) rfl ?_ ?_
      rotate_left
      · (intro w9 hSw; obtain ⟨b0, b1, b2, b3, b4, b5, b6⟩ := HXX.out w9 hSw; clear hSw; go_simp; (try with_reducible rfl))
      (try simp only [tkS])
      refine wpAnyH_ready (rs := [6]) (by kernel_rfl) (by simp) ?_
      refine AllReadyH.cons (o := ⟨some 30, _, _, _, _, _⟩) rfl (fun K hK => ?_) AllReadyH.nil
      go_simp
      refine (HFF.out _ hHeld).mono ?_
      rintro e wA ⟨rfl, kA⟩
      have HAA := hidMk (hHeld.trans kA)
      clear kA
      (try go_wp2_with fail)
      refine hK.out _ _ ?_ (fun hHeld => ?_)
      · exact HAA.out
      clear hK K
      (try simp only [tkS])
      refine tkL 7 31 (v := ?_) rfl ?_ ?_
      rotate_left
      · (intro w9 hSw; clear hSw; go_simp; (try with_reducible rfl))
      (try simp only [tkS])
      refine wpAnyH_done (by kernel_rfl) ?_ _
      have HKF := hidMk hHeld
      clear hHeld HFF HXX HCE
      by_cases hzn : z < 0
      · have HJ2 := hidMk (show (∀ k, k < h + 1 → f (pkA l k) < f x) ∧ ∀ k, j ≤ k → k < l.length → f x ≤ f (pkA l k) from ⟨fun k hk => by
          have hr0 := HC.out.1 hzn
          rw [HY.out] at hr0
          by_cases e : k = h
          · subst e; exact hr0
          · exact Int.lt_trans (HR.out k h (by omega) hhl) hr0, HJ.out.2.2⟩)
        have HKJ := hidMk (HJ.out.1.trans HKF.out)
        clear HJ
        go_wp2_with fail
        go_roundg (j - (h + 1))
        case measure => have := HG.out; omega
        case rel => exact ⟨h + 1, j, by omega, rfl, by omega, by first | rfl | go_num, rfl, hidMk ⟨HKJ.out, HJ2.out⟩⟩
      · have HJ2 := hidMk (show (∀ k, k < i → f (pkA l k) < f x) ∧ ∀ k, h ≤ k → k < l.length → f x ≤ f (pkA l k) from ⟨HJ.out.2.1, fun k hk1 hk2 => by
          have hr0 : ¬ f (pkA l h) < f x := fun e => hzn (HC.out.2 (by rw [HY.out]; exact e))
          by_cases e : k = h
          · subst e; omega
          · have h1 := HR.out h k (by omega) hk2
            omega⟩)
        have HKJ := hidMk (HJ.out.1.trans HKF.out)
        clear HJ
        go_wp2_with fail
        go_roundg (h - i)
        case measure => have := HG.out; omega
        case rel => exact ⟨i, h, by omega, rfl, by omega, rfl, rfl, hidMk ⟨HKJ.out, HJ2.out⟩⟩
    · obtain rfl : i = j := by omega
      have hkk : ¬ ((i : Int) < (i : Int)) := by omega
      by_cases hil : i < l.length
      · have hil' : (i : Int) < (l.length : Int) := by omega
        obtain ⟨bb, o, rfl⟩ := HL.out.form (by omega)
        have HCE := hidMk (show ∀ Y, Kept wr Y → _ from fun Y k => (HL.out.kept (HJ.out.1.trans k)).at hil)
        have HXX := hidMk (show ∀ Y, Kept wr Y → _ from fun Y k => HX.out Y (HJ.out.1.trans k))
        have HFF := hidMk (show ∀ Y, Kept wr Y → _ from fun Y k => HF.out Y (HJ.out.1.trans k) (pkA l i) (by rw [pkA_get hil]; exact List.getElem_mem hil))
        generalize cmpI (f (pkA l i)) (f x) = z at *
        obtain ⟨y, hy⟩ : ∃ y, y = pkA l i := ⟨_, rfl⟩
        rw [← hy] at HCE HFF
        clear hy
        go_upto_region 8 with fail
        refine wp_region_held_drew (S := (fun w' => Kept wr w')) (by kernel_rfl) ?_ (fun hHeld => ?_)
        · exact (Kept.refl wr).drew
        refine tkL 0 35 (v := ?_) rfl ?_ ?_
        rotate_left
        · (intro w9 hSw; clear hSw; go_simp; (try with_reducible rfl))
        (try simp only [tkS])
        refine tkL 1 36 (v := ?_) rfl ?_ ?_
        rotate_left
        · (intro w9 hSw; clear hSw; go_simp; (try with_reducible rfl))
        (try simp only [tkS])
        refine tkL 2 37 (v := ?_) rfl ?_ ?_
        rotate_left
        · (intro w9 hSw; clear hSw; go_simp; (try with_reducible rfl))
        (try simp only [tkS])
        refine tkL 3 38 (v := ?_) rfl ?_ ?_
        rotate_left
        · (intro w9 hSw; clear hSw; go_simp; (try with_reducible rfl))
        (try simp only [tkS])
        refine tkL 4 39 (v := ?_) rfl ?_ ?_
        rotate_left
        · (intro w9 hSw; clear hSw; go_simp; (try with_reducible rfl))
        (try simp only [tkS])
        refine tkL 5 40 (v := ?_) rfl ?_ ?_
        rotate_left
        · (intro w9 hSw; clear hSw; go_simp; (try with_reducible rfl))
        (try simp only [tkS])
        refine tkL 6 41 (v := ?_) rfl ?_ ?_
        rotate_left
        · (intro w9 hSw; clear hSw; go_simp; (try with_reducible rfl))
        (try simp only [tkS])
        refine tkL 7 42 (v := ?_) rfl ?_ ?_
        rotate_left
        · (intro w9 hSw; clear hSw; go_simp; (try with_reducible rfl))
        (try simp only [tkS])
        refine tkL 8 43 (v := ?_) rfl ?_ ?_
        rotate_left
        · (intro w9 hSw; clear hSw; go_simp; (try with_reducible rfl))
        (try simp only [tkS])
        refine tkL 9 44 (v := ?_) rfl ?_ ?_
        rotate_left
        · (intro w9 hSw; obtain ⟨b0, b1, b2, b3, b4, b5, b6⟩ := HCE.out w9 hSw; clear hSw; go_simp; (try with_reducible rfl))
        (try simp only [tkS])
        refine tkL 10 45 (v := ?_) rfl ?_ ?_
        rotate_left
        · (intro w9 hSw; obtain ⟨b0, b1, b2, b3, b4, b5, b6⟩ := HXX.out w9 hSw; clear hSw; go_simp; (try with_reducible rfl))
        (try simp only [tkS])
        refine wpAnyH_ready (rs := [11]) (by kernel_rfl) (by simp) ?_
        refine AllReadyH.cons (o := ⟨some 46, _, _, _, _, _⟩) rfl (fun K hK => ?_) AllReadyH.nil
        go_simp
        refine (HFF.out _ hHeld).mono ?_
        rintro e wA ⟨rfl, kA⟩
        have HAA := hidMk (hHeld.trans kA)
        clear kA
        (try go_wp2_with fail)
        refine hK.out _ _ ?_ (fun hHeld => ?_)
        · exact HAA.out
        clear hK K
        (try simp only [tkS])
        refine tkL 12 47 (v := ?_) rfl ?_ ?_
        rotate_left
        · (intro w9 hSw; clear hSw; go_simp; (try with_reducible rfl))
        (try simp only [tkS])
        refine tkL 13 48 (v := ?_) rfl ?_ ?_
        rotate_left
        · (intro w9 hSw; clear hSw; go_simp; (try with_reducible rfl))
        (try simp only [tkS])
        refine tkL 14 6 (v := ?_) rfl ?_ ?_
        rotate_left
        · (intro w9 hSw; clear hSw; go_simp; (try with_reducible rfl))
        (try simp only [tkS])
        refine tkL 15 7 (v := ?_) rfl ?_ ?_
        rotate_left
        · (intro w9 hSw; clear hSw; go_simp; (try with_reducible rfl))
        (try simp only [tkS])
        refine wpAnyH_done (by kernel_rfl) ?_ _
        have HKF := hidMk hHeld
        clear hHeld HFF HXX HCE
        go_wp2_with fail
        go_ret2
        exact ⟨i, _, rfl, hjl, HJ.out.2.1, HJ.out.2.2, HK1.out.trans (HJ.out.1.trans HKF.out)⟩
      · have hil' : ¬ (i : Int) < (l.length : Int) := by omega
        go_upto_region 8 with fail
        refine wp_region_held_drew (S := (fun w' => Kept wr w')) (by kernel_rfl) ?_ (fun hHeld => ?_)
        · exact (Kept.refl wr).drew
        refine tkL 0 35 (v := ?_) rfl ?_ ?_
        rotate_left
        · (intro w9 hSw; clear hSw; go_simp; (try with_reducible rfl))
        (try simp only [tkS])
        refine tkL 1 36 (v := ?_) rfl ?_ ?_
        rotate_left
        · (intro w9 hSw; clear hSw; go_simp; (try with_reducible rfl))
        (try simp only [tkS])
        refine tkL 2 37 (v := ?_) rfl ?_ ?_
        rotate_left
        · (intro w9 hSw; clear hSw; go_simp; (try with_reducible rfl))
        (try simp only [tkS])
        refine tkL 3 38 (v := ?_) rfl ?_ ?_
        rotate_left
        · (intro w9 hSw; clear hSw; go_simp; (try with_reducible rfl))
        (try simp only [tkS])
        refine tkL 4 39 (v := ?_) rfl ?_ ?_
        rotate_left
        · (intro w9 hSw; clear hSw; go_simp; (try with_reducible rfl))
        (try simp only [tkS])
        refine tkN 5 40 rfl ?_
        (try simp only [tkS])
        refine tkN 6 41 rfl ?_
        (try simp only [tkS])
        refine tkN 7 42 rfl ?_
        (try simp only [tkS])
        refine tkN 8 43 rfl ?_
        (try simp only [tkS])
        refine tkN 9 44 rfl ?_
        (try simp only [tkS])
        refine tkN 10 45 rfl ?_
        (try simp only [tkS])
        refine tkN 11 46 rfl ?_
        (try simp only [tkS])
        refine tkN 12 47 rfl ?_
        (try simp only [tkS])
        refine tkL 13 48 (v := ?_) rfl ?_ ?_
        rotate_left
        · (intro w9 hSw; clear hSw; go_simp; (try with_reducible rfl))
        (try simp only [tkS])
        refine tkL 14 6 (v := ?_) rfl ?_ ?_
        rotate_left
        · (intro w9 hSw; clear hSw; go_simp; (try with_reducible rfl))
        (try simp only [tkS])
        refine tkL 15 7 (v := ?_) rfl ?_ ?_
        rotate_left
        · (intro w9 hSw; clear hSw; go_simp; (try with_reducible rfl))
        (try simp only [tkS])
        refine wpAnyH_done (by kernel_rfl) ?_ _
        have HKF := hidMk hHeld
        clear hHeld
        go_wp2_with fail
        go_ret2
        exact ⟨i, _, rfl, hjl, HJ.out.2.1, HJ.out.2.2, HK1.out.trans (HJ.out.1.trans HKF.out)⟩

section
variable {w : World} {s p : Nat} {ds : List Dm} {ms : List ByteArray} {tp : Nat → Nat} {rv : Nat → Option Addr × Nat}
def forP (ms : List ByteArray) (ds : List Dm) (l : List Lk) (u : ByteArray) (y : Int) : Prop := ∃ x, x ∈ l ∧ x.2 ≠ u ∧ y ∈ undC ms ds x.1
set_option maxHeartbeats 8000000 in
set_option maxRecDepth 100000 in
theorem lock_Foreign (h : SW w s p ds ms tp rv) (a : Option Addr) (c : Nat) (l : List Pk) (u : ByteArray) (hq : Pq w a l) (hl : l.length ≤ 40) (hu : ∀ cm at_, (undL ms ds cm at_).length ≤ 1000 ∧ ∀ y, y ∈ undL ms ds cm at_ → isI y ∧ 0 ≤ y) :
    Calls Tryz.prog 38 #[hdV a l.length c, .pointer (some ⟨s, 0, none⟩), .string u] w (SetPost w (forP ms ds (l.map lkOf) u) 40000) := by
  obtain ⟨WA, hWA⟩ : ∃ V, V = (w.alloc (.cells #[.slice a l.length c] 66)).alloc (.cells #[.slice none 0 0] 55) := ⟨_, rfl⟩
  have kA : Kept w WA := by rw [hWA]; exact ((Kept.refl w).alloc _).alloc _
  have hA0 : WA.cell? ⟨w.heap.size, 0, none⟩ = some (.slice a l.length c) := by rw [hWA]; simp
  have hA1 : WA.cell? ⟨w.heap.size + 1, 0, none⟩ = some (.slice none 0 0) := by rw [hWA]; simp
  have hA2 : WA.frozen? ⟨w.heap.size + 1, 0, none⟩ = false := by rw [hWA]; simp
  have hAs : WA.heap.size = w.heap.size + 2 := by rw [hWA]; simp
  have HAS := hidMk hAs
  have HH := hidMk h
  have HQ := hidMk hq
  have HU := hidMk hu
  have HKA := hidMk kA
  clear h hq hu kA hAs
  unfold hdV
  go_enter Tryz.func38, Tryz.ntmps38
  go_wp2_with fail
  rw [← hWA]
  clear hWA
  go_loopg [7, 13] l.length (fun g v x wr => ∃ (k j : Nat) (f : Nat → List Rn) (nv : Nat → Option Addr × Nat) (va : Option Addr) (vc : Nat), k + g = l.length ∧ j ≤ k ∧ x = .int .i64 k ∧ v = .slice va j vc ∧ Hid (OwnE wr WA.heap.size (.slice va j vc) f j nv ∧ Kept WA wr ∧ (∀ i, i < j → Norm (f i) ∧ (f i).length ≤ 1000) ∧ ∀ y, (∃ i, i < j ∧ inRg (f i) y) ↔ ∃ t, t < k ∧ (pkA l t).2.1 ≠ u ∧ y ∈ undC ms ds (pkA l t).1))
  case atStart => exact ⟨0, 0, fun _ => [], fun _ => (none, 0), none, 0, by omega, by omega, rfl, rfl, hidMk ⟨ownE_nil _ _ _ _, Kept.refl _, fun i hi => absurd hi (by omega), fun y => ⟨fun ⟨i, hi, _⟩ => absurd hi (by omega), fun ⟨i, hi, _⟩ => absurd hi (by omega)⟩⟩⟩
  case round =>
    obtain ⟨k, j, f, nv, va, vc, hkg, hjk, rfl, rfl, HJ⟩ := hrel
    have HKG := hidMk hkg
    by_cases hkn : k < l.length
    · have hk1 : (k : Int) < l.length := by omega
      have hk0 : (0 : Int) ≤ (k : Int) := by omega
      obtain ⟨b, o, rfl⟩ := HQ.out.form (by omega)
      have hkW := HKA.out.trans HJ.out.2.1
      obtain ⟨c0, c1, c2, c3, c4, c5, c6⟩ := (HQ.out.kept hkW).at hkn
      have hb : b < wr.heap.size := cell_lt c0
      have HUN := hidMk (show ∀ y, Kept wr y → _ from fun y hy => sw_UnderC (HH.out.keep (hkW.trans hy)) (pkA l k).1)
      obtain ⟨UL, hUL⟩ : ∃ UL, UL = undC ms ds (pkA l k).1 := ⟨_, rfl⟩
      rw [← hUL] at HUN
      have HUB := hidMk (show UL.length ≤ 1000 ∧ ∀ y, y ∈ UL → isI y ∧ 0 ≤ y from by rw [hUL]; exact HU.out _ _)
      have HUL := hidMk hUL
      obtain ⟨z0, z1, z2, z3, z4, z5, z6⟩ := boxPk_at wr (pkA l k) 130 rfl _ (Kept.refl _)
      by_cases hus : (pkA l k).2.1 = u
      · have hn : ((pkA l k).2.1.toList == u.toList) = true := by simp [hus]
        have HNX := hidMk (show ∀ y, (∃ i, i < j ∧ inRg (f i) y) ↔ ∃ t, t < k + 1 ∧ (pkA l t).2.1 ≠ u ∧ y ∈ undC ms ds (pkA l t).1 from fun y => by
          rw [HJ.out.2.2.2 y]
          constructor
          · rintro ⟨t, ht, h⟩; exact ⟨t, by omega, h⟩
          · rintro ⟨t, ht, h1, h2⟩
            by_cases e : t = k
            · subst e; exact absurd hus h1
            · exact ⟨t, by omega, h1, h2⟩)
        clear hus hUL hkW hkg HUN HUL HUB
        generalize pkA l k = X at *
        have HO := hidMk HJ.out
        clear HJ
        go_wp2_with fail
        go_roundg (gk - 1)
        case measure => have := HKG.out; omega
        case rel => exact ⟨k + 1, j, f, nv, va, vc, by have := HKG.out; omega, by omega, by go_num, rfl, hidMk ⟨HO.out.1.kept ((Kept.refl wr).alloc _), HO.out.2.1.alloc _, HO.out.2.2.1, HNX.out⟩⟩
      · have hn := bytes_neD hus
        have HUS := hidMk hus
        obtain ⟨X, hxx⟩ : ∃ X, pkA l k = X := ⟨_, rfl⟩
        rw [hxx] at c0 c1 c2 c3 c4 c5 c6 z0 z1 z2 z3 z4 z5 z6 HUN hn
        unfold clV at HUN
        have HXX := hidMk hxx
        clear hUL hkW hkg hxx hus
        go_wp2_with fail
        refine (HUN.out _ ((Kept.refl wr).alloc _)).mono ?_
        rintro e w2 ⟨v2, rfl, ho2, k2⟩
        obtain ⟨ua, uc, rfl, hsl⟩ := ho2.sl (by have := HUB.out.1; unfold maxLen; omega)
        have HOF := hidMk (region_Of ua UL.length uc UL w2 hsl (fun x hx => (HUB.out.2 x hx).1) HUB.out.1)
        have HK2 := hidMk (((Kept.refl wr).alloc _).trans k2)
        clear ho2 k2 hsl c0 c1 c2 c3 c4 c5 c6 z0 z1 z2 z3 z4 z5 z6 HUN
        go_wp2_with fail
        refine HOF.out.mono ?_
        rintro e w3 ⟨v3, m, rfl, hset, hN, hin, hlen, k3, hfr⟩
        obtain ⟨ma, mc, rfl, hrs, hle, hnl⟩ := hset
        have HK3 := hidMk (HK2.out.trans k3)
        have HST := hidMk (show Rs w3 ma m ∧ m.length ≤ mc ∧ (ma = none → m = [] ∧ mc = 0) from ⟨hrs, hle, hnl⟩)
        have HNM := hidMk hN
        have HIN := hidMk hin
        have HFR := hidMk (show ∀ ad, ma = some ad → 0 < m.length → ad.block < w3.heap.size ∧ (Value.slice va j vc).ownBlock ≠ some ad.block from fun ad e hp => by
          have h1 := hfr ad m.length mc (by rw [e])
          obtain ⟨b', o', e2, h2, _⟩ := hrs.cells hp
          rw [e] at e2
          cases e2
          refine ⟨h2, fun e3 => ?_⟩
          have := (HJ.out.1.lt _ e3).2
          have := HK2.out.size
          simp only at *
          omega)
        have hml := HUB.out.1
        have hlen1 : m.length ≤ 1000 := by omega
        clear hrs hle hnl hN hin hfr k3 HOF
        have hk16 : j ≤ 1000 := by omega
        have hBs : WA.heap.size ≤ w3.heap.size := by have := HJ.out.2.1.size; have := HK3.out.size; omega
        go_wp2_with (at_builtin; refine wpList_pushE _ rfl _ _ rfl WA.heap.size (.slice va j vc) f j nv rfl ((HJ.out.1.kept HK3.out).kept ((Kept.refl w3).alloc _)) (by simp; omega) w3.heap.size ma mc m rfl (by simp) ⟨HST.out.1.kept ((Kept.refl w3).alloc _), HST.out.2⟩ (fun ad e hp => ⟨by have := (HFR.out ad e hp).1; simp; omega, (HFR.out ad e hp).2⟩) hk16 ?_)
        intro g4 cap4 w4 o4 k4
        have HO4 := hidMk o4
        have HK4 := hidMk (show Kept WA w4 from k4.kept ((HJ.out.2.1.trans HK3.out).alloc _) (fun j hj => (HJ.out.1.lt j hj).1))
        clear o4 k4
        go_wp2_with fail
        go_roundg (gk - 1)
        case measure => have := HKG.out; omega
        case rel =>
          refine ⟨k + 1, j + 1, _, _, _, _, by have := HKG.out; omega, by omega, by go_num, rfl, hidMk ⟨by first | exact HO4.out | (rw [HAS.out]; exact HO4.out), HK4.out, fun i hi => ?_, fun y => ?_⟩⟩
          · by_cases hik : i = j
            · subst hik
              simp only [if_true]
              exact ⟨HNM.out, hlen1⟩
            · simp only [if_neg hik]
              exact HJ.out.2.2.1 i (by omega)
          · constructor
            · rintro ⟨i, hi, hy⟩
              by_cases hik : i = j
              · subst hik
                simp only [if_true] at hy
                refine ⟨k, by omega, HUS.out, ?_⟩
                have h9 := ((HIN.out y).1 hy).1
                rw [HUL.out] at h9
                exact h9
              · simp only [if_neg hik] at hy
                obtain ⟨t, ht, h1⟩ := (HJ.out.2.2.2 y).1 ⟨i, by omega, hy⟩
                exact ⟨t, by omega, h1⟩
            · rintro ⟨t, ht, h1, h2⟩
              by_cases e : t = k
              · subst e
                refine ⟨j, by omega, ?_⟩
                simp only [if_true]
                have h9 : y ∈ UL := by rw [HUL.out]; exact h2
                exact (HIN.out y).2 ⟨h9, (HUB.out.2 y h9).2⟩
              · obtain ⟨i, hi, hy⟩ := (HJ.out.2.2.2 y).2 ⟨t, by omega, h1, h2⟩
                refine ⟨i, by omega, ?_⟩
                have hik : ¬ i = j := by omega
                simp only [if_neg hik]
                exact hy
    · have hk1 : ¬ ((k : Int) < l.length) := by omega
      obtain rfl : k = l.length := by omega
      have hcl := catL_len_le (f := f) (j := j) (fun i hi => (HJ.out.2.2.1 i hi).2)
      have hcm : ∀ r, r ∈ catL [] ((List.range j).map f) ↔ ∃ i, i < j ∧ r ∈ f i := fun r => by
        rw [catL_mem]
        simp only [List.mem_map, List.mem_range, List.not_mem_nil, false_or]
        exact ⟨fun ⟨t, ⟨i, hi, e⟩, hr⟩ => ⟨i, hi, by rw [e]; exact hr⟩, fun ⟨i, hi, hr⟩ => ⟨f i, ⟨i, hi, rfl⟩, hr⟩⟩
      have HJN := hidMk (show Calls Tryz.prog 64 #[.agg #[.slice none 0 0], .slice va j vc] wr (SetPost wr (forP ms ds (l.map lkOf) u) 40000) from by
        have hj := region_Join (.agg #[.slice none 0 0]) [] va vc ((List.range j).map f) wr ⟨none, 0, rfl, ⟨fun hp => absurd hp (by simp)⟩, by simp, fun _ => ⟨rfl, rfl⟩⟩ HJ.out.1.sts
          (fun r hr => by obtain ⟨i, hi, h⟩ := (hcm r).1 hr; exact norm_okR (HJ.out.2.2.1 i hi).1 r h) (by omega) (by simp; omega)
        rw [List.length_map, List.length_range] at hj
        refine hj.mono ?_
        rintro e w' ⟨v', m, h1, h2, h3, h4, h5, h6, h7⟩
        refine ⟨v', m, h1, h2, h3, fun y => ?_, by omega, h6, h7⟩
        rw [h4 y]
        have hJ := HJ.out.2.2.2 y
        constructor
        · rintro (h | ⟨t, ht, hy⟩)
          · exact absurd h (inR_nil y)
          · simp only [List.mem_map, List.mem_range] at ht
            obtain ⟨i, hi, rfl⟩ := ht
            obtain ⟨t, ht, h8, h9⟩ := hJ.1 ⟨i, hi, hy⟩
            refine ⟨lkOf (pkA l t), ?_, h8, h9⟩
            rw [pkA_get ht]
            exact List.mem_map_of_mem (List.getElem_mem ht)
        · rintro ⟨x, hx, h8, h9⟩
          obtain ⟨z, hz, rfl⟩ := List.mem_map.1 hx
          obtain ⟨t, ht, rfl⟩ := List.getElem_of_mem hz
          rw [← pkA_get ht] at h8 h9
          obtain ⟨i, hi, hy⟩ := hJ.2 ⟨t, ht, h8, h9⟩
          exact .inr ⟨f i, by simp only [List.mem_map, List.mem_range]; exact ⟨i, hi, rfl⟩, hy⟩)
      have HKW := hidMk HJ.out.2.1
      have hr1 := HKW.out.cellp hA1
      have hr2 := (HKW.out.frozen (p := ⟨w.heap.size + 1, 0, none⟩) (show w.heap.size + 1 < WA.heap.size by have := HAS.out; omega)).trans hA2
      clear hcl hcm
      go_wp2_with fail
      refine HJN.out.mono ?_
      rintro e w5 ⟨v5, m5, rfl, hs5, hN5, hm5, hl5, k5, hf5⟩
      obtain ⟨a5, c5, rfl, hrs, hle, hnl⟩ := hs5
      have r1 := k5.cellp hr1
      have r2 := (k5.frozen (p := ⟨w.heap.size + 1, 0, none⟩) (cell_lt hr1)).trans hr2
      have HK5 := hidMk (show Kept w w5 from (HKA.out.trans HKW.out).trans k5)
      have H5 := hidMk hrs
      have HNN := hidMk hnl
      have HN5 := hidMk hN5
      have HM5 := hidMk hm5
      have HF5 := hidMk (show ∀ ad, a5 = some ad → w.heap.size + 2 ≤ ad.block from fun ad e => by
        have h1 := hf5 ad m5.length c5 (by rw [e])
        have h2 := HKW.out.size
        have h3 := HAS.out
        omega)
      clear hrs hnl hN5 hm5 hf5 k5 hr1 hr2 HJN
      go_wp2_with fail
      have c2 : Chg (· = w.heap.size + 1) w5 (w5.setCell ⟨w.heap.size + 1, 0, none⟩ (.slice a5 m5.length c5)) := chg_set _ _ _ _
      exact set_ret1 rfl (w.heap.size + 1) (.slice a5 m5.length c5) _ rfl rfl r1 ⟨_, m5, rfl, ⟨a5, c5, rfl, H5.out.chg c2 (fun _ ad e f => by have := HF5.out ad e; omega), hle, HNN.out⟩, HN5.out, HM5.out, hl5, HK5.out.setCell (p := ⟨w.heap.size + 1, 0, none⟩) (Nat.le_add_right _ _) _, fun ad n c e => by simp at e; have := HF5.out ad e.1; omega⟩
end
set_option maxHeartbeats 4000000 in
set_option maxRecDepth 100000 in
theorem slices_IfHas (a : Option Addr) (n c : Nat) (l : List Int) (ma : Option Addr) (mn mc : Nat) (m : List Rn) (w : World) (hs : Sl .i64 w a n l) (hm : SetIs w (.agg #[.slice ma mn mc]) m) (hN : Norm m) (hl : m.length ≤ 100000) (hn : n = l.length) (hn1 : n ≤ 100000) (B : Bool) (hB : B = true ↔ ∃ x, x ∈ l ∧ inRg m x) :
    Calls Tryz.prog 116 #[.slice a n c, .func (.func 74) #[.agg #[.slice ma mn mc]] #[]] w fun e w' => ∃ z : Int, e = .returned (.int .i64 z) ∧ (0 ≤ z ↔ B = true) ∧ Kept w w' := by
  have HL := hidMk hs
  have HF := hidMk (show ∀ Y x (b : Bool), Kept w Y → (b = true ↔ inRg m x) → _ from fun Y x b k hb => region_Has (.agg #[.slice ma mn mc]) m x Y (hm.kept k) hN hl b hb)
  have HB := hidMk hB
  subst hn
  clear hs hm hB
  go_enter Tryz.func116, Tryz.ntmps116
  go_wp2_with fail
  go_loopg [8] (l.length + 1) (fun gg i wr => ∃ k : Nat, k + gg = l.length + 1 ∧ k ≤ l.length ∧ i = .int .i64 k ∧ Hid (Kept w wr ∧ ∀ t, t < k → ¬ inRg m (l.getD t 0)))
  case atStart => exact ⟨0, by omega, by omega, rfl, hidMk ⟨Kept.refl _, fun t ht => absurd ht (by omega)⟩⟩
  case round =>
    obtain ⟨k, hkg, hkl, rfl, HS⟩ := hrel
    have HKG := hidMk hkg
    clear hkg
    by_cases hk : k < l.length
    · have hk' : (k : Int) < (l.length : Int) := by omega
      obtain ⟨b, o, rfl, _, hcs⟩ := (HL.out.kept HS.out.1).cells (by omega)
      have hc := hcs k hk
      clear hcs
      have hg : l.getD k 0 = l[k] := by simp [List.getD, hk]
      by_cases hin : inRg m (l.getD k 0)
      · have HFF := hidMk (HF.out wr (l.getD k 0) true HS.out.1 ⟨fun _ => hin, fun _ => rfl⟩)
        have HT := hidMk (show B = true from HB.out.2 ⟨l.getD k 0, by rw [hg]; exact List.getElem_mem hk, hin⟩)
        clear hin hg
        generalize l.getD k 0 = y at *
        go_wp2_with fail
        refine HFF.out.mono ?_
        rintro e w2 ⟨rfl, k2⟩
        have HK2 := hidMk k2
        clear k2
        go_wp2_with fail
        go_ret
        exact ⟨(k : Int), rfl, ⟨fun _ => HT.out, fun _ => by omega⟩, HS.out.1.trans HK2.out⟩
      · have HFF := hidMk (HF.out wr (l.getD k 0) false HS.out.1 ⟨fun e => (by cases e), fun e => absurd e hin⟩)
        have HJ := hidMk (show ∀ t, t < k + 1 → ¬ inRg m (l.getD t 0) from fun t ht => by
          by_cases e : t = k
          · subst e; exact hin
          · exact HS.out.2 t (by omega))
        have HK := hidMk HS.out.1
        clear hin hg HS
        obtain ⟨y, hy⟩ : ∃ y, l.getD k 0 = y := ⟨_, rfl⟩
        rw [hy] at hc HFF
        clear hy
        go_wp2_with fail
        refine HFF.out.mono ?_
        rintro e w2 ⟨rfl, k2⟩
        have HK2 := hidMk k2
        clear k2 hc
        go_wp2_with fail
        go_roundg (gk - 1)
        case measure => have := HKG.out; omega
        case rel => exact ⟨k + 1, by have := HKG.out; omega, by omega, by go_num, hidMk ⟨HK.out.trans HK2.out, HJ.out⟩⟩
    · have hke : k = l.length := by omega
      have HT := hidMk (show ¬ B = true from fun e => by
        obtain ⟨x, hx, hi⟩ := HB.out.1 e
        obtain ⟨t, ht, rfl⟩ := List.getElem_of_mem hx
        have := HS.out.2 t (by omega)
        rw [show l.getD t 0 = l[t] by simp [List.getD, ht]] at this
        exact this hi)
      have hk' : ¬ ((k : Int) < (l.length : Int)) := by omega
      go_wp2_with fail
      go_ret
      exact ⟨-1, rfl, ⟨fun e => absurd e (by omega), fun e => absurd e HT.out⟩, HS.out.1⟩
set_option maxHeartbeats 1000000 in
theorem slices_AnyHas (a : Option Addr) (n c : Nat) (l : List Int) (ma : Option Addr) (mn mc : Nat) (m : List Rn) (w : World) (hs : Sl .i64 w a n l) (hm : SetIs w (.agg #[.slice ma mn mc]) m) (hN : Norm m) (hl : m.length ≤ 100000) (hn : n = l.length) (hn1 : n ≤ 100000) (B : Bool) (hB : B = true ↔ ∃ x, x ∈ l ∧ inRg m x) :
    Calls Tryz.prog 73 #[.slice a n c, .func (.func 74) #[.agg #[.slice ma mn mc]] #[]] w fun e w' => e = .returned (.bool B) ∧ Kept w w' := by
  have HI := hidMk (slices_IfHas a n c l ma mn mc m w hs hm hN hl hn hn1 B hB)
  clear hs hm hN hl hn hn1 hB
  go_enter Tryz.func73, Tryz.ntmps73
  go_wp2_with fail
  refine HI.out.mono ?_
  rintro e w2 ⟨i, rfl, hi, k2⟩
  have HK2 := hidMk k2
  clear k2
  cases B with
  | true =>
    have h0 : 0 ≤ i := hi.2 rfl
    clear hi
    go_wp2_with fail
    go_ret
    exact ⟨by simp [h0], HK2.out⟩
  | false =>
    have h0 : ¬ 0 ≤ i := fun e => by have := hi.1 e; cases this
    clear hi
    have h1 : i < 0 := by omega
    go_wp2_with fail
    go_ret
    exact ⟨by simp [h0], HK2.out⟩
end Go.Proofs.YtmedgkccicbieaaGreat
