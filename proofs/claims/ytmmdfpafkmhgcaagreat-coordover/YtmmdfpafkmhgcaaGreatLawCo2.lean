/- moietylaw07.known. -/
import Derived.Test.YtmmdfpafkmhgcaaGreatCoM1
namespace Go.Proofs.YtmmdfpafkmhgcaaGreat
open Go.RowKit Go.Maps
set_option linter.unusedSimpArgs false
set_option linter.unusedVariables false

def ds7 : List Dm := [(⟨#[120]⟩, k6)]
def ms7 : List ByteArray := [⟨#[109]⟩]
def at7 (j : Nat) : Int := if j = 0 then 2 else 0
theorem k7_small : SmallC7 ds7 ms7.length := ⟨by decide, by decide, fun k hk => by
  have : k = 0 := by have : ds7.length = 1 := rfl; omega
  subst this
  decide⟩
theorem k7_cat : CatIs ds7 ms7 9 1 0 0 := by
  refine .inr ⟨by decide, .inr ⟨fun j hj => ?_, .inr ⟨fun j hj => ?_, by decide +kernel⟩, rfl⟩⟩
  · have : j = 0 := by have : ds7.length = 1 := rfl; omega
    subst this
    exact .inr (.inr ⟨by decide +kernel, by decide +kernel, 0, .inr ⟨by decide, .inl ⟨k6_good, rfl, rfl⟩⟩⟩)
  · have : j = 0 := by have : ms7.length = 1 := rfl; omega
    subst this
    decide +kernel
theorem k7_right : rightB ms7 ds7 0 at7 = true := by decide +kernel
theorem k7_leaf : leavesB ds7 at7 ds7.length := fun j hj => by
  have : j = 0 := by have : ds7.length = 1 := rfl; omega
  subst this
  decide +kernel
theorem k7_code : codeI ms7 ds7 0 at7 = 1 := by
  unfold codeI
  rw [if_pos ⟨k7_right, k7_leaf⟩]
  decide +kernel
theorem k7_index : (if rightB ms7 ds7 0 at7 then numK (fun k => many ds7 k) at7 0 4 else -1) = 2 := by decide +kernel
theorem k7_under : undL ms7 ds7 0 (fun _ => 0) = [0, 1] := by decide +kernel
theorem k7_ok : okC ms7 ds7 1 := by unfold okC; decide +kernel
theorem k7_q : prQ (fun k => leas ds7 k) 1 4 = 0 := by decide +kernel
theorem k7_abv : abvA (dmL ds7 0) (lfF ds7 1 ds7.length 0) = [2, 0] := by decide +kernel
theorem k7_sort : sortI [2, 0] = [0, 2] := rise_ext (sort_rise (by decide)) (by unfold Rise; decide) (fun x => by rw [sortI_mem]; simp; omega)
theorem k7_over : ovL ds7 1 = [[0], [2]] := by
  unfold ovL
  have e : lsK (upL ds7 1) ds7.length = [[0, 2]] := by
    show [upL ds7 1 0] = _
    unfold upL
    rw [k7_abv, k7_sort]
  rw [e]
  rfl
theorem k7_dss {w : World} {q g : Nat} (h1 : w.cell? ⟨g, 0, none⟩ = some (.string ⟨#[120]⟩)) (h2 : w.cell? ⟨g, 1, none⟩ = some (.slice (some ⟨q, 0, none⟩) 3 3)) (hn : Ns w (some ⟨q, 0, none⟩) 3 k6) : Dss w (some ⟨g, 0, none⟩) 1 ds7 (fun _ => (some ⟨q, 0, none⟩, 3, 3)) := by
  refine ⟨rfl, by unfold maxLen; omega, fun k hk => ?_, fun k hk => ?_, fun _ => ⟨_, _, rfl, cell_lt h1, fun k hk => ?_⟩⟩
  · have : k = 0 := by omega
    subst this
    unfold maxLen; decide +kernel
  · have : k = 0 := by omega
    subst this
    exact hn
  · have : k = 0 := by omega
    subst this
    exact ⟨h1, h2⟩
theorem k7_sz : ∀ i, i < ms7.length → (msA ms7 i).size ≤ maxLen := fun i hi => by
  have : i = 0 := by have : ms7.length = 1 := rfl; omega
  subst this
  unfold maxLen
  decide +kernel
/-- What the two cells of the fixed catalogue hold. -/
def f7 (i t : Nat) : Int := if i = 1 ∧ t = 1 then 2 else 0
theorem own_cs {w : World} {B n c : Nat} {a : Option Addr} {xs : List Value} {f : Nat → Nat → Int} (h : w.ownsRow B 28 5 (.slice a n c) n xs) (hb : n ≤ maxLen) (hf : ∀ i, i < n → ∀ t, t < 5 → xs[i * 5 + t]? = some (.int .i64 (f i t))) : Cs w a n f := by
  refine ⟨hb, fun hp => ?_⟩
  obtain ⟨g, cap, e, _, hl⟩ := h.form hp
  cases e
  exact ⟨g, 0, rfl, hl, fun i hi t ht => by rw [Nat.zero_add, h.cellAt (i * 5 + t) (by omega)]; exact hf i hi t ht⟩
theorem k7_cs {w : World} {B c : Nat} {a : Option Addr} (h : OwnC w B (.slice a 2 c) 0 [[0], [2]]) : Cs w a 2 f7 :=
  own_cs h (by unfold maxLen; omega) (fun i hi t ht => by
    have h1 : i = 0 ∨ i = 1 := by omega
    have h2 : t = 0 ∨ t = 1 ∨ t = 2 ∨ t = 3 ∨ t = 4 := by omega
    rcases h1 with rfl | rfl <;> rcases h2 with rfl | rfl | rfl | rfl | rfl <;> rfl)
theorem k7_new (w : World) (t : TypeId) : Cs (w.alloc (.cells #[.int .i64 0, .int .i64 0, .int .i64 0, .int .i64 0, .int .i64 0, .int .i64 0, .int .i64 2, .int .i64 0, .int .i64 0, .int .i64 0] t)) (some ⟨w.heap.size, 0, none⟩) 2 f7 :=
  ⟨by unfold maxLen; omega, fun _ => ⟨w.heap.size, 0, rfl, by simp, fun i hi t ht => by
    have h1 : i = 0 ∨ i = 1 := by omega
    have h2 : t = 0 ∨ t = 1 ∨ t = 2 ∨ t = 3 ∨ t = 4 := by omega
    rcases h1 with rfl | rfl <;> rcases h2 with rfl | rfl | rfl | rfl | rfl <;> exact new_cell _ _ _ _ _ _ rfl rfl⟩⟩
set_option maxHeartbeats 8000000 in
set_option maxRecDepth 100000 in
theorem law7_known (w : World) : Calls Tryz.prog 9 #[] w fun e w' => e = .returned (.bool true) ∧ Kept w w' := by
  have HN := hidMk (fun (W : World) g q b (h1 : W.cell? ⟨g, 0, none⟩ = some (.string ⟨#[120]⟩)) (h2 : W.cell? ⟨g, 1, none⟩ = some (.slice (some ⟨q, 0, none⟩) 3 3)) (hn : Ns W (some ⟨q, 0, none⟩) 3 k6) (h3 : W.cell? ⟨b, 0, none⟩ = some (.string ⟨#[109]⟩)) => law7_open (some ⟨g, 0, none⟩) 1 1 ds7 _ (some ⟨b, 0, none⟩) 1 1 ms7 9 1 W (k7_dss h1 h2 hn) (one_ss h3) k7_sz)
  have HNS := hidMk (k6_ns w)
  go_enter Tryz.func9, Tryz.ntmps9
  go_wp2_with fail
  refine (HN.out _ _ w.heap.size _ ?c1 ?c2 ?c3 ?c4).mono ?_
  case c1 => exact ((Kept.refl _).alloc _).cellp (new_cell _ _ _ _ _ _ (by simp) rfl)
  case c2 => exact ((Kept.refl _).alloc _).cellp (new_cell _ _ _ _ _ _ (by simp) rfl)
  case c3 => exact (HNS.out _).kept (((Kept.refl _).alloc _).alloc _)
  case c4 => exact new_cell _ _ _ _ _ _ (by simp) rfl
  rintro e w1 (⟨W0, s, p, tp, rv, q, rt, rfl, _, _, hsw, _, hk, hw1⟩ | ⟨v1, v2, rfl, hno, _⟩)
  · have k01 : Kept W0 w1 := by rw [hw1]; exact (Kept.refl _).alloc _
    have HK1 := hidMk (show Kept w w1 from ((((Kept.refl w).alloc _).alloc _).alloc _).trans (hk.trans k01))
    have hs1 := hsw.keep k01
    generalize W0.heap.size = rb at *
    clear hw1 hk k01 HN HNS
    obtain ⟨cb, hcb⟩ : ∃ x, x = w1.heap.size := ⟨_, rfl⟩
    obtain ⟨W1, hW1⟩ : ∃ X, X = w1.alloc (.cells #[.int .i64 0, .int .i64 2, .int .i64 0, .int .i64 0, .int .i64 0] 28) := ⟨_, rfl⟩
    have HCC := hidMk (show W1.cell? ⟨cb, 0, none⟩ = some (.int .i64 0) ∧ W1.cell? ⟨cb, 1, none⟩ = some (.int .i64 2) ∧ W1.cell? ⟨cb, 2, none⟩ = some (.int .i64 0) ∧ W1.cell? ⟨cb, 3, none⟩ = some (.int .i64 0) ∧ W1.cell? ⟨cb, 4, none⟩ = some (.int .i64 0) from by
      rw [hW1]; exact ⟨new_cell _ _ _ _ 0 _ hcb rfl, new_cell _ _ _ _ 1 _ hcb rfl, new_cell _ _ _ _ 2 _ hcb rfl, new_cell _ _ _ _ 3 _ hcb rfl, new_cell _ _ _ _ 4 _ hcb rfl⟩)
    have k11 : Kept w1 W1 := by rw [hW1]; exact (Kept.refl _).alloc _
    have HK11 := hidMk (HK1.out.trans k11)
    have HCD := hidMk (show ∀ X, Kept W1 X → Calls Tryz.prog 18 #[.pointer (some ⟨s, 0, none⟩), .agg #[.int .i64 0, .int .i64 2, .int .i64 0, .int .i64 0, .int .i64 0]] X fun e w' => e = .returned (.int .i64 1) ∧ Kept X w' from fun X kX => by
      have := sw_Code (hs1.keep (k11.trans kX)) 0 at7
      rw [k7_code] at this
      exact this)
    have HIX := hidMk (show ∀ X, Kept W1 X → Calls Tryz.prog 20 #[.pointer (some ⟨s, 0, none⟩), .agg #[.int .i64 0, .int .i64 2, .int .i64 0, .int .i64 0, .int .i64 0]] X fun e w' => e = .returned (.int .i64 2) ∧ Kept X w' from fun X kX => by
      have := sw_Index (hs1.keep (k11.trans kX)) 0 at7
      rw [k7_index] at this
      exact this)
    have HUD := hidMk (show ∀ X, Kept W1 X → Calls Tryz.prog 23 #[.pointer (some ⟨s, 0, none⟩), .agg #[.int .i64 0, .int .i64 0, .int .i64 0, .int .i64 0, .int .i64 0]] X fun e w' => (∃ a c, e = .returned (.slice a 2 c) ∧ Sl .i64 w' a 2 [0, 1]) ∧ Kept X w' from fun X kX => by
      refine (sw_Under (hs1.keep (k11.trans kX)) 0 (fun _ => 0)).mono ?_
      rintro e w' ⟨v, rfl, ho, k⟩
      rw [k7_under] at ho
      obtain ⟨a, c, rfl, hs⟩ := ho.sl (by unfold maxLen; decide)
      exact ⟨⟨a, c, rfl, hs⟩, k⟩)
    have HOV := hidMk (show ∀ X, Kept W1 X → Calls Tryz.prog 29 #[.pointer (some ⟨s, 0, none⟩), .int .i64 1] X fun e w' => (∃ a c, e = .returned (.slice a 2 c) ∧ Cs w' a 2 f7) ∧ Kept X w' from fun X kX => by
      refine (sw_Over_yes (hs1.keep (k11.trans kX)) 1 k7_ok).mono ?_
      rintro e w' ⟨⟨v, rfl, ho⟩, k⟩
      rw [k7_over, k7_q] at ho
      obtain ⟨a, c, rfl⟩ := ownsRow_form ho
      exact ⟨⟨a, c, rfl, k7_cs ho⟩, k⟩)
    have HDM := hidMk (fun X (kX : Kept W1 X) => sw_Dims (hs1.keep (k11.trans kX)))
    have HMN := hidMk (show ∀ X, Kept W1 X → Calls Tryz.prog 39 #[.pointer (some ⟨p, 0, none⟩)] X fun e w' => e = .returned (.int .i64 1) ∧ w' = X from fun X kX => sw_Many (hs1.keep (k11.trans kX)))
    clear hsw hs1 k11
    go_wp2_with fail
    rw [← hW1, ← hcb]
    clear hW1 hcb
    refine wp_region_held_drew (S := (fun w' => Kept W1 w')) (by kernel_rfl) ?_ (fun hHeld => ?_)
    · exact (Kept.refl W1).drew
    refine wpAnyH_take (i := 0) (oi := { dst := some 24, op := _, type := _, pos := _, after := _, guard := _ }) (v := ?_) rfl (by kernel_rfl) (by kernel_rfl) (by kernel_rfl) (fun _ _ _ h => h) (Or.inl ⟨by rfl, ?_⟩) (by assumption) ?_
    rotate_left
    · (intro w9 hSw; obtain ⟨c0, c1, c2, c3, c4⟩ := HCC.out; have c0 := hSw.cellp c0; have c1 := hSw.cellp c1; have c2 := hSw.cellp c2; have c3 := hSw.cellp c3; have c4 := hSw.cellp c4; clear hSw; go_simp; (try with_reducible rfl))
    (try simp only [Act.put, List.setIfInBounds_toArray, List.set_cons_zero, List.set_cons_succ])
    refine wpAnyH_take (i := 1) (oi := { dst := some 25, op := _, type := _, pos := _, after := _, guard := _ }) (v := ?_) rfl (by kernel_rfl) (by kernel_rfl) (by kernel_rfl) (fun _ _ _ h => h) (Or.inl ⟨by rfl, ?_⟩) (by assumption) ?_
    rotate_left
    · (intro w9 hSw; obtain ⟨c0, c1, c2, c3, c4⟩ := HCC.out; have c0 := hSw.cellp c0; have c1 := hSw.cellp c1; have c2 := hSw.cellp c2; have c3 := hSw.cellp c3; have c4 := hSw.cellp c4; clear hSw; go_simp; (try with_reducible rfl))
    (try simp only [Act.put, List.setIfInBounds_toArray, List.set_cons_zero, List.set_cons_succ])
    refine wpAnyH_ready (rs := [2]) (by kernel_rfl) (by simp) ?_
    refine (AllReadyH.cons (o := { dst := some 26, op := _, type := _, pos := _, after := _, guard := _ }) rfl (fun K hK => ?_) AllReadyH.nil)
    go_simp
    refine (HCD.out _ hHeld).mono ?_
    rintro e w2 ⟨rfl, k2⟩
    have HK2 := hidMk (hHeld.trans k2)
    clear k2
    (try go_wp2_with fail)
    refine hK.out _ _ ?_ (fun hHeld => ?_)
    · exact HK2.out
    clear hK K
    (try simp only [Act.put, List.setIfInBounds_toArray, List.set_cons_zero, List.set_cons_succ])
    refine wpAnyH_take (i := 3) (oi := { dst := some 27, op := _, type := _, pos := _, after := _, guard := _ }) (v := ?_) rfl (by kernel_rfl) (by kernel_rfl) (by kernel_rfl) (fun _ _ _ h => h) (Or.inl ⟨by rfl, ?_⟩) (by assumption) ?_
    rotate_left
    · (intro w9 hSw; obtain ⟨c0, c1, c2, c3, c4⟩ := HCC.out; have c0 := hSw.cellp c0; have c1 := hSw.cellp c1; have c2 := hSw.cellp c2; have c3 := hSw.cellp c3; have c4 := hSw.cellp c4; clear hSw; go_simp; (try with_reducible rfl))
    (try simp only [Act.put, List.setIfInBounds_toArray, List.set_cons_zero, List.set_cons_succ])
    refine wpAnyH_take (i := 4) (oi := { dst := some 28, op := _, type := _, pos := _, after := _, guard := _ }) (v := ?_) rfl (by kernel_rfl) (by kernel_rfl) (by kernel_rfl) (fun _ _ _ h => h) (Or.inl ⟨by rfl, ?_⟩) (by assumption) ?_
    rotate_left
    · (intro w9 hSw; obtain ⟨c0, c1, c2, c3, c4⟩ := HCC.out; have c0 := hSw.cellp c0; have c1 := hSw.cellp c1; have c2 := hSw.cellp c2; have c3 := hSw.cellp c3; have c4 := hSw.cellp c4; clear hSw; go_simp; (try with_reducible rfl))
    (try simp only [Act.put, List.setIfInBounds_toArray, List.set_cons_zero, List.set_cons_succ])
    refine wpAnyH_take (i := 5) (oi := { dst := some 29, op := _, type := _, pos := _, after := _, guard := _ }) (v := ?_) rfl (by kernel_rfl) (by kernel_rfl) (by kernel_rfl) (fun _ _ _ h => h) (Or.inl ⟨by rfl, ?_⟩) (by assumption) ?_
    rotate_left
    · (intro w9 hSw; obtain ⟨c0, c1, c2, c3, c4⟩ := HCC.out; have c0 := hSw.cellp c0; have c1 := hSw.cellp c1; have c2 := hSw.cellp c2; have c3 := hSw.cellp c3; have c4 := hSw.cellp c4; clear hSw; go_simp; (try with_reducible rfl))
    (try simp only [Act.put, List.setIfInBounds_toArray, List.set_cons_zero, List.set_cons_succ])
    refine wpAnyH_take (i := 6) (oi := { dst := some 30, op := _, type := _, pos := _, after := _, guard := _ }) (v := ?_) rfl (by kernel_rfl) (by kernel_rfl) (by kernel_rfl) (fun _ _ _ h => h) (Or.inl ⟨by rfl, ?_⟩) (by assumption) ?_
    rotate_left
    · (intro w9 hSw; obtain ⟨c0, c1, c2, c3, c4⟩ := HCC.out; have c0 := hSw.cellp c0; have c1 := hSw.cellp c1; have c2 := hSw.cellp c2; have c3 := hSw.cellp c3; have c4 := hSw.cellp c4; clear hSw; go_simp; (try with_reducible rfl))
    (try simp only [Act.put, List.setIfInBounds_toArray, List.set_cons_zero, List.set_cons_succ])
    refine wpAnyH_ready (rs := [7]) (by kernel_rfl) (by simp) ?_
    refine (AllReadyH.cons (o := { dst := some 31, op := _, type := _, pos := _, after := _, guard := _ }) rfl (fun K hK => ?_) AllReadyH.nil)
    go_simp
    refine (HIX.out _ HK2.out).mono ?_
    rintro e w7 ⟨rfl, k7⟩
    have HK7 := hidMk (HK2.out.trans k7)
    clear k7
    (try go_wp2_with fail)
    refine hK.out _ _ ?_ (fun hHeld => ?_)
    · exact HK7.out
    clear hK K
    (try simp only [Act.put, List.setIfInBounds_toArray, List.set_cons_zero, List.set_cons_succ])
    refine wpAnyH_take (i := 8) (oi := { dst := some 32, op := _, type := _, pos := _, after := _, guard := _ }) (v := ?_) rfl (by kernel_rfl) (by kernel_rfl) (by kernel_rfl) (fun _ _ _ h => h) (Or.inl ⟨by rfl, ?_⟩) (by assumption) ?_
    rotate_left
    · (intro w9 hSw; obtain ⟨c0, c1, c2, c3, c4⟩ := HCC.out; have c0 := hSw.cellp c0; have c1 := hSw.cellp c1; have c2 := hSw.cellp c2; have c3 := hSw.cellp c3; have c4 := hSw.cellp c4; clear hSw; go_simp; (try with_reducible rfl))
    (try simp only [Act.put, List.setIfInBounds_toArray, List.set_cons_zero, List.set_cons_succ])
    refine wpAnyH_take (i := 9) (oi := { dst := some 33, op := _, type := _, pos := _, after := _, guard := _ }) (v := ?_) rfl (by kernel_rfl) (by kernel_rfl) (by kernel_rfl) (fun _ _ _ h => h) (Or.inl ⟨by rfl, ?_⟩) (by assumption) ?_
    rotate_left
    · (intro w9 hSw; obtain ⟨c0, c1, c2, c3, c4⟩ := HCC.out; have c0 := hSw.cellp c0; have c1 := hSw.cellp c1; have c2 := hSw.cellp c2; have c3 := hSw.cellp c3; have c4 := hSw.cellp c4; clear hSw; go_simp; (try with_reducible rfl))
    (try simp only [Act.put, List.setIfInBounds_toArray, List.set_cons_zero, List.set_cons_succ])
    refine wpAnyH_take (i := 10) (oi := { dst := some 34, op := _, type := _, pos := _, after := _, guard := _ }) (v := ?_) rfl (by kernel_rfl) (by kernel_rfl) (by kernel_rfl) (fun _ _ _ h => h) (Or.inl ⟨by rfl, ?_⟩) (by assumption) ?_
    rotate_left
    · (intro w9 hSw; obtain ⟨c0, c1, c2, c3, c4⟩ := HCC.out; have c0 := hSw.cellp c0; have c1 := hSw.cellp c1; have c2 := hSw.cellp c2; have c3 := hSw.cellp c3; have c4 := hSw.cellp c4; clear hSw; go_simp; (try with_reducible rfl))
    (try simp only [Act.put, List.setIfInBounds_toArray, List.set_cons_zero, List.set_cons_succ])
    refine wpAnyH_take (i := 11) (oi := { dst := some 35, op := _, type := _, pos := _, after := _, guard := _ }) (v := ?_) rfl (by kernel_rfl) (by kernel_rfl) (by kernel_rfl) (fun _ _ _ h => h) (Or.inl ⟨by rfl, ?_⟩) (by assumption) ?_
    rotate_left
    · (intro w9 hSw; obtain ⟨c0, c1, c2, c3, c4⟩ := HCC.out; have c0 := hSw.cellp c0; have c1 := hSw.cellp c1; have c2 := hSw.cellp c2; have c3 := hSw.cellp c3; have c4 := hSw.cellp c4; clear hSw; go_simp; (try with_reducible rfl))
    (try simp only [Act.put, List.setIfInBounds_toArray, List.set_cons_zero, List.set_cons_succ])
    refine wpAnyH_take (i := 12) (oi := { dst := some 36, op := _, type := _, pos := _, after := _, guard := _ }) (v := ?_) rfl (by kernel_rfl) (by kernel_rfl) (by kernel_rfl) (fun _ _ _ h => h) (Or.inl ⟨by rfl, ?_⟩) (by assumption) ?_
    rotate_left
    · (intro w9 hSw; obtain ⟨c0, c1, c2, c3, c4⟩ := HCC.out; have c0 := hSw.cellp c0; have c1 := hSw.cellp c1; have c2 := hSw.cellp c2; have c3 := hSw.cellp c3; have c4 := hSw.cellp c4; clear hSw; go_simp; (try with_reducible rfl))
    (try simp only [Act.put, List.setIfInBounds_toArray, List.set_cons_zero, List.set_cons_succ])
    refine wpAnyH_ready (rs := [13, 14]) (by kernel_rfl) (by simp) ?_
    refine (AllReadyH.cons (o := { dst := some 37, op := _, type := _, pos := _, after := _, guard := _ }) rfl (fun K hK => ?_) (AllReadyH.cons (o := { dst := some 38, op := _, type := _, pos := _, after := _, guard := _ }) rfl (fun K hK => ?_) AllReadyH.nil))
    · go_simp
      refine (HUD.out _ HK7.out).mono ?_
      rintro e wU ⟨⟨ua, uc, rfl, hsu⟩, kU⟩
      have HSU := hidMk hsu
      have HKU := hidMk (HK7.out.trans kU)
      clear hsu kU
      (try go_wp2_with fail)
      refine hK.out _ _ ?_ (fun hHeld => ?_)
      · exact HKU.out
      clear hK K
      (try simp only [Act.put, List.setIfInBounds_toArray, List.set_cons_zero, List.set_cons_succ])
      refine wpAnyH_ready (rs := [14]) (by kernel_rfl) (by simp) ?_
      refine (AllReadyH.cons (o := { dst := some 38, op := _, type := _, pos := _, after := _, guard := _ }) rfl (fun K hK => ?_) AllReadyH.nil)
      go_simp
      have HSN := hidMk (sl_new .i64 wU [0, 1] 3 (by unfold maxLen; decide))
      have HSV := hidMk (HSU.out.kept ((Kept.refl wU).alloc (.cells #[.int .i64 0, .int .i64 1] 3)))
      refine hK.out _ _ ?_ (fun hHeld => ?_)
      · exact (HKU.out.alloc _)
      clear hK K
      (try simp only [Act.put, List.setIfInBounds_toArray, List.set_cons_zero, List.set_cons_succ])
      refine wpAnyH_ready (rs := [15]) (by kernel_rfl) (by simp) ?_
      refine (AllReadyH.cons (o := { dst := some 39, op := _, type := _, pos := _, after := _, guard := _ }) rfl (fun K hK => ?_) AllReadyH.nil)
      go_simp
      refine (ref_Ints _ _ 2 2 _ _ [0, 1] [0, 1] _ HSV.out HSN.out).mono ?_
      rintro e w15 ⟨rfl, k15⟩
      have HK15 := hidMk ((HKU.out.alloc _).trans k15)
      clear k15
      rw [show decide (([0, 1] : List Int) = [0, 1]) = true from by decide]
      (try go_wp2_with fail)
      refine hK.out _ _ ?_ (fun hHeld => ?_)
      · exact HK15.out
      clear hK K
      (try simp only [Act.put, List.setIfInBounds_toArray, List.set_cons_zero, List.set_cons_succ])
      refine wpAnyH_take (i := 16) (oi := { dst := some 40, op := _, type := _, pos := _, after := _, guard := _ }) (v := ?_) rfl (by kernel_rfl) (by kernel_rfl) (by kernel_rfl) (fun _ _ _ h => h) (Or.inl ⟨by rfl, ?_⟩) (by assumption) ?_
      rotate_left
      · (intro w9 hSw; obtain ⟨c0, c1, c2, c3, c4⟩ := HCC.out; have c0 := hSw.cellp c0; have c1 := hSw.cellp c1; have c2 := hSw.cellp c2; have c3 := hSw.cellp c3; have c4 := hSw.cellp c4; clear hSw; go_simp; (try with_reducible rfl))
      (try simp only [Act.put, List.setIfInBounds_toArray, List.set_cons_zero, List.set_cons_succ])
      refine wpAnyH_take (i := 17) (oi := { dst := some 41, op := _, type := _, pos := _, after := _, guard := _ }) (v := ?_) rfl (by kernel_rfl) (by kernel_rfl) (by kernel_rfl) (fun _ _ _ h => h) (Or.inl ⟨by rfl, ?_⟩) (by assumption) ?_
      rotate_left
      · (intro w9 hSw; obtain ⟨c0, c1, c2, c3, c4⟩ := HCC.out; have c0 := hSw.cellp c0; have c1 := hSw.cellp c1; have c2 := hSw.cellp c2; have c3 := hSw.cellp c3; have c4 := hSw.cellp c4; clear hSw; go_simp; (try with_reducible rfl))
      (try simp only [Act.put, List.setIfInBounds_toArray, List.set_cons_zero, List.set_cons_succ])
      refine wpAnyH_take (i := 18) (oi := { dst := some 42, op := _, type := _, pos := _, after := _, guard := _ }) (v := ?_) rfl (by kernel_rfl) (by kernel_rfl) (by kernel_rfl) (fun _ _ _ h => h) (Or.inl ⟨by rfl, ?_⟩) (by assumption) ?_
      rotate_left
      · (intro w9 hSw; obtain ⟨c0, c1, c2, c3, c4⟩ := HCC.out; have c0 := hSw.cellp c0; have c1 := hSw.cellp c1; have c2 := hSw.cellp c2; have c3 := hSw.cellp c3; have c4 := hSw.cellp c4; clear hSw; go_simp; (try with_reducible rfl))
      (try simp only [Act.put, List.setIfInBounds_toArray, List.set_cons_zero, List.set_cons_succ])
      refine wpAnyH_take (i := 20) (oi := { dst := some 44, op := _, type := _, pos := _, after := _, guard := _ }) (v := ?_) rfl (by kernel_rfl) (by kernel_rfl) (by kernel_rfl) (fun _ _ _ h => h) (Or.inl ⟨by rfl, ?_⟩) (by assumption) ?_
      rotate_left
      · (intro w9 hSw; obtain ⟨c0, c1, c2, c3, c4⟩ := HCC.out; have c0 := hSw.cellp c0; have c1 := hSw.cellp c1; have c2 := hSw.cellp c2; have c3 := hSw.cellp c3; have c4 := hSw.cellp c4; clear hSw; go_simp; (try with_reducible rfl))
      (try simp only [Act.put, List.setIfInBounds_toArray, List.set_cons_zero, List.set_cons_succ])
      refine wpAnyH_take (i := 21) (oi := { dst := some 45, op := _, type := _, pos := _, after := _, guard := _ }) (v := ?_) rfl (by kernel_rfl) (by kernel_rfl) (by kernel_rfl) (fun _ _ _ h => h) (Or.inl ⟨by rfl, ?_⟩) (by assumption) ?_
      rotate_left
      · (intro w9 hSw; obtain ⟨c0, c1, c2, c3, c4⟩ := HCC.out; have c0 := hSw.cellp c0; have c1 := hSw.cellp c1; have c2 := hSw.cellp c2; have c3 := hSw.cellp c3; have c4 := hSw.cellp c4; clear hSw; go_simp; (try with_reducible rfl))
      (try simp only [Act.put, List.setIfInBounds_toArray, List.set_cons_zero, List.set_cons_succ])
      refine wpAnyH_ready (rs := [19, 22]) (by kernel_rfl) (by simp) ?_
      refine (AllReadyH.cons (o := { dst := some 43, op := _, type := _, pos := _, after := _, guard := _ }) rfl (fun K hK => ?_) (AllReadyH.cons (o := { dst := some 46, op := _, type := _, pos := _, after := _, guard := _ }) rfl (fun K hK => ?_) AllReadyH.nil))
      · go_simp
        refine (HOV.out _ HK15.out).mono ?_
        rintro e wO ⟨⟨oa, oc, rfl, hco⟩, kO⟩
        have HCO := hidMk hco
        have HKO := hidMk (HK15.out.trans kO)
        clear hco kO
        (try go_wp2_with fail)
        refine hK.out _ _ ?_ (fun hHeld => ?_)
        · exact HKO.out
        clear hK K
        (try simp only [Act.put, List.setIfInBounds_toArray, List.set_cons_zero, List.set_cons_succ])
        refine wpAnyH_ready (rs := [22]) (by kernel_rfl) (by simp) ?_
        refine (AllReadyH.cons (o := { dst := some 46, op := _, type := _, pos := _, after := _, guard := _ }) rfl (fun K hK => ?_) AllReadyH.nil)
        go_simp
        have HCN := hidMk (k7_new wO 28)
        have HCV := hidMk (HCO.out.kept ((Kept.refl wO).alloc (.cells #[.int .i64 0, .int .i64 0, .int .i64 0, .int .i64 0, .int .i64 0, .int .i64 0, .int .i64 2, .int .i64 0, .int .i64 0, .int .i64 0] 28)))
        refine hK.out _ _ ?_ (fun hHeld => ?_)
        · exact (HKO.out.alloc _)
        clear hK K
        (try simp only [Act.put, List.setIfInBounds_toArray, List.set_cons_zero, List.set_cons_succ])
        refine wpAnyH_ready (rs := [23]) (by kernel_rfl) (by simp) ?_
        refine (AllReadyH.cons (o := { dst := some 47, op := _, type := _, pos := _, after := _, guard := _ }) rfl (fun K hK => ?_) AllReadyH.nil)
        go_simp
        refine (ref7_Same _ _ 2 _ _ f7 _ HCV.out HCN.out).mono ?_
        rintro e w23 ⟨rfl, k23⟩
        have HK23 := hidMk ((HKO.out.alloc _).trans k23)
        clear k23
        (try go_wp2_with fail)
        refine hK.out _ _ ?_ (fun hHeld => ?_)
        · exact HK23.out
        clear hK K
        (try simp only [Act.put, List.setIfInBounds_toArray, List.set_cons_zero, List.set_cons_succ])
        refine wpAnyH_take (i := 24) (oi := { dst := some 48, op := _, type := _, pos := _, after := _, guard := _ }) (v := ?_) rfl (by kernel_rfl) (by kernel_rfl) (by kernel_rfl) (fun _ _ _ h => h) (Or.inl ⟨by rfl, ?_⟩) (by assumption) ?_
        rotate_left
        · (intro w9 hSw; obtain ⟨c0, c1, c2, c3, c4⟩ := HCC.out; have c0 := hSw.cellp c0; have c1 := hSw.cellp c1; have c2 := hSw.cellp c2; have c3 := hSw.cellp c3; have c4 := hSw.cellp c4; clear hSw; go_simp; (try with_reducible rfl))
        (try simp only [Act.put, List.setIfInBounds_toArray, List.set_cons_zero, List.set_cons_succ])
        refine wpAnyH_take (i := 25) (oi := { dst := some 49, op := _, type := _, pos := _, after := _, guard := _ }) (v := ?_) rfl (by kernel_rfl) (by kernel_rfl) (by kernel_rfl) (fun _ _ _ h => h) (Or.inl ⟨by rfl, ?_⟩) (by assumption) ?_
        rotate_left
        · (intro w9 hSw; obtain ⟨c0, c1, c2, c3, c4⟩ := HCC.out; have c0 := hSw.cellp c0; have c1 := hSw.cellp c1; have c2 := hSw.cellp c2; have c3 := hSw.cellp c3; have c4 := hSw.cellp c4; clear hSw; go_simp; (try with_reducible rfl))
        (try simp only [Act.put, List.setIfInBounds_toArray, List.set_cons_zero, List.set_cons_succ])
        refine wpAnyH_take (i := 26) (oi := { dst := some 50, op := _, type := _, pos := _, after := _, guard := _ }) (v := ?_) rfl (by kernel_rfl) (by kernel_rfl) (by kernel_rfl) (fun _ _ _ h => h) (Or.inl ⟨by rfl, ?_⟩) (by assumption) ?_
        rotate_left
        · (intro w9 hSw; obtain ⟨c0, c1, c2, c3, c4⟩ := HCC.out; have c0 := hSw.cellp c0; have c1 := hSw.cellp c1; have c2 := hSw.cellp c2; have c3 := hSw.cellp c3; have c4 := hSw.cellp c4; clear hSw; go_simp; (try with_reducible rfl))
        (try simp only [Act.put, List.setIfInBounds_toArray, List.set_cons_zero, List.set_cons_succ])
        refine wpAnyH_ready (rs := [27]) (by kernel_rfl) (by simp) ?_
        refine (AllReadyH.cons (o := { dst := some 51, op := _, type := _, pos := _, after := _, guard := _ }) rfl (fun K hK => ?_) AllReadyH.nil)
        go_simp
        refine (HDM.out _ HK23.out).mono ?_
        rintro e w27 ⟨rfl, hw27⟩
        rw [hw27]
        clear hw27 w27
        (try go_wp2_with fail)
        refine hK.out _ _ ?_ (fun hHeld => ?_)
        · exact HK23.out
        clear hK K
        (try simp only [Act.put, List.setIfInBounds_toArray, List.set_cons_zero, List.set_cons_succ])
        refine wpAnyH_ready (rs := [28]) (by kernel_rfl) (by simp) ?_
        refine (AllReadyH.cons (o := { dst := some 52, op := _, type := _, pos := _, after := _, guard := _ }) rfl (fun K hK => ?_) AllReadyH.nil)
        go_simp
        refine (HMN.out _ HK23.out).mono ?_
        rintro e w28 ⟨rfl, hw28⟩
        rw [hw28]
        clear hw28 w28
        (try go_wp2_with fail)
        refine hK.out _ _ ?_ (fun hHeld => ?_)
        · exact HK23.out
        clear hK K
        (try simp only [Act.put, List.setIfInBounds_toArray, List.set_cons_zero, List.set_cons_succ])
        refine wpAnyH_take (i := 29) (oi := { dst := some 53, op := _, type := _, pos := _, after := _, guard := _ }) (v := ?_) rfl (by kernel_rfl) (by kernel_rfl) (by kernel_rfl) (fun _ _ _ h => h) (Or.inl ⟨by rfl, ?_⟩) (by assumption) ?_
        rotate_left
        · (intro w9 hSw; obtain ⟨c0, c1, c2, c3, c4⟩ := HCC.out; have c0 := hSw.cellp c0; have c1 := hSw.cellp c1; have c2 := hSw.cellp c2; have c3 := hSw.cellp c3; have c4 := hSw.cellp c4; clear hSw; go_simp; (try with_reducible rfl))
        (try simp only [Act.put, List.setIfInBounds_toArray, List.set_cons_zero, List.set_cons_succ])
        refine wpAnyH_take (i := 30) (oi := { dst := some 54, op := _, type := _, pos := _, after := _, guard := _ }) (v := ?_) rfl (by kernel_rfl) (by kernel_rfl) (by kernel_rfl) (fun _ _ _ h => h) (Or.inl ⟨by rfl, ?_⟩) (by assumption) ?_
        rotate_left
        · (intro w9 hSw; obtain ⟨c0, c1, c2, c3, c4⟩ := HCC.out; have c0 := hSw.cellp c0; have c1 := hSw.cellp c1; have c2 := hSw.cellp c2; have c3 := hSw.cellp c3; have c4 := hSw.cellp c4; clear hSw; go_simp; (try with_reducible rfl))
        (try simp only [Act.put, List.setIfInBounds_toArray, List.set_cons_zero, List.set_cons_succ])
        refine wpAnyH_take (i := 31) (oi := { dst := some 0, op := _, type := _, pos := _, after := _, guard := _ }) (v := ?_) rfl (by kernel_rfl) (by kernel_rfl) (by kernel_rfl) (fun _ _ _ h => h) (Or.inl ⟨by rfl, ?_⟩) (by assumption) ?_
        rotate_left
        · (intro w9 hSw; obtain ⟨c0, c1, c2, c3, c4⟩ := HCC.out; have c0 := hSw.cellp c0; have c1 := hSw.cellp c1; have c2 := hSw.cellp c2; have c3 := hSw.cellp c3; have c4 := hSw.cellp c4; clear hSw; go_simp; (try with_reducible rfl))
        (try simp only [Act.put, List.setIfInBounds_toArray, List.set_cons_zero, List.set_cons_succ])
        refine wpAnyH_done (by kernel_rfl) ?_ _
        clear hHeld
        go_wp2_with fail
        go_ret
        exact ⟨rfl, HK11.out.trans HK23.out⟩
      · go_simp
        refine hK.out _ _ ?_ (fun hHeld => ?_)
        · exact (HK15.out.alloc _)
        clear hK K
        (try simp only [Act.put, List.setIfInBounds_toArray, List.set_cons_zero, List.set_cons_succ])
        refine wpAnyH_ready (rs := [19]) (by kernel_rfl) (by simp) ?_
        refine (AllReadyH.cons (o := { dst := some 43, op := _, type := _, pos := _, after := _, guard := _ }) rfl (fun K hK => ?_) AllReadyH.nil)
        go_simp
        refine (HOV.out _ (HK15.out.alloc _)).mono ?_
        rintro e wO ⟨⟨oa, oc, rfl, hco⟩, kO⟩
        have HCO := hidMk hco
        have HCN := hidMk ((k7_new w15 28).kept kO)
        have HKO := hidMk ((HK15.out.alloc _).trans kO)
        clear hco kO
        (try go_wp2_with fail)
        refine hK.out _ _ ?_ (fun hHeld => ?_)
        · exact HKO.out
        clear hK K
        (try simp only [Act.put, List.setIfInBounds_toArray, List.set_cons_zero, List.set_cons_succ])
        refine wpAnyH_ready (rs := [23]) (by kernel_rfl) (by simp) ?_
        refine (AllReadyH.cons (o := { dst := some 47, op := _, type := _, pos := _, after := _, guard := _ }) rfl (fun K hK => ?_) AllReadyH.nil)
        go_simp
        refine (ref7_Same _ _ 2 _ _ f7 _ HCO.out HCN.out).mono ?_
        rintro e w23 ⟨rfl, k23⟩
        have HK23 := hidMk (HKO.out.trans k23)
        clear k23
        (try go_wp2_with fail)
        refine hK.out _ _ ?_ (fun hHeld => ?_)
        · exact HK23.out
        clear hK K
        (try simp only [Act.put, List.setIfInBounds_toArray, List.set_cons_zero, List.set_cons_succ])
        refine wpAnyH_take (i := 24) (oi := { dst := some 48, op := _, type := _, pos := _, after := _, guard := _ }) (v := ?_) rfl (by kernel_rfl) (by kernel_rfl) (by kernel_rfl) (fun _ _ _ h => h) (Or.inl ⟨by rfl, ?_⟩) (by assumption) ?_
        rotate_left
        · (intro w9 hSw; obtain ⟨c0, c1, c2, c3, c4⟩ := HCC.out; have c0 := hSw.cellp c0; have c1 := hSw.cellp c1; have c2 := hSw.cellp c2; have c3 := hSw.cellp c3; have c4 := hSw.cellp c4; clear hSw; go_simp; (try with_reducible rfl))
        (try simp only [Act.put, List.setIfInBounds_toArray, List.set_cons_zero, List.set_cons_succ])
        refine wpAnyH_take (i := 25) (oi := { dst := some 49, op := _, type := _, pos := _, after := _, guard := _ }) (v := ?_) rfl (by kernel_rfl) (by kernel_rfl) (by kernel_rfl) (fun _ _ _ h => h) (Or.inl ⟨by rfl, ?_⟩) (by assumption) ?_
        rotate_left
        · (intro w9 hSw; obtain ⟨c0, c1, c2, c3, c4⟩ := HCC.out; have c0 := hSw.cellp c0; have c1 := hSw.cellp c1; have c2 := hSw.cellp c2; have c3 := hSw.cellp c3; have c4 := hSw.cellp c4; clear hSw; go_simp; (try with_reducible rfl))
        (try simp only [Act.put, List.setIfInBounds_toArray, List.set_cons_zero, List.set_cons_succ])
        refine wpAnyH_take (i := 26) (oi := { dst := some 50, op := _, type := _, pos := _, after := _, guard := _ }) (v := ?_) rfl (by kernel_rfl) (by kernel_rfl) (by kernel_rfl) (fun _ _ _ h => h) (Or.inl ⟨by rfl, ?_⟩) (by assumption) ?_
        rotate_left
        · (intro w9 hSw; obtain ⟨c0, c1, c2, c3, c4⟩ := HCC.out; have c0 := hSw.cellp c0; have c1 := hSw.cellp c1; have c2 := hSw.cellp c2; have c3 := hSw.cellp c3; have c4 := hSw.cellp c4; clear hSw; go_simp; (try with_reducible rfl))
        (try simp only [Act.put, List.setIfInBounds_toArray, List.set_cons_zero, List.set_cons_succ])
        refine wpAnyH_ready (rs := [27]) (by kernel_rfl) (by simp) ?_
        refine (AllReadyH.cons (o := { dst := some 51, op := _, type := _, pos := _, after := _, guard := _ }) rfl (fun K hK => ?_) AllReadyH.nil)
        go_simp
        refine (HDM.out _ HK23.out).mono ?_
        rintro e w27 ⟨rfl, hw27⟩
        rw [hw27]
        clear hw27 w27
        (try go_wp2_with fail)
        refine hK.out _ _ ?_ (fun hHeld => ?_)
        · exact HK23.out
        clear hK K
        (try simp only [Act.put, List.setIfInBounds_toArray, List.set_cons_zero, List.set_cons_succ])
        refine wpAnyH_ready (rs := [28]) (by kernel_rfl) (by simp) ?_
        refine (AllReadyH.cons (o := { dst := some 52, op := _, type := _, pos := _, after := _, guard := _ }) rfl (fun K hK => ?_) AllReadyH.nil)
        go_simp
        refine (HMN.out _ HK23.out).mono ?_
        rintro e w28 ⟨rfl, hw28⟩
        rw [hw28]
        clear hw28 w28
        (try go_wp2_with fail)
        refine hK.out _ _ ?_ (fun hHeld => ?_)
        · exact HK23.out
        clear hK K
        (try simp only [Act.put, List.setIfInBounds_toArray, List.set_cons_zero, List.set_cons_succ])
        refine wpAnyH_take (i := 29) (oi := { dst := some 53, op := _, type := _, pos := _, after := _, guard := _ }) (v := ?_) rfl (by kernel_rfl) (by kernel_rfl) (by kernel_rfl) (fun _ _ _ h => h) (Or.inl ⟨by rfl, ?_⟩) (by assumption) ?_
        rotate_left
        · (intro w9 hSw; obtain ⟨c0, c1, c2, c3, c4⟩ := HCC.out; have c0 := hSw.cellp c0; have c1 := hSw.cellp c1; have c2 := hSw.cellp c2; have c3 := hSw.cellp c3; have c4 := hSw.cellp c4; clear hSw; go_simp; (try with_reducible rfl))
        (try simp only [Act.put, List.setIfInBounds_toArray, List.set_cons_zero, List.set_cons_succ])
        refine wpAnyH_take (i := 30) (oi := { dst := some 54, op := _, type := _, pos := _, after := _, guard := _ }) (v := ?_) rfl (by kernel_rfl) (by kernel_rfl) (by kernel_rfl) (fun _ _ _ h => h) (Or.inl ⟨by rfl, ?_⟩) (by assumption) ?_
        rotate_left
        · (intro w9 hSw; obtain ⟨c0, c1, c2, c3, c4⟩ := HCC.out; have c0 := hSw.cellp c0; have c1 := hSw.cellp c1; have c2 := hSw.cellp c2; have c3 := hSw.cellp c3; have c4 := hSw.cellp c4; clear hSw; go_simp; (try with_reducible rfl))
        (try simp only [Act.put, List.setIfInBounds_toArray, List.set_cons_zero, List.set_cons_succ])
        refine wpAnyH_take (i := 31) (oi := { dst := some 0, op := _, type := _, pos := _, after := _, guard := _ }) (v := ?_) rfl (by kernel_rfl) (by kernel_rfl) (by kernel_rfl) (fun _ _ _ h => h) (Or.inl ⟨by rfl, ?_⟩) (by assumption) ?_
        rotate_left
        · (intro w9 hSw; obtain ⟨c0, c1, c2, c3, c4⟩ := HCC.out; have c0 := hSw.cellp c0; have c1 := hSw.cellp c1; have c2 := hSw.cellp c2; have c3 := hSw.cellp c3; have c4 := hSw.cellp c4; clear hSw; go_simp; (try with_reducible rfl))
        (try simp only [Act.put, List.setIfInBounds_toArray, List.set_cons_zero, List.set_cons_succ])
        refine wpAnyH_done (by kernel_rfl) ?_ _
        clear hHeld
        go_wp2_with fail
        go_ret
        exact ⟨rfl, HK11.out.trans HK23.out⟩
    · go_simp
      refine hK.out _ _ ?_ (fun hHeld => ?_)
      · exact (HK7.out.alloc _)
      clear hK K
      (try simp only [Act.put, List.setIfInBounds_toArray, List.set_cons_zero, List.set_cons_succ])
      refine wpAnyH_ready (rs := [13]) (by kernel_rfl) (by simp) ?_
      refine (AllReadyH.cons (o := { dst := some 37, op := _, type := _, pos := _, after := _, guard := _ }) rfl (fun K hK => ?_) AllReadyH.nil)
      go_simp
      refine (HUD.out _ (HK7.out.alloc _)).mono ?_
      rintro e wU ⟨⟨ua, uc, rfl, hsu⟩, kU⟩
      have HSU := hidMk hsu
      have HSN := hidMk ((sl_new .i64 w7 [0, 1] 3 (by unfold maxLen; decide)).kept kU)
      have HKU := hidMk ((HK7.out.alloc _).trans kU)
      clear hsu kU
      (try go_wp2_with fail)
      refine hK.out _ _ ?_ (fun hHeld => ?_)
      · exact HKU.out
      clear hK K
      (try simp only [Act.put, List.setIfInBounds_toArray, List.set_cons_zero, List.set_cons_succ])
      refine wpAnyH_ready (rs := [15]) (by kernel_rfl) (by simp) ?_
      refine (AllReadyH.cons (o := { dst := some 39, op := _, type := _, pos := _, after := _, guard := _ }) rfl (fun K hK => ?_) AllReadyH.nil)
      go_simp
      refine (ref_Ints _ _ 2 2 _ _ [0, 1] [0, 1] _ HSU.out HSN.out).mono ?_
      rintro e w15 ⟨rfl, k15⟩
      have HK15 := hidMk (HKU.out.trans k15)
      clear k15
      rw [show decide (([0, 1] : List Int) = [0, 1]) = true from by decide]
      (try go_wp2_with fail)
      refine hK.out _ _ ?_ (fun hHeld => ?_)
      · exact HK15.out
      clear hK K
      (try simp only [Act.put, List.setIfInBounds_toArray, List.set_cons_zero, List.set_cons_succ])
      refine wpAnyH_take (i := 16) (oi := { dst := some 40, op := _, type := _, pos := _, after := _, guard := _ }) (v := ?_) rfl (by kernel_rfl) (by kernel_rfl) (by kernel_rfl) (fun _ _ _ h => h) (Or.inl ⟨by rfl, ?_⟩) (by assumption) ?_
      rotate_left
      · (intro w9 hSw; obtain ⟨c0, c1, c2, c3, c4⟩ := HCC.out; have c0 := hSw.cellp c0; have c1 := hSw.cellp c1; have c2 := hSw.cellp c2; have c3 := hSw.cellp c3; have c4 := hSw.cellp c4; clear hSw; go_simp; (try with_reducible rfl))
      (try simp only [Act.put, List.setIfInBounds_toArray, List.set_cons_zero, List.set_cons_succ])
      refine wpAnyH_take (i := 17) (oi := { dst := some 41, op := _, type := _, pos := _, after := _, guard := _ }) (v := ?_) rfl (by kernel_rfl) (by kernel_rfl) (by kernel_rfl) (fun _ _ _ h => h) (Or.inl ⟨by rfl, ?_⟩) (by assumption) ?_
      rotate_left
      · (intro w9 hSw; obtain ⟨c0, c1, c2, c3, c4⟩ := HCC.out; have c0 := hSw.cellp c0; have c1 := hSw.cellp c1; have c2 := hSw.cellp c2; have c3 := hSw.cellp c3; have c4 := hSw.cellp c4; clear hSw; go_simp; (try with_reducible rfl))
      (try simp only [Act.put, List.setIfInBounds_toArray, List.set_cons_zero, List.set_cons_succ])
      refine wpAnyH_take (i := 18) (oi := { dst := some 42, op := _, type := _, pos := _, after := _, guard := _ }) (v := ?_) rfl (by kernel_rfl) (by kernel_rfl) (by kernel_rfl) (fun _ _ _ h => h) (Or.inl ⟨by rfl, ?_⟩) (by assumption) ?_
      rotate_left
      · (intro w9 hSw; obtain ⟨c0, c1, c2, c3, c4⟩ := HCC.out; have c0 := hSw.cellp c0; have c1 := hSw.cellp c1; have c2 := hSw.cellp c2; have c3 := hSw.cellp c3; have c4 := hSw.cellp c4; clear hSw; go_simp; (try with_reducible rfl))
      (try simp only [Act.put, List.setIfInBounds_toArray, List.set_cons_zero, List.set_cons_succ])
      refine wpAnyH_take (i := 20) (oi := { dst := some 44, op := _, type := _, pos := _, after := _, guard := _ }) (v := ?_) rfl (by kernel_rfl) (by kernel_rfl) (by kernel_rfl) (fun _ _ _ h => h) (Or.inl ⟨by rfl, ?_⟩) (by assumption) ?_
      rotate_left
      · (intro w9 hSw; obtain ⟨c0, c1, c2, c3, c4⟩ := HCC.out; have c0 := hSw.cellp c0; have c1 := hSw.cellp c1; have c2 := hSw.cellp c2; have c3 := hSw.cellp c3; have c4 := hSw.cellp c4; clear hSw; go_simp; (try with_reducible rfl))
      (try simp only [Act.put, List.setIfInBounds_toArray, List.set_cons_zero, List.set_cons_succ])
      refine wpAnyH_take (i := 21) (oi := { dst := some 45, op := _, type := _, pos := _, after := _, guard := _ }) (v := ?_) rfl (by kernel_rfl) (by kernel_rfl) (by kernel_rfl) (fun _ _ _ h => h) (Or.inl ⟨by rfl, ?_⟩) (by assumption) ?_
      rotate_left
      · (intro w9 hSw; obtain ⟨c0, c1, c2, c3, c4⟩ := HCC.out; have c0 := hSw.cellp c0; have c1 := hSw.cellp c1; have c2 := hSw.cellp c2; have c3 := hSw.cellp c3; have c4 := hSw.cellp c4; clear hSw; go_simp; (try with_reducible rfl))
      (try simp only [Act.put, List.setIfInBounds_toArray, List.set_cons_zero, List.set_cons_succ])
      refine wpAnyH_ready (rs := [19, 22]) (by kernel_rfl) (by simp) ?_
      refine (AllReadyH.cons (o := { dst := some 43, op := _, type := _, pos := _, after := _, guard := _ }) rfl (fun K hK => ?_) (AllReadyH.cons (o := { dst := some 46, op := _, type := _, pos := _, after := _, guard := _ }) rfl (fun K hK => ?_) AllReadyH.nil))
      · go_simp
        refine (HOV.out _ HK15.out).mono ?_
        rintro e wO ⟨⟨oa, oc, rfl, hco⟩, kO⟩
        have HCO := hidMk hco
        have HKO := hidMk (HK15.out.trans kO)
        clear hco kO
        (try go_wp2_with fail)
        refine hK.out _ _ ?_ (fun hHeld => ?_)
        · exact HKO.out
        clear hK K
        (try simp only [Act.put, List.setIfInBounds_toArray, List.set_cons_zero, List.set_cons_succ])
        refine wpAnyH_ready (rs := [22]) (by kernel_rfl) (by simp) ?_
        refine (AllReadyH.cons (o := { dst := some 46, op := _, type := _, pos := _, after := _, guard := _ }) rfl (fun K hK => ?_) AllReadyH.nil)
        go_simp
        have HCN := hidMk (k7_new wO 28)
        have HCV := hidMk (HCO.out.kept ((Kept.refl wO).alloc (.cells #[.int .i64 0, .int .i64 0, .int .i64 0, .int .i64 0, .int .i64 0, .int .i64 0, .int .i64 2, .int .i64 0, .int .i64 0, .int .i64 0] 28)))
        refine hK.out _ _ ?_ (fun hHeld => ?_)
        · exact (HKO.out.alloc _)
        clear hK K
        (try simp only [Act.put, List.setIfInBounds_toArray, List.set_cons_zero, List.set_cons_succ])
        refine wpAnyH_ready (rs := [23]) (by kernel_rfl) (by simp) ?_
        refine (AllReadyH.cons (o := { dst := some 47, op := _, type := _, pos := _, after := _, guard := _ }) rfl (fun K hK => ?_) AllReadyH.nil)
        go_simp
        refine (ref7_Same _ _ 2 _ _ f7 _ HCV.out HCN.out).mono ?_
        rintro e w23 ⟨rfl, k23⟩
        have HK23 := hidMk ((HKO.out.alloc _).trans k23)
        clear k23
        (try go_wp2_with fail)
        refine hK.out _ _ ?_ (fun hHeld => ?_)
        · exact HK23.out
        clear hK K
        (try simp only [Act.put, List.setIfInBounds_toArray, List.set_cons_zero, List.set_cons_succ])
        refine wpAnyH_take (i := 24) (oi := { dst := some 48, op := _, type := _, pos := _, after := _, guard := _ }) (v := ?_) rfl (by kernel_rfl) (by kernel_rfl) (by kernel_rfl) (fun _ _ _ h => h) (Or.inl ⟨by rfl, ?_⟩) (by assumption) ?_
        rotate_left
        · (intro w9 hSw; obtain ⟨c0, c1, c2, c3, c4⟩ := HCC.out; have c0 := hSw.cellp c0; have c1 := hSw.cellp c1; have c2 := hSw.cellp c2; have c3 := hSw.cellp c3; have c4 := hSw.cellp c4; clear hSw; go_simp; (try with_reducible rfl))
        (try simp only [Act.put, List.setIfInBounds_toArray, List.set_cons_zero, List.set_cons_succ])
        refine wpAnyH_take (i := 25) (oi := { dst := some 49, op := _, type := _, pos := _, after := _, guard := _ }) (v := ?_) rfl (by kernel_rfl) (by kernel_rfl) (by kernel_rfl) (fun _ _ _ h => h) (Or.inl ⟨by rfl, ?_⟩) (by assumption) ?_
        rotate_left
        · (intro w9 hSw; obtain ⟨c0, c1, c2, c3, c4⟩ := HCC.out; have c0 := hSw.cellp c0; have c1 := hSw.cellp c1; have c2 := hSw.cellp c2; have c3 := hSw.cellp c3; have c4 := hSw.cellp c4; clear hSw; go_simp; (try with_reducible rfl))
        (try simp only [Act.put, List.setIfInBounds_toArray, List.set_cons_zero, List.set_cons_succ])
        refine wpAnyH_take (i := 26) (oi := { dst := some 50, op := _, type := _, pos := _, after := _, guard := _ }) (v := ?_) rfl (by kernel_rfl) (by kernel_rfl) (by kernel_rfl) (fun _ _ _ h => h) (Or.inl ⟨by rfl, ?_⟩) (by assumption) ?_
        rotate_left
        · (intro w9 hSw; obtain ⟨c0, c1, c2, c3, c4⟩ := HCC.out; have c0 := hSw.cellp c0; have c1 := hSw.cellp c1; have c2 := hSw.cellp c2; have c3 := hSw.cellp c3; have c4 := hSw.cellp c4; clear hSw; go_simp; (try with_reducible rfl))
        (try simp only [Act.put, List.setIfInBounds_toArray, List.set_cons_zero, List.set_cons_succ])
        refine wpAnyH_ready (rs := [27]) (by kernel_rfl) (by simp) ?_
        refine (AllReadyH.cons (o := { dst := some 51, op := _, type := _, pos := _, after := _, guard := _ }) rfl (fun K hK => ?_) AllReadyH.nil)
        go_simp
        refine (HDM.out _ HK23.out).mono ?_
        rintro e w27 ⟨rfl, hw27⟩
        rw [hw27]
        clear hw27 w27
        (try go_wp2_with fail)
        refine hK.out _ _ ?_ (fun hHeld => ?_)
        · exact HK23.out
        clear hK K
        (try simp only [Act.put, List.setIfInBounds_toArray, List.set_cons_zero, List.set_cons_succ])
        refine wpAnyH_ready (rs := [28]) (by kernel_rfl) (by simp) ?_
        refine (AllReadyH.cons (o := { dst := some 52, op := _, type := _, pos := _, after := _, guard := _ }) rfl (fun K hK => ?_) AllReadyH.nil)
        go_simp
        refine (HMN.out _ HK23.out).mono ?_
        rintro e w28 ⟨rfl, hw28⟩
        rw [hw28]
        clear hw28 w28
        (try go_wp2_with fail)
        refine hK.out _ _ ?_ (fun hHeld => ?_)
        · exact HK23.out
        clear hK K
        (try simp only [Act.put, List.setIfInBounds_toArray, List.set_cons_zero, List.set_cons_succ])
        refine wpAnyH_take (i := 29) (oi := { dst := some 53, op := _, type := _, pos := _, after := _, guard := _ }) (v := ?_) rfl (by kernel_rfl) (by kernel_rfl) (by kernel_rfl) (fun _ _ _ h => h) (Or.inl ⟨by rfl, ?_⟩) (by assumption) ?_
        rotate_left
        · (intro w9 hSw; obtain ⟨c0, c1, c2, c3, c4⟩ := HCC.out; have c0 := hSw.cellp c0; have c1 := hSw.cellp c1; have c2 := hSw.cellp c2; have c3 := hSw.cellp c3; have c4 := hSw.cellp c4; clear hSw; go_simp; (try with_reducible rfl))
        (try simp only [Act.put, List.setIfInBounds_toArray, List.set_cons_zero, List.set_cons_succ])
        refine wpAnyH_take (i := 30) (oi := { dst := some 54, op := _, type := _, pos := _, after := _, guard := _ }) (v := ?_) rfl (by kernel_rfl) (by kernel_rfl) (by kernel_rfl) (fun _ _ _ h => h) (Or.inl ⟨by rfl, ?_⟩) (by assumption) ?_
        rotate_left
        · (intro w9 hSw; obtain ⟨c0, c1, c2, c3, c4⟩ := HCC.out; have c0 := hSw.cellp c0; have c1 := hSw.cellp c1; have c2 := hSw.cellp c2; have c3 := hSw.cellp c3; have c4 := hSw.cellp c4; clear hSw; go_simp; (try with_reducible rfl))
        (try simp only [Act.put, List.setIfInBounds_toArray, List.set_cons_zero, List.set_cons_succ])
        refine wpAnyH_take (i := 31) (oi := { dst := some 0, op := _, type := _, pos := _, after := _, guard := _ }) (v := ?_) rfl (by kernel_rfl) (by kernel_rfl) (by kernel_rfl) (fun _ _ _ h => h) (Or.inl ⟨by rfl, ?_⟩) (by assumption) ?_
        rotate_left
        · (intro w9 hSw; obtain ⟨c0, c1, c2, c3, c4⟩ := HCC.out; have c0 := hSw.cellp c0; have c1 := hSw.cellp c1; have c2 := hSw.cellp c2; have c3 := hSw.cellp c3; have c4 := hSw.cellp c4; clear hSw; go_simp; (try with_reducible rfl))
        (try simp only [Act.put, List.setIfInBounds_toArray, List.set_cons_zero, List.set_cons_succ])
        refine wpAnyH_done (by kernel_rfl) ?_ _
        clear hHeld
        go_wp2_with fail
        go_ret
        exact ⟨rfl, HK11.out.trans HK23.out⟩
      · go_simp
        refine hK.out _ _ ?_ (fun hHeld => ?_)
        · exact (HK15.out.alloc _)
        clear hK K
        (try simp only [Act.put, List.setIfInBounds_toArray, List.set_cons_zero, List.set_cons_succ])
        refine wpAnyH_ready (rs := [19]) (by kernel_rfl) (by simp) ?_
        refine (AllReadyH.cons (o := { dst := some 43, op := _, type := _, pos := _, after := _, guard := _ }) rfl (fun K hK => ?_) AllReadyH.nil)
        go_simp
        refine (HOV.out _ (HK15.out.alloc _)).mono ?_
        rintro e wO ⟨⟨oa, oc, rfl, hco⟩, kO⟩
        have HCO := hidMk hco
        have HCN := hidMk ((k7_new w15 28).kept kO)
        have HKO := hidMk ((HK15.out.alloc _).trans kO)
        clear hco kO
        (try go_wp2_with fail)
        refine hK.out _ _ ?_ (fun hHeld => ?_)
        · exact HKO.out
        clear hK K
        (try simp only [Act.put, List.setIfInBounds_toArray, List.set_cons_zero, List.set_cons_succ])
        refine wpAnyH_ready (rs := [23]) (by kernel_rfl) (by simp) ?_
        refine (AllReadyH.cons (o := { dst := some 47, op := _, type := _, pos := _, after := _, guard := _ }) rfl (fun K hK => ?_) AllReadyH.nil)
        go_simp
        refine (ref7_Same _ _ 2 _ _ f7 _ HCO.out HCN.out).mono ?_
        rintro e w23 ⟨rfl, k23⟩
        have HK23 := hidMk (HKO.out.trans k23)
        clear k23
        (try go_wp2_with fail)
        refine hK.out _ _ ?_ (fun hHeld => ?_)
        · exact HK23.out
        clear hK K
        (try simp only [Act.put, List.setIfInBounds_toArray, List.set_cons_zero, List.set_cons_succ])
        refine wpAnyH_take (i := 24) (oi := { dst := some 48, op := _, type := _, pos := _, after := _, guard := _ }) (v := ?_) rfl (by kernel_rfl) (by kernel_rfl) (by kernel_rfl) (fun _ _ _ h => h) (Or.inl ⟨by rfl, ?_⟩) (by assumption) ?_
        rotate_left
        · (intro w9 hSw; obtain ⟨c0, c1, c2, c3, c4⟩ := HCC.out; have c0 := hSw.cellp c0; have c1 := hSw.cellp c1; have c2 := hSw.cellp c2; have c3 := hSw.cellp c3; have c4 := hSw.cellp c4; clear hSw; go_simp; (try with_reducible rfl))
        (try simp only [Act.put, List.setIfInBounds_toArray, List.set_cons_zero, List.set_cons_succ])
        refine wpAnyH_take (i := 25) (oi := { dst := some 49, op := _, type := _, pos := _, after := _, guard := _ }) (v := ?_) rfl (by kernel_rfl) (by kernel_rfl) (by kernel_rfl) (fun _ _ _ h => h) (Or.inl ⟨by rfl, ?_⟩) (by assumption) ?_
        rotate_left
        · (intro w9 hSw; obtain ⟨c0, c1, c2, c3, c4⟩ := HCC.out; have c0 := hSw.cellp c0; have c1 := hSw.cellp c1; have c2 := hSw.cellp c2; have c3 := hSw.cellp c3; have c4 := hSw.cellp c4; clear hSw; go_simp; (try with_reducible rfl))
        (try simp only [Act.put, List.setIfInBounds_toArray, List.set_cons_zero, List.set_cons_succ])
        refine wpAnyH_take (i := 26) (oi := { dst := some 50, op := _, type := _, pos := _, after := _, guard := _ }) (v := ?_) rfl (by kernel_rfl) (by kernel_rfl) (by kernel_rfl) (fun _ _ _ h => h) (Or.inl ⟨by rfl, ?_⟩) (by assumption) ?_
        rotate_left
        · (intro w9 hSw; obtain ⟨c0, c1, c2, c3, c4⟩ := HCC.out; have c0 := hSw.cellp c0; have c1 := hSw.cellp c1; have c2 := hSw.cellp c2; have c3 := hSw.cellp c3; have c4 := hSw.cellp c4; clear hSw; go_simp; (try with_reducible rfl))
        (try simp only [Act.put, List.setIfInBounds_toArray, List.set_cons_zero, List.set_cons_succ])
        refine wpAnyH_ready (rs := [27]) (by kernel_rfl) (by simp) ?_
        refine (AllReadyH.cons (o := { dst := some 51, op := _, type := _, pos := _, after := _, guard := _ }) rfl (fun K hK => ?_) AllReadyH.nil)
        go_simp
        refine (HDM.out _ HK23.out).mono ?_
        rintro e w27 ⟨rfl, hw27⟩
        rw [hw27]
        clear hw27 w27
        (try go_wp2_with fail)
        refine hK.out _ _ ?_ (fun hHeld => ?_)
        · exact HK23.out
        clear hK K
        (try simp only [Act.put, List.setIfInBounds_toArray, List.set_cons_zero, List.set_cons_succ])
        refine wpAnyH_ready (rs := [28]) (by kernel_rfl) (by simp) ?_
        refine (AllReadyH.cons (o := { dst := some 52, op := _, type := _, pos := _, after := _, guard := _ }) rfl (fun K hK => ?_) AllReadyH.nil)
        go_simp
        refine (HMN.out _ HK23.out).mono ?_
        rintro e w28 ⟨rfl, hw28⟩
        rw [hw28]
        clear hw28 w28
        (try go_wp2_with fail)
        refine hK.out _ _ ?_ (fun hHeld => ?_)
        · exact HK23.out
        clear hK K
        (try simp only [Act.put, List.setIfInBounds_toArray, List.set_cons_zero, List.set_cons_succ])
        refine wpAnyH_take (i := 29) (oi := { dst := some 53, op := _, type := _, pos := _, after := _, guard := _ }) (v := ?_) rfl (by kernel_rfl) (by kernel_rfl) (by kernel_rfl) (fun _ _ _ h => h) (Or.inl ⟨by rfl, ?_⟩) (by assumption) ?_
        rotate_left
        · (intro w9 hSw; obtain ⟨c0, c1, c2, c3, c4⟩ := HCC.out; have c0 := hSw.cellp c0; have c1 := hSw.cellp c1; have c2 := hSw.cellp c2; have c3 := hSw.cellp c3; have c4 := hSw.cellp c4; clear hSw; go_simp; (try with_reducible rfl))
        (try simp only [Act.put, List.setIfInBounds_toArray, List.set_cons_zero, List.set_cons_succ])
        refine wpAnyH_take (i := 30) (oi := { dst := some 54, op := _, type := _, pos := _, after := _, guard := _ }) (v := ?_) rfl (by kernel_rfl) (by kernel_rfl) (by kernel_rfl) (fun _ _ _ h => h) (Or.inl ⟨by rfl, ?_⟩) (by assumption) ?_
        rotate_left
        · (intro w9 hSw; obtain ⟨c0, c1, c2, c3, c4⟩ := HCC.out; have c0 := hSw.cellp c0; have c1 := hSw.cellp c1; have c2 := hSw.cellp c2; have c3 := hSw.cellp c3; have c4 := hSw.cellp c4; clear hSw; go_simp; (try with_reducible rfl))
        (try simp only [Act.put, List.setIfInBounds_toArray, List.set_cons_zero, List.set_cons_succ])
        refine wpAnyH_take (i := 31) (oi := { dst := some 0, op := _, type := _, pos := _, after := _, guard := _ }) (v := ?_) rfl (by kernel_rfl) (by kernel_rfl) (by kernel_rfl) (fun _ _ _ h => h) (Or.inl ⟨by rfl, ?_⟩) (by assumption) ?_
        rotate_left
        · (intro w9 hSw; obtain ⟨c0, c1, c2, c3, c4⟩ := HCC.out; have c0 := hSw.cellp c0; have c1 := hSw.cellp c1; have c2 := hSw.cellp c2; have c3 := hSw.cellp c3; have c4 := hSw.cellp c4; clear hSw; go_simp; (try with_reducible rfl))
        (try simp only [Act.put, List.setIfInBounds_toArray, List.set_cons_zero, List.set_cons_succ])
        refine wpAnyH_done (by kernel_rfl) ?_ _
        clear hHeld
        go_wp2_with fail
        go_ret
        exact ⟨rfl, HK11.out.trans HK23.out⟩
  · exact absurd ⟨k7_small, k7_cat⟩ hno
end Go.Proofs.YtmmdfpafkmhgcaaGreat
