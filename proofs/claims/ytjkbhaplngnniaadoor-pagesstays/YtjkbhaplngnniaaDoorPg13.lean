/- moietyref10.Set, where the entry is another one. -/
import Derived.Test.YtjkbhaplngnniaaDoorPg12
namespace Go.Proofs.YtjkbhaplngnniaaDoor
open Go.RowKit Go.Maps
set_option linter.unusedSimpArgs false
set_option linter.unusedVariables false

theorem own_fx {W W' : World} {B b m cap : Nat} {l : List Int} (h : OwnI W B (.slice (some ⟨b, 0, none⟩) m cap) l) (hb : W'.heap[b]? = W.heap[b]?) : OwnI W' B (.slice (some ⟨b, 0, none⟩) m cap) l := by
  obtain ⟨h0, ⟨h1, _⟩ | ⟨k, cp, cur, hv, hb', hh, r⟩⟩ := h
  · cases h1
  · cases hv
    exact ⟨h0, .inr ⟨b, _, cur, rfl, hb', by rw [hb]; exact hh, r⟩⟩
theorem refEnd_snoc {most : Int} {f : Nat → Int → ANd} : ∀ (k l : Nat) (s u v : PSt), RefEnd most f k l s u → AbvS most u (f (l + k) u.id) v → RefEnd most f (k + 1) l s v := by
  intro k
  induction k with
  | zero =>
    intro l s u v h hv
    have h' : u = s := h
    subst h'
    exact ⟨v, hv, rfl⟩
  | succ k ih =>
    intro l s u v h hv
    obtain ⟨a, ha, hb⟩ := h
    exact ⟨a, ha, ih (l + 1) a u v hb (by rw [show l + 1 + k = l + (k + 1) by omega]; exact hv)⟩
theorem wrap_my {my l : Nat} (h : my ≤ l) (hl : l ≤ 5) : wrap64 ((my : Int) + 1) = (my : Int) + 1 := wrap_fit (by omega) (by omega)
section
variable {w0 W : World} {p q : Nat} {F : Nat → Prop} {most : Int} {n : Nat} {rf : Int → Nat} {nd : Int → ANd} {M : Nat} {n2 : Nat} {rf2 : Int → Nat} {nd2 : Int → ANd} {M2 : Nat}
/-- The way, and the lowest node. -/
structure RS (W : World) (nd2 : Int → ANd) (c root : Int) (L : Nat) (wb cap lb : Nat) (y : ANd) (X : World) : Prop where
  kp : Kept W X
  ow : OwnI X W.heap.size (.slice (some ⟨wb, 0, none⟩) L cap) (wL nd2 c root L L)
  lw : X.rangeAt lb 0 (ndL y)
  l1 : W.heap.size ≤ lb
  l2 : lb < X.heap.size
  l3 : W.heap.size ≤ wb
  l4 : wb < X.heap.size
theorem RS.keep {c root : Int} {L wb cap lb : Nat} {y : ANd} {X Y : World} (h : RS W nd2 c root L wb cap lb y X) (k : Kept X Y) : RS W nd2 c root L wb cap lb y Y :=
  ⟨h.kp.trans k, h.ow.chg (S := fun _ => False) (Chg.of_kept k) (fun _ _ e => e), k.range h.lw, h.l1, Nat.lt_of_lt_of_le h.l2 k.size, h.l3, Nat.lt_of_lt_of_le h.l4 k.size⟩
theorem RS.way {c root : Int} {L wb cap lb : Nat} {y : ANd} {X : World} (h : RS W nd2 c root L wb cap lb y X) (hL : L ≤ 5) {i : Nat} (hi : i < L) : X.cell? ⟨wb, i, none⟩ = some (.int .i64 (wI nd2 c root L i)) := by
  have ho := h.ow
  have hl := wL_len nd2 c root L L
  have : X.cell? ⟨wb, i, none⟩ = some (.int .i64 ((wL nd2 c root L L).getD i 0)) := own_cell (B := W.heap.size) (cap := cap) (by rw [hl]; exact ho) (by omega) (by omega)
  rw [wL_get nd2 c root L hi] at this
  exact this
def RSetP (w0 W : World) (p q : Nat) (F : Nat → Prop) (most : Int) (n : Nat) (rf : Int → Nat) (nd : Int → ANd) (M n2 : Nat) (rf2 : Int → Nat) (nd2 : Int → ANd) (M2 : Nat) (yl : Nat → Int → ANd) (L : Nat) (e : Ending) (w' : World) : Prop :=
  (most - usd rf2 n2 < mny yl L ∧ e = .returned (.tuple #[.int .i64 0, .int .i64 14]) ∧ BA w0 w' p q F most n rf nd M n2 rf2 nd2 M2 ∧ Fx F W w') ∨
  (¬ (most - usd rf2 n2 < mny yl L) ∧ ∃ t, RefEnd most yl L 1 ⟨n2, rf2, nd2, 0, 0⟩ t ∧ e = .returned (.tuple #[.int .i64 t.id, .int .i64 0]) ∧ BA w0 w' p q F most n rf nd M t.n t.rf t.nd (M2 + 9 * L) ∧ Fx F W w')
/-- A node more above, in the definition's arena: it is made, if it has something; then the one below is dropped. -/
theorem br_DropZ (h : BA w0 W p q F most n rf nd M n2 rf2 nd2 M2) (i : Int) (h0 : i ≠ 0) (r : Int → Nat) (hr : DropZ nd2 rf2 i r) : Calls Tryd.prog 34 #[.pointer (some ⟨q, 0, none⟩), .int .i64 i] W fun e w' => (∃ v, e = .returned (.int .i64 v)) ∧ BA w0 w' p q F most n rf nd M n2 r nd2 M2 ∧ Fx F W w' := by
  rcases hr with ⟨e, _⟩ | ⟨_, K, hK⟩
  · exact absurd e h0
  refine (br_Drop h i K r hK).mono ?_
  rintro e w' ⟨rfl, h1, h2⟩
  exact ⟨⟨_, rfl⟩, h1, h2⟩
/-- Between the Make and the Drop of a step. -/
def MidP (w0 W : World) (p q : Nat) (F : Nat → Prop) (most : Int) (n : Nat) (rf : Int → Nat) (nd : Int → ANd) (M : Nat) (s t : PSt) (M2 : Nat) : Prop :=
  ∃ n' rf' nd', BA w0 W p q F most n rf nd M n' rf' nd' M2 ∧ t.n = n' ∧ t.nd = nd' ∧ DropZ nd' rf' s.id t.rf
theorem mid_none {s t : PSt} {y : ANd} (h : BA w0 W p q F most n rf nd M s.n s.rf s.nd M2) (hM : M2 + 9 ≤ 4611686018427387904) (he : emptyN y = true) (ht : AbvS most s y t) : t.id = 0 ∧ MidP w0 W p q F most n rf nd M s t (M2 + 9) := by
  obtain ⟨x', hx', e1, e2, e3, e4, e5⟩ := ht
  unfold abN at e1; unfold abD at e2; unfold abI at e3; unfold abD abF at e5
  rw [he] at e1 e2 e3 e5
  exact ⟨e3, s.n, s.rf, s.nd, h.raiseR (by omega) hM, e1, e2, e5⟩
theorem mid_make {s t : PSt} {y : ANd} (h : BA w0 W p q F most n rf nd M s.n s.rf s.nd M2) (hM : M2 + 9 ≤ 4611686018427387904) (hy : y.kids.length = 8 ∧ y.vals.length = 8) (he : emptyN y = false) (ht : AbvS most s y t) : Calls Tryd.prog 47 #[.pointer (some ⟨q, 0, none⟩), ndV y] W fun e w' => (∃ v, e = .returned (.tuple #[.int .i64 t.id, .int .i64 v])) ∧ MidP w0 w' p q F most n rf nd M s t (M2 + 9) ∧ Fx F W w' := by
  obtain ⟨x, hx, e1, e2, e3, e4, e5⟩ := ht
  unfold abN at e1; unfold abD at e2; unfold abI at e3; unfold abD abF at e5
  rw [he] at e1 e2 e3 e5
  refine (br_Make h hM y hy x hx).mono ?_
  rintro e w' ⟨rfl, h1, h2⟩
  exact ⟨⟨_, by rw [e3]; rfl⟩, ⟨_, _, _, h1, e1, e2, e5⟩, h2⟩
theorem mid_zero {s t : PSt} (h : MidP w0 W p q F most n rf nd M s t M2) (h0 : s.id = 0) : BA w0 W p q F most n rf nd M t.n t.rf t.nd M2 := by
  obtain ⟨n', rf', nd', h1, e1, e2, e3⟩ := h
  rcases e3 with ⟨_, e⟩ | ⟨e, _⟩
  · rw [e1, e2, e]; exact h1
  · exact absurd h0 e
theorem mid_drop {s t : PSt} (h : MidP w0 W p q F most n rf nd M s t M2) (h0 : s.id ≠ 0) : Calls Tryd.prog 34 #[.pointer (some ⟨q, 0, none⟩), .int .i64 s.id] W fun e w' => (∃ v, e = .returned (.int .i64 v)) ∧ BA w0 w' p q F most n rf nd M t.n t.rf t.nd M2 ∧ Fx F W w' := by
  obtain ⟨n', rf', nd', h1, e1, e2, e3⟩ := h
  rw [e1, e2]
  exact br_DropZ h1 s.id h0 t.rf e3
set_option maxHeartbeats 8000000 in
set_option maxRecDepth 100000 in
theorem r10_Set (h : BA w0 W p q F most n rf nd M n2 rf2 nd2 M2) (hM : M2 + 60 ≤ 4611686018427387904) (root c : Int) (L : Nat) (h0 : 0 ≤ c) (hc : c ≤ 1000000) (hl1 : 1 ≤ L) (hl5 : L ≤ 5) (hw : WayOk rf2 nd2 c root L) (ea : Int) (ec : Bool) (he : entN (wN nd2 c root L 1) c ≠ (ea, ec))
    (hch : ¬ (most - usd rf2 n2 < mny (refN nd2 c root L (ea, ec)) L) → ∀ l, l ≤ L → ∀ u, RefEnd most (refN nd2 c root L (ea, ec)) l 1 ⟨n2, rf2, nd2, 0, 0⟩ u → ∀ i, rf2 i ≠ 0 → u.rf i ≠ 0 ∧ u.nd i = nd2 i) :
    Calls Tryd.prog 32 #[.pointer (some ⟨q, 0, none⟩), .int .i64 root, .int .i64 c, .agg #[.int .i64 ea, .bool ec], .int .i64 L] W (RSetP w0 W p q F most n rf nd M n2 rf2 nd2 M2 (refN nd2 c root L (ea, ec)) L) := by
  obtain ⟨eb, heb⟩ : ∃ b, b = W.heap.size := ⟨_, rfl⟩
  obtain ⟨W1, hW1⟩ : ∃ W1, W1 = W.alloc (.cells #[.int .i64 ea, .bool ec] 39) := ⟨_, rfl⟩
  have k1 : Kept W W1 := by rw [hW1]; exact (Kept.refl W).alloc _
  have r1 : W1.rangeAt eb 0 [.int .i64 ea, .bool ec] := by rw [hW1, heb]; exact new_range W [.int .i64 ea, .bool ec] _
  have x0 : W1.cell? ⟨eb, 0, none⟩ = some (.int .i64 ea) := by have := r1 0 _ rfl; simpa using this
  have x1 : W1.cell? ⟨eb, 1, none⟩ = some (.bool ec) := by have := r1 1 _ rfl; simpa using this
  have hfl := h.flt
  obtain ⟨bL, bN, cL, cN, xs, hq⟩ := h.rq
  have HQ := hidMk (fun X (kX : Kept W X) => hq.kept kX)
  have HKO := hidMk hq.kok
  have HOK := hidMk hq.ok
  obtain ⟨pa, hpa⟩ : ∃ v, v = (entN (wN nd2 c root L 1) c).1 := ⟨_, rfl⟩
  obtain ⟨pb, hpb⟩ : ∃ v, v = (entN (wN nd2 c root L 1) c).2 := ⟨_, rfl⟩
  have HG := hidMk (show ∀ X, Kept W1 X → Calls Tryd.prog 23 #[.pointer (some ⟨q, 0, none⟩), .int .i64 root, .int .i64 c, .int .i64 L] X fun e w' => e = .returned (.agg #[.int .i64 pa, .bool pb]) ∧ Kept X w' from fun X kX => by
    have := r10_Get (hq.kept (k1.trans kX)) root c L h0 hc hl1 hl5 hw
    rw [← hpa, ← hpb] at this
    exact this)
  have HB := hidMk (fun X (kX : Kept W X) => And.intro (h.keep kX) (Fx.of_kept (F := F) kX hfl))
  have heqE : ∀ W, (Op.equalIn 10000 39 (.agg #[.int .i64 pa, .bool pb]) (.agg #[.int .i64 ea, .bool ec])).run Tryd.prog W = .ok false W := fun W => by
    rw [en_eq 9998, decide_eq_false (by rw [hpa, hpb]; exact he)]
  have HW := hidMk hw
  have HK1 := hidMk k1
  have HFL := hidMk hfl
  have HX := hidMk (And.intro x0 x1)
  have HDG := hidMk (fun (l : Nat) (g1 : 1 ≤ l) (g2 : l ≤ 5) X => r10_digit c l h0 hc g1 g2 X)
  have HBA := hidMk h
  have hM60 := hM
  have HCH := hidMk hch
  clear hch
  clear h hw he k1 r1 hfl hq hpa hpb
  go_enter Tryd.func32, Tryd.ntmps32
  go_upto_region 1 with fail
  rw [← hW1, ← heb]
  have HE0 := hidMk heb
  have HE1 := hidMk (show W1.heap.size = eb + 1 from by rw [hW1, heb]; simp)
  clear hW1 heb
  go_cut [29] from 23 to 28 (fun s W' => s = .bool false ∧ Hid (Kept W1 W'))
  case first =>
    refine wp_region_held_drew (S := (fun w' => w'.cell? ⟨eb, 0, none⟩ = some (.int .i64 ea) ∧ w'.cell? ⟨eb, 1, none⟩ = some (.bool ec))) (by kernel_rfl) ?_ (fun hHeld => ?_)
    · exact ⟨((Kept.refl W1).drew).cellp x0, ((Kept.refl W1).drew).cellp x1⟩
    refine wpAnyH_take (i := 0) (oi := { dst := some 23, op := _, type := _, pos := _, after := _, guard := _ }) (v := ?_) rfl (by kernel_rfl) (by kernel_rfl) (by kernel_rfl) (fun _ _ _ h => h) (Or.inl ⟨by rfl, ?_⟩) (by assumption) ?_
    rotate_left
    · (intro w hSw; (try obtain ⟨hSw1, hSw2⟩ := hSw); go_simp; (try with_reducible rfl))
    (try simp only [Act.put, List.setIfInBounds_toArray, List.set_cons_zero, List.set_cons_succ])
    refine wpAnyH_take (i := 1) (oi := { dst := some 24, op := _, type := _, pos := _, after := _, guard := _ }) (v := ?_) rfl (by kernel_rfl) (by kernel_rfl) (by kernel_rfl) (fun _ _ _ h => h) (Or.inl ⟨by rfl, ?_⟩) (by assumption) ?_
    rotate_left
    · (intro w hSw; (try obtain ⟨hSw1, hSw2⟩ := hSw); go_simp; (try with_reducible rfl))
    (try simp only [Act.put, List.setIfInBounds_toArray, List.set_cons_zero, List.set_cons_succ])
    refine wpAnyH_take (i := 2) (oi := { dst := some 25, op := _, type := _, pos := _, after := _, guard := _ }) (v := ?_) rfl (by kernel_rfl) (by kernel_rfl) (by kernel_rfl) (fun _ _ _ h => h) (Or.inl ⟨by rfl, ?_⟩) (by assumption) ?_
    rotate_left
    · (intro w hSw; (try obtain ⟨hSw1, hSw2⟩ := hSw); go_simp; (try with_reducible rfl))
    (try simp only [Act.put, List.setIfInBounds_toArray, List.set_cons_zero, List.set_cons_succ])
    refine wpAnyH_take (i := 3) (oi := { dst := some 26, op := _, type := _, pos := _, after := _, guard := _ }) (v := ?_) rfl (by kernel_rfl) (by kernel_rfl) (by kernel_rfl) (fun _ _ _ h => h) (Or.inl ⟨by rfl, ?_⟩) (by assumption) ?_
    rotate_left
    · (intro w hSw; (try obtain ⟨hSw1, hSw2⟩ := hSw); go_simp; (try with_reducible rfl))
    (try simp only [Act.put, List.setIfInBounds_toArray, List.set_cons_zero, List.set_cons_succ])
    refine wpAnyH_take (i := 5) (oi := { dst := some 28, op := _, type := _, pos := _, after := _, guard := _ }) (v := ?_) rfl (by kernel_rfl) (by kernel_rfl) (by kernel_rfl) (fun _ _ _ h => h) (Or.inl ⟨by rfl, ?_⟩) (by assumption) ?_
    rotate_left
    · (intro w hSw; (try obtain ⟨hSw1, hSw2⟩ := hSw); go_simp; (try with_reducible rfl))
    (try simp only [Act.put, List.setIfInBounds_toArray, List.set_cons_zero, List.set_cons_succ])
    refine wpAnyH_ready (rs := [4]) (by kernel_rfl) (by simp) ?_
    refine AllReadyH.cons (o := { dst := some 27, op := _, type := _, pos := _, after := _, guard := _ }) rfl (fun K hK => ?_) AllReadyH.nil
    go_simp
    refine (HG.out _ ((Kept.refl W1).drew)).mono ?_
    rintro e w5 ⟨rfl, k5⟩
    have HKF := hidMk (show Kept W1 w5 from ((Kept.refl W1).drew).trans k5)
    clear k5
    (try go_wp2_with fail)
    refine hK.out _ _ ?_ (fun hHeld => ?_)
    · exact ⟨HKF.out.cellp x0, HKF.out.cellp x1⟩
    clear hK K
    (try simp only [Act.put, List.setIfInBounds_toArray, List.set_cons_zero, List.set_cons_succ])
    refine wpAnyH_take (i := 6) (oi := { dst := some 29, op := _, type := _, pos := _, after := _, guard := _ }) (v := ?_) rfl (by kernel_rfl) (by kernel_rfl) (by kernel_rfl) (fun _ _ _ h => h) (Or.inl ⟨by rfl, ?_⟩) (by assumption) ?_
    rotate_left
    · (intro w hSw; (try obtain ⟨hSw1, hSw2⟩ := hSw); go_simp; (try with_reducible rfl))
    (try simp only [Act.put, List.setIfInBounds_toArray, List.set_cons_zero, List.set_cons_succ])
    refine wpAnyH_done (by kernel_rfl) ?_ _
    go_wp2_with fail
    go_meet
    exact ⟨rfl, HKF⟩
  case rest =>
    obtain ⟨rfl, HKC⟩ := hcut
    clear x0 x1 HG heqE
    obtain ⟨wb, hwb⟩ : ∃ b, b = wc.heap.size := ⟨_, rfl⟩
    have HWS := hidMk (show W1.heap.size ≤ wb ∧ eb < wb from by have := HKC.out.size; have := HE0.out; have := HE1.out; omega)
    obtain ⟨W3, hW3⟩ : ∃ W3, W3 = wc.alloc (.cells #[.int .i64 root] 3) := ⟨_, rfl⟩
    have HW3 := hidMk (show Kept W1 W3 ∧ OwnI W3 W1.heap.size (.slice (some ⟨wb, 0, none⟩) 1 1) (wL nd2 c root L 1) ∧ wb < W3.heap.size from by
      refine ⟨by rw [hW3]; exact HKC.out.alloc _, ?_, by rw [hW3, hwb]; simp⟩
      exact ⟨rfl, .inr ⟨wb, 1, #[.int .i64 root], rfl, HWS.out.1, by rw [hW3, hwb]; exact World.heap_new _ _, by simp [wL], by unfold maxLen; omega, rfl, rfl⟩⟩)
    go_upto_block 0 with fail
    rw [← hW3, ← hwb]
    clear hW3 hwb
    go_cut [12] from 38 to 55 (fun s W' => ∃ wb cap, s = .slice (some ⟨wb, 0, none⟩) L cap ∧ Hid (Kept W1 W' ∧ OwnI W' W1.heap.size (.slice (some ⟨wb, 0, none⟩) L cap) (wL nd2 c root L L) ∧ wb < W'.heap.size ∧ W1.heap.size ≤ wb))
    case first =>
      go_wp2_with fail
      go_loopg [12, 13] (L + 1) (fun gg s t wr => ∃ (k wb cap : Nat), k + 1 = gg ∧ 1 ≤ k ∧ k ≤ L ∧ s = .slice (some ⟨wb, 0, none⟩) (L - k + 1) cap ∧ t = .int .i64 k ∧ Hid (Kept W1 wr ∧ OwnI wr W1.heap.size (.slice (some ⟨wb, 0, none⟩) (L - k + 1) cap) (wL nd2 c root L (L - k + 1)) ∧ wb < wr.heap.size ∧ W1.heap.size ≤ wb))
      case atStart => exact ⟨L, wb, 1, rfl, by omega, by omega, by rw [Nat.sub_self], rfl, hidMk ⟨HW3.out.1, by rw [Nat.sub_self]; exact HW3.out.2.1, HW3.out.2.2, HWS.out.1⟩⟩
      case round =>
        clear HW3 HWS
        obtain ⟨k, vb, cap, hkg, hk1, hkL, rfl, rfl, HR⟩ := hrel
        have HKG := hidMk hkg
        by_cases hk : 1 < k
        · have hk' : (1 : Int) < k := by omega
          obtain ⟨m, hm⟩ : ∃ m, m = L - k := ⟨_, rfl⟩
          rw [← hm] at HR ⊢
          have hwl := wL_len nd2 c root L (m + 1)
          have kc : wr.cell? ⟨vb, m, none⟩ = some (.int .i64 (wI nd2 c root L m)) := by
            have := own_cell (B := W1.heap.size) (cap := cap) (b := vb) (l := wL nd2 c root L (m + 1)) (by rw [hwl]; exact HR.out.2.1) (by omega) (i := m) (by omega)
            rwa [wL_get nd2 c root L (by omega)] at this
          have hq' := HQ.out wr (HK1.out.trans HR.out.1)
          have HNX := hidMk (r10_next hq' (wI nd2 c root L m) (HW.out m (by omega)) c k h0 hc (by omega) (by omega))
          have HNV := hidMk (show (ndZ nd2 (wI nd2 c root L m)).kids.getD (dig c k).toNat 0 = wI nd2 c root L (m + 1) from by
            show _ = (ndZ nd2 (wI nd2 c root L m)).kids.getD (dig c (L - m)).toNat 0
            rw [show L - m = k by omega])
          rw [HNV.out] at HNX
          have HML := hidMk (show (wL nd2 c root L (m + 1)).length = m + 1 ∧ wL nd2 c root L (m + 1 + 1) = wL nd2 c root L (m + 1) ++ [wI nd2 c root L (m + 1)] ∧ m + 1 ≤ L ∧ L - (k - 1) = m + 1 from ⟨hwl, wL_succ _ _ _ _ _, by omega, by omega⟩)
          generalize wI nd2 c root L m = ci at *
          generalize wI nd2 c root L (m + 1) = ni at *
          have hmw : wrap64 ((m : Int) + 1 - 1) = (m : Int) := by rw [show (m : Int) + 1 - 1 = (m : Int) by omega]; exact wrap_fit (by omega) (by omega)
          have hmi : IntKind.i64.wrap ((m : Int)) = (m : Int) := by rw [IntKind.wrap_i64]; omega
          clear hkg hq' hwl hm
          go_wp2_with fail
          refine HNX.out.mono ?_
          rintro e w5 ⟨rfl, k5⟩
          have HK5 := hidMk k5
          have HO5 := hidMk (show OwnI (w5.alloc (.cells #[.int .i64 ni] 3)) W1.heap.size (.slice (some ⟨vb, 0, none⟩) (m + 1) cap) (wL nd2 c root L (m + 1)) from HR.out.2.1.chg (S := fun _ => False) (Chg.of_kept (k5.alloc _)) (fun _ _ e => e))
          have HS5 := hidMk (show W1.heap.size ≤ w5.heap.size + 1 from by have := HR.out.1.size; have := k5.size; omega)
          clear k5 HNX kc
          go_wp2_with (at_builtin; refine wpl_pushM (m := m + 1) HML.out.1 rfl _ _ rfl W1.heap.size (.slice (some ⟨vb, 0, none⟩) (m + 1) cap) rfl HO5.out (by have := HS5.out; simpa using this) w5.heap.size ni rfl (by simp) (by have := HML.out.2.2.1; omega) (w5.heap.size + 1) (by simp) ?_; intro g8 cap8 w8 o8 k8 a8 l8; have H8 := hidMk (show Kept W1 w8 ∧ OwnI w8 W1.heap.size (.slice (some ⟨g8, 0, none⟩) (m + 1 + 1) cap8) (wL nd2 c root L (m + 1 + 1)) ∧ g8 < w8.heap.size ∧ W1.heap.size ≤ g8 from ⟨Chg.kept ((HR.out.1.trans HK5.out).alloc _) k8 (fun j hj => (HO5.out.lt j hj).1), by rw [HML.out.2.1]; exact o8, l8, (o8.lt g8 rfl).1⟩); clear o8 k8 a8 l8)
          go_roundg (gk - 1)
          case measure => have := HKG.out; omega
          case rel => exact ⟨k - 1, g8, cap8, by have := HKG.out; omega, by omega, by omega, by rw [HML.out.2.2.2], by congr 1; omega, hidMk (by rw [HML.out.2.2.2]; exact H8.out)⟩
        · have hk' : ¬ ((1 : Int) < k) := by omega
          have HE := hidMk (show L - k + 1 = L by omega)
          rw [HE.out] at HR ⊢
          clear hkg
          go_wp2_with fail
          go_meet
          exact ⟨vb, cap, rfl, HR⟩
    case rest =>
      clear HW3 HWS
      obtain ⟨wb, cap, rfl, HC⟩ := hcut
      obtain ⟨K, hK⟩ : ∃ K, L = K + 1 := ⟨L - 1, by omega⟩
      have hLK : (L : Int) - 1 = (K : Int) := by omega
      have HWYC := hidMk (show ∀ (X : World) (i : Nat), OwnI X W1.heap.size (.slice (some ⟨wb, 0, none⟩) L cap) (wL nd2 c root L L) → i < L → X.cell? ⟨wb, i, none⟩ = some (.int .i64 (wI nd2 c root L i)) from fun X i ho hi => by
        have hl := wL_len nd2 c root L L
        have : X.cell? ⟨wb, i, none⟩ = some (.int .i64 ((wL nd2 c root L L).getD i 0)) := own_cell (B := W1.heap.size) (cap := cap) (by rw [hl]; exact ho) (by omega) (by omega)
        rw [wL_get nd2 c root L hi] at this
        exact this)
      have kc := HWYC.out wc K HC.out.2.1 (by omega)
      have HAT := hidMk (r10_at (HQ.out wc (HK1.out.trans HC.out.1)) (wI nd2 c root L K) (HW.out K (by omega)) true)
      have hyo := atN_ok HKO.out (wI nd2 c root L K) true
      have HYO := hidMk hyo
      have HL0 := hidMk (And.intro (ndL_len _ hyo.1 hyo.2) (ndL_one (atN nd2 (wI nd2 c root L K) true)))
      have hdl := dig_lt c 1
      obtain ⟨dd, hdd⟩ : ∃ dd : Nat, dig c 1 = (dd : Int) := ⟨(dig c 1).toNat, by omega⟩
      have hd8 : (dd : Int) < 8 := by omega
      have hm8 : c.tmod 8 = (dd : Int) := by rw [rem_pos h0, ← hdd]; unfold dig; simp
      have HY1 := hidMk (show refN nd2 c root L (ea, ec) 1 0 = ⟨(atN nd2 (wI nd2 c root L K) true).leaf, (atN nd2 (wI nd2 c root L K) true).kids, (atN nd2 (wI nd2 c root L K) true).vals.set dd (ea, ec)⟩ from by
        unfold refN; rw [if_pos rfl, hdd, show L - 1 = K by omega]; rfl)
      have HYO1 := hidMk (refN_ok HKO.out c root L (ea, ec) 1 0)
      have HEM := hidMk (fun X => r10_empty (refN nd2 c root L (ea, ec) 1 0) HYO1.out X)
      have HSV := hidMk (ndL_setV (y := atN nd2 (wI nd2 c root L K) true) hyo.1 hyo.2 (d := dd) (by omega) ea ec)
      have HL1 := hidMk (ndL_len _ HYO1.out.1 HYO1.out.2)
      unfold ndV at HAT HEM
      generalize hyy : atN nd2 (wI nd2 c root L K) true = y0 at *
      generalize hL0e : ndL y0 = L0 at *
      rw [← HY1.out] at HSV
      generalize hL1e : ndL (refN nd2 c root L (ea, ec) 1 0) = L1 at *
      have HLK := hidMk hK
      clear hyo hdd hdl hyy hL0e hK
      go_wp2_with fail
      refine HAT.out.mono ?_
      rintro e w5 ⟨rfl, k5⟩
      obtain ⟨lb, hlb⟩ : ∃ b, b = w5.heap.size := ⟨_, rfl⟩
      obtain ⟨W6, hW6⟩ : ∃ W, W = (w5.alloc (.cells (ndL zNd).toArray 86)).setCells lb 0 L0 := ⟨_, rfl⟩
      have ht6 : (w5.alloc (.cells (ndL zNd).toArray 86)).there lb 0 25 := by rw [hlb]; exact new_there _ _ _ _ (by rfl)
      have k6 : Kept wc W6 := by rw [hW6, hlb]; exact k5.trans (kept_setCells (Nat.le_refl _) _ _ ((Kept.refl _).alloc _))
      have hr6 : W6.rangeAt lb 0 L0 := by rw [hW6]; exact World.rangeAt_setCells_same _ _ _ _ (by rw [HL0.out.1]; exact ht6)
      have hl6 : lb < W6.heap.size := by rw [hW6, setCells_size, hlb]; simp
      have x0 := (HC.out.1.trans k6).cellp HX.out.1
      have x1 := (HC.out.1.trans k6).cellp HX.out.2
      have ht6' : W6.there lb 0 25 := by rw [hW6]; exact there_setCells ht6 _ _ _
      have HT7 := hidMk (there_sub ht6' (o' := 9 + dd * 2) (n' := 2) (by omega) (by omega))
      obtain ⟨W7, hW7⟩ : ∃ W, W = W6.setCells lb (9 + dd * 2) [.int .i64 ea, .bool ec] := ⟨_, rfl⟩
      have HRS := hidMk (show RS W1 nd2 c root L wb cap lb (refN nd2 c root L (ea, ec) 1 0) W7 ∧ W7.rangeAt lb 0 L1 from by
        have hlw : wc.heap.size ≤ lb := by rw [hlb]; exact k5.size
        have k7 : Kept wc W7 := by rw [hW7]; exact kept_setCells hlw _ _ k6
        have hz := range_setAt (f := 0) (o := 9 + dd * 2) hr6 [.int .i64 ea, .bool ec] (by rw [HL0.out.1]; simp; omega)
        rw [Nat.zero_add, HSV.out, ← hW7] at hz
        have hs := HC.out.1.size
        refine ⟨⟨HC.out.1.trans k7, HC.out.2.1.chg (S := fun _ => False) (Chg.of_kept k7) (fun _ _ e => e), by rw [hL1e]; exact hz, by omega, by rw [hW7, setCells_size]; exact hl6, HC.out.2.2.2, Nat.lt_of_lt_of_le HC.out.2.2.1 k7.size⟩, hz⟩)
      have HT6 := hidMk ht6
      have HEM1 := hidMk (HEM.out W7)
      clear k5 k6 hr6 hl6 ht6 ht6' HAT HEM kc hL1e
      go_wp2_with (first | (refine wpl_allocR rfl rfl ?_; rw [← hlb]; clear hlb) | (refine wpl_storeT rd_size rfl _ _ rfl lb 0 rfl L0 HL0.out.1 rfl HL0.out.2 HT6.out ?_; rw [← hW6]; clear hW6) | (refine wpl_storeT en_size rfl _ _ rfl lb (9 + dd * 2) rfl [.int .i64 ea, .bool ec] rfl rfl (by simp [Value.oneCell']) HT7.out ?_; rw [← hW7]; clear hW7) | (refine wpl_loadT rd_size rd_row rfl _ rfl lb 0 rfl L1 HL1.out HRS.out.2 ?_))
      refine HEM1.out.mono ?_
      rintro e w8 ⟨rfl, k8⟩
      have HR8 := hidMk (HRS.out.1.keep k8)
      have HTM := hidMk (show thr (refN nd2 c root L (ea, ec)) 1 = (!emptyN (refN nd2 c root L (ea, ec) 1 0)) ∧ mny (refN nd2 c root L (ea, ec)) 1 = (if thr (refN nd2 c root L (ea, ec)) 1 then 1 else 0) from ⟨by unfold thr thr; simp, by unfold mny mny; simp⟩)
      clear k8 HEM1 HRS HT6 HT7 x0 x1 HL0
      generalize hem : emptyN (refN nd2 c root L (ea, ec) 1 0) = em at *
      go_upto_if 71 with fail
      go_cut [15, 16] from 71 to 73 (fun s t W' => s = .int .i64 (mny (refN nd2 c root L (ea, ec)) 1) ∧ t = .bool (thr (refN nd2 c root L (ea, ec)) 1) ∧ W' = w8)
      case first =>
        cases em with
        | true =>
          go_wp2_with fail
          go_meet
          have hmm := HTM.out.2
          rw [HTM.out.1] at hmm
          exact ⟨by simp [hmm], by simp [HTM.out.1], rfl⟩
        | false =>
          go_wp2_with fail
          go_meet
          have hmm := HTM.out.2
          rw [HTM.out.1] at hmm
          exact ⟨by simp [hmm], by simp [HTM.out.1], rfl⟩
      case rest =>
        obtain ⟨rfl, rfl, hcw⟩ := hcut
        subst hcw
        have HHEM := hidMk hem
        clear hem
        go_upto_block 2 with fail
        go_cut [15] from 74 to 100 (fun s W' => s = .int .i64 (mny (refN nd2 c root L (ea, ec)) L) ∧ Hid (RS W1 nd2 c root L wb cap lb (refN nd2 c root L (ea, ec) 1 0) W'))
        case first =>
          go_wp2_with fail
          go_loopg [15, 16, 17] (L + 1) (fun gg s15 s16 s17 wr => ∃ l : Nat, l + gg = L + 2 ∧ 1 ≤ l ∧ l ≤ L ∧ Hid (s15 = .int .i64 (mny (refN nd2 c root L (ea, ec)) l)) ∧ Hid (s16 = .bool (thr (refN nd2 c root L (ea, ec)) l)) ∧ s17 = .int .i64 ((l : Int) + 1) ∧ Hid (RS W1 nd2 c root L wb cap lb (refN nd2 c root L (ea, ec) 1 0) wr))
          case atStart => exact ⟨1, by omega, by omega, by omega, hidMk rfl, hidMk rfl, rfl, HR8⟩
          case round =>
            clear HR8
            obtain ⟨l, hlg, hl1', hlL, HS15, HS16, rfl, HR⟩ := hrel
            have HLG := hidMk hlg
            by_cases hdone : l = L
            · have hl' : ¬ ((l : Int) + 1 ≤ (L : Int)) := by omega
              have hs15 := HS15.out
              have hs16 := HS16.out
              rw [hdone] at hs15
              subst hs15
              subst hs16
              generalize mny (refN nd2 c root L (ea, ec)) L = my at *
              generalize thr (refN nd2 c root L (ea, ec)) l = th at *
              clear hlg hdone HS15 HS16
              go_wp2_with fail
              go_meet
              exact ⟨rfl, HR⟩
            · have hl' : (l : Int) + 1 ≤ (L : Int) := by omega
              obtain ⟨j, hj⟩ : ∃ j, j = L - (l + 1) := ⟨_, rfl⟩
              have hjl : (L : Int) - ((l : Int) + 1) = (j : Int) := by omega
              have hjL : (j : Int) < (L : Int) := by omega
              have kc := HWYC.out wr j HR.out.ow (by omega)
              have HAT := hidMk (r10_at (HQ.out wr (HK1.out.trans HR.out.kp)) (wI nd2 c root L j) (HW.out j (by omega)) false)
              have hyo := atN_ok HKO.out (wI nd2 c root L j) false
              have HL0 := hidMk (And.intro (ndL_len _ hyo.1 hyo.2) (ndL_one (atN nd2 (wI nd2 c root L j) false)))
              have hdl := dig_lt c (l + 1)
              obtain ⟨d2, hd2⟩ : ∃ d2 : Nat, dig c (l + 1) = (d2 : Int) := ⟨(dig c (l + 1)).toNat, by omega⟩
              have hd28 : (d2 : Int) < 8 := by omega
              have HDG2 := hidMk (fun X => HDG.out (l + 1) (by omega) (by omega) X)
              rw [hd2, show ((l + 1 : Nat) : Int) = (l : Int) + 1 by omega] at HDG2
              have HYE := hidMk (show refN nd2 c root L (ea, ec) (l + 1) 0 = ⟨(atN nd2 (wI nd2 c root L j) false).leaf, (atN nd2 (wI nd2 c root L j) false).kids.set d2 0, (atN nd2 (wI nd2 c root L j) false).vals⟩ from by
                unfold refN; rw [if_neg (by omega), hd2, ← hj]; rfl)
              have hyo2 := refN_ok HKO.out c root L (ea, ec) (l + 1) 0
              have HEM := hidMk (fun X => r10_empty (refN nd2 c root L (ea, ec) (l + 1) 0) hyo2 X)
              have HSK := hidMk (ndL_setK (y := atN nd2 (wI nd2 c root L j) false) hyo.1 (d := d2) (by omega) 0)
              have HL2 := hidMk (ndL_len _ hyo2.1 hyo2.2)
              have HTN := hidMk (show thr (refN nd2 c root L (ea, ec)) (l + 1) = (thr (refN nd2 c root L (ea, ec)) l || !emptyN (refN nd2 c root L (ea, ec) (l + 1) 0)) ∧ mny (refN nd2 c root L (ea, ec)) (l + 1) = mny (refN nd2 c root L (ea, ec)) l + (if thr (refN nd2 c root L (ea, ec)) (l + 1) then 1 else 0) from ⟨rfl, rfl⟩)
              have hml := mny_le (refN nd2 c root L (ea, ec)) l
              have HKD := hidMk (fun (X : World) (b : Nat) (hx : X.rangeAt b 0 (ndL (atN nd2 (wI nd2 c root L j) false))) => show X.cell? ⟨b, 1 + d2, none⟩ = some (.int .i64 ((atN nd2 (wI nd2 c root L j) false).kids.getD d2 0)) from by
                have := hx (1 + d2) _ (ndL_kid _ hyo.1 d2 (by omega))
                rwa [Nat.zero_add] at this)
              have hs15 := HS15.out
              have hs16 := HS16.out
              subst hs15
              subst hs16
              unfold ndV at HAT HEM
              rw [← HYE.out] at HSK
              generalize (atN nd2 (wI nd2 c root L j) false).kids.getD d2 0 = kv at *
              generalize ndL (atN nd2 (wI nd2 c root L j) false) = L0 at *
              generalize ndL (refN nd2 c root L (ea, ec) (l + 1) 0) = L2 at *
              generalize emptyN (refN nd2 c root L (ea, ec) (l + 1) 0) = em2 at *
              generalize wI nd2 c root L j = ci at *
              generalize mny (refN nd2 c root L (ea, ec)) l = my at *
              generalize thr (refN nd2 c root L (ea, ec)) l = th at *
              generalize hth2 : thr (refN nd2 c root L (ea, ec)) (l + 1) = th2 at *
              generalize hmy2 : mny (refN nd2 c root L (ea, ec)) (l + 1) = my2 at *
              have HLL := hidMk (show l + 1 ≤ L ∧ 1 ≤ l + 1 from by omega)
              have HMX := hidMk (wrap_my (my := my) hml (show l ≤ 5 from by omega))
              have HT2 := hidMk (And.intro hth2 hmy2)
              clear hlg hdone hyo hyo2 hdl hd2 hj HS15 HS16 HYE hth2 hmy2
              go_wp2_with fail
              refine HAT.out.mono ?_
              rintro e w5 ⟨rfl, k5⟩
              obtain ⟨xb, hxb⟩ : ∃ b, b = w5.heap.size := ⟨_, rfl⟩
              obtain ⟨W6, hW6⟩ : ∃ W, W = (w5.alloc (.cells (ndL zNd).toArray 86)).setCells xb 0 L0 := ⟨_, rfl⟩
              have ht6 : (w5.alloc (.cells (ndL zNd).toArray 86)).there xb 0 25 := by rw [hxb]; exact new_there _ _ _ _ (by rfl)
              have k6 : Kept wr W6 := by rw [hW6, hxb]; exact k5.trans (kept_setCells (Nat.le_refl _) _ _ ((Kept.refl _).alloc _))
              have hr6 : W6.rangeAt xb 0 L0 := by rw [hW6]; exact World.rangeAt_setCells_same _ _ _ _ (by rw [HL0.out.1]; exact ht6)
              have kx := HKD.out W6 xb hr6
              have kf : W6.frozen? ⟨xb, 1 + d2, none⟩ = false := by
                have : W6.there xb 0 25 := by rw [hW6]; exact there_setCells ht6 _ _ _
                have := (this (1 + d2) (by omega)).2
                rwa [Nat.zero_add] at this
              obtain ⟨W7, hW7⟩ : ∃ W, W = W6.setCell ⟨xb, 1 + d2, none⟩ (.int .i64 0) := ⟨_, rfl⟩
              have HR7 := hidMk (show RS W1 nd2 c root L wb cap lb (refN nd2 c root L (ea, ec) 1 0) W7 ∧ W7.rangeAt xb 0 L2 from by
                have hz := range_setAt (f := 0) (o := 1 + d2) hr6 [.int .i64 0] (by rw [HL0.out.1]; simp; omega)
                rw [Nat.zero_add, HSK.out] at hz
                have k7 : Kept wr W7 := by rw [hW7]; exact k6.setCell (by rw [hxb]; exact k5.size) _
                exact ⟨HR.out.keep k7, by rw [hW7]; exact hz⟩)
              have HT6 := hidMk ht6
              have HDG7 := hidMk (HDG2.out W6)
              have HEM7 := hidMk (HEM.out W7)
              clear k5 k6 hr6 ht6 HAT HEM kc HKD HDG2
              go_wp2_with (first | (refine wpl_allocR rfl rfl ?_; rw [← hxb]; clear hxb) | (refine wpl_storeT rd_size rfl _ _ rfl xb 0 rfl L0 HL0.out.1 rfl HL0.out.2 HT6.out ?_; rw [← hW6]; clear hW6))
              refine HDG7.out.mono ?_
              rintro e w6' ⟨rfl, hw6'⟩
              rw [hw6']
              clear hw6' HDG7
              go_upto_region 21 with fail
              rw [← hW7]
              clear hW7 kx kf
              obtain ⟨tb, htb⟩ : ∃ tb, tb = (th || !em2) := ⟨_, rfl⟩
              have HTB := hidMk htb
              clear htb
              go_cut [15, 16] from 92 to 100 (fun s t W' => s = .int .i64 my ∧ t = .bool tb ∧ Hid (RS W1 nd2 c root L wb cap lb (refN nd2 c root L (ea, ec) 1 0) W'))
              case first =>
                cases th with
                | true =>
                  go_wp2_with fail
                  go_meet
                  exact ⟨rfl, by rw [HTB.out]; rfl, hidMk HR7.out.1⟩
                | false =>
                  go_wp2_with (first | (refine wpl_loadG rd_size rd_row _ rfl rfl xb 0 rfl L2 HL2.out HR7.out.2 ?_))
                  refine HEM7.out.mono ?_
                  rintro e w8' ⟨rfl, k8⟩
                  have HR8' := hidMk (HR7.out.1.keep k8)
                  clear k8
                  go_wp2_with fail
                  go_meet
                  exact ⟨rfl, by rw [HTB.out]; simp, HR8'⟩
              case rest =>
                obtain ⟨rfl, rfl, HRC⟩ := hcut
                have hmx := HMX.out
                have HFN := hidMk (show th2 = tb ∧ my2 = my + (if tb then 1 else 0) ∧ thr (refN nd2 c root L (ea, ec)) (l + 1) = th2 ∧ mny (refN nd2 c root L (ea, ec)) (l + 1) = my2 from ⟨by rw [HTB.out]; exact HTN.out.1, by rw [HTB.out, ← HTN.out.1]; exact HTN.out.2, HT2.out.1, HT2.out.2⟩)
                clear HTB HTN HEM7 HR7 HL2 HL0 HT6 hm8 hjl hjL hLK hd8 hd28 hml hl' hc h0 hM
                cases tb with
                | true =>
                  go_wp2_with fail
                  go_roundg (gk - 1)
                  case measure => have := HLG.out; omega
                  case rel => exact ⟨l + 1, by have := HLG.out; omega, HLL.out.2, HLL.out.1, hidMk (by rw [HFN.out.2.2.2, HFN.out.2.1]; rfl), hidMk (by rw [HFN.out.2.2.1, HFN.out.1]), rfl, HRC⟩
                | false =>
                  go_wp2_with fail
                  go_roundg (gk - 1)
                  case measure => have := HLG.out; omega
                  case rel => exact ⟨l + 1, by have := HLG.out; omega, HLL.out.2, HLL.out.1, hidMk (by rw [HFN.out.2.2.2, HFN.out.2.1]; rfl), hidMk (by rw [HFN.out.2.2.1, HFN.out.1]), rfl, HRC⟩
        case rest =>
          obtain ⟨rfl, HRS2⟩ := hcut
          clear HR8 hm8 hLK hd8 HTM
          have hmy := mny_le (refN nd2 c root L (ea, ec)) L
          have HCK := hidMk (HK1.out.trans HRS2.out.kp)
          have q0' := fun k => ((HK1.out.trans HRS2.out.kp).drewN k).cellp (HQ.out W (Kept.refl W)).c0
          have HUS := hidMk (fun (k : Nat) => r9_Used (HQ.out _ ((HK1.out.trans HRS2.out.kp).drewN k)))
          have hus := usd_le rf2 n2
          have hnm := (HQ.out W (Kept.refl W)).nm
          have hmo : 0 ≤ most ∧ most ≤ 20000 := by obtain ⟨ow, hh⟩ := HBA.out.as; have := hh.ok; omega
          generalize hUU : usd rf2 n2 = U at *
          have HMU := hidMk (show ((most - U < mny (refN nd2 c root L (ea, ec)) L) ↔ (most - U : Int) < ((mny (refN nd2 c root L (ea, ec)) L : Nat) : Int)) ∧ usd rf2 n2 = U from ⟨Iff.rfl, hUU⟩)
          generalize hMM : mny (refN nd2 c root L (ea, ec)) L = my at *
          have HMM := hidMk hMM
          have hsub : wrap64 (most - (U : Int)) = most - (U : Int) := wrap_fit (by omega) (by omega)
          have HUB := hidMk (And.intro hUU (And.intro hmo (And.intro hus hnm)))
          clear hc h0 hM hus hnm hmy hUU hMM
          by_cases hfull : most - (U : Int) < (my : Int)
          · have HFU := hidMk hfull
            go_wp2_with fail
            go_quiet ((go_at_call 19; exact Calls.quiet_of_same (HUS.out _)))
            go_wp2_with fail
            go_ret2
            refine .inl ⟨?_, rfl, ?_⟩
            · rw [HMM.out, HUB.out.1]; exact HFU.out
            · exact HB.out _ (HCK.out.drewN _)
          · have HFU := hidMk hfull
            have HMB := hidMk hM60
            go_upto_region 24 with fail
            go_cut [109] from 101 to 108 (fun s W' => s = .bool false ∧ Hid (RS W1 nd2 c root L wb cap lb (refN nd2 c root L (ea, ec) 1 0) W'))
            case first =>
              go_quiet ((go_at_call 19; exact Calls.quiet_of_same (HUS.out _)))
              go_wp2_with fail
              go_meet
              exact ⟨by simp only [Value.bool.injEq, decide_eq_false_iff_not], hidMk (HRS2.out.keep ((Kept.refl _).drewN _))⟩
            case rest =>
              obtain ⟨rfl, HR0⟩ := hcut
              clear q0' HUS HRS2 HCK hsub hfull
              have hkW := HK1.out.trans HR0.out.kp
              have HBX := hidMk (show BA w0 wc p q (fun j => F j ∨ j = wb ∨ j = lb) most n rf nd M n2 rf2 nd2 M2 ∧ Fx F W wc from ⟨HBA.out.with hkW (fun j hj => hj.imp id (fun e => by
                have a1 := HR0.out.l1; have a2 := HR0.out.l2; have a3 := HR0.out.l3; have a4 := HR0.out.l4; have a5 := HK1.out.size
                rcases e with e | e <;> omega)), Fx.of_kept hkW HFL.out⟩)
              obtain ⟨u, hu⟩ := abv_ex most ⟨n2, rf2, nd2, 0, 0⟩ (refN nd2 c root L (ea, ec) 1 0) HYO1.out HKO.out HOK.out
              have HU := hidMk hu
              have HEM1 := hidMk (r10_empty (refN nd2 c root L (ea, ec) 1 0) HYO1.out wc)
              have HLW := hidMk (show wc.rangeAt lb 0 (ndL (refN nd2 c root L (ea, ec) 1 0)) from HR0.out.lw)
              have HL9 := hidMk (ndL_len _ HYO1.out.1 HYO1.out.2)
              have HMN := hidMk (fun (X : World) (hb : BA w0 X p q (fun j => F j ∨ j = wb ∨ j = lb) most n rf nd M n2 rf2 nd2 M2) (he : emptyN (refN nd2 c root L (ea, ec) 1 0) = true) => mid_none (s := ⟨n2, rf2, nd2, 0, 0⟩) hb (by have := HMB.out; omega) he HU.out)
              have HMK := hidMk (fun (X : World) (hb : BA w0 X p q (fun j => F j ∨ j = wb ∨ j = lb) most n rf nd M n2 rf2 nd2 M2) (he : emptyN (refN nd2 c root L (ea, ec) 1 0) = false) => mid_make (s := ⟨n2, rf2, nd2, 0, 0⟩) hb (by have := HMB.out; omega) HYO1.out he HU.out)
              unfold ndV at HEM1 HMK
              generalize hLe : ndL (refN nd2 c root L (ea, ec) 1 0) = LY at *
              generalize hemy : emptyN (refN nd2 c root L (ea, ec) 1 0) = ey at *
              clear hu hkW hLe hemy
              go_wp2_with (first | (refine wpl_loadT rd_size rd_row rfl _ rfl lb 0 rfl LY HL9.out HLW.out ?_))
              refine HEM1.out.mono ?_
              rintro e w9 ⟨rfl, k9⟩
              have HB9 := hidMk (show BA w0 w9 p q (fun j => F j ∨ j = wb ∨ j = lb) most n rf nd M n2 rf2 nd2 M2 ∧ Fx F W w9 ∧ RS W1 nd2 c root L wb cap lb (refN nd2 c root L (ea, ec) 1 0) w9 from ⟨HBX.out.1.keep k9, HBX.out.2.trans (Fx.of_kept k9 (HBX.out.1.fewer (fun j hj => .inl hj)).flt), HR0.out.keep k9⟩)
              have HLW9 := hidMk (k9.range HLW.out)
              clear k9 HEM1 HBX HR0 HLW
              go_upto_if 112 with fail
              go_cut [19] from 112 to 118 (fun s W' => s = .int .i64 u.id ∧ Hid (BA w0 W' p q (fun j => F j ∨ j = wb) most n rf nd M u.n u.rf u.nd (M2 + 9 * 1) ∧ Fx F W W' ∧ OwnI W' W1.heap.size (.slice (some ⟨wb, 0, none⟩) L cap) (wL nd2 c root L L)))
              case first =>
                cases ey with
                | true =>
                  have HN := hidMk (HMN.out w9 HB9.out.1 rfl)
                  go_wp2_with fail
                  go_meet
                  exact ⟨by rw [HN.out.1], hidMk ⟨(mid_zero HN.out.2 rfl).fewer (fun j hj => hj.imp id .inl), HB9.out.2.1, HB9.out.2.2.ow⟩⟩
                | false =>
                  have HN := hidMk (HMK.out w9 HB9.out.1 rfl)
                  go_wp2_with (first | (refine wpl_loadT rd_size rd_row rfl _ rfl lb 0 rfl LY HL9.out HLW9.out ?_))
                  refine HN.out.mono ?_
                  rintro e w10 ⟨⟨v, rfl⟩, hm10, hx10⟩
                  have H10 := hidMk (show BA w0 w10 p q (fun j => F j ∨ j = wb) most n rf nd M u.n u.rf u.nd (M2 + 9 * 1) ∧ Fx F W w10 ∧ OwnI w10 W1.heap.size (.slice (some ⟨wb, 0, none⟩) L cap) (wL nd2 c root L L) from ⟨(mid_zero hm10 rfl).fewer (fun j hj => hj.imp id .inl), HB9.out.2.1.trans (hx10.fewer (fun j hj => .inl hj)), own_fx HB9.out.2.2.ow (hx10 wb (.inr (.inl rfl)))⟩)
                  clear hm10 hx10 HN
                  go_wp2_with fail
                  go_meet
                  exact ⟨rfl, H10⟩
              case rest =>
                obtain ⟨rfl, HC1⟩ := hcut
                clear HB9 HLW9 HMN HMK HL9 HL1 HYO1
                have HCH2 := hidMk (HCH.out HFU.out)
                have HE1' := hidMk (show RefEnd most (refN nd2 c root L (ea, ec)) 1 1 ⟨n2, rf2, nd2, 0, 0⟩ u from ⟨u, HU.out, rfl⟩)
                have HFN := hidMk (show ¬ (most - usd rf2 n2 < mny (refN nd2 c root L (ea, ec)) L) from by rw [HMM.out, HUB.out.1]; have := HFU.out; omega)
                clear HCH HU HUB HFU HMM HMU hmo
                go_wp2_with fail
                go_loopg [19, 20] (L + 1) (fun gg s19 s20 wr => ∃ (l : Nat) (u : PSt), l + gg = L + 2 ∧ 1 ≤ l ∧ l ≤ L ∧ s19 = .int .i64 u.id ∧ s20 = .int .i64 ((l : Int) + 1) ∧ Hid (BA w0 wr p q (fun j => F j ∨ j = wb) most n rf nd M u.n u.rf u.nd (M2 + 9 * l) ∧ Fx F W wr ∧ OwnI wr W1.heap.size (.slice (some ⟨wb, 0, none⟩) L cap) (wL nd2 c root L L)) ∧ Hid (RefEnd most (refN nd2 c root L (ea, ec)) l 1 ⟨n2, rf2, nd2, 0, 0⟩ u))
                case atStart => exact ⟨1, u, by omega, by omega, by omega, rfl, rfl, HC1, HE1'⟩
                case round =>
                  clear HC1 HE1'
                  obtain ⟨l, u, hlg, hl1', hlL, rfl, rfl, HBU, HEU⟩ := hrel
                  have HLG := hidMk hlg
                  by_cases hdone : l = L
                  · have hl' : ¬ ((l : Int) + 1 ≤ (L : Int)) := by omega
                    have HDN := hidMk hdone
                    clear hlg hdone
                    go_wp2_with fail
                    go_ret2
                    have hb := HBU.out
                    have he := HEU.out
                    rw [HDN.out] at hb he
                    exact .inr ⟨by have := HFN.out; omega, u, he, rfl, hb.1.fewer (fun j hj => .inl hj), hb.2.1⟩
                  · have hl' : (l : Int) + 1 ≤ (L : Int) := by omega
                    obtain ⟨j, hj⟩ : ∃ j, j = L - (l + 1) := ⟨_, rfl⟩
                    have hjl : (L : Int) - ((l : Int) + 1) = (j : Int) := by omega
                    have hjL : (j : Int) < (L : Int) := by omega
                    have kc := HWYC.out wr j HBU.out.2.2 (by omega)
                    have hcu := HCH2.out l hlL u HEU.out
                    have hlv : wI nd2 c root L j = 0 ∨ u.rf (wI nd2 c root L j) ≠ 0 := (HW.out j (by omega)).imp id (fun e => (hcu _ e).1)
                    have hat : atN u.nd (wI nd2 c root L j) false = atN nd2 (wI nd2 c root L j) false := by
                      unfold atN
                      by_cases e : wI nd2 c root L j = 0
                      · rw [if_pos e, if_pos e]
                      · rw [if_neg e, if_neg e, (hcu _ ((HW.out j (by omega)).resolve_left e)).2]
                    have HAT := hidMk (show Calls Tryd.prog 45 #[.pointer (some ⟨q, 0, none⟩), .int .i64 (wI nd2 c root L j), .bool false] wr fun e w' => e = .returned (ndV (atN nd2 (wI nd2 c root L j) false)) ∧ Kept wr w' from by
                      obtain ⟨bL', bN', cL', cN', xs', hq'⟩ := HBU.out.1.rq
                      rw [← hat]
                      exact r10_at hq' _ hlv false)
                    have hyo := atN_ok HKO.out (wI nd2 c root L j) false
                    have HL0 := hidMk (And.intro (ndL_len _ hyo.1 hyo.2) (ndL_one (atN nd2 (wI nd2 c root L j) false)))
                    have hdl := dig_lt c (l + 1)
                    obtain ⟨d2, hd2⟩ : ∃ d2 : Nat, dig c (l + 1) = (d2 : Int) := ⟨(dig c (l + 1)).toNat, by omega⟩
                    have hd28 : (d2 : Int) < 8 := by omega
                    have HDG2 := hidMk (fun X => HDG.out (l + 1) (by omega) (by omega) X)
                    rw [hd2, show ((l + 1 : Nat) : Int) = (l : Int) + 1 by omega] at HDG2
                    have HYE := hidMk (show refN nd2 c root L (ea, ec) (l + 1) u.id = ⟨(atN nd2 (wI nd2 c root L j) false).leaf, (atN nd2 (wI nd2 c root L j) false).kids.set d2 u.id, (atN nd2 (wI nd2 c root L j) false).vals⟩ from by
                      unfold refN; rw [if_neg (by omega), hd2, ← hj]; rfl)
                    have hyo2 := refN_ok HKO.out c root L (ea, ec) (l + 1) u.id
                    obtain ⟨v, hv⟩ := abv_ex most u (refN nd2 c root L (ea, ec) (l + 1) u.id) hyo2 (by obtain ⟨_, _, _, _, _, hq'⟩ := HBU.out.1.rq; exact hq'.kok) (by obtain ⟨_, _, _, _, _, hq'⟩ := HBU.out.1.rq; exact hq'.ok)
                    have HEV := hidMk (refEnd_snoc l 1 _ u v HEU.out (by rw [show 1 + l = l + 1 by omega]; exact hv))
                    have HEM := hidMk (fun X => r10_empty (refN nd2 c root L (ea, ec) (l + 1) u.id) hyo2 X)
                    have HSK := hidMk (ndL_setK (y := atN nd2 (wI nd2 c root L j) false) hyo.1 (d := d2) (by omega) u.id)
                    have HL2 := hidMk (ndL_len _ hyo2.1 hyo2.2)
                    have HMN := hidMk (fun (X : World) (hb : BA w0 X p q (fun j => F j ∨ j = wb) most n rf nd M u.n u.rf u.nd (M2 + 9 * l)) (he : emptyN (refN nd2 c root L (ea, ec) (l + 1) u.id) = true) => mid_none (s := u) hb (by have := HMB.out; omega) he hv)
                    have HMK := hidMk (fun (X : World) (hb : BA w0 X p q (fun j => F j ∨ j = wb) most n rf nd M u.n u.rf u.nd (M2 + 9 * l)) (he : emptyN (refN nd2 c root L (ea, ec) (l + 1) u.id) = false) => mid_make (s := u) hb (by have := HMB.out; omega) hyo2 he hv)
                    have HKD := hidMk (fun (X : World) (b : Nat) (hx : X.rangeAt b 0 (ndL (atN nd2 (wI nd2 c root L j) false))) => show X.cell? ⟨b, 1 + d2, none⟩ = some (.int .i64 ((atN nd2 (wI nd2 c root L j) false).kids.getD d2 0)) from by
                      have := hx (1 + d2) _ (ndL_kid _ hyo.1 d2 (by omega))
                      rwa [Nat.zero_add] at this)
                    unfold ndV at HAT HEM HMK
                    rw [← HYE.out] at HSK
                    generalize (atN nd2 (wI nd2 c root L j) false).kids.getD d2 0 = kv at *
                    generalize ndL (atN nd2 (wI nd2 c root L j) false) = L0 at *
                    generalize ndL (refN nd2 c root L (ea, ec) (l + 1) u.id) = L2 at *
                    generalize emptyN (refN nd2 c root L (ea, ec) (l + 1) u.id) = em2 at *
                    generalize wI nd2 c root L j = ci at *
                    have HLL := hidMk (show l + 1 ≤ L ∧ 1 ≤ l + 1 from by omega)
                    clear hlg hdone hyo hyo2 hdl hd2 hj HYE hcu hlv hat hv HEU hM60
                    go_wp2_with fail
                    refine HAT.out.mono ?_
                    rintro e w5 ⟨rfl, k5⟩
                    obtain ⟨xb, hxb⟩ : ∃ b, b = w5.heap.size := ⟨_, rfl⟩
                    obtain ⟨W6, hW6⟩ : ∃ W, W = (w5.alloc (.cells (ndL zNd).toArray 86)).setCells xb 0 L0 := ⟨_, rfl⟩
                    have ht6 : (w5.alloc (.cells (ndL zNd).toArray 86)).there xb 0 25 := by rw [hxb]; exact new_there _ _ _ _ (by rfl)
                    have k6 : Kept wr W6 := by rw [hW6, hxb]; exact k5.trans (kept_setCells (Nat.le_refl _) _ _ ((Kept.refl _).alloc _))
                    have hr6 : W6.rangeAt xb 0 L0 := by rw [hW6]; exact World.rangeAt_setCells_same _ _ _ _ (by rw [HL0.out.1]; exact ht6)
                    have kx := HKD.out W6 xb hr6
                    have kf : W6.frozen? ⟨xb, 1 + d2, none⟩ = false := by
                      have : W6.there xb 0 25 := by rw [hW6]; exact there_setCells ht6 _ _ _
                      have := (this (1 + d2) (by omega)).2
                      rwa [Nat.zero_add] at this
                    obtain ⟨W7, hW7⟩ : ∃ W, W = W6.setCell ⟨xb, 1 + d2, none⟩ (.int .i64 u.id) := ⟨_, rfl⟩
                    have HR7 := hidMk (show Kept wr W7 ∧ W7.rangeAt xb 0 L2 from by
                      have hz := range_setAt (f := 0) (o := 1 + d2) hr6 [.int .i64 u.id] (by rw [HL0.out.1]; simp; omega)
                      rw [Nat.zero_add, HSK.out] at hz
                      exact ⟨by rw [hW7]; exact k6.setCell (by rw [hxb]; exact k5.size) _, by rw [hW7]; exact hz⟩)
                    have HT6 := hidMk ht6
                    have HDG7 := hidMk (HDG2.out W6)
                    have HEM7 := hidMk (HEM.out W7)
                    clear k5 k6 hr6 ht6 HAT HEM kc HKD HDG2 hjl hjL hl'
                    go_wp2_with (first | (refine wpl_allocR rfl rfl ?_; rw [← hxb]; clear hxb) | (refine wpl_storeT rd_size rfl _ _ rfl xb 0 rfl L0 HL0.out.1 rfl HL0.out.2 HT6.out ?_; rw [← hW6]; clear hW6))
                    refine HDG7.out.mono ?_
                    rintro e w6' ⟨rfl, hw6'⟩
                    rw [hw6']
                    clear hw6' HDG7
                    go_upto_region 34 with fail
                    rw [← hW7]
                    clear hW7 kx kf hd28
                    go_wp2_with (first | (refine wpl_loadT rd_size rd_row rfl _ rfl xb 0 rfl L2 HL2.out HR7.out.2 ?_))
                    refine HEM7.out.mono ?_
                    rintro e w8 ⟨rfl, k8⟩
                    have HB8 := hidMk (show BA w0 w8 p q (fun j => F j ∨ j = wb) most n rf nd M u.n u.rf u.nd (M2 + 9 * l) ∧ Fx F W w8 ∧ OwnI w8 W1.heap.size (.slice (some ⟨wb, 0, none⟩) L cap) (wL nd2 c root L L) from by
                      have kk := HR7.out.1.trans k8
                      exact ⟨HBU.out.1.keep kk, HBU.out.2.1.trans (Fx.of_kept kk (HBU.out.1.fewer (fun j hj => .inl hj)).flt), HBU.out.2.2.chg (S := fun _ => False) (Chg.of_kept kk) (fun _ _ e => e)⟩)
                    have HR8 := hidMk (k8.range HR7.out.2)
                    clear k8 HEM7 HR7 HBU HL0 HT6
                    go_upto_if 141 with fail
                    go_cut [19] from 141 to 147 (fun s W' => s = .int .i64 v.id ∧ Hid (MidP w0 W' p q (fun j => F j ∨ j = wb) most n rf nd M u v (M2 + 9 * (l + 1)) ∧ Fx F W W' ∧ OwnI W' W1.heap.size (.slice (some ⟨wb, 0, none⟩) L cap) (wL nd2 c root L L)))
                    case first =>
                      cases em2 with
                      | true =>
                        have HN := hidMk (HMN.out w8 HB8.out.1 rfl)
                        go_wp2_with fail
                        go_meet
                        exact ⟨by rw [HN.out.1], hidMk ⟨HN.out.2, HB8.out.2.1, HB8.out.2.2⟩⟩
                      | false =>
                        have HN := hidMk (HMK.out w8 HB8.out.1 rfl)
                        go_wp2_with (first | (refine wpl_loadT rd_size rd_row rfl _ rfl xb 0 rfl L2 HL2.out HR8.out ?_))
                        refine HN.out.mono ?_
                        rintro e w10 ⟨⟨vv, rfl⟩, hm10, hx10⟩
                        have H10 := hidMk (show MidP w0 w10 p q (fun j => F j ∨ j = wb) most n rf nd M u v (M2 + 9 * (l + 1)) ∧ Fx F W w10 ∧ OwnI w10 W1.heap.size (.slice (some ⟨wb, 0, none⟩) L cap) (wL nd2 c root L L) from ⟨hm10, HB8.out.2.1.trans (hx10.fewer (fun j hj => .inl hj)), own_fx HB8.out.2.2 (hx10 wb (.inr rfl))⟩)
                        clear hm10 hx10 HN
                        go_wp2_with fail
                        go_meet
                        exact ⟨rfl, H10⟩
                    case rest =>
                      obtain ⟨rfl, HMD⟩ := hcut
                      clear HMN HMK HB8 HR8 HL2
                      by_cases hu0 : u.id = 0
                      · have HBV := hidMk (mid_zero HMD.out.1 hu0)
                        rw [hu0]
                        clear hu0
                        go_wp2_with fail
                        go_roundg (gk - 1)
                        case measure => have := HLG.out; omega
                        case rel => exact ⟨l + 1, v, by have := HLG.out; omega, HLL.out.2, HLL.out.1, rfl, by congr 1, hidMk ⟨HBV.out, HMD.out.2.1, HMD.out.2.2⟩, HEV⟩
                      · have hub : (u.id == 0) = false := by simpa using hu0
                        have HDP := hidMk (mid_drop HMD.out.1 hu0)
                        generalize u.id = uid at *
                        go_wp2_with fail
                        refine HDP.out.mono ?_
                        rintro e w11 ⟨⟨vv, rfl⟩, hb11, hx11⟩
                        have H11 := hidMk (show BA w0 w11 p q (fun j => F j ∨ j = wb) most n rf nd M v.n v.rf v.nd (M2 + 9 * (l + 1)) ∧ Fx F W w11 ∧ OwnI w11 W1.heap.size (.slice (some ⟨wb, 0, none⟩) L cap) (wL nd2 c root L L) from ⟨hb11, HMD.out.2.1.trans (hx11.fewer (fun j hj => .inl hj)), own_fx HMD.out.2.2 (hx11 wb (.inr rfl))⟩)
                        clear hb11 hx11 HDP
                        go_wp2_with fail
                        go_roundg (gk - 1)
                        case measure => have := HLG.out; omega
                        case rel => exact ⟨l + 1, v, by have := HLG.out; omega, HLL.out.2, HLL.out.1, rfl, by congr 1, H11, HEV⟩
end
end Go.Proofs.YtjkbhaplngnniaaDoor
