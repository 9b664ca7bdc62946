/- moietyref10.Set: what it makes of the nodes on the way, and how many. -/
import Derived.Test.YtjkbhaplngnniaaDoorPg11
import Derived.Deep.CutRange
import Derived.Deep.CutBlock
namespace Go.Proofs.YtjkbhaplngnniaaDoor
open Go.RowKit Go.Maps
set_option linter.unusedSimpArgs false
set_option linter.unusedVariables false

/-- The nodes of the new way, as the definition has them. -/
def refN (nd : Int → ANd) (c root : Int) (L : Nat) (e : Int × Bool) (l : Nat) (id : Int) : ANd :=
  if l = 1 then ⟨(atN nd (wI nd c root L (L - 1)) true).leaf, (atN nd (wI nd c root L (L - 1)) true).kids, (atN nd (wI nd c root L (L - 1)) true).vals.set (dig c 1).toNat e⟩
  else ⟨(atN nd (wI nd c root L (L - l)) false).leaf, (atN nd (wI nd c root L (L - l)) false).kids.set (dig c l).toNat id, (atN nd (wI nd c root L (L - l)) false).vals⟩
theorem refN_ok {nd : Int → ANd} (h : ∀ i, (nd i).kids.length = 8 ∧ (nd i).vals.length = 8) (c root : Int) (L : Nat) (e : Int × Bool) (l : Nat) (id : Int) : (refN nd c root L e l id).kids.length = 8 ∧ (refN nd c root L e l id).vals.length = 8 := by
  unfold refN
  split
  · have := atN_ok h (wI nd c root L (L - 1)) true
    exact ⟨this.1, by simpa using this.2⟩
  · have := atN_ok h (wI nd c root L (L - l)) false
    exact ⟨by simpa using this.1, this.2⟩
/-- Is there a node of the level? -/
def thr (f : Nat → Int → ANd) : Nat → Bool
  | 0 => false
  | l + 1 => thr f l || !emptyN (f (l + 1) 0)
def mny (f : Nat → Int → ANd) : Nat → Nat
  | 0 => 0
  | l + 1 => mny f l + if thr f (l + 1) then 1 else 0
theorem mny_le (f : Nat → Int → ANd) : ∀ l, mny f l ≤ l := by
  intro l
  induction l with
  | zero => exact Nat.le_refl _
  | succ l ih => unfold mny; split <;> omega
/-- Level by level, whatever comes. -/
def RefEnd (most : Int) (yl : Nat → Int → ANd) : Nat → Nat → PSt → PSt → Prop
  | 0, _, s, t => t = s
  | k + 1, l, s, t => ∃ u, AbvS most s (yl l s.id) u ∧ RefEnd most yl k (l + 1) u t
/-- The numbers on the way. -/
def wL (nd : Int → ANd) (c root : Int) (L k : Nat) : List Int := (List.range k).map fun i => wI nd c root L i
theorem wL_len (nd : Int → ANd) (c root : Int) (L k : Nat) : (wL nd c root L k).length = k := by simp [wL]
theorem wL_succ (nd : Int → ANd) (c root : Int) (L k : Nat) : wL nd c root L (k + 1) = wL nd c root L k ++ [wI nd c root L k] := by
  unfold wL; rw [List.range_succ, List.map_append]; rfl
theorem wL_get (nd : Int → ANd) (c root : Int) (L : Nat) {k i : Nat} (h : i < k) : (wL nd c root L k).getD i 0 = wI nd c root L i := by
  unfold wL
  rw [List.getD_eq_getElem?_getD, List.getElem?_map, List.getElem?_range h]
  rfl
section
variable {w0 W : World} {p q : Nat} {F : Nat → Prop} {most : Int} {n : Nat} {rf : Int → Nat} {nd : Int → ANd} {M : Nat} {n2 : Nat} {rf2 : Int → Nat} {nd2 : Int → ANd} {M2 : Nat}
theorem BA.rq (h : BA w0 W p q F most n rf nd M n2 rf2 nd2 M2) : ∃ bL bN cL cN xs, RQ W w0.heap.size q most n2 rf2 nd2 M2 bL bN cL cN xs := by
  obtain ⟨ow, bL, bN, cL, cN, xs, h1, h2, _⟩ := h
  exact ⟨bL, bN, cL, cN, xs, h2⟩
theorem BA.raiseR (h : BA w0 W p q F most n rf nd M n2 rf2 nd2 M2) {M' : Nat} (h1 : M2 ≤ M') (h2 : M' ≤ 4611686018427387904) : BA w0 W p q F most n rf nd M n2 rf2 nd2 M' := by
  obtain ⟨ow, bL, bN, cL, cN, xs, a1, a2, a3, a4⟩ := h
  exact ⟨ow, bL, bN, cL, cN, xs, a1, a2.raise h1 h2, a3, a4⟩
theorem own_cell {W : World} {B : Nat} {b cap : Nat} {l : List Int} (h : OwnI W B (.slice (some ⟨b, 0, none⟩) l.length cap) l) (hl : l.length ≤ 1000) {i : Nat} (hi : i < l.length) : W.cell? ⟨b, i, none⟩ = some (.int .i64 (l.getD i 0)) := by
  obtain ⟨a, c, e, hs⟩ := h.sl (by unfold maxLen; omega)
  cases e
  obtain ⟨b', o, e1, _, h3⟩ := hs.cells (by omega)
  cases e1
  have := h3 i hi
  rw [Nat.zero_add] at this
  exact this
theorem br_KeepZ (h : BA w0 W p q F most n rf nd M n2 rf2 nd2 M2) (hM : M2 + 1 ≤ 4611686018427387904) (i : Int) (h0 : i ≠ 0) : Calls Tryd.prog 33 #[.pointer (some ⟨q, 0, none⟩), .int .i64 i] W fun e w' => (∃ v, e = .returned (.int .i64 v)) ∧ BA w0 w' p q F most n rf nd M n2 (KeepZ rf2 i) nd2 (M2 + 1) ∧ Fx F W w' := by
  refine (br_Keep h hM i).mono ?_
  rintro e w' ⟨rfl, h1, h2⟩
  unfold KeepZ
  rw [if_neg h0]
  exact ⟨⟨_, rfl⟩, h1, h2⟩
set_option maxHeartbeats 2000000 in
set_option maxRecDepth 100000 in
/-- The entry is there already. -/
theorem r10_SetSame (h : BA w0 W p q F most n rf nd M n2 rf2 nd2 M2) (hM : M2 + 1 ≤ 4611686018427387904) (root c : Int) (L : Nat) (h0 : 0 ≤ c) (hc : c ≤ 1000000) (hl1 : 1 ≤ L) (hl5 : L ≤ 5) (hw : WayOk rf2 nd2 c root L) (ea : Int) (ec : Bool) (he : entN (wN nd2 c root L 1) c = (ea, ec)) :
    Calls Tryd.prog 32 #[.pointer (some ⟨q, 0, none⟩), .int .i64 root, .int .i64 c, .agg #[.int .i64 ea, .bool ec], .int .i64 L] W fun e w' => e = .returned (.tuple #[.int .i64 root, .int .i64 0]) ∧ BA w0 w' p q F most n rf nd M n2 (KeepZ rf2 root) nd2 (M2 + 1) ∧ Fx F W w' := by
  obtain ⟨eb, heb⟩ : ∃ b, b = W.heap.size := ⟨_, rfl⟩
  obtain ⟨W1, hW1⟩ : ∃ W1, W1 = W.alloc (.cells #[.int .i64 ea, .bool ec] 39) := ⟨_, rfl⟩
  have k1 : Kept W W1 := by rw [hW1]; exact (Kept.refl W).alloc _
  have r1 : W1.rangeAt eb 0 [.int .i64 ea, .bool ec] := by rw [hW1, heb]; exact new_range W [.int .i64 ea, .bool ec] _
  have x0 : W1.cell? ⟨eb, 0, none⟩ = some (.int .i64 ea) := by have := r1 0 _ rfl; simpa using this
  have x1 : W1.cell? ⟨eb, 1, none⟩ = some (.bool ec) := by have := r1 1 _ rfl; simpa using this
  have hfl := h.flt
  have HG := hidMk (show ∀ X, Kept W1 X → Calls Tryd.prog 23 #[.pointer (some ⟨q, 0, none⟩), .int .i64 root, .int .i64 c, .int .i64 L] X fun e w' => e = .returned (.agg #[.int .i64 ea, .bool ec]) ∧ Kept X w' from fun X kX => by
    obtain ⟨bL, bN, cL, cN, xs, hq⟩ := h.rq
    have := r10_Get (hq.kept (k1.trans kX)) root c L h0 hc hl1 hl5 hw
    rw [he] at this
    exact this)
  have HB := hidMk (fun X (kX : Kept W1 X) => And.intro (h.keep (k1.trans kX)) (Fx.of_kept (F := F) (k1.trans kX) hfl))
  have heqE : ∀ W, (Op.equalIn 10000 39 (.agg #[.int .i64 ea, .bool ec]) (.agg #[.int .i64 ea, .bool ec])).run Tryd.prog W = .ok true W := fun W => by
    rw [en_eq 9998]; simp
  clear h hw he k1 r1 hfl
  go_enter Tryd.func32, Tryd.ntmps32
  go_upto_region 1 with fail
  rw [← hW1, ← heb]
  clear hW1 heb
  go_cut [29] from 23 to 28 (fun s W' => s = .bool true ∧ Hid (Kept W1 W'))
  case first =>
    refine wp_region_held_drew (S := (fun w' => w'.cell? ⟨eb, 0, none⟩ = some (.int .i64 ea) ∧ w'.cell? ⟨eb, 1, none⟩ = some (.bool ec))) (by kernel_rfl) ?_ (fun hHeld => ?_)
    · exact ⟨((Kept.refl W1).drew).cellp x0, ((Kept.refl W1).drew).cellp x1⟩
    refine wpAnyH_take (i := 0) (oi := { dst := some 23, op := _, type := _, pos := _, after := _, guard := _ }) (v := ?_) rfl (by kernel_rfl) (by kernel_rfl) (by kernel_rfl) (fun _ _ _ h => h) (Or.inl ⟨by rfl, ?_⟩) (by assumption) ?_
    rotate_left
    · (intro w hSw; (try obtain ⟨hSw1, hSw2⟩ := hSw); go_simp; (try with_reducible rfl))
    (try simp only [Act.put, List.setIfInBounds_toArray, List.set_cons_zero, List.set_cons_succ])
    refine wpAnyH_take (i := 1) (oi := { dst := some 24, op := _, type := _, pos := _, after := _, guard := _ }) (v := ?_) rfl (by kernel_rfl) (by kernel_rfl) (by kernel_rfl) (fun _ _ _ h => h) (Or.inl ⟨by rfl, ?_⟩) (by assumption) ?_
    rotate_left
    · (intro w hSw; (try obtain ⟨hSw1, hSw2⟩ := hSw); go_simp; (try with_reducible rfl))
    (try simp only [Act.put, List.setIfInBounds_toArray, List.set_cons_zero, List.set_cons_succ])
    refine wpAnyH_take (i := 2) (oi := { dst := some 25, op := _, type := _, pos := _, after := _, guard := _ }) (v := ?_) rfl (by kernel_rfl) (by kernel_rfl) (by kernel_rfl) (fun _ _ _ h => h) (Or.inl ⟨by rfl, ?_⟩) (by assumption) ?_
    rotate_left
    · (intro w hSw; (try obtain ⟨hSw1, hSw2⟩ := hSw); go_simp; (try with_reducible rfl))
    (try simp only [Act.put, List.setIfInBounds_toArray, List.set_cons_zero, List.set_cons_succ])
    refine wpAnyH_take (i := 3) (oi := { dst := some 26, op := _, type := _, pos := _, after := _, guard := _ }) (v := ?_) rfl (by kernel_rfl) (by kernel_rfl) (by kernel_rfl) (fun _ _ _ h => h) (Or.inl ⟨by rfl, ?_⟩) (by assumption) ?_
    rotate_left
    · (intro w hSw; (try obtain ⟨hSw1, hSw2⟩ := hSw); go_simp; (try with_reducible rfl))
    (try simp only [Act.put, List.setIfInBounds_toArray, List.set_cons_zero, List.set_cons_succ])
    refine wpAnyH_take (i := 5) (oi := { dst := some 28, op := _, type := _, pos := _, after := _, guard := _ }) (v := ?_) rfl (by kernel_rfl) (by kernel_rfl) (by kernel_rfl) (fun _ _ _ h => h) (Or.inl ⟨by rfl, ?_⟩) (by assumption) ?_
    rotate_left
    · (intro w hSw; (try obtain ⟨hSw1, hSw2⟩ := hSw); go_simp; (try with_reducible rfl))
    (try simp only [Act.put, List.setIfInBounds_toArray, List.set_cons_zero, List.set_cons_succ])
    refine wpAnyH_ready (rs := [4]) (by kernel_rfl) (by simp) ?_
    refine AllReadyH.cons (o := { dst := some 27, op := _, type := _, pos := _, after := _, guard := _ }) rfl (fun K hK => ?_) AllReadyH.nil
    go_simp
    refine (HG.out _ ((Kept.refl W1).drew)).mono ?_
    rintro e w5 ⟨rfl, k5⟩
    have HKF := hidMk (show Kept W1 w5 from ((Kept.refl W1).drew).trans k5)
    clear k5
    (try go_wp2_with fail)
    refine hK.out _ _ ?_ (fun hHeld => ?_)
    · exact ⟨HKF.out.cellp x0, HKF.out.cellp x1⟩
    clear hK K
    (try simp only [Act.put, List.setIfInBounds_toArray, List.set_cons_zero, List.set_cons_succ])
    refine wpAnyH_take (i := 6) (oi := { dst := some 29, op := _, type := _, pos := _, after := _, guard := _ }) (v := ?_) rfl (by kernel_rfl) (by kernel_rfl) (by kernel_rfl) (fun _ _ _ h => h) (Or.inl ⟨by rfl, ?_⟩) (by assumption) ?_
    rotate_left
    · (intro w hSw; (try obtain ⟨hSw1, hSw2⟩ := hSw); go_simp; (try with_reducible rfl))
    (try simp only [Act.put, List.setIfInBounds_toArray, List.set_cons_zero, List.set_cons_succ])
    refine wpAnyH_done (by kernel_rfl) ?_ _
    go_wp2_with fail
    go_meet
    exact ⟨rfl, HKF⟩
  case rest =>
    obtain ⟨rfl, HKC⟩ := hcut
    have HBC := hidMk (HB.out wc HKC.out)
    by_cases hr : root = 0
    · subst hr
      clear HG HB
      go_wp2_with fail
      go_ret2
      refine ⟨rfl, ?_, HBC.out.2⟩
      unfold KeepZ
      rw [if_pos rfl]
      exact HBC.out.1.raiseR (by omega) hM
    · have hrb : (root == 0) = false := by simpa using hr
      have HKP := hidMk (br_KeepZ HBC.out.1 hM root hr)
      clear HG HB
      go_wp2_with fail
      refine HKP.out.mono ?_
      rintro e w5 ⟨⟨v, rfl⟩, hb5, hx5⟩
      have H5 := hidMk (And.intro hb5 (HBC.out.2.trans hx5))
      clear hb5 hx5 HKP
      go_wp2_with fail
      go_ret2
      exact ⟨rfl, H5.out.1, H5.out.2⟩
end
end Go.Proofs.YtjkbhaplngnniaaDoor
