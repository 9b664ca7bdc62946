/- moietylaw10: alike. -/
import Derived.Test.YtjkbhaplngnniaaDoorPg26
import Derived.Deep.CutRange
import Derived.Deep.RegionHeld3
namespace Go.Proofs.YtjkbhaplngnniaaDoor
open Go.RowKit Go.Maps
set_option linter.unusedSimpArgs false
set_option linter.unusedVariables false

theorem new_entry (w : World) : (w.alloc (.cells #[.int .i64 0, .bool false] 39)).cell? ⟨w.heap.size, 0, none⟩ = some (.int .i64 0) ∧ (w.alloc (.cells #[.int .i64 0, .bool false] 39)).cell? ⟨w.heap.size, 1, none⟩ = some (.bool false) ∧ ∀ j, (w.alloc (.cells #[.int .i64 0, .bool false] 39)).frozen? ⟨w.heap.size, j, none⟩ = false := by
  have hr := new_range w [.int .i64 0, .bool false] 39
  refine ⟨hr 0 _ rfl, hr 1 _ rfl, fun j => ?_⟩
  have hh := World.heap_new w (.cells #[.int .i64 0, .bool false] 39)
  simp only [World.frozen?, hh]; simp
theorem Kept.alloc_drew (w : World) (o : Obj) : Kept w.drew (w.alloc o).drew := (Kept.refl w.drew).alloc o
theorem Kept.setCells2 {a w : World} (h : Kept a w) {b : Nat} (hb : a.heap.size ≤ b) (u v : Value) : Kept a ((w.setCell ⟨b, 0, none⟩ u).setCell ⟨b, 1, none⟩ v) := (h.setCell (p := ⟨b, 0, none⟩) hb u).setCell (p := ⟨b, 1, none⟩) hb v
theorem ent_set {w : World} {b : Nat} {u0 u1 x y : Value} (h0 : w.cell? ⟨b, 0, none⟩ = some u0) (h1 : w.cell? ⟨b, 1, none⟩ = some u1) : ((w.setCell ⟨b, 0, none⟩ x).setCell ⟨b, 1, none⟩ y).cell? ⟨b, 0, none⟩ = some x ∧ ((w.setCell ⟨b, 0, none⟩ x).setCell ⟨b, 1, none⟩ y).cell? ⟨b, 1, none⟩ = some y := by
  refine ⟨?_, World.cell?_setCell_same _ _ _ (by rw [World.cell?_setCell_other _ _ _ _ (by simp)]; exact h1)⟩
  rw [World.cell?_setCell_other _ _ _ _ (by simp)]; exact World.cell?_setCell_same _ _ _ h0
theorem cfL_get : ∀ (l : List (Int × Int × Bool)) (i : Nat), i < l.length → (cfL l)[i * 3]? = some (.int .i64 (l.getD i (0, 0, false)).1) ∧ (cfL l)[i * 3 + 1]? = some (.int .i64 (l.getD i (0, 0, false)).2.1) ∧ (cfL l)[i * 3 + 2]? = some (.bool (l.getD i (0, 0, false)).2.2) := by
  intro l
  induction l with
  | nil => intro i h; simp at h
  | cons e r ih =>
    intro i h
    cases i with
    | zero => exact ⟨rfl, rfl, rfl⟩
    | succ i =>
      have := ih i (by simpa using h)
      rw [show (i + 1) * 3 = i * 3 + 3 by omega]
      exact this
theorem leaf_cells {X : World} {B : Nat} {va : Option Addr} {vc ln : Nat} {l : List (Int × Int × Bool)} (h : X.ownsRow B 80 3 (.slice va ln vc) ln (cfL l)) (hn : l.length = ln) (hm : ln ≤ 100) {i : Nat} (hi : i < ln) :
    ∃ b, va = some ⟨b, 0, none⟩ ∧ X.cell? ⟨b, i * 3, none⟩ = some (.int .i64 (l.getD i (0, 0, false)).1) ∧ X.cell? ⟨b, i * 3 + 1, none⟩ = some (.int .i64 (l.getD i (0, 0, false)).2.1) ∧ X.cell? ⟨b, i * 3 + 2, none⟩ = some (.bool (l.getD i (0, 0, false)).2.2) := by
  have hb : ∃ b, va = some ⟨b, 0, none⟩ := by
    obtain ⟨h0, ⟨h1, h2⟩ | ⟨k, cap, cur, hv, _⟩⟩ := h
    · omega
    · cases hv; exact ⟨k, rfl⟩
  obtain ⟨b, rfl⟩ := hb
  have hl := cfL_len l
  obtain ⟨c1, c2, c3⟩ := cfL_get l i (by omega)
  exact ⟨b, rfl, by rw [h.cellAt (i * 3) (by omega)]; exact c1, by rw [h.cellAt (i * 3 + 1) (by omega)]; exact c2, by rw [h.cellAt (i * 3 + 2) (by omega)]; exact c3⟩
section
variable {w0 W : World} {t g p q tb cap : Nat} {codes room : Int} {l : List (Int × Int)} {n : Nat} {rf : Int → Nat} {nd : Int → ANd} {n2 : Nat} {nd2 : Int → ANd} {M : Nat} {lev : Int → Nat}
set_option maxHeartbeats 8000000 in
set_option maxRecDepth 100000 in
theorem js_alike (h : JS w0 W t g p q tb cap codes room l n rf nd n2 nd2 M lev) (hl6 : l.length ≤ 60) (hc7 : codes ≤ 70) {k : Nat} (hk : k < l.length) (hp : 0 < (l.getD k (0, 0)).2) :
    Calls Tryd.prog 21 #[.pointer (some ⟨t, 0, none⟩), .int .i64 k] W fun e w' => e = .returned (.bool true) ∧ Kept W w' := by
  obtain ⟨m, hml⟩ : ∃ m, m = l.length := ⟨_, rfl⟩
  have hm6 : m ≤ 60 := by omega
  have hkm : (k : Int) < m := by omega
  obtain ⟨x, hx⟩ : ∃ x, x = (l.getD k (0, 0)).1 := ⟨_, rfl⟩
  have HCQ := hidMk (show W.cell? ⟨t, 0, none⟩ = some (.pointer (some ⟨g, 0, none⟩)) ∧ W.cell? ⟨t, 1, none⟩ = some (.pointer (some ⟨q, 0, none⟩)) ∧ W.cell? ⟨t, 3, none⟩ = some (.int .i64 (lvls codes)) ∧ W.cell? ⟨t, 4, none⟩ = some (.slice (some ⟨tb, 0, none⟩) m cap) ∧ W.cell? ⟨tb, k * 3 + 1, none⟩ = some (.int .i64 x) ∧ W.cell? ⟨tb, k * 3, none⟩ = some (.int .i64 x) from by
    have h1 := h.cells hk
    rw [← hx] at h1
    exact ⟨h.pl.c0, h.pl.c1, h.pl.c3, by rw [hml]; exact h.pl.c4, h1.2.1, h1.1⟩)
  have HC2 := hidMk h.pl.c2
  have HGA := hidMk (fun (c : Nat) (hc : (c : Int) < codes) X (kX : Kept W X) => js_get h hk hp kX c hc)
  have HGB := hidMk (fun (c : Nat) (hc : (c : Int) < codes) X (kX : Kept W X) => js_rget h hk hp kX c hc)
  have HAL := hidMk (fun X (kX : Kept W X) => js_All h hk hp kX)
  rw [← hx] at HGA HGB HAL
  have hk1 := h.pg.k1
  obtain ⟨cn, hcn⟩ : ∃ cn : Nat, codes = (cn : Int) := ⟨codes.toNat, by omega⟩
  have hcn7 : cn ≤ 70 := by omega
  clear h hl6 hk hp hx hml hk1 hc7
  subst hcn
  rw [Int.toNat_natCast] at HAL
  go_enter Tryd.func21, Tryd.ntmps21
  go_wp2_with fail
  go_loopg [5, 6] (cn + 1) (fun gg sv s wr => ∃ j : Nat, j + gg = cn + 1 ∧ j ≤ cn ∧ s = .int .i64 j ∧ Hid (Kept W wr ∧ wr.ownsRow W.heap.size 80 3 sv (selL nd (lvls cn) x 0 0 j).length (cfL (selL nd (lvls cn) x 0 0 j))))
  case atStart => exact ⟨0, by omega, by omega, rfl, hidMk ⟨Kept.refl _, World.ownsRow_nil _ _ _ _⟩⟩
  case round =>
    obtain ⟨j, hjg, hjc, rfl, HR⟩ := hrel
    have HG := hidMk hjg
    have HKR := hidMk HR.out.1
    have y2 := HR.out.1.cellp HC2.out
    have hlen := selL_len nd (lvls cn) x 0 0 j
    clear hjg
    obtain ⟨sa, sc, hsv⟩ := owns_shape HR.out.2
    subst hsv
    generalize hln : (selL nd (lvls cn) x 0 0 j).length = ln at *
    have HLNE := hidMk hln
    clear hln
    by_cases hj : j < cn
    · have hj' : (j : Int) < (cn : Int) := by omega
      have HG1 := hidMk (HGA.out j hj')
      have HG2 := hidMk (HGB.out j hj')
      obtain ⟨⟨p1, p2⟩, hp⟩ : ∃ z, z = entL nd (lvls cn) x j := ⟨_, rfl⟩
      rw [← hp] at HG1 HG2
      simp only at HG1 HG2
      have hsn := selL_snoc nd (lvls cn) x 0 0 j
      rw [← hp, entL_zero, Int.zero_add] at hsn
      have HSN := hidMk hsn
      clear hsn hp
      go_upto_region 5 with fail
      clear y2
      go_cut [7, 8] from 22 to 38 (fun s7 s8 W' => ∃ xb, s7 = .pointer (some ⟨xb, 0, none⟩) ∧ s8 = .int .i64 0 ∧ Hid (Kept wr W' ∧ W'.cell? ⟨xb, 0, none⟩ = some (.int .i64 p1) ∧ W'.cell? ⟨xb, 1, none⟩ = some (.bool p2)))
      case first =>
        refine wp_region_held_drew (S := (fun w' => Kept wr w')) (by kernel_rfl) ?_ (fun hHeld => ?_)
        · exact (Kept.refl wr).drew
        refine wpAnyH_take (i := 0) (oi := { dst := some 23, op := _, type := _, pos := _, after := _, guard := _ }) (v := ?_) rfl (by kernel_rfl) (by kernel_rfl) (by kernel_rfl) (fun _ _ _ h => h) (Or.inl ⟨by rfl, ?_⟩) (by assumption) ?_
        rotate_left
        · (intro w hSw; have hz := HKR.out.trans hSw; have s0 := hz.cellp HCQ.out.1; have s1 := hz.cellp HCQ.out.2.1; have s3 := hz.cellp HCQ.out.2.2.1; have s4 := hz.cellp HCQ.out.2.2.2.1; have s5 := hz.cellp HCQ.out.2.2.2.2.1; have s6 := hz.cellp HCQ.out.2.2.2.2.2; clear hSw hz; go_simp; (try with_reducible rfl))
        (try simp only [Act.put, List.setIfInBounds_toArray, List.set_cons_zero, List.set_cons_succ])
        refine wpAnyH_take (i := 1) (oi := { dst := some 24, op := _, type := _, pos := _, after := _, guard := _ }) (v := ?_) rfl (by kernel_rfl) (by kernel_rfl) (by kernel_rfl) (fun _ _ _ h => h) (Or.inl ⟨by rfl, ?_⟩) (by assumption) ?_
        rotate_left
        · (intro w hSw; have hz := HKR.out.trans hSw; have s0 := hz.cellp HCQ.out.1; have s1 := hz.cellp HCQ.out.2.1; have s3 := hz.cellp HCQ.out.2.2.1; have s4 := hz.cellp HCQ.out.2.2.2.1; have s5 := hz.cellp HCQ.out.2.2.2.2.1; have s6 := hz.cellp HCQ.out.2.2.2.2.2; clear hSw hz; go_simp; (try with_reducible rfl))
        (try simp only [Act.put, List.setIfInBounds_toArray, List.set_cons_zero, List.set_cons_succ])
        refine wpAnyH_take (i := 2) (oi := { dst := some 25, op := _, type := _, pos := _, after := _, guard := _ }) (v := ?_) rfl (by kernel_rfl) (by kernel_rfl) (by kernel_rfl) (fun _ _ _ h => h) (Or.inl ⟨by rfl, ?_⟩) (by assumption) ?_
        rotate_left
        · (intro w hSw; have hz := HKR.out.trans hSw; have s0 := hz.cellp HCQ.out.1; have s1 := hz.cellp HCQ.out.2.1; have s3 := hz.cellp HCQ.out.2.2.1; have s4 := hz.cellp HCQ.out.2.2.2.1; have s5 := hz.cellp HCQ.out.2.2.2.2.1; have s6 := hz.cellp HCQ.out.2.2.2.2.2; clear hSw hz; go_simp; (try with_reducible rfl))
        (try simp only [Act.put, List.setIfInBounds_toArray, List.set_cons_zero, List.set_cons_succ])
        refine wpAnyH_take (i := 3) (oi := { dst := some 26, op := _, type := _, pos := _, after := _, guard := _ }) (v := ?_) rfl (by kernel_rfl) (by kernel_rfl) (by kernel_rfl) (fun _ _ _ h => h) (Or.inl ⟨by rfl, ?_⟩) (by assumption) ?_
        rotate_left
        · (intro w hSw; have hz := HKR.out.trans hSw; have s0 := hz.cellp HCQ.out.1; have s1 := hz.cellp HCQ.out.2.1; have s3 := hz.cellp HCQ.out.2.2.1; have s4 := hz.cellp HCQ.out.2.2.2.1; have s5 := hz.cellp HCQ.out.2.2.2.2.1; have s6 := hz.cellp HCQ.out.2.2.2.2.2; clear hSw hz; go_simp; (try with_reducible rfl))
        (try simp only [Act.put, List.setIfInBounds_toArray, List.set_cons_zero, List.set_cons_succ])
        refine wpAnyH_take (i := 4) (oi := { dst := some 27, op := _, type := _, pos := _, after := _, guard := _ }) (v := ?_) rfl (by kernel_rfl) (by kernel_rfl) (by kernel_rfl) (fun _ _ _ h => h) (Or.inl ⟨by rfl, ?_⟩) (by assumption) ?_
        rotate_left
        · (intro w hSw; have hz := HKR.out.trans hSw; have s0 := hz.cellp HCQ.out.1; have s1 := hz.cellp HCQ.out.2.1; have s3 := hz.cellp HCQ.out.2.2.1; have s4 := hz.cellp HCQ.out.2.2.2.1; have s5 := hz.cellp HCQ.out.2.2.2.2.1; have s6 := hz.cellp HCQ.out.2.2.2.2.2; clear hSw hz; go_simp; (try with_reducible rfl))
        (try simp only [Act.put, List.setIfInBounds_toArray, List.set_cons_zero, List.set_cons_succ])
        refine wpAnyH_take (i := 5) (oi := { dst := some 28, op := _, type := _, pos := _, after := _, guard := _ }) (v := ?_) rfl (by kernel_rfl) (by kernel_rfl) (by kernel_rfl) (fun _ _ _ h => h) (Or.inl ⟨by rfl, ?_⟩) (by assumption) ?_
        rotate_left
        · (intro w hSw; have hz := HKR.out.trans hSw; have s0 := hz.cellp HCQ.out.1; have s1 := hz.cellp HCQ.out.2.1; have s3 := hz.cellp HCQ.out.2.2.1; have s4 := hz.cellp HCQ.out.2.2.2.1; have s5 := hz.cellp HCQ.out.2.2.2.2.1; have s6 := hz.cellp HCQ.out.2.2.2.2.2; clear hSw hz; go_simp; (try with_reducible rfl))
        (try simp only [Act.put, List.setIfInBounds_toArray, List.set_cons_zero, List.set_cons_succ])
        refine wpAnyH_take (i := 6) (oi := { dst := some 29, op := _, type := _, pos := _, after := _, guard := _ }) (v := ?_) rfl (by kernel_rfl) (by kernel_rfl) (by kernel_rfl) (fun _ _ _ h => h) (Or.inl ⟨by rfl, ?_⟩) (by assumption) ?_
        rotate_left
        · (intro w hSw; have hz := HKR.out.trans hSw; have s0 := hz.cellp HCQ.out.1; have s1 := hz.cellp HCQ.out.2.1; have s3 := hz.cellp HCQ.out.2.2.1; have s4 := hz.cellp HCQ.out.2.2.2.1; have s5 := hz.cellp HCQ.out.2.2.2.2.1; have s6 := hz.cellp HCQ.out.2.2.2.2.2; clear hSw hz; go_simp; (try with_reducible rfl))
        (try simp only [Act.put, List.setIfInBounds_toArray, List.set_cons_zero, List.set_cons_succ])
        refine wpAnyH_take (i := 7) (oi := { dst := some 30, op := _, type := _, pos := _, after := _, guard := _ }) (v := ?_) rfl (by kernel_rfl) (by kernel_rfl) (by kernel_rfl) (fun _ _ _ h => h) (Or.inl ⟨by rfl, ?_⟩) (by assumption) ?_
        rotate_left
        · (intro w hSw; have hz := HKR.out.trans hSw; have s0 := hz.cellp HCQ.out.1; have s1 := hz.cellp HCQ.out.2.1; have s3 := hz.cellp HCQ.out.2.2.1; have s4 := hz.cellp HCQ.out.2.2.2.1; have s5 := hz.cellp HCQ.out.2.2.2.2.1; have s6 := hz.cellp HCQ.out.2.2.2.2.2; clear hSw hz; go_simp; (try with_reducible rfl))
        (try simp only [Act.put, List.setIfInBounds_toArray, List.set_cons_zero, List.set_cons_succ])
        refine wpAnyH_take (i := 8) (oi := { dst := some 31, op := _, type := _, pos := _, after := _, guard := _ }) (v := ?_) rfl (by kernel_rfl) (by kernel_rfl) (by kernel_rfl) (fun _ _ _ h => h) (Or.inl ⟨by rfl, ?_⟩) (by assumption) ?_
        rotate_left
        · (intro w hSw; have hz := HKR.out.trans hSw; have s0 := hz.cellp HCQ.out.1; have s1 := hz.cellp HCQ.out.2.1; have s3 := hz.cellp HCQ.out.2.2.1; have s4 := hz.cellp HCQ.out.2.2.2.1; have s5 := hz.cellp HCQ.out.2.2.2.2.1; have s6 := hz.cellp HCQ.out.2.2.2.2.2; clear hSw hz; go_simp; (try with_reducible rfl))
        (try simp only [Act.put, List.setIfInBounds_toArray, List.set_cons_zero, List.set_cons_succ])
        refine wpAnyH_take (i := 9) (oi := { dst := some 32, op := _, type := _, pos := _, after := _, guard := _ }) (v := ?_) rfl (by kernel_rfl) (by kernel_rfl) (by kernel_rfl) (fun _ _ _ h => h) (Or.inl ⟨by rfl, ?_⟩) (by assumption) ?_
        rotate_left
        · (intro w hSw; have hz := HKR.out.trans hSw; have s0 := hz.cellp HCQ.out.1; have s1 := hz.cellp HCQ.out.2.1; have s3 := hz.cellp HCQ.out.2.2.1; have s4 := hz.cellp HCQ.out.2.2.2.1; have s5 := hz.cellp HCQ.out.2.2.2.2.1; have s6 := hz.cellp HCQ.out.2.2.2.2.2; clear hSw hz; go_simp; (try with_reducible rfl))
        (try simp only [Act.put, List.setIfInBounds_toArray, List.set_cons_zero, List.set_cons_succ])
        refine wpAnyH_take (i := 10) (oi := { dst := some 33, op := _, type := _, pos := _, after := _, guard := _ }) (v := ?_) rfl (by kernel_rfl) (by kernel_rfl) (by kernel_rfl) (fun _ _ _ h => h) (Or.inl ⟨by rfl, ?_⟩) (by assumption) ?_
        rotate_left
        · (intro w hSw; have hz := HKR.out.trans hSw; have s0 := hz.cellp HCQ.out.1; have s1 := hz.cellp HCQ.out.2.1; have s3 := hz.cellp HCQ.out.2.2.1; have s4 := hz.cellp HCQ.out.2.2.2.1; have s5 := hz.cellp HCQ.out.2.2.2.2.1; have s6 := hz.cellp HCQ.out.2.2.2.2.2; clear hSw hz; go_simp; (try with_reducible rfl))
        (try simp only [Act.put, List.setIfInBounds_toArray, List.set_cons_zero, List.set_cons_succ])
        refine wpAnyH_take (i := 11) (oi := { dst := some 34, op := _, type := _, pos := _, after := _, guard := _ }) (v := ?_) rfl (by kernel_rfl) (by kernel_rfl) (by kernel_rfl) (fun _ _ _ h => h) (Or.inl ⟨by rfl, ?_⟩) (by assumption) ?_
        rotate_left
        · (intro w hSw; have hz := HKR.out.trans hSw; have s0 := hz.cellp HCQ.out.1; have s1 := hz.cellp HCQ.out.2.1; have s3 := hz.cellp HCQ.out.2.2.1; have s4 := hz.cellp HCQ.out.2.2.2.1; have s5 := hz.cellp HCQ.out.2.2.2.2.1; have s6 := hz.cellp HCQ.out.2.2.2.2.2; clear hSw hz; go_simp; (try with_reducible rfl))
        (try simp only [Act.put, List.setIfInBounds_toArray, List.set_cons_zero, List.set_cons_succ])
        refine wpAnyH_take (i := 12) (oi := { dst := some 35, op := _, type := _, pos := _, after := _, guard := _ }) (v := ?_) rfl (by kernel_rfl) (by kernel_rfl) (by kernel_rfl) (fun _ _ _ h => h) (Or.inl ⟨by rfl, ?_⟩) (by assumption) ?_
        rotate_left
        · (intro w hSw; have hz := HKR.out.trans hSw; have s0 := hz.cellp HCQ.out.1; have s1 := hz.cellp HCQ.out.2.1; have s3 := hz.cellp HCQ.out.2.2.1; have s4 := hz.cellp HCQ.out.2.2.2.1; have s5 := hz.cellp HCQ.out.2.2.2.2.1; have s6 := hz.cellp HCQ.out.2.2.2.2.2; clear hSw hz; go_simp; (try with_reducible rfl))
        (try simp only [Act.put, List.setIfInBounds_toArray, List.set_cons_zero, List.set_cons_succ])
        refine wpAnyH_ready (rs := [13, 17]) (by kernel_rfl) (by simp) ?_
        refine (AllReadyH.cons (o := { dst := some 36, op := _, type := _, pos := _, after := _, guard := _ }) rfl (fun K hK => ?_) (AllReadyH.cons (o := { dst := some 7, op := _, type := _, pos := _, after := _, guard := _ }) rfl (fun K hK => ?_) AllReadyH.nil))
        · go_simp
          refine (HG1.out _ (HKR.out.trans hHeld)).mono ?_
          rintro e wG ⟨rfl, kG⟩
          have HKG := hidMk kG
          clear kG
          (try go_wp2_with fail)
          refine hK.out _ _ ?_ (fun hHeld => ?_)
          · exact hHeld.trans HKG.out
          clear hK K
          (try simp only [Act.put, List.setIfInBounds_toArray, List.set_cons_zero, List.set_cons_succ])
          refine wpAnyH_take (i := 14) (oi := { dst := some 22, op := _, type := _, pos := _, after := _, guard := _ }) (v := ?_) rfl (by kernel_rfl) (by kernel_rfl) (by kernel_rfl) (fun _ _ _ h => h) (Or.inl ⟨by rfl, ?_⟩) (by assumption) ?_
          rotate_left
          · (intro w hSw; have hz := HKR.out.trans hSw; have s0 := hz.cellp HCQ.out.1; have s1 := hz.cellp HCQ.out.2.1; have s3 := hz.cellp HCQ.out.2.2.1; have s4 := hz.cellp HCQ.out.2.2.2.1; have s5 := hz.cellp HCQ.out.2.2.2.2.1; have s6 := hz.cellp HCQ.out.2.2.2.2.2; clear hSw hz; go_simp; (try with_reducible rfl))
          (try simp only [Act.put, List.setIfInBounds_toArray, List.set_cons_zero, List.set_cons_succ])
          refine wpAnyH_take (i := 15) (oi := { dst := some 37, op := _, type := _, pos := _, after := _, guard := _ }) (v := ?_) rfl (by kernel_rfl) (by kernel_rfl) (by kernel_rfl) (fun _ _ _ h => h) (Or.inl ⟨by rfl, ?_⟩) (by assumption) ?_
          rotate_left
          · (intro w hSw; have hz := HKR.out.trans hSw; have s0 := hz.cellp HCQ.out.1; have s1 := hz.cellp HCQ.out.2.1; have s3 := hz.cellp HCQ.out.2.2.1; have s4 := hz.cellp HCQ.out.2.2.2.1; have s5 := hz.cellp HCQ.out.2.2.2.2.1; have s6 := hz.cellp HCQ.out.2.2.2.2.2; clear hSw hz; go_simp; (try with_reducible rfl))
          (try simp only [Act.put, List.setIfInBounds_toArray, List.set_cons_zero, List.set_cons_succ])
          refine wpAnyH_take (i := 16) (oi := { dst := some 38, op := _, type := _, pos := _, after := _, guard := _ }) (v := ?_) rfl (by kernel_rfl) (by kernel_rfl) (by kernel_rfl) (fun _ _ _ h => h) (Or.inl ⟨by rfl, ?_⟩) (by assumption) ?_
          rotate_left
          · (intro w hSw; have hz := HKR.out.trans hSw; have s0 := hz.cellp HCQ.out.1; have s1 := hz.cellp HCQ.out.2.1; have s3 := hz.cellp HCQ.out.2.2.1; have s4 := hz.cellp HCQ.out.2.2.2.1; have s5 := hz.cellp HCQ.out.2.2.2.2.1; have s6 := hz.cellp HCQ.out.2.2.2.2.2; clear hSw hz; go_simp; (try with_reducible rfl))
          (try simp only [Act.put, List.setIfInBounds_toArray, List.set_cons_zero, List.set_cons_succ])
          refine wpAnyH_ready (rs := [17]) (by kernel_rfl) (by simp) ?_
          refine (AllReadyH.cons (o := { dst := some 7, op := _, type := _, pos := _, after := _, guard := _ }) rfl (fun K hK => ?_) AllReadyH.nil)
          go_simp
          obtain ⟨eb, heb⟩ : ∃ b, b = wG.heap.size := ⟨_, rfl⟩
          obtain ⟨X, hX⟩ : ∃ X, X = wG.alloc (.cells #[.int .i64 0, .bool false] 39) := ⟨_, rfl⟩
          have HEB := hidMk (show X.cell? ⟨eb, 0, none⟩ = some (.int .i64 0) ∧ X.cell? ⟨eb, 1, none⟩ = some (.bool false) ∧ ∀ j, X.frozen? ⟨eb, j, none⟩ = false from by rw [hX, heb]; exact new_entry _)
          have HKX := hidMk (show Kept wG X from by rw [hX]; exact (Kept.refl _).alloc _)
          have HLO := hidMk (show wG.heap.size ≤ eb from by rw [heb]; exact Nat.le_refl _)
          have g0 := HEB.out.1
          have g1 := HEB.out.2.1
          have gf0 := HEB.out.2.2 0
          have gf1 := HEB.out.2.2 1
          rw [← hX, ← heb]
          clear hX heb
          refine hK.out _ _ ?_ (fun hHeld => ?_)
          · exact hHeld.trans HKX.out
          clear hK K
          (try simp only [Act.put, List.setIfInBounds_toArray, List.set_cons_zero, List.set_cons_succ])
          refine wpAnyH_ready (rs := [18]) (by kernel_rfl) (by simp) ?_
          refine (AllReadyH.cons (o := { dst := none, op := _, type := _, pos := _, after := _, guard := _ }) rfl (fun K hK => ?_) AllReadyH.nil)
          have HLE := hidMk (show wr.heap.size ≤ eb from Nat.le_trans ((Kept.refl wr).drew.trans HKG.out).size HLO.out)
          go_simp
          refine hK.out _ _ ?_ (fun hHeld => ?_)
          · exact hHeld.setCells2 HLE.out _ _
          clear hK K
          (try simp only [Act.put, List.setIfInBounds_toArray, List.set_cons_zero, List.set_cons_succ])
          refine wpAnyH_take (i := 19) (oi := { dst := some 8, op := _, type := _, pos := _, after := _, guard := _ }) (v := ?_) rfl (by kernel_rfl) (by kernel_rfl) (by kernel_rfl) (fun _ _ _ h => h) (Or.inl ⟨by rfl, ?_⟩) (by assumption) ?_
          rotate_left
          · (intro w hSw; have hz := HKR.out.trans hSw; have s0 := hz.cellp HCQ.out.1; have s1 := hz.cellp HCQ.out.2.1; have s3 := hz.cellp HCQ.out.2.2.1; have s4 := hz.cellp HCQ.out.2.2.2.1; have s5 := hz.cellp HCQ.out.2.2.2.2.1; have s6 := hz.cellp HCQ.out.2.2.2.2.2; clear hSw hz; go_simp; (try with_reducible rfl))
          (try simp only [Act.put, List.setIfInBounds_toArray, List.set_cons_zero, List.set_cons_succ])
          refine wpAnyH_done (by kernel_rfl) ?_ _
          go_wp2_with fail
          go_meet
          exact ⟨eb, rfl, rfl, hidMk ⟨(((Kept.refl wr).drew).trans (HKG.out.trans HKX.out)).setCells2 HLE.out _ _, ent_set g0 g1⟩⟩
        · go_simp
          obtain ⟨eb, heb⟩ : ∃ b, b = wr.heap.size := ⟨_, rfl⟩
          obtain ⟨X, hX⟩ : ∃ X, X = (wr.alloc (.cells #[.int .i64 0, .bool false] 39)).drew := ⟨_, rfl⟩
          have HEB := hidMk (show X.cell? ⟨eb, 0, none⟩ = some (.int .i64 0) ∧ X.cell? ⟨eb, 1, none⟩ = some (.bool false) ∧ ∀ j, X.frozen? ⟨eb, j, none⟩ = false from by rw [hX, heb]; exact new_entry _)
          have HKX := hidMk (show Kept wr.drew X from by rw [hX]; exact Kept.alloc_drew _ _)
          have HLO := hidMk (show wr.drew.heap.size ≤ eb from by rw [heb]; exact Nat.le_refl _)
          rw [← hX, ← heb]
          clear hX heb
          refine hK.out _ _ ?_ (fun hHeld => ?_)
          · exact hHeld.trans HKX.out
          clear hK K
          (try simp only [Act.put, List.setIfInBounds_toArray, List.set_cons_zero, List.set_cons_succ])
          refine wpAnyH_ready (rs := [13]) (by kernel_rfl) (by simp) ?_
          refine (AllReadyH.cons (o := { dst := some 36, op := _, type := _, pos := _, after := _, guard := _ }) rfl (fun K hK => ?_) AllReadyH.nil)
          go_simp
          refine (HG1.out _ (HKR.out.trans hHeld)).mono ?_
          rintro e wG ⟨rfl, kG⟩
          have HKG := hidMk kG
          have g0 : wG.cell? ⟨eb, 0, none⟩ = some (.int .i64 0) := kG.cellp HEB.out.1
          have g1 : wG.cell? ⟨eb, 1, none⟩ = some (.bool false) := kG.cellp HEB.out.2.1
          have gf0 : wG.frozen? ⟨eb, 0, none⟩ = false := (kG.frozen (p := ⟨eb, 0, none⟩) (cell_lt HEB.out.1)).trans (HEB.out.2.2 0)
          have gf1 : wG.frozen? ⟨eb, 1, none⟩ = false := (kG.frozen (p := ⟨eb, 1, none⟩) (cell_lt HEB.out.2.1)).trans (HEB.out.2.2 1)
          clear kG
          (try go_wp2_with fail)
          refine hK.out _ _ ?_ (fun hHeld => ?_)
          · exact hHeld.trans HKG.out
          clear hK K
          (try simp only [Act.put, List.setIfInBounds_toArray, List.set_cons_zero, List.set_cons_succ])
          refine wpAnyH_take (i := 14) (oi := { dst := some 22, op := _, type := _, pos := _, after := _, guard := _ }) (v := ?_) rfl (by kernel_rfl) (by kernel_rfl) (by kernel_rfl) (fun _ _ _ h => h) (Or.inl ⟨by rfl, ?_⟩) (by assumption) ?_
          rotate_left
          · (intro w hSw; have hz := HKR.out.trans hSw; have s0 := hz.cellp HCQ.out.1; have s1 := hz.cellp HCQ.out.2.1; have s3 := hz.cellp HCQ.out.2.2.1; have s4 := hz.cellp HCQ.out.2.2.2.1; have s5 := hz.cellp HCQ.out.2.2.2.2.1; have s6 := hz.cellp HCQ.out.2.2.2.2.2; clear hSw hz; go_simp; (try with_reducible rfl))
          (try simp only [Act.put, List.setIfInBounds_toArray, List.set_cons_zero, List.set_cons_succ])
          refine wpAnyH_take (i := 15) (oi := { dst := some 37, op := _, type := _, pos := _, after := _, guard := _ }) (v := ?_) rfl (by kernel_rfl) (by kernel_rfl) (by kernel_rfl) (fun _ _ _ h => h) (Or.inl ⟨by rfl, ?_⟩) (by assumption) ?_
          rotate_left
          · (intro w hSw; have hz := HKR.out.trans hSw; have s0 := hz.cellp HCQ.out.1; have s1 := hz.cellp HCQ.out.2.1; have s3 := hz.cellp HCQ.out.2.2.1; have s4 := hz.cellp HCQ.out.2.2.2.1; have s5 := hz.cellp HCQ.out.2.2.2.2.1; have s6 := hz.cellp HCQ.out.2.2.2.2.2; clear hSw hz; go_simp; (try with_reducible rfl))
          (try simp only [Act.put, List.setIfInBounds_toArray, List.set_cons_zero, List.set_cons_succ])
          refine wpAnyH_take (i := 16) (oi := { dst := some 38, op := _, type := _, pos := _, after := _, guard := _ }) (v := ?_) rfl (by kernel_rfl) (by kernel_rfl) (by kernel_rfl) (fun _ _ _ h => h) (Or.inl ⟨by rfl, ?_⟩) (by assumption) ?_
          rotate_left
          · (intro w hSw; have hz := HKR.out.trans hSw; have s0 := hz.cellp HCQ.out.1; have s1 := hz.cellp HCQ.out.2.1; have s3 := hz.cellp HCQ.out.2.2.1; have s4 := hz.cellp HCQ.out.2.2.2.1; have s5 := hz.cellp HCQ.out.2.2.2.2.1; have s6 := hz.cellp HCQ.out.2.2.2.2.2; clear hSw hz; go_simp; (try with_reducible rfl))
          (try simp only [Act.put, List.setIfInBounds_toArray, List.set_cons_zero, List.set_cons_succ])
          refine wpAnyH_ready (rs := [18]) (by kernel_rfl) (by simp) ?_
          refine (AllReadyH.cons (o := { dst := none, op := _, type := _, pos := _, after := _, guard := _ }) rfl (fun K hK => ?_) AllReadyH.nil)
          have HLE := hidMk (show wr.heap.size ≤ eb from Nat.le_trans (Kept.refl wr).drew.size HLO.out)
          go_simp
          refine hK.out _ _ ?_ (fun hHeld => ?_)
          · exact hHeld.setCells2 HLE.out _ _
          clear hK K
          (try simp only [Act.put, List.setIfInBounds_toArray, List.set_cons_zero, List.set_cons_succ])
          refine wpAnyH_take (i := 19) (oi := { dst := some 8, op := _, type := _, pos := _, after := _, guard := _ }) (v := ?_) rfl (by kernel_rfl) (by kernel_rfl) (by kernel_rfl) (fun _ _ _ h => h) (Or.inl ⟨by rfl, ?_⟩) (by assumption) ?_
          rotate_left
          · (intro w hSw; have hz := HKR.out.trans hSw; have s0 := hz.cellp HCQ.out.1; have s1 := hz.cellp HCQ.out.2.1; have s3 := hz.cellp HCQ.out.2.2.1; have s4 := hz.cellp HCQ.out.2.2.2.1; have s5 := hz.cellp HCQ.out.2.2.2.2.1; have s6 := hz.cellp HCQ.out.2.2.2.2.2; clear hSw hz; go_simp; (try with_reducible rfl))
          (try simp only [Act.put, List.setIfInBounds_toArray, List.set_cons_zero, List.set_cons_succ])
          refine wpAnyH_done (by kernel_rfl) ?_ _
          go_wp2_with fail
          go_meet
          exact ⟨eb, rfl, rfl, hidMk ⟨(((Kept.refl wr).drew).trans (HKX.out.trans HKG.out)).setCells2 HLE.out _ _, ent_set g0 g1⟩⟩
      case rest =>
        obtain ⟨xb, rfl, rfl, HC5⟩ := hcut
        generalize hw5 : wc = w5 at *
        clear hw5
        have HKR0 := HKR
        have HKR := hidMk (HKR0.out.trans HC5.out.1)
        go_upto_region 6 with fail
        go_cut [9] from 39 to 56 (fun s9 W' => ∃ yb, s9 = .pointer (some ⟨yb, 0, none⟩) ∧ Hid (Kept w5 W' ∧ W'.cell? ⟨yb, 0, none⟩ = some (.int .i64 p1) ∧ W'.cell? ⟨yb, 1, none⟩ = some (.bool p2)))
        case first =>
          refine wp_region_held_drew (S := (fun w' => Kept w5 w')) (by kernel_rfl) ?_ (fun hHeld => ?_)
          · exact (Kept.refl w5).drew
          refine wpAnyH_take (i := 0) (oi := { dst := some 39, op := _, type := _, pos := _, after := _, guard := _ }) (v := ?_) rfl (by kernel_rfl) (by kernel_rfl) (by kernel_rfl) (fun _ _ _ h => h) (Or.inl ⟨by rfl, ?_⟩) (by assumption) ?_
          rotate_left
          · (intro w hSw; have hz := HKR.out.trans hSw; have s0 := hz.cellp HCQ.out.1; have s1 := hz.cellp HCQ.out.2.1; have s3 := hz.cellp HCQ.out.2.2.1; have s4 := hz.cellp HCQ.out.2.2.2.1; have s5 := hz.cellp HCQ.out.2.2.2.2.1; have s6 := hz.cellp HCQ.out.2.2.2.2.2; clear hSw hz; go_simp; (try with_reducible rfl))
          (try simp only [Act.put, List.setIfInBounds_toArray, List.set_cons_zero, List.set_cons_succ])
          refine wpAnyH_take (i := 1) (oi := { dst := some 40, op := _, type := _, pos := _, after := _, guard := _ }) (v := ?_) rfl (by kernel_rfl) (by kernel_rfl) (by kernel_rfl) (fun _ _ _ h => h) (Or.inl ⟨by rfl, ?_⟩) (by assumption) ?_
          rotate_left
          · (intro w hSw; have hz := HKR.out.trans hSw; have s0 := hz.cellp HCQ.out.1; have s1 := hz.cellp HCQ.out.2.1; have s3 := hz.cellp HCQ.out.2.2.1; have s4 := hz.cellp HCQ.out.2.2.2.1; have s5 := hz.cellp HCQ.out.2.2.2.2.1; have s6 := hz.cellp HCQ.out.2.2.2.2.2; clear hSw hz; go_simp; (try with_reducible rfl))
          (try simp only [Act.put, List.setIfInBounds_toArray, List.set_cons_zero, List.set_cons_succ])
          refine wpAnyH_take (i := 2) (oi := { dst := some 41, op := _, type := _, pos := _, after := _, guard := _ }) (v := ?_) rfl (by kernel_rfl) (by kernel_rfl) (by kernel_rfl) (fun _ _ _ h => h) (Or.inl ⟨by rfl, ?_⟩) (by assumption) ?_
          rotate_left
          · (intro w hSw; have hz := HKR.out.trans hSw; have s0 := hz.cellp HCQ.out.1; have s1 := hz.cellp HCQ.out.2.1; have s3 := hz.cellp HCQ.out.2.2.1; have s4 := hz.cellp HCQ.out.2.2.2.1; have s5 := hz.cellp HCQ.out.2.2.2.2.1; have s6 := hz.cellp HCQ.out.2.2.2.2.2; clear hSw hz; go_simp; (try with_reducible rfl))
          (try simp only [Act.put, List.setIfInBounds_toArray, List.set_cons_zero, List.set_cons_succ])
          refine wpAnyH_take (i := 3) (oi := { dst := some 42, op := _, type := _, pos := _, after := _, guard := _ }) (v := ?_) rfl (by kernel_rfl) (by kernel_rfl) (by kernel_rfl) (fun _ _ _ h => h) (Or.inl ⟨by rfl, ?_⟩) (by assumption) ?_
          rotate_left
          · (intro w hSw; have hz := HKR.out.trans hSw; have s0 := hz.cellp HCQ.out.1; have s1 := hz.cellp HCQ.out.2.1; have s3 := hz.cellp HCQ.out.2.2.1; have s4 := hz.cellp HCQ.out.2.2.2.1; have s5 := hz.cellp HCQ.out.2.2.2.2.1; have s6 := hz.cellp HCQ.out.2.2.2.2.2; clear hSw hz; go_simp; (try with_reducible rfl))
          (try simp only [Act.put, List.setIfInBounds_toArray, List.set_cons_zero, List.set_cons_succ])
          refine wpAnyH_take (i := 4) (oi := { dst := some 43, op := _, type := _, pos := _, after := _, guard := _ }) (v := ?_) rfl (by kernel_rfl) (by kernel_rfl) (by kernel_rfl) (fun _ _ _ h => h) (Or.inl ⟨by rfl, ?_⟩) (by assumption) ?_
          rotate_left
          · (intro w hSw; have hz := HKR.out.trans hSw; have s0 := hz.cellp HCQ.out.1; have s1 := hz.cellp HCQ.out.2.1; have s3 := hz.cellp HCQ.out.2.2.1; have s4 := hz.cellp HCQ.out.2.2.2.1; have s5 := hz.cellp HCQ.out.2.2.2.2.1; have s6 := hz.cellp HCQ.out.2.2.2.2.2; clear hSw hz; go_simp; (try with_reducible rfl))
          (try simp only [Act.put, List.setIfInBounds_toArray, List.set_cons_zero, List.set_cons_succ])
          refine wpAnyH_take (i := 5) (oi := { dst := some 44, op := _, type := _, pos := _, after := _, guard := _ }) (v := ?_) rfl (by kernel_rfl) (by kernel_rfl) (by kernel_rfl) (fun _ _ _ h => h) (Or.inl ⟨by rfl, ?_⟩) (by assumption) ?_
          rotate_left
          · (intro w hSw; have hz := HKR.out.trans hSw; have s0 := hz.cellp HCQ.out.1; have s1 := hz.cellp HCQ.out.2.1; have s3 := hz.cellp HCQ.out.2.2.1; have s4 := hz.cellp HCQ.out.2.2.2.1; have s5 := hz.cellp HCQ.out.2.2.2.2.1; have s6 := hz.cellp HCQ.out.2.2.2.2.2; clear hSw hz; go_simp; (try with_reducible rfl))
          (try simp only [Act.put, List.setIfInBounds_toArray, List.set_cons_zero, List.set_cons_succ])
          refine wpAnyH_take (i := 6) (oi := { dst := some 45, op := _, type := _, pos := _, after := _, guard := _ }) (v := ?_) rfl (by kernel_rfl) (by kernel_rfl) (by kernel_rfl) (fun _ _ _ h => h) (Or.inl ⟨by rfl, ?_⟩) (by assumption) ?_
          rotate_left
          · (intro w hSw; have hz := HKR.out.trans hSw; have s0 := hz.cellp HCQ.out.1; have s1 := hz.cellp HCQ.out.2.1; have s3 := hz.cellp HCQ.out.2.2.1; have s4 := hz.cellp HCQ.out.2.2.2.1; have s5 := hz.cellp HCQ.out.2.2.2.2.1; have s6 := hz.cellp HCQ.out.2.2.2.2.2; clear hSw hz; go_simp; (try with_reducible rfl))
          (try simp only [Act.put, List.setIfInBounds_toArray, List.set_cons_zero, List.set_cons_succ])
          refine wpAnyH_take (i := 7) (oi := { dst := some 46, op := _, type := _, pos := _, after := _, guard := _ }) (v := ?_) rfl (by kernel_rfl) (by kernel_rfl) (by kernel_rfl) (fun _ _ _ h => h) (Or.inl ⟨by rfl, ?_⟩) (by assumption) ?_
          rotate_left
          · (intro w hSw; have hz := HKR.out.trans hSw; have s0 := hz.cellp HCQ.out.1; have s1 := hz.cellp HCQ.out.2.1; have s3 := hz.cellp HCQ.out.2.2.1; have s4 := hz.cellp HCQ.out.2.2.2.1; have s5 := hz.cellp HCQ.out.2.2.2.2.1; have s6 := hz.cellp HCQ.out.2.2.2.2.2; clear hSw hz; go_simp; (try with_reducible rfl))
          (try simp only [Act.put, List.setIfInBounds_toArray, List.set_cons_zero, List.set_cons_succ])
          refine wpAnyH_take (i := 8) (oi := { dst := some 47, op := _, type := _, pos := _, after := _, guard := _ }) (v := ?_) rfl (by kernel_rfl) (by kernel_rfl) (by kernel_rfl) (fun _ _ _ h => h) (Or.inl ⟨by rfl, ?_⟩) (by assumption) ?_
          rotate_left
          · (intro w hSw; have hz := HKR.out.trans hSw; have s0 := hz.cellp HCQ.out.1; have s1 := hz.cellp HCQ.out.2.1; have s3 := hz.cellp HCQ.out.2.2.1; have s4 := hz.cellp HCQ.out.2.2.2.1; have s5 := hz.cellp HCQ.out.2.2.2.2.1; have s6 := hz.cellp HCQ.out.2.2.2.2.2; clear hSw hz; go_simp; (try with_reducible rfl))
          (try simp only [Act.put, List.setIfInBounds_toArray, List.set_cons_zero, List.set_cons_succ])
          refine wpAnyH_take (i := 9) (oi := { dst := some 48, op := _, type := _, pos := _, after := _, guard := _ }) (v := ?_) rfl (by kernel_rfl) (by kernel_rfl) (by kernel_rfl) (fun _ _ _ h => h) (Or.inl ⟨by rfl, ?_⟩) (by assumption) ?_
          rotate_left
          · (intro w hSw; have hz := HKR.out.trans hSw; have s0 := hz.cellp HCQ.out.1; have s1 := hz.cellp HCQ.out.2.1; have s3 := hz.cellp HCQ.out.2.2.1; have s4 := hz.cellp HCQ.out.2.2.2.1; have s5 := hz.cellp HCQ.out.2.2.2.2.1; have s6 := hz.cellp HCQ.out.2.2.2.2.2; clear hSw hz; go_simp; (try with_reducible rfl))
          (try simp only [Act.put, List.setIfInBounds_toArray, List.set_cons_zero, List.set_cons_succ])
          refine wpAnyH_take (i := 10) (oi := { dst := some 49, op := _, type := _, pos := _, after := _, guard := _ }) (v := ?_) rfl (by kernel_rfl) (by kernel_rfl) (by kernel_rfl) (fun _ _ _ h => h) (Or.inl ⟨by rfl, ?_⟩) (by assumption) ?_
          rotate_left
          · (intro w hSw; have hz := HKR.out.trans hSw; have s0 := hz.cellp HCQ.out.1; have s1 := hz.cellp HCQ.out.2.1; have s3 := hz.cellp HCQ.out.2.2.1; have s4 := hz.cellp HCQ.out.2.2.2.1; have s5 := hz.cellp HCQ.out.2.2.2.2.1; have s6 := hz.cellp HCQ.out.2.2.2.2.2; clear hSw hz; go_simp; (try with_reducible rfl))
          (try simp only [Act.put, List.setIfInBounds_toArray, List.set_cons_zero, List.set_cons_succ])
          refine wpAnyH_take (i := 11) (oi := { dst := some 50, op := _, type := _, pos := _, after := _, guard := _ }) (v := ?_) rfl (by kernel_rfl) (by kernel_rfl) (by kernel_rfl) (fun _ _ _ h => h) (Or.inl ⟨by rfl, ?_⟩) (by assumption) ?_
          rotate_left
          · (intro w hSw; have hz := HKR.out.trans hSw; have s0 := hz.cellp HCQ.out.1; have s1 := hz.cellp HCQ.out.2.1; have s3 := hz.cellp HCQ.out.2.2.1; have s4 := hz.cellp HCQ.out.2.2.2.1; have s5 := hz.cellp HCQ.out.2.2.2.2.1; have s6 := hz.cellp HCQ.out.2.2.2.2.2; clear hSw hz; go_simp; (try with_reducible rfl))
          (try simp only [Act.put, List.setIfInBounds_toArray, List.set_cons_zero, List.set_cons_succ])
          refine wpAnyH_take (i := 12) (oi := { dst := some 51, op := _, type := _, pos := _, after := _, guard := _ }) (v := ?_) rfl (by kernel_rfl) (by kernel_rfl) (by kernel_rfl) (fun _ _ _ h => h) (Or.inl ⟨by rfl, ?_⟩) (by assumption) ?_
          rotate_left
          · (intro w hSw; have hz := HKR.out.trans hSw; have s0 := hz.cellp HCQ.out.1; have s1 := hz.cellp HCQ.out.2.1; have s3 := hz.cellp HCQ.out.2.2.1; have s4 := hz.cellp HCQ.out.2.2.2.1; have s5 := hz.cellp HCQ.out.2.2.2.2.1; have s6 := hz.cellp HCQ.out.2.2.2.2.2; clear hSw hz; go_simp; (try with_reducible rfl))
          (try simp only [Act.put, List.setIfInBounds_toArray, List.set_cons_zero, List.set_cons_succ])
          refine wpAnyH_take (i := 13) (oi := { dst := some 52, op := _, type := _, pos := _, after := _, guard := _ }) (v := ?_) rfl (by kernel_rfl) (by kernel_rfl) (by kernel_rfl) (fun _ _ _ h => h) (Or.inl ⟨by rfl, ?_⟩) (by assumption) ?_
          rotate_left
          · (intro w hSw; have hz := HKR.out.trans hSw; have s0 := hz.cellp HCQ.out.1; have s1 := hz.cellp HCQ.out.2.1; have s3 := hz.cellp HCQ.out.2.2.1; have s4 := hz.cellp HCQ.out.2.2.2.1; have s5 := hz.cellp HCQ.out.2.2.2.2.1; have s6 := hz.cellp HCQ.out.2.2.2.2.2; clear hSw hz; go_simp; (try with_reducible rfl))
          (try simp only [Act.put, List.setIfInBounds_toArray, List.set_cons_zero, List.set_cons_succ])
          refine wpAnyH_take (i := 14) (oi := { dst := some 53, op := _, type := _, pos := _, after := _, guard := _ }) (v := ?_) rfl (by kernel_rfl) (by kernel_rfl) (by kernel_rfl) (fun _ _ _ h => h) (Or.inl ⟨by rfl, ?_⟩) (by assumption) ?_
          rotate_left
          · (intro w hSw; have hz := HKR.out.trans hSw; have s0 := hz.cellp HCQ.out.1; have s1 := hz.cellp HCQ.out.2.1; have s3 := hz.cellp HCQ.out.2.2.1; have s4 := hz.cellp HCQ.out.2.2.2.1; have s5 := hz.cellp HCQ.out.2.2.2.2.1; have s6 := hz.cellp HCQ.out.2.2.2.2.2; clear hSw hz; go_simp; (try with_reducible rfl))
          (try simp only [Act.put, List.setIfInBounds_toArray, List.set_cons_zero, List.set_cons_succ])
          refine wpAnyH_take (i := 15) (oi := { dst := some 54, op := _, type := _, pos := _, after := _, guard := _ }) (v := ?_) rfl (by kernel_rfl) (by kernel_rfl) (by kernel_rfl) (fun _ _ _ h => h) (Or.inl ⟨by rfl, ?_⟩) (by assumption) ?_
          rotate_left
          · (intro w hSw; have hz := HKR.out.trans hSw; have s0 := hz.cellp HCQ.out.1; have s1 := hz.cellp HCQ.out.2.1; have s3 := hz.cellp HCQ.out.2.2.1; have s4 := hz.cellp HCQ.out.2.2.2.1; have s5 := hz.cellp HCQ.out.2.2.2.2.1; have s6 := hz.cellp HCQ.out.2.2.2.2.2; clear hSw hz; go_simp; (try with_reducible rfl))
          (try simp only [Act.put, List.setIfInBounds_toArray, List.set_cons_zero, List.set_cons_succ])
          refine wpAnyH_take (i := 16) (oi := { dst := some 55, op := _, type := _, pos := _, after := _, guard := _ }) (v := ?_) rfl (by kernel_rfl) (by kernel_rfl) (by kernel_rfl) (fun _ _ _ h => h) (Or.inl ⟨by rfl, ?_⟩) (by assumption) ?_
          rotate_left
          · (intro w hSw; have hz := HKR.out.trans hSw; have s0 := hz.cellp HCQ.out.1; have s1 := hz.cellp HCQ.out.2.1; have s3 := hz.cellp HCQ.out.2.2.1; have s4 := hz.cellp HCQ.out.2.2.2.1; have s5 := hz.cellp HCQ.out.2.2.2.2.1; have s6 := hz.cellp HCQ.out.2.2.2.2.2; clear hSw hz; go_simp; (try with_reducible rfl))
          (try simp only [Act.put, List.setIfInBounds_toArray, List.set_cons_zero, List.set_cons_succ])
          refine wpAnyH_ready (rs := [17, 18]) (by kernel_rfl) (by simp) ?_
          refine (AllReadyH.cons (o := { dst := some 56, op := _, type := _, pos := _, after := _, guard := _ }) rfl (fun K hK => ?_) (AllReadyH.cons (o := { dst := some 9, op := _, type := _, pos := _, after := _, guard := _ }) rfl (fun K hK => ?_) AllReadyH.nil))
          · go_simp
            refine (HG2.out _ (HKR.out.trans hHeld)).mono ?_
            rintro e wG ⟨rfl, kG⟩
            have HKG := hidMk kG
            clear kG
            (try go_wp2_with fail)
            refine hK.out _ _ ?_ (fun hHeld => ?_)
            · exact hHeld.trans HKG.out
            clear hK K
            (try simp only [Act.put, List.setIfInBounds_toArray, List.set_cons_zero, List.set_cons_succ])
            refine wpAnyH_ready (rs := [18]) (by kernel_rfl) (by simp) ?_
            refine (AllReadyH.cons (o := { dst := some 9, op := _, type := _, pos := _, after := _, guard := _ }) rfl (fun K hK => ?_) AllReadyH.nil)
            go_simp
            obtain ⟨eb, heb⟩ : ∃ b, b = wG.heap.size := ⟨_, rfl⟩
            obtain ⟨X, hX⟩ : ∃ X, X = wG.alloc (.cells #[.int .i64 0, .bool false] 39) := ⟨_, rfl⟩
            have HEB := hidMk (show X.cell? ⟨eb, 0, none⟩ = some (.int .i64 0) ∧ X.cell? ⟨eb, 1, none⟩ = some (.bool false) ∧ ∀ j, X.frozen? ⟨eb, j, none⟩ = false from by rw [hX, heb]; exact new_entry _)
            have HKX := hidMk (show Kept wG X from by rw [hX]; exact (Kept.refl _).alloc _)
            have HLO := hidMk (show wG.heap.size ≤ eb from by rw [heb]; exact Nat.le_refl _)
            have g0 := HEB.out.1
            have g1 := HEB.out.2.1
            have gf0 := HEB.out.2.2 0
            have gf1 := HEB.out.2.2 1
            rw [← hX, ← heb]
            clear hX heb
            refine hK.out _ _ ?_ (fun hHeld => ?_)
            · exact hHeld.trans HKX.out
            clear hK K
            (try simp only [Act.put, List.setIfInBounds_toArray, List.set_cons_zero, List.set_cons_succ])
            refine wpAnyH_ready (rs := [19]) (by kernel_rfl) (by simp) ?_
            refine (AllReadyH.cons (o := { dst := none, op := _, type := _, pos := _, after := _, guard := _ }) rfl (fun K hK => ?_) AllReadyH.nil)
            have HLE := hidMk (show w5.heap.size ≤ eb from Nat.le_trans ((Kept.refl w5).drew.trans HKG.out).size HLO.out)
            go_simp
            refine hK.out _ _ ?_ (fun hHeld => ?_)
            · exact hHeld.setCells2 HLE.out _ _
            clear hK K
            (try simp only [Act.put, List.setIfInBounds_toArray, List.set_cons_zero, List.set_cons_succ])
            refine wpAnyH_done (by kernel_rfl) ?_ _
            go_wp2_with fail
            go_meet
            exact ⟨eb, rfl, hidMk ⟨(((Kept.refl w5).drew).trans (HKG.out.trans HKX.out)).setCells2 HLE.out _ _, ent_set g0 g1⟩⟩
          · go_simp
            obtain ⟨eb, heb⟩ : ∃ b, b = w5.heap.size := ⟨_, rfl⟩
            obtain ⟨X, hX⟩ : ∃ X, X = (w5.alloc (.cells #[.int .i64 0, .bool false] 39)).drew := ⟨_, rfl⟩
            have HEB := hidMk (show X.cell? ⟨eb, 0, none⟩ = some (.int .i64 0) ∧ X.cell? ⟨eb, 1, none⟩ = some (.bool false) ∧ ∀ j, X.frozen? ⟨eb, j, none⟩ = false from by rw [hX, heb]; exact new_entry _)
            have HKX := hidMk (show Kept w5.drew X from by rw [hX]; exact Kept.alloc_drew _ _)
            have HLO := hidMk (show w5.drew.heap.size ≤ eb from by rw [heb]; exact Nat.le_refl _)
            rw [← hX, ← heb]
            clear hX heb
            refine hK.out _ _ ?_ (fun hHeld => ?_)
            · exact hHeld.trans HKX.out
            clear hK K
            (try simp only [Act.put, List.setIfInBounds_toArray, List.set_cons_zero, List.set_cons_succ])
            refine wpAnyH_ready (rs := [17]) (by kernel_rfl) (by simp) ?_
            refine (AllReadyH.cons (o := { dst := some 56, op := _, type := _, pos := _, after := _, guard := _ }) rfl (fun K hK => ?_) AllReadyH.nil)
            go_simp
            refine (HG2.out _ (HKR.out.trans hHeld)).mono ?_
            rintro e wG ⟨rfl, kG⟩
            have HKG := hidMk kG
            have g0 : wG.cell? ⟨eb, 0, none⟩ = some (.int .i64 0) := kG.cellp HEB.out.1
            have g1 : wG.cell? ⟨eb, 1, none⟩ = some (.bool false) := kG.cellp HEB.out.2.1
            have gf0 : wG.frozen? ⟨eb, 0, none⟩ = false := (kG.frozen (p := ⟨eb, 0, none⟩) (cell_lt HEB.out.1)).trans (HEB.out.2.2 0)
            have gf1 : wG.frozen? ⟨eb, 1, none⟩ = false := (kG.frozen (p := ⟨eb, 1, none⟩) (cell_lt HEB.out.2.1)).trans (HEB.out.2.2 1)
            clear kG
            (try go_wp2_with fail)
            refine hK.out _ _ ?_ (fun hHeld => ?_)
            · exact hHeld.trans HKG.out
            clear hK K
            (try simp only [Act.put, List.setIfInBounds_toArray, List.set_cons_zero, List.set_cons_succ])
            refine wpAnyH_ready (rs := [19]) (by kernel_rfl) (by simp) ?_
            refine (AllReadyH.cons (o := { dst := none, op := _, type := _, pos := _, after := _, guard := _ }) rfl (fun K hK => ?_) AllReadyH.nil)
            have HLE := hidMk (show w5.heap.size ≤ eb from Nat.le_trans (Kept.refl w5).drew.size HLO.out)
            go_simp
            refine hK.out _ _ ?_ (fun hHeld => ?_)
            · exact hHeld.setCells2 HLE.out _ _
            clear hK K
            (try simp only [Act.put, List.setIfInBounds_toArray, List.set_cons_zero, List.set_cons_succ])
            refine wpAnyH_done (by kernel_rfl) ?_ _
            go_wp2_with fail
            go_meet
            exact ⟨eb, rfl, hidMk ⟨(((Kept.refl w5).drew).trans (HKX.out.trans HKG.out)).setCells2 HLE.out _ _, ent_set g0 g1⟩⟩
        case rest =>
          obtain ⟨yb, rfl, HC6⟩ := hcut
          have heq : ∀ X, (Op.equalIn 10000 39 (.agg #[.int .i64 p1, .bool p2]) (.agg #[.int .i64 p1, .bool p2])).run Tryd.prog X = .ok true X := fun X => by rw [en_eq 9998, decide_eq_true rfl]
          have x0 := HC6.out.1.cellp HC5.out.2.1
          have x1 := HC6.out.1.cellp HC5.out.2.2
          have z0 := HC6.out.2.1
          have z1 := HC6.out.2.2
          have z0a : ∀ o, (wc.alloc o).cell? ⟨yb, 0, none⟩ = some (.int .i64 p1) := fun o => ((Kept.refl wc).alloc o).cellp z0
          have z1a : ∀ o, (wc.alloc o).cell? ⟨yb, 1, none⟩ = some (.bool p2) := fun o => ((Kept.refl wc).alloc o).cellp z1
          have HKW := hidMk (show Kept wr wc from HC5.out.1.trans HC6.out.1)
          have HOW := hidMk (show ∀ Y, Kept wc Y → Y.ownsRow W.heap.size 80 3 (.slice sa ln sc) ln (cfL (selL nd (lvls cn) x 0 0 j)) from fun Y kY => owns_chg HR.out.2 (Chg.of_kept (S := fun _ => False) (HKW.out.trans kY)) (fun _ _ e => e))
          have HKWW := hidMk (show Kept W wc from HKR0.out.trans HKW.out)
          have HSZ := hidMk HKWW.out.size
          clear HC5 HC6 HKR
          by_cases hE : (p1, p2) = ((0 : Int), false)
          · have heZ : ∀ X, (Op.equalIn 10000 39 (.agg #[.int .i64 p1, .bool p2]) (.agg #[.int .i64 0, .bool false])).run Tryd.prog X = .ok true X := fun X => by rw [en_eq 9998, decide_eq_true hE]
            have HS2 := hidMk (show selL nd (lvls cn) x 0 0 (j + 1) = selL nd (lvls cn) x 0 0 j from by rw [HSN.out]; unfold sel; rw [if_pos hE, List.append_nil])
            clear hE
            go_wp2_with fail
            go_roundg (gk - 1)
            case measure => have := HG.out; omega
            case rel => exact ⟨j + 1, by have := HG.out; omega, by omega, by go_num, hidMk ⟨HKWW.out.alloc _, by rw [HS2.out, HLNE.out]; exact HOW.out _ ((Kept.refl wc).alloc _)⟩⟩
          · have heZ : ∀ X, (Op.equalIn 10000 39 (.agg #[.int .i64 p1, .bool p2]) (.agg #[.int .i64 0, .bool false])).run Tryd.prog X = .ok false X := fun X => by rw [en_eq 9998, decide_eq_false hE]
            have HS2 := hidMk (show selL nd (lvls cn) x 0 0 (j + 1) = selL nd (lvls cn) x 0 0 j ++ [((j : Int), p1, p2)] from by rw [HSN.out]; unfold sel; rw [if_neg hE])
            clear hE
            go_wp2_with (at_builtin; refine wpl_pushL _ rfl _ _ rfl W.heap.size (.slice sa ln sc) ln (cfL (selL nd (lvls cn) x 0 0 j)) rfl (HOW.out _ (((Kept.refl wc).alloc _).alloc _)) (by have := HSZ.out; simp; omega) (wc.heap.size + 1) [.int .i64 (j : Int), .int .i64 p1, .bool p2] rfl (by simp [Value.oneCell']) rfl (new_range_at _ [.int .i64 (j : Int), .int .i64 p1, .bool p2] _ (by simp)) (by omega) (wc.heap.size + 1 + 1) (by simp) ?_; intro g6 cap6 w6 o6 k6 a6 l6; have H6 := hidMk o6; have C6 := hidMk (Chg.kept ((HKWW.out.alloc (.cells #[.int .i64 0, .bool false] 39)).alloc (.cells #[.int .i64 (j : Int), .int .i64 p1, .bool p2] 80)) k6 (fun z hz => (World.ownsRow.lt (HOW.out _ (((Kept.refl wc).alloc (.cells #[.int .i64 0, .bool false] 39)).alloc (.cells #[.int .i64 (j : Int), .int .i64 p1, .bool p2] 80))) z hz).1)); clear o6 k6 a6 l6)
            go_roundg (gk - 1)
            case measure => have := HG.out; omega
            case rel => exact ⟨j + 1, by have := HG.out; omega, by omega, by go_num, hidMk ⟨C6.out, by have h6 := H6.out; rw [HS2.out, List.length_append, List.length_singleton, HLNE.out, cfL_app]; exact h6⟩⟩
    · have hje : j = cn := by omega
      subst hje
      have hj' : ¬ ((j : Int) < (j : Int)) := by omega
      rw [HLNE.out] at HAL
      go_upto_region 12 with fail
      clear y2
      refine wp_region_held_drew (S := (fun w' => Kept wr w')) (by kernel_rfl) ?_ (fun hHeld => ?_)
      · exact (Kept.refl wr).drew
      refine wpAnyH_take (i := 0) (oi := { dst := some 75, op := _, type := _, pos := _, after := _, guard := _ }) (v := ?_) rfl (by kernel_rfl) (by kernel_rfl) (by kernel_rfl) (fun _ _ _ h => h) (Or.inl ⟨by rfl, ?_⟩) (by assumption) ?_
      rotate_left
      · (intro w hSw; have hz := HKR.out.trans hSw; have s0 := hz.cellp HCQ.out.1; have s1 := hz.cellp HCQ.out.2.1; have s3 := hz.cellp HCQ.out.2.2.1; have s4 := hz.cellp HCQ.out.2.2.2.1; have s5 := hz.cellp HCQ.out.2.2.2.2.1; have s6 := hz.cellp HCQ.out.2.2.2.2.2; clear hSw hz; go_simp; (try with_reducible rfl))
      (try simp only [Act.put, List.setIfInBounds_toArray, List.set_cons_zero, List.set_cons_succ])
      refine wpAnyH_take (i := 1) (oi := { dst := some 76, op := _, type := _, pos := _, after := _, guard := _ }) (v := ?_) rfl (by kernel_rfl) (by kernel_rfl) (by kernel_rfl) (fun _ _ _ h => h) (Or.inl ⟨by rfl, ?_⟩) (by assumption) ?_
      rotate_left
      · (intro w hSw; have hz := HKR.out.trans hSw; have s0 := hz.cellp HCQ.out.1; have s1 := hz.cellp HCQ.out.2.1; have s3 := hz.cellp HCQ.out.2.2.1; have s4 := hz.cellp HCQ.out.2.2.2.1; have s5 := hz.cellp HCQ.out.2.2.2.2.1; have s6 := hz.cellp HCQ.out.2.2.2.2.2; clear hSw hz; go_simp; (try with_reducible rfl))
      (try simp only [Act.put, List.setIfInBounds_toArray, List.set_cons_zero, List.set_cons_succ])
      refine wpAnyH_take (i := 2) (oi := { dst := some 77, op := _, type := _, pos := _, after := _, guard := _ }) (v := ?_) rfl (by kernel_rfl) (by kernel_rfl) (by kernel_rfl) (fun _ _ _ h => h) (Or.inl ⟨by rfl, ?_⟩) (by assumption) ?_
      rotate_left
      · (intro w hSw; have hz := HKR.out.trans hSw; have s0 := hz.cellp HCQ.out.1; have s1 := hz.cellp HCQ.out.2.1; have s3 := hz.cellp HCQ.out.2.2.1; have s4 := hz.cellp HCQ.out.2.2.2.1; have s5 := hz.cellp HCQ.out.2.2.2.2.1; have s6 := hz.cellp HCQ.out.2.2.2.2.2; clear hSw hz; go_simp; (try with_reducible rfl))
      (try simp only [Act.put, List.setIfInBounds_toArray, List.set_cons_zero, List.set_cons_succ])
      refine wpAnyH_take (i := 3) (oi := { dst := some 78, op := _, type := _, pos := _, after := _, guard := _ }) (v := ?_) rfl (by kernel_rfl) (by kernel_rfl) (by kernel_rfl) (fun _ _ _ h => h) (Or.inl ⟨by rfl, ?_⟩) (by assumption) ?_
      rotate_left
      · (intro w hSw; have hz := HKR.out.trans hSw; have s0 := hz.cellp HCQ.out.1; have s1 := hz.cellp HCQ.out.2.1; have s3 := hz.cellp HCQ.out.2.2.1; have s4 := hz.cellp HCQ.out.2.2.2.1; have s5 := hz.cellp HCQ.out.2.2.2.2.1; have s6 := hz.cellp HCQ.out.2.2.2.2.2; clear hSw hz; go_simp; (try with_reducible rfl))
      (try simp only [Act.put, List.setIfInBounds_toArray, List.set_cons_zero, List.set_cons_succ])
      refine wpAnyH_take (i := 4) (oi := { dst := some 79, op := _, type := _, pos := _, after := _, guard := _ }) (v := ?_) rfl (by kernel_rfl) (by kernel_rfl) (by kernel_rfl) (fun _ _ _ h => h) (Or.inl ⟨by rfl, ?_⟩) (by assumption) ?_
      rotate_left
      · (intro w hSw; have hz := HKR.out.trans hSw; have s0 := hz.cellp HCQ.out.1; have s1 := hz.cellp HCQ.out.2.1; have s3 := hz.cellp HCQ.out.2.2.1; have s4 := hz.cellp HCQ.out.2.2.2.1; have s5 := hz.cellp HCQ.out.2.2.2.2.1; have s6 := hz.cellp HCQ.out.2.2.2.2.2; clear hSw hz; go_simp; (try with_reducible rfl))
      (try simp only [Act.put, List.setIfInBounds_toArray, List.set_cons_zero, List.set_cons_succ])
      refine wpAnyH_take (i := 5) (oi := { dst := some 80, op := _, type := _, pos := _, after := _, guard := _ }) (v := ?_) rfl (by kernel_rfl) (by kernel_rfl) (by kernel_rfl) (fun _ _ _ h => h) (Or.inl ⟨by rfl, ?_⟩) (by assumption) ?_
      rotate_left
      · (intro w hSw; have hz := HKR.out.trans hSw; have s0 := hz.cellp HCQ.out.1; have s1 := hz.cellp HCQ.out.2.1; have s3 := hz.cellp HCQ.out.2.2.1; have s4 := hz.cellp HCQ.out.2.2.2.1; have s5 := hz.cellp HCQ.out.2.2.2.2.1; have s6 := hz.cellp HCQ.out.2.2.2.2.2; clear hSw hz; go_simp; (try with_reducible rfl))
      (try simp only [Act.put, List.setIfInBounds_toArray, List.set_cons_zero, List.set_cons_succ])
      refine wpAnyH_take (i := 6) (oi := { dst := some 81, op := _, type := _, pos := _, after := _, guard := _ }) (v := ?_) rfl (by kernel_rfl) (by kernel_rfl) (by kernel_rfl) (fun _ _ _ h => h) (Or.inl ⟨by rfl, ?_⟩) (by assumption) ?_
      rotate_left
      · (intro w hSw; have hz := HKR.out.trans hSw; have s0 := hz.cellp HCQ.out.1; have s1 := hz.cellp HCQ.out.2.1; have s3 := hz.cellp HCQ.out.2.2.1; have s4 := hz.cellp HCQ.out.2.2.2.1; have s5 := hz.cellp HCQ.out.2.2.2.2.1; have s6 := hz.cellp HCQ.out.2.2.2.2.2; clear hSw hz; go_simp; (try with_reducible rfl))
      (try simp only [Act.put, List.setIfInBounds_toArray, List.set_cons_zero, List.set_cons_succ])
      refine wpAnyH_take (i := 7) (oi := { dst := some 82, op := _, type := _, pos := _, after := _, guard := _ }) (v := ?_) rfl (by kernel_rfl) (by kernel_rfl) (by kernel_rfl) (fun _ _ _ h => h) (Or.inl ⟨by rfl, ?_⟩) (by assumption) ?_
      rotate_left
      · (intro w hSw; have hz := HKR.out.trans hSw; have s0 := hz.cellp HCQ.out.1; have s1 := hz.cellp HCQ.out.2.1; have s3 := hz.cellp HCQ.out.2.2.1; have s4 := hz.cellp HCQ.out.2.2.2.1; have s5 := hz.cellp HCQ.out.2.2.2.2.1; have s6 := hz.cellp HCQ.out.2.2.2.2.2; clear hSw hz; go_simp; (try with_reducible rfl))
      (try simp only [Act.put, List.setIfInBounds_toArray, List.set_cons_zero, List.set_cons_succ])
      refine wpAnyH_take (i := 8) (oi := { dst := some 83, op := _, type := _, pos := _, after := _, guard := _ }) (v := ?_) rfl (by kernel_rfl) (by kernel_rfl) (by kernel_rfl) (fun _ _ _ h => h) (Or.inl ⟨by rfl, ?_⟩) (by assumption) ?_
      rotate_left
      · (intro w hSw; have hz := HKR.out.trans hSw; have s0 := hz.cellp HCQ.out.1; have s1 := hz.cellp HCQ.out.2.1; have s3 := hz.cellp HCQ.out.2.2.1; have s4 := hz.cellp HCQ.out.2.2.2.1; have s5 := hz.cellp HCQ.out.2.2.2.2.1; have s6 := hz.cellp HCQ.out.2.2.2.2.2; clear hSw hz; go_simp; (try with_reducible rfl))
      (try simp only [Act.put, List.setIfInBounds_toArray, List.set_cons_zero, List.set_cons_succ])
      refine wpAnyH_take (i := 9) (oi := { dst := some 84, op := _, type := _, pos := _, after := _, guard := _ }) (v := ?_) rfl (by kernel_rfl) (by kernel_rfl) (by kernel_rfl) (fun _ _ _ h => h) (Or.inl ⟨by rfl, ?_⟩) (by assumption) ?_
      rotate_left
      · (intro w hSw; have hz := HKR.out.trans hSw; have s0 := hz.cellp HCQ.out.1; have s1 := hz.cellp HCQ.out.2.1; have s3 := hz.cellp HCQ.out.2.2.1; have s4 := hz.cellp HCQ.out.2.2.2.1; have s5 := hz.cellp HCQ.out.2.2.2.2.1; have s6 := hz.cellp HCQ.out.2.2.2.2.2; clear hSw hz; go_simp; (try with_reducible rfl))
      (try simp only [Act.put, List.setIfInBounds_toArray, List.set_cons_zero, List.set_cons_succ])
      refine wpAnyH_take (i := 10) (oi := { dst := some 85, op := _, type := _, pos := _, after := _, guard := _ }) (v := ?_) rfl (by kernel_rfl) (by kernel_rfl) (by kernel_rfl) (fun _ _ _ h => h) (Or.inl ⟨by rfl, ?_⟩) (by assumption) ?_
      rotate_left
      · (intro w hSw; have hz := HKR.out.trans hSw; have s0 := hz.cellp HCQ.out.1; have s1 := hz.cellp HCQ.out.2.1; have s3 := hz.cellp HCQ.out.2.2.1; have s4 := hz.cellp HCQ.out.2.2.2.1; have s5 := hz.cellp HCQ.out.2.2.2.2.1; have s6 := hz.cellp HCQ.out.2.2.2.2.2; clear hSw hz; go_simp; (try with_reducible rfl))
      (try simp only [Act.put, List.setIfInBounds_toArray, List.set_cons_zero, List.set_cons_succ])
      refine wpAnyH_take (i := 11) (oi := { dst := some 86, op := _, type := _, pos := _, after := _, guard := _ }) (v := ?_) rfl (by kernel_rfl) (by kernel_rfl) (by kernel_rfl) (fun _ _ _ h => h) (Or.inl ⟨by rfl, ?_⟩) (by assumption) ?_
      rotate_left
      · (intro w hSw; have hz := HKR.out.trans hSw; have s0 := hz.cellp HCQ.out.1; have s1 := hz.cellp HCQ.out.2.1; have s3 := hz.cellp HCQ.out.2.2.1; have s4 := hz.cellp HCQ.out.2.2.2.1; have s5 := hz.cellp HCQ.out.2.2.2.2.1; have s6 := hz.cellp HCQ.out.2.2.2.2.2; clear hSw hz; go_simp; (try with_reducible rfl))
      (try simp only [Act.put, List.setIfInBounds_toArray, List.set_cons_zero, List.set_cons_succ])
      refine wpAnyH_ready (rs := [12]) (by kernel_rfl) (by simp) ?_
      refine AllReadyH.cons (o := { dst := some 87, op := _, type := _, pos := _, after := _, guard := _ }) rfl (fun K hK => ?_) AllReadyH.nil
      go_simp
      refine (HAL.out _ (HKR.out.trans hHeld)).mono ?_
      rintro e wz ⟨v, rfl, hov, kz⟩
      have HOV := hidMk hov
      have HKZ := hidMk kz
      clear hov kz
      (try go_wp2_with fail)
      refine hK.out _ _ ?_ (fun hHeld => ?_)
      · exact hHeld.trans HKZ.out
      clear hK K
      (try simp only [Act.put, List.setIfInBounds_toArray, List.set_cons_zero, List.set_cons_succ])
      refine wpAnyH_take (i := 13) (oi := { dst := some 74, op := _, type := _, pos := _, after := _, guard := _ }) (v := ?_) rfl (by kernel_rfl) (by kernel_rfl) (by kernel_rfl) (fun _ _ _ h => h) (Or.inl ⟨by rfl, ?_⟩) (by assumption) ?_
      rotate_left
      · (intro w hSw; have hz := HKR.out.trans hSw; have s0 := hz.cellp HCQ.out.1; have s1 := hz.cellp HCQ.out.2.1; have s3 := hz.cellp HCQ.out.2.2.1; have s4 := hz.cellp HCQ.out.2.2.2.1; have s5 := hz.cellp HCQ.out.2.2.2.2.1; have s6 := hz.cellp HCQ.out.2.2.2.2.2; clear hSw hz; go_simp; (try with_reducible rfl))
      (try simp only [Act.put, List.setIfInBounds_toArray, List.set_cons_zero, List.set_cons_succ])
      refine wpAnyH_take (i := 14) (oi := { dst := some 88, op := _, type := _, pos := _, after := _, guard := _ }) (v := ?_) rfl (by kernel_rfl) (by kernel_rfl) (by kernel_rfl) (fun _ _ _ h => h) (Or.inl ⟨by rfl, ?_⟩) (by assumption) ?_
      rotate_left
      · (intro w hSw; have hz := HKR.out.trans hSw; have s0 := hz.cellp HCQ.out.1; have s1 := hz.cellp HCQ.out.2.1; have s3 := hz.cellp HCQ.out.2.2.1; have s4 := hz.cellp HCQ.out.2.2.2.1; have s5 := hz.cellp HCQ.out.2.2.2.2.1; have s6 := hz.cellp HCQ.out.2.2.2.2.2; clear hSw hz; go_simp; (try with_reducible rfl))
      (try simp only [Act.put, List.setIfInBounds_toArray, List.set_cons_zero, List.set_cons_succ])
      refine wpAnyH_take (i := 15) (oi := { dst := some 89, op := _, type := _, pos := _, after := _, guard := _ }) (v := ?_) rfl (by kernel_rfl) (by kernel_rfl) (by kernel_rfl) (fun _ _ _ h => h) (Or.inl ⟨by rfl, ?_⟩) (by assumption) ?_
      rotate_left
      · (intro w hSw; have hz := HKR.out.trans hSw; have s0 := hz.cellp HCQ.out.1; have s1 := hz.cellp HCQ.out.2.1; have s3 := hz.cellp HCQ.out.2.2.1; have s4 := hz.cellp HCQ.out.2.2.2.1; have s5 := hz.cellp HCQ.out.2.2.2.2.1; have s6 := hz.cellp HCQ.out.2.2.2.2.2; clear hSw hz; go_simp; (try with_reducible rfl))
      (try simp only [Act.put, List.setIfInBounds_toArray, List.set_cons_zero, List.set_cons_succ])
      refine wpAnyH_take (i := 16) (oi := { dst := some 11, op := _, type := _, pos := _, after := _, guard := _ }) (v := ?_) rfl (by kernel_rfl) (by kernel_rfl) (by kernel_rfl) (fun _ _ _ h => h) (Or.inl ⟨by rfl, ?_⟩) (by assumption) ?_
      rotate_left
      · (intro w hSw; have hz := HKR.out.trans hSw; have s0 := hz.cellp HCQ.out.1; have s1 := hz.cellp HCQ.out.2.1; have s3 := hz.cellp HCQ.out.2.2.1; have s4 := hz.cellp HCQ.out.2.2.2.1; have s5 := hz.cellp HCQ.out.2.2.2.2.1; have s6 := hz.cellp HCQ.out.2.2.2.2.2; clear hSw hz; go_simp; (try with_reducible rfl))
      (try simp only [Act.put, List.setIfInBounds_toArray, List.set_cons_zero, List.set_cons_succ])
      refine wpAnyH_take (i := 17) (oi := { dst := some 12, op := _, type := _, pos := _, after := _, guard := _ }) (v := ?_) rfl (by kernel_rfl) (by kernel_rfl) (by kernel_rfl) (fun _ _ _ h => h) (Or.inl ⟨by rfl, ?_⟩) (by assumption) ?_
      rotate_left
      · (intro w hSw; have hz := HKR.out.trans hSw; have s0 := hz.cellp HCQ.out.1; have s1 := hz.cellp HCQ.out.2.1; have s3 := hz.cellp HCQ.out.2.2.1; have s4 := hz.cellp HCQ.out.2.2.2.1; have s5 := hz.cellp HCQ.out.2.2.2.2.1; have s6 := hz.cellp HCQ.out.2.2.2.2.2; clear hSw hz; go_simp; (try with_reducible rfl))
      (try simp only [Act.put, List.setIfInBounds_toArray, List.set_cons_zero, List.set_cons_succ])
      refine wpAnyH_done (by kernel_rfl) ?_ _
      clear hHeld
      obtain ⟨va, vc, hva⟩ := owns_shape HOV.out
      subst hva
      have HRZ := hidMk (show wz.ownsRow W.heap.size 80 3 (.slice sa ln sc) ln (cfL (selL nd (lvls j) x 0 0 j)) from owns_chg HR.out.2 (Chg.of_kept (S := fun _ => False) (((Kept.refl wr).drew).trans HKZ.out)) (fun _ _ e => e))
      have HKW := hidMk (show Kept W wz from HKR.out.trans (((Kept.refl wr).drew).trans HKZ.out))
      have HLN7 := hidMk hlen
      clear HR HKZ HKR
      go_wp2_with fail
      go_loopg [13] (ln + 1) (fun gg s wr => ∃ i : Nat, i + gg = ln + 1 ∧ i ≤ ln ∧ s = .int .i64 i ∧ Hid (Kept wz wr))
      case atStart => exact ⟨0, by omega, by omega, rfl, hidMk (Kept.refl _)⟩
      case round =>
        obtain ⟨i, hig, hil, rfl, HKI⟩ := hrel
        have HGI := hidMk hig
        clear hig
        by_cases hi : i < ln
        · have hi' : (i : Int) < (ln : Int) := by omega
          obtain ⟨b1, e1, hb1⟩ := leaf_cells HOV.out HLNE.out (by have := HLN7.out; omega) hi
          obtain ⟨b2, e2, hb2⟩ := leaf_cells HRZ.out HLNE.out (by have := HLN7.out; omega) hi
          subst e1 e2
          have HCI := hidMk (And.intro hb1.1 (And.intro hb1.2.1 (And.intro hb1.2.2 (And.intro hb2.1 (And.intro hb2.2.1 hb2.2.2)))))
          generalize (selL nd (lvls j) x 0 0 j).getD i (0, 0, false) = u at *
          obtain ⟨u1, u2, u3⟩ := u
          simp only at HCI
          have heq : ∀ X, (Op.equalIn 10000 39 (.agg #[.int .i64 u2, .bool u3]) (.agg #[.int .i64 u2, .bool u3])).run Tryd.prog X = .ok true X := fun X => by rw [en_eq 9998, decide_eq_true rfl]
          have hu : (u1 != u1) = false := by simp
          clear hb1 hb2
          go_upto_region 18 with fail
          refine wp_region_held_drew (S := (fun w' => Kept wz w')) (by kernel_rfl) ?_ (fun hHeld => ?_)
          · exact HKI.out.drew
          refine wpAnyH_take (i := 0) (oi := { dst := some 105, op := _, type := _, pos := _, after := _, guard := _ }) (v := ?_) rfl (by kernel_rfl) (by kernel_rfl) (by kernel_rfl) (fun _ _ _ h => h) (Or.inl ⟨by rfl, ?_⟩) (by assumption) ?_
          rotate_left
          · (intro w hSw; have s0 := hSw.cellp HCI.out.1; have s1 := hSw.cellp HCI.out.2.1; have s2 := hSw.cellp HCI.out.2.2.1; have s3 := hSw.cellp HCI.out.2.2.2.1; have s4 := hSw.cellp HCI.out.2.2.2.2.1; have s5 := hSw.cellp HCI.out.2.2.2.2.2; clear hSw; go_simp; (try with_reducible rfl))
          (try simp only [Act.put, List.setIfInBounds_toArray, List.set_cons_zero, List.set_cons_succ])
          refine wpAnyH_take (i := 1) (oi := { dst := some 106, op := _, type := _, pos := _, after := _, guard := _ }) (v := ?_) rfl (by kernel_rfl) (by kernel_rfl) (by kernel_rfl) (fun _ _ _ h => h) (Or.inl ⟨by rfl, ?_⟩) (by assumption) ?_
          rotate_left
          · (intro w hSw; have s0 := hSw.cellp HCI.out.1; have s1 := hSw.cellp HCI.out.2.1; have s2 := hSw.cellp HCI.out.2.2.1; have s3 := hSw.cellp HCI.out.2.2.2.1; have s4 := hSw.cellp HCI.out.2.2.2.2.1; have s5 := hSw.cellp HCI.out.2.2.2.2.2; clear hSw; go_simp; (try with_reducible rfl))
          (try simp only [Act.put, List.setIfInBounds_toArray, List.set_cons_zero, List.set_cons_succ])
          refine wpAnyH_take (i := 2) (oi := { dst := some 107, op := _, type := _, pos := _, after := _, guard := _ }) (v := ?_) rfl (by kernel_rfl) (by kernel_rfl) (by kernel_rfl) (fun _ _ _ h => h) (Or.inl ⟨by rfl, ?_⟩) (by assumption) ?_
          rotate_left
          · (intro w hSw; have s0 := hSw.cellp HCI.out.1; have s1 := hSw.cellp HCI.out.2.1; have s2 := hSw.cellp HCI.out.2.2.1; have s3 := hSw.cellp HCI.out.2.2.2.1; have s4 := hSw.cellp HCI.out.2.2.2.2.1; have s5 := hSw.cellp HCI.out.2.2.2.2.2; clear hSw; go_simp; (try with_reducible rfl))
          (try simp only [Act.put, List.setIfInBounds_toArray, List.set_cons_zero, List.set_cons_succ])
          refine wpAnyH_take (i := 3) (oi := { dst := some 108, op := _, type := _, pos := _, after := _, guard := _ }) (v := ?_) rfl (by kernel_rfl) (by kernel_rfl) (by kernel_rfl) (fun _ _ _ h => h) (Or.inl ⟨by rfl, ?_⟩) (by assumption) ?_
          rotate_left
          · (intro w hSw; have s0 := hSw.cellp HCI.out.1; have s1 := hSw.cellp HCI.out.2.1; have s2 := hSw.cellp HCI.out.2.2.1; have s3 := hSw.cellp HCI.out.2.2.2.1; have s4 := hSw.cellp HCI.out.2.2.2.2.1; have s5 := hSw.cellp HCI.out.2.2.2.2.2; clear hSw; go_simp; (try with_reducible rfl))
          (try simp only [Act.put, List.setIfInBounds_toArray, List.set_cons_zero, List.set_cons_succ])
          refine wpAnyH_take (i := 4) (oi := { dst := some 109, op := _, type := _, pos := _, after := _, guard := _ }) (v := ?_) rfl (by kernel_rfl) (by kernel_rfl) (by kernel_rfl) (fun _ _ _ h => h) (Or.inl ⟨by rfl, ?_⟩) (by assumption) ?_
          rotate_left
          · (intro w hSw; have s0 := hSw.cellp HCI.out.1; have s1 := hSw.cellp HCI.out.2.1; have s2 := hSw.cellp HCI.out.2.2.1; have s3 := hSw.cellp HCI.out.2.2.2.1; have s4 := hSw.cellp HCI.out.2.2.2.2.1; have s5 := hSw.cellp HCI.out.2.2.2.2.2; clear hSw; go_simp; (try with_reducible rfl))
          (try simp only [Act.put, List.setIfInBounds_toArray, List.set_cons_zero, List.set_cons_succ])
          refine wpAnyH_take (i := 5) (oi := { dst := some 110, op := _, type := _, pos := _, after := _, guard := _ }) (v := ?_) rfl (by kernel_rfl) (by kernel_rfl) (by kernel_rfl) (fun _ _ _ h => h) (Or.inl ⟨by rfl, ?_⟩) (by assumption) ?_
          rotate_left
          · (intro w hSw; have s0 := hSw.cellp HCI.out.1; have s1 := hSw.cellp HCI.out.2.1; have s2 := hSw.cellp HCI.out.2.2.1; have s3 := hSw.cellp HCI.out.2.2.2.1; have s4 := hSw.cellp HCI.out.2.2.2.2.1; have s5 := hSw.cellp HCI.out.2.2.2.2.2; clear hSw; go_simp; (try with_reducible rfl))
          (try simp only [Act.put, List.setIfInBounds_toArray, List.set_cons_zero, List.set_cons_succ])
          refine wpAnyH_take (i := 6) (oi := { dst := some 111, op := _, type := _, pos := _, after := _, guard := _ }) (v := ?_) rfl (by kernel_rfl) (by kernel_rfl) (by kernel_rfl) (fun _ _ _ h => h) (Or.inl ⟨by rfl, ?_⟩) (by assumption) ?_
          rotate_left
          · (intro w hSw; have s0 := hSw.cellp HCI.out.1; have s1 := hSw.cellp HCI.out.2.1; have s2 := hSw.cellp HCI.out.2.2.1; have s3 := hSw.cellp HCI.out.2.2.2.1; have s4 := hSw.cellp HCI.out.2.2.2.2.1; have s5 := hSw.cellp HCI.out.2.2.2.2.2; clear hSw; go_simp; (try with_reducible rfl))
          (try simp only [Act.put, List.setIfInBounds_toArray, List.set_cons_zero, List.set_cons_succ])
          refine wpAnyH_take (i := 7) (oi := { dst := some 112, op := _, type := _, pos := _, after := _, guard := _ }) (v := ?_) rfl (by kernel_rfl) (by kernel_rfl) (by kernel_rfl) (fun _ _ _ h => h) (Or.inl ⟨by rfl, ?_⟩) (by assumption) ?_
          rotate_left
          · (intro w hSw; have s0 := hSw.cellp HCI.out.1; have s1 := hSw.cellp HCI.out.2.1; have s2 := hSw.cellp HCI.out.2.2.1; have s3 := hSw.cellp HCI.out.2.2.2.1; have s4 := hSw.cellp HCI.out.2.2.2.2.1; have s5 := hSw.cellp HCI.out.2.2.2.2.2; clear hSw; go_simp; (try with_reducible rfl))
          (try simp only [Act.put, List.setIfInBounds_toArray, List.set_cons_zero, List.set_cons_succ])
          refine wpAnyH_take (i := 8) (oi := { dst := some 113, op := _, type := _, pos := _, after := _, guard := _ }) (v := ?_) rfl (by kernel_rfl) (by kernel_rfl) (by kernel_rfl) (fun _ _ _ h => h) (Or.inl ⟨by rfl, ?_⟩) (by assumption) ?_
          rotate_left
          · (intro w hSw; have s0 := hSw.cellp HCI.out.1; have s1 := hSw.cellp HCI.out.2.1; have s2 := hSw.cellp HCI.out.2.2.1; have s3 := hSw.cellp HCI.out.2.2.2.1; have s4 := hSw.cellp HCI.out.2.2.2.2.1; have s5 := hSw.cellp HCI.out.2.2.2.2.2; clear hSw; go_simp; (try with_reducible rfl))
          (try simp only [Act.put, List.setIfInBounds_toArray, List.set_cons_zero, List.set_cons_succ])
          refine wpAnyH_take (i := 9) (oi := { dst := some 114, op := _, type := _, pos := _, after := _, guard := _ }) (v := ?_) rfl (by kernel_rfl) (by kernel_rfl) (by kernel_rfl) (fun _ _ _ h => h) (Or.inl ⟨by rfl, ?_⟩) (by assumption) ?_
          rotate_left
          · (intro w hSw; have s0 := hSw.cellp HCI.out.1; have s1 := hSw.cellp HCI.out.2.1; have s2 := hSw.cellp HCI.out.2.2.1; have s3 := hSw.cellp HCI.out.2.2.2.1; have s4 := hSw.cellp HCI.out.2.2.2.2.1; have s5 := hSw.cellp HCI.out.2.2.2.2.2; clear hSw; go_simp; (try with_reducible rfl))
          (try simp only [Act.put, List.setIfInBounds_toArray, List.set_cons_zero, List.set_cons_succ])
          refine wpAnyH_take (i := 10) (oi := { dst := some 115, op := _, type := _, pos := _, after := _, guard := _ }) (v := ?_) rfl (by kernel_rfl) (by kernel_rfl) (by kernel_rfl) (fun _ _ _ h => h) (Or.inl ⟨by rfl, ?_⟩) (by assumption) ?_
          rotate_left
          · (intro w hSw; have s0 := hSw.cellp HCI.out.1; have s1 := hSw.cellp HCI.out.2.1; have s2 := hSw.cellp HCI.out.2.2.1; have s3 := hSw.cellp HCI.out.2.2.2.1; have s4 := hSw.cellp HCI.out.2.2.2.2.1; have s5 := hSw.cellp HCI.out.2.2.2.2.2; clear hSw; go_simp; (try with_reducible rfl))
          (try simp only [Act.put, List.setIfInBounds_toArray, List.set_cons_zero, List.set_cons_succ])
          refine wpAnyH_take (i := 11) (oi := { dst := some 116, op := _, type := _, pos := _, after := _, guard := _ }) (v := ?_) rfl (by kernel_rfl) (by kernel_rfl) (by kernel_rfl) (fun _ _ _ h => h) (Or.inl ⟨by rfl, ?_⟩) (by assumption) ?_
          rotate_left
          · (intro w hSw; have s0 := hSw.cellp HCI.out.1; have s1 := hSw.cellp HCI.out.2.1; have s2 := hSw.cellp HCI.out.2.2.1; have s3 := hSw.cellp HCI.out.2.2.2.1; have s4 := hSw.cellp HCI.out.2.2.2.2.1; have s5 := hSw.cellp HCI.out.2.2.2.2.2; clear hSw; go_simp; (try with_reducible rfl))
          (try simp only [Act.put, List.setIfInBounds_toArray, List.set_cons_zero, List.set_cons_succ])
          refine wpAnyH_take (i := 12) (oi := { dst := some 117, op := _, type := _, pos := _, after := _, guard := _ }) (v := ?_) rfl (by kernel_rfl) (by kernel_rfl) (by kernel_rfl) (fun _ _ _ h => h) (Or.inl ⟨by rfl, ?_⟩) (by assumption) ?_
          rotate_left
          · (intro w hSw; have s0 := hSw.cellp HCI.out.1; have s1 := hSw.cellp HCI.out.2.1; have s2 := hSw.cellp HCI.out.2.2.1; have s3 := hSw.cellp HCI.out.2.2.2.1; have s4 := hSw.cellp HCI.out.2.2.2.2.1; have s5 := hSw.cellp HCI.out.2.2.2.2.2; clear hSw; go_simp; (try with_reducible rfl))
          (try simp only [Act.put, List.setIfInBounds_toArray, List.set_cons_zero, List.set_cons_succ])
          refine wpAnyH_take (i := 13) (oi := { dst := some 118, op := _, type := _, pos := _, after := _, guard := _ }) (v := ?_) rfl (by kernel_rfl) (by kernel_rfl) (by kernel_rfl) (fun _ _ _ h => h) (Or.inl ⟨by rfl, ?_⟩) (by assumption) ?_
          rotate_left
          · (intro w hSw; have s0 := hSw.cellp HCI.out.1; have s1 := hSw.cellp HCI.out.2.1; have s2 := hSw.cellp HCI.out.2.2.1; have s3 := hSw.cellp HCI.out.2.2.2.1; have s4 := hSw.cellp HCI.out.2.2.2.2.1; have s5 := hSw.cellp HCI.out.2.2.2.2.2; clear hSw; go_simp; (try with_reducible rfl))
          (try simp only [Act.put, List.setIfInBounds_toArray, List.set_cons_zero, List.set_cons_succ])
          refine wpAnyH_take (i := 14) (oi := { dst := some 119, op := _, type := _, pos := _, after := _, guard := _ }) (v := ?_) rfl (by kernel_rfl) (by kernel_rfl) (by kernel_rfl) (fun _ _ _ h => h) (Or.inl ⟨by rfl, ?_⟩) (by assumption) ?_
          rotate_left
          · (intro w hSw; have s0 := hSw.cellp HCI.out.1; have s1 := hSw.cellp HCI.out.2.1; have s2 := hSw.cellp HCI.out.2.2.1; have s3 := hSw.cellp HCI.out.2.2.2.1; have s4 := hSw.cellp HCI.out.2.2.2.2.1; have s5 := hSw.cellp HCI.out.2.2.2.2.2; clear hSw; go_simp; (try with_reducible rfl))
          (try simp only [Act.put, List.setIfInBounds_toArray, List.set_cons_zero, List.set_cons_succ])
          refine wpAnyH_take (i := 15) (oi := { dst := some 120, op := _, type := _, pos := _, after := _, guard := _ }) (v := ?_) rfl (by kernel_rfl) (by kernel_rfl) (by kernel_rfl) (fun _ _ _ h => h) (Or.inl ⟨by rfl, ?_⟩) (by assumption) ?_
          rotate_left
          · (intro w hSw; have s0 := hSw.cellp HCI.out.1; have s1 := hSw.cellp HCI.out.2.1; have s2 := hSw.cellp HCI.out.2.2.1; have s3 := hSw.cellp HCI.out.2.2.2.1; have s4 := hSw.cellp HCI.out.2.2.2.2.1; have s5 := hSw.cellp HCI.out.2.2.2.2.2; clear hSw; go_simp; (try with_reducible rfl))
          (try simp only [Act.put, List.setIfInBounds_toArray, List.set_cons_zero, List.set_cons_succ])
          refine wpAnyH_take (i := 16) (oi := { dst := some 121, op := _, type := _, pos := _, after := _, guard := _ }) (v := ?_) rfl (by kernel_rfl) (by kernel_rfl) (by kernel_rfl) (fun _ _ _ h => h) (Or.inl ⟨by rfl, ?_⟩) (by assumption) ?_
          rotate_left
          · (intro w hSw; have s0 := hSw.cellp HCI.out.1; have s1 := hSw.cellp HCI.out.2.1; have s2 := hSw.cellp HCI.out.2.2.1; have s3 := hSw.cellp HCI.out.2.2.2.1; have s4 := hSw.cellp HCI.out.2.2.2.2.1; have s5 := hSw.cellp HCI.out.2.2.2.2.2; clear hSw; go_simp; (try with_reducible rfl))
          (try simp only [Act.put, List.setIfInBounds_toArray, List.set_cons_zero, List.set_cons_succ])
          refine wpAnyH_take (i := 17) (oi := { dst := some 122, op := _, type := _, pos := _, after := _, guard := _ }) (v := ?_) rfl (by kernel_rfl) (by kernel_rfl) (by kernel_rfl) (fun _ _ _ h => h) (Or.inl ⟨by rfl, ?_⟩) (by assumption) ?_
          rotate_left
          · (intro w hSw; have s0 := hSw.cellp HCI.out.1; have s1 := hSw.cellp HCI.out.2.1; have s2 := hSw.cellp HCI.out.2.2.1; have s3 := hSw.cellp HCI.out.2.2.2.1; have s4 := hSw.cellp HCI.out.2.2.2.2.1; have s5 := hSw.cellp HCI.out.2.2.2.2.2; clear hSw; go_simp; (try with_reducible rfl))
          (try simp only [Act.put, List.setIfInBounds_toArray, List.set_cons_zero, List.set_cons_succ])
          refine wpAnyH_take (i := 18) (oi := { dst := some 123, op := _, type := _, pos := _, after := _, guard := _ }) (v := ?_) rfl (by kernel_rfl) (by kernel_rfl) (by kernel_rfl) (fun _ _ _ h => h) (Or.inl ⟨by rfl, ?_⟩) (by assumption) ?_
          rotate_left
          · (intro w hSw; have s0 := hSw.cellp HCI.out.1; have s1 := hSw.cellp HCI.out.2.1; have s2 := hSw.cellp HCI.out.2.2.1; have s3 := hSw.cellp HCI.out.2.2.2.1; have s4 := hSw.cellp HCI.out.2.2.2.2.1; have s5 := hSw.cellp HCI.out.2.2.2.2.2; clear hSw; go_simp; (try with_reducible rfl))
          (try simp only [Act.put, List.setIfInBounds_toArray, List.set_cons_zero, List.set_cons_succ])
          refine wpAnyH_take (i := 19) (oi := { dst := some 124, op := _, type := _, pos := _, after := _, guard := _ }) (v := ?_) rfl (by kernel_rfl) (by kernel_rfl) (by kernel_rfl) (fun _ _ _ h => h) (Or.inl ⟨by rfl, ?_⟩) (by assumption) ?_
          rotate_left
          · (intro w hSw; have s0 := hSw.cellp HCI.out.1; have s1 := hSw.cellp HCI.out.2.1; have s2 := hSw.cellp HCI.out.2.2.1; have s3 := hSw.cellp HCI.out.2.2.2.1; have s4 := hSw.cellp HCI.out.2.2.2.2.1; have s5 := hSw.cellp HCI.out.2.2.2.2.2; clear hSw; go_simp; (try with_reducible rfl))
          (try simp only [Act.put, List.setIfInBounds_toArray, List.set_cons_zero, List.set_cons_succ])
          refine wpAnyH_take (i := 20) (oi := { dst := some 125, op := _, type := _, pos := _, after := _, guard := _ }) (v := ?_) rfl (by kernel_rfl) (by kernel_rfl) (by kernel_rfl) (fun _ _ _ h => h) (Or.inl ⟨by rfl, ?_⟩) (by assumption) ?_
          rotate_left
          · (intro w hSw; have s0 := hSw.cellp HCI.out.1; have s1 := hSw.cellp HCI.out.2.1; have s2 := hSw.cellp HCI.out.2.2.1; have s3 := hSw.cellp HCI.out.2.2.2.1; have s4 := hSw.cellp HCI.out.2.2.2.2.1; have s5 := hSw.cellp HCI.out.2.2.2.2.2; clear hSw; go_simp; (try with_reducible rfl))
          (try simp only [Act.put, List.setIfInBounds_toArray, List.set_cons_zero, List.set_cons_succ])
          refine wpAnyH_take (i := 21) (oi := { dst := some 126, op := _, type := _, pos := _, after := _, guard := _ }) (v := ?_) rfl (by kernel_rfl) (by kernel_rfl) (by kernel_rfl) (fun _ _ _ h => h) (Or.inl ⟨by rfl, ?_⟩) (by assumption) ?_
          rotate_left
          · (intro w hSw; have s0 := hSw.cellp HCI.out.1; have s1 := hSw.cellp HCI.out.2.1; have s2 := hSw.cellp HCI.out.2.2.1; have s3 := hSw.cellp HCI.out.2.2.2.1; have s4 := hSw.cellp HCI.out.2.2.2.2.1; have s5 := hSw.cellp HCI.out.2.2.2.2.2; clear hSw; go_simp; (try with_reducible rfl))
          (try simp only [Act.put, List.setIfInBounds_toArray, List.set_cons_zero, List.set_cons_succ])
          refine wpAnyH_take (i := 22) (oi := { dst := some 127, op := _, type := _, pos := _, after := _, guard := _ }) (v := ?_) rfl (by kernel_rfl) (by kernel_rfl) (by kernel_rfl) (fun _ _ _ h => h) (Or.inl ⟨by rfl, ?_⟩) (by assumption) ?_
          rotate_left
          · (intro w hSw; have s0 := hSw.cellp HCI.out.1; have s1 := hSw.cellp HCI.out.2.1; have s2 := hSw.cellp HCI.out.2.2.1; have s3 := hSw.cellp HCI.out.2.2.2.1; have s4 := hSw.cellp HCI.out.2.2.2.2.1; have s5 := hSw.cellp HCI.out.2.2.2.2.2; clear hSw; go_simp; (try with_reducible rfl))
          (try simp only [Act.put, List.setIfInBounds_toArray, List.set_cons_zero, List.set_cons_succ])
          refine wpAnyH_take (i := 23) (oi := { dst := some 128, op := _, type := _, pos := _, after := _, guard := _ }) (v := ?_) rfl (by kernel_rfl) (by kernel_rfl) (by kernel_rfl) (fun _ _ _ h => h) (Or.inl ⟨by rfl, ?_⟩) (by assumption) ?_
          rotate_left
          · (intro w hSw; have s0 := hSw.cellp HCI.out.1; have s1 := hSw.cellp HCI.out.2.1; have s2 := hSw.cellp HCI.out.2.2.1; have s3 := hSw.cellp HCI.out.2.2.2.1; have s4 := hSw.cellp HCI.out.2.2.2.2.1; have s5 := hSw.cellp HCI.out.2.2.2.2.2; clear hSw; go_simp; (try with_reducible rfl))
          (try simp only [Act.put, List.setIfInBounds_toArray, List.set_cons_zero, List.set_cons_succ])
          refine wpAnyH_done (by kernel_rfl) ?_ _
          clear hHeld
          go_wp2_with fail
          go_roundg (gk - 1)
          case measure => have := HGI.out; omega
          case rel => exact ⟨i + 1, by have := HGI.out; omega, by omega, by go_num, hidMk (HKI.out.drew)⟩
        · have hie : i = ln := by omega
          subst hie
          have hi' : ¬ ((i : Int) < (i : Int)) := by omega
          have HKF := hidMk (HKW.out.trans HKI.out)
          go_wp2_with fail
          go_ret
          exact ⟨rfl, HKF.out⟩
end
end Go.Proofs.YtjkbhaplngnniaaDoor
