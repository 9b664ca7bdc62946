/- parse's writer: a cell, a measure, a dimension; names. · parse's writer: a cell, a measure, a dimension; names. · parse's writer: a cell, a measure, a dimension; names. -/
import Derived.Test.YtpehinmckppjoaaGreatDoorWPsE
import Derived.Test.YtpehinmckppjoaaGreatDoorWPsSB
import Derived.Test.YtpehinmckppjoaaGreatDoorWPs7B
namespace Go.Proofs.YtpehinmckppjoaaGreatDoor
open Go.RowKit Go.Maps
set_option linter.unusedSimpArgs false
set_option linter.unusedVariables false

theorem cat_nodes {ds : List Dm} {ms : List ByteArray} (h : CatOk ds ms) : (∀ k, k < ds.length → 1 ≤ (dmL ds k).length ∧ (dmL ds k).length ≤ 60 ∧ (∀ i, i < (dmL ds k).length → (nmA (dmL ds k) i).size ≤ maxLen) ∧ (∀ i, i < (dmL ds k).length → isI (upA (dmL ds k) i))) ∧ ∀ k, k < ds.length → (dmN ds k).size ≤ maxLen := by
  constructor
  · intro k hk
    obtain ⟨hg, h1, h2⟩ := add_good (h.add k hk)
    refine ⟨h1, by omega, fun i hi => ?_, fun i hi => ?_⟩
    · have := name_12 (good_name hg i hi).1
      unfold maxLen
      omega
    · have h3 := hg 2 (by omega) i hi
      unfold chk at h3
      rw [if_neg (by omega), if_neg (by omega), if_pos rfl] at h3
      split at h3
      · rename_i hc
        unfold isP at hc
        unfold isI
        omega
      · omega
  · intro k hk
    rcases h.add k hk with ⟨_, e⟩ | ⟨_, _, e⟩ | ⟨h1, _, _⟩
    · omega
    · omega
    · have := name_12 h1
      unfold maxLen
      omega
theorem cat_field (v0 v1 v2 v3 : Value) (w : World) : (Instr.field 25 (.agg #[v0, v1, v2, v3]) 0).run Tryz.prog w = .ok v0 w ∧ (Instr.field 25 (.agg #[v0, v1, v2, v3]) 1).run Tryz.prog w = .ok v1 w := ⟨by kernel_rfl, by kernel_rfl⟩
section
variable {w0 W : World} {pr px pd : Nat} {ms : List ByteArray} {ds : List Dm} {x : Cm} {v : Value} {l : List ByteArray}
theorem wx_cat (hX : WX w0 pd ms ds) (hS : WS w0 W pr px pd x v l) (y : World) (hy : Kept W y) : Calls Tryz.prog 187 #[.pointer (some ⟨pd, 0, none⟩)] y fun e w' => ∃ lv sc, CatPost y ds ms lv sc e w' := by
  obtain ⟨yy, tp, ma, mc, lv, sc, dv, hD⟩ := hX.dp _ (hS.kept.trans hy)
  have h := cat_nodes hX.ok
  exact (dims_Cat hD hX.ok.d4 h.1 h.2 hX.ok.m4).mono fun e w' h => ⟨lv, sc, h⟩
set_option maxHeartbeats 1000000 in
set_option maxRecDepth 100000 in
theorem wr_meas (hX : WX w0 pd ms ds) (hS : WS w0 W pr px pd x v l) (hl : l.length ≤ 19) :
    Calls Tryz.prog 182 #[.pointer (some ⟨pr, 0, none⟩), .pointer (some ⟨px, 11, none⟩)] W (WrPost w0 W pr px pd x v l (pickW ms x.m)) := by
  have q1 := hS.x 11 _ rfl
  have q0 := hS.d
  obtain ⟨k, hk⟩ : ∃ k, x.m = k := ⟨_, rfl⟩
  rw [hk] at q1 ⊢
  have HC := hidMk (wx_cat hX hS)
  obtain ⟨r, hr⟩ : ∃ r, pickW ms k = r := ⟨_, rfl⟩
  rw [hr]
  have HP := hidMk (show ∀ y, Kept W y → ∀ b d, Ss y b ms.length ms → Calls Tryz.prog 186 #[.pointer (some ⟨pr, 0, none⟩), .int .i64 k, .slice b ms.length d] y (WrPost w0 W pr px pd x v l r) from fun y hy b d hs => by rw [← hr]; exact wr_from hy (wr_pick (hS.keep hy) hl b ms.length d ms hs k))
  have HKE := hidMk (fun (y : World) (m : List ByteArray) (hy : ∃ v', WS w0 y pr px pd x v' (l ++ m) ∧ WC pr v v' W y) => show y.cell? ⟨px, 11, none⟩ = some (.int .i64 k) ∧ y.cell? ⟨pr, 0, none⟩ = some (.pointer (some ⟨pd, 0, none⟩)) from by
    obtain ⟨v', h1, h2⟩ := hy
    exact ⟨by have := h1.x 11 _ rfl; rw [hk] at this; exact this, h1.d⟩)
  have HFD := fun v0 v1 v2 v3 w => (cat_field v0 v1 v2 v3 w).2
  clear hX hS hr hk
  go_enter Tryz.func182, Tryz.ntmps182
  go_wp2_with fail
  refine wp_region_held_drew (S := (fun w' => w'.cell? ⟨px, 11, none⟩ = some (.int .i64 k) ∧ w'.cell? ⟨pr, 0, none⟩ = some (.pointer (some ⟨pd, 0, none⟩)))) (by kernel_rfl) ?_ (fun hHeld => ?_)
  · exact ⟨q1, q0⟩
  refine wpAnyH_take (i := 0) (oi := { dst := some 4, op := _, type := _, pos := _, after := _, guard := _ }) (v := ?_) rfl (by kernel_rfl) (by kernel_rfl) (by kernel_rfl) (fun _ _ _ h => h) (Or.inl ⟨by rfl, ?_⟩) (by assumption) ?_
  rotate_left
  · (intro w hSw; (try dsimp only at hSw); (try obtain ⟨hSw1, hSw2⟩ := hSw); go_simp; (try with_reducible rfl))
  (try simp only [Act.put, List.setIfInBounds_toArray, List.set_cons_zero, List.set_cons_succ])
  refine wpAnyH_take (i := 1) (oi := { dst := some 5, op := _, type := _, pos := _, after := _, guard := _ }) (v := ?_) rfl (by kernel_rfl) (by kernel_rfl) (by kernel_rfl) (fun _ _ _ h => h) (Or.inl ⟨by rfl, ?_⟩) (by assumption) ?_
  rotate_left
  · (intro w hSw; (try dsimp only at hSw); (try obtain ⟨hSw1, hSw2⟩ := hSw); go_simp; (try with_reducible rfl))
  (try simp only [Act.put, List.setIfInBounds_toArray, List.set_cons_zero, List.set_cons_succ])
  refine wpAnyH_take (i := 2) (oi := { dst := some 6, op := _, type := _, pos := _, after := _, guard := _ }) (v := ?_) rfl (by kernel_rfl) (by kernel_rfl) (by kernel_rfl) (fun _ _ _ h => h) (Or.inl ⟨by rfl, ?_⟩) (by assumption) ?_
  rotate_left
  · (intro w hSw; (try dsimp only at hSw); (try obtain ⟨hSw1, hSw2⟩ := hSw); go_simp; (try with_reducible rfl))
  (try simp only [Act.put, List.setIfInBounds_toArray, List.set_cons_zero, List.set_cons_succ])
  refine wpAnyH_take (i := 3) (oi := { dst := some 7, op := _, type := _, pos := _, after := _, guard := _ }) (v := ?_) rfl (by kernel_rfl) (by kernel_rfl) (by kernel_rfl) (fun _ _ _ h => h) (Or.inl ⟨by rfl, ?_⟩) (by assumption) ?_
  rotate_left
  · (intro w hSw; (try dsimp only at hSw); (try obtain ⟨hSw1, hSw2⟩ := hSw); go_simp; (try with_reducible rfl))
  (try simp only [Act.put, List.setIfInBounds_toArray, List.set_cons_zero, List.set_cons_succ])
  refine wpAnyH_take (i := 4) (oi := { dst := some 8, op := _, type := _, pos := _, after := _, guard := _ }) (v := ?_) rfl (by kernel_rfl) (by kernel_rfl) (by kernel_rfl) (fun _ _ _ h => h) (Or.inl ⟨by rfl, ?_⟩) (by assumption) ?_
  rotate_left
  · (intro w hSw; (try dsimp only at hSw); (try obtain ⟨hSw1, hSw2⟩ := hSw); go_simp; (try with_reducible rfl))
  (try simp only [Act.put, List.setIfInBounds_toArray, List.set_cons_zero, List.set_cons_succ])
  refine wpAnyH_take (i := 5) (oi := { dst := some 9, op := _, type := _, pos := _, after := _, guard := _ }) (v := ?_) rfl (by kernel_rfl) (by kernel_rfl) (by kernel_rfl) (fun _ _ _ h => h) (Or.inl ⟨by rfl, ?_⟩) (by assumption) ?_
  rotate_left
  · (intro w hSw; (try dsimp only at hSw); (try obtain ⟨hSw1, hSw2⟩ := hSw); go_simp; (try with_reducible rfl))
  (try simp only [Act.put, List.setIfInBounds_toArray, List.set_cons_zero, List.set_cons_succ])
  refine wpAnyH_take (i := 6) (oi := { dst := some 10, op := _, type := _, pos := _, after := _, guard := _ }) (v := ?_) rfl (by kernel_rfl) (by kernel_rfl) (by kernel_rfl) (fun _ _ _ h => h) (Or.inl ⟨by rfl, ?_⟩) (by assumption) ?_
  rotate_left
  · (intro w hSw; (try dsimp only at hSw); (try obtain ⟨hSw1, hSw2⟩ := hSw); go_simp; (try with_reducible rfl))
  (try simp only [Act.put, List.setIfInBounds_toArray, List.set_cons_zero, List.set_cons_succ])
  refine wpAnyH_take (i := 7) (oi := { dst := some 11, op := _, type := _, pos := _, after := _, guard := _ }) (v := ?_) rfl (by kernel_rfl) (by kernel_rfl) (by kernel_rfl) (fun _ _ _ h => h) (Or.inl ⟨by rfl, ?_⟩) (by assumption) ?_
  rotate_left
  · (intro w hSw; (try dsimp only at hSw); (try obtain ⟨hSw1, hSw2⟩ := hSw); go_simp; (try with_reducible rfl))
  (try simp only [Act.put, List.setIfInBounds_toArray, List.set_cons_zero, List.set_cons_succ])
  refine wpAnyH_ready (rs := [8]) (by kernel_rfl) (by simp) ?_
  refine AllReadyH.cons (o := { dst := some 12, op := _, type := _, pos := _, after := _, guard := _ }) rfl (fun K hK => ?_) AllReadyH.nil
  go_simp
  refine (HC.out _ (by (repeat (first | (with_reducible exact Kept.refl _) | (with_reducible refine Kept.alloc ?_ _) | (with_reducible refine Kept.drew ?_) | (with_reducible refine Kept.drewN ?_ _))))).mono ?_
  rintro e w2 ⟨lv, sc, a, c, na, b, d, rfl, _, hss, k2⟩
  have K2 := hidMk (show Kept W w2 from Kept.trans (by (repeat (first | (with_reducible exact Kept.refl _) | (with_reducible refine Kept.alloc ?_ _) | (with_reducible refine Kept.drew ?_) | (with_reducible refine Kept.drewN ?_ _)))) k2)
  have HSS := hidMk hss
  clear k2 hss
  (try go_wp2_with fail)
  refine hK.out _ _ ?_ (fun hHeld => ?_)
  · first | exact ⟨K2.out.cellp q1, K2.out.cellp q0⟩ | exact q3
  clear hK K
  (try simp only [Act.put, List.setIfInBounds_toArray, List.set_cons_zero, List.set_cons_succ])
  refine wpAnyH_take (i := 9) (oi := { dst := some 13, op := _, type := _, pos := _, after := _, guard := _ }) (v := ?_) rfl (by kernel_rfl) (by kernel_rfl) (by kernel_rfl) (fun _ _ _ h => h) (Or.inl ⟨by rfl, ?_⟩) (by assumption) ?_
  rotate_left
  · (intro w hSw; (try dsimp only at hSw); (try obtain ⟨hSw1, hSw2⟩ := hSw); go_simp; (try with_reducible rfl))
  (try simp only [Act.put, List.setIfInBounds_toArray, List.set_cons_zero, List.set_cons_succ])
  refine wpAnyH_ready (rs := [10]) (by kernel_rfl) (by simp) ?_
  refine AllReadyH.cons (o := { dst := some 14, op := _, type := _, pos := _, after := _, guard := _ }) rfl (fun K hK => ?_) AllReadyH.nil
  go_simp
  refine (HP.out _ K2.out _ _ HSS.out).mono ?_
  intro e w3 hp
  rcases r with _ | m
  · obtain ⟨rfl, hr⟩ := hp
    exact ⟨rfl, rfl, hr⟩
  obtain ⟨rfl, hr⟩ := hp
  have HR := hidMk hr
  have q3 := HKE.out _ m hr
  clear hr
  (try go_wp2_with fail)
  refine hK.out _ _ ?_ (fun hHeld => ?_)
  · first | exact ⟨K2.out.cellp q1, K2.out.cellp q0⟩ | exact q3
  clear hK K
  (try simp only [Act.put, List.setIfInBounds_toArray, List.set_cons_zero, List.set_cons_succ])
  refine wpAnyH_done (by kernel_rfl) ?_ _
  go_wp2_with fail
  (try go_end0)
  exact ⟨rfl, HR.out⟩
set_option maxHeartbeats 1000000 in
set_option maxRecDepth 100000 in
theorem wr_dim (hX : WX w0 pd ms ds) (hS : WS w0 W pr px pd x v l) (hl : l.length ≤ 19) :
    Calls Tryz.prog 181 #[.pointer (some ⟨pr, 0, none⟩), .pointer (some ⟨px, 11, none⟩)] W (WrPost w0 W pr px pd x v l (pickW (lbl ds) x.m)) := by
  have q1 := hS.x 11 _ rfl
  have q0 := hS.d
  obtain ⟨k, hk⟩ : ∃ k, x.m = k := ⟨_, rfl⟩
  rw [hk] at q1 ⊢
  have HC := hidMk (wx_cat hX hS)
  have HD4 := hidMk hX.ok.d4
  obtain ⟨r, hr⟩ : ∃ r, pickW (lbl ds) k = r := ⟨_, rfl⟩
  rw [hr]
  have HP := hidMk (show ∀ y, Kept W y → ∀ b d, Ss y b ds.length (lbl ds) → Calls Tryz.prog 186 #[.pointer (some ⟨pr, 0, none⟩), .int .i64 k, .slice b ds.length d] y (WrPost w0 W pr px pd x v l r) from fun y hy b d hs => by rw [← hr]; exact wr_from hy (wr_pick (hS.keep hy) hl b ds.length d (lbl ds) hs k))
  have HFD := fun v0 v1 v2 v3 w => (cat_field v0 v1 v2 v3 w).1
  clear hX hS hr hk
  go_enter Tryz.func181, Tryz.ntmps181
  go_wp2_with fail
  refine (HC.out _ (Kept.refl _)).mono ?_
  rintro e w1 ⟨lv, sc, a, c, na, b, d, rfl, hds, _, k1⟩
  have HS := hidMk hds
  have HK1 := hidMk k1
  have hB := k1.size
  obtain ⟨n, hn⟩ : ∃ n, ds.length = n := ⟨_, rfl⟩
  have HNL := hidMk hn
  rw [hn] at HS HP HD4
  rw [hn]
  have q1' := k1.cellp q1
  clear hds k1 HC q1 q0 hn
  go_wp2_with fail
  go_loopg [4, 14] n (fun g vv xx wr => ∃ k : Nat, k + g = n ∧ xx = .int .i64 k ∧ Kept w1 wr ∧ Hid (OwnS wr w1.heap.size vv (lbl (ds.take k))))
  case atStart => exact ⟨0, by omega, rfl, Kept.refl _, hidMk (World.ownsRow_nil _ _ _ _)⟩
  case round =>
    obtain ⟨j, hkg, rfl, hk, HO⟩ := hrel
    have HKG := hidMk hkg
    have HK := hidMk hk
    have HDS := HNL.out
    by_cases hkn : j < n
    · obtain ⟨bb, o, rfl, hb, hcs⟩ := HS.out.cells (by omega)
      have c1 := hk.cellp (hcs j hkn).1
      have c2 := hk.cellp (hcs j hkn).2
      have hk1 : (j : Int) < n := by omega
      have HT := hidMk (lbl_take (ds := ds) (k := j) (by omega))
      have HLn := hidMk (show (lbl (ds.take j)).length = j by rw [lbl_len, List.length_take]; omega)
      have HSZ := hidMk (HD4.out)
      have hn4 := HD4.out
      have hj3 : (j : Int) ≤ 3 := by omega
      have HG1 := hidMk (show 1 ≤ gk by omega)
      unfold slv at c2
      clear hk hkg hcs
      generalize lbl (ds.take j) = L at *
      generalize dmN ds j = y at *
      generalize na j = q at *
      obtain ⟨q1, q2, q3⟩ := q
      simp only at c2
      go_wp2_with (at_builtin; refine wpList_pushS _ rfl _ _ rfl w1.heap.size _ L rfl (HO.out.kept (((Kept.refl _).alloc _).alloc _)) ?c1 _ y rfl ?c2 ?c3 _ rfl ?_)
      case c1 => simp; have := HK.out.size; omega
      case c2 => simp
      case c3 => rw [HLn.out]; have := HSZ.out; omega
      intro g' cap w3 o3 k3 _ _
      have K3 := hidMk (show Kept w1 w3 from k3.kept ((HK.out.alloc _).alloc _) (fun t ht => (HO.out.lt t ht).1))
      have O3 := hidMk o3
      clear o3 k3
      go_wp2_with fail
      go_roundg (gk - 1)
      case measure => have := HKG.out; have := HG1.out; omega
      case rel => exact ⟨j + 1, by have := HKG.out; have := HG1.out; omega, by go_num, K3.out, hidMk (by rw [HT.out]; exact O3.out)⟩
    · have e : j = n := by omega
      subst e
      have HE := hidMk (show ds.take j = ds from List.take_of_length_le (by omega))
      clear hkg
      have hkk : ¬ ((j : Int) < (j : Int)) := by omega
      have q2 := hk.cellp q1'
      have ho := HO.out
      rw [HE.out] at ho
      have hll := lbl_len ds
      rw [HDS] at hll
      obtain ⟨a2, c2, hv2, s2, _⟩ := own_ss (by rw [hll]; have := HD4.out; unfold maxLen; omega) ho
      rw [hll] at hv2 s2
      have S2 := hidMk s2
      clear hk ho s2
      rw [hv2]
      go_wp2_with fail
      refine (HP.out _ (HK1.out.trans HK.out) _ _ S2.out).mono ?_
      intro e w3 hp
      rcases r with _ | m
      · obtain ⟨rfl, hr⟩ := hp
        have HR := hidMk hr
        clear hr
        go_wp2_with fail
        exact ⟨rfl, rfl, HR.out⟩
      · obtain ⟨rfl, hr⟩ := hp
        have HR := hidMk hr
        clear hr
        go_wp2_with fail
        go_end0
        exact ⟨rfl, HR.out⟩
end
end Go.Proofs.YtpehinmckppjoaaGreatDoor
namespace Go.Proofs.YtpehinmckppjoaaGreatDoor
open Go.RowKit Go.Maps
set_option linter.unusedSimpArgs false
set_option linter.unusedVariables false

theorem str_ne {t : ByteArray} (h : t ≠ ⟨#[]⟩) : t.toList.isEmpty = false := by
  rw [List.isEmpty_eq_false_iff]
  intro e
  rw [ByteArray.toList_eq] at e
  exact h (data_inj e)
section
variable {w0 W : World} {pr px pd : Nat} {ms : List ByteArray} {ds : List Dm} {x : Cm} {v : Value} {l : List ByteArray}
set_option maxHeartbeats 1000000 in
set_option maxRecDepth 100000 in
theorem wr_cell (hX : WX w0 pd ms ds) (hS : WS w0 W pr px pd x v l) (hl : l.length ≤ 19) :
    Calls Tryz.prog 179 #[.pointer (some ⟨pr, 0, none⟩), .pointer (some ⟨px, 4, none⟩)] W (WrPost w0 W pr px pd x v l (if rightB ms ds x.c0 (atC x) = true then some [cellW ms ds x] else none)) := by
  have HC0 := hidMk (show ∀ y, Kept W y → Calls Tryz.prog 185 #[.pointer (some ⟨pd, 0, none⟩), .agg #[.int .i64 x.c0, .int .i64 x.c1, .int .i64 x.c2, .int .i64 x.c3, .int .i64 x.c4]] y fun e w' => e = .returned (.string (if rightB ms ds x.c0 (atC x) then cellW ms ds x else ⟨#[]⟩)) ∧ Kept y w' from fun y hy => by
    obtain ⟨yy, tp, ma, mc, lv, sc, dv, hD⟩ := hX.dp _ (hS.kept.trans hy)
    exact dims_Show hD hX.ok.d4 x.c0 (atC x) (by have := hX.ok.join_le x.c0 (atC x) ds.length (Nat.le_refl _); omega))
  have HKE0 := hidMk (show ∀ y, Kept W y → y.cell? ⟨pr, 0, none⟩ = some (.pointer (some ⟨pd, 0, none⟩)) ∧ y.cell? ⟨px, 4, none⟩ = some (.int .i64 x.c0) ∧ y.cell? ⟨px, 5, none⟩ = some (.int .i64 x.c1) ∧ y.cell? ⟨px, 6, none⟩ = some (.int .i64 x.c2) ∧ y.cell? ⟨px, 7, none⟩ = some (.int .i64 x.c3) ∧ y.cell? ⟨px, 8, none⟩ = some (.int .i64 x.c4) from fun y hy => ⟨hy.cellp hS.d, hy.cellp (hS.x 4 _ rfl), hy.cellp (hS.x 5 _ rfl), hy.cellp (hS.x 6 _ rfl), hy.cellp (hS.x 7 _ rfl), hy.cellp (hS.x 8 _ rfl)⟩)
  have HNE := hidMk (show rightB ms ds x.c0 (atC x) = true → cellW ms ds x ≠ ⟨#[]⟩ from fun h e => by
    have hd1 := hX.ok.d1
    have hsl := showL_len ms ds x.c0 (atC x) ds.length
    refine cell_ne (l := showL ms ds x.c0 (atC x) ds.length) (by omega) (show_names hX.ok h) ?_
    have e' : joinB slash (showL ms ds x.c0 (atC x) ds.length) = ⟨#[]⟩ := e
    rw [e'])
  have HPW := hidMk (fun y (hy : Kept W y) t => wr_from hy (wr_put (hS.keep hy) hl t))
  have HMY := hidMk (wr_must_yes ⟨pr, 0, none⟩)
  have HMN := hidMk (wr_must_no ⟨pr, 0, none⟩)
  clear hX hS
  have HC := HC0
  have HKE := HKE0
  clear HC0 HKE0
  generalize x.c0 = c0 at *
  generalize x.c1 = c1 at *
  generalize x.c2 = c2 at *
  generalize x.c3 = c3 at *
  generalize x.c4 = c4 at *
  by_cases hr : rightB ms ds c0 (atC x) = true
  · have hne := HNE.out hr
    rw [if_pos hr] at HC ⊢
    clear HNE
    generalize cellW ms ds x = t at *
    have hb := str_ne hne
    show Calls _ _ _ _ (fun e w' => e = .returned (.tuple #[]) ∧ ∃ v', WS w0 w' pr px pd x v' (l ++ [t]) ∧ WC pr v v' W w')
    go_enter Tryz.func179, Tryz.ntmps179
    go_wp2_with fail
    refine wp_region_held_drew (S := (fun w' => w'.cell? ⟨pr, 0, none⟩ = some (.pointer (some ⟨pd, 0, none⟩)) ∧ w'.cell? ⟨px, 4, none⟩ = some (.int .i64 c0) ∧ w'.cell? ⟨px, 5, none⟩ = some (.int .i64 c1) ∧ w'.cell? ⟨px, 6, none⟩ = some (.int .i64 c2) ∧ w'.cell? ⟨px, 7, none⟩ = some (.int .i64 c3) ∧ w'.cell? ⟨px, 8, none⟩ = some (.int .i64 c4))) (by kernel_rfl) ?_ (fun hHeld => ?_)
    · exact HKE.out _ (by (repeat (first | (with_reducible exact Kept.refl _) | (with_reducible refine Kept.alloc ?_ _) | (with_reducible refine Kept.drew ?_) | (with_reducible refine Kept.drewN ?_ _))))
    refine wpAnyH_take (i := 0) (oi := { dst := some 5, op := _, type := _, pos := _, after := _, guard := _ }) (v := ?_) rfl (by kernel_rfl) (by kernel_rfl) (by kernel_rfl) (fun _ _ _ h => h) (Or.inl ⟨by rfl, ?_⟩) (by assumption) ?_
    rotate_left
    · (intro w hSw; (try dsimp only at hSw); (try obtain ⟨hSw1, hSw2, hSw3, hSw4, hSw5, hSw6⟩ := hSw); go_simp; (try with_reducible rfl))
    (try simp only [Act.put, List.setIfInBounds_toArray, List.set_cons_zero, List.set_cons_succ])
    refine wpAnyH_take (i := 1) (oi := { dst := some 6, op := _, type := _, pos := _, after := _, guard := _ }) (v := ?_) rfl (by kernel_rfl) (by kernel_rfl) (by kernel_rfl) (fun _ _ _ h => h) (Or.inl ⟨by rfl, ?_⟩) (by assumption) ?_
    rotate_left
    · (intro w hSw; (try dsimp only at hSw); (try obtain ⟨hSw1, hSw2, hSw3, hSw4, hSw5, hSw6⟩ := hSw); go_simp; (try with_reducible rfl))
    (try simp only [Act.put, List.setIfInBounds_toArray, List.set_cons_zero, List.set_cons_succ])
    refine wpAnyH_take (i := 2) (oi := { dst := some 7, op := _, type := _, pos := _, after := _, guard := _ }) (v := ?_) rfl (by kernel_rfl) (by kernel_rfl) (by kernel_rfl) (fun _ _ _ h => h) (Or.inl ⟨by rfl, ?_⟩) (by assumption) ?_
    rotate_left
    · (intro w hSw; (try dsimp only at hSw); (try obtain ⟨hSw1, hSw2, hSw3, hSw4, hSw5, hSw6⟩ := hSw); go_simp; (try with_reducible rfl))
    (try simp only [Act.put, List.setIfInBounds_toArray, List.set_cons_zero, List.set_cons_succ])
    refine wpAnyH_take (i := 3) (oi := { dst := some 8, op := _, type := _, pos := _, after := _, guard := _ }) (v := ?_) rfl (by kernel_rfl) (by kernel_rfl) (by kernel_rfl) (fun _ _ _ h => h) (Or.inl ⟨by rfl, ?_⟩) (by assumption) ?_
    rotate_left
    · (intro w hSw; (try dsimp only at hSw); (try obtain ⟨hSw1, hSw2, hSw3, hSw4, hSw5, hSw6⟩ := hSw); go_simp; (try with_reducible rfl))
    (try simp only [Act.put, List.setIfInBounds_toArray, List.set_cons_zero, List.set_cons_succ])
    refine wpAnyH_take (i := 4) (oi := { dst := some 9, op := _, type := _, pos := _, after := _, guard := _ }) (v := ?_) rfl (by kernel_rfl) (by kernel_rfl) (by kernel_rfl) (fun _ _ _ h => h) (Or.inl ⟨by rfl, ?_⟩) (by assumption) ?_
    rotate_left
    · (intro w hSw; (try dsimp only at hSw); (try obtain ⟨hSw1, hSw2, hSw3, hSw4, hSw5, hSw6⟩ := hSw); go_simp; (try with_reducible rfl))
    (try simp only [Act.put, List.setIfInBounds_toArray, List.set_cons_zero, List.set_cons_succ])
    refine wpAnyH_take (i := 5) (oi := { dst := some 10, op := _, type := _, pos := _, after := _, guard := _ }) (v := ?_) rfl (by kernel_rfl) (by kernel_rfl) (by kernel_rfl) (fun _ _ _ h => h) (Or.inl ⟨by rfl, ?_⟩) (by assumption) ?_
    rotate_left
    · (intro w hSw; (try dsimp only at hSw); (try obtain ⟨hSw1, hSw2, hSw3, hSw4, hSw5, hSw6⟩ := hSw); go_simp; (try with_reducible rfl))
    (try simp only [Act.put, List.setIfInBounds_toArray, List.set_cons_zero, List.set_cons_succ])
    refine wpAnyH_take (i := 6) (oi := { dst := some 11, op := _, type := _, pos := _, after := _, guard := _ }) (v := ?_) rfl (by kernel_rfl) (by kernel_rfl) (by kernel_rfl) (fun _ _ _ h => h) (Or.inl ⟨by rfl, ?_⟩) (by assumption) ?_
    rotate_left
    · (intro w hSw; (try dsimp only at hSw); (try obtain ⟨hSw1, hSw2, hSw3, hSw4, hSw5, hSw6⟩ := hSw); go_simp; (try with_reducible rfl))
    (try simp only [Act.put, List.setIfInBounds_toArray, List.set_cons_zero, List.set_cons_succ])
    refine wpAnyH_ready (rs := [7]) (by kernel_rfl) (by simp) ?_
    refine AllReadyH.cons (o := { dst := some 12, op := _, type := _, pos := _, after := _, guard := _ }) rfl (fun K hK => ?_) AllReadyH.nil
    go_simp
    refine (HC.out _ (by (repeat (first | (with_reducible exact Kept.refl _) | (with_reducible refine Kept.alloc ?_ _) | (with_reducible refine Kept.drew ?_) | (with_reducible refine Kept.drewN ?_ _))))).mono ?_
    rintro e w2 ⟨rfl, k2⟩
    have K2 := hidMk (show Kept W w2 from Kept.trans (by (repeat (first | (with_reducible exact Kept.refl _) | (with_reducible refine Kept.alloc ?_ _) | (with_reducible refine Kept.drew ?_) | (with_reducible refine Kept.drewN ?_ _)))) k2)
    clear k2
    (try go_wp2_with fail)
    refine hK.out _ _ ?_ (fun hHeld => ?_)
    · exact HKE.out _ K2.out
    clear hK K
    (try simp only [Act.put, List.setIfInBounds_toArray, List.set_cons_zero, List.set_cons_succ])
    refine wpAnyH_take (i := 8) (oi := { dst := some 4, op := _, type := _, pos := _, after := _, guard := _ }) (v := ?_) rfl (by kernel_rfl) (by kernel_rfl) (by kernel_rfl) (fun _ _ _ h => h) (Or.inl ⟨by rfl, ?_⟩) (by assumption) ?_
    rotate_left
    · (intro w hSw; (try dsimp only at hSw); (try obtain ⟨hSw1, hSw2, hSw3, hSw4, hSw5, hSw6⟩ := hSw); go_simp; (try with_reducible rfl))
    (try simp only [Act.put, List.setIfInBounds_toArray, List.set_cons_zero, List.set_cons_succ])
    refine wpAnyH_done (by kernel_rfl) ?_ _
    go_wp2_with fail
    trace_state
    refine (HMY.out _).mono ?_
    rintro e w3 ⟨rfl, rfl⟩
    go_wp2_with fail
    refine (HPW.out _ K2.out _).mono ?_
    rintro e w4 ⟨rfl, hq⟩
    have HQ := hidMk hq
    clear hq
    go_wp2_with fail
    go_end0
    exact ⟨rfl, HQ.out⟩
  · rw [if_neg hr] at HC ⊢
    clear HNE
    show Calls _ _ _ _ (fun e w' => e = .panicked (flt 0 2) ∧ ∃ v', WC pr v v' W w')
    go_enter Tryz.func179, Tryz.ntmps179
    go_wp2_with fail
    refine wp_region_held_drew (S := (fun w' => w'.cell? ⟨pr, 0, none⟩ = some (.pointer (some ⟨pd, 0, none⟩)) ∧ w'.cell? ⟨px, 4, none⟩ = some (.int .i64 c0) ∧ w'.cell? ⟨px, 5, none⟩ = some (.int .i64 c1) ∧ w'.cell? ⟨px, 6, none⟩ = some (.int .i64 c2) ∧ w'.cell? ⟨px, 7, none⟩ = some (.int .i64 c3) ∧ w'.cell? ⟨px, 8, none⟩ = some (.int .i64 c4))) (by kernel_rfl) ?_ (fun hHeld => ?_)
    · exact HKE.out _ (by (repeat (first | (with_reducible exact Kept.refl _) | (with_reducible refine Kept.alloc ?_ _) | (with_reducible refine Kept.drew ?_) | (with_reducible refine Kept.drewN ?_ _))))
    refine wpAnyH_take (i := 0) (oi := { dst := some 5, op := _, type := _, pos := _, after := _, guard := _ }) (v := ?_) rfl (by kernel_rfl) (by kernel_rfl) (by kernel_rfl) (fun _ _ _ h => h) (Or.inl ⟨by rfl, ?_⟩) (by assumption) ?_
    rotate_left
    · (intro w hSw; (try dsimp only at hSw); (try obtain ⟨hSw1, hSw2, hSw3, hSw4, hSw5, hSw6⟩ := hSw); go_simp; (try with_reducible rfl))
    (try simp only [Act.put, List.setIfInBounds_toArray, List.set_cons_zero, List.set_cons_succ])
    refine wpAnyH_take (i := 1) (oi := { dst := some 6, op := _, type := _, pos := _, after := _, guard := _ }) (v := ?_) rfl (by kernel_rfl) (by kernel_rfl) (by kernel_rfl) (fun _ _ _ h => h) (Or.inl ⟨by rfl, ?_⟩) (by assumption) ?_
    rotate_left
    · (intro w hSw; (try dsimp only at hSw); (try obtain ⟨hSw1, hSw2, hSw3, hSw4, hSw5, hSw6⟩ := hSw); go_simp; (try with_reducible rfl))
    (try simp only [Act.put, List.setIfInBounds_toArray, List.set_cons_zero, List.set_cons_succ])
    refine wpAnyH_take (i := 2) (oi := { dst := some 7, op := _, type := _, pos := _, after := _, guard := _ }) (v := ?_) rfl (by kernel_rfl) (by kernel_rfl) (by kernel_rfl) (fun _ _ _ h => h) (Or.inl ⟨by rfl, ?_⟩) (by assumption) ?_
    rotate_left
    · (intro w hSw; (try dsimp only at hSw); (try obtain ⟨hSw1, hSw2, hSw3, hSw4, hSw5, hSw6⟩ := hSw); go_simp; (try with_reducible rfl))
    (try simp only [Act.put, List.setIfInBounds_toArray, List.set_cons_zero, List.set_cons_succ])
    refine wpAnyH_take (i := 3) (oi := { dst := some 8, op := _, type := _, pos := _, after := _, guard := _ }) (v := ?_) rfl (by kernel_rfl) (by kernel_rfl) (by kernel_rfl) (fun _ _ _ h => h) (Or.inl ⟨by rfl, ?_⟩) (by assumption) ?_
    rotate_left
    · (intro w hSw; (try dsimp only at hSw); (try obtain ⟨hSw1, hSw2, hSw3, hSw4, hSw5, hSw6⟩ := hSw); go_simp; (try with_reducible rfl))
    (try simp only [Act.put, List.setIfInBounds_toArray, List.set_cons_zero, List.set_cons_succ])
    refine wpAnyH_take (i := 4) (oi := { dst := some 9, op := _, type := _, pos := _, after := _, guard := _ }) (v := ?_) rfl (by kernel_rfl) (by kernel_rfl) (by kernel_rfl) (fun _ _ _ h => h) (Or.inl ⟨by rfl, ?_⟩) (by assumption) ?_
    rotate_left
    · (intro w hSw; (try dsimp only at hSw); (try obtain ⟨hSw1, hSw2, hSw3, hSw4, hSw5, hSw6⟩ := hSw); go_simp; (try with_reducible rfl))
    (try simp only [Act.put, List.setIfInBounds_toArray, List.set_cons_zero, List.set_cons_succ])
    refine wpAnyH_take (i := 5) (oi := { dst := some 10, op := _, type := _, pos := _, after := _, guard := _ }) (v := ?_) rfl (by kernel_rfl) (by kernel_rfl) (by kernel_rfl) (fun _ _ _ h => h) (Or.inl ⟨by rfl, ?_⟩) (by assumption) ?_
    rotate_left
    · (intro w hSw; (try dsimp only at hSw); (try obtain ⟨hSw1, hSw2, hSw3, hSw4, hSw5, hSw6⟩ := hSw); go_simp; (try with_reducible rfl))
    (try simp only [Act.put, List.setIfInBounds_toArray, List.set_cons_zero, List.set_cons_succ])
    refine wpAnyH_take (i := 6) (oi := { dst := some 11, op := _, type := _, pos := _, after := _, guard := _ }) (v := ?_) rfl (by kernel_rfl) (by kernel_rfl) (by kernel_rfl) (fun _ _ _ h => h) (Or.inl ⟨by rfl, ?_⟩) (by assumption) ?_
    rotate_left
    · (intro w hSw; (try dsimp only at hSw); (try obtain ⟨hSw1, hSw2, hSw3, hSw4, hSw5, hSw6⟩ := hSw); go_simp; (try with_reducible rfl))
    (try simp only [Act.put, List.setIfInBounds_toArray, List.set_cons_zero, List.set_cons_succ])
    refine wpAnyH_ready (rs := [7]) (by kernel_rfl) (by simp) ?_
    refine AllReadyH.cons (o := { dst := some 12, op := _, type := _, pos := _, after := _, guard := _ }) rfl (fun K hK => ?_) AllReadyH.nil
    go_simp
    refine (HC.out _ (by (repeat (first | (with_reducible exact Kept.refl _) | (with_reducible refine Kept.alloc ?_ _) | (with_reducible refine Kept.drew ?_) | (with_reducible refine Kept.drewN ?_ _))))).mono ?_
    rintro e w2 ⟨rfl, k2⟩
    have K2 := hidMk (show Kept W w2 from Kept.trans (by (repeat (first | (with_reducible exact Kept.refl _) | (with_reducible refine Kept.alloc ?_ _) | (with_reducible refine Kept.drew ?_) | (with_reducible refine Kept.drewN ?_ _)))) k2)
    clear k2
    (try go_wp2_with fail)
    refine hK.out _ _ ?_ (fun hHeld => ?_)
    · exact HKE.out _ K2.out
    clear hK K
    (try simp only [Act.put, List.setIfInBounds_toArray, List.set_cons_zero, List.set_cons_succ])
    refine wpAnyH_take (i := 8) (oi := { dst := some 4, op := _, type := _, pos := _, after := _, guard := _ }) (v := ?_) rfl (by kernel_rfl) (by kernel_rfl) (by kernel_rfl) (fun _ _ _ h => h) (Or.inl ⟨by rfl, ?_⟩) (by assumption) ?_
    rotate_left
    · (intro w hSw; (try dsimp only at hSw); (try obtain ⟨hSw1, hSw2, hSw3, hSw4, hSw5, hSw6⟩ := hSw); go_simp; (try with_reducible rfl))
    (try simp only [Act.put, List.setIfInBounds_toArray, List.set_cons_zero, List.set_cons_succ])
    refine wpAnyH_done (by kernel_rfl) ?_ _
    go_wp2_with fail
    refine (HMN.out _).mono ?_
    rintro e w3 ⟨rfl, rfl⟩
    go_wp2_with fail
    exact ⟨rfl, rfl, _, WC.of_kept K2.out⟩
end
end Go.Proofs.YtpehinmckppjoaaGreatDoor
namespace Go.Proofs.YtpehinmckppjoaaGreatDoor
open Go.RowKit Go.Maps
set_option linter.unusedSimpArgs false
set_option linter.unusedVariables false

section
variable {w0 W : World} {pr px pd : Nat} {ms : List ByteArray} {ds : List Dm} {x : Cm} {v : Value} {l : List ByteArray}
/-- A writer, as the side that fields are told to. -/
def wrV (pr : Nat) : Value := .iface 83 (.pointer (some ⟨pr, 0, none⟩))
theorem cat_nil (r : Option (List ByteArray)) : catW (some []) r = r := by cases r <;> rfl
theorem cat_end (a : Option (List ByteArray)) : catW a (some []) = a := by cases a <;> simp [catW]
theorem cat_more {a m : List ByteArray} {r : Option (List ByteArray)} : catW (some a) (catW (some m) r) = catW (some (a ++ m)) r := by cases r <;> simp [catW]
theorem cat_assoc {a b c : Option (List ByteArray)} : catW (catW a b) c = catW a (catW b c) := by cases a <;> cases b <;> cases c <;> simp [catW]
theorem foldW_app (ms : List ByteArray) (ds : List Dm) (x : Cm) : ∀ bs cs : List Int, foldW ms ds (bs ++ cs) x = catW (foldW ms ds bs x) (foldW ms ds cs x)
  | [], cs => by rw [List.nil_append]; unfold foldW; exact (cat_nil _).symm
  | b :: bs, cs => by
    show catW (oneW ms ds b x) (foldW ms ds (bs ++ cs) x) = catW (catW (oneW ms ds b x) (foldW ms ds bs x)) (foldW ms ds cs x)
    rw [foldW_app ms ds x bs cs]
    exact cat_assoc.symm
theorem oneW_name {b : Int} (h : isNm b) : oneW ms ds b x = if nameB (getT b x) = true then some [getT b x] else none := by
  unfold oneW; rw [if_pos (show b = 117 ∨ b = 115 ∨ b = 111 from h)]
theorem wr_done {W' : World} {v' : Value} {a : List ByteArray} {R : Option (List ByteArray)} (hS : WS w0 W' pr px pd x v' (l ++ a)) (hC : WC pr v v' W W') (hR : some a = R) : WrPost w0 W pr px pd x v l R (.returned (.tuple #[])) W' := by
  subst hR
  exact ⟨rfl, v', hS, hC⟩
theorem wr_fail {W' : World} {R : Option (List ByteArray)} (hC : ∃ v', WC pr v v' W W') (hR : none = R) : WrPost w0 W pr px pd x v l R (.panicked (flt 0 2)) W' := by
  subst hR
  exact ⟨rfl, hC⟩
set_option maxHeartbeats 2000000 in
set_option maxRecDepth 100000 in
theorem wr_names (hS : WS w0 W pr px pd x v l) (hx : XOk x) (hl : l.length ≤ 16) (bs : List Int) (hbl : bs.length ≤ 3) (hb : ∀ k, k < bs.length → isNm (bs.getD k 0)) (g c : Nat) (hg : g ≠ pr ∧ v.ownBlock ≠ some g) (hc : ∀ k, k < bs.length → W.cell? ⟨g, k, none⟩ = some (.pointer (some ⟨px, offT (bs.getD k 0), none⟩))) :
    Calls Tryz.prog 50 #[wrV pr, .slice (some ⟨g, 0, none⟩) bs.length c] W (WrPost w0 W pr px pd x v l (foldW ms ds bs x)) := by
  have HS := hidMk hS
  have HX := hidMk hx
  have HB := hidMk hb
  have HC := hidMk hc
  have HG := hidMk hg
  have HL := hidMk hl
  have HBL := hidMk hbl
  obtain ⟨R, hR⟩ : ∃ R, foldW ms ds bs x = R := ⟨_, rfl⟩
  rw [hR]
  have HR := hidMk hR
  unfold wrV
  clear hS hx hb hc hg hR
  go_enter Tryz.func50, Tryz.ntmps50
  go_wp2_with fail
  go_loopg [8] bs.length (fun gg xx wr => ∃ (k : Nat) (v' : Value) (a : List ByteArray), k + gg = bs.length ∧ xx = .int .i64 k ∧ Hid (a.length = k) ∧ Hid (WS w0 wr pr px pd x v' (l ++ a)) ∧ Hid (WC pr v v' W wr) ∧ Hid (catW (some a) (foldW ms ds (bs.drop k) x) = R))
  case atStart => exact ⟨0, v, [], by omega, rfl, hidMk rfl, hidMk (by rw [List.append_nil]; exact HS.out), hidMk (WC.of_kept (Kept.refl _)), hidMk ((cat_nil _).trans HR.out)⟩
  case round =>
    obtain ⟨k, v', a, hkg, rfl, HA, HS', HCh, HF⟩ := hrel
    have HKG := hidMk hkg
    by_cases hk : k < bs.length
    · have hk1 : (k : Int) < (bs.length : Int) := by omega
      have HK1 := hidMk (show 1 ≤ gk by omega)
      have c0 := (HCh.out.cellp (HC.out k hk) HG.out.1 HG.out.2).1
      have hn := HB.out k hk
      have hd : bs.drop k = bs.getD k 0 :: bs.drop (k + 1) := by rw [List.drop_eq_getElem_cons hk, List.getD_eq_getElem?_getD, List.getElem?_eq_getElem hk]; rfl
      have HF2 := hidMk (show catW (some a) (catW (if nameB (getT (bs.getD k 0) x) = true then some [getT (bs.getD k 0) x] else none) (foldW ms ds (bs.drop (k + 1)) x)) = R by
        have h := HF.out
        rw [hd] at h
        unfold foldW at h
        rw [oneW_name hn] at h
        exact h)
      have HN := hidMk (wr_name HS'.out HX.out (by rw [List.length_append]; have := HA.out; have := HL.out; have := HBL.out; omega) hn)
      clear hd hn hkg
      generalize bs.getD k 0 = b at *
      generalize getT b x = t at *
      by_cases hq : nameB t = true
      · rw [if_pos hq] at HN
        have HF3 := hidMk (show catW (some (a ++ [t])) (foldW ms ds (bs.drop (k + 1)) x) = R by have h := HF2.out; rw [if_pos hq, cat_more] at h; exact h)
        clear hq HF2
        go_wp2_with fail
        refine HN.out.mono ?_
        rintro e w2 ⟨rfl, v2, hs2, hc2⟩
        have HS2 := hidMk (show WS w0 w2 pr px pd x v2 (l ++ (a ++ [t])) by rw [← List.append_assoc]; exact hs2)
        have HC2 := hidMk (HCh.out.trans hc2)
        clear hs2 hc2
        go_wp2_with fail
        go_roundg (gk - 1)
        case measure => have := HKG.out; have := HK1.out; omega
        case rel => exact ⟨k + 1, v2, a ++ [t], by have h1 := HKG.out; have h2 := HK1.out; omega, by go_num, hidMk (by rw [List.length_append, HA.out]; rfl), HS2, HC2, HF3⟩
      · rw [if_neg hq] at HN
        have HF3 := hidMk (show none = R by have h := HF2.out; rw [if_neg hq] at h; exact h)
        clear hq HF2
        go_wp2_with fail
        refine HN.out.mono ?_
        rintro e w2 ⟨rfl, v2, hc2⟩
        have HC2 := hidMk (HCh.out.trans hc2)
        clear hc2
        go_wp2_with fail
        exact ⟨rfl, wr_fail ⟨_, HC2.out⟩ HF3.out⟩
    · have hk1 : ¬ ((k : Int) < (bs.length : Int)) := by omega
      have hR2 := HF.out
      rw [List.drop_eq_nil_of_le (by omega)] at hR2
      unfold foldW at hR2
      rw [cat_end] at hR2
      have HR2 := hidMk hR2
      clear hkg hR2
      go_wp2_with fail
      go_end0
      exact wr_done HS'.out HCh.out HR2.out
end
end Go.Proofs.YtpehinmckppjoaaGreatDoor
