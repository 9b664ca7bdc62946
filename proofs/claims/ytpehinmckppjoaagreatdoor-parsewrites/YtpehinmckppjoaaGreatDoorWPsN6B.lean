/- The definition's reader: what is to stand next, but a cell. · The definition's reader: a cell; anything. -/
import Derived.Test.YtpehinmckppjoaaGreatDoorWPsN4B
import Derived.Test.YtpehinmckppjoaaGreatDoorWPs7B
namespace Go.Proofs.YtpehinmckppjoaaGreatDoor
open Go.RowKit Go.Maps
set_option linter.unusedSimpArgs false
set_option linter.unusedVariables false

section
variable {w0 W : World} {pr pq : Nat} {ra : Option Addr} {rc : Nat} {ms : List ByteArray} {ds : List Dm} {L : List ByteArray} {s : Nat × Cm}
set_option maxHeartbeats 2000000 in
theorem q_one_104 (hX : QX w0 pr pq ra rc ms ds L) (hS : QS w0 W pr pq ra L.length rc s) (hh : s.2.h ≠ 2) :
    Calls Tryz.prog 30 #[.pointer (some ⟨pr, 0, none⟩), .int .u8 104] W (QOne w0 W pr pq ra L.length rc (howP ms L s)) := by
  have H := hidMk (q_wayH hX hS hh)
  obtain ⟨r, hr⟩ : ∃ r, howP ms L s = r := ⟨_, rfl⟩
  rw [hr] at H ⊢
  clear hX hS hr hh
  go_enter Tryz.func30, Tryz.ntmps30
  go_wp2_with fail
  refine H.out.mono ?_
  intro e w1 hp
  rcases r with p | s1
  · obtain ⟨c1, rfl, h1⟩ := hp
    have H1 := hidMk (And.intro c1 h1)
    clear c1 h1
    go_wp2_with fail
    go_ret
    exact ⟨H1.out.1, rfl, H1.out.2⟩
  · obtain ⟨c1, rfl, h1⟩ := hp
    have H1 := hidMk (And.intro c1 h1)
    clear c1 h1
    go_wp2_with fail
    go_ret
    exact ⟨H1.out.1, rfl, H1.out.2⟩
set_option maxHeartbeats 2000000 in
theorem q_one_109 (hX : QX w0 pr pq ra rc ms ds L) (hS : QS w0 W pr pq ra L.length rc s) (hh : s.2.h ≠ 2) :
    Calls Tryz.prog 30 #[.pointer (some ⟨pr, 0, none⟩), .int .u8 109] W (QOne w0 W pr pq ra L.length rc (choiceP L mtW s)) := by
  have H := hidMk (q_wayM hX hS hh)
  obtain ⟨r, hr⟩ : ∃ r, choiceP L mtW s = r := ⟨_, rfl⟩
  rw [hr] at H ⊢
  clear hX hS hr hh
  go_enter Tryz.func30, Tryz.ntmps30
  go_wp2_with fail
  refine H.out.mono ?_
  intro e w1 hp
  rcases r with p | s1
  · obtain ⟨c1, rfl, h1⟩ := hp
    have H1 := hidMk (And.intro c1 h1)
    clear c1 h1
    go_wp2_with fail
    go_ret
    exact ⟨H1.out.1, rfl, H1.out.2⟩
  · obtain ⟨c1, rfl, h1⟩ := hp
    have H1 := hidMk (And.intro c1 h1)
    clear c1 h1
    go_wp2_with fail
    go_ret
    exact ⟨H1.out.1, rfl, H1.out.2⟩
set_option maxHeartbeats 4000000 in
set_option maxRecDepth 100000 in
theorem q_one_110 (hX : QX w0 pr pq ra rc ms ds L) (hS : QS w0 W pr pq ra L.length rc s) :
    Calls Tryz.prog 30 #[.pointer (some ⟨pr, 0, none⟩), .int .u8 110] W (QOne w0 W pr pq ra L.length rc (numP L s)) := by
  obtain ⟨i, x⟩ := s
  cases hn : nx L 2 i with
  | none =>
    have HR := hidMk (show numP L (i, x) = .error ((i : Int), 6) from by unfold numP; simp only [hn])
    rw [HR.out]
    have HN := hidMk (q_next_no hX hS (kind := 2) hn)
    have HS := hidMk hS
    clear hX hS hn
    unfold wdZ at HN
    show Calls _ _ _ _ (fun e w' => Chg (· = pr) W w' ∧ e = .returned (.int .i64 6) ∧ ∃ s', QS w0 w' pr pq ra L.length rc s' ∧ (s'.1 : Int) = (i : Int))
    go_enter Tryz.func30, Tryz.ntmps30
    go_wp2_with fail
    refine HN.out.mono ?_
    rintro e w1 ⟨rfl, k1⟩
    have K1 := hidMk k1
    clear k1
    go_wp2_with fail
    go_ret
    exact ⟨Chg.of_kept (K1.out.alloc _), rfl, _, HS.out.keep (K1.out.alloc _), rfl⟩
  | some t =>
    have HR := hidMk (show numP L (i, x) = .ok (i + 1, { x with n := rdN t }) from by unfold numP; simp only [hn])
    rw [HR.out]
    have HN := hidMk (q_next_yes hX hS (kind := 2) hn)
    have HS := hidMk hS
    have hbig := hX.big
    have HIL := hidMk (nx_some hn).1
    have hi := (nx_some hn).1
    have hwr : IntKind.i64.wrap ((i : Int) + 1) = (i : Int) + 1 := by rw [IntKind.wrap_i64]; omega
    clear hX hS hn hi
    show Calls _ _ _ _ (fun e w' => Chg (· = pr) W w' ∧ e = .returned (.int .i64 0) ∧ QS w0 w' pr pq ra L.length rc (i + 1, { x with n := rdN t }))
    go_enter Tryz.func30, Tryz.ntmps30
    go_wp2_with fail
    refine HN.out.mono ?_
    rintro e w1 ⟨wx, rfl, _, _, k1⟩
    have K1 := hidMk k1
    have S1 := hidMk (fun ob => HS.out.keep (k1.alloc ob))
    have z2 := fun ob => (S1.out ob).at_
    have zx : ∀ ob, (w1.alloc ob).cell? ⟨pr, 12, none⟩ = some (.int .i64 x.n) := fun ob => (S1.out ob).x 9 _ rfl
    have g1 := fun ob => (S1.out ob).fr 12 (by omega)
    have g2 := fun ob => (S1.out ob).fr 2 (by omega)
    simp only at z2
    clear k1
    go_wp2_with fail
    go_ret
    exact ⟨chg_step (Chg.of_kept (K1.out.alloc _)) _ _ _, rfl, (S1.out _).step (o := 9) (by omega) rfl (by have := HIL.out; omega)⟩
set_option maxHeartbeats 4000000 in
set_option maxRecDepth 100000 in
theorem q_one_117 (hX : QX w0 pr pq ra rc ms ds L) (hS : QS w0 W pr pq ra L.length rc s) :
    Calls Tryz.prog 30 #[.pointer (some ⟨pr, 0, none⟩), .int .u8 117] W (QOne w0 W pr pq ra L.length rc (nameP L 117 s)) := by
  obtain ⟨i, x⟩ := s
  cases hn : nx L 1 i with
  | none =>
    have HR := hidMk (show nameP L 117 (i, x) = .error ((i : Int), 6) from by unfold nameP; simp only [hn])
    rw [HR.out]
    have HN := hidMk (q_next_no hX hS (kind := 1) hn)
    have HS := hidMk hS
    clear hX hS hn
    unfold wdZ at HN
    show Calls _ _ _ _ (fun e w' => Chg (· = pr) W w' ∧ e = .returned (.int .i64 6) ∧ ∃ s', QS w0 w' pr pq ra L.length rc s' ∧ (s'.1 : Int) = (i : Int))
    go_enter Tryz.func30, Tryz.ntmps30
    go_wp2_with fail
    refine HN.out.mono ?_
    rintro e w1 ⟨rfl, k1⟩
    have K1 := hidMk k1
    clear k1
    go_wp2_with fail
    go_ret
    exact ⟨Chg.of_kept (K1.out.alloc _), rfl, _, HS.out.keep (K1.out.alloc _), rfl⟩
  | some t =>
    have HR := hidMk (show nameP L 117 (i, x) = .ok (i + 1, { x with u := t }) from by unfold nameP; simp only [hn]; rfl)
    rw [HR.out]
    have HN := hidMk (q_next_yes hX hS (kind := 1) hn)
    have HS := hidMk hS
    have hbig := hX.big
    have HIL := hidMk (nx_some hn).1
    have hi := (nx_some hn).1
    have hwr : IntKind.i64.wrap ((i : Int) + 1) = (i : Int) + 1 := by rw [IntKind.wrap_i64]; omega
    clear hX hS hn hi
    show Calls _ _ _ _ (fun e w' => Chg (· = pr) W w' ∧ e = .returned (.int .i64 0) ∧ QS w0 w' pr pq ra L.length rc (i + 1, { x with u := t }))
    go_enter Tryz.func30, Tryz.ntmps30
    go_wp2_with fail
    refine HN.out.mono ?_
    rintro e w1 ⟨wx, rfl, _, _, k1⟩
    have K1 := hidMk k1
    have S1 := hidMk (fun ob => HS.out.keep (k1.alloc ob))
    have z2 := fun ob => (S1.out ob).at_
    have zx : ∀ ob, (w1.alloc ob).cell? ⟨pr, 4, none⟩ = some (.string x.u) := fun ob => (S1.out ob).x 1 _ rfl
    have g1 := fun ob => (S1.out ob).fr 4 (by omega)
    have g2 := fun ob => (S1.out ob).fr 2 (by omega)
    simp only at z2
    clear k1
    go_wp2_with fail
    go_ret
    exact ⟨chg_step (Chg.of_kept (K1.out.alloc _)) _ _ _, rfl, (S1.out _).step (o := 1) (by omega) rfl (by have := HIL.out; omega)⟩
set_option maxHeartbeats 4000000 in
set_option maxRecDepth 100000 in
theorem q_one_115 (hX : QX w0 pr pq ra rc ms ds L) (hS : QS w0 W pr pq ra L.length rc s) :
    Calls Tryz.prog 30 #[.pointer (some ⟨pr, 0, none⟩), .int .u8 115] W (QOne w0 W pr pq ra L.length rc (nameP L 115 s)) := by
  obtain ⟨i, x⟩ := s
  cases hn : nx L 1 i with
  | none =>
    have HR := hidMk (show nameP L 115 (i, x) = .error ((i : Int), 6) from by unfold nameP; simp only [hn])
    rw [HR.out]
    have HN := hidMk (q_next_no hX hS (kind := 1) hn)
    have HS := hidMk hS
    clear hX hS hn
    unfold wdZ at HN
    show Calls _ _ _ _ (fun e w' => Chg (· = pr) W w' ∧ e = .returned (.int .i64 6) ∧ ∃ s', QS w0 w' pr pq ra L.length rc s' ∧ (s'.1 : Int) = (i : Int))
    go_enter Tryz.func30, Tryz.ntmps30
    go_wp2_with fail
    refine HN.out.mono ?_
    rintro e w1 ⟨rfl, k1⟩
    have K1 := hidMk k1
    clear k1
    go_wp2_with fail
    go_ret
    exact ⟨Chg.of_kept (K1.out.alloc _), rfl, _, HS.out.keep (K1.out.alloc _), rfl⟩
  | some t =>
    have HR := hidMk (show nameP L 115 (i, x) = .ok (i + 1, { x with s := t }) from by unfold nameP; simp only [hn]; rfl)
    rw [HR.out]
    have HN := hidMk (q_next_yes hX hS (kind := 1) hn)
    have HS := hidMk hS
    have hbig := hX.big
    have HIL := hidMk (nx_some hn).1
    have hi := (nx_some hn).1
    have hwr : IntKind.i64.wrap ((i : Int) + 1) = (i : Int) + 1 := by rw [IntKind.wrap_i64]; omega
    clear hX hS hn hi
    show Calls _ _ _ _ (fun e w' => Chg (· = pr) W w' ∧ e = .returned (.int .i64 0) ∧ QS w0 w' pr pq ra L.length rc (i + 1, { x with s := t }))
    go_enter Tryz.func30, Tryz.ntmps30
    go_wp2_with fail
    refine HN.out.mono ?_
    rintro e w1 ⟨wx, rfl, _, _, k1⟩
    have K1 := hidMk k1
    have S1 := hidMk (fun ob => HS.out.keep (k1.alloc ob))
    have z2 := fun ob => (S1.out ob).at_
    have zx : ∀ ob, (w1.alloc ob).cell? ⟨pr, 5, none⟩ = some (.string x.s) := fun ob => (S1.out ob).x 2 _ rfl
    have g1 := fun ob => (S1.out ob).fr 5 (by omega)
    have g2 := fun ob => (S1.out ob).fr 2 (by omega)
    simp only at z2
    clear k1
    go_wp2_with fail
    go_ret
    exact ⟨chg_step (Chg.of_kept (K1.out.alloc _)) _ _ _, rfl, (S1.out _).step (o := 2) (by omega) rfl (by have := HIL.out; omega)⟩
set_option maxHeartbeats 4000000 in
set_option maxRecDepth 100000 in
theorem q_one_111 (hX : QX w0 pr pq ra rc ms ds L) (hS : QS w0 W pr pq ra L.length rc s) :
    Calls Tryz.prog 30 #[.pointer (some ⟨pr, 0, none⟩), .int .u8 111] W (QOne w0 W pr pq ra L.length rc (nameP L 111 s)) := by
  obtain ⟨i, x⟩ := s
  cases hn : nx L 1 i with
  | none =>
    have HR := hidMk (show nameP L 111 (i, x) = .error ((i : Int), 6) from by unfold nameP; simp only [hn])
    rw [HR.out]
    have HN := hidMk (q_next_no hX hS (kind := 1) hn)
    have HS := hidMk hS
    clear hX hS hn
    unfold wdZ at HN
    show Calls _ _ _ _ (fun e w' => Chg (· = pr) W w' ∧ e = .returned (.int .i64 6) ∧ ∃ s', QS w0 w' pr pq ra L.length rc s' ∧ (s'.1 : Int) = (i : Int))
    go_enter Tryz.func30, Tryz.ntmps30
    go_wp2_with fail
    refine HN.out.mono ?_
    rintro e w1 ⟨rfl, k1⟩
    have K1 := hidMk k1
    clear k1
    go_wp2_with fail
    go_ret
    exact ⟨Chg.of_kept (K1.out.alloc _), rfl, _, HS.out.keep (K1.out.alloc _), rfl⟩
  | some t =>
    have HR := hidMk (show nameP L 111 (i, x) = .ok (i + 1, { x with o := t }) from by unfold nameP; simp only [hn]; rfl)
    rw [HR.out]
    have HN := hidMk (q_next_yes hX hS (kind := 1) hn)
    have HS := hidMk hS
    have hbig := hX.big
    have HIL := hidMk (nx_some hn).1
    have hi := (nx_some hn).1
    have hwr : IntKind.i64.wrap ((i : Int) + 1) = (i : Int) + 1 := by rw [IntKind.wrap_i64]; omega
    clear hX hS hn hi
    show Calls _ _ _ _ (fun e w' => Chg (· = pr) W w' ∧ e = .returned (.int .i64 0) ∧ QS w0 w' pr pq ra L.length rc (i + 1, { x with o := t }))
    go_enter Tryz.func30, Tryz.ntmps30
    go_wp2_with fail
    refine HN.out.mono ?_
    rintro e w1 ⟨wx, rfl, _, _, k1⟩
    have K1 := hidMk k1
    have S1 := hidMk (fun ob => HS.out.keep (k1.alloc ob))
    have z2 := fun ob => (S1.out ob).at_
    have zx : ∀ ob, (w1.alloc ob).cell? ⟨pr, 6, none⟩ = some (.string x.o) := fun ob => (S1.out ob).x 3 _ rfl
    have g1 := fun ob => (S1.out ob).fr 6 (by omega)
    have g2 := fun ob => (S1.out ob).fr 2 (by omega)
    simp only at z2
    clear k1
    go_wp2_with fail
    go_ret
    exact ⟨chg_step (Chg.of_kept (K1.out.alloc _)) _ _ _, rfl, (S1.out _).step (o := 3) (by omega) rfl (by have := HIL.out; omega)⟩
set_option maxHeartbeats 4000000 in
set_option maxRecDepth 100000 in
theorem q_one_100 (hX : QX w0 pr pq ra rc ms ds L) (hS : QS w0 W pr pq ra L.length rc s) :
    Calls Tryz.prog 30 #[.pointer (some ⟨pr, 0, none⟩), .int .u8 100] W (QOne w0 W pr pq ra L.length rc (indexP L (lbl ds) s)) := by
  obtain ⟨i, x⟩ := s
  cases hn : nx L 1 i with
  | none =>
    have HR := hidMk (show indexP L (lbl ds) (i, x) = .error ((i : Int), 6) from by unfold indexP; simp only [hn])
    rw [HR.out]
    have HN := hidMk (q_next_no hX hS (kind := 1) hn)
    have HS := hidMk hS
    clear hX hS hn
    unfold wdZ at HN
    show Calls _ _ _ _ (fun e w' => Chg (· = pr) W w' ∧ e = .returned (.int .i64 6) ∧ ∃ s', QS w0 w' pr pq ra L.length rc s' ∧ (s'.1 : Int) = (i : Int))
    go_enter Tryz.func30, Tryz.ntmps30
    go_wp2_with fail
    refine HN.out.mono ?_
    rintro e w1 ⟨rfl, k1⟩
    have K1 := hidMk k1
    clear k1
    go_wp2_with fail
    go_ret
    exact ⟨Chg.of_kept (K1.out.alloc _), rfl, _, HS.out.keep (K1.out.alloc _), rfl⟩
  | some t =>
    have HR := hidMk (show indexP L (lbl ds) (i, x) = if idxI (lbl ds) t < 0 then .error ((i : Int), 10) else .ok (i + 1, { x with m := idxI (lbl ds) t }) from by unfold indexP; simp only [hn])
    rw [HR.out]
    have HN := hidMk (q_next_yes hX hS (kind := 1) hn)
    have HS := hidMk hS
    have HX := hidMk hX
    have hbig := hX.big
    have HD4 := hidMk hX.ok.d4
    have HIL := hidMk (nx_some hn).1
    have hi := (nx_some hn).1
    have hwr : IntKind.i64.wrap ((i : Int) + 1) = (i : Int) + 1 := by rw [IntKind.wrap_i64]; omega
    clear hX hS hn hi
    obtain ⟨k, hk⟩ : ∃ k, idxI (lbl ds) t = k := ⟨_, rfl⟩
    rw [hk]
    have HK := hidMk hk
    obtain ⟨R, hR⟩ : ∃ R : PR, (if k < 0 then .error ((i : Int), 10) else .ok (i + 1, { x with m := k })) = R := ⟨_, rfl⟩
    rw [hR]
    have HRR := hidMk hR
    clear hR hk
    go_enter Tryz.func30, Tryz.ntmps30
    go_wp2_with fail
    refine HN.out.mono ?_
    rintro e w1 ⟨wx, rfl, _, _, k1⟩
    have K1 := hidMk k1
    clear k1
    go_wp2_with fail
    obtain ⟨w2, hw2⟩ : ∃ w2, w2 = w1.alloc (.cells #[.int .i64 1, .string t, .int .i64 wx.p, .int .i64 (rdN t), .slice wx.a wx.m wx.c] 77) := ⟨_, rfl⟩
    rw [← hw2]
    have K2 := hidMk (show Kept W w2 by rw [hw2]; exact K1.out.alloc _)
    have qc : w2.cell? ⟨w1.heap.size, 1, none⟩ = some (.string t) := by rw [hw2]; exact new_cell _ _ _ _ _ _ rfl rfl
    have S2 := hidMk (HS.out.keep K2.out)
    have qa := S2.out.d
    obtain ⟨rt, hrd⟩ := HX.out.rd _ S2.out.kept
    obtain ⟨da, dc, na, qb, hds⟩ := hrd.c0
    have HNM := hidMk (show ∀ y, Kept w2 y → _ from fun y hy => ref6_Names da ds.length dc ds na y (hds.kept hy) (by have := HD4.out; omega))
    have HFI := hidMk (show ∀ y, Kept w2 y → ∀ a n c, Ss y a n (lbl ds) → _ from fun y hy a n c hs => ref6_Find a n c (lbl ds) t y hs)
    rw [HK.out] at HFI
    clear hw2 hrd hds
    go_wp2_with fail
    refine wp_region_held_drew (S := (fun w' => w'.cell? ⟨pr, 0, none⟩ = some (.pointer (some ⟨pq, 0, none⟩)) ∧ w'.cell? ⟨pq, 0, none⟩ = some (.slice da ds.length dc) ∧ w'.cell? ⟨w1.heap.size, 1, none⟩ = some (.string t))) (by kernel_rfl) ?_ (fun hHeld => ?_)
    · exact ⟨qa, qb, qc⟩
    refine wpAnyH_take (i := 0) (oi := { dst := some 24, op := _, type := _, pos := _, after := _, guard := _ }) (v := ?_) rfl (by kernel_rfl) (by kernel_rfl) (by kernel_rfl) (fun _ _ _ h => h) (Or.inl ⟨by rfl, ?_⟩) (by assumption) ?_
    rotate_left
    · (intro w hSw; (try dsimp only at hSw); (try obtain ⟨hSw1, hSw2, hSw3⟩ := hSw); go_simp; (try with_reducible rfl))
    (try simp only [Act.put, List.setIfInBounds_toArray, List.set_cons_zero, List.set_cons_succ])
    refine wpAnyH_take (i := 1) (oi := { dst := some 25, op := _, type := _, pos := _, after := _, guard := _ }) (v := ?_) rfl (by kernel_rfl) (by kernel_rfl) (by kernel_rfl) (fun _ _ _ h => h) (Or.inl ⟨by rfl, ?_⟩) (by assumption) ?_
    rotate_left
    · (intro w hSw; (try dsimp only at hSw); (try obtain ⟨hSw1, hSw2, hSw3⟩ := hSw); go_simp; (try with_reducible rfl))
    (try simp only [Act.put, List.setIfInBounds_toArray, List.set_cons_zero, List.set_cons_succ])
    refine wpAnyH_take (i := 2) (oi := { dst := some 26, op := _, type := _, pos := _, after := _, guard := _ }) (v := ?_) rfl (by kernel_rfl) (by kernel_rfl) (by kernel_rfl) (fun _ _ _ h => h) (Or.inl ⟨by rfl, ?_⟩) (by assumption) ?_
    rotate_left
    · (intro w hSw; (try dsimp only at hSw); (try obtain ⟨hSw1, hSw2, hSw3⟩ := hSw); go_simp; (try with_reducible rfl))
    (try simp only [Act.put, List.setIfInBounds_toArray, List.set_cons_zero, List.set_cons_succ])
    refine wpAnyH_take (i := 3) (oi := { dst := some 27, op := _, type := _, pos := _, after := _, guard := _ }) (v := ?_) rfl (by kernel_rfl) (by kernel_rfl) (by kernel_rfl) (fun _ _ _ h => h) (Or.inl ⟨by rfl, ?_⟩) (by assumption) ?_
    rotate_left
    · (intro w hSw; (try dsimp only at hSw); (try obtain ⟨hSw1, hSw2, hSw3⟩ := hSw); go_simp; (try with_reducible rfl))
    (try simp only [Act.put, List.setIfInBounds_toArray, List.set_cons_zero, List.set_cons_succ])
    refine wpAnyH_take (i := 4) (oi := { dst := some 28, op := _, type := _, pos := _, after := _, guard := _ }) (v := ?_) rfl (by kernel_rfl) (by kernel_rfl) (by kernel_rfl) (fun _ _ _ h => h) (Or.inl ⟨by rfl, ?_⟩) (by assumption) ?_
    rotate_left
    · (intro w hSw; (try dsimp only at hSw); (try obtain ⟨hSw1, hSw2, hSw3⟩ := hSw); go_simp; (try with_reducible rfl))
    (try simp only [Act.put, List.setIfInBounds_toArray, List.set_cons_zero, List.set_cons_succ])
    refine wpAnyH_take (i := 5) (oi := { dst := some 29, op := _, type := _, pos := _, after := _, guard := _ }) (v := ?_) rfl (by kernel_rfl) (by kernel_rfl) (by kernel_rfl) (fun _ _ _ h => h) (Or.inl ⟨by rfl, ?_⟩) (by assumption) ?_
    rotate_left
    · (intro w hSw; (try dsimp only at hSw); (try obtain ⟨hSw1, hSw2, hSw3⟩ := hSw); go_simp; (try with_reducible rfl))
    (try simp only [Act.put, List.setIfInBounds_toArray, List.set_cons_zero, List.set_cons_succ])
    refine wpAnyH_take (i := 6) (oi := { dst := some 30, op := _, type := _, pos := _, after := _, guard := _ }) (v := ?_) rfl (by kernel_rfl) (by kernel_rfl) (by kernel_rfl) (fun _ _ _ h => h) (Or.inl ⟨by rfl, ?_⟩) (by assumption) ?_
    rotate_left
    · (intro w hSw; (try dsimp only at hSw); (try obtain ⟨hSw1, hSw2, hSw3⟩ := hSw); go_simp; (try with_reducible rfl))
    (try simp only [Act.put, List.setIfInBounds_toArray, List.set_cons_zero, List.set_cons_succ])
    refine wpAnyH_take (i := 7) (oi := { dst := some 31, op := _, type := _, pos := _, after := _, guard := _ }) (v := ?_) rfl (by kernel_rfl) (by kernel_rfl) (by kernel_rfl) (fun _ _ _ h => h) (Or.inl ⟨by rfl, ?_⟩) (by assumption) ?_
    rotate_left
    · (intro w hSw; (try dsimp only at hSw); (try obtain ⟨hSw1, hSw2, hSw3⟩ := hSw); go_simp; (try with_reducible rfl))
    (try simp only [Act.put, List.setIfInBounds_toArray, List.set_cons_zero, List.set_cons_succ])
    refine wpAnyH_take (i := 9) (oi := { dst := some 33, op := _, type := _, pos := _, after := _, guard := _ }) (v := ?_) rfl (by kernel_rfl) (by kernel_rfl) (by kernel_rfl) (fun _ _ _ h => h) (Or.inl ⟨by rfl, ?_⟩) (by assumption) ?_
    rotate_left
    · (intro w hSw; (try dsimp only at hSw); (try obtain ⟨hSw1, hSw2, hSw3⟩ := hSw); go_simp; (try with_reducible rfl))
    (try simp only [Act.put, List.setIfInBounds_toArray, List.set_cons_zero, List.set_cons_succ])
    refine wpAnyH_take (i := 10) (oi := { dst := some 34, op := _, type := _, pos := _, after := _, guard := _ }) (v := ?_) rfl (by kernel_rfl) (by kernel_rfl) (by kernel_rfl) (fun _ _ _ h => h) (Or.inl ⟨by rfl, ?_⟩) (by assumption) ?_
    rotate_left
    · (intro w hSw; (try dsimp only at hSw); (try obtain ⟨hSw1, hSw2, hSw3⟩ := hSw); go_simp; (try with_reducible rfl))
    (try simp only [Act.put, List.setIfInBounds_toArray, List.set_cons_zero, List.set_cons_succ])
    refine wpAnyH_ready (rs := [8]) (by kernel_rfl) (by simp) ?_
    refine AllReadyH.cons (o := { dst := some 32, op := _, type := _, pos := _, after := _, guard := _ }) rfl (fun K hK => ?_) AllReadyH.nil
    go_simp
    refine (HNM.out _ (by (repeat (first | (with_reducible exact Kept.refl _) | (with_reducible refine Kept.alloc ?_ _) | (with_reducible refine Kept.drew ?_) | (with_reducible refine Kept.drewN ?_ _) | (with_reducible refine Kept.trans ?_ (by assumption)))))).mono ?_
    rintro e w3 ⟨v, rfl, ho, k3⟩
    obtain ⟨a3, c3, rfl, s3, _⟩ := own_ss (by rw [lbl_len]; unfold maxLen; have := HD4.out; omega) ho
    have K3 := hidMk (show Kept w2 w3 from Kept.trans (by (repeat (first | (with_reducible exact Kept.refl _) | (with_reducible refine Kept.alloc ?_ _) | (with_reducible refine Kept.drew ?_) | (with_reducible refine Kept.drewN ?_ _) | (with_reducible refine Kept.trans ?_ (by assumption))))) k3)
    have SS3 := hidMk s3
    clear k3 ho s3
    (try go_wp2_with fail)
    refine hK.out _ _ ?_ (fun hHeld => ?_)
    · exact ⟨Kept.cellp (K3.out) qa, Kept.cellp (K3.out) qb, Kept.cellp (K3.out) qc⟩
    clear hK K
    (try simp only [Act.put, List.setIfInBounds_toArray, List.set_cons_zero, List.set_cons_succ])
    refine wpAnyH_ready (rs := [11]) (by kernel_rfl) (by simp) ?_
    refine AllReadyH.cons (o := { dst := some 35, op := _, type := _, pos := _, after := _, guard := _ }) rfl (fun K hK => ?_) AllReadyH.nil
    go_simp
    refine (HFI.out _ (by (repeat (first | (with_reducible exact Kept.refl _) | (with_reducible refine Kept.alloc ?_ _) | (with_reducible refine Kept.drew ?_) | (with_reducible refine Kept.drewN ?_ _) | (with_reducible refine Kept.trans ?_ (by first | assumption | exact K3.out))))) _ _ _ (SS3.out.kept (by (repeat (first | (with_reducible exact Kept.refl _) | (with_reducible refine Kept.alloc ?_ _) | (with_reducible refine Kept.drew ?_) | (with_reducible refine Kept.drewN ?_ _) | (with_reducible refine Kept.trans ?_ (by assumption))))))).mono ?_
    rintro e w4 ⟨rfl, hw4⟩
    rw [hw4]
    clear hw4
    (try go_wp2_with fail)
    refine hK.out _ _ ?_ (fun hHeld => ?_)
    · exact ⟨Kept.cellp (K3.out) qa, Kept.cellp (K3.out) qb, Kept.cellp (K3.out) qc⟩
    clear hK K
    (try simp only [Act.put, List.setIfInBounds_toArray, List.set_cons_zero, List.set_cons_succ])
    refine wpAnyH_take (i := 12) (oi := { dst := some 13, op := _, type := _, pos := _, after := _, guard := _ }) (v := ?_) rfl (by kernel_rfl) (by kernel_rfl) (by kernel_rfl) (fun _ _ _ h => h) (Or.inl ⟨by rfl, ?_⟩) (by assumption) ?_
    rotate_left
    · (intro w hSw; (try dsimp only at hSw); (try obtain ⟨hSw1, hSw2, hSw3⟩ := hSw); go_simp; (try with_reducible rfl))
    (try simp only [Act.put, List.setIfInBounds_toArray, List.set_cons_zero, List.set_cons_succ])
    refine wpAnyH_done (by kernel_rfl) ?_ _
    have S3 := hidMk (S2.out.keep K3.out)
    have z2 := S3.out.at_
    have zx : w3.cell? ⟨pr, 14, none⟩ = some (.int .i64 x.m) := S3.out.x 11 _ rfl
    have g1 := S3.out.fr 14 (by omega)
    have g2 := S3.out.fr 2 (by omega)
    simp only at z2
    clear qa qb qc
    by_cases hk0 : k < 0
    · have hkd : decide (k < 0) = true := by simpa using hk0
      have HR2 := HRR.out
      rw [if_pos hk0] at HR2
      subst HR2
      go_wp2_with fail
      go_ret
      exact ⟨Chg.of_kept (by exact (K2.out.trans K3.out)), rfl, _, S3.out, rfl⟩
    · have hkd : decide (k < 0) = false := by simpa using hk0
      have HR2 := HRR.out
      rw [if_neg hk0] at HR2
      subst HR2
      go_wp2_with fail
      go_ret
      exact ⟨chg_step (Chg.of_kept (K2.out.trans K3.out)) _ _ _, rfl, S3.out.step (o := 11) (by omega) rfl (by have := HIL.out; omega)⟩
end
end Go.Proofs.YtpehinmckppjoaaGreatDoor
namespace Go.Proofs.YtpehinmckppjoaaGreatDoor
open Go.RowKit Go.Maps
set_option linter.unusedSimpArgs false
set_option linter.unusedVariables false

theorem QS.setC {w0 W : World} {pr pq : Nat} {ra : Option Addr} {rn rc i : Nat} {x : Cm} (h : QS w0 W pr pq ra rn rc (i, x)) (i0 i1 i2 i3 i4 : Int) (hi : i + 1 ≤ rn) : QS w0 ((((((W.setCell ⟨pr, 7, none⟩ (.int .i64 i0)).setCell ⟨pr, 8, none⟩ (.int .i64 i1)).setCell ⟨pr, 9, none⟩ (.int .i64 i2)).setCell ⟨pr, 10, none⟩ (.int .i64 i3)).setCell ⟨pr, 11, none⟩ (.int .i64 i4)).setCell ⟨pr, 2, none⟩ (.int .i64 ((i : Int) + 1))) pr pq ra rn rc (i + 1, putC i0 i1 i2 i3 i4 x) := by
  have h0 := h.setX (x := { x with c0 := i0 }) (o := 4) (v := .int .i64 i0) (by omega) rfl
  have h1 := h0.setX (x := { x with c0 := i0, c1 := i1 }) (o := 5) (v := .int .i64 i1) (by omega) rfl
  have h2 := h1.setX (x := { x with c0 := i0, c1 := i1, c2 := i2 }) (o := 6) (v := .int .i64 i2) (by omega) rfl
  have h3 := h2.setX (x := { x with c0 := i0, c1 := i1, c2 := i2, c3 := i3 }) (o := 7) (v := .int .i64 i3) (by omega) rfl
  exact h3.step (x' := putC i0 i1 i2 i3 i4 x) (o := 8) (v := .int .i64 i4) (by omega) rfl hi
theorem chg_setC {W y : World} {pr : Nat} (h : Chg (· = pr) W y) (v0 v1 v2 v3 v4 u : Value) : Chg (· = pr) W ((((((y.setCell ⟨pr, 7, none⟩ v0).setCell ⟨pr, 8, none⟩ v1).setCell ⟨pr, 9, none⟩ v2).setCell ⟨pr, 10, none⟩ v3).setCell ⟨pr, 11, none⟩ v4).setCell ⟨pr, 2, none⟩ u) :=
  (((((h.setCell (p := ⟨pr, 7, none⟩) (.inl rfl) _).setCell (p := ⟨pr, 8, none⟩) (.inl rfl) _).setCell (p := ⟨pr, 9, none⟩) (.inl rfl) _).setCell (p := ⟨pr, 10, none⟩) (.inl rfl) _).setCell (p := ⟨pr, 11, none⟩) (.inl rfl) _).setCell (p := ⟨pr, 2, none⟩) (.inl rfl) _
section
variable {w0 W : World} {pr pq : Nat} {ra : Option Addr} {rc : Nat} {ms : List ByteArray} {ds : List Dm} {L : List ByteArray} {s : Nat × Cm}
set_option maxHeartbeats 4000000 in
set_option maxRecDepth 100000 in
theorem q_one_99 (hX : QX w0 pr pq ra rc ms ds L) (hS : QS w0 W pr pq ra L.length rc s) :
    Calls Tryz.prog 30 #[.pointer (some ⟨pr, 0, none⟩), .int .u8 99] W (QOne w0 W pr pq ra L.length rc (cellP ms ds L s)) := by
  obtain ⟨i, x⟩ := s
  cases hn : nx L 3 i with
  | none =>
    have HR := hidMk (show cellP ms ds L (i, x) = .error ((i : Int), 6) from by unfold cellP; simp only [hn])
    rw [HR.out]
    have HN := hidMk (q_next_no hX hS (kind := 3) hn)
    have HS := hidMk hS
    clear hX hS hn
    unfold wdZ at HN
    show Calls _ _ _ _ (fun e w' => Chg (· = pr) W w' ∧ e = .returned (.int .i64 6) ∧ ∃ s', QS w0 w' pr pq ra L.length rc s' ∧ (s'.1 : Int) = (i : Int))
    go_enter Tryz.func30, Tryz.ntmps30
    go_wp2_with fail
    refine HN.out.mono ?_
    rintro e w1 ⟨rfl, k1⟩
    have K1 := hidMk k1
    clear k1
    go_wp2_with fail
    go_ret
    exact ⟨Chg.of_kept (K1.out.alloc _), rfl, _, HS.out.keep (K1.out.alloc _), rfl⟩
  | some t =>
    have HW := hidMk (q_next_yes hX hS (kind := 3) hn)
    obtain ⟨hi, htk, hk3⟩ := nx_some hn
    obtain ⟨hpp, hpl⟩ := rdP_cell hk3
    have hbig := hX.big
    have HCC := hidMk (show ∀ y, Kept W y → ∀ (s0 : ByteArray) (xa : Option Addr) (xn xc : Nat) (xs : List ByteArray), Ss y xa xn xs → Calls Tryz.prog 53 #[.pointer (some ⟨pq, 0, none⟩), .string s0, .slice xa xn xc] y (CellPost y ms ds s0 xs) from fun y hy s0 xa xn xc xs hx => by
      obtain ⟨rt, hrd⟩ := hX.rd _ (chg_kept1 hS.kept hy)
      exact ref6_Cell hrd hX.ok.d4 s0 xa xn xc xs hx)
    have HPU := hidMk (show cellP ms ds L (i, x) = if cellE ms ds ((rdP t).getD 0 ByteArray.empty) ((rdP t).drop 1) ≠ 0 then .error ((i : Int), cellE ms ds ((rdP t).getD 0 ByteArray.empty) ((rdP t).drop 1)) else .ok (i + 1, putC (idxI ms ((rdP t).getD 0 ByteArray.empty)) (atK ds ((rdP t).drop 1) ds.length 0) (atK ds ((rdP t).drop 1) ds.length 1) (atK ds ((rdP t).drop 1) ds.length 2) (atK ds ((rdP t).drop 1) ds.length 3) x) from by unfold cellP; simp only [hn])
    rw [HPU.out]
    have HS := hidMk hS
    have HIL := hidMk hi
    have hwr : IntKind.i64.wrap ((i : Int) + 1) = (i : Int) + 1 := by rw [IntKind.wrap_i64]; omega
    rw [hpp] at HW ⊢
    clear hX hS hn hpp htk hk3 HPU
    generalize slP t = P at *
    obtain ⟨er0, her0⟩ : ∃ er0, cellE ms ds (P.getD 0 ByteArray.empty) (P.drop 1) = er0 := ⟨_, rfl⟩
    rw [her0]
    have HER := hidMk her0
    clear her0
    obtain ⟨R, hR⟩ : ∃ R : PR, (if er0 ≠ 0 then .error ((i : Int), er0) else .ok (i + 1, putC (idxI ms (P.getD 0 ByteArray.empty)) (atK ds (P.drop 1) ds.length 0) (atK ds (P.drop 1) ds.length 1) (atK ds (P.drop 1) ds.length 2) (atK ds (P.drop 1) ds.length 3) x)) = R := ⟨_, rfl⟩
    have HR := hidMk hR
    rw [hR]
    clear hR
    go_enter Tryz.func30, Tryz.ntmps30
    go_wp2_with fail
    refine HW.out.mono ?_
    rintro e w1 ⟨wx, rfl, hss, hmc, k1⟩
    have hwl := hss.len
    have K1 := hidMk k1
    obtain ⟨pb, po, hwa, hpbl, hpc⟩ := hss.cells (by omega)
    have qs := hpc 0 (by omega)
    rw [Nat.add_zero] at qs
    have HTL := hidMk (ss_tail (hwa ▸ hss) (by omega))
    have hm0 : 0 < wx.m := by omega
    have hm5 : 1 ≤ wx.m := by omega
    have hm1 : ¬ ((wx.m : Int) = 0) := by omega
    have hm2 : (0 : Int) < (wx.m : Int) := by omega
    have hm3 : (1 : Int) ≤ (wx.m : Int) := by omega
    have hm4 : (wx.m : Int) ≤ (wx.c : Int) := by omega
    have hc1 : ¬ (wx.c = 1) := by omega
    generalize hs0 : P.getD 0 ByteArray.empty = s0 at *
    rw [hwa]
    clear hss hpc k1 hs0
    go_wp2_with fail
    obtain ⟨w2, hw2⟩ : ∃ w2, w2 = w1.alloc (.cells #[.int .i64 3, .string t, .int .i64 wx.p, .int .i64 (rdN t), .slice (some ⟨pb, po, none⟩) wx.m wx.c] 77) := ⟨_, rfl⟩
    rw [← hw2]
    have k12 : Kept w1 w2 := by rw [hw2]; exact (Kept.refl w1).alloc _
    have K2 := hidMk (K1.out.trans k12)
    have qb : w2.cell? ⟨w1.heap.size, 4, none⟩ = some (.slice (some ⟨pb, po, none⟩) wx.m wx.c) := by rw [hw2]; exact new_cell _ _ _ _ _ _ rfl rfl
    have S2 := hidMk (HS.out.keep K2.out)
    have qa := S2.out.d
    have hq0l := S2.out.ltr
    have qc := k12.cellp qs
    have HC := hidMk (show ∀ y, Kept w2 y → ∀ n' c', n' = wx.m - 1 → Calls Tryz.prog 53 #[.pointer (some ⟨pq, 0, none⟩), .string s0, .slice (some ⟨pb, po + 1, none⟩) n' c'] y (CellPost y ms ds s0 (P.drop 1)) from fun y hy n' c' hn' => by subst hn'; exact HCC.out y (K2.out.trans hy) s0 _ _ _ _ (HTL.out.kept (k12.trans hy)))
    clear hw2 k12 qs
    generalize w1.heap.size = gw at *
    go_wp2_with fail
    refine wp_region_held_drew (S := (fun w' => w'.cell? ⟨pr, 0, none⟩ = some (.pointer (some ⟨pq, 0, none⟩)) ∧ w'.cell? ⟨gw, 4, none⟩ = some (.slice (some ⟨pb, po, none⟩) wx.m wx.c) ∧ w'.cell? ⟨pb, po, none⟩ = some (.string s0))) (by kernel_rfl) ?_ (fun hHeld => ?_)
    · exact ⟨qa, qb, qc⟩
    refine wpAnyH_take (i := 0) (oi := { dst := some 102, op := _, type := _, pos := _, after := _, guard := _ }) (v := ?_) rfl (by kernel_rfl) (by kernel_rfl) (by kernel_rfl) (fun _ _ _ h => h) (Or.inl ⟨by rfl, ?_⟩) (by assumption) ?_
    rotate_left
    · (intro w hSw; (try dsimp only at hSw); (try obtain ⟨hSw1, hSw2, hSw3⟩ := hSw); go_simp; (try with_reducible rfl))
    (try simp only [Act.put, List.setIfInBounds_toArray, List.set_cons_zero, List.set_cons_succ])
    refine wpAnyH_take (i := 1) (oi := { dst := some 103, op := _, type := _, pos := _, after := _, guard := _ }) (v := ?_) rfl (by kernel_rfl) (by kernel_rfl) (by kernel_rfl) (fun _ _ _ h => h) (Or.inl ⟨by rfl, ?_⟩) (by assumption) ?_
    rotate_left
    · (intro w hSw; (try dsimp only at hSw); (try obtain ⟨hSw1, hSw2, hSw3⟩ := hSw); go_simp; (try with_reducible rfl))
    (try simp only [Act.put, List.setIfInBounds_toArray, List.set_cons_zero, List.set_cons_succ])
    refine wpAnyH_take (i := 2) (oi := { dst := some 104, op := _, type := _, pos := _, after := _, guard := _ }) (v := ?_) rfl (by kernel_rfl) (by kernel_rfl) (by kernel_rfl) (fun _ _ _ h => h) (Or.inl ⟨by rfl, ?_⟩) (by assumption) ?_
    rotate_left
    · (intro w hSw; (try dsimp only at hSw); (try obtain ⟨hSw1, hSw2, hSw3⟩ := hSw); go_simp; (try with_reducible rfl))
    (try simp only [Act.put, List.setIfInBounds_toArray, List.set_cons_zero, List.set_cons_succ])
    refine wpAnyH_take (i := 3) (oi := { dst := some 105, op := _, type := _, pos := _, after := _, guard := _ }) (v := ?_) rfl (by kernel_rfl) (by kernel_rfl) (by kernel_rfl) (fun _ _ _ h => h) (Or.inl ⟨by rfl, ?_⟩) (by assumption) ?_
    rotate_left
    · (intro w hSw; (try dsimp only at hSw); (try obtain ⟨hSw1, hSw2, hSw3⟩ := hSw); go_simp; (try with_reducible rfl))
    (try simp only [Act.put, List.setIfInBounds_toArray, List.set_cons_zero, List.set_cons_succ])
    refine wpAnyH_take (i := 4) (oi := { dst := some 106, op := _, type := _, pos := _, after := _, guard := _ }) (v := ?_) rfl (by kernel_rfl) (by kernel_rfl) (by kernel_rfl) (fun _ _ _ h => h) (Or.inl ⟨by rfl, ?_⟩) (by assumption) ?_
    rotate_left
    · (intro w hSw; (try dsimp only at hSw); (try obtain ⟨hSw1, hSw2, hSw3⟩ := hSw); go_simp; (try with_reducible rfl))
    (try simp only [Act.put, List.setIfInBounds_toArray, List.set_cons_zero, List.set_cons_succ])
    refine wpAnyH_take (i := 5) (oi := { dst := some 107, op := _, type := _, pos := _, after := _, guard := _ }) (v := ?_) rfl (by kernel_rfl) (by kernel_rfl) (by kernel_rfl) (fun _ _ _ h => h) (Or.inl ⟨by rfl, ?_⟩) (by assumption) ?_
    rotate_left
    · (intro w hSw; (try dsimp only at hSw); (try obtain ⟨hSw1, hSw2, hSw3⟩ := hSw); go_simp; (try with_reducible rfl))
    (try simp only [Act.put, List.setIfInBounds_toArray, List.set_cons_zero, List.set_cons_succ])
    refine wpAnyH_take (i := 6) (oi := { dst := some 108, op := _, type := _, pos := _, after := _, guard := _ }) (v := ?_) rfl (by kernel_rfl) (by kernel_rfl) (by kernel_rfl) (fun _ _ _ h => h) (Or.inl ⟨by rfl, ?_⟩) (by assumption) ?_
    rotate_left
    · (intro w hSw; (try dsimp only at hSw); (try obtain ⟨hSw1, hSw2, hSw3⟩ := hSw); go_simp; (try with_reducible rfl))
    (try simp only [Act.put, List.setIfInBounds_toArray, List.set_cons_zero, List.set_cons_succ])
    refine wpAnyH_take (i := 7) (oi := { dst := some 109, op := _, type := _, pos := _, after := _, guard := _ }) (v := ?_) rfl (by kernel_rfl) (by kernel_rfl) (by kernel_rfl) (fun _ _ _ h => h) (Or.inl ⟨by rfl, ?_⟩) (by assumption) ?_
    rotate_left
    · (intro w hSw; (try dsimp only at hSw); (try obtain ⟨hSw1, hSw2, hSw3⟩ := hSw); go_simp; (try with_reducible rfl))
    (try simp only [Act.put, List.setIfInBounds_toArray, List.set_cons_zero, List.set_cons_succ])
    refine wpAnyH_take (i := 8) (oi := { dst := some 110, op := _, type := _, pos := _, after := _, guard := _ }) (v := ?_) rfl (by kernel_rfl) (by kernel_rfl) (by kernel_rfl) (fun _ _ _ h => h) (Or.inl ⟨by rfl, ?_⟩) (by assumption) ?_
    rotate_left
    · (intro w hSw; (try dsimp only at hSw); (try obtain ⟨hSw1, hSw2, hSw3⟩ := hSw); go_simp; (try with_reducible rfl))
    (try simp only [Act.put, List.setIfInBounds_toArray, List.set_cons_zero, List.set_cons_succ])
    refine wpAnyH_take (i := 9) (oi := { dst := some 111, op := _, type := _, pos := _, after := _, guard := _ }) (v := ?_) rfl (by kernel_rfl) (by kernel_rfl) (by kernel_rfl) (fun _ _ _ h => h) (Or.inl ⟨by rfl, ?_⟩) (by assumption) ?_
    rotate_left
    · (intro w hSw; (try dsimp only at hSw); (try obtain ⟨hSw1, hSw2, hSw3⟩ := hSw); go_simp; (try with_reducible rfl))
    (try simp only [Act.put, List.setIfInBounds_toArray, List.set_cons_zero, List.set_cons_succ])
    refine wpAnyH_take (i := 10) (oi := { dst := some 112, op := _, type := _, pos := _, after := _, guard := _ }) (v := ?_) rfl (by kernel_rfl) (by kernel_rfl) (by kernel_rfl) (fun _ _ _ h => h) (Or.inl ⟨by rfl, ?_⟩) (by assumption) ?_
    rotate_left
    · (intro w hSw; (try dsimp only at hSw); (try obtain ⟨hSw1, hSw2, hSw3⟩ := hSw); go_simp; (try with_reducible rfl))
    (try simp only [Act.put, List.setIfInBounds_toArray, List.set_cons_zero, List.set_cons_succ])
    refine wpAnyH_ready (rs := [11, 15]) (by kernel_rfl) (by simp) ?_
    refine (AllReadyH.cons (o := { dst := some 113, op := _, type := _, pos := _, after := _, guard := _ }) rfl (fun K hK => ?_) (AllReadyH.cons (o := { dst := some 9, op := _, type := _, pos := _, after := _, guard := _ }) rfl (fun K hK => ?_) AllReadyH.nil))
    · go_simp
      refine (HC.out _ (by (repeat (first | (with_reducible exact Kept.refl _) | (with_reducible refine Kept.alloc ?_ _) | (with_reducible refine Kept.drew ?_) | (with_reducible refine Kept.drewN ?_ _) | (with_reducible refine Kept.trans ?_ (by assumption))))) _ _ (by omega)).mono ?_
      rintro e w3 ⟨r, er, rfl, hci, k3⟩
      obtain ⟨hE1, hE2, i0, i1, i2, i3, i4, rfl⟩ := cellIs_e hci
      have K3 := hidMk (show Kept w2 w3 by (repeat (first | (with_reducible exact Kept.refl _) | (with_reducible refine Kept.alloc ?_ _) | (with_reducible refine Kept.drew ?_) | (with_reducible refine Kept.drewN ?_ _) | (with_reducible refine Kept.trans ?_ (by assumption)))))
      have HE1 := hidMk hE1
      have HE2 := hidMk hE2
      clear k3 hci hE1 hE2
      (try go_wp2_with fail)
      refine hK.out _ _ ?_ (fun hHeld => ?_)
      · exact ⟨Kept.cellp (K3.out) qa, Kept.cellp (K3.out) qb, Kept.cellp (K3.out) qc⟩
      clear hK K
      (try simp only [Act.put, List.setIfInBounds_toArray, List.set_cons_zero, List.set_cons_succ])
      refine wpAnyH_take (i := 12) (oi := { dst := some 101, op := _, type := _, pos := _, after := _, guard := _ }) (v := ?_) rfl (by kernel_rfl) (by kernel_rfl) (by kernel_rfl) (fun _ _ _ h => h) (Or.inl ⟨by rfl, ?_⟩) (by assumption) ?_
      rotate_left
      · (intro w hSw; (try dsimp only at hSw); (try obtain ⟨hSw1, hSw2, hSw3⟩ := hSw); go_simp; (try with_reducible rfl))
      (try simp only [Act.put, List.setIfInBounds_toArray, List.set_cons_zero, List.set_cons_succ])
      refine wpAnyH_take (i := 13) (oi := { dst := some 114, op := _, type := _, pos := _, after := _, guard := _ }) (v := ?_) rfl (by kernel_rfl) (by kernel_rfl) (by kernel_rfl) (fun _ _ _ h => h) (Or.inl ⟨by rfl, ?_⟩) (by assumption) ?_
      rotate_left
      · (intro w hSw; (try dsimp only at hSw); (try obtain ⟨hSw1, hSw2, hSw3⟩ := hSw); go_simp; (try with_reducible rfl))
      (try simp only [Act.put, List.setIfInBounds_toArray, List.set_cons_zero, List.set_cons_succ])
      refine wpAnyH_take (i := 14) (oi := { dst := some 115, op := _, type := _, pos := _, after := _, guard := _ }) (v := ?_) rfl (by kernel_rfl) (by kernel_rfl) (by kernel_rfl) (fun _ _ _ h => h) (Or.inl ⟨by rfl, ?_⟩) (by assumption) ?_
      rotate_left
      · (intro w hSw; (try dsimp only at hSw); (try obtain ⟨hSw1, hSw2, hSw3⟩ := hSw); go_simp; (try with_reducible rfl))
      (try simp only [Act.put, List.setIfInBounds_toArray, List.set_cons_zero, List.set_cons_succ])
      refine wpAnyH_ready (rs := [15]) (by kernel_rfl) (by simp) ?_
      refine (AllReadyH.cons (o := { dst := some 9, op := _, type := _, pos := _, after := _, guard := _ }) rfl (fun K hK => ?_) AllReadyH.nil)
      go_simp
      refine hK.out _ _ ?_ (fun hHeld => ?_)
      · exact ⟨Kept.cellp (K3.out.alloc _) qa, Kept.cellp (K3.out.alloc _) qb, Kept.cellp (K3.out.alloc _) qc⟩
      clear hK K
      (try simp only [Act.put, List.setIfInBounds_toArray, List.set_cons_zero, List.set_cons_succ])
      refine wpAnyH_ready (rs := [16]) (by kernel_rfl) (by simp) ?_
      refine (AllReadyH.cons (o := { dst := none, op := _, type := _, pos := _, after := _, guard := _ }) rfl (fun K hK => ?_) AllReadyH.nil)
      go_simp
      refine hK.out _ _ ?_ (fun hHeld => ?_)
      · exact ⟨Kept.cellp (K3.out.alloc _) qa, Kept.cellp (K3.out.alloc _) qb, Kept.cellp (K3.out.alloc _) qc⟩
      clear hK K
      (try simp only [Act.put, List.setIfInBounds_toArray, List.set_cons_zero, List.set_cons_succ])
      refine wpAnyH_take (i := 17) (oi := { dst := some 10, op := _, type := _, pos := _, after := _, guard := _ }) (v := ?_) rfl (by kernel_rfl) (by kernel_rfl) (by kernel_rfl) (fun _ _ _ h => h) (Or.inl ⟨by rfl, ?_⟩) (by assumption) ?_
      rotate_left
      · (intro w hSw; (try dsimp only at hSw); (try obtain ⟨hSw1, hSw2, hSw3⟩ := hSw); go_simp; (try with_reducible rfl))
      (try simp only [Act.put, List.setIfInBounds_toArray, List.set_cons_zero, List.set_cons_succ])
      refine wpAnyH_done (by kernel_rfl) ?_ _
      have KE : Kept w2 (w3.alloc (.cells #[.int .i64 i0, .int .i64 i1, .int .i64 i2, .int .i64 i3, .int .i64 i4] 33)) := K3.out.alloc _
      have hgb : w2.heap.size ≤ w3.heap.size := K3.out.size
      have e0 : (w3.alloc (.cells #[.int .i64 i0, .int .i64 i1, .int .i64 i2, .int .i64 i3, .int .i64 i4] 33)).cell? ⟨w3.heap.size, 0, none⟩ = some (.int .i64 i0) := by simp
      have e1 : (w3.alloc (.cells #[.int .i64 i0, .int .i64 i1, .int .i64 i2, .int .i64 i3, .int .i64 i4] 33)).cell? ⟨w3.heap.size, 1, none⟩ = some (.int .i64 i1) := by simp
      have e2 : (w3.alloc (.cells #[.int .i64 i0, .int .i64 i1, .int .i64 i2, .int .i64 i3, .int .i64 i4] 33)).cell? ⟨w3.heap.size, 2, none⟩ = some (.int .i64 i2) := by simp
      have e3 : (w3.alloc (.cells #[.int .i64 i0, .int .i64 i1, .int .i64 i2, .int .i64 i3, .int .i64 i4] 33)).cell? ⟨w3.heap.size, 3, none⟩ = some (.int .i64 i3) := by simp
      have e4 : (w3.alloc (.cells #[.int .i64 i0, .int .i64 i1, .int .i64 i2, .int .i64 i3, .int .i64 i4] 33)).cell? ⟨w3.heap.size, 4, none⟩ = some (.int .i64 i4) := by simp
      clear hHeld
      generalize (w3.alloc (.cells #[.int .i64 i0, .int .i64 i1, .int .i64 i2, .int .i64 i3, .int .i64 i4] 33)) = w4 at *
      generalize hgg : w3.heap.size = gb at *
      have KE4 := hidMk (K2.out.trans KE)
      have S4 := hidMk (HS.out.keep (K2.out.trans KE))
      have hprg : pr ≠ gb := (by omega)
      clear KE hgg hgb qa qb qc hpbl
      have hee : er = er0 := HE1.out.trans HER.out
      subst hee
      have z2 := S4.out.at_
      simp only at z2
      by_cases hz : er = 0
      · subst hz
        have hb0 : ((0 : Int) != 0) = false := rfl
        have hcv := HE2.out rfl
        unfold cellV at hcv
        simp only [Value.agg.injEq, Array.mk.injEq, List.cons.injEq, Value.int.injEq, true_and, and_true] at hcv
        obtain ⟨v0, v1, v2, v3, v4⟩ := hcv
        have HV := hidMk (show R = .ok (i + 1, putC i0 i1 i2 i3 i4 x) by rw [← HR.out, if_neg (by simp), v0, v1, v2, v3, v4])
        clear v0 v1 v2 v3 v4 HR HE1 HE2 HER
        have p0 : w4.cell? ⟨pr, 7, none⟩ = some (.int .i64 x.c0) := S4.out.x 4 _ rfl
        have p1 : w4.cell? ⟨pr, 8, none⟩ = some (.int .i64 x.c1) := S4.out.x 5 _ rfl
        have p2 : w4.cell? ⟨pr, 9, none⟩ = some (.int .i64 x.c2) := S4.out.x 6 _ rfl
        have p3 : w4.cell? ⟨pr, 10, none⟩ = some (.int .i64 x.c3) := S4.out.x 7 _ rfl
        have p4 : w4.cell? ⟨pr, 11, none⟩ = some (.int .i64 x.c4) := S4.out.x 8 _ rfl
        have z3 := S4.out.fr 7 (by omega)
        have z4 := S4.out.fr 8 (by omega)
        have z5 := S4.out.fr 9 (by omega)
        have z6 := S4.out.fr 10 (by omega)
        have z7 := S4.out.fr 11 (by omega)
        have zz := S4.out.fr 2 (by omega)
        go_wp2_with fail
        go_ret
        rw [HV.out]
        exact ⟨chg_setC (Chg.of_kept KE4.out) _ _ _ _ _ _, rfl, S4.out.setC i0 i1 i2 i3 i4 (by have := HIL.out; omega)⟩
      · have hb0 : (er != 0) = true := by simpa using hz
        have HV := hidMk (show R = .error ((i : Int), er) by rw [← HR.out, if_pos hz])
        go_wp2_with fail
        go_ret
        rw [HV.out]
        exact ⟨Chg.of_kept KE4.out, rfl, _, S4.out, rfl⟩
    · go_simp
      refine hK.out _ _ ?_ (fun hHeld => ?_)
      · refine ⟨Kept.cellp ?_ qa, Kept.cellp ?_ qb, Kept.cellp ?_ qc⟩ <;> (repeat (first | (with_reducible exact Kept.refl _) | (with_reducible refine Kept.alloc ?_ _) | (with_reducible refine Kept.drew ?_) | (with_reducible refine Kept.drewN ?_ _) | (with_reducible refine Kept.trans ?_ (by assumption))))
      clear hK K
      (try simp only [Act.put, List.setIfInBounds_toArray, List.set_cons_zero, List.set_cons_succ])
      refine wpAnyH_ready (rs := [11]) (by kernel_rfl) (by simp) ?_
      refine (AllReadyH.cons (o := { dst := some 113, op := _, type := _, pos := _, after := _, guard := _ }) rfl (fun K hK => ?_) AllReadyH.nil)
      go_simp
      refine (HC.out _ (by (repeat (first | (with_reducible exact Kept.refl _) | (with_reducible refine Kept.alloc ?_ _) | (with_reducible refine Kept.drew ?_) | (with_reducible refine Kept.drewN ?_ _) | (with_reducible refine Kept.trans ?_ (by assumption))))) _ _ (by omega)).mono ?_
      rintro e w3 ⟨r, er, rfl, hci, k3⟩
      obtain ⟨hE1, hE2, i0, i1, i2, i3, i4, rfl⟩ := cellIs_e hci
      have K3 := hidMk (show Kept w2 w3 by (repeat (first | (with_reducible exact Kept.refl _) | (with_reducible refine Kept.alloc ?_ _) | (with_reducible refine Kept.drew ?_) | (with_reducible refine Kept.drewN ?_ _) | (with_reducible refine Kept.trans ?_ (by assumption)))))
      have hg : w2.heap.size < w3.heap.size := (by have := Below.size k3; simp at this; omega)
      have n0 : w3.cell? ⟨w2.heap.size, 0, none⟩ = some (.int .i64 0) := k3.cellp (by simp)
      have n1 : w3.cell? ⟨w2.heap.size, 1, none⟩ = some (.int .i64 0) := k3.cellp (by simp)
      have n2 : w3.cell? ⟨w2.heap.size, 2, none⟩ = some (.int .i64 0) := k3.cellp (by simp)
      have n3 : w3.cell? ⟨w2.heap.size, 3, none⟩ = some (.int .i64 0) := k3.cellp (by simp)
      have n4 : w3.cell? ⟨w2.heap.size, 4, none⟩ = some (.int .i64 0) := k3.cellp (by simp)
      have g0 : w3.frozen? ⟨w2.heap.size, 0, none⟩ = false := (k3.frozen (p := ⟨w2.heap.size, 0, none⟩) (by simp)).trans (by simp)
      have g1 : w3.frozen? ⟨w2.heap.size, 1, none⟩ = false := (k3.frozen (p := ⟨w2.heap.size, 1, none⟩) (by simp)).trans (by simp)
      have g2 : w3.frozen? ⟨w2.heap.size, 2, none⟩ = false := (k3.frozen (p := ⟨w2.heap.size, 2, none⟩) (by simp)).trans (by simp)
      have g3 : w3.frozen? ⟨w2.heap.size, 3, none⟩ = false := (k3.frozen (p := ⟨w2.heap.size, 3, none⟩) (by simp)).trans (by simp)
      have g4 : w3.frozen? ⟨w2.heap.size, 4, none⟩ = false := (k3.frozen (p := ⟨w2.heap.size, 4, none⟩) (by simp)).trans (by simp)
      have HE1 := hidMk hE1
      have HE2 := hidMk hE2
      clear k3 hci hE1 hE2
      (try go_wp2_with fail)
      refine hK.out _ _ ?_ (fun hHeld => ?_)
      · exact ⟨Kept.cellp (K3.out) qa, Kept.cellp (K3.out) qb, Kept.cellp (K3.out) qc⟩
      clear hK K
      (try simp only [Act.put, List.setIfInBounds_toArray, List.set_cons_zero, List.set_cons_succ])
      refine wpAnyH_take (i := 12) (oi := { dst := some 101, op := _, type := _, pos := _, after := _, guard := _ }) (v := ?_) rfl (by kernel_rfl) (by kernel_rfl) (by kernel_rfl) (fun _ _ _ h => h) (Or.inl ⟨by rfl, ?_⟩) (by assumption) ?_
      rotate_left
      · (intro w hSw; (try dsimp only at hSw); (try obtain ⟨hSw1, hSw2, hSw3⟩ := hSw); go_simp; (try with_reducible rfl))
      (try simp only [Act.put, List.setIfInBounds_toArray, List.set_cons_zero, List.set_cons_succ])
      refine wpAnyH_take (i := 13) (oi := { dst := some 114, op := _, type := _, pos := _, after := _, guard := _ }) (v := ?_) rfl (by kernel_rfl) (by kernel_rfl) (by kernel_rfl) (fun _ _ _ h => h) (Or.inl ⟨by rfl, ?_⟩) (by assumption) ?_
      rotate_left
      · (intro w hSw; (try dsimp only at hSw); (try obtain ⟨hSw1, hSw2, hSw3⟩ := hSw); go_simp; (try with_reducible rfl))
      (try simp only [Act.put, List.setIfInBounds_toArray, List.set_cons_zero, List.set_cons_succ])
      refine wpAnyH_take (i := 14) (oi := { dst := some 115, op := _, type := _, pos := _, after := _, guard := _ }) (v := ?_) rfl (by kernel_rfl) (by kernel_rfl) (by kernel_rfl) (fun _ _ _ h => h) (Or.inl ⟨by rfl, ?_⟩) (by assumption) ?_
      rotate_left
      · (intro w hSw; (try dsimp only at hSw); (try obtain ⟨hSw1, hSw2, hSw3⟩ := hSw); go_simp; (try with_reducible rfl))
      (try simp only [Act.put, List.setIfInBounds_toArray, List.set_cons_zero, List.set_cons_succ])
      refine wpAnyH_ready (rs := [16]) (by kernel_rfl) (by simp) ?_
      refine (AllReadyH.cons (o := { dst := none, op := _, type := _, pos := _, after := _, guard := _ }) rfl (fun K hK => ?_) AllReadyH.nil)
      go_simp
      refine hK.out _ _ ?_ (fun hHeld => ?_)
      · exact ⟨Kept.cellp (set5_kept K3.out (Nat.le_refl _) _ _ _ _ _) qa, Kept.cellp (set5_kept K3.out (Nat.le_refl _) _ _ _ _ _) qb, Kept.cellp (set5_kept K3.out (Nat.le_refl _) _ _ _ _ _) qc⟩
      clear hK K
      (try simp only [Act.put, List.setIfInBounds_toArray, List.set_cons_zero, List.set_cons_succ])
      refine wpAnyH_take (i := 17) (oi := { dst := some 10, op := _, type := _, pos := _, after := _, guard := _ }) (v := ?_) rfl (by kernel_rfl) (by kernel_rfl) (by kernel_rfl) (fun _ _ _ h => h) (Or.inl ⟨by rfl, ?_⟩) (by assumption) ?_
      rotate_left
      · (intro w hSw; (try dsimp only at hSw); (try obtain ⟨hSw1, hSw2, hSw3⟩ := hSw); go_simp; (try with_reducible rfl))
      (try simp only [Act.put, List.setIfInBounds_toArray, List.set_cons_zero, List.set_cons_succ])
      refine wpAnyH_done (by kernel_rfl) ?_ _
      have KE : Kept w2 (((((w3.setCell ⟨w2.heap.size, 0, none⟩ (.int .i64 i0)).setCell ⟨w2.heap.size, 1, none⟩ (.int .i64 i1)).setCell ⟨w2.heap.size, 2, none⟩ (.int .i64 i2)).setCell ⟨w2.heap.size, 3, none⟩ (.int .i64 i3)).setCell ⟨w2.heap.size, 4, none⟩ (.int .i64 i4)) := set5_kept K3.out (Nat.le_refl _) _ _ _ _ _
      obtain ⟨e0, e1, e2, e3, e4⟩ := NW.set5 (b := w2.heap.size) (w := w3) n0 n1 n2 n3 n4 (.int .i64 i0) (.int .i64 i1) (.int .i64 i2) (.int .i64 i3) (.int .i64 i4)
      clear n0 n1 n2 n3 n4 g0 g1 g2 g3 g4 hg
      clear hHeld
      generalize (((((w3.setCell ⟨w2.heap.size, 0, none⟩ (.int .i64 i0)).setCell ⟨w2.heap.size, 1, none⟩ (.int .i64 i1)).setCell ⟨w2.heap.size, 2, none⟩ (.int .i64 i2)).setCell ⟨w2.heap.size, 3, none⟩ (.int .i64 i3)).setCell ⟨w2.heap.size, 4, none⟩ (.int .i64 i4)) = w4 at *
      obtain ⟨gb, hgg⟩ : ∃ gb, gb = w2.heap.size := ⟨_, rfl⟩
      rw [← hgg] at e0 e1 e2 e3 e4
      rw [← hgg]
      have hgb : w2.heap.size ≤ gb := by omega
      have KE4 := hidMk (K2.out.trans KE)
      have S4 := hidMk (HS.out.keep (K2.out.trans KE))
      have hprg : pr ≠ gb := (by omega)
      clear KE hgg hgb qa qb qc hpbl
      have hee : er = er0 := HE1.out.trans HER.out
      subst hee
      have z2 := S4.out.at_
      simp only at z2
      by_cases hz : er = 0
      · subst hz
        have hb0 : ((0 : Int) != 0) = false := rfl
        have hcv := HE2.out rfl
        unfold cellV at hcv
        simp only [Value.agg.injEq, Array.mk.injEq, List.cons.injEq, Value.int.injEq, true_and, and_true] at hcv
        obtain ⟨v0, v1, v2, v3, v4⟩ := hcv
        have HV := hidMk (show R = .ok (i + 1, putC i0 i1 i2 i3 i4 x) by rw [← HR.out, if_neg (by simp), v0, v1, v2, v3, v4])
        clear v0 v1 v2 v3 v4 HR HE1 HE2 HER
        have p0 : w4.cell? ⟨pr, 7, none⟩ = some (.int .i64 x.c0) := S4.out.x 4 _ rfl
        have p1 : w4.cell? ⟨pr, 8, none⟩ = some (.int .i64 x.c1) := S4.out.x 5 _ rfl
        have p2 : w4.cell? ⟨pr, 9, none⟩ = some (.int .i64 x.c2) := S4.out.x 6 _ rfl
        have p3 : w4.cell? ⟨pr, 10, none⟩ = some (.int .i64 x.c3) := S4.out.x 7 _ rfl
        have p4 : w4.cell? ⟨pr, 11, none⟩ = some (.int .i64 x.c4) := S4.out.x 8 _ rfl
        have z3 := S4.out.fr 7 (by omega)
        have z4 := S4.out.fr 8 (by omega)
        have z5 := S4.out.fr 9 (by omega)
        have z6 := S4.out.fr 10 (by omega)
        have z7 := S4.out.fr 11 (by omega)
        have zz := S4.out.fr 2 (by omega)
        go_wp2_with fail
        go_ret
        rw [HV.out]
        exact ⟨chg_setC (Chg.of_kept KE4.out) _ _ _ _ _ _, rfl, S4.out.setC i0 i1 i2 i3 i4 (by have := HIL.out; omega)⟩
      · have hb0 : (er != 0) = true := by simpa using hz
        have HV := hidMk (show R = .error ((i : Int), er) by rw [← HR.out, if_pos hz])
        go_wp2_with fail
        go_ret
        rw [HV.out]
        exact ⟨Chg.of_kept KE4.out, rfl, _, S4.out, rfl⟩
/-- What is to stand next, of any letter. -/
theorem q_one (hX : QX w0 pr pq ra rc ms ds L) (hS : QS w0 W pr pq ra L.length rc s) {b : Int} (hb : isLet b) (hh : s.2.h ≠ 2) :
    Calls Tryz.prog 30 #[.pointer (some ⟨pr, 0, none⟩), .int .u8 b] W (QOne w0 W pr pq ra L.length rc (oneP ms ds L b s)) := by
  rcases hb with rfl | rfl | rfl | rfl | rfl | rfl | rfl | rfl
  · rw [oneP_name (.inl rfl)]; exact q_one_117 hX hS
  · rw [oneP_name (.inr (.inl rfl))]; exact q_one_115 hX hS
  · rw [oneP_name (.inr (.inr rfl))]; exact q_one_111 hX hS
  · rw [show oneP ms ds L 99 s = cellP ms ds L s from by unfold oneP; rw [if_neg (by decide), if_pos rfl]]; exact q_one_99 hX hS
  · rw [show oneP ms ds L 110 s = numP L s from by unfold oneP; rw [if_neg (by decide), if_neg (by decide), if_pos rfl]]; exact q_one_110 hX hS
  · rw [show oneP ms ds L 104 s = howP ms L s from by unfold oneP; rw [if_neg (by decide), if_neg (by decide), if_neg (by decide), if_pos rfl]]; exact q_one_104 hX hS hh
  · rw [show oneP ms ds L 109 s = choiceP L mtW s from by unfold oneP; rw [if_neg (by decide), if_neg (by decide), if_neg (by decide), if_neg (by decide), if_pos rfl]]; exact q_one_109 hX hS hh
  · rw [show oneP ms ds L 100 s = indexP L (lbl ds) s from by unfold oneP; rw [if_neg (by decide), if_neg (by decide), if_neg (by decide), if_neg (by decide), if_neg (by decide)]]; exact q_one_100 hX hS
end
end Go.Proofs.YtpehinmckppjoaaGreatDoor
