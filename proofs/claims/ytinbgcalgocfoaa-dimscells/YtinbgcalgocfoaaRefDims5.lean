/- The reference's Cell. -/
import Derived.Test.YtinbgcalgocfoaaRefDims4
namespace Go.Proofs.Ytinbgcalgocfoaa
open Go.RowKit Go.Maps
set_option linter.unusedSimpArgs false
set_option linter.unusedVariables false

theorem idxI_ge (l : List ByteArray) (s : ByteArray) : -1 ≤ idxI l s := by unfold idxI; split <;> omega
theorem findI_ge (l : List Nd) (s : ByteArray) : -1 ≤ findI l s := by unfold findI; split <;> omega
/-- The same two results, of the reference. -/
theorem cell_rets6 {R : Ending → World → Prop} {a : Act} {w : World} (g : Nat) (v0 v1 v2 v3 v4 : Value) {er : Value} (hp : a.tmps.getD 6 undef = .pointer (some ⟨g, 0, none⟩)) (hq : a.tmps.getD 7 undef = er) (hd : a.defers = [])
    (c0 : w.cell? ⟨g, 0, none⟩ = some v0) (c1 : w.cell? ⟨g, 1, none⟩ = some v1) (c2 : w.cell? ⟨g, 2, none⟩ = some v2) (c3 : w.cell? ⟨g, 3, none⟩ = some v3) (c4 : w.cell? ⟨g, 4, none⟩ = some v4)
    (h : R (.returned (.tuple #[.agg #[v0, v1, v2, v3, v4], er])) w) : bodyPost Try.prog Try.f9 R .ret a w := by
  subst hq
  exact bodyPost_ret (results_cell_tmp rfl _ _ g _ hp (cell_load c0 c1 c2 c3 c4)) hd h
set_option maxHeartbeats 4000000 in
set_option maxRecDepth 100000 in
theorem ref6_Cell {w : World} {p : Nat} {ds : List Dm} {rt : Nat → Nat} {ms : List ByteArray} (h : RDm w p ds rt ms) (hm : ds.length ≤ 4) (s : ByteArray) (xa : Option Addr) (xn xc : Nat) (xs : List ByteArray) (hx : Ss w xa xn xs) :
    Calls Try.prog 9 #[.pointer (some ⟨p, 0, none⟩), .string s, .slice xa xn xc] w (CellPost w ms ds s xs) := by
  obtain ⟨⟨ma, mc, h1, h2⟩, ⟨ta, tc, h3, h4⟩, h5⟩ := h
  have hlx := hx.len
  have hbx := hx.big
  unfold maxLen at hbx
  have HX := hidMk hx
  have HT := hidMk h4
  have H5 := hidMk h5
  have HFI := hidMk (show ∀ y, Kept w y → _ from fun y hy => ref6_Find ma ms.length mc ms s y (h2.kept hy))
  have hge := idxI_ge ms s
  have hbm := h2.big
  unfold maxLen at hbm
  have t1 := fun o => ((Kept.refl w).alloc o).cellp h1
  have t4 := fun o => ((Kept.refl w).alloc o).cellp h3
  clear h2 h4 h5 hx
  by_cases hix : idxI ms s = -1
  · have HC := hidMk (show CellIs ms ds s xs (cellV 0 (fun _ => 0)) 10 from .inl ⟨hix, rfl, rfl⟩)
    rw [hix] at HFI
    clear hix hge
    go_enter Try.func9, Try.ntmps9
    go_wp2_with (go_at_call 29; refine (HFI.out _ ((Kept.refl w).alloc _)).mono ?_; rintro e w1 ⟨rfl, rfl⟩)
    exact cell_rets6 w.heap.size _ _ _ _ _ rfl rfl rfl (by simp) (by simp) (by simp) (by simp) (by simp) ⟨_, _, rfl, HC.out, (Kept.refl w).alloc _⟩
  · by_cases hxl : xs.length = ds.length
    · have HCE := hidMk (show ∀ k, k < ds.length → fdK ds xs k = -1 → CellIs ms ds s xs (cellV 0 (fun _ => 0)) 10 from fun k hk he => .inr (.inr (.inl ⟨hix, hxl, ⟨k, hk, he⟩, rfl, rfl⟩)))
      have HCO := hidMk (show (∀ k, k < ds.length → fdK ds xs k ≠ -1) → CellIs ms ds s xs (cellV (idxI ms s) (atK ds xs ds.length)) 0 from fun he => .inr (.inr (.inr ⟨hix, hxl, he, rfl, rfl⟩)))
      have hxl' : (xn : Int) = ds.length := by omega
      generalize hgx : idxI ms s = ix at *
      clear hgx
      have hix0 : ¬ ix < 0 := by omega
      go_enter Try.func9, Try.ntmps9
      go_wp2_with (go_at_call 29; refine (HFI.out _ ((Kept.refl w).alloc _)).mono ?_; rintro e w1 ⟨rfl, rfl⟩)
      refine gen_world (f := fun W => Code.wp _ _ _ _ W) (fun W => CB w W ix (fun _ => 0)) (CB.mk0 w ix _) ?_
      rintro W hW
      have HW := hidMk hW
      clear hW t1 t4
      go_loopg [10] ds.length (fun g x wr => ∃ k : Nat, k + g = ds.length ∧ x = .int .i64 k ∧ Hid (CB w wr ix (atK ds xs k)) ∧ Hid (∀ j, j < k → fdK ds xs j ≠ -1))
      case atStart => exact ⟨0, by omega, rfl, hidMk ((atK_zero ds xs) ▸ HW.out), hidMk fun j hj => absurd hj (by omega)⟩
      case round =>
        obtain ⟨k, hkg, rfl, HK, HJ⟩ := hrel
        have HKG := hidMk hkg
        have s4 := HK.out.kept.cellp h3
        by_cases hkd : k < ds.length
        · obtain ⟨bb, rfl, hb⟩ := HT.out (by omega)
          obtain ⟨xb, xo, rfl, hxb, hxc⟩ := HX.out.cells (by omega)
          have kk := HK.out.kept
          have d1 := kk.cellp (hb k hkd)
          have d3 : wr.cell? ⟨xb, xo + k, none⟩ = some (.string (msA xs k)) := kk.cellp (hxc k (by omega))
          have HFD := hidMk (show ∀ y, Kept wr y → _ from fun y hy => r_Find ((H5.out k hkd).kept (kk.trans hy)) (msA xs k))
          have kd' : (k : Int) < ds.length := by omega
          have k4' : (k : Int) < 4 := by omega
          have kx' : (k : Int) < xn := by omega
          have HCL := hidMk (And.intro s4 (And.intro d1 d3))
          clear hb hkg hxc kk
          have hfe : findI (dmL ds k) (msA xs k) = fdK ds xs k := rfl
          have hfg := findI_ge (dmL ds k) (msA xs k)
          rw [hfe] at HFD hfg
          clear hfe
          have HS := hidMk (show atK ds xs (k + 1) = fun j => if j = k then fdK ds xs k else atK ds xs k j from by
            funext j
            unfold atK
            by_cases e : j = k
            · subst e; simp
            · simp only [e, if_false]
              by_cases e2 : j < k
              · simp [e2, show j < k + 1 by omega]
              · simp [e2, show ¬ j < k + 1 by omega])
          have HE := hidMk (HCE.out k hkd)
          have HNX := hidMk (show fdK ds xs k ≠ -1 → ∀ j, j < k + 1 → fdK ds xs j ≠ -1 from fun e j hj => by
            by_cases e' : j = k
            · subst e'; exact e
            · exact HJ.out j (by omega))
          have hk4 : k < 4 := by omega
          generalize hff : fdK ds xs k = fd at *
          clear hff
          generalize msA xs k = mk at *
          generalize rt k = q at *
          go_wp2_with fail
          go_region_held3 (fun w' => w'.cell? ⟨p, 4, none⟩ = some (.slice (some ⟨bb, 0, none⟩) ds.length tc) ∧ w'.cell? ⟨bb, k, none⟩ = some (.pointer (some ⟨q, 0, none⟩)) ∧ w'.cell? ⟨xb, xo + k, none⟩ = some (.string mk)) (first | go_keep | (refine ⟨?_, ?_, ?_⟩ <;> assumption)) ((go_at_call 30; refine (HFD.out _ ((Kept.refl wr).drew)).mono ?_; rintro e w5 ⟨rfl, hw5⟩; have k5 : Kept wr w5 := (by rw [hw5]; exact (Kept.refl wr).drew); have f1 := k5.cellp HCL.out.1; have f2 := k5.cellp HCL.out.2.1; have f3 := k5.cellp HCL.out.2.2; have H5' := hidMk (HK.out.keep k5); clear hw5 k5))
          have z0 := H5'.out.z 0 (by omega)
          have z1 := H5'.out.z 1 (by omega)
          have z2 := H5'.out.z 2 (by omega)
          have z3 := H5'.out.z 3 (by omega)
          have z4 := H5'.out.z 4 (by omega)
          have zf := H5'.out.zf
          have q1 := H5'.out.c k hk4
          have q2 := H5'.out.cf (1 + k)
          clear f1 f2 f3
          by_cases hf : fd = -1
          · have HC := hidMk (HE.out hf)
            subst hf
            go_wp2_with fail
            obtain ⟨o1, o2, o3, o4, o5, o6⟩ := H5'.out.out (.int .i64 0) (.int .i64 0) (.int .i64 0) (.int .i64 0) (.int .i64 0)
            exact cell_rets6 w.heap.size _ _ _ _ _ rfl rfl rfl o2 o3 o4 o5 o6 ⟨_, _, rfl, HC.out, o1⟩
          · have HN2 := hidMk (HNX.out hf)
            have hf0 : ¬ fd < 0 := by omega
            go_wp2_with fail
            go_roundg (gk - 1)
            case measure => have := HKG.out; omega
            case rel => exact ⟨k + 1, by have := HKG.out; omega, by go_num, hidMk (by rw [HS.out]; exact H5'.out.set k hk4 fd), HN2⟩
        · have e : k = ds.length := by omega
          subst e
          have HC := hidMk (HCO.out HJ.out)
          clear hkg
          have kd' : ¬ ((ds.length : Int) < ds.length) := by omega
          have c0 := HK.out.c0
          have c1 := HK.out.c 0 (by omega)
          have c2 := HK.out.c 1 (by omega)
          have c3 := HK.out.c 2 (by omega)
          have c4 := HK.out.c 3 (by omega)
          have z0 := HK.out.z 0 (by omega)
          have z1 := HK.out.z 1 (by omega)
          have z2 := HK.out.z 2 (by omega)
          have z3 := HK.out.z 3 (by omega)
          have z4 := HK.out.z 4 (by omega)
          have zf := HK.out.zf
          simp only [Nat.reduceAdd, Nat.add_zero] at c1 c2 c3 c4
          go_wp2_with fail
          obtain ⟨o1, o2, o3, o4, o5, o6⟩ := HK.out.out (.int .i64 ix) (.int .i64 (atK ds xs ds.length 0)) (.int .i64 (atK ds xs ds.length 1)) (.int .i64 (atK ds xs ds.length 2)) (.int .i64 (atK ds xs ds.length 3))
          exact cell_rets6 w.heap.size _ _ _ _ _ rfl rfl rfl o2 o3 o4 o5 o6 ⟨_, _, rfl, HC.out, o1⟩
    · have HC := hidMk (show CellIs ms ds s xs (cellV 0 (fun _ => 0)) 5 from .inr (.inl ⟨hix, hxl, rfl, rfl⟩))
      have hxl' : ¬ ((xn : Int) = ds.length) := by omega
      generalize hgx : idxI ms s = ix at *
      clear hgx
      have hix0 : ¬ ix < 0 := by omega
      go_enter Try.func9, Try.ntmps9
      go_wp2_with (go_at_call 29; refine (HFI.out _ ((Kept.refl w).alloc _)).mono ?_; rintro e w1 ⟨rfl, rfl⟩)
      exact cell_rets6 w.heap.size _ _ _ _ _ rfl rfl rfl (by simp) (by simp) (by simp) (by simp) (by simp) ⟨_, _, rfl, HC.out, (Kept.refl w).alloc _⟩
end Go.Proofs.Ytinbgcalgocfoaa
