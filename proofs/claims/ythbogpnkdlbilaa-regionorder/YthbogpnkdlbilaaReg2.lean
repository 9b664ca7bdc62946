/- region: others. -/
import Derived.Test.YthbogpnkdlbilaaReg1
namespace Go.Proofs.Ythbogpnkdlbilaa
open Go.RowKit Go.Maps
set_option linter.unusedSimpArgs false
set_option linter.unusedVariables false

set_option maxHeartbeats 4000000 in
set_option maxRecDepth 100000 in
theorem region_others (v : Value) (l : List Rn) (w : World) (h : SetIs w v l) (hn : Norm l) (hl : l.length ≤ 90000) : Calls Try.prog 31 #[v] w fun e w' => ∃ v', e = .returned v' ∧ SetIs w' v' (oth 0 l) ∧ Kept w w' := by
  obtain ⟨a, c, rfl, h1, h2, h3⟩ := h
  have HR := hidMk h1
  have HN := hidMk hn
  obtain ⟨O, hO⟩ : ∃ O, oth 0 l = O := ⟨_, rfl⟩
  rw [hO]
  have HO := hidMk hO
  clear h1 hn h3 hO
  go_enter Try.func31, Try.ntmps31
  go_wp2_with fail
  go_loopg [4, 10] l.length (fun g y x wr => ∃ (k : Nat) (z : Int) (vv : Value) (acc : List Rn), k + g = l.length ∧ x = .int .i64 k ∧ y = .int .i64 z ∧ SB w wr (w.heap.size + 1) (w.heap.size + 1 + 1) (w.heap.size + 1 + 1 + 1) vv acc ∧ Hid (acc ++ oth z (l.drop k) = O) ∧ (0 ≤ z ∧ z ≤ 9223372036854775807) ∧ acc.length ≤ k)
  case atStart =>
    refine ⟨0, 0, .slice none 0 0, [], by omega, rfl, rfl, ?_, hidMk (by rw [← HO.out]; rfl), by omega, by simp⟩
    exact sb_start (by simp) ((Kept.refl w).alloc _) _ _
  case round =>
    obtain ⟨k, z, vv, acc, hkg, rfl, rfl, hS, HA, hz, hal⟩ := hrel
    obtain ⟨da, dc, rfl, _⟩ := hS.own.rs
    have HKG := hidMk hkg
    have HS := hidMk hS
    have hsz := hS.hB
    have s0 := hS.c
    have sf := hS.f
    obtain ⟨ru, hru⟩ := hS.rc
    have hrf := hS.rf
    have hw : w.heap.size ≤ wr.heap.size := hS.kept.size
    have s0' := fun o => ((Kept.refl wr).alloc o).cellp s0
    have r0' := fun o => ((Kept.refl wr).alloc o).cellp hru
    have rf' := fun o => (((Kept.refl wr).alloc o).frozen (p := ⟨w.heap.size + 1, 0, none⟩) (cell_lt hru)).trans hrf
    by_cases hkn : k < l.length
    · obtain ⟨b, o, rfl, _, hcs⟩ := HR.out.cells (by omega)
      obtain ⟨c1, c2⟩ := hcs k hkn
      have d1 := hS.kept.cellp c1
      have d2 := hS.kept.cellp c2
      have hb := norm_at HN.out hkn
      have HST := hidMk (oth_step z hkn)
      clear hcs c1 c2 hS hkg
      generalize rnA l k = r at *
      obtain ⟨x, y⟩ := r
      simp only at hb d1 d2
      have hkn' : (k : Int) < (l.length : Int) := by omega
      by_cases hzx : z < x
      · have HE := hidMk (show acc ++ [(z, x - 1)] ++ (if y = top then [] else oth (y + 1) (l.drop (k + 1))) = O by rw [← HA.out, HST.out, if_pos hzx, List.append_assoc])
        have hxx : IntKind.i64.wrap (x - 1) = x - 1 := by rw [IntKind.wrap_i64]; omega
        by_cases hy : y = 9223372036854775807
        · subst hy
          have HE2 := hidMk (show acc ++ [(z, x - 1)] = O by rw [← HE.out, if_pos (by rfl), List.append_nil])
          have HP := hidMk (show ∀ (Y : World) (v' : Value) (m : List Rn), OwnR Y (w.heap.size + 1 + 1 + 1) v' m → Chg (fun k => (Value.slice da acc.length dc).ownBlock = some k) ((wr.alloc (.cells #[.int .i64 x, .int .i64 9223372036854775807] 47)).alloc (.cells #[.int .i64 z, .int .i64 (x - 1)] 47)) Y → _ from fun Y v' m ho hc => HS.out.push2 ho hc)
          go_wp2_with (at_builtin; refine wpList_pushR _ (by rfl) _ _ (by rfl) (w.heap.size + 1 + 1 + 1) (.slice da acc.length dc) acc (by rfl) (HS.out.own.kept (((Kept.refl _).alloc _).alloc _)) (by simp; omega) (wr.heap.size + 1) (z, x - 1) (by rfl) (by simp) (by simp) (by omega) (wr.heap.size + 2) (by simp) ?_; intro g4 cap4 w4 o4 k4 a4 l4; obtain ⟨q4, f4, ⟨u4, e4⟩, rf4, b4, d4⟩ := HP.out _ _ _ o4 k4; have y4 := b4 1 (.int .i64 9223372036854775807) (by simp); have H4 := hidMk d4; clear o4 k4 a4 l4 d4 b4)
          go_wp2_with fail
          obtain ⟨t1, t2, t3, t4⟩ := H4.out.ret (by omega)
          exact set_ret rfl (w.heap.size + 1) _ rfl rfl t1 ⟨_, rfl, by rw [← HE2.out]; exact t2, t3⟩
        · have hy' : (y == 9223372036854775807) = false := by simpa using hy
          have HE2 := hidMk (show acc ++ [(z, x - 1)] ++ oth (y + 1) (l.drop (k + 1)) = O by rw [← HE.out, if_neg (by unfold top; exact hy)])
          have hy2 : y < 9223372036854775807 := by omega
          clear hy
          have HP := hidMk (show ∀ (Y : World) (v' : Value) (m : List Rn), OwnR Y (w.heap.size + 1 + 1 + 1) v' m → Chg (fun k => (Value.slice da acc.length dc).ownBlock = some k) ((wr.alloc (.cells #[.int .i64 x, .int .i64 y] 47)).alloc (.cells #[.int .i64 z, .int .i64 (x - 1)] 47)) Y → _ from fun Y v' m ho hc => HS.out.push2 ho hc)
          go_wp2_with (at_builtin; refine wpList_pushR _ (by rfl) _ _ (by rfl) (w.heap.size + 1 + 1 + 1) (.slice da acc.length dc) acc (by rfl) (HS.out.own.kept (((Kept.refl _).alloc _).alloc _)) (by simp; omega) (wr.heap.size + 1) (z, x - 1) (by rfl) (by simp) (by simp) (by omega) (wr.heap.size + 2) (by simp) ?_; intro g4 cap4 w4 o4 k4 a4 l4; obtain ⟨q4, f4, ⟨u4, e4⟩, rf4, b4, d4⟩ := HP.out _ _ _ o4 k4; have y4 := b4 1 (.int .i64 y) (by simp); have H4 := hidMk d4; clear o4 k4 a4 l4 d4 b4)
          go_wp2_with fail
          go_roundg (gk - 1)
          case measure => have := HKG.out; omega
          case rel => exact ⟨k + 1, y + 1, _, _, by have := HKG.out; omega, by go_num, rfl, H4.out, HE2, by omega, by simp; omega⟩
      · have HE := hidMk (show acc ++ (if y = top then [] else oth (y + 1) (l.drop (k + 1))) = O by rw [← HA.out, HST.out, if_neg hzx, List.nil_append])
        by_cases hy : y = 9223372036854775807
        · subst hy
          have HE2 := hidMk (show acc = O by rw [← HE.out, if_pos (by rfl), List.append_nil])
          go_wp2_with fail
          obtain ⟨t1, t2, t3, t4⟩ := (HS.out.keep ((Kept.refl wr).alloc (.cells #[.int .i64 x, .int .i64 9223372036854775807] 47))).ret (by omega)
          exact set_ret rfl (w.heap.size + 1) _ rfl rfl t1 ⟨_, rfl, by rw [← HE2.out]; exact t2, t3⟩
        · have hy' : (y == 9223372036854775807) = false := by simpa using hy
          have HE2 := hidMk (show acc ++ oth (y + 1) (l.drop (k + 1)) = O by rw [← HE.out, if_neg (by unfold top; exact hy)])
          have hy2 : y < 9223372036854775807 := by omega
          clear hy
          go_wp2_with fail
          go_roundg (gk - 1)
          case measure => have := HKG.out; omega
          case rel => exact ⟨k + 1, y + 1, _, _, by have := HKG.out; omega, by go_num, rfl, HS.out.keep ((Kept.refl wr).alloc _), HE2, by omega, by omega⟩
    · have hkk : ¬ ((k : Int) < (l.length : Int)) := by omega
      have HE2 := hidMk (show acc ++ [(z, 9223372036854775807)] = O by rw [← HA.out, oth_end z hkn]; rfl)
      have HP := hidMk (show ∀ (Y : World) (v' : Value) (m : List Rn), OwnR Y (w.heap.size + 1 + 1 + 1) v' m → Chg (fun k => (Value.slice da acc.length dc).ownBlock = some k) (wr.alloc (.cells #[.int .i64 z, .int .i64 9223372036854775807] 47)) Y → _ from fun Y v' m ho hc => (HS.out.keep ((Kept.refl wr).alloc _)).push1 ho hc)
      go_wp2_with (at_builtin; refine wpList_pushR _ (by rfl) _ _ (by rfl) (w.heap.size + 1 + 1 + 1) (.slice da acc.length dc) acc (by rfl) (HS.out.own.kept ((Kept.refl _).alloc _)) (by simp; omega) wr.heap.size (z, 9223372036854775807) (by rfl) (by simp) (by simp) (by omega) (wr.heap.size + 1) (by simp) ?_; intro g4 cap4 w4 o4 k4 a4 l4; obtain ⟨q4, f4, ⟨u4, e4⟩, rf4, d4⟩ := HP.out _ _ _ o4 k4; have H4 := hidMk d4; clear o4 k4 a4 l4 d4)
      go_wp2_with fail
      obtain ⟨t1, t2, t3, t4⟩ := H4.out.ret (by omega)
      exact set_ret rfl (w.heap.size + 1) _ rfl rfl t1 ⟨_, rfl, by rw [← HE2.out]; exact t2, t3⟩
end Go.Proofs.Ythbogpnkdlbilaa
