/- The definition's sets: Of, Run, Runs. -/
import Derived.Test.YthbogpnkdlbilaaRefReg1
import Derived.Test.YthbogpnkdlbilaaReg8
namespace Go.Proofs.Ythbogpnkdlbilaa
open Go.RowKit Go.Maps
set_option linter.unusedSimpArgs false
set_option linter.unusedVariables false

theorem lset_load {w : World} {g : Nat} {v : Value} (c0 : w.cell? ⟨g, 0, none⟩ = some v) : (loadVar 31 ⟨g, 0, none⟩).run Try.prog w = .ok (.agg #[v]) w := by
  have hl := run_loadCells_list (P := Try.prog) w ⟨g, 0, none⟩ [v] (fun j u hu => by
    have hadd : (⟨g, 0, none⟩ : Addr).add j = ⟨g, j, none⟩ := by unfold Addr.add; split <;> simp_all
    rw [hadd]
    have : j = 0 := by
      have := (List.getElem?_eq_some_iff.1 hu).1
      simp at this
      omega
    subst this
    simp_all)
  have hi : (Try.prog.info? 31).map (·.size) = some 1 := by kernel_rfl
  obtain ⟨i, h1, h2⟩ := Option.map_eq_some_iff.1 hi
  simp only [List.length_cons, List.length_nil, Nat.reduceAdd] at hl
  simp [loadVar, Sem.run_bind, Try.isAgg31, sizeOf, typeInfo, h1, h2, hl]
theorem lset_ret {R : Ending → World → Prop} {fn : Func} {p : Tmp} (hfn : fn.results = #[.cell p 31]) {a : Act} {w : World} (g : Nat) (v : Value) (hp : a.tmps.getD p undef = .pointer (some ⟨g, 0, none⟩)) (hd : a.defers = [])
    (c0 : w.cell? ⟨g, 0, none⟩ = some v) (h : R (.returned (.agg #[v])) w) : bodyPost Try.prog fn R .ret a w :=
  bodyPost_ret (results_cell1 hfn _ _ g _ hp (lset_load c0)) hd h
/-- Two blocks: the result's, and the set's, whose list lies elsewhere. -/
structure LB (w0 w : World) (rs s : Nat) (a : Option Addr) (c : Nat) (l : List Int) : Prop where
  c : w.cell? ⟨s, 0, none⟩ = some (.slice a l.length c)
  f : w.frozen? ⟨s, 0, none⟩ = false
  rc : ∃ u, w.cell? ⟨rs, 0, none⟩ = some u
  rf : w.frozen? ⟨rs, 0, none⟩ = false
  sl : Sl .i64 w a l.length l
  fr : 0 < l.length → ∀ ad, a = some ad → ad.block ≠ s ∧ ad.block ≠ rs
  lt : rs ≠ s
  kept : Kept w0 w
  h0 : w0.heap.size ≤ rs ∧ w0.heap.size ≤ s
theorem LB.keep {w0 w w' : World} {rs s : Nat} {a : Option Addr} {c : Nat} {l : List Int} (h : LB w0 w rs s a c l) (g : Kept w w') : LB w0 w' rs s a c l := by
  have l1 : s < w.heap.size := cell_lt h.c
  obtain ⟨u, hu⟩ := h.rc
  exact ⟨g.cellp h.c, (g.frozen (p := ⟨s, 0, none⟩) l1).trans h.f, ⟨u, g.cellp hu⟩, (g.frozen (p := ⟨rs, 0, none⟩) (cell_lt hu)).trans h.rf, h.sl.kept g, h.fr, h.lt, h.kept.trans g, h.h0⟩
theorem LB.set {w0 w : World} {rs s : Nat} {a b : Option Addr} {c d : Nat} {l m : List Int} (h : LB w0 w rs s a c l) (hm : Sl .i64 w b m.length m) (hf : 0 < m.length → ∀ ad, b = some ad → ad.block ≠ s ∧ ad.block ≠ rs) : LB w0 (w.setCell ⟨s, 0, none⟩ (.slice b m.length d)) rs s b d m := by
  have c2 : Chg (· = s) w (w.setCell ⟨s, 0, none⟩ (.slice b m.length d)) := (Chg.refl (· = s) w).setCell (p := ⟨s, 0, none⟩) (.inl rfl) _
  have hlt := h.lt
  obtain ⟨u, hu⟩ := h.rc
  exact ⟨World.cell?_setCell_same _ _ _ h.c, by simpa using h.f, ⟨u, c2.cellp hu (by omega)⟩, by simpa using h.rf, hm.chg c2 (fun hp ad e => (hf hp ad e).1), hf, hlt, h.kept.setCell (p := ⟨s, 0, none⟩) (show w0.heap.size ≤ s by have := h.h0; omega) _, h.h0⟩
theorem LB.ret {w0 w : World} {rs s : Nat} {a : Option Addr} {c : Nat} {l : List Int} (h : LB w0 w rs s a c l) : (w.setCell ⟨rs, 0, none⟩ (.slice a l.length c)).cell? ⟨rs, 0, none⟩ = some (.slice a l.length c) ∧ LsIs (w.setCell ⟨rs, 0, none⟩ (.slice a l.length c)) (.agg #[.slice a l.length c]) l ∧ Kept w0 (w.setCell ⟨rs, 0, none⟩ (.slice a l.length c)) := by
  obtain ⟨u, hu⟩ := h.rc
  have c2 : Chg (· = rs) w (w.setCell ⟨rs, 0, none⟩ (.slice a l.length c)) := (Chg.refl (· = rs) w).setCell (p := ⟨rs, 0, none⟩) (.inl rfl) _
  exact ⟨World.cell?_setCell_same _ _ _ hu, ⟨a, c, rfl, h.sl.chg c2 (fun hp ad e => (h.fr hp ad e).2)⟩, h.kept.setCell (p := ⟨rs, 0, none⟩) h.h0.1 _⟩
theorem lb_start {w : World} (t t' : TypeId) : LB w ((w.alloc (.cells #[.slice none 0 0] t)).alloc (.cells #[.slice none 0 0] t')) w.heap.size (w.heap.size + 1) none 0 [] :=
  ⟨new_cell (by simp) _ _, new_frozen (by simp) _ _ 0, ⟨_, ((Kept.refl _).alloc _).cellp (new_cell rfl _ _)⟩, (((Kept.refl _).alloc _).frozen (p := ⟨w.heap.size, 0, none⟩) (by simp)).trans (new_frozen rfl _ _ 0), ⟨rfl, Nat.zero_le _, fun h => absurd h (by simp)⟩, fun h => absurd h (by simp), by omega, ((Kept.refl w).alloc _).alloc _, ⟨Nat.le_refl _, by omega⟩⟩
set_option maxHeartbeats 2000000 in
theorem ref8_Of (a : Option Addr) (n c : Nat) (l : List Int) (w : World) (hs : Sl .i64 w a n l) (hn : n ≤ 1000) : Calls Try.prog 11 #[.slice a n c] w fun e w' => ∃ v', e = .returned v' ∧ LsIs w' v' (ofL l) ∧ Kept w w' := by
  have HS := hidMk hs
  have hlen := hs.len
  clear hs
  go_enter Try.func11, Try.ntmps11
  go_wp2_with fail
  go_loopg [4] n (fun g i wr => ∃ (k : Nat) (b : Option Addr) (d : Nat), k + g = n ∧ i = .int .i64 k ∧ LB w wr w.heap.size (w.heap.size + 1) b d (ofL (l.take k)))
  case atStart => exact ⟨0, none, 0, by omega, rfl, lb_start _ _⟩
  case round =>
    obtain ⟨k, b, d, hkg, rfl, hB⟩ := hrel
    have HKG := hidMk hkg
    have HB := hidMk hB
    have s0 := hB.c
    have sf := hB.f
    have hol := ofL_len (l.take k)
    rw [List.length_take] at hol
    by_cases hkn : k < n
    · obtain ⟨bb, o, rfl, hbb, hcs⟩ := HS.out.cells (by omega)
      have hc := hB.kept.cellp (hcs k hkn)
      have kn' : (k : Int) < (n : Int) := by omega
      have HT := hidMk (ofL_take (l := l) (k := k) (by omega))
      have hbw : bb < w.heap.size := hbb
      have HPU := hidMk (show ∀ y, Kept wr y → _ from fun y hy => ref8_put b d (ofL (l.take k)) (l.getD k 0) y (hB.sl.kept hy) (by omega))
      clear hcs hkg hB
      generalize l.getD k 0 = x at *
      generalize ofL (l.take k) = acc at *
      by_cases hx : 0 ≤ x
      · rw [if_pos hx] at HT
        go_wp2_with fail
        go_region_with ((go_at_call 29; refine (HPU.out _ ((Kept.refl wr).drew)).mono ?_; rintro e w5 ⟨b5, d5, rfl, hs5, hf5, k5⟩; have B5 := HB.out.keep (((Kept.refl wr).drew).trans k5); have z0 := B5.c; have z1 := B5.f; have HB5 := hidMk B5; have HS5 := hidMk hs5; have HF5 := hidMk hf5; clear hs5 hf5 k5 B5))
        all_goals (try go_wp2_with fail)
        all_goals
          go_roundg (gk - 1)
          case measure => have := HKG.out; omega
          case rel =>
            refine ⟨k + 1, b5, d5, by have := HKG.out; omega, by go_num, ?_⟩
            rw [HT.out]
            refine HB5.out.set HS5.out (fun hp ad e => ?_)
            have h1 : w.heap.size + 1 < wr.heap.size := cell_lt s0
            rcases HF5.out with ⟨e2, e3⟩ | h
            · rw [e3] at hp
              exact HB.out.fr hp ad (e2 ▸ e)
            · have h2 : wr.heap.size ≤ ad.block := h ad e
              omega
      · rw [if_neg hx] at HT
        go_wp2_with fail
        go_roundg (gk - 1)
        case measure => have := HKG.out; omega
        case rel => exact ⟨k + 1, b, d, by have := HKG.out; omega, by go_num, by rw [HT.out]; exact HB.out⟩
    · have htk : l.take k = l := List.take_of_length_le (by omega)
      rw [htk] at HB s0
      have hkk : ¬ ((k : Int) < (n : Int)) := by omega
      obtain ⟨ru, hru⟩ := hB.rc
      have hrf := hB.rf
      clear hB hkg hol htk
      go_wp2_with fail
      obtain ⟨t1, t2, t3⟩ := HB.out.ret
      exact lset_ret rfl w.heap.size _ rfl rfl t1 ⟨_, rfl, t2, t3⟩
end Go.Proofs.Ythbogpnkdlbilaa
