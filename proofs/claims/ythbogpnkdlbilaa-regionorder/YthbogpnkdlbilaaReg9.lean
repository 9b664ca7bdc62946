/- region: Same, Less, and sets by their lists. -/
import Derived.Test.YthbogpnkdlbilaaReg8
import Derived.Laws.StructEq
import Derived.Shelf.SlicesE.Kit
namespace Go.Proofs.Ythbogpnkdlbilaa
open Go.RowKit Go.Maps
set_option linter.unusedSimpArgs false
set_option linter.unusedVariables false

theorem neqR (x y : Rn) (w : World) : (binOp .neq 47 (.agg #[.int .i64 x.1, .int .i64 x.2]) (.agg #[.int .i64 y.1, .int .i64 y.2])).run Try.prog w = .ok (.bool (!decide (x = y))) w := by
  have u3 := Try.underlying3
  have a3 := Try.isAgg3
  have z3 := Try.sizeOf3
  have hS : Try.prog.underlying 47 = some (.struct (Try.prog.fieldsOf 47)) := by kernel_rfl
  have hp : Try.prog.stoodInHeld 47 = false := by kernel_rfl
  rw [run_neq_struct, show (10000 : Nat) = 9999 + 1 from rfl, run_equalIn_agg w 9999 47 _ _ hS hp]
  simp only [Program.fieldsOf, Try.underlying47]
  go_simp
  obtain ⟨x1, x2⟩ := x
  obtain ⟨y1, y2⟩ := y
  by_cases h1 : x1 = y1 <;> by_cases h2 : x2 = y2 <;> simp [h1, h2]
theorem rn_ext {l m : List Rn} (h : l.length = m.length) (g : ∀ j, j < l.length → rnA l j = rnA m j) : l = m := by
  apply List.ext_getElem h
  intro i h1 h2
  have := g i h1
  simpa [rnA, List.getD, List.getElem?_eq_getElem h1, List.getElem?_eq_getElem h2] using this
set_option maxHeartbeats 1000000 in
theorem slices_EqualR (a b : Option Addr) (c d : Nat) (l m : List Rn) (w : World) (hl : Rs w a l) (hm : Rs w b m) (hs : l.length ≤ 100000) (ht : m.length ≤ 100000) :
    Calls Try.prog 32 #[.slice a l.length c, .slice b m.length d] w fun e w' => e = .returned (.bool (decide (l = m))) ∧ Kept w w' := by
  obtain ⟨r, hr⟩ : ∃ r, decide (l = m) = r := ⟨_, rfl⟩
  rw [hr]
  have HR := hidMk hr
  have HL := hidMk hl
  have HM := hidMk hm
  clear hr hl hm
  by_cases hlen : l.length = m.length
  · have hne : (((l.length : Int)) != (m.length : Int)) = false := by simp [hlen]
    go_enter Try.func32, Try.ntmps32
    have HLEN := hidMk hlen
    clear hlen
    go_wp2_with fail
    go_loopg [13] l.length (fun g x wr => ∃ (k q : Nat), k + g = l.length ∧ x = .int .i64 k ∧ wr = w.drewN q ∧ Hid (∀ j, j < k → rnA l j = rnA m j))
    case atStart => exact ⟨0, 0, by omega, rfl, rfl, hidMk fun j hj => absurd hj (by omega)⟩
    case round =>
      obtain ⟨k, q, hkg, rfl, hwr, HJ⟩ := hrel
      have HKG := hidMk hkg
      subst hwr
      by_cases hkn : k < l.length
      · obtain ⟨b1, o1, rfl, _, hc1⟩ := HL.out.cells (by omega)
        obtain ⟨b2, o2, rfl, _, hc2⟩ := HM.out.cells (by have := HLEN.out; omega)
        obtain ⟨e1, e2⟩ := hc1 k hkn
        obtain ⟨e3, e4⟩ := hc2 k (by have := HLEN.out; omega)
        have hn2 : (k : Int) < (m.length : Int) := by have := HLEN.out; omega
        have hq := neqR (rnA l k) (rnA m k)
        clear hc1 hc2 hkg
        by_cases he : rnA l k = rnA m k
        · have HJ2 := hidMk (show ∀ j, j < k + 1 → rnA l j = rnA m j from fun j hj => by
            by_cases e : j = k
            · subst e; exact he
            · exact HJ.out j (by omega))
          rw [show decide (rnA l k = rnA m k) = true from decide_eq_true he] at hq
          clear he
          generalize rnA l k = x at *
          generalize rnA m k = y at *
          go_wp2_with fail
          go_quiet (fail)
          go_wp2_with fail
          go_roundg (gk - 1)
          case measure => have := HKG.out; omega
          case rel => exact ⟨k + 1, q + nq, by have := HKG.out; omega, by go_num, by first | rfl | simp, HJ2⟩
        · have HF := hidMk (show r = false by rw [← HR.out]; exact decide_eq_false fun e => he (by rw [e]))
          rw [show decide (rnA l k = rnA m k) = false from decide_eq_false he] at hq
          clear he
          generalize rnA l k = x at *
          generalize rnA m k = y at *
          go_wp2_with fail
          go_quiet (fail)
          go_wp2_with fail
          go_ret
          exact ⟨by rw [HF.out]; rfl, (((Kept.refl w).drewN q).drewN nq)⟩
      · have HF := hidMk (show r = true by rw [← HR.out]; exact decide_eq_true (rn_ext HLEN.out fun j hj => HJ.out j (by omega)))
        have hkk : ¬ ((k : Int) < (l.length : Int)) := by omega
        go_wp2_with fail
        go_ret
        exact ⟨by rw [HF.out]; rfl, ((Kept.refl w).drewN _)⟩
  · have HF := hidMk (show r = false by rw [← HR.out]; exact decide_eq_false fun e => hlen (by rw [e]))
    have hne : (((l.length : Int)) != (m.length : Int)) = true := by simp; omega
    clear hlen
    go_enter Try.func32, Try.ntmps32
    go_wp2_with fail
    go_ret
    exact ⟨by rw [HF.out]; rfl, Kept.refl _⟩
/-- Runs in order and apart, by a list that may be in no order. -/
def nrm (l : List Rn) : List Rn := jn (l.mergeSort fun r s => decide (r.1 ≤ s.1))
theorem nrm_is {l : List Rn} (h : ∀ r, r ∈ l → okR r) : Norm (nrm l) ∧ (∀ x, inR (nrm l) x ↔ inR l x) ∧ (nrm l).length ≤ l.length := by
  have hp : (l.mergeSort fun r s => decide (r.1 ≤ s.1)).Perm l := List.mergeSort_perm _ _
  have hs : (l.mergeSort fun r s => decide (r.1 ≤ s.1)).Pairwise fun r s => r.1 ≤ s.1 := by
    have := List.pairwise_mergeSort (le := fun (r s : Rn) => decide (r.1 ≤ s.1)) (fun a b c h1 h2 => by simp at *; omega) (fun a b => by simp; omega) l
    exact this.imp fun h => by simpa using h
  obtain ⟨h1, h2⟩ := jn_norm (fun r hr => h r (hp.mem_iff.1 hr)) hs
  refine ⟨h1, fun x => (h2 x).trans (inR_perm hp x), ?_⟩
  have := jn_len (l.mergeSort fun r s => decide (r.1 ≤ s.1)) []
  rw [List.length_nil, Nat.zero_add, hp.length_eq] at this
  exact this
/-- A list of runs as a set has it, not too long. -/
def Gd (l : List Rn) : Prop := Norm l ∧ l.length ≤ 10000
theorem region_OfG (a : Option Addr) (n c : Nat) (l : List Int) (w : World) (hs : Sl .i64 w a n l) (hI : ∀ x, x ∈ l → isI x) (hn : n ≤ 1000) :
    Calls Try.prog 10 #[.slice a n c] w fun e w' => ∃ v', e = .returned v' ∧ SetIs w' v' (nrm (ofR l)) ∧ Kept w w' :=
  (region_Of a n c l w hs hI hn).mono fun e w' ⟨v, m, h1, h2, h3, h4, _, h6⟩ => by
    obtain ⟨g1, g2, _⟩ := nrm_is (ofR_ok hI)
    have : m = nrm (ofR l) := norm_ext h3 g1 fun x => by rw [h4, g2, inR_ofR]
    exact ⟨v, h1, this ▸ h2, h6⟩
def runL (f t : Int) : List Rn := if t ≤ max f 0 then [] else [(max f 0, t - 1)]
theorem runL_is {f t : Int} (ht : isI t) : Norm (runL f t) ∧ ∀ x, inR (runL f t) x ↔ f ≤ x ∧ 0 ≤ x ∧ x < t := by
  unfold isI at ht
  unfold runL
  by_cases h : t ≤ max f 0
  · rw [if_pos h]
    exact ⟨norm_nil, fun x => ⟨fun h => absurd h (inR_nil x), fun h => by omega⟩⟩
  · rw [if_neg h]
    exact ⟨⟨fun r hr => by rw [List.mem_singleton.1 hr]; unfold okR top; simp only; omega, by simp⟩, fun x => run_in f t x⟩
theorem region_RunG (f t : Int) (w : World) (hf : isI f) (ht : isI t) : Calls Try.prog 12 #[.int .i64 f, .int .i64 t] w fun e w' => ∃ v', e = .returned v' ∧ SetIs w' v' (runL f t) ∧ Kept w w' :=
  (region_Run f t w hf ht).mono fun e w' ⟨v, m, h1, h2, h3, h4, _, h6⟩ => by
    obtain ⟨g1, g2⟩ := runL_is (f := f) ht
    have : m = runL f t := norm_ext h3 g1 fun x => by rw [h4, g2]
    exact ⟨v, h1, this ▸ h2, h6⟩
theorem region_MeetG (v v2 : Value) (l m : List Rn) (w : World) (h : SetIs w v l) (g : SetIs w v2 m) (hl : Gd l) (hm : Gd m) :
    Calls Try.prog 16 #[v, v2] w fun e w' => ∃ v', e = .returned v' ∧ SetIs w' v' (meet l m) ∧ Kept w w' :=
  (region_Meet v v2 l m w h g (by have := hl.2; omega) (by have := hm.2; omega) hl.1.ok hm.1.ok).mono fun e w' ⟨v, h1, h2, _, h4⟩ => ⟨v, h1, h2, h4⟩
def joinR (l : List Rn) (ls : List (List Rn)) : List Rn := nrm (catL l ls)
theorem region_JoinG (v : Value) (l : List Rn) (b : Option Addr) (n c : Nat) (ls : List (List Rn)) (w : World) (h : SetIs w v l) (hs : Sts w b ls) (hn : ls.length = n) (hl : Gd l) (hg : ∀ t, t ∈ ls → Gd t) (hcl : (catL l ls).length ≤ 80000) (hk : ls.length ≤ 10) :
    Calls Try.prog 14 #[v, .slice b n c] w fun e w' => ∃ v', e = .returned v' ∧ SetIs w' v' (joinR l ls) ∧ Kept w w' := by
  subst hn
  have hok : ∀ r, r ∈ catL l ls → okR r := fun r hr => by
    rcases catL_mem.1 hr with h | ⟨t, ht, h⟩
    · exact hl.1.ok r h
    · exact (hg t ht).1.ok r h
  refine (region_Join v l b c ls w h hs hok hcl hk).mono fun e w' ⟨v, m, h1, h2, h3, h4, _, h6⟩ => ?_
  obtain ⟨g1, g2, _⟩ := nrm_is hok
  have : m = joinR l ls := norm_ext h3 g1 fun x => by rw [h4, joinR, g2, catL_in]
  exact ⟨v, h1, this ▸ h2, h6⟩
theorem region_SameG (v v2 : Value) (l m : List Rn) (w : World) (h : SetIs w v l) (g : SetIs w v2 m) (hl : l.length ≤ 100000) (hm : m.length ≤ 100000) (b : Bool) (hb : decide (l = m) = b) :
    Calls Try.prog 20 #[v, v2] w fun e w' => e = .returned (.bool b) ∧ Kept w w' := by
  obtain ⟨a, c, rfl, h1, _, _⟩ := h
  obtain ⟨a2, c2, rfl, g1, _, _⟩ := g
  have HE := hidMk (show ∀ y, Kept w y → _ from fun y hy => slices_EqualR a a2 c c2 l m y (h1.kept hy) (g1.kept hy) hl hm)
  rw [hb] at HE
  have HE2 := hidMk (HE.out _ (((Kept.refl w).alloc (.cells #[.slice a l.length c] 28)).alloc (.cells #[.slice a2 m.length c2] 28)))
  clear h1 g1 HE
  go_enter Try.func20, Try.ntmps20
  go_wp2_with fail
  refine HE2.out.mono ?_
  rintro e w5 ⟨rfl, k5⟩
  have K5 := hidMk k5
  clear k5
  go_wp2_with fail
  go_ret
  exact ⟨rfl, (((Kept.refl w).alloc _).alloc _).trans K5.out⟩
theorem oth_gd {l : List Rn} (h : Gd l) : Norm (oth 0 l) ∧ (oth 0 l).length ≤ 10001 := by
  obtain ⟨h1, _, _⟩ := oth_is l 0 h.1 (Int.le_refl _) (by decide) (fun r hr => (h.1.ok r hr).1)
  exact ⟨h1, by have := oth_len l 0; have := h.2; omega⟩
set_option maxHeartbeats 1000000 in
theorem region_LessG (v v2 : Value) (l m : List Rn) (w : World) (h : SetIs w v l) (g : SetIs w v2 m) (hl : Gd l) (hm : Gd m) :
    Calls Try.prog 18 #[v, v2] w fun e w' => ∃ v', e = .returned v' ∧ SetIs w' v' (less l m) ∧ Kept w w' := by
  obtain ⟨a, c, rfl, h1, h2, h3⟩ := h
  obtain ⟨a2, c2, rfl, g1, g2, g3⟩ := g
  have HA := hidMk (show ∀ y, Kept w y → SetIs y (.agg #[.slice a l.length c]) l from fun y hy => ⟨a, c, rfl, h1.kept hy, h2, h3⟩)
  have HB := hidMk (show ∀ y, Kept w y → SetIs y (.agg #[.slice a2 m.length c2]) m from fun y hy => ⟨a2, c2, rfl, g1.kept hy, g2, g3⟩)
  have HO := hidMk (show ∀ y, Kept w y → _ from fun y hy => region_others _ m y (HB.out y hy) hm.1 (by have := hm.2; omega))
  have HM := hidMk (show ∀ y v', Kept w y → SetIs y v' (oth 0 m) → _ from fun y v' hy hv => region_Meet _ v' l (oth 0 m) y (HA.out y hy) hv (by have := hl.2; omega) (by have := (oth_gd hm).2; omega) hl.1.ok (oth_gd hm).1.ok)
  have HLS := hidMk (show meet l (oth 0 m) = less l m from rfl)
  rw [HLS.out] at HM
  clear h1 g1 h3 g3 hl hm
  go_enter Try.func18, Try.ntmps18
  go_wp2_with fail
  have y0 : ((((w.alloc (.cells #[.slice a l.length c] 28)).alloc (.cells #[.slice a2 m.length c2] 28)).alloc (.cells #[.slice none 0 0] 28)).drew).cell? ⟨w.heap.size, 0, none⟩ = some (.slice a l.length c) := (((Kept.refl _).alloc _).drew).cellp (((Kept.refl _).alloc _).cellp (new_cell rfl _ _))
  have y1 : ((((w.alloc (.cells #[.slice a l.length c] 28)).alloc (.cells #[.slice a2 m.length c2] 28)).alloc (.cells #[.slice none 0 0] 28)).drew).cell? ⟨w.heap.size + 1, 0, none⟩ = some (.slice a2 m.length c2) := (((Kept.refl _).alloc _).drew).cellp (new_cell (by simp) _ _)
  have y2 : ((((w.alloc (.cells #[.slice a l.length c] 28)).alloc (.cells #[.slice a2 m.length c2] 28)).alloc (.cells #[.slice none 0 0] 28)).drew).cell? ⟨w.heap.size + 1 + 1, 0, none⟩ = some (.slice none 0 0) := ((Kept.refl _).drew).cellp (new_cell (by simp) _ _)
  have y3 : ((((w.alloc (.cells #[.slice a l.length c] 28)).alloc (.cells #[.slice a2 m.length c2] 28)).alloc (.cells #[.slice none 0 0] 28)).drew).frozen? ⟨w.heap.size + 1 + 1, 0, none⟩ = false := (((Kept.refl _).drew).frozen (p := ⟨w.heap.size + 1 + 1, 0, none⟩) (by simp)).trans (new_frozen (by simp) _ _ 0)
  have K0 := hidMk (show Kept w ((((w.alloc (.cells #[.slice a l.length c] 28)).alloc (.cells #[.slice a2 m.length c2] 28)).alloc (.cells #[.slice none 0 0] 28)).drew) from ((((Kept.refl w).alloc _).alloc _).alloc _).drew)
  have Y := hidMk (And.intro y0 (And.intro y1 (And.intro y2 y3)))
  clear y0 y1 y2 y3
  have y0 := Y.out.1
  have y1 := Y.out.2.1
  go_region_with
    (first
      | (go_at_call 31; refine (HO.out _ K0.out).mono ?_; rintro e w5 ⟨v5, rfl, hs5, k5⟩; have x0 := k5.cellp Y.out.1; have x1 := k5.cellp Y.out.2.1; have x2 := k5.cellp Y.out.2.2.1; have x3 := (k5.frozen (p := ⟨w.heap.size + 1 + 1, 0, none⟩) (cell_lt Y.out.2.2.1)).trans Y.out.2.2.2; have HS5 := hidMk hs5; have K5 := hidMk (K0.out.trans k5); clear hs5 k5)
      | (go_at_call 16; refine (HM.out _ _ K5.out HS5.out).mono ?_; rintro e w6 ⟨v6, rfl, hs6, fr6, k6⟩; have z0 := k6.cellp x0; have z1 := k6.cellp x1; have z2 := k6.cellp x2; have z3 := (k6.frozen (p := ⟨w.heap.size + 1 + 1, 0, none⟩) (cell_lt x2)).trans x3; obtain ⟨a6, c6, rfl, r6, g6, n6⟩ := hs6; have HF6 := hidMk (show ∀ ad, a6 = some ad → w.heap.size + 1 + 1 < ad.block from fun ad e => by (have h1 := fr6 ad _ _ (by rw [e]); have h2 : w.heap.size + 1 + 1 < w5.heap.size := cell_lt x2; omega)); have HR6 := hidMk r6; have HN6 := hidMk n6; have K6 := hidMk (K5.out.trans k6); clear r6 n6 k6 fr6))
  all_goals (try go_wp2_with fail)
  all_goals
    have c2' : Chg (· = w.heap.size + 1 + 1) w6 (w6.setCell ⟨w.heap.size + 1 + 1, 0, none⟩ (.slice a6 (less l m).length c6)) := chg_set _ _ _ _
    exact set_ret1 rfl (w.heap.size + 1 + 1) (.slice a6 (less l m).length c6) _ rfl rfl z2 ⟨_, rfl, ⟨a6, c6, rfl, HR6.out.chg c2' (fun _ ad e => by have := HF6.out ad e; omega), g6, HN6.out⟩, K6.out.setCell (p := ⟨w.heap.size + 1 + 1, 0, none⟩) (by show w.heap.size ≤ w.heap.size + 1 + 1; omega) _⟩
end Go.Proofs.Ythbogpnkdlbilaa
