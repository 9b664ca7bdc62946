/- The definition's: words of kinds, what stands behind them. · The definition's reader: its block, the next word. -/
import Derived.Test.YtpehinmckppjoaaGreatDoorWPsCB
import Derived.Test.YtpehinmckppjoaaGreatDoorWPsSB
import Derived.Test.YtpehinmckppjoaaGreatDoorWPs3B
import Derived.Test.YtpehinmckppjoaaGreatDoorWRefDims9BB
namespace Go.Proofs.YtpehinmckppjoaaGreatDoor
open Go.RowKit Go.Maps
set_option linter.unusedSimpArgs false
set_option linter.unusedVariables false

theorem kw_ss (w : World) (t : TypeId) : Ss (w.alloc (.cells kwV.toArray t)) (some ⟨w.heap.size, 0, none⟩) 19 kwL := by
  refine ⟨rfl, by unfold maxLen; omega, fun _ => ⟨w.heap.size, 0, rfl, by simp, fun i hi => ?_⟩⟩
  have hk : i < kwL.length := hi
  have : kwV[i]? = some (.string (kwL.getD i ByteArray.empty)) := by
    unfold kwV
    rw [List.getElem?_map, List.getElem?_eq_getElem hk, List.getD_eq_getElem?_getD, List.getElem?_eq_getElem hk]
    rfl
  rw [Nat.zero_add]
  exact new_cell _ _ _ _ _ _ rfl (by simpa using this)
set_option maxHeartbeats 1000000 in
set_option maxRecDepth 100000 in
theorem q_names (w : World) : Calls Tryz.prog 31 #[] w fun e w' => e = .returned (.slice (some ⟨w.heap.size, 0, none⟩) 19 19) ∧ Ss w' (some ⟨w.heap.size, 0, none⟩) 19 kwL ∧ Kept w w' := by
  have H := hidMk (kw_ss w)
  go_enter Tryz.func31, Tryz.ntmps31
  go_wp2_with fail
  go_ret
  exact ⟨rfl, H.out _, (Kept.refl w).alloc _⟩
theorem kwI_get (k : Nat) (h : k < 19) : kwI (k : Int) = kwL.getD k ByteArray.empty := by
  unfold kwI
  rw [if_pos ⟨by omega, by omega⟩, Int.toNat_natCast]
set_option maxHeartbeats 1000000 in
theorem q_Name (w : World) (k : Int) : Calls Tryz.prog 12 #[.int .i64 k] w fun e w' => e = .returned (.string (kwI k)) ∧ Kept w w' := by
  have HN := hidMk (q_names w)
  by_cases h0 : k < 0
  · have e : kwI k = ⟨#[]⟩ := by unfold kwI; rw [if_neg (by omega)]
    rw [e]
    have hd : decide (k < 0) = true := by simpa using h0
    clear e
    go_enter Tryz.func12, Tryz.ntmps12
    go_wp2_with fail
    refine HN.out.mono ?_
    rintro e w1 ⟨rfl, s1, k1⟩
    have K1 := hidMk k1
    clear k1 s1
    go_wp2_with fail
    go_ret
    exact ⟨rfl, K1.out⟩
  · have hd : decide (k < 0) = false := by simpa using h0
    by_cases h1 : 19 ≤ k
    · have e : kwI k = ⟨#[]⟩ := by unfold kwI; rw [if_neg (by omega)]
      rw [e]
      have hd2 : decide (19 ≤ k) = true := by simpa using h1
      clear e
      go_enter Tryz.func12, Tryz.ntmps12
      go_wp2_with fail
      refine HN.out.mono ?_
      rintro e w1 ⟨rfl, s1, k1⟩
      have K1 := hidMk k1
      clear k1 s1
      go_wp2_with fail
      go_ret
      exact ⟨rfl, K1.out⟩
    · have hd2 : decide (19 ≤ k) = false := by simpa using h1
      obtain ⟨n, rfl⟩ : ∃ n : Nat, k = n := ⟨k.toNat, by omega⟩
      have hn : n < 19 := by omega
      have hn2 : (n : Int) < 19 := by omega
      rw [kwI_get n hn]
      obtain ⟨t, ht⟩ : ∃ t, kwL.getD n ByteArray.empty = t := ⟨_, rfl⟩
      rw [ht]
      have HT := hidMk ht
      clear ht
      go_enter Tryz.func12, Tryz.ntmps12
      go_wp2_with fail
      refine HN.out.mono ?_
      rintro e w1 ⟨rfl, s1, k1⟩
      have K1 := hidMk k1
      obtain ⟨b, o, e, hb, hc⟩ := s1.cells (by omega)
      cases e
      have q := hc n hn
      rw [Nat.zero_add, HT.out] at q
      clear k1 s1 hc
      go_wp2_with fail
      go_ret
      exact ⟨rfl, K1.out⟩
set_option maxHeartbeats 2000000 in
theorem q_Kind (w : World) (t : ByteArray) : Calls Tryz.prog 14 #[.string t] w fun e w' => e = .returned (.int .i64 (kindI t)) ∧ Kept w w' := by
  have HN := hidMk (q_names w)
  have HK := hidMk (fun k (h1 : 1 ≤ k) (h2 : k < 19) (he : kwL.getD k ByteArray.empty = t) (h : ∀ j, 1 ≤ j → j < k → kwL.getD j ByteArray.empty ≠ t) => show kindI t = (k : Nat) from by
    refine kindI_at h2 he fun j hj => ?_
    by_cases e : j = 0
    · subst e
      intro e0
      rw [← he] at e0
      rcases (by omega : k = 1 ∨ k = 2 ∨ k = 3 ∨ k = 4 ∨ k = 5 ∨ k = 6 ∨ k = 7 ∨ k = 8 ∨ k = 9 ∨ k = 10 ∨ k = 11 ∨ k = 12 ∨ k = 13 ∨ k = 14 ∨ k = 15 ∨ k = 16 ∨ k = 17 ∨ k = 18) with rfl | rfl | rfl | rfl | rfl | rfl | rfl | rfl | rfl | rfl | rfl | rfl | rfl | rfl | rfl | rfl | rfl | rfl <;> exact absurd e0 (by decide)
    · exact h j (by omega) hj)
  have HZ := hidMk (fun (h : ∀ j, 1 ≤ j → j < 19 → kwL.getD j ByteArray.empty ≠ t) => show kindI t = 0 from by
    by_cases e0 : kwL.getD 0 ByteArray.empty = t
    · exact kindI_at (k := 0) (by omega) e0 (fun j hj => absurd hj (by omega))
    · exact kindI_no fun j hj => by
        by_cases e : j = 0
        · subst e; exact e0
        · exact h j (by omega) hj)
  obtain ⟨r, hr⟩ : ∃ r, kindI t = r := ⟨_, rfl⟩
  rw [hr] at HK HZ ⊢
  clear hr
  go_enter Tryz.func14, Tryz.ntmps14
  go_wp2_with fail
  refine HN.out.mono ?_
  rintro e w1 ⟨rfl, s1, k1⟩
  have K1 := hidMk k1
  obtain ⟨b, o, e, hb, hc⟩ := s1.cells (by omega)
  cases e
  have HC := hidMk (show ∀ i, i < 19 → w1.cell? ⟨w.heap.size, i, none⟩ = some (.string (kwL.getD i ByteArray.empty)) from fun i hi => by have := hc i hi; rw [Nat.zero_add] at this; exact this)
  clear k1 s1 hc
  go_wp2_with fail
  go_loopg [4] 18 (fun gg x wr => ∃ k : Nat, k + gg = 19 ∧ 1 ≤ k ∧ x = .int .i64 k ∧ wr = w1 ∧ Hid (∀ j, 1 ≤ j → j < k → kwL.getD j ByteArray.empty ≠ t))
  case atStart => exact ⟨1, by omega, by omega, rfl, rfl, hidMk (fun j hj hj2 => by omega)⟩
  case round =>
    obtain ⟨k, hkg, hk1, rfl, rfl, HJ⟩ := hrel
    have HKG := hidMk hkg
    have HK1 := hidMk hk1
    by_cases hk : k < 19
    · have hk2 : (k : Int) < 19 := by omega
      have q := HC.out k hk
      have HEQ := hidMk (HK.out k hk1 hk)
      have HNX := hidMk (show kwL.getD k ByteArray.empty ≠ t → ∀ j, 1 ≤ j → j < k + 1 → kwL.getD j ByteArray.empty ≠ t from fun h j h1 h2 => by
        by_cases e : j = k
        · subst e; exact h
        · exact HJ.out j h1 (by omega))
      have HG1 := hidMk (show 1 ≤ gk by omega)
      clear hkg hk1
      generalize kwL.getD k ByteArray.empty = y at *
      by_cases he : y = t
      · subst he
        have hr := HEQ.out rfl HJ.out
        subst hr
        go_wp2_with fail
        go_ret
        exact ⟨rfl, K1.out⟩
      · have hb := bytes_neD he
        have HN2 := hidMk (HNX.out he)
        go_wp2_with fail
        go_roundg (gk - 1)
        case measure => have := HKG.out; have := HG1.out; omega
        case rel => exact ⟨k + 1, by have := HKG.out; have := HG1.out; omega, by omega, by go_num, rfl, HN2⟩
    · have e : k = 19 := by omega
      subst e
      have hr := HZ.out HJ.out
      subst hr
      clear hkg hk1
      go_wp2_with fail
      go_ret
      exact ⟨rfl, K1.out⟩
def shS (k : Int) : ByteArray := str (shapeL k)
set_option maxHeartbeats 4000000 in
theorem q_shape (w : World) (k : Int) : Calls Tryz.prog 29 #[.int .i64 k] w fun e w' => e = .returned (.string (shS k)) ∧ w' = w := by
  by_cases hk : 1 ≤ k ∧ k ≤ 18
  · rcases (by omega : k = 1 ∨ k = 2 ∨ k = 3 ∨ k = 4 ∨ k = 5 ∨ k = 6 ∨ k = 7 ∨ k = 8 ∨ k = 9 ∨ k = 10 ∨ k = 11 ∨ k = 12 ∨ k = 13 ∨ k = 14 ∨ k = 15 ∨ k = 16 ∨ k = 17 ∨ k = 18) with rfl | rfl | rfl | rfl | rfl | rfl | rfl | rfl | rfl | rfl | rfl | rfl | rfl | rfl | rfl | rfl | rfl | rfl
    all_goals
      clear hk
      go_enter Tryz.func29, Tryz.ntmps29
      go_wp2_with fail
      go_ret
      exact ⟨by kernel_rfl, rfl⟩
  · have e : shS k = ⟨#[]⟩ := by
      unfold shS shapeL
      rw [if_neg (by omega), if_neg (by omega), if_neg (by omega), if_neg (by omega), if_neg (by omega), if_neg (by omega), if_neg (by omega), if_neg (by omega)]
      rfl
    rw [e]
    have e1 : (k == 1) = false := by simp; omega
    have e2 : (k == 2) = false := by simp; omega
    have e3 : (k == 3) = false := by simp; omega
    have e4 : (k == 4) = false := by simp; omega
    have e5 : (k == 5) = false := by simp; omega
    have e6 : (k == 6) = false := by simp; omega
    have e7 : (k == 7) = false := by simp; omega
    have e8 : (k == 8) = false := by simp; omega
    have e9 : (k == 9) = false := by simp; omega
    have e10 : (k == 10) = false := by simp; omega
    have e11 : (k == 11) = false := by simp; omega
    have e12 : (k == 12) = false := by simp; omega
    have e13 : (k == 13) = false := by simp; omega
    have e14 : (k == 14) = false := by simp; omega
    have e15 : (k == 15) = false := by simp; omega
    have e17 : (k == 17) = false := by simp; omega
    have e18 : (k == 18) = false := by simp; omega
    clear e hk
    go_enter Tryz.func29, Tryz.ntmps29
    go_wp2_with fail
    go_ret
    exact ⟨rfl, rfl⟩
theorem sh_bat (k : Int) (i : Nat) : bat (shS k) i = (shapeL k).getD i 0 ∧ (shS k).size = (shapeL k).length := by
  have hb : ∀ x ∈ shapeL k, isB x := fun x hx => by
    unfold isB
    rcases shape_cases k with h | h | h | h | h | h | h | h | h <;> rw [h] at hx <;> simp at hx <;> omega
  refine ⟨?_, str_size _⟩
  unfold bat shS
  rw [byt_str hb]
end Go.Proofs.YtpehinmckppjoaaGreatDoor
namespace Go.Proofs.YtpehinmckppjoaaGreatDoor
open Go.RowKit Go.Maps
set_option linter.unusedSimpArgs false
set_option linter.unusedVariables false

/-- What the definition's reader stands on. -/
structure QX (w0 : World) (pr pq : Nat) (ra : Option Addr) (rc : Nat) (ms : List ByteArray) (ds : List Dm) (L : List ByteArray) : Prop where
  rd : ∀ W, Chg (· = pr) w0 W → ∃ rt, RDm W pq ds rt ms
  ok : CatOk ds ms
  wl : ∀ W, Chg (· = pr) w0 W → WL W ra L
  hc : L.length ≤ rc
  big : L.length ≤ 20000
  sz : ∀ i, (tkA L i).size ≤ 10000
/-- The definition's reader in memory: the command lies in its block. -/
structure QS (w0 W : World) (pr pq : Nat) (ra : Option Addr) (rn rc : Nat) (s : Nat × Cm) : Prop where
  kept : Chg (· = pr) w0 W
  d : W.cell? ⟨pr, 0, none⟩ = some (.pointer (some ⟨pq, 0, none⟩))
  ws : W.cell? ⟨pr, 1, none⟩ = some (.slice ra rn rc)
  at_ : W.cell? ⟨pr, 2, none⟩ = some (.int .i64 s.1)
  x : ∀ j u, (cmL s.2)[j]? = some u → W.cell? ⟨pr, 3 + j, none⟩ = some u
  fr : ∀ j, j < 15 → W.frozen? ⟨pr, j, none⟩ = false
  le : s.1 ≤ rn
theorem chg_kept1 {p : Nat} {a b c : World} (h : Chg (· = p) a b) (k : Kept b c) : Chg (· = p) a c := h.thn (Chg.of_kept (S := fun _ => False) k) (fun _ _ e => e.elim)
section
variable {w0 W W' : World} {pr pq : Nat} {ra : Option Addr} {rn rc : Nat} {s : Nat × Cm}
theorem QS.ltr (h : QS w0 W pr pq ra rn rc s) : pr < W.heap.size := cell_lt h.d
theorem QS.keep (h : QS w0 W pr pq ra rn rc s) (k : Kept W W') : QS w0 W' pr pq ra rn rc s :=
  ⟨chg_kept1 h.kept k, k.cellp h.d, k.cellp h.ws, k.cellp h.at_, fun j u hu => k.cellp (h.x j u hu), fun j hj => (k.frozen (p := ⟨pr, j, none⟩) h.ltr).trans (h.fr j hj), h.le⟩
/-- The place is moved. -/
theorem QS.setAt (h : QS w0 W pr pq ra rn rc s) (i : Nat) (hi : i ≤ rn) : QS w0 (W.setCell ⟨pr, 2, none⟩ (.int .i64 (i : Int))) pr pq ra rn rc (i, s.2) := by
  refine ⟨h.kept.setCell (p := ⟨pr, 2, none⟩) (.inl rfl) _, so h.d (by simp), so h.ws (by simp), World.cell?_setCell_same _ _ _ h.at_, fun j u hu => so (h.x j u hu) (by simp only [ne_eq, Addr.mk.injEq, not_and]; omega), fun j hj => ?_, hi⟩
  rw [World.frozen?_setCell]; exact h.fr j hj
/-- A field is filled. -/
theorem QS.setX (h : QS w0 W pr pq ra rn rc s) {x : Cm} {o : Nat} {v : Value} (ho : o < 12) (hx : cmL x = (cmL s.2).set o v) : QS w0 (W.setCell ⟨pr, 3 + o, none⟩ v) pr pq ra rn rc (s.1, x) := by
  refine ⟨h.kept.setCell (p := ⟨pr, 3 + o, none⟩) (.inl rfl) _, so h.d (by simp only [ne_eq, Addr.mk.injEq, not_and]; omega), so h.ws (by simp only [ne_eq, Addr.mk.injEq, not_and]; omega), so h.at_ (by simp only [ne_eq, Addr.mk.injEq, not_and]; omega), fun j u hu => ?_, fun j hj => ?_, h.le⟩
  · have hl : (cmL s.2).length = 12 := rfl
    simp only at hu
    rw [hx, List.getElem?_set] at hu
    by_cases e : o = j
    · subst e
      rw [if_pos rfl, if_pos (by omega)] at hu
      cases hu
      obtain ⟨u0, hu0⟩ : ∃ u0, (cmL s.2)[o]? = some u0 := ⟨_, List.getElem?_eq_getElem (by omega)⟩
      exact World.cell?_setCell_same _ _ _ (h.x o u0 hu0)
    · rw [if_neg e] at hu
      exact so (h.x j u hu) (by intro e'; simp only [Addr.mk.injEq] at e'; omega)
  · rw [World.frozen?_setCell]; exact h.fr j hj
end
def wdZ : Value := .agg #[.int .i64 0, .string ⟨#[]⟩, .int .i64 0, .int .i64 0, .slice none 0 0]
theorem word_ret2 {e : TypeId} (hl : WLoad e) {R : Ending → World → Prop} {fn : Func} {p u : Tmp} (hfn : fn.results = #[.cell p e, .tmp u]) {a : Act} {w : World} (g : Nat) {v0 v1 v2 v3 v4 er : Value} (hp : a.tmps.getD p undef = .pointer (some ⟨g, 0, none⟩)) (hq : a.tmps.getD u undef = er) (hd : a.defers = [])
    (hc : w.cell? ⟨g, 0, none⟩ = some v0 ∧ w.cell? ⟨g, 1, none⟩ = some v1 ∧ w.cell? ⟨g, 2, none⟩ = some v2 ∧ w.cell? ⟨g, 3, none⟩ = some v3 ∧ w.cell? ⟨g, 4, none⟩ = some v4) (h : R (.returned (.tuple #[.agg #[v0, v1, v2, v3, v4], er])) w) : bodyPost Tryz.prog fn R .ret a w := by
  subst hq
  exact bodyPost_ret (results_cell_tmp hfn _ _ g _ hp (hl w g 0 _ _ _ _ _ hc.1 hc.2.1 hc.2.2.1 hc.2.2.2.1 hc.2.2.2.2)) hd h
section
variable {w0 W : World} {pr pq : Nat} {ra : Option Addr} {rc : Nat} {ms : List ByteArray} {ds : List Dm} {L : List ByteArray} {s : Nat × Cm}
set_option maxHeartbeats 2000000 in
set_option maxRecDepth 100000 in
theorem q_next_no (hX : QX w0 pr pq ra rc ms ds L) (hS : QS w0 W pr pq ra L.length rc s) {kind : Int} (hn : nx L kind s.1 = none) :
    Calls Tryz.prog 28 #[.pointer (some ⟨pr, 0, none⟩), .int .i64 kind] W fun e w' => e = .returned (.tuple #[wdZ, .int .i64 6]) ∧ Kept W w' := by
  obtain ⟨i, x⟩ := s
  simp only at hn ⊢
  have q1 := hS.ws
  have q2 := hS.at_
  simp only at q2
  obtain ⟨W1, hW1⟩ : ∃ W1, W1 = W.alloc (.cells #[.int .i64 0, .string ⟨#[]⟩, .int .i64 0, .int .i64 0, .slice none 0 0] 77) := ⟨_, rfl⟩
  have K1 : Kept W W1 := by rw [hW1]; exact (Kept.refl W).alloc _
  have z1 := K1.cellp q1
  have z2 := K1.cellp q2
  have HNW := hidMk (show NW W1 W.heap.size by rw [hW1]; exact nw_new W _ rfl)
  have HK1 := hidMk K1
  rcases nx_none hn hS.le with e | ⟨hi, hk⟩
  · subst e
    have hg : decide ((L.length : Int) ≤ (L.length : Int)) = true := by simp
    clear hX hS hn K1 q1 q2
    have n0 := HNW.out.c0
    have n1 := HNW.out.c1
    have n2 := HNW.out.c2
    have n3 := HNW.out.c3
    have n4 := HNW.out.c4
    have f0 := HNW.out.fz 0 (by omega)
    have f1 := HNW.out.fz 1 (by omega)
    have f2 := HNW.out.fz 2 (by omega)
    have f3 := HNW.out.fz 3 (by omega)
    have f4 := HNW.out.fz 4 (by omega)
    go_enter Tryz.func28, Tryz.ntmps28
    go_wp2_with fail
    rw [← hW1]
    clear hW1
    go_quiet (fail)
    go_wp2_with fail
    exact word_ret2 wload_r rfl W.heap.size rfl rfl rfl (NW.set (HNW.out.kept ((Kept.refl W1).drewN _)) _ _ _ _ _) ⟨rfl, set5_kept (HK1.out.drewN _) (Nat.le_refl _) _ _ _ _ _⟩
  · obtain ⟨b, o, wx, rfl, h0, h1, h2, h3, h4, h5, h6⟩ := (hX.wl _ hS.kept).at_ i hi
    have y0 := K1.cellp h0
    have hil : (i : Int) < (L.length : Int) := by omega
    have hg : decide ((L.length : Int) ≤ (i : Int)) = false := by simp; omega
    have hkn : (rdK (tkA L i) != kind) = true := by simpa using hk
    generalize rdK (tkA L i) = kk at *
    clear hX hS hn K1 q1 q2 h0 h1 h2 h3 h4 h5 h6
    have n0 := HNW.out.c0
    have n1 := HNW.out.c1
    have n2 := HNW.out.c2
    have n3 := HNW.out.c3
    have n4 := HNW.out.c4
    have f0 := HNW.out.fz 0 (by omega)
    have f1 := HNW.out.fz 1 (by omega)
    have f2 := HNW.out.fz 2 (by omega)
    have f3 := HNW.out.fz 3 (by omega)
    have f4 := HNW.out.fz 4 (by omega)
    go_enter Tryz.func28, Tryz.ntmps28
    go_wp2_with fail
    rw [← hW1]
    clear hW1
    go_quiet (fail)
    go_wp2_with fail
    exact word_ret2 wload_r rfl W.heap.size rfl rfl rfl (NW.set (HNW.out.kept ((Kept.refl W1).drewN _)) _ _ _ _ _) ⟨rfl, set5_kept (HK1.out.drewN _) (Nat.le_refl _) _ _ _ _ _⟩
set_option maxHeartbeats 4000000 in
set_option maxRecDepth 100000 in
theorem q_next_yes (hX : QX w0 pr pq ra rc ms ds L) (hS : QS w0 W pr pq ra L.length rc s) {kind : Int} {t : ByteArray} (hn : nx L kind s.1 = some t) :
    Calls Tryz.prog 28 #[.pointer (some ⟨pr, 0, none⟩), .int .i64 kind] W fun e w' => ∃ wx : Wd, e = .returned (.tuple #[.agg #[.int .i64 kind, .string t, .int .i64 wx.p, .int .i64 (rdN t), .slice wx.a wx.m wx.c], .int .i64 0]) ∧ Ss w' wx.a wx.m (rdP t) ∧ wx.m ≤ wx.c ∧ Kept W w' := by
  obtain ⟨i, x⟩ := s
  simp only at hn ⊢
  obtain ⟨hi, ht, hk⟩ := nx_some hn
  have q1 := hS.ws
  have q2 := hS.at_
  simp only at q2
  have q1l := cell_lt q1
  obtain ⟨b, o, wx, rfl, h0, h1, h2, h3, h4, h5, h6⟩ := (hX.wl _ hS.kept).at_ i hi
  rw [ht] at h0 h1 h3 h5
  rw [hk] at h0
  have bl := cell_lt h0
  have HSS := hidMk h5
  have HMC := hidMk h6
  have hil : (i : Int) < (L.length : Int) := by omega
  have hg : decide ((L.length : Int) ≤ (i : Int)) = false := by simp; omega
  have hkn : (kind != kind) = false := by simp
  obtain ⟨W1, hW1⟩ : ∃ W1, W1 = W.alloc (.cells #[.int .i64 0, .string ⟨#[]⟩, .int .i64 0, .int .i64 0, .slice none 0 0] 77) := ⟨_, rfl⟩
  have K1 : Kept W W1 := by rw [hW1]; exact (Kept.refl W).alloc _
  have z1 := K1.cellp q1
  have z2 := K1.cellp q2
  have y0 := K1.cellp h0
  have y1 := K1.cellp h1
  have y2 := K1.cellp h2
  have y3 := K1.cellp h3
  have y4 := K1.cellp h4
  have HNW := hidMk (show NW W1 W.heap.size by rw [hW1]; exact nw_new W _ rfl)
  have HK1 := hidMk K1
  clear hX hS hn h0 h1 h2 h3 h4 h5 h6 q1 q2 hk ht K1
  generalize rdN t = nn at *
  generalize rdP t = pp at *
  have n0 := HNW.out.c0
  have n1 := HNW.out.c1
  have n2 := HNW.out.c2
  have n3 := HNW.out.c3
  have n4 := HNW.out.c4
  have f0 := HNW.out.fz 0 (by omega)
  have f1 := HNW.out.fz 1 (by omega)
  have f2 := HNW.out.fz 2 (by omega)
  have f3 := HNW.out.fz 3 (by omega)
  have f4 := HNW.out.fz 4 (by omega)
  go_enter Tryz.func28, Tryz.ntmps28
  go_wp2_with fail
  rw [← hW1]
  clear hW1
  go_quiet (fail)
  go_wp2_with fail
  go_region
  go_wp2_with fail
  exact word_ret2 wload_r rfl W.heap.size rfl rfl rfl (NW.set (HNW.out.kept (((Kept.refl W1).drewN _).drew)) _ _ _ _ _) ⟨wx, rfl, HSS.out.kept (set5_kept ((HK1.out.drewN _).drew) (Nat.le_refl _) _ _ _ _ _), HMC.out, set5_kept ((HK1.out.drewN _).drew) (Nat.le_refl _) _ _ _ _ _⟩
end
end Go.Proofs.YtpehinmckppjoaaGreatDoor
