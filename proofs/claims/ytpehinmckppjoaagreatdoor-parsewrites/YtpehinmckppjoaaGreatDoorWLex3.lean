/- lex: unnamed, slices.ContainsFunc, read. -/
import Derived.Test.YtpehinmckppjoaaGreatDoorWLex2B
import Derived.Deep.RegionHeld
namespace Go.Proofs.YtpehinmckppjoaaGreatDoor
open Go Go.RowKit Go.Maps
set_option linter.unusedSimpArgs false
set_option linter.unusedVariables false

theorem so {w : World} {p q : Addr} {u v : Value} (h : w.cell? q = some v) (hne : p ≠ q) : (w.setCell p u).cell? q = some v := (World.cell?_setCell_other _ _ _ _ hne).trans h
/-- A word's block, new; a word's block. -/
structure NW (w : World) (b : Nat) : Prop where
  c0 : w.cell? ⟨b, 0, none⟩ = some (.int .i64 0)
  c1 : w.cell? ⟨b, 1, none⟩ = some (.string ⟨#[]⟩)
  c2 : w.cell? ⟨b, 2, none⟩ = some (.int .i64 0)
  c3 : w.cell? ⟨b, 3, none⟩ = some (.int .i64 0)
  c4 : w.cell? ⟨b, 4, none⟩ = some (.slice none 0 0)
  fz : ∀ i, i < 5 → w.frozen? ⟨b, i, none⟩ = false
structure AW (w : World) (b : Nat) (x : Wd) : Prop where
  c0 : w.cell? ⟨b, 0, none⟩ = some (.int .i64 x.k)
  c1 : w.cell? ⟨b, 1, none⟩ = some (.string x.t)
  c2 : w.cell? ⟨b, 2, none⟩ = some (.int .i64 x.p)
  c3 : w.cell? ⟨b, 3, none⟩ = some (.int .i64 x.n)
  c4 : w.cell? ⟨b, 4, none⟩ = some (.slice x.a x.m x.c)
  fz : ∀ i, i < 5 → w.frozen? ⟨b, i, none⟩ = false
section
variable {w w' : World} {b : Nat} {x : Wd} {S : Nat → Prop}
theorem NW.chg (h : NW w b) (k : Chg S w w') (hb : ¬ S b) : NW w' b :=
  ⟨k.cellp h.c0 hb, k.cellp h.c1 hb, k.cellp h.c2 hb, k.cellp h.c3 hb, k.cellp h.c4 hb, fun i hi => (k.frozen (p := ⟨b, i, none⟩) (show b < w.heap.size from cell_lt h.c0) hb).trans (h.fz i hi)⟩
theorem NW.kept (h : NW w b) (k : Kept w w') : NW w' b := h.chg (S := fun _ => False) (Chg.of_kept k) (fun e => e)
theorem AW.chg (h : AW w b x) (k : Chg S w w') (hb : ¬ S b) : AW w' b x :=
  ⟨k.cellp h.c0 hb, k.cellp h.c1 hb, k.cellp h.c2 hb, k.cellp h.c3 hb, k.cellp h.c4 hb, fun i hi => (k.frozen (p := ⟨b, i, none⟩) (show b < w.heap.size from cell_lt h.c0) hb).trans (h.fz i hi)⟩
theorem AW.kept (h : AW w b x) (k : Kept w w') : AW w' b x := h.chg (S := fun _ => False) (Chg.of_kept k) (fun e => e)
theorem nw_new (w : World) (t : TypeId) {g : Nat} (hg : g = w.heap.size) : NW (w.alloc (.cells #[.int .i64 0, .string ⟨#[]⟩, .int .i64 0, .int .i64 0, .slice none 0 0] t)) g := by
  subst hg
  exact ⟨by simp, by simp, by simp, by simp, by simp, fun i hi => by simp⟩
theorem AW.cells (h : AW w b x) : WCells w b x := by
  intro j u hj
  have : j = 0 ∨ j = 1 ∨ j = 2 ∨ j = 3 ∨ j = 4 ∨ 5 ≤ j := by omega
  rcases this with rfl | rfl | rfl | rfl | rfl | h5
  · simp [wdF] at hj; subst hj; exact h.c0
  · simp [wdF] at hj; subst hj; exact h.c1
  · simp [wdF] at hj; subst hj; exact h.c2
  · simp [wdF] at hj; subst hj; exact h.c3
  · simp [wdF] at hj; subst hj; exact h.c4
  · rw [List.getElem?_eq_none (by simpa [wdF] using h5)] at hj; cases hj
end
theorem NW.set {w : World} {b : Nat} (h : NW w b) (v0 v1 v2 v3 v4 : Value) : let W := ((((w.setCell ⟨b, 0, none⟩ v0).setCell ⟨b, 1, none⟩ v1).setCell ⟨b, 2, none⟩ v2).setCell ⟨b, 3, none⟩ v3).setCell ⟨b, 4, none⟩ v4; W.cell? ⟨b, 0, none⟩ = some v0 ∧ W.cell? ⟨b, 1, none⟩ = some v1 ∧ W.cell? ⟨b, 2, none⟩ = some v2 ∧ W.cell? ⟨b, 3, none⟩ = some v3 ∧ W.cell? ⟨b, 4, none⟩ = some v4 := by
  refine ⟨?_, ?_, ?_, ?_, ?_⟩
  · exact (so (so (so (so (World.cell?_setCell_same _ _ _ h.c0) (by simp)) (by simp)) (by simp)) (by simp))
  · exact (so (so (so (World.cell?_setCell_same _ _ _ (so h.c1 (by simp))) (by simp)) (by simp)) (by simp))
  · exact (so (so (World.cell?_setCell_same _ _ _ (so (so h.c2 (by simp)) (by simp))) (by simp)) (by simp))
  · exact (so (World.cell?_setCell_same _ _ _ (so (so (so h.c3 (by simp)) (by simp)) (by simp))) (by simp))
  · exact World.cell?_setCell_same _ _ _ (so (so (so (so h.c4 (by simp)) (by simp)) (by simp)) (by simp))
theorem set5_kept {w W : World} {b : Nat} (k : Kept w W) (hb : w.heap.size ≤ b) (v0 v1 v2 v3 v4 : Value) : Kept w (((((W.setCell ⟨b, 0, none⟩ v0).setCell ⟨b, 1, none⟩ v1).setCell ⟨b, 2, none⟩ v2).setCell ⟨b, 3, none⟩ v3).setCell ⟨b, 4, none⟩ v4) :=
  ((((k.setCell (p := ⟨b, 0, none⟩) hb _).setCell (p := ⟨b, 1, none⟩) hb _).setCell (p := ⟨b, 2, none⟩) hb _).setCell (p := ⟨b, 3, none⟩) hb _).setCell (p := ⟨b, 4, none⟩) hb _
theorem set5_chg (W : World) (b : Nat) (v0 v1 v2 v3 v4 : Value) : Chg (fun j => j = b) W (((((W.setCell ⟨b, 0, none⟩ v0).setCell ⟨b, 1, none⟩ v1).setCell ⟨b, 2, none⟩ v2).setCell ⟨b, 3, none⟩ v3).setCell ⟨b, 4, none⟩ v4) :=
  (((((Chg.refl (fun j => j = b) W).setCell (p := ⟨b, 0, none⟩) (.inl rfl) _).setCell (p := ⟨b, 1, none⟩) (.inl rfl) _).setCell (p := ⟨b, 2, none⟩) (.inl rfl) _).setCell (p := ⟨b, 3, none⟩) (.inl rfl) _).setCell (p := ⟨b, 4, none⟩) (.inl rfl) _
/-- A type of words, as it is loaded. -/
def WLoad (e : TypeId) : Prop := ∀ (w : World) (g o : Nat) (v0 v1 v2 v3 v4 : Value), w.cell? ⟨g, o, none⟩ = some v0 → w.cell? ⟨g, o + 1, none⟩ = some v1 → w.cell? ⟨g, o + 2, none⟩ = some v2 → w.cell? ⟨g, o + 3, none⟩ = some v3 → w.cell? ⟨g, o + 4, none⟩ = some v4 → (loadVar e ⟨g, o, none⟩).run Tryz.prog w = .ok (.agg #[v0, v1, v2, v3, v4]) w
theorem wload_of {e : TypeId} (ha : ∀ w, (isAgg e).run Tryz.prog w = .ok true w) (hi : (Tryz.prog.info? e).map (·.size) = some 5) : WLoad e := by
  intro w g o v0 v1 v2 v3 v4 c0 c1 c2 c3 c4
  have hl := run_loadCells_list (P := Tryz.prog) w ⟨g, o, none⟩ [v0, v1, v2, v3, v4] (fun j u hu => by
    rw [Addr.add_lit]
    have hj : j < 5 := by
      have := (List.getElem?_eq_some_iff.1 hu).1
      simpa using this
    have : j = 0 ∨ j = 1 ∨ j = 2 ∨ j = 3 ∨ j = 4 := by omega
    rcases this with rfl | rfl | rfl | rfl | rfl <;> simp_all)
  obtain ⟨i, h1, h2⟩ := Option.map_eq_some_iff.1 hi
  simp only [List.length_cons, List.length_nil, Nat.reduceAdd] at hl
  simp [loadVar, Sem.run_bind, ha, sizeOf, typeInfo, h1, h2, hl]
theorem wload_l : WLoad 112 := wload_of Tryz.isAgg112 (by kernel_rfl)
theorem wload_r : WLoad 77 := wload_of Tryz.isAgg77 (by kernel_rfl)
theorem results_cell1 {P : Program} {fn : Func} {p : Tmp} {ty : TypeId} (h : fn.results = #[.cell p ty]) (tmps : Array Value) (w : World) (g : Nat) (v : Value)
    (hp : tmps.getD p undef = .pointer (some ⟨g, 0, none⟩)) (hg : (loadVar ty ⟨g, 0, none⟩).run P w = .ok v w) : (results fn tmps).run P w = .ok v w := by
  have hp' : tmps[p]?.getD undef = .pointer (some ⟨g, 0, none⟩) := by simpa using hp
  simp [results, h, hp', asAddr, hg]
/-- A word as a result that lies in its block. -/
theorem word_ret {e : TypeId} (hl : WLoad e) {R : Ending → World → Prop} {fn : Func} {p : Tmp} (hfn : fn.results = #[.cell p e]) {a : Act} {w : World} (g : Nat) {v0 v1 v2 v3 v4 : Value} (hp : a.tmps.getD p undef = .pointer (some ⟨g, 0, none⟩)) (hd : a.defers = [])
    (hc : w.cell? ⟨g, 0, none⟩ = some v0 ∧ w.cell? ⟨g, 1, none⟩ = some v1 ∧ w.cell? ⟨g, 2, none⟩ = some v2 ∧ w.cell? ⟨g, 3, none⟩ = some v3 ∧ w.cell? ⟨g, 4, none⟩ = some v4) (h : R (.returned (.agg #[v0, v1, v2, v3, v4])) w) : bodyPost Tryz.prog fn R .ret a w :=
  bodyPost_ret (results_cell1 hfn _ _ g _ hp (hl w g 0 _ _ _ _ _ hc.1 hc.2.1 hc.2.2.1 hc.2.2.2.1 hc.2.2.2.2)) hd h

/-- What reading a word tells. -/
def rdE (s : ByteArray) : Int := if isNum s then 0 else 6
theorem isNum_no {s : ByteArray} (h : ¬ isNum s) : ∀ v, isI v → numS v ≠ s := by
  intro v hv e
  apply h
  have h1 := refV_num v hv
  have h2 := numS_size v hv
  rw [e] at h1 h2
  exact ⟨by rw [h1, e], h2⟩
theorem text_ReadB (s : ByteArray) (hs : s.size ≤ 140737488355328) (w : World) (hV : Vars w) : Calls Tryz.prog 76 #[.string s] w fun e w' => e = .returned (.tuple #[.int .i64 (rdN s), .int .i64 (rdE s)]) ∧ Kept w w' := by
  unfold rdN rdE
  by_cases h : isNum s
  · rw [if_pos h, if_pos h]
    have := text_Read_ok (refV s) (refV_is s) w
    rw [h.1] at this
    exact this
  · rw [if_neg h, if_neg h]
    exact text_Read_no s hs (isNum_no h) w hV
theorem ref_ReadB (s : ByteArray) (hs : s.size ≤ 9223372036854775806) (w : World) : Calls Tryz.prog 60 #[.string s] w fun e w' => e = .returned (.tuple #[.int .i64 (rdN s), .int .i64 (rdE s)]) ∧ w' = w := ref_Read s hs w

theorem lex_unnamed (s : ByteArray) (hs : s.size ≤ 9223372036854775806) (w : World) : Calls Tryz.prog 79 #[.string s] w fun e w' => e = .returned (.bool (!nameB s)) ∧ w' = w := by
  have H := hidMk (text_NameW s hs)
  generalize nameB s = z at *
  go_enter Tryz.func79, Tryz.ntmps79
  go_wp2_with (go_at_call 63; refine (H.out _).mono ?_; rintro e w1 ⟨rfl, rfl⟩)
  go_ret
  exact ⟨rfl, rfl⟩
def nmB (l : List ByteArray) : Bool := l.all nameB
theorem all_upto {l : List ByteArray} (h : ∀ j, j < l.length → nameB (l.getD j ByteArray.empty) = true) : nmB l = true := by
  unfold nmB
  rw [List.all_eq_true]
  intro x hx
  obtain ⟨j, hj, rfl⟩ := List.getElem_of_mem hx
  have := h j hj
  rwa [List.getD_eq_getElem?_getD, List.getElem?_eq_getElem hj] at this
theorem all_not {l : List ByteArray} {k : Nat} (hk : k < l.length) (h : nameB (l.getD k ByteArray.empty) = false) : nmB l = false := by
  unfold nmB
  rw [List.all_eq_false]
  refine ⟨l[k], List.getElem_mem hk, ?_⟩
  rw [List.getD_eq_getElem?_getD, List.getElem?_eq_getElem hk] at h
  simpa using h
theorem getD_size {l : List ByteArray} {k : Nat} (hb : ∀ x ∈ l, x.size ≤ 1000000) : (l.getD k ByteArray.empty).size ≤ 1000000 := by
  by_cases h : k < l.length
  · rw [List.getD_eq_getElem?_getD, List.getElem?_eq_getElem h]
    exact hb _ (List.getElem_mem h)
  · rw [List.getD_eq_getElem?_getD, List.getElem?_eq_none (by omega)]
    exact Nat.zero_le _
set_option maxHeartbeats 400000 in
theorem ix_unnamed (a : Option Addr) (n c : Nat) (l : List ByteArray) (w : World) (hs : Ss w a n l) (hb : ∀ x ∈ l, x.size ≤ 1000000) :
    Calls Tryz.prog 107 #[.slice a n c, .func (.func 79) #[] #[]] w fun e w' => (∃ x : Int, e = .returned (.int .i64 x) ∧ (0 ≤ x ↔ nmB l = false)) ∧ w' = w := by
  have H := hidMk hs
  have hbig := hs.big
  have hlen := hs.len
  have HB := hidMk (fun k => getD_size (k := k) hb)
  unfold maxLen at hbig
  clear hs hb
  go_enter Tryz.func107, Tryz.ntmps107
  go_wp2
  go_loopw [5, 8] (fun _ i wr => ∃ k : Nat, k ≤ n ∧ i = .int .i64 k ∧ wr = w ∧ Hid (∀ j, j < k → nameB (l.getD j ByteArray.empty) = true)) (fun _ i _ => n - (intOf i).toNat)
  case atStart => exact ⟨0, Nat.zero_le _, rfl, rfl, hidMk fun j hj => absurd hj (by omega)⟩
  case round =>
    obtain ⟨k, hk, rfl, rfl, HJ⟩ := hrel
    by_cases hkn : k < n
    · obtain ⟨b, o, rfl, hbb, hcs⟩ := H.out.cells (by omega)
      have hcell := hcs k hkn
      clear hcs
      have hc := lex_unnamed (l.getD k ByteArray.empty) (by have := HB.out k; omega)
      have hkn' : (k : Int) < (n : Int) := by omega
      generalize hx : l.getD k ByteArray.empty = x at hcell hc
      have H1 := hidMk hx
      clear hx
      cases h0 : nameB x with
      | true =>
        rw [h0] at hc
        have H0 := hidMk h0
        clear h0
        go_wp2_with (go_at_call 79; refine (hc _).mono ?_; rintro e w1 ⟨rfl, rfl⟩)
        go_round
        case measure => simp [intOf]; omega
        case rel => exact ⟨k + 1, by omega, by go_num, trivial, hidMk fun j hj => by
          by_cases e : j = k
          · subst e; rw [H1.out]; exact H0.out
          · exact HJ.out j (by omega)⟩
      | false =>
        rw [h0] at hc
        have H0 := hidMk h0
        clear h0
        go_wp2_with (go_at_call 79; refine (hc _).mono ?_; rintro e w1 ⟨rfl, rfl⟩)
        go_ret
        exact ⟨⟨k, rfl, ⟨fun _ => all_not (k := k) (by omega) (by rw [H1.out]; exact H0.out), fun _ => by omega⟩⟩, rfl⟩
    · have hkk : ¬ ((k : Int) < (n : Int)) := by omega
      go_wp2
      go_ret
      exact ⟨⟨-1, rfl, ⟨fun h => by omega, fun h => by rw [all_upto (fun j hj => HJ.out j (by omega))] at h; cases h⟩⟩, rfl⟩
theorem has_unnamed (a : Option Addr) (n c : Nat) (l : List ByteArray) (w : World) (hs : Ss w a n l) (hb : ∀ x ∈ l, x.size ≤ 1000000) :
    Calls Tryz.prog 78 #[.slice a n c, .func (.func 79) #[] #[]] w fun e w' => e = .returned (.bool (!nmB l)) ∧ w' = w := by
  have HI := hidMk (ix_unnamed a n c l w hs hb)
  clear hs hb
  generalize nmB l = z at *
  cases z with
  | true =>
    go_enter Tryz.func78, Tryz.ntmps78
    go_wp2_with (go_at_call 107; refine HI.out.mono ?_; rintro e w1 ⟨⟨x, rfl, hx⟩, rfl⟩; have hx2 : x < 0 := Int.not_le.1 (fun h => by have := hx.1 h; cases this); clear hx)
    go_ret
    exact ⟨by first | rfl | (congr 2; done) | (congr 2; simp; done) | (congr 2; simp; omega), rfl⟩
  | false =>
    go_enter Tryz.func78, Tryz.ntmps78
    go_wp2_with (go_at_call 107; refine HI.out.mono ?_; rintro e w1 ⟨⟨x, rfl, hx⟩, rfl⟩; have hx2 : 0 ≤ x := hx.2 rfl; clear hx)
    go_ret
    exact ⟨by first | rfl | (congr 2; done) | (congr 2; simp; done) | (congr 2; simp; omega), rfl⟩
/-- What reading a word makes. -/
def ReadP (s : ByteArray) (p : Int) (w : World) (e : Ending) (w' : World) : Prop := ∃ x : Wd, e = .returned (wdV x) ∧ cor x = (rdK s, s, p, rdN s, rdP s) ∧ Ss w' x.a x.m x.ps ∧ (0 < x.m → ∀ ad, x.a = some ad → w.heap.size ≤ ad.block) ∧ Kept w w'
set_option maxHeartbeats 1000000 in
set_option maxRecDepth 100000 in
theorem lex_read (s : ByteArray) (hs : s.size ≤ 100000) (w : World) (hV : Vars w) : Calls Tryz.prog 46 #[.string s] w (ReadP s 0 w) := by
  obtain ⟨W1, hW1⟩ : ∃ V, V = w.alloc (.cells #[.int .i64 0, .string ⟨#[]⟩, .int .i64 0, .int .i64 0, .slice none 0 0] 112) := ⟨_, rfl⟩
  have k1 : Kept w W1 := by rw [hW1]; exact (Kept.refl w).alloc _
  have HK1 := hidMk k1
  have HNW := hidMk (show NW W1 w.heap.size by rw [hW1]; exact nw_new w _ rfl)
  have HR := hidMk (text_ReadB s (by omega) W1 (hV.kept k1))
  have HN := hidMk (text_NameW s (by omega))
  have HV := hidMk (hV.kept k1)
  clear hV k1
  by_cases h1 : isNum s
  · have HE := hidMk (show rdK s = 2 ∧ rdE s = 0 ∧ rdP s = [] by unfold rdK rdE rdP; rw [if_pos h1, if_pos h1, if_pos h1]; exact ⟨rfl, rfl, rfl⟩)
    rw [HE.out.2.1] at HR
    obtain ⟨z, hz⟩ : ∃ z, rdN s = z := ⟨_, rfl⟩
    have HZ := hidMk hz
    rw [hz] at HR
    clear h1 hz
    go_enter Tryz.func46, Tryz.ntmps46
    go_wp2_with fail
    rw [← hW1]
    refine HR.out.mono ?_
    rintro e w2 ⟨rfl, k2⟩
    have K2 := hidMk k2
    have N2 := hidMk (HNW.out.kept k2)
    clear k2
    obtain ⟨c0, c1, c2, c3, c4, fz⟩ := N2.out
    have f0 := fz 0 (by omega)
    have f1 := fz 1 (by omega)
    have f2 := fz 2 (by omega)
    have f3 := fz 3 (by omega)
    have f4 := fz 4 (by omega)
    clear fz
    go_wp2_with fail
    refine word_ret wload_l rfl w.heap.size rfl rfl (N2.out.set _ _ _ _ _) ?_
    refine ⟨⟨2, s, 0, z, none, 0, 0, [], by omega⟩, rfl, ?_, ss_nil _ _, fun h => absurd h (by simp), set5_kept (HK1.out.trans K2.out) (Nat.le_refl _) _ _ _ _ _⟩
    unfold cor; rw [HE.out.1, HZ.out, HE.out.2.2]
  have HRE := hidMk (show rdN s = 0 ∧ rdE s = 6 by unfold rdN rdE; rw [if_neg h1, if_neg h1]; exact ⟨rfl, rfl⟩)
  rw [HRE.out.1, HRE.out.2] at HR
  by_cases h2 : nameB s = true
  · have HE := hidMk (show rdK s = 1 ∧ rdP s = [] by unfold rdK rdP; rw [if_neg h1, if_neg h1, if_pos h2, if_pos h2]; exact ⟨rfl, rfl⟩)
    rw [h2] at HN
    clear h1 h2
    go_enter Tryz.func46, Tryz.ntmps46
    go_wp2_with fail
    rw [← hW1]
    refine HR.out.mono ?_
    rintro e w2 ⟨rfl, k2⟩
    have K2 := hidMk k2
    have N2 := hidMk (HNW.out.kept k2)
    clear k2
    go_wp2_with fail
    refine (HN.out _).mono ?_
    rintro e w3 ⟨rfl, rfl⟩
    obtain ⟨c0, c1, c2, c3, c4, fz⟩ := N2.out
    have f0 := fz 0 (by omega)
    have f1 := fz 1 (by omega)
    have f2 := fz 2 (by omega)
    have f3 := fz 3 (by omega)
    have f4 := fz 4 (by omega)
    clear fz
    go_wp2_with fail
    refine word_ret wload_l rfl w.heap.size rfl rfl (N2.out.set _ _ _ _ _) ?_
    refine ⟨⟨1, s, 0, 0, none, 0, 0, [], by omega⟩, rfl, ?_, ss_nil _ _, fun h => absurd h (by simp), set5_kept (HK1.out.trans K2.out) (Nat.le_refl _) _ _ _ _ _⟩
    unfold cor; rw [HE.out.1, HRE.out.1, HE.out.2]
  have HN0 : nameB s = false := by simpa using h2
  rw [HN0] at HN
  have HPS := hidMk (show ∀ W : World, Ss (W.alloc (.cells ((slP s).map Value.string).toArray 9)) (some ⟨W.heap.size, 0, none⟩) (slP s).length (slP s) from fun W => ss_new W (slP s) _ (by have := slP_le s; unfold maxLen; omega))
  have HSP := hidMk (show ∀ W : World, Vars W → Calls Tryz.prog 77 #[.string s, .string ⟨#[47]⟩] W fun e w' => e = .returned (.slice (some ⟨W.heap.size, 0, none⟩) (slP s).length (slP s).length) ∧ w' = W.alloc (.cells ((slP s).map Value.string).toArray 9) from fun W hW => by
    obtain ⟨_, _, m, hm⟩ := hW
    have := Tryz.strings_Split s slB m W (by omega) hm (by decide)
    rw [← slP_len] at this
    exact this)
  have HCF := hidMk (show ∀ (W : World) (a : Option Addr) (c : Nat), Ss W a (slP s).length (slP s) → _ from fun W a c h => has_unnamed a (slP s).length c (slP s) W h (fun x hx => by have := slP_size s x hx; omega))
  have HK : Hid (rdK s = if (decide (1 < (slP s).length) && nmB (slP s)) = true then 3 else 0) := hidMk (by unfold rdK; rw [if_neg h1, if_neg h2]; rfl)
  have HP : Hid (rdP s = if (decide (1 < (slP s).length) && nmB (slP s)) = true then slP s else []) := hidMk (by unfold rdP; rw [if_neg h1, if_neg h2]; rfl)
  have HL := hidMk (slP_le s)
  clear h1 h2 HN0
  generalize slP s = ps at *
  obtain ⟨n, hn⟩ : ∃ n, ps.length = n := ⟨_, rfl⟩
  rw [hn] at HPS HSP HCF HK HP HL
  have HNL := hidMk hn
  clear hn
  have hn0 : n ≤ 100001 := by have := HL.out; omega
  by_cases h3 : 1 < n
  · have h3' : (1 : Int) < (n : Int) := by omega
    rw [decide_eq_true h3, Bool.true_and] at HK HP
    cases h4 : nmB ps with
    | true =>
      rw [h4] at HCF HK HP
      clear h4
      go_enter Tryz.func46, Tryz.ntmps46
      go_wp2_with fail
      rw [← hW1]
      refine HR.out.mono ?_
      rintro e w2 ⟨rfl, k2⟩
      have K2 := hidMk k2
      have N2 := hidMk (HNW.out.kept k2)
      have HV2 := hidMk (HV.out.kept k2)
      clear k2
      go_wp2_with fail
      refine (HN.out _).mono ?_
      rintro e w3 ⟨rfl, rfl⟩
      go_wp2_with fail
      refine (HSP.out _ HV2.out).mono ?_
      rintro e w4 ⟨rfl, hw4⟩
      have SP := hidMk (HPS.out w3)
      have K4 := hidMk (show Kept w3 w4 by rw [hw4]; exact (Kept.refl _).alloc _)
      rw [← hw4] at SP
      have N4 := hidMk (N2.out.kept K4.out)
      clear hw4
      obtain ⟨g, hg⟩ : ∃ g, g = w3.heap.size := ⟨_, rfl⟩
      have HG := hidMk hg
      rw [← hg] at SP ⊢
      clear hg
      go_wp2_with fail
      refine (HCF.out _ _ _ SP.out).mono ?_
      rintro e w5 ⟨rfl, rfl⟩
      obtain ⟨c0, c1, c2, c3, c4, fz⟩ := N4.out
      have f0 := fz 0 (by omega)
      have f1 := fz 1 (by omega)
      have f2 := fz 2 (by omega)
      have f3 := fz 3 (by omega)
      have f4 := fz 4 (by omega)
      clear fz
      go_wp2_with fail
      refine word_ret wload_l rfl w.heap.size rfl rfl (N4.out.set _ _ _ _ _) ?_
      have hsz : W1.heap.size = w.heap.size + 1 := by rw [hW1]; simp
      have hgl : w.heap.size + 1 ≤ g := by have h1 := K2.out.size; have h2 := HG.out; omega
      refine ⟨⟨3, s, 0, 0, some ⟨g, 0, none⟩, n, n, ps, Nat.le_refl _⟩, rfl, ?_, ?_, ?_, set5_kept ((HK1.out.trans K2.out).trans K4.out) (Nat.le_refl _) _ _ _ _ _⟩
      · unfold cor; rw [HK.out, HP.out, HRE.out.1, if_pos trivial, if_pos trivial]
      · exact SP.out.chg (set5_chg _ w.heap.size _ _ _ _ _) (fun _ ad e => by cases e; show ¬ g = w.heap.size; omega)
      · intro _ ad e; cases e; show w.heap.size ≤ g; omega
    | false =>
      rw [h4] at HCF HK HP
      clear h4
      go_enter Tryz.func46, Tryz.ntmps46
      go_wp2_with fail
      rw [← hW1]
      refine HR.out.mono ?_
      rintro e w2 ⟨rfl, k2⟩
      have K2 := hidMk k2
      have N2 := hidMk (HNW.out.kept k2)
      have HV2 := hidMk (HV.out.kept k2)
      clear k2
      go_wp2_with fail
      refine (HN.out _).mono ?_
      rintro e w3 ⟨rfl, rfl⟩
      go_wp2_with fail
      refine (HSP.out _ HV2.out).mono ?_
      rintro e w4 ⟨rfl, hw4⟩
      have SP := hidMk (HPS.out w3)
      have K4 := hidMk (show Kept w3 w4 by rw [hw4]; exact (Kept.refl _).alloc _)
      rw [← hw4] at SP
      have N4 := hidMk (N2.out.kept K4.out)
      clear hw4
      obtain ⟨g, hg⟩ : ∃ g, g = w3.heap.size := ⟨_, rfl⟩
      rw [← hg] at SP ⊢
      clear hg
      go_wp2_with fail
      refine (HCF.out _ _ _ SP.out).mono ?_
      rintro e w5 ⟨rfl, rfl⟩
      obtain ⟨c0, c1, c2, c3, c4, fz⟩ := N4.out
      have f0 := fz 0 (by omega)
      have f1 := fz 1 (by omega)
      have f2 := fz 2 (by omega)
      have f3 := fz 3 (by omega)
      have f4 := fz 4 (by omega)
      clear fz
      go_wp2_with fail
      refine word_ret wload_l rfl w.heap.size rfl rfl (N4.out.set _ _ _ _ _) ?_
      refine ⟨⟨0, s, 0, 0, none, 0, 0, [], by omega⟩, rfl, ?_, ss_nil _ _, fun h => absurd h (by simp), set5_kept ((HK1.out.trans K2.out).trans K4.out) (Nat.le_refl _) _ _ _ _ _⟩
      unfold cor; rw [HK.out, HP.out, HRE.out.1, if_neg (by simp), if_neg (by simp)]
  · have h3' : (n : Int) ≤ 1 := by omega
    rw [decide_eq_false h3, Bool.false_and] at HK HP
    go_enter Tryz.func46, Tryz.ntmps46
    go_wp2_with fail
    rw [← hW1]
    refine HR.out.mono ?_
    rintro e w2 ⟨rfl, k2⟩
    have K2 := hidMk k2
    have N2 := hidMk (HNW.out.kept k2)
    have HV2 := hidMk (HV.out.kept k2)
    clear k2
    go_wp2_with fail
    refine (HN.out _).mono ?_
    rintro e w3 ⟨rfl, rfl⟩
    go_wp2_with fail
    refine (HSP.out _ HV2.out).mono ?_
    rintro e w4 ⟨rfl, hw4⟩
    have K4 := hidMk (show Kept w3 w4 by rw [hw4]; exact (Kept.refl _).alloc _)
    have N4 := hidMk (N2.out.kept K4.out)
    clear hw4
    obtain ⟨c0, c1, c2, c3, c4, fz⟩ := N4.out
    have f0 := fz 0 (by omega)
    have f1 := fz 1 (by omega)
    have f2 := fz 2 (by omega)
    have f3 := fz 3 (by omega)
    have f4 := fz 4 (by omega)
    clear fz
    go_wp2_with fail
    refine word_ret wload_l rfl w.heap.size rfl rfl (N4.out.set _ _ _ _ _) ?_
    refine ⟨⟨0, s, 0, 0, none, 0, 0, [], by omega⟩, rfl, ?_, ss_nil _ _, fun h => absurd h (by simp), set5_kept ((HK1.out.trans K2.out).trans K4.out) (Nat.le_refl _) _ _ _ _ _⟩
    unfold cor; rw [HK.out, HP.out, HRE.out.1, if_neg (by simp), if_neg (by simp)]
end Go.Proofs.YtpehinmckppjoaaGreatDoor
