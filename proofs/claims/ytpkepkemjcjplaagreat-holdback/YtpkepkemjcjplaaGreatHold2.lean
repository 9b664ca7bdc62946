/- slices.Index, Contains, Clone, Equal of []api.Cell; hold: Has, List, Same, ask. -/
import Derived.Test.YtpkepkemjcjplaaGreatHold1
namespace Go.Proofs.YtpkepkemjcjplaaGreat
open Go.RowKit Go.Maps
set_option linter.unusedSimpArgs false
set_option linter.unusedVariables false

/-- Where a cell stands; -1: nowhere. -/
def idxC (l : List Cl) (x : Cl) : Int := if x ∈ l then ((l.findIdx fun y => decide (y = x) : Nat) : Int) else -1
theorem idxC_at {l : List Cl} {x : Cl} {k : Nat} (hk : k < l.length) (he : clA l k = x) (hj : ∀ t, t < k → clA l t ≠ x) : idxC l x = k := by
  unfold idxC
  rw [clA_get hk] at he
  rw [if_pos (by rw [← he]; exact List.getElem_mem hk)]
  congr 1
  rw [List.findIdx_eq hk]
  refine ⟨by simpa using he, fun t ht => ?_⟩
  have := hj t ht
  rw [clA_get (by omega)] at this
  simpa using this
theorem idxC_no {l : List Cl} {x : Cl} (hj : ∀ t, t < l.length → clA l t ≠ x) : idxC l x = -1 := by
  unfold idxC
  rw [if_neg]
  intro h
  obtain ⟨t, ht, e⟩ := List.getElem_of_mem h
  exact hj t ht (by rw [clA_get ht]; exact e)
theorem idxC_mem {l : List Cl} {x : Cl} : 0 ≤ idxC l x ↔ x ∈ l := by
  unfold idxC
  by_cases h : x ∈ l
  · rw [if_pos h]; exact ⟨fun _ => h, fun _ => by omega⟩
  · rw [if_neg h]; exact ⟨fun e => absurd e (by omega), fun e => absurd e h⟩
theorem boxC_at (w : World) (x : Cl) (t : TypeId) {g : Nat} (hg : g = w.heap.size) (Y : World) (k : Kept (w.alloc (.cells #[.int .i64 x.1, .int .i64 x.2.1, .int .i64 x.2.2.1, .int .i64 x.2.2.2.1, .int .i64 x.2.2.2.2] t)) Y) : Y.cell? ⟨g, 0, none⟩ = some (.int .i64 x.1) ∧ Y.cell? ⟨g, 1, none⟩ = some (.int .i64 x.2.1) ∧ Y.cell? ⟨g, 2, none⟩ = some (.int .i64 x.2.2.1) ∧ Y.cell? ⟨g, 3, none⟩ = some (.int .i64 x.2.2.2.1) ∧ Y.cell? ⟨g, 4, none⟩ = some (.int .i64 x.2.2.2.2) :=
  ⟨k.cellp (new_cell _ _ _ _ 0 _ hg rfl), k.cellp (new_cell _ _ _ _ 1 _ hg rfl), k.cellp (new_cell _ _ _ _ 2 _ hg rfl), k.cellp (new_cell _ _ _ _ 3 _ hg rfl), k.cellp (new_cell _ _ _ _ 4 _ hg rfl)⟩
set_option maxHeartbeats 2000000 in
set_option maxRecDepth 100000 in
theorem slices_IndexC (a : Option Addr) (c : Nat) (l : List Cl) (x : Cl) (w : World) (hs : Cq w a l) (hl : l.length ≤ 100000) : Calls Tryz.prog 32 #[.slice a l.length c, clV x] w fun e w' => e = .returned (.int .i64 (idxC l x)) ∧ Kept w w' := by
  obtain ⟨cb, hcb⟩ : ∃ x, x = w.heap.size := ⟨_, rfl⟩
  obtain ⟨W1, hW1⟩ : ∃ V, V = w.alloc (.cells #[.int .i64 x.1, .int .i64 x.2.1, .int .i64 x.2.2.1, .int .i64 x.2.2.2.1, .int .i64 x.2.2.2.2] 29) := ⟨_, rfl⟩
  have k1 : Kept w W1 := by rw [hW1]; exact (Kept.refl w).alloc _
  have HK1 := hidMk k1
  have HB := hidMk (show ∀ Y, Kept W1 Y → _ from fun Y k => boxC_at w x 29 hcb Y (by rw [← hW1]; exact k))
  have HL := hidMk (hs.kept k1)
  obtain ⟨z, hz⟩ : ∃ z, idxC l x = z := ⟨_, rfl⟩
  rw [hz]
  have HZ := hidMk hz
  clear hs k1 hz
  unfold clV
  go_enter Tryz.func32, Tryz.ntmps32
  go_wp2_with fail
  rw [← hW1, ← hcb]
  clear hW1 hcb
  go_loopg [8] (l.length + 1) (fun g i wr => ∃ k : Nat, k + g = l.length + 1 ∧ k ≤ l.length ∧ i = .int .i64 k ∧ Hid (Kept W1 wr ∧ ∀ t, t < k → clA l t ≠ x))
  case atStart => exact ⟨0, by omega, by omega, rfl, hidMk ⟨Kept.refl _, fun t ht => absurd ht (by omega)⟩⟩
  case round =>
    obtain ⟨k, hkg, hkl, rfl, HS⟩ := hrel
    have HKG := hidMk hkg
    clear hkg
    by_cases hk : k < l.length
    · have hk' : (k : Int) < (l.length : Int) := by omega
      obtain ⟨b, o, rfl⟩ := HL.out.form (by omega)
      obtain ⟨e0, e1, e2, e3, e4⟩ := (HL.out.kept HS.out.1).at hk
      obtain ⟨x0, x1, x2, x3, x4⟩ := HB.out wr HS.out.1
      have hq := eqlC x (clA l k)
      unfold clV at hq
      by_cases he : clA l k = x
      · have HF := hidMk (show z = (k : Int) from by rw [← HZ.out]; exact idxC_at hk he HS.out.2)
        rw [show decide (x = clA l k) = true from decide_eq_true he.symm] at hq
        clear he
        generalize clA l k = y at *
        go_wp2_with fail
        go_quiet (fail)
        go_wp2_with fail
        go_ret
        exact ⟨by rw [HF.out]; rfl, HK1.out.trans (HS.out.1.drewN _)⟩
      · have HJ := hidMk (show ∀ t, t < k + 1 → clA l t ≠ x from fun t ht => by
          by_cases e : t = k
          · subst e; exact he
          · exact HS.out.2 t (by omega))
        rw [show decide (x = clA l k) = false from decide_eq_false (fun e => he e.symm)] at hq
        clear he
        have HK := hidMk HS.out.1
        clear HS
        generalize clA l k = y at *
        go_wp2_with fail
        go_quiet (fail)
        go_wp2_with fail
        go_roundg (gk - 1)
        case measure => have := HKG.out; omega
        case rel => exact ⟨k + 1, by have := HKG.out; omega, by omega, by go_num, hidMk ⟨HK.out.drewN _, HJ.out⟩⟩
    · have hke : k = l.length := by omega
      have HF := hidMk (show z = -1 from by rw [← HZ.out]; exact idxC_no (fun t ht => HS.out.2 t (by omega)))
      have hk' : ¬ ((k : Int) < (l.length : Int)) := by omega
      go_wp2_with fail
      go_ret
      exact ⟨by rw [HF.out]; rfl, HK1.out.trans HS.out.1⟩
set_option maxHeartbeats 1000000 in
theorem slices_ContainsC (a : Option Addr) (c : Nat) (l : List Cl) (x : Cl) (w : World) (hs : Cq w a l) (hl : l.length ≤ 100000) : Calls Tryz.prog 41 #[.slice a l.length c, clV x] w fun e w' => e = .returned (.bool (decide (x ∈ l))) ∧ Kept w w' := by
  obtain ⟨W1, hW1⟩ : ∃ V, V = w.alloc (.cells #[.int .i64 x.1, .int .i64 x.2.1, .int .i64 x.2.2.1, .int .i64 x.2.2.2.1, .int .i64 x.2.2.2.2] 29) := ⟨_, rfl⟩
  have k1 : Kept w W1 := by rw [hW1]; exact (Kept.refl w).alloc _
  have HK1 := hidMk k1
  obtain ⟨x0, x1, x2, x3, x4⟩ := boxC_at w x 29 rfl _ (Kept.refl _)
  have HI := hidMk (slices_IndexC a c l x W1 (hs.kept k1) hl)
  obtain ⟨z, hz⟩ : ∃ z, idxC l x = z := ⟨_, rfl⟩
  rw [hz] at HI
  have hd : decide (x ∈ l) = decide (0 ≤ z) := by rw [decide_eq_decide, ← hz]; exact idxC_mem.symm
  rw [hd]
  clear hs k1 hz hd
  unfold clV at *
  go_enter Tryz.func41, Tryz.ntmps41
  go_wp2_with fail
  rw [← hW1]
  clear hW1 x0 x1 x2 x3 x4
  refine HI.out.mono ?_
  rintro e w2 ⟨rfl, k2⟩
  have HK2 := hidMk k2
  clear k2
  by_cases h0 : 0 ≤ z
  · have h0' : decide (0 ≤ z) = true := decide_eq_true h0
    go_wp2_with fail
    go_ret
    exact ⟨by simp [h0], HK1.out.trans HK2.out⟩
  · have h0' : z < 0 := by omega
    go_wp2_with fail
    go_ret
    exact ⟨by simp [h0], HK1.out.trans HK2.out⟩
/-- What is held, in memory. -/
def hdV (a : Option Addr) (n c : Nat) : Value := .agg #[.slice a n c]
set_option maxHeartbeats 1000000 in
theorem hold_Has (a : Option Addr) (c : Nat) (l : List Cl) (x : Cl) (w : World) (hs : Cq w a l) (hl : l.length ≤ 100000) : Calls Tryz.prog 15 #[hdV a l.length c, clV x] w fun e w' => e = .returned (.bool (decide (x ∈ l))) ∧ Kept w w' := by
  obtain ⟨W1, hW1⟩ : ∃ V, V = (w.alloc (.cells #[.slice a l.length c] 37)).alloc (.cells #[.int .i64 x.1, .int .i64 x.2.1, .int .i64 x.2.2.1, .int .i64 x.2.2.2.1, .int .i64 x.2.2.2.2] 29) := ⟨_, rfl⟩
  have k1 : Kept w W1 := by rw [hW1]; exact ((Kept.refl w).alloc _).alloc _
  have HK1 := hidMk k1
  have hc := ((Kept.refl (w.alloc (.cells #[.slice a l.length c] 37))).alloc (.cells #[.int .i64 x.1, .int .i64 x.2.1, .int .i64 x.2.2.1, .int .i64 x.2.2.2.1, .int .i64 x.2.2.2.2] 29)).cellp (new_cell w #[.slice a l.length c] 37 _ 0 _ rfl rfl)
  obtain ⟨x0, x1, x2, x3, x4⟩ := boxC_at (w.alloc (.cells #[.slice a l.length c] 37)) x 29 rfl _ (Kept.refl _)
  rw [World.size_alloc] at x0 x1 x2 x3 x4
  have HI := hidMk (slices_ContainsC a c l x W1 (hs.kept k1) hl)
  generalize decide (x ∈ l) = z at *
  clear hs k1
  unfold clV hdV at *
  go_enter Tryz.func15, Tryz.ntmps15
  go_wp2_with fail
  rw [← hW1]
  clear hW1 x0 x1 x2 x3 x4 hc
  refine HI.out.mono ?_
  rintro e w2 ⟨rfl, k2⟩
  have HK2 := hidMk k2
  clear k2
  go_wp2_with fail
  go_ret
  exact ⟨rfl, HK1.out.trans HK2.out⟩
theorem cinfoQ : ∃ i0, Tryz.prog.info? 29 = some i0 ∧ i0.zero = some (.agg #[.int .i64 0, .int .i64 0, .int .i64 0, .int .i64 0, .int .i64 0]) ∧ i0.size = 5 ∧ i0.bytes = 40 := by
  have h : (Tryz.prog.info? 29).map (fun i => (i.zero, i.size, i.bytes)) = some (some (.agg #[.int .i64 0, .int .i64 0, .int .i64 0, .int .i64 0, .int .i64 0]), 5, 40) := by kernel_rfl
  exact info_parts h
theorem cq_news {w : World} {ad : Addr} {l : List Cl} (h : Cq w (some ad) l) : ∀ (j : Nat) u, (flatC l)[j]? = some u → w.cell? (ad.add j) = some u := by
  intro j u hj
  have hjn : j < l.length * 5 := by
    have := (List.getElem?_eq_some_iff.1 hj).1
    rw [flatC_len] at this
    exact this
  obtain ⟨bb, oo, e, _, hcs⟩ := h.cells (by omega)
  cases e
  have hd : j / 5 * 5 + j % 5 = j := by omega
  have h1 := hcs (j / 5) (by omega) (j % 5) (by omega) u (by rw [← flatC_get l (j / 5) (j % 5) (by omega) (by omega), hd]; exact hj)
  rw [Addr.add_lit]
  rw [Nat.add_assoc, hd] at h1
  exact h1
/-- All cells of a slice behind an own row. -/
theorem wpList_catC {ops : Array Oper} {rest : List Oper} {o : Oper} {a : Act} {Q : Exit → Act → World → Prop} (w : World) (hgd : o.guard = none) (s x : Operand)
    (ho : o.op = .call { callee := .builtin .append, args := #[s, x], argTypes := #[35, 35] })
    (B : Nat) (v : Value) (l t : List Cl) (hs : a.eval s = v) (hv : OwnQ w B v l) (hB : B ≤ w.heap.size) (b : Option Addr) (c : Nat) (hx : a.eval x = .slice b t.length c) (hR : Cq w b t) (hbn : b = none → t = [] ∧ c = 0)
    (h47 : l.length + t.length ≤ 200000)
    (h : ∀ v' w', OwnQ w' B v' (l ++ t) → Chg (fun k => v.ownBlock = some k) w w' → wpList Tryz.prog ops Q rest (a.put o.dst v') w') : wpList Tryz.prog ops Q (o :: rest) a w := by
  obtain ⟨i0, hi0, hz0, hz1, hz2⟩ := cinfoQ
  cases b with
  | none =>
    obtain ⟨rfl, rfl⟩ := hbn rfl
    refine wpList_append_own_none hgd s x 35 ho B 29 i0 5 Tryz.underlying35 hi0 v _ _ hs hv hx (h v w (by simpa using hv) (Chg.refl _ _))
  | some ad =>
    refine wpList_append_own_wide w hgd s x 35 ho B 29 i0 _ 5 40 Tryz.underlying35 hi0 hz0 hz1 hz2 rfl (by decide) v _ _ hs hv ad t.length c (flatC t) hx (flatC_len t) (cq_news hR) (flatC_one t) (by unfold maxLen; omega) (by omega) hB ?_
    intro v' w' h2 h3 _
    refine h v' w' ?_ ((Chg.refl _ w).grown h3 (fun k hk => .inl hk))
    unfold OwnQ
    rw [flatC_app, List.length_append]
    exact h2
theorem slices_CloneC (a : Option Addr) (c : Nat) (l : List Cl) (w : World) (hs : Cq w a l) (hn : a = none → l = [] ∧ c = 0) (hl : l.length ≤ 100000) :
    Calls Tryz.prog 40 #[.slice a l.length c] w fun e w' => ∃ v, e = .returned v ∧ OwnQ w' w.heap.size v l ∧ Kept w w' := by
  have q : ∀ (w : World) (a : Option Addr) (n c n' c' : Nat), (binOp .eql 35 (.slice a n c) (.slice none n' c')).run Tryz.prog w = .ok (.bool a.isNone) w := fun w a n c n' c' => Lib.run_eql_slice_nil w _ _ a n c n' c' Tryz.underlying35
  cases a with
  | none =>
    obtain ⟨rfl, rfl⟩ := hn rfl
    clear hs
    go_enter Tryz.func40, Tryz.ntmps40
    go_wp2
    go_ret
    exact ⟨_, rfl, ownQ_nil _ _, Kept.refl _⟩
  | some ad =>
    have H := hidMk hs
    clear hs hn
    go_enter Tryz.func40, Tryz.ntmps40
    go_wp2_with (at_builtin; refine wpList_catC _ (by rfl) _ _ (by rfl) w.heap.size (.slice (some ⟨w.heap.size, 0, none⟩) 0 0) [] l (by rfl) (World.ownsRow_made w #[] 0 (Nat.le_refl _) (Nat.zero_le _) (by simp)) (by simp) (some ad) c (by rfl) (H.out.kept ((Kept.refl w).alloc _)) (fun e => by cases e) (by simp; omega) ?_; intro v' w1 o4 k4; have H4 := hidMk o4; have K4 := hidMk (show Kept w w1 from Chg.kept ((Kept.refl w).alloc _) k4 (fun j hj => by simp [Value.ownBlock] at hj; omega)); clear o4 k4)
    go_wp2
    go_ret
    exact ⟨_, rfl, by simpa using H4.out, K4.out⟩
set_option maxHeartbeats 1000000 in
theorem hold_List (a : Option Addr) (c : Nat) (l : List Cl) (w : World) (hs : Cq w a l) (hn : a = none → l = [] ∧ c = 0) (hl : l.length ≤ 100000) : Calls Tryz.prog 14 #[hdV a l.length c] w fun e w' => ∃ v, e = .returned v ∧ OwnQ w' w.heap.size v l ∧ Kept w w' := by
  obtain ⟨W1, hW1⟩ : ∃ V, V = w.alloc (.cells #[.slice a l.length c] 37) := ⟨_, rfl⟩
  have k1 : Kept w W1 := by rw [hW1]; exact (Kept.refl w).alloc _
  have HK1 := hidMk k1
  have hc := new_cell w #[.slice a l.length c] 37 _ 0 _ rfl rfl
  have HI := hidMk (slices_CloneC a c l W1 (hs.kept k1) hn hl)
  clear hs k1 hn
  unfold hdV at *
  go_enter Tryz.func14, Tryz.ntmps14
  go_wp2_with fail
  rw [← hW1]
  clear hW1 hc
  refine HI.out.mono ?_
  rintro e w2 ⟨v, rfl, ho, k2⟩
  have HO := hidMk ho
  have HK2 := hidMk k2
  clear ho k2
  go_wp2_with fail
  go_ret
  exact ⟨_, rfl, ownsRow_base HO.out HK1.out.size, HK1.out.trans HK2.out⟩
set_option maxHeartbeats 2000000 in
set_option maxRecDepth 100000 in
theorem slices_EqualC (a b : Option Addr) (c d : Nat) (l m : List Cl) (w : World) (hl : Cq w a l) (hm : Cq w b m) (h5 : l.length ≤ 100000) :
    Calls Tryz.prog 51 #[.slice a l.length c, .slice b m.length d] w fun e w' => e = .returned (.bool (decide (l = m))) ∧ Kept w w' := by
  obtain ⟨r, hr⟩ : ∃ r, decide (l = m) = r := ⟨_, rfl⟩
  rw [hr]
  have HR := hidMk hr
  have HL := hidMk hl
  have HM := hidMk hm
  clear hr hl hm
  by_cases hlen : l.length = m.length
  · have hne : (((l.length : Int)) != (m.length : Int)) = false := by simp [hlen]
    go_enter Tryz.func51, Tryz.ntmps51
    have HLEN := hidMk hlen
    clear hlen
    go_wp2_with fail
    go_loopg [13] l.length (fun g x wr => ∃ (k q : Nat), k + g = l.length ∧ x = .int .i64 k ∧ wr = w.drewN q ∧ Hid (∀ j, j < k → clA l j = clA m j))
    case atStart => exact ⟨0, 0, by omega, rfl, rfl, hidMk fun j hj => absurd hj (by omega)⟩
    case round =>
      obtain ⟨k, q, hkg, rfl, hwr, HJ⟩ := hrel
      have HKG := hidMk hkg
      subst hwr
      by_cases hkn : k < l.length
      · obtain ⟨b1, o1, rfl⟩ := HL.out.form (by omega)
        obtain ⟨b2, o2, rfl⟩ := HM.out.form (by have := HLEN.out; omega)
        obtain ⟨e0, e1, e2, e3, e4⟩ := HL.out.at hkn
        obtain ⟨f0, f1, f2, f3, f4⟩ := HM.out.at (i := k) (by have := HLEN.out; omega)
        have hn2 : (k : Int) < (m.length : Int) := by have := HLEN.out; omega
        have hq := neqC (clA l k) (clA m k)
        unfold clV at hq
        clear hkg
        by_cases he : clA l k = clA m k
        · have HJ2 := hidMk (show ∀ j, j < k + 1 → clA l j = clA m j from fun j hj => by
            by_cases e : j = k
            · subst e; exact he
            · exact HJ.out j (by omega))
          rw [show decide (clA l k = clA m k) = true from decide_eq_true he] at hq
          clear he
          generalize clA l k = x at *
          generalize clA m k = y at *
          go_wp2_with fail
          go_quiet (fail)
          go_wp2_with fail
          go_roundg (gk - 1)
          case measure => have := HKG.out; omega
          case rel => exact ⟨k + 1, q + nq, by have := HKG.out; omega, by go_num, by first | rfl | simp, HJ2⟩
        · have HF := hidMk (show r = false by rw [← HR.out]; exact decide_eq_false fun e => he (by rw [e]))
          rw [show decide (clA l k = clA m k) = false from decide_eq_false he] at hq
          clear he
          generalize clA l k = x at *
          generalize clA m k = y at *
          go_wp2_with fail
          go_quiet (fail)
          go_wp2_with fail
          go_ret
          exact ⟨by rw [HF.out]; rfl, (((Kept.refl w).drewN q).drewN nq)⟩
      · have HF := hidMk (show r = true by rw [← HR.out]; exact decide_eq_true (cl_ext HLEN.out fun j hj => HJ.out j (by omega)))
        have hkk : ¬ ((k : Int) < (l.length : Int)) := by omega
        go_wp2_with fail
        go_ret
        exact ⟨by rw [HF.out]; rfl, ((Kept.refl w).drewN _)⟩
  · have HF := hidMk (show r = false by rw [← HR.out]; exact decide_eq_false fun e => hlen (by rw [e]))
    have hne : (((l.length : Int)) != (m.length : Int)) = true := by simp; omega
    clear hlen
    go_enter Tryz.func51, Tryz.ntmps51
    go_wp2_with fail
    go_ret
    exact ⟨by rw [HF.out]; rfl, Kept.refl _⟩
theorem ask_nil (x : Cl) (w : World) : Calls Tryz.prog 31 #[.pointer none, clV x] w fun e w' => e = .returned (.int .i64 1) ∧ Kept w w' := by
  unfold clV
  go_enter Tryz.func31, Tryz.ntmps31
  go_wp2_with fail
  go_ret
  exact ⟨rfl, (Kept.refl w).alloc _⟩
section
variable {w : World} {s p : Nat} {ds : List Dm} {ms : List ByteArray} {tp : Nat → Nat} {rv : Nat → Option Addr × Nat}
/-- A cell's members by a function. -/
def clT (x : Cl) (k : Nat) : Int := [x.2.1, x.2.2.1, x.2.2.2.1, x.2.2.2.2].getD k 0
theorem clV_at (x : Cl) : clV x = cellV x.1 (clT x) := rfl
/-- A cell's number; -1: it can not be. -/
def ixC (ms : List ByteArray) (ds : List Dm) (x : Cl) : Int := if rightB ms ds x.1 (clT x) then numK (fun k => many ds k) (clT x) x.1 4 else -1
theorem sw_IndexC (h : SW w s p ds ms tp rv) (x : Cl) : Calls Tryz.prog 37 #[.pointer (some ⟨s, 0, none⟩), clV x] w fun e w' => e = .returned (.int .i64 (ixC ms ds x)) ∧ Kept w w' := by
  rw [clV_at]
  exact sw_Index h x.1 (clT x)
set_option maxHeartbeats 1000000 in
theorem sw_ask (h : SW w s p ds ms tp rv) (x : Cl) : Calls Tryz.prog 31 #[.pointer (some ⟨s, 0, none⟩), clV x] w fun e w' => e = .returned (.int .i64 (if ixC ms ds x < 0 then 17 else 0)) ∧ Kept w w' := by
  obtain ⟨W1, hW1⟩ : ∃ V, V = w.alloc (.cells #[.int .i64 x.1, .int .i64 x.2.1, .int .i64 x.2.2.1, .int .i64 x.2.2.2.1, .int .i64 x.2.2.2.2] 29) := ⟨_, rfl⟩
  have k1 : Kept w W1 := by rw [hW1]; exact (Kept.refl w).alloc _
  have HK1 := hidMk k1
  obtain ⟨x0, x1, x2, x3, x4⟩ := boxC_at w x 29 rfl _ (Kept.refl _)
  have HI := hidMk (sw_IndexC (h.keep k1) x)
  generalize ixC ms ds x = z at *
  clear h k1
  unfold clV at *
  by_cases hz : z < 0
  · simp only [if_pos hz]
    go_enter Tryz.func31, Tryz.ntmps31
    go_wp2_with fail
    rw [← hW1]
    clear hW1 x0 x1 x2 x3 x4
    refine HI.out.mono ?_
    rintro e w2 ⟨rfl, k2⟩
    have HK2 := hidMk k2
    clear k2
    go_wp2_with fail
    go_ret
    exact ⟨rfl, HK1.out.trans HK2.out⟩
  · simp only [if_neg hz]
    go_enter Tryz.func31, Tryz.ntmps31
    go_wp2_with fail
    rw [← hW1]
    clear hW1 x0 x1 x2 x3 x4
    refine HI.out.mono ?_
    rintro e w2 ⟨rfl, k2⟩
    have HK2 := hidMk k2
    clear k2
    go_wp2_with fail
    go_ret
    exact ⟨rfl, HK1.out.trans HK2.out⟩
end
end Go.Proofs.YtpkepkemjcjplaaGreat
