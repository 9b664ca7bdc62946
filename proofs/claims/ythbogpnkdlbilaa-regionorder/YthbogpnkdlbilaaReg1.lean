/- region: a set that is made run by run; Runs, Many, others. -/
import Derived.Test.YthbogpnkdlbilaaRegBase
namespace Go.Proofs.Ythbogpnkdlbilaa
open Go.RowKit Go.Maps
set_option linter.unusedSimpArgs false
set_option linter.unusedVariables false

theorem set_load {w : World} {g : Nat} {v : Value} (c0 : w.cell? ⟨g, 0, none⟩ = some v) : (loadVar 28 ⟨g, 0, none⟩).run Try.prog w = .ok (.agg #[v]) w := by
  have hl := run_loadCells_list (P := Try.prog) w ⟨g, 0, none⟩ [v] (fun j u hu => by
    have hadd : (⟨g, 0, none⟩ : Addr).add j = ⟨g, j, none⟩ := by unfold Addr.add; split <;> simp_all
    rw [hadd]
    have : j = 0 := by
      have := (List.getElem?_eq_some_iff.1 hu).1
      simp at this
      omega
    subst this
    simp_all)
  have hi : (Try.prog.info? 28).map (·.size) = some 1 := by kernel_rfl
  obtain ⟨i, h1, h2⟩ := Option.map_eq_some_iff.1 hi
  simp only [List.length_cons, List.length_nil, Nat.reduceAdd] at hl
  simp [loadVar, Sem.run_bind, Try.isAgg28, sizeOf, typeInfo, h1, h2, hl]
theorem results_cell1 {P : Program} {fn : Func} {p : Tmp} {ty : TypeId} (h : fn.results = #[.cell p ty]) (tmps : Array Value) (w : World) (g : Nat) (v : Value)
    (hp : tmps.getD p undef = .pointer (some ⟨g, 0, none⟩)) (hg : (loadVar ty ⟨g, 0, none⟩).run P w = .ok v w) : (results fn tmps).run P w = .ok v w := by
  have hp' : tmps[p]?.getD undef = .pointer (some ⟨g, 0, none⟩) := by simpa using hp
  simp [results, h, hp', asAddr, hg]
/-- A set as a result that lies in its block. -/
theorem set_ret {R : Ending → World → Prop} {fn : Func} {p : Tmp} (hfn : fn.results = #[.cell p 28]) {a : Act} {w : World} (g : Nat) (v : Value) (hp : a.tmps.getD p undef = .pointer (some ⟨g, 0, none⟩)) (hd : a.defers = [])
    (c0 : w.cell? ⟨g, 0, none⟩ = some v) (h : R (.returned (.agg #[v])) w) : bodyPost Try.prog fn R .ret a w :=
  bodyPost_ret (results_cell1 hfn _ _ g _ hp (set_load c0)) hd h
/-- A set's own block s, that its runs are appended to, and the result's block rs. -/
structure SB (w0 w : World) (rs s B : Nat) (v : Value) (l : List Rn) : Prop where
  c : w.cell? ⟨s, 0, none⟩ = some v
  f : w.frozen? ⟨s, 0, none⟩ = false
  rc : ∃ u, w.cell? ⟨rs, 0, none⟩ = some u
  rf : w.frozen? ⟨rs, 0, none⟩ = false
  own : OwnR w B v l
  lt : rs < s ∧ s < B
  hB : B ≤ w.heap.size
  kept : Kept w0 w
  h0 : w0.heap.size ≤ s
theorem SB.keep {w0 w w' : World} {rs s B : Nat} {v : Value} {l : List Rn} (h : SB w0 w rs s B v l) (g : Kept w w') : SB w0 w' rs s B v l := by
  have l1 : s < w.heap.size := cell_lt h.c
  have l2 : rs < w.heap.size := by have := h.lt; omega
  obtain ⟨u, hu⟩ := h.rc
  exact ⟨g.cellp h.c, (g.frozen (p := ⟨s, 0, none⟩) l1).trans h.f, ⟨u, g.cellp hu⟩, (g.frozen (p := ⟨rs, 0, none⟩) l2).trans h.rf, h.own.kept g, h.lt, Nat.le_trans h.hB g.size, h.kept.trans g, h.h0⟩
theorem SB.push {w0 w y : World} {rs s B : Nat} {v v' : Value} {l m : List Rn} (h : SB w0 w rs s B v l) (ho : OwnR y B v' m) (hc : Chg (fun k => v.ownBlock = some k) w y) :
    y.cell? ⟨s, 0, none⟩ = some v ∧ y.frozen? ⟨s, 0, none⟩ = false ∧ SB w0 (y.setCell ⟨s, 0, none⟩ v') rs s B v' m := by
  have hlt := h.lt
  have hb : ∀ k, v.ownBlock = some k → B ≤ k := fun k hk => (h.own.lt k hk).1
  have n1 : ¬ v.ownBlock = some s := fun e => by have := hb s e; omega
  have n2 : ¬ v.ownBlock = some rs := fun e => by have := hb rs e; omega
  have l1 : s < w.heap.size := cell_lt h.c
  have l2 : rs < w.heap.size := by omega
  have q := hc.cellp h.c n1
  have c2 : Chg (· = s) y (y.setCell ⟨s, 0, none⟩ v') := (Chg.refl (· = s) y).setCell (p := ⟨s, 0, none⟩) (.inl rfl) _
  obtain ⟨u, hu⟩ := h.rc
  refine ⟨q, (hc.frozen (p := ⟨s, 0, none⟩) l1 n1).trans h.f, World.cell?_setCell_same _ _ _ q, by simpa using (hc.frozen (p := ⟨s, 0, none⟩) l1 n1).trans h.f, ⟨u, c2.cellp (hc.cellp hu n2) (by omega)⟩, by simpa using (hc.frozen (p := ⟨rs, 0, none⟩) l2 n2).trans h.rf, ho.chg c2 (fun k hk e => ?_), hlt, ?_, ?_, h.h0⟩
  · have := (ho.lt k hk).1; omega
  · have := h.hB; have := hc.size; simp; omega
  · exact (Chg.kept h.kept hc (fun j hj => by have := hb j hj; have := h.h0; omega)).setCell (p := ⟨s, 0, none⟩) (show w0.heap.size ≤ s by have := h.h0; omega) _
theorem SB.push1 {w0 w y : World} {rs s B : Nat} {v v' : Value} {l m : List Rn} (h : SB w0 w rs s B v l) (ho : OwnR y B v' m) (hc : Chg (fun k => v.ownBlock = some k) w y) :
    y.cell? ⟨s, 0, none⟩ = some v ∧ y.frozen? ⟨s, 0, none⟩ = false ∧ (∃ u, y.cell? ⟨rs, 0, none⟩ = some u) ∧ y.frozen? ⟨rs, 0, none⟩ = false ∧ SB w0 (y.setCell ⟨s, 0, none⟩ v') rs s B v' m := by
  obtain ⟨q1, q2, q3⟩ := h.push ho hc
  have hlt := h.lt
  have n2 : ¬ v.ownBlock = some rs := fun e => by have := (h.own.lt rs e).1; omega
  have l2 : rs < w.heap.size := by have := h.hB; omega
  obtain ⟨u, hu⟩ := h.rc
  exact ⟨q1, q2, ⟨u, hc.cellp hu n2⟩, (hc.frozen (p := ⟨rs, 0, none⟩) l2 n2).trans h.rf, q3⟩
theorem SB.push2 {w0 w y : World} {rs s B : Nat} {v v' : Value} {l m : List Rn} (h : SB w0 w rs s B v l) {o1 o2 : Obj} (ho : OwnR y B v' m) (hc : Chg (fun k => v.ownBlock = some k) ((w.alloc o1).alloc o2) y) :
    y.cell? ⟨s, 0, none⟩ = some v ∧ y.frozen? ⟨s, 0, none⟩ = false ∧ (∃ u, y.cell? ⟨rs, 0, none⟩ = some u) ∧ y.frozen? ⟨rs, 0, none⟩ = false ∧ (∀ j u, (w.alloc o1).cell? ⟨w.heap.size, j, none⟩ = some u → y.cell? ⟨w.heap.size, j, none⟩ = some u) ∧ SB w0 (y.setCell ⟨s, 0, none⟩ v') rs s B v' m := by
  have h' := h.keep (((Kept.refl w).alloc o1).alloc o2)
  obtain ⟨q1, q2, q3⟩ := h'.push ho hc
  have hlt := h.lt
  have hb : ∀ k, v.ownBlock = some k → B ≤ k ∧ k < w.heap.size := fun k hk => h.own.lt k hk
  have n2 : ¬ v.ownBlock = some rs := fun e => by have := hb rs e; omega
  have l2 : rs < ((w.alloc o1).alloc o2).heap.size := by have := h'.hB; omega
  obtain ⟨u, hu⟩ := h'.rc
  exact ⟨q1, q2, ⟨u, hc.cellp hu n2⟩, (hc.frozen (p := ⟨rs, 0, none⟩) l2 n2).trans h'.rf, fun j u hj => hc.cellp (((Kept.refl _).alloc o2).cellp hj) (fun e => by have := hb _ e; omega), q3⟩
theorem SB.pushK {w0 w W y : World} {rs s B : Nat} {v v' : Value} {l m : List Rn} (h : SB w0 w rs s B v l) (hk : Kept w W) (ho : OwnR y B v' m) (hc : Chg (fun k => v.ownBlock = some k) W y) :
    y.cell? ⟨s, 0, none⟩ = some v ∧ y.frozen? ⟨s, 0, none⟩ = false ∧ (∃ u, y.cell? ⟨rs, 0, none⟩ = some u) ∧ y.frozen? ⟨rs, 0, none⟩ = false ∧ (∀ b j u, w.heap.size ≤ b → W.cell? ⟨b, j, none⟩ = some u → y.cell? ⟨b, j, none⟩ = some u) ∧ Kept w0 y ∧ SB w0 (y.setCell ⟨s, 0, none⟩ v') rs s B v' m := by
  have h' := h.keep hk
  obtain ⟨q1, q2, q3, q4, q5⟩ := h'.push1 ho hc
  have hb : ∀ k, v.ownBlock = some k → B ≤ k ∧ k < w.heap.size := fun k hk => h.own.lt k hk
  exact ⟨q1, q2, q3, q4, fun b j u hbj hj => hc.cellp hj (fun e => by have := hb _ e; omega), Chg.kept h'.kept hc (fun j hj => by have := hb j hj; have := h.h0; have := h.lt; omega), q5⟩
/-- The set as it lies, stored into the result's block. -/
theorem SB.ret {w0 w : World} {rs s B : Nat} {v : Value} {l : List Rn} (h : SB w0 w rs s B v l) (hr : w0.heap.size ≤ rs) : (w.setCell ⟨rs, 0, none⟩ v).cell? ⟨rs, 0, none⟩ = some v ∧ SetIs (w.setCell ⟨rs, 0, none⟩ v) (.agg #[v]) l ∧ Kept w0 (w.setCell ⟨rs, 0, none⟩ v) ∧ ∀ ad n c, v = .slice (some ad) n c → B ≤ ad.block := by
  obtain ⟨u, hu⟩ := h.rc
  have c2 : Chg (· = rs) w (w.setCell ⟨rs, 0, none⟩ v) := (Chg.refl (· = rs) w).setCell (p := ⟨rs, 0, none⟩) (.inl rfl) _
  have hlt := h.lt
  have ho : OwnR (w.setCell ⟨rs, 0, none⟩ v) B v l := h.own.chg c2 (fun k hk e => by have := (h.own.lt k hk).1; omega)
  obtain ⟨a, c, rfl, h1, h2, h3⟩ := ho.rs
  exact ⟨World.cell?_setCell_same _ _ _ hu, ⟨a, c, rfl, h1, h2, h3⟩, h.kept.setCell (p := ⟨rs, 0, none⟩) hr _, fun ad n c' e => (ho.lt ad.block (by rw [e]; rfl)).1⟩
theorem sb_new {w : World} {rs s B : Nat} {W : World} (hr : W.cell? ⟨rs, 0, none⟩ = some (.slice none 0 0)) (hs : W.cell? ⟨s, 0, none⟩ = some (.slice none 0 0)) (hrf : W.frozen? ⟨rs, 0, none⟩ = false) (hsf : W.frozen? ⟨s, 0, none⟩ = false) (h1 : rs < s) (h2 : s < B) (hB : B ≤ W.heap.size) (hk : Kept w W) (h0 : w.heap.size ≤ s) :
    SB w W rs s B (.slice none 0 0) [] := ⟨hs, hsf, ⟨_, hr⟩, hrf, ownR_nil _ _, ⟨h1, h2⟩, hB, hk, h0⟩

theorem new_cell {W : World} {N : Nat} (h : W.heap.size = N) (v : Value) (t : TypeId) : (W.alloc (.cells #[v] t)).cell? ⟨N, 0, none⟩ = some v := by subst h; simp
theorem new_frozen {W : World} {N : Nat} (h : W.heap.size = N) (v : Value) (t : TypeId) (j : Nat) : (W.alloc (.cells #[v] t)).frozen? ⟨N, j, none⟩ = false := by subst h; simp
theorem sb_start {w W1 : World} {N : Nat} (hN : W1.heap.size = N) (hk : Kept w W1) (t t' : TypeId) : SB w ((W1.alloc (.cells #[.slice none 0 0] t)).alloc (.cells #[.slice none 0 0] t')) N (N + 1) (N + 1 + 1) (.slice none 0 0) [] :=
  sb_new (((Kept.refl _).alloc _).cellp (new_cell hN _ _)) (new_cell (by simp [hN]) _ _) ((((Kept.refl _).alloc _).frozen (p := ⟨N, 0, none⟩) (by simp [hN])).trans (new_frozen hN _ _ 0)) (new_frozen (by simp [hN]) _ _ 0) (by omega) (by omega) (by simp [hN]) ((hk.alloc _).alloc _) (by have := hk.size; omega)
theorem region_Runs (v : Value) (l : List Rn) (w : World) (h : SetIs w v l) : Calls Try.prog 24 #[v] w fun e w' => e = .returned (.int .i64 l.length) ∧ Kept w w' := by
  obtain ⟨a, c, rfl, h1, h2, h3⟩ := h
  clear h1
  go_enter Try.func24, Try.ntmps24
  go_wp2_with fail
  go_ret
  exact ⟨rfl, (Kept.refl w).alloc _⟩
theorem rnA_drop {l : List Rn} {k : Nat} (h : k < l.length) : l.drop k = rnA l k :: l.drop (k + 1) := by
  rw [List.drop_eq_getElem_cons h]
  simp [rnA, List.getD, List.getElem?_eq_getElem h]
theorem rnA_mem {l : List Rn} {k : Nat} (h : k < l.length) : rnA l k ∈ l := by
  simp [rnA, List.getD, List.getElem?_eq_getElem h]
theorem norm_at {l : List Rn} (h : Norm l) {k : Nat} (hk : k < l.length) : 0 ≤ (rnA l k).1 ∧ (rnA l k).1 ≤ (rnA l k).2 ∧ (rnA l k).2 ≤ 9223372036854775807 := by
  have := h.ok _ (rnA_mem hk)
  unfold okR top at this
  exact this
theorem manyZ_take {l : List Rn} {k : Nat} (h : k < l.length) : manyZ (l.take (k + 1)) = manyZ (l.take k) + ((rnA l k).2 - (rnA l k).1 + 1) := by
  rw [List.take_succ_eq_append_getElem h, manyZ_append]
  simp [manyZ, rnA, List.getD, List.getElem?_eq_getElem h]
theorem manyZ_nonneg {l : List Rn} (h : Norm l) (k : Nat) : 0 ≤ manyZ (l.take k) ∧ manyZ (l.take k) ≤ manyZ l := by
  have hp : ∀ m : List Rn, (∀ r, r ∈ m → r ∈ l) → 0 ≤ manyZ m := by
    intro m
    induction m with
    | nil => intro _; exact Int.le_refl _
    | cons r t ih =>
      intro hm
      have h1 := h.ok r (hm r (List.mem_cons_self ..))
      have h2 := ih fun s hs => hm s (List.mem_cons_of_mem _ hs)
      unfold okR at h1
      rw [manyZ]
      omega
  have h1 := hp (l.take k) fun r hr => List.mem_of_mem_take hr
  have h2 := hp (l.drop k) fun r hr => List.mem_of_mem_drop hr
  have h3 := manyZ_append (l.take k) (l.drop k)
  rw [List.take_append_drop] at h3
  omega
set_option maxHeartbeats 1000000 in
theorem region_Many (v : Value) (l : List Rn) (w : World) (h : SetIs w v l) (hn : Norm l) (hm : manyZ l ≤ 100000) (hl : l.length ≤ 100000) : Calls Try.prog 22 #[v] w fun e w' => e = .returned (.int .i64 (manyZ l)) ∧ Kept w w' := by
  obtain ⟨a, c, rfl, h1, h2, h3⟩ := h
  have HR := hidMk h1
  have HN := hidMk hn
  obtain ⟨M, hM⟩ : ∃ M, manyZ l = M := ⟨_, rfl⟩
  rw [hM] at hm ⊢
  have HM := hidMk hM
  clear h1 hn h3 hM
  go_enter Try.func22, Try.ntmps22
  go_wp2_with fail
  go_loopg [3, 9] l.length (fun g y x wr => ∃ k : Nat, k + g = l.length ∧ x = .int .i64 k ∧ y = .int .i64 (manyZ (l.take k)) ∧ Kept w wr)
  case atStart => exact ⟨0, by omega, rfl, rfl, (Kept.refl w).alloc _⟩
  case round =>
    obtain ⟨k, hkg, rfl, rfl, hk⟩ := hrel
    have HKG := hidMk hkg
    have HK := hidMk hk
    have hz := manyZ_nonneg HN.out k
    rw [HM.out] at hz
    by_cases hkn : k < l.length
    · obtain ⟨b, o, rfl, _, hcs⟩ := HR.out.cells (by omega)
      obtain ⟨c1, c2⟩ := hcs k hkn
      have d1 := hk.cellp c1
      have d2 := hk.cellp c2
      have hb := norm_at HN.out hkn
      have hz2 := manyZ_nonneg HN.out (k + 1)
      rw [HM.out] at hz2
      have HT := hidMk (manyZ_take hkn)
      rw [HT.out] at hz2
      clear hcs c1 c2 hk hkg
      generalize rnA l k = r at *
      obtain ⟨x, y⟩ := r
      simp only at hb hz2 d1 d2
      generalize manyZ (l.take k) = z at *
      go_wp2_with fail
      go_roundg (gk - 1)
      case measure => have := HKG.out; omega
      case rel => exact ⟨k + 1, by have := HKG.out; omega, by go_num, by rw [HT.out], HK.out.alloc _⟩
    · have htk : l.take k = l := List.take_of_length_le (by omega)
      rw [htk, HM.out] at hz ⊢
      have hkk : ¬ ((k : Int) < (l.length : Int)) := by omega
      have hz0 : ¬ M < 0 := by omega
      clear hk hkg htk
      go_wp2_with fail
      go_ret
      exact ⟨rfl, HK.out⟩
theorem oth_step {l : List Rn} {k : Nat} (z : Int) (h : k < l.length) : oth z (l.drop k) = (if z < (rnA l k).1 then [(z, (rnA l k).1 - 1)] else []) ++ (if (rnA l k).2 = top then [] else oth ((rnA l k).2 + 1) (l.drop (k + 1))) := by
  rw [rnA_drop h, oth]
theorem oth_end {l : List Rn} {k : Nat} (z : Int) (h : ¬ k < l.length) : oth z (l.drop k) = [(z, top)] := by
  rw [List.drop_of_length_le (by omega), oth]
end Go.Proofs.Ythbogpnkdlbilaa
