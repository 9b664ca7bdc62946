/- parse.Parse. -/
import Derived.Test.YtpehinmckppjoaaGreatDoorWPsCB
import Derived.Test.YtpehinmckppjoaaGreatDoorWPsSB
namespace Go.Proofs.YtpehinmckppjoaaGreatDoor
open Go.RowKit Go.Maps
set_option linter.unusedSimpArgs false
set_option linter.unusedVariables false

theorem lineW_len (s : ByteArray) : (lineW s).length ≤ s.size + 1 := by
  unfold lineW
  rw [List.length_map]
  have := tks_len s.data.toList
  rw [data_len] at this
  exact this
theorem wl_words {w : World} {s : ByteArray} {a : Option Addr} {l : List Wd} (hs : s.size ≤ 10000) (hw : Wq w a l) (hc : l.map cor = (tks s.data.toList).map mkc) : WL w a (lineW s) ∧ l.length = (lineW s).length := by
  have hlen : l.length = (lineW s).length := by
    have := congrArg List.length hc
    rw [List.length_map, List.length_map] at this
    unfold lineW
    rw [List.length_map]
    exact this
  have hL := lineW_len s
  refine ⟨⟨fun i hi => ?_, by omega, fun i => ?_⟩, hlen⟩
  · have hi' : i < l.length := by omega
    obtain ⟨b, o, rfl⟩ := hw.form (by omega)
    obtain ⟨h0, h1, h2, h3, h4⟩ := hw.at hi'
    have hp := hw.part hi'
    have hti : i < (tks s.data.toList).length := by
      have : (lineW s).length = (tks s.data.toList).length := by unfold lineW; rw [List.length_map]
      omega
    have e : cor (wdA l i) = mkc ((tks s.data.toList)[i]) := by
      have h := congrArg (·[i]?) hc
      simp only [List.getElem?_map, List.getElem?_eq_getElem hi', List.getElem?_eq_getElem hti, Option.map_some, Option.some.injEq] at h
      rw [wdA_get hi']
      exact h
    have et : tkA (lineW s) i = bstr ((tks s.data.toList)[i]).2 := by
      unfold tkA lineW
      rw [List.getD_eq_getElem?_getD, List.getElem?_map, List.getElem?_eq_getElem hti]
      rfl
    unfold cor mkc at e
    simp only [Prod.mk.injEq] at e
    obtain ⟨e1, e2, e3, e4, e5⟩ := e
    rw [← et] at e1 e2 e4 e5
    refine ⟨b, o, wdA l i, rfl, by rw [h0, e1], by rw [h1, e2], h2, by rw [h3, e4], h4, by rw [← e5]; exact hp, (wdA l i).mc⟩
  · unfold tkA lineW
    rw [List.getD_eq_getElem?_getD, List.getElem?_map]
    by_cases hti : i < (tks s.data.toList).length
    · rw [List.getElem?_eq_getElem hti]
      have h1 := (lay_get s.data.toList hti).2.2.2.2
      have h2 := data_len s
      simp only [Option.map_some, Option.getD_some]
      rw [bstr_size]
      omega
    · rw [List.getElem?_eq_none (by omega)]
      exact Nat.zero_le _
theorem cm0_text {o : Nat} {u : ByteArray} (h : (cmL cm0)[o]? = some (.string u)) : u.size = 0 := by
  have : o < 12 := (List.getElem?_eq_some_iff.1 h).1
  rcases (by omega : o = 0 ∨ o = 1 ∨ o = 2 ∨ o = 3 ∨ o = 4 ∨ o = 5 ∨ o = 6 ∨ o = 7 ∨ o = 8 ∨ o = 9 ∨ o = 10 ∨ o = 11) with rfl | rfl | rfl | rfl | rfl | rfl | rfl | rfl | rfl | rfl | rfl | rfl <;> (simp [cmL, cm0] at h; try (subst h; rfl))
/-- A word's parts do not lie in a new command's block. -/
theorem parts_off {w : World} {p : Nat} {t : TypeId} {fr : Nat × Nat} (hp : w.heap[p]? = some (.cells (cmL cm0).toArray t fr)) {x : Wd} (hs : Ss w x.a x.m x.ps) {u : ByteArray} (hu : x.ps = rdP u) (hm : 0 < x.m) {ad : Addr} (ha : x.a = some ad) : ad.block ≠ p := by
  obtain ⟨b, o, e, _, hc⟩ := hs.cells hm
  rw [e] at ha
  cases ha
  intro hb
  simp only at hb
  subst hb
  have h0 := hc 0 hm
  rw [cell_of_row w b (o + 0) _ t fr hp] at h0
  have h1 := cm0_text (o := o + 0) (u := x.ps.getD 0 ByteArray.empty) (by rw [← h0]; simp)
  have hl : 0 < x.ps.length := by rw [hs.len]; exact hm
  have hmem : x.ps.getD 0 ByteArray.empty ∈ x.ps := by
    rw [List.getD_eq_getElem?_getD, List.getElem?_eq_getElem hl]
    exact List.getElem_mem hl
  have hall : x.ps.all nameB = true := by
    rw [hu] at hl ⊢
    unfold rdP at hl ⊢
    by_cases a1 : isNum u
    · rw [if_pos a1] at hl; simp at hl
    · rw [if_neg a1] at hl ⊢
      by_cases a2 : nameB u = true
      · rw [if_pos a2] at hl; simp at hl
      · rw [if_neg a2] at hl ⊢
        by_cases a3 : cellB u = true
        · rw [if_pos a3]
          unfold cellB at a3
          rw [Bool.and_eq_true] at a3
          exact a3.2
        · rw [if_neg a3] at hl; simp at hl
  have hn := List.all_eq_true.1 hall _ hmem
  unfold nameB at hn
  simp only [Bool.and_eq_true, decide_eq_true_eq] at hn
  omega
theorem parseB_err {ms : List ByteArray} {ds : List Dm} {L : List ByteArray} {p : Int × Int} (h : parseB ms ds L = .error p) : p.2 ≠ 0 := by
  unfold parseB at h
  cases hk : fstK L 0 with
  | none => rw [hk] at h; cases h; exact (by decide : (6 : Int) ≠ 0)
  | some k =>
    rw [hk] at h
    simp only at h
    cases hf : foldP ms ds L (shapeL k) (1, { cm0 with k := k }) with
    | error e => rw [hf] at h; cases h; exact foldP_err _ _ hf
    | ok z =>
      rw [hf] at h
      simp only [bdP] at h
      split at h
      · cases h; exact (by decide : (6 : Int) ≠ 0)
      · cases h
theorem heap_new (w : World) (c : Array Value) (t : TypeId) : (w.alloc (.cells c t)).heap[w.heap.size]? = some (.cells c t (0, 0)) := by
  show (w.heap.push (.cells c t (0, 0)))[w.heap.size]? = _
  simp
theorem heap_old (w : World) (o : Obj) {j : Nat} (hj : j < w.heap.size) : (w.alloc o).heap[j]? = w.heap[j]? := ((Kept.refl w).alloc o).block j hj
theorem cmd_type : ∃ d, Tryz.prog.underlying 35 = some d ∧ d.isRow = true ∧ (Tryz.prog.info? 35).map (·.size) = some 12 := by
  have h : (Tryz.prog.underlying 35).map (·.isRow) = some true := by kernel_rfl
  cases hu : Tryz.prog.underlying 35 with
  | none => rw [hu] at h; cases h
  | some d => rw [hu] at h; exact ⟨d, rfl, by simpa using h, by kernel_rfl⟩
theorem results_c2 {fn : Func} {p q r : Tmp} {e : TypeId} (h : fn.results = #[.cell p e, .tmp q, .tmp r]) (tmps : Array Value) (w : World) (g : Nat) (v : Value) (hp : tmps.getD p undef = .pointer (some ⟨g, 0, none⟩)) (hg : (loadVar e ⟨g, 0, none⟩).run Tryz.prog w = .ok v w) : (results fn tmps).run Tryz.prog w = .ok (.tuple #[v, tmps.getD q undef, tmps.getD r undef]) w := by
  have hp' := hp
  simp only [Array.getD_eq_getD_getElem?] at hp'
  simp [results, h, hp', asAddr, hg]
theorem kept_setCells {a : World} {b : Nat} (hb : a.heap.size ≤ b) : ∀ (vs : List Value) (o : Nat) (w : World), Kept a w → Kept a (w.setCells b o vs)
  | [], _, _, h => h
  | v :: r, o, w, h => by
    rw [World.setCells]
    exact kept_setCells hb r (o + 1) _ (h.setCell (p := ⟨b, o, none⟩) hb v)
/-- What parsing a line tells. -/
def cmV (x : Cm) : Value := .agg (cmL x).toArray
set_option maxHeartbeats 4000000 in
set_option maxRecDepth 100000 in
theorem ps_Parse {w0 W : World} {pd : Nat} {ms : List ByteArray} {ds : List Dm} (hD : ∃ y tp ma mc lv sc dv, DP y W pd ds tp ma mc ms lv sc dv) (hok : CatOk ds ms) (hV : FV W) (hVs : Vars W) (s : ByteArray) (hs : s.size ≤ 10000) :
    Calls Tryz.prog 9 #[.pointer (some ⟨pd, 0, none⟩), .string s] W fun e w' => e = .returned (.tuple #[cmV (parseP ms ds (lineW s)).1, .int .i64 (parseP ms ds (lineW s)).2.1, .int .i64 (parseP ms ds (lineW s)).2.2]) ∧ Kept W w' := by
  have HD := hidMk hD
  have HOK := hidMk hok
  have HV := hidMk hV
  have HVS := hidMk hVs
  have HL := hidMk (show ∀ y, Kept W y → Calls Tryz.prog 22 #[.string s] y (WordsP 112 s y) from fun y hy => lex_Words s hs y (hVs.kept hy))
  have HSZ := hidMk hs
  have hmf : ∀ fn first cap w, (Instr.makeFunc fn first cap).run Tryz.prog w = .ok (.func fn first cap) w := fun _ _ _ _ => rfl
  clear hD hok hV hVs hs
  go_enter Tryz.func9, Tryz.ntmps9
  go_wp2_with fail
  refine (HL.out _ (((Kept.refl W).alloc _).alloc _)).mono ?_
  rintro e w1 ⟨v, l, rfl, how, hcor, k1⟩
  obtain ⟨ra, rc, rfl, hwq, hlc⟩ := how.form
  have hlen := (wl_words HSZ.out hwq hcor).2
  have hlt := how.lt
  have hk1 := k1.size
  simp at hk1
  have hps : ∀ x ∈ l, ∃ u, x.ps = rdP u := fun x hx => by
    have h1 : cor x ∈ (tks s.data.toList).map mkc := hcor ▸ List.mem_map_of_mem hx
    obtain ⟨y, _, hy⟩ := List.mem_map.1 h1
    unfold cor mkc at hy
    simp only [Prod.mk.injEq] at hy
    exact ⟨_, hy.2.2.2.2.symm⟩
  have hpx : w1.heap[W.heap.size + 1]? = some (.cells (cmL cm0).toArray 35 (0, 0)) := by
    rw [k1.block (W.heap.size + 1) (by simp)]
    have h := heap_new (W.alloc (.cells (cmL cm0).toArray 35)) (cmL cm0).toArray 35
    rw [show (W.alloc (.cells (cmL cm0).toArray 35)).heap.size = W.heap.size + 1 by simp] at h
    exact h
  rw [hlen] at hlc ⊢
  have hoff : ∀ x ∈ l, 0 < x.m → ∀ ad, x.a = some ad → ad.block ≠ W.heap.size + 1 ∧ ad.block < w1.heap.size := fun x hx hm ad ha => by
    obtain ⟨u, hu⟩ := hps x hx
    exact ⟨parts_off hpx (hwq.ps x hx) hu hm ha, (hwq.ps x hx).lt hm ad ha⟩
  obtain ⟨w2, hw2⟩ : ∃ w2, w2 = (w1.alloc (.cells #[.pointer (some ⟨pd, 0, none⟩), .slice ra (lineW s).length rc, .int .i64 0] 66)).alloc (.cells #[.pointer (some ⟨w1.heap.size, 0, none⟩)] 62) := ⟨_, rfl⟩
  have k12 : Kept w1 w2 := by rw [hw2]; exact ((Kept.refl w1).alloc _).alloc _
  have kW2 : Kept W w2 := (((((Kept.refl W).alloc _).alloc _).trans k1).trans k12)
  have HWQ : ∀ y, Chg (Two w1.heap.size (W.heap.size + 1)) w2 y → Wq y ra l := fun y hy => by
    refine hwq.chg (S := Two w1.heap.size (W.heap.size + 1)) ((Chg.of_kept k12).thn hy (fun _ _ e => e)) (fun hp ad ha => ?_) (fun x hx hm ad ha e => ?_)
    · subst ha
      have h1 := hlt ad.block rfl
      simp at h1
      intro e
      rcases e with e | e <;> omega
    · have h1 := hoff x hx hm ad ha
      rcases e with e | e <;> omega
  have hX : RX w2 w1.heap.size (W.heap.size + 1) pd ra rc ms ds (lineW s) := by
    refine ⟨fun y hy => ?_, HOK.out, fun y hy => (wl_words HSZ.out (HWQ y hy) hcor).1, hlc, ?_, (wl_words HSZ.out hwq hcor).1.sz⟩
    · obtain ⟨yy, tp, ma, mc, lv, sc, dv, hD⟩ := HD.out
      exact ⟨yy, tp, ma, mc, lv, sc, dv, hD.kept (Chg.kept kW2 hy (fun j hj => by rcases hj with e | e <;> omega))⟩
    · exact (wl_words HSZ.out hwq hcor).1.big
  have hVV : ∀ y, Chg (Two w1.heap.size (W.heap.size + 1)) w2 y → FV y := fun y hy => HV.out.kept (Chg.kept kW2 hy (fun j hj => by rcases hj with e | e <;> omega))
  have hcx : ∀ j u, (cmL cm0)[j]? = some u → w1.cell? ⟨W.heap.size + 1, j, none⟩ = some u := fun j u hu => by
    rw [cell_of_row w1 _ j _ _ _ hpx, ← hu]; simp
  have hfx : ∀ j, j < 12 → w2.frozen? ⟨W.heap.size + 1, j, none⟩ = false := fun j hj => by
    rw [k12.frozen (p := ⟨W.heap.size + 1, j, none⟩) (show W.heap.size + 1 < w1.heap.size by omega), k1.frozen (p := ⟨W.heap.size + 1, j, none⟩) (by simp)]
    exact World.frozen?_alloc_at _ _ _ _ (by simp)
  have hS : RS w2 w2 w1.heap.size (W.heap.size + 1) pd ra (lineW s).length rc (0, cm0) := by
    refine ⟨Chg.refl _ _, by omega, by rw [hw2]; simp, by rw [hw2]; simp, by rw [hw2]; simp, by rw [hw2]; simp, fun j u hu => k12.cellp (hcx j u hu), hfx, Nat.zero_le _⟩
  have HC := hidMk (rd_caught hX hVV hS (w1.heap.size + 1) ⟨by omega, by omega⟩ (by rw [hw2]; simp))
  have HK2 := hidMk kW2
  have HK1 := hidMk hk1
  have HRS := hidMk (show w2.rangeAt W.heap.size 0 (cmL cm0) ∧ w2.there W.heap.size 0 12 from by
    have hpr : w2.heap[W.heap.size]? = some (.cells (cmL cm0).toArray 35 (0, 0)) := by
      rw [k12.block W.heap.size (by omega), k1.block W.heap.size (by simp; omega)]
      rw [heap_old _ _ (by simp)]
      exact heap_new W (cmL cm0).toArray 35
    have h1 : w2.rangeAt W.heap.size 0 (cmL cm0) := fun j u hu => by
      rw [Nat.zero_add, cell_of_row w2 _ j _ _ _ hpr, ← hu]; simp
    refine ⟨h1, fun j hj => ⟨h1.isSome j hj, ?_⟩⟩
    rw [k12.frozen (p := ⟨W.heap.size, 0 + j, none⟩) (show W.heap.size < w1.heap.size by omega), k1.frozen (p := ⟨W.heap.size, 0 + j, none⟩) (by simp; omega)]
    rw [World.frozen?_alloc_past _ _ _ (by simp)]
    exact World.frozen?_alloc_at _ _ _ _ rfl)
  have HER := hidMk (fun p h => parseB_err (ms := ms) (ds := ds) (L := lineW s) (p := p) h)
  have HPB := hidMk (parseB_eq ms ds (lineW s))
  clear how hcor k1 hwq hlc HL hX hVV hcx hfx hS k12 kW2 hps hpx hoff HWQ hlt hk1
  generalize parseB ms ds (lineW s) = R at *
  go_wp2_with fail
  rw [← hw2]
  clear hw2
  refine HC.out.mono ?_
  rintro e w3 ⟨c3, hp⟩
  have HRG := hidMk (show w3.rangeAt W.heap.size 0 (cmL cm0) ∧ w3.there W.heap.size 0 12 from by
    have hn : ¬ Two w1.heap.size (W.heap.size + 1) W.heap.size := fun e => by
      have := HK1.out
      rcases e with e | e <;> omega
    have h1 : w3.rangeAt W.heap.size 0 (cmL cm0) := fun j u hu => c3.cellp (HRS.out.1 j u hu) hn
    refine ⟨h1, fun j hj => ⟨h1.isSome j hj, ?_⟩⟩
    rw [c3.frozen (p := ⟨W.heap.size, 0 + j, none⟩) (by
      have := cell_lt (HRS.out.1 0 _ rfl)
      exact this) hn]
    exact (HRS.out.2 j hj).2)
  have K3 := hidMk (Chg.kept HK2.out c3 (fun j hj => by have := HK1.out; rcases hj with e | e <;> omega))
  clear c3 HRS
  rcases R with p | s1
  · subst hp
    have he := HER.out p rfl
    have heb : (p.2 != 0) = true := by simpa using he
    have hQ := HPB.out
    simp only at hQ
    have HQ := hidMk hQ
    clear HPB HER he hQ
    obtain ⟨dd, hd1, hd2, hd3⟩ := cmd_type
    have HTY := hidMk (⟨hd1, hd2, hd3⟩ : _ ∧ _ ∧ _)
    obtain ⟨z, hz, hmb⟩ : ∃ z : Array Value, z = (cmL cm0).toArray ∧ ∀ (ev : Operand → Value) (ps : String) w, (execOp ev { dst := some 23, op := Op.build 35 #[], type := 35, pos := ps, after := #[], guard := none }).run Tryz.prog w = .ok (.value (.agg z)) w := ⟨_, rfl, fun ev ps w => by kernel_rfl⟩
    have HMB := hidMk hmb
    clear hmb
    have hzs : z.size = 12 := by rw [hz]; rfl
    have HZ := hidMk hz
    have HSI := hidMk (show (Tryz.prog.info? 35).map (·.size) = some z.size from by rw [hzs]; exact hd3)
    have HON := hidMk (show z.all (·.oneCell') = true from by rw [hz]; exact all_oneCell_toArray (fun v hv => by
        simp only [cmL, List.mem_cons, List.not_mem_nil, or_false] at hv
        rcases hv with rfl | rfl | rfl | rfl | rfl | rfl | rfl | rfl | rfl | rfl | rfl | rfl <;> rfl))
    have HTH := hidMk (show ∀ y, Kept (w3.alloc (.cells #[.int .i64 p.1, .int .i64 p.2] 68)) y → y.there W.heap.size 0 z.size from fun y hy => by
      rw [hzs]
      have ht := World.there_alloc HRG.out.2 (.cells #[.int .i64 p.1, .int .i64 p.2] 68)
      intro j hj
      obtain ⟨h1, h2⟩ := ht j hj
      obtain ⟨u, hu⟩ := Option.isSome_iff_exists.1 h1
      exact ⟨by rw [hy.cellp hu]; rfl, (hy.frozen (p := ⟨W.heap.size, 0 + j, none⟩) (cell_lt hu)).trans h2⟩)
    have HCO := hidMk (show ∀ y, Kept (w3.alloc (.cells #[.int .i64 p.1, .int .i64 p.2] 68)) y → (y.setCells W.heap.size 0 z.toList).cell? ⟨w3.heap.size, 0, none⟩ = some (.int .i64 p.1) ∧ (y.setCells W.heap.size 0 z.toList).cell? ⟨w3.heap.size, 1, none⟩ = some (.int .i64 p.2) from fun y hy => by
      have hl := cell_lt (HRG.out.1 0 _ rfl)
      have hl' : W.heap.size < w3.heap.size := hl
      have c0 : y.cell? ⟨w3.heap.size, 0, none⟩ = some (.int .i64 p.1) := hy.cellp (by simp)
      have c1 : y.cell? ⟨w3.heap.size, 1, none⟩ = some (.int .i64 p.2) := hy.cellp (by simp)
      exact ⟨(World.cell?_setCells_out _ _ _ _ _ (fun e => absurd (show w3.heap.size = W.heap.size from e) (by omega))).trans c0, (World.cell?_setCells_out _ _ _ _ _ (fun e => absurd (show w3.heap.size = W.heap.size from e) (by omega))).trans c1⟩)
    clear hd1 hd2 hd3 hz hzs
    go_wp2_with fail
    refine wp_region_held_drew (S := (fun w' => w'.cell? ⟨w3.heap.size, 0, none⟩ = some (.int .i64 p.1) ∧ w'.cell? ⟨w3.heap.size, 1, none⟩ = some (.int .i64 p.2))) (by kernel_rfl) ?_ (fun hHeld => ?_)
    · exact ⟨by simp, by simp⟩
    refine wpAnyH_take (i := 0) (oi := { dst := some 23, op := _, type := _, pos := _, after := _, guard := _ }) (v := ?_) rfl (by kernel_rfl) (by kernel_rfl) (by kernel_rfl) (fun _ _ _ h => h) (Or.inl ⟨by rfl, ?_⟩) (by assumption) ?_
    rotate_left
    · (intro w hSw; exact HMB.out _ _ w)
    (try simp only [Act.put, List.setIfInBounds_toArray, List.set_cons_zero, List.set_cons_succ])
    refine wpAnyH_take (i := 1) (oi := { dst := some 24, op := _, type := _, pos := _, after := _, guard := _ }) (v := ?_) rfl (by kernel_rfl) (by kernel_rfl) (by kernel_rfl) (fun _ _ _ h => h) (Or.inl ⟨by rfl, ?_⟩) (by assumption) ?_
    rotate_left
    · (intro w hSw; (try dsimp only at hSw); (try obtain ⟨hSw1, hSw2⟩ := hSw); go_simp; (try with_reducible rfl))
    (try simp only [Act.put, List.setIfInBounds_toArray, List.set_cons_zero, List.set_cons_succ])
    refine wpAnyH_take (i := 2) (oi := { dst := some 25, op := _, type := _, pos := _, after := _, guard := _ }) (v := ?_) rfl (by kernel_rfl) (by kernel_rfl) (by kernel_rfl) (fun _ _ _ h => h) (Or.inl ⟨by rfl, ?_⟩) (by assumption) ?_
    rotate_left
    · (intro w hSw; (try dsimp only at hSw); (try obtain ⟨hSw1, hSw2⟩ := hSw); go_simp; (try with_reducible rfl))
    (try simp only [Act.put, List.setIfInBounds_toArray, List.set_cons_zero, List.set_cons_succ])
    refine wpAnyH_take (i := 3) (oi := { dst := some 26, op := _, type := _, pos := _, after := _, guard := _ }) (v := ?_) rfl (by kernel_rfl) (by kernel_rfl) (by kernel_rfl) (fun _ _ _ h => h) (Or.inl ⟨by rfl, ?_⟩) (by assumption) ?_
    rotate_left
    · (intro w hSw; (try dsimp only at hSw); (try obtain ⟨hSw1, hSw2⟩ := hSw); go_simp; (try with_reducible rfl))
    (try simp only [Act.put, List.setIfInBounds_toArray, List.set_cons_zero, List.set_cons_succ])
    refine wpAnyH_take (i := 4) (oi := { dst := some 27, op := _, type := _, pos := _, after := _, guard := _ }) (v := ?_) rfl (by kernel_rfl) (by kernel_rfl) (by kernel_rfl) (fun _ _ _ h => h) (Or.inl ⟨by rfl, ?_⟩) (by assumption) ?_
    rotate_left
    · (intro w hSw; (try dsimp only at hSw); (try obtain ⟨hSw1, hSw2⟩ := hSw); go_simp; (try with_reducible rfl))
    (try simp only [Act.put, List.setIfInBounds_toArray, List.set_cons_zero, List.set_cons_succ])
    refine wpAnyH_ready (rs := [5]) (by kernel_rfl) (by simp) ?_
    refine AllReadyH.cons (o := { dst := none, op := _, type := _, pos := _, after := _, guard := _ }) rfl (fun K hK => ?_) AllReadyH.nil
    refine wp_store_mid 35 _ _ rfl W.heap.size 0 z rfl rfl (HTH.out _ (by (repeat (first | (with_reducible exact Kept.refl _) | (with_reducible refine Kept.alloc ?_ _) | (with_reducible refine Kept.drew ?_) | (with_reducible refine Kept.drewN ?_ _))))) HSI.out HON.out ?_
    refine hK.out _ _ ?_ (fun hHeld => ?_)
    · exact HCO.out _ (by (repeat (first | (with_reducible exact Kept.refl _) | (with_reducible refine Kept.alloc ?_ _) | (with_reducible refine Kept.drew ?_) | (with_reducible refine Kept.drewN ?_ _))))
    clear hK K
    (try simp only [Act.put, List.setIfInBounds_toArray, List.set_cons_zero, List.set_cons_succ])
    refine wpAnyH_take (i := 6) (oi := { dst := some 5, op := _, type := _, pos := _, after := _, guard := _ }) (v := ?_) rfl (by kernel_rfl) (by kernel_rfl) (by kernel_rfl) (fun _ _ _ h => h) (Or.inl ⟨by rfl, ?_⟩) (by assumption) ?_
    rotate_left
    · (intro w hSw; (try dsimp only at hSw); (try obtain ⟨hSw1, hSw2⟩ := hSw); go_simp; (try with_reducible rfl))
    (try simp only [Act.put, List.setIfInBounds_toArray, List.set_cons_zero, List.set_cons_succ])
    refine wpAnyH_take (i := 7) (oi := { dst := some 6, op := _, type := _, pos := _, after := _, guard := _ }) (v := ?_) rfl (by kernel_rfl) (by kernel_rfl) (by kernel_rfl) (fun _ _ _ h => h) (Or.inl ⟨by rfl, ?_⟩) (by assumption) ?_
    rotate_left
    · (intro w hSw; (try dsimp only at hSw); (try obtain ⟨hSw1, hSw2⟩ := hSw); go_simp; (try with_reducible rfl))
    (try simp only [Act.put, List.setIfInBounds_toArray, List.set_cons_zero, List.set_cons_succ])
    refine wpAnyH_done (by kernel_rfl) ?_ _
    go_wp2_with fail
    refine bodyPost_ret (results_c2 rfl _ _ W.heap.size (.agg z) rfl ?_) rfl ?_
    · have h := run_loadVar_mid (P := Tryz.prog) ((w3.alloc (.cells #[.int .i64 p.1, .int .i64 p.2] 68)).drew.setCells W.heap.size 0 z.toList) W.heap.size 0 35 z.toList dd (World.rangeAt_setCells_same _ _ _ _ (by simpa using HTH.out _ (by (repeat (first | (with_reducible exact Kept.refl _) | (with_reducible refine Kept.alloc ?_ _) | (with_reducible refine Kept.drew ?_) | (with_reducible refine Kept.drewN ?_ _)))))) HTY.out.1 HTY.out.2.1 (by rw [Array.length_toList]; exact HSI.out)
      simpa using h
    · refine ⟨by rw [HQ.out]; simp [cmV, HZ.out], ?_⟩
      exact kept_setCells (Nat.le_refl _) _ _ _ ((K3.out.alloc _).drew)
  · obtain ⟨rfl, s3⟩ := hp
    have hQ := HPB.out
    simp only at hQ
    have HQ := hidMk hQ
    have S3 := hidMk s3
    clear HPB HER s3 hQ
    have hrx : ∀ o : Obj, (w3.alloc o).rangeAt (W.heap.size + 1) 0 (cmL s1.2) := fun o => World.rangeAt_alloc (fun j u hu => by rw [Nat.zero_add]; exact S3.out.x j u hu) o
    have HRX := hidMk hrx
    obtain ⟨dd, hd1, hd2, hd3⟩ := cmd_type
    have HTY := hidMk (⟨hd1, hd2, hd3⟩ : _ ∧ _ ∧ _)
    clear hrx hd1 hd2 hd3
    generalize hgl : cmL s1.2 = cl at HRX
    have HGL := hidMk hgl
    clear hgl
    have HST := hidMk (show ∀ o : Obj, (w3.alloc o).there W.heap.size 0 cl.toArray.size ∧ cl.toArray.all (·.oneCell') = true from fun o => by
      have e : cl.toArray.size = 12 := by rw [← HGL.out]; rfl
      rw [e]
      refine ⟨World.there_alloc HRG.out.2 o, ?_⟩
      rw [← HGL.out]
      exact all_oneCell_toArray (fun v hv => by
        simp only [cmL, List.mem_cons, List.not_mem_nil, or_false] at hv
        rcases hv with rfl | rfl | rfl | rfl | rfl | rfl | rfl | rfl | rfl | rfl | rfl | rfl <;> rfl))
    have HSI := hidMk (show (Tryz.prog.info? 35).map (·.size) = some cl.toArray.size by rw [← HGL.out]; exact HTY.out.2.2)
    go_wp2_with (first | (refine wpList_load_mid rfl 35 _ rfl (W.heap.size + 1) 0 rfl cl dd (HRX.out _) HTY.out.1 HTY.out.2.1 (by rw [← HGL.out]; exact HTY.out.2.2) ?_) | (refine wpList_store_mid rfl 35 _ _ rfl W.heap.size 0 cl.toArray rfl rfl (HST.out _).1 HSI.out (HST.out (.cells #[] 0)).2 ?_))
    refine bodyPost_ret (results_c2 rfl _ _ W.heap.size _ rfl (run_loadVar_mid _ W.heap.size 0 35 cl dd (World.rangeAt_setCells_same _ _ _ _ (by simpa using (HST.out _).1)) HTY.out.1 HTY.out.2.1 (by rw [← HGL.out]; exact HTY.out.2.2))) rfl ?_
    refine ⟨by rw [← HGL.out, HQ.out]; simp [Act.put, cmV], ?_⟩
    exact kept_setCells (Nat.le_refl _) _ _ _ (K3.out.alloc _)
end Go.Proofs.YtpehinmckppjoaaGreatDoor
