/- The definition's Parse. -/
import Derived.Test.YtpehinmckppjoaaGreatDoorWPsN6B
import Derived.Test.YtpehinmckppjoaaGreatDoorWPsD
namespace Go.Proofs.YtpehinmckppjoaaGreatDoor
open Go.RowKit Go.Maps
set_option linter.unusedSimpArgs false
set_option linter.unusedVariables false

theorem there_chg {S : Nat → Prop} {w y : World} {b n : Nat} (h : w.there b 0 n) (k : Chg S w y) (hb : ¬ S b) : y.there b 0 n := fun j hj => by
  obtain ⟨h1, h2⟩ := h j hj
  obtain ⟨u, hu⟩ := Option.isSome_iff_exists.1 h1
  exact ⟨by rw [k.cellp hu hb]; rfl, (k.frozen (p := ⟨b, 0 + j, none⟩) (cell_lt hu) hb).trans h2⟩
theorem there12 {y : World} {b : Nat} (h : y.there b 0 12) : ∃ f : Nat → Value, ∀ j, j < 12 → y.cell? ⟨b, j, none⟩ = some (f j) ∧ y.frozen? ⟨b, j, none⟩ = false := by
  have h' : ∀ j, ∃ u, j < 12 → y.cell? ⟨b, j, none⟩ = some u ∧ y.frozen? ⟨b, j, none⟩ = false := fun j => by
    by_cases hj : j < 12
    · obtain ⟨h1, h2⟩ := h j hj
      obtain ⟨u, hu⟩ := Option.isSome_iff_exists.1 h1
      rw [Nat.zero_add] at hu h2
      exact ⟨u, fun _ => ⟨hu, h2⟩⟩
    · exact ⟨undef, fun h => absurd h hj⟩
  exact ⟨fun j => Classical.choose (h' j), fun j hj => Classical.choose_spec (h' j) hj⟩
theorem there_new (w : World) (x : Cm) (t : TypeId) : (w.alloc (.cells (cmL x).toArray t)).there w.heap.size 0 12 := fun j hj => by
  refine ⟨?_, World.frozen?_alloc_at _ _ _ _ rfl⟩
  rw [cell_of_row _ _ (0 + j) _ _ _ (heap_new w (cmL x).toArray t), Nat.zero_add]
  have : j < (cmL x).length := hj
  simp [List.getElem?_eq_getElem this]
theorem load_set {y : World} {b : Nat} (ht : y.there b 0 12) (x : Cm) : (loadVar 35 ⟨b, 0, none⟩).run Tryz.prog (y.setCells b 0 (cmL x)) = .ok (cmV x) (y.setCells b 0 (cmL x)) := by
  obtain ⟨dd, hd1, hd2, hd3⟩ := cmd_type
  exact run_loadVar_mid _ b 0 35 (cmL x) dd (World.rangeAt_setCells_same _ _ _ _ ht) hd1 hd2 hd3
theorem build_zero : ∀ (ev : Operand → Value) (d : Nat) (ps : String) w, (execOp ev { dst := some d, op := Op.build 35 #[], type := 35, pos := ps, after := #[], guard := none }).run Tryz.prog w = .ok (.value (.agg (cmL cm0).toArray)) w := fun ev d ps w => by kernel_rfl
theorem cm_one (x : Cm) : (cmL x).toArray.all (·.oneCell') = true := all_oneCell_toArray (fun v hv => by
  simp only [cmL, List.mem_cons, List.not_mem_nil, or_false] at hv
  rcases hv with rfl | rfl | rfl | rfl | rfl | rfl | rfl | rfl | rfl | rfl | rfl | rfl <;> rfl)
def outP (L : List ByteArray) (R : PR) : Cm × Int × Int := match R with
  | .error e => (cm0, e.1, e.2)
  | .ok s => if s.1 < L.length then (cm0, s.1, 6) else (s.2, 0, 0)
theorem parseP_some {ms : List ByteArray} {ds : List Dm} {L : List ByteArray} {t : ByteArray} (h : nx L 1 0 = some t) : parseP ms ds L = if kindI t = 0 then (cm0, 0, 6) else outP L (foldP ms ds L (shapeL (kindI t)) (1, { cm0 with k := kindI t })) := by
  unfold parseP
  simp only [h]
  rfl
theorem oneP_h {ms : List ByteArray} {ds : List Dm} {L : List ByteArray} (hok : CatOk ds ms) {b : Int} (hb : isLet b) {s s1 : Nat × Cm} (h : oneP ms ds L b s = .ok s1) (hs : s.1 ≤ L.length) (hne : b ≠ 104 ∧ b ≠ 109) : s1.2.h = s.2.h ∧ s1.1 ≤ L.length := by
  obtain ⟨l, _, o2, o3, _⟩ := oneB hok hb h hs (fun e => by omega)
  exact ⟨by rw [o2, bareO_h hne], o3⟩
set_option maxHeartbeats 8000000 in
set_option maxRecDepth 100000 in
theorem q_Parse {W : World} {pq : Nat} {ms : List ByteArray} {ds : List Dm} (hR : ∃ rt, RDm W pq ds rt ms) (hok : CatOk ds ms) (s : ByteArray) (hs : s.size ≤ 10000) :
    Calls Tryz.prog 10 #[.pointer (some ⟨pq, 0, none⟩), .string s] W fun e w' => e = .returned (.tuple #[cmV (parseP ms ds (lineW s)).1, .int .i64 (parseP ms ds (lineW s)).2.1, .int .i64 (parseP ms ds (lineW s)).2.2]) ∧ Kept W w' := by
  have HR := hidMk (show ∀ y, Kept W y → ∃ rt, RDm y pq ds rt ms from fun y hy => by
    obtain ⟨rt, h⟩ := hR
    exact ⟨rt, h.kept hy⟩)
  have HOK := hidMk hok
  have HSZ := hidMk hs
  have HL := hidMk (show ∀ y, Calls Tryz.prog 18 #[.string s] y (WordsP 77 s y) from fun y => ref28_Words s hs y)
  obtain ⟨P, hP⟩ : ∃ P, parseP ms ds (lineW s) = P := ⟨_, rfl⟩
  rw [hP]
  have HP := hidMk hP
  clear hR hok hs hP
  go_enter Tryz.func10, Tryz.ntmps10
  go_wp2_with fail
  refine (HL.out _).mono ?_
  rintro e w1 ⟨v, l, rfl, how, hcor, k1⟩
  obtain ⟨ra, rc, rfl, hwq, hlc⟩ := how.form
  obtain ⟨hwl, hlen⟩ := wl_words HSZ.out hwq hcor
  have HTN := hidMk (show w1.there W.heap.size 0 12 from there_chg (S := fun _ => False) (there_new W cm0 35) (Chg.of_kept k1) (fun e => e))
  have kW1 : Kept W w1 := ((Kept.refl W).alloc _).trans k1
  have hsz1 : W.heap.size < w1.heap.size := by have := k1.size; simp at this; omega
  have hlt := how.lt
  rw [hlen] at hlc ⊢
  have hps : ∀ x ∈ l, 0 < x.m → ∀ ad, x.a = some ad → ad.block < w1.heap.size := fun x hx hm ad ha => (hwq.ps x hx).lt hm ad ha
  have HWQ := hidMk (show ∀ y, Chg (· = w1.heap.size) w1 y → WL y ra (lineW s) from fun y hy => by
    have hq : Wq y ra l := hwq.chg (S := (· = w1.heap.size)) hy (fun hp ad ha => by
      subst ha
      have := (hlt ad.block rfl).2
      omega) (fun x hx hm ad ha e => by have := hps x hx hm ad ha; omega)
    exact (wl_words HSZ.out hq hcor).1)
  have HBG := hidMk (And.intro hwl.big (And.intro hlc hwl.sz))
  have HK1 := hidMk kW1
  have HS1 := hidMk hsz1
  clear how hcor k1 hwq hlen hlt hps hwl hlc kW1 hsz1 HL
  generalize lineW s = L at *
  go_wp2_with fail
  obtain ⟨w2, hw2⟩ : ∃ w2, w2 = w1.alloc (.cells #[.pointer (some ⟨pq, 0, none⟩), .slice ra L.length rc, .int .i64 0, .int .i64 0, .string ⟨#[]⟩, .string ⟨#[]⟩, .string ⟨#[]⟩, .int .i64 0, .int .i64 0, .int .i64 0, .int .i64 0, .int .i64 0, .int .i64 0, .int .i64 0, .int .i64 0] 75) := ⟨_, rfl⟩
  rw [← hw2]
  have k12 : Kept w1 w2 := by rw [hw2]; exact (Kept.refl w1).alloc _
  obtain ⟨pr, hpr⟩ : ∃ pr, pr = w1.heap.size := ⟨_, rfl⟩
  have hX : QX w2 pr pq ra rc ms ds L := by
    refine ⟨fun y hy => HR.out y (Chg.kept (HK1.out.trans k12) hy fun j e => ?_), HOK.out, fun y hy => HWQ.out y ?_, HBG.out.2.1, HBG.out.1, HBG.out.2.2⟩
    · have := HK1.out.size; omega
    · rw [← hpr]; exact (Chg.of_kept k12).trans hy
  have hS : QS w2 w2 pr pq ra L.length rc (0, cm0) := by
    refine ⟨Chg.refl _ _, by rw [hpr, hw2]; exact new_cell _ _ _ _ _ _ rfl rfl, by rw [hpr, hw2]; exact new_cell _ _ _ _ _ _ rfl rfl, by rw [hpr, hw2]; exact new_cell _ _ _ _ _ _ rfl rfl, fun j u hu => ?_, fun j hj => ?_, Nat.zero_le _⟩
    · rw [hpr, hw2]
      refine new_cell _ _ _ _ _ _ rfl ?_
      rw [← hu]
      have hj : j < 12 := (List.getElem?_eq_some_iff.1 hu).1
      rcases (by omega : j = 0 ∨ j = 1 ∨ j = 2 ∨ j = 3 ∨ j = 4 ∨ j = 5 ∨ j = 6 ∨ j = 7 ∨ j = 8 ∨ j = 9 ∨ j = 10 ∨ j = 11) with rfl | rfl | rfl | rfl | rfl | rfl | rfl | rfl | rfl | rfl | rfl | rfl <;> rfl
    · rw [hpr, hw2]
      exact World.frozen?_alloc_at _ _ _ _ rfl
  have HX := hidMk hX
  have HS := hidMk hS
  have HPR := hidMk (show W.heap.size < pr by rw [hpr]; exact HS1.out)
  have HT2 := hidMk (show ∀ y, Chg (· = pr) w2 y → y.there W.heap.size 0 12 from fun y hy => there_chg (there_chg (S := fun _ => False) HTN.out (Chg.of_kept k12) (fun e => e)) hy (by have := HPR.out; omega))
  have HKW := hidMk (show ∀ y, Chg (· = pr) w2 y → Kept W y from fun y hy => Chg.kept (HK1.out.trans k12) hy fun j e => by have := HPR.out; omega)
  rw [← hpr]
  clear hX hS hw2 k12 HR HWQ HBG HTN HK1 HS1 hpr
  have HLD := hidMk (fun (y : World) (hy : y.there W.heap.size 0 12) x => load_set hy x)
  obtain ⟨z, hz, hmb⟩ : ∃ z : Array Value, z = (cmL cm0).toArray ∧ ∀ (ev : Operand → Value) (d : Nat) (ps : String) w, (execOp ev { dst := some d, op := Op.build 35 #[], type := 35, pos := ps, after := #[], guard := none }).run Tryz.prog w = .ok (.value (.agg z)) w := ⟨_, rfl, build_zero⟩
  have hzs : z.size = 12 := by rw [hz]; rfl
  have hzl : z.toList = cmL cm0 := by rw [hz]
  have HMB := hidMk hmb
  have HZL := hidMk hzl
  have HSI := hidMk (show (Tryz.prog.info? 35).map (·.size) = some z.size from by rw [hzs]; exact cmd_type.elim fun _ h => h.2.2)
  have HON := hidMk (show z.all (·.oneCell') = true from by rw [hz]; exact cm_one cm0)
  have HZS := hidMk hzs
  have HRZ := hidMk (show ∀ y, Chg (· = pr) w2 y → (loadVar 35 ⟨W.heap.size, 0, none⟩).run Tryz.prog (y.setCells W.heap.size 0 z.toList) = .ok (cmV cm0) (y.setCells W.heap.size 0 z.toList) ∧ Kept W (y.setCells W.heap.size 0 z.toList) from fun y hy => by
    rw [HZL.out]
    exact ⟨HLD.out y (HT2.out y hy) cm0, kept_setCells (Nat.le_refl _) _ _ _ (HKW.out y hy)⟩)
  have HTZ := hidMk (show ∀ y, Chg (· = pr) w2 y → y.there W.heap.size 0 z.size from fun y hy => by rw [HZS.out]; exact HT2.out y hy)
  clear hz hmb hzs hzl
  cases hn : nx L 1 0 with
  | none =>
    have HP2 := hidMk (show P = (cm0, 0, 6) from by rw [← HP.out]; unfold parseP; simp only [hn])
    have HN := hidMk (q_next_no HX.out HS.out (kind := 1) hn)
    unfold wdZ at HN
    clear hn
    refine HN.out.mono ?_
    rintro e w3 ⟨rfl, k3⟩
    have K3 := hidMk k3
    clear k3
    obtain ⟨f, hf⟩ := there12 (HT2.out _ (Chg.of_kept K3.out))
    have c0 := fun ob => ((Kept.refl w3).alloc ob).cellp (hf 0 (by omega)).1
    have f0 := fun ob => (((Kept.refl w3).alloc ob).frozen (p := ⟨W.heap.size, 0, none⟩) (cell_lt (hf 0 (by omega)).1)).trans (hf 0 (by omega)).2
    have c1 := fun ob => ((Kept.refl w3).alloc ob).cellp (hf 1 (by omega)).1
    have f1 := fun ob => (((Kept.refl w3).alloc ob).frozen (p := ⟨W.heap.size, 1, none⟩) (cell_lt (hf 1 (by omega)).1)).trans (hf 1 (by omega)).2
    have c2 := fun ob => ((Kept.refl w3).alloc ob).cellp (hf 2 (by omega)).1
    have f2 := fun ob => (((Kept.refl w3).alloc ob).frozen (p := ⟨W.heap.size, 2, none⟩) (cell_lt (hf 2 (by omega)).1)).trans (hf 2 (by omega)).2
    have c3 := fun ob => ((Kept.refl w3).alloc ob).cellp (hf 3 (by omega)).1
    have f3 := fun ob => (((Kept.refl w3).alloc ob).frozen (p := ⟨W.heap.size, 3, none⟩) (cell_lt (hf 3 (by omega)).1)).trans (hf 3 (by omega)).2
    have c4 := fun ob => ((Kept.refl w3).alloc ob).cellp (hf 4 (by omega)).1
    have f4 := fun ob => (((Kept.refl w3).alloc ob).frozen (p := ⟨W.heap.size, 4, none⟩) (cell_lt (hf 4 (by omega)).1)).trans (hf 4 (by omega)).2
    have c5 := fun ob => ((Kept.refl w3).alloc ob).cellp (hf 5 (by omega)).1
    have f5 := fun ob => (((Kept.refl w3).alloc ob).frozen (p := ⟨W.heap.size, 5, none⟩) (cell_lt (hf 5 (by omega)).1)).trans (hf 5 (by omega)).2
    have c6 := fun ob => ((Kept.refl w3).alloc ob).cellp (hf 6 (by omega)).1
    have f6 := fun ob => (((Kept.refl w3).alloc ob).frozen (p := ⟨W.heap.size, 6, none⟩) (cell_lt (hf 6 (by omega)).1)).trans (hf 6 (by omega)).2
    have c7 := fun ob => ((Kept.refl w3).alloc ob).cellp (hf 7 (by omega)).1
    have f7 := fun ob => (((Kept.refl w3).alloc ob).frozen (p := ⟨W.heap.size, 7, none⟩) (cell_lt (hf 7 (by omega)).1)).trans (hf 7 (by omega)).2
    have c8 := fun ob => ((Kept.refl w3).alloc ob).cellp (hf 8 (by omega)).1
    have f8 := fun ob => (((Kept.refl w3).alloc ob).frozen (p := ⟨W.heap.size, 8, none⟩) (cell_lt (hf 8 (by omega)).1)).trans (hf 8 (by omega)).2
    have c9 := fun ob => ((Kept.refl w3).alloc ob).cellp (hf 9 (by omega)).1
    have f9 := fun ob => (((Kept.refl w3).alloc ob).frozen (p := ⟨W.heap.size, 9, none⟩) (cell_lt (hf 9 (by omega)).1)).trans (hf 9 (by omega)).2
    have c10 := fun ob => ((Kept.refl w3).alloc ob).cellp (hf 10 (by omega)).1
    have f10 := fun ob => (((Kept.refl w3).alloc ob).frozen (p := ⟨W.heap.size, 10, none⟩) (cell_lt (hf 10 (by omega)).1)).trans (hf 10 (by omega)).2
    have c11 := fun ob => ((Kept.refl w3).alloc ob).cellp (hf 11 (by omega)).1
    have f11 := fun ob => (((Kept.refl w3).alloc ob).frozen (p := ⟨W.heap.size, 11, none⟩) (cell_lt (hf 11 (by omega)).1)).trans (hf 11 (by omega)).2
    clear hf
    go_wp2_with fail
    refine bodyPost_ret (results_c2 rfl _ _ W.heap.size _ rfl (HLD.out _ (HT2.out _ (Chg.of_kept (K3.out.alloc _))) cm0)) rfl ?_
    refine ⟨by rw [HP2.out]; rfl, ?_⟩
    exact kept_setCells (Nat.le_refl _) (cmL cm0) 0 _ (HKW.out _ (Chg.of_kept (K3.out.alloc _)))
  | some t =>
    have HN := hidMk (q_next_yes HX.out HS.out (kind := 1) hn)
    obtain ⟨k, hk⟩ : ∃ k, kindI t = k := ⟨_, rfl⟩
    have HKD := hidMk (fun y => q_Kind y t)
    rw [hk] at HKD
    have HKI := hidMk (show 0 ≤ k ∧ k ≤ 18 from by rw [← hk]; exact kindI_le t)
    have HP2 := hidMk (show P = if k = 0 then (cm0, 0, 6) else outP L (foldP ms ds L (shapeL k) (1, { cm0 with k := k })) from by rw [← HP.out, ← hk]; exact parseP_some hn)
    have HLL := hidMk (nx_some hn).1
    clear hn hk HP
    refine HN.out.mono ?_
    rintro e w3 ⟨wx, rfl, _, _, k3⟩
    have K3 := hidMk k3
    clear k3 HN
    by_cases hk0 : k = 0
    · have HP3 := hidMk (show P = (cm0, 0, 6) from by rw [HP2.out, if_pos hk0])
      subst hk0
      clear HP2
      go_wp2_with fail
      refine (HKD.out _).mono ?_
      rintro e w4 ⟨rfl, k4⟩
      have K4 := hidMk ((K3.out.alloc _).trans k4)
      clear k4
      obtain ⟨f, hf⟩ := there12 (HT2.out _ (Chg.of_kept K4.out))
      have c0 := (hf 0 (by omega)).1
      have f0 := (hf 0 (by omega)).2
      have c1 := (hf 1 (by omega)).1
      have f1 := (hf 1 (by omega)).2
      have c2 := (hf 2 (by omega)).1
      have f2 := (hf 2 (by omega)).2
      have c3 := (hf 3 (by omega)).1
      have f3 := (hf 3 (by omega)).2
      have c4 := (hf 4 (by omega)).1
      have f4 := (hf 4 (by omega)).2
      have c5 := (hf 5 (by omega)).1
      have f5 := (hf 5 (by omega)).2
      have c6 := (hf 6 (by omega)).1
      have f6 := (hf 6 (by omega)).2
      have c7 := (hf 7 (by omega)).1
      have f7 := (hf 7 (by omega)).2
      have c8 := (hf 8 (by omega)).1
      have f8 := (hf 8 (by omega)).2
      have c9 := (hf 9 (by omega)).1
      have f9 := (hf 9 (by omega)).2
      have c10 := (hf 10 (by omega)).1
      have f10 := (hf 10 (by omega)).2
      have c11 := (hf 11 (by omega)).1
      have f11 := (hf 11 (by omega)).2
      clear hf
      go_wp2_with fail
      refine bodyPost_ret (results_c2 rfl _ _ W.heap.size _ rfl (HLD.out _ (HT2.out _ (Chg.of_kept K4.out)) cm0)) rfl ?_
      refine ⟨by rw [HP3.out]; rfl, ?_⟩
      exact kept_setCells (Nat.le_refl _) (cmL cm0) 0 _ (HKW.out _ (Chg.of_kept K4.out))
    have hkb : (k == 0) = false := by simpa using hk0
    have hkd : decide (k = 0) = false := by simpa using hk0
    obtain ⟨R, hRr⟩ : ∃ R, foldP ms ds L (shapeL k) (1, { cm0 with k := k }) = R := ⟨_, rfl⟩
    have HP3 := hidMk (show P = outP L R from by rw [HP2.out, if_neg hk0, hRr])
    have HRR := hidMk hRr
    have HSH := hidMk (show ∀ y, Calls Tryz.prog 29 #[.int .i64 k] y fun e w' => e = .returned (.string (shS k)) ∧ w' = y from fun y => q_shape y k)
    have HSB := hidMk (sh_bat k)
    have HLC := hidMk (shape_last k)
    have HS5 := hidMk (show (shapeL k).length ≤ 5 from by rcases shape_cases k with h | h | h | h | h | h | h | h | h <;> rw [h] <;> decide)
    have hsz := (HSB.out 0).2
    clear hk0 HP2 hRr
    go_wp2_with fail
    refine (HKD.out _).mono ?_
    rintro e w4 ⟨rfl, k4⟩
    have y1 : w4.cell? ⟨w3.heap.size, 1, none⟩ = some (.string t) := k4.cellp (new_cell _ _ _ _ _ _ rfl rfl)
    have K4 := hidMk ((K3.out.alloc _).trans k4)
    clear k4
    go_wp2_with fail
    refine (HKD.out _).mono ?_
    rintro e w5 ⟨rfl, k5⟩
    have S5 := hidMk (HS.out.keep (K4.out.trans k5))
    have K5 := hidMk (K4.out.trans k5)
    have x0 : w5.cell? ⟨pr, 3, none⟩ = some (.int .i64 0) := S5.out.x 0 _ rfl
    have x2 := S5.out.at_
    have f3 := S5.out.fr 3 (by omega)
    have f2 := S5.out.fr 2 (by omega)
    simp only at x2
    have S6 := hidMk ((S5.out.setX (x := { cm0 with k := k }) (o := 0) (v := .int .i64 k) (by omega) rfl).setAt 1 (by have := HLL.out; omega))
    have C6 := hidMk (show Chg (· = pr) w2 ((w5.setCell ⟨pr, 3, none⟩ (.int .i64 k)).setCell ⟨pr, 2, none⟩ (.int .i64 1)) from chg_step (Chg.of_kept K5.out) 3 (.int .i64 k) (.int .i64 1))
    clear k5 y1
    go_wp2_with fail
    refine (HSH.out _).mono ?_
    rintro e w6 ⟨rfl, hw6⟩
    rw [hw6]
    clear hw6 w6
    have S7 := hidMk (show QS w2 ((w5.setCell ⟨pr, 3, none⟩ (.int .i64 k)).setCell ⟨pr, 2, none⟩ (.int .i64 1)) pr pq ra L.length rc (1, { cm0 with k := k }) from S6.out)
    clear x0 x2 f3 f2 S6
    generalize ((w5.setCell ⟨pr, 3, none⟩ (.int .i64 k)).setCell ⟨pr, 2, none⟩ (.int .i64 1)) = w6 at *
    generalize hsh : shapeL k = bs at *
    go_wp2_with fail
    go_loopg [11] bs.length (fun gg x wr => ∃ (i : Nat) (s' : Nat × Cm), i + gg = bs.length ∧ x = .int .i64 i ∧ Hid (QS w2 wr pr pq ra L.length rc s') ∧ Hid (foldP ms ds L (bs.drop i) s' = R) ∧ Hid (lastC (bs.drop i)) ∧ Hid (0 < (bs.drop i).length → s'.2.h = 0))
    case atStart => exact ⟨0, _, by omega, rfl, S7, HRR, HLC, hidMk fun _ => rfl⟩
    case round =>
      obtain ⟨i, s', hkg, rfl, HS', HF, HLA, HH⟩ := hrel
      have HKG := hidMk hkg
      by_cases hi : i < bs.length
      · have hi1 : (i : Int) < ((shS k).size : Int) := by rw [hsz]; omega
        have HG1 := hidMk (show 1 ≤ gk by omega)
        have hi5 : (i : Int) ≤ 5 := by have := HS5.out; omega
        have hd : bs.drop i = bs.getD i 0 :: bs.drop (i + 1) := by rw [List.drop_eq_getElem_cons hi, List.getD_eq_getElem?_getD, List.getElem?_eq_getElem hi]; rfl
        have hbt := (HSB.out i).1
        have hlc := HLA.out
        have hff := HF.out
        have hh := HH.out (by rw [hd]; simp)
        rw [hd] at hlc hff
        obtain ⟨hlet, hch, _, hlr⟩ := hlc
        have HON1 := hidMk (q_one HX.out HS'.out hlet (by rw [hh]; decide))
        have hru := fun w => run_at Tryz.underlying9 (shS k) .i64 i (by rw [hsz]; exact hi) w
        rw [hbt] at hru
        have HNX := hidMk (show (match oneP ms ds L (bs.getD i 0) s' with | .error e => .error e | .ok s1 => foldP ms ds L (bs.drop (i + 1)) s1) = R from hff)
        have HHN := hidMk (show ∀ s1, oneP ms ds L (bs.getD i 0) s' = .ok s1 → 0 < (bs.drop (i + 1)).length → s1.2.h = 0 from fun s1 h1 h2 => by
          have hne : bs.getD i 0 ≠ 104 ∧ bs.getD i 0 ≠ 109 := by
            refine ⟨fun e => ?_, fun e => ?_⟩
            · rw [hch (.inl e)] at h2; simp at h2
            · rw [hch (.inr e)] at h2; simp at h2
          rw [(oneP_h HOK.out hlet h1 HS'.out.le hne).1]
          exact hh)
        have HLR := hidMk hlr
        clear hd hff hch hlr hlet hh hbt hkg
        generalize bs.getD i 0 = b at *
        cases hq : oneP ms ds L b s' with
        | error p =>
          have hrr := HNX.out
          rw [hq] at hrr
          simp only at hrr
          subst hrr
          rw [hq] at HON1
          have hp3 : P = (cm0, p.1, p.2) := HP3.out
          have HP4 := hidMk hp3
          have hpe := oneP_err hq
          have hpb : (p.2 != 0) = true := by simpa using hpe
          clear hq HNX HHN HP3 hp3 hpe
          go_wp2_with fail
          refine HON1.out.mono ?_
          rintro e w7 ⟨c7, rfl, s7, h7, hat⟩
          have C7 := hidMk (HS'.out.kept.trans c7)
          have QA := h7.at_
          rw [hat] at QA
          have QAT := hidMk (fun y (hy : Kept w7 y) => hy.cellp QA)
          have HTH := hidMk (fun y (hy : Kept w7 y) => HTZ.out y (chg_kept1 C7.out hy))
          have HCO := hidMk (show ∀ y, Kept w7 y → (y.setCells W.heap.size 0 z.toList).cell? ⟨pr, 2, none⟩ = some (.int .i64 p.1) from fun y hy => (World.cell?_setCells_out _ _ _ _ _ (fun e => absurd (show pr = W.heap.size from e) (by have := HPR.out; omega))).trans (hy.cellp QA))
          clear c7 h7 hat QA
          go_wp2_with fail
          refine wp_region_held_drew (S := (fun w' => w'.cell? ⟨pr, 2, none⟩ = some (.int .i64 p.1))) (by kernel_rfl) ?_ (fun hHeld => ?_)
          · exact QAT.out _ (by (repeat (first | (with_reducible exact Kept.refl _) | (with_reducible refine Kept.alloc ?_ _) | (with_reducible refine Kept.drew ?_) | (with_reducible refine Kept.drewN ?_ _))))
          refine wpAnyH_take (i := 0) (oi := { dst := some 61, op := _, type := _, pos := _, after := _, guard := _ }) (v := ?_) rfl (by kernel_rfl) (by kernel_rfl) (by kernel_rfl) (fun _ _ _ h => h) (Or.inl ⟨by rfl, ?_⟩) (by assumption) ?_
          rotate_left
          · (intro w hSw; exact HMB.out _ _ _ w)
          (try simp only [Act.put, List.setIfInBounds_toArray, List.set_cons_zero, List.set_cons_succ])
          refine wpAnyH_take (i := 1) (oi := { dst := some 62, op := _, type := _, pos := _, after := _, guard := _ }) (v := ?_) rfl (by kernel_rfl) (by kernel_rfl) (by kernel_rfl) (fun _ _ _ h => h) (Or.inl ⟨by rfl, ?_⟩) (by assumption) ?_
          rotate_left
          · (intro w hSw; (try dsimp only at hSw); go_simp; (try with_reducible rfl))
          (try simp only [Act.put, List.setIfInBounds_toArray, List.set_cons_zero, List.set_cons_succ])
          refine wpAnyH_take (i := 2) (oi := { dst := some 63, op := _, type := _, pos := _, after := _, guard := _ }) (v := ?_) rfl (by kernel_rfl) (by kernel_rfl) (by kernel_rfl) (fun _ _ _ h => h) (Or.inl ⟨by rfl, ?_⟩) (by assumption) ?_
          rotate_left
          · (intro w hSw; (try dsimp only at hSw); go_simp; (try with_reducible rfl))
          (try simp only [Act.put, List.setIfInBounds_toArray, List.set_cons_zero, List.set_cons_succ])
          refine wpAnyH_take (i := 3) (oi := { dst := some 64, op := _, type := _, pos := _, after := _, guard := _ }) (v := ?_) rfl (by kernel_rfl) (by kernel_rfl) (by kernel_rfl) (fun _ _ _ h => h) (Or.inl ⟨by rfl, ?_⟩) (by assumption) ?_
          rotate_left
          · (intro w hSw; (try dsimp only at hSw); go_simp; (try with_reducible rfl))
          (try simp only [Act.put, List.setIfInBounds_toArray, List.set_cons_zero, List.set_cons_succ])
          refine wpAnyH_take (i := 4) (oi := { dst := some 65, op := _, type := _, pos := _, after := _, guard := _ }) (v := ?_) rfl (by kernel_rfl) (by kernel_rfl) (by kernel_rfl) (fun _ _ _ h => h) (Or.inl ⟨by rfl, ?_⟩) (by assumption) ?_
          rotate_left
          · (intro w hSw; (try dsimp only at hSw); go_simp; (try with_reducible rfl))
          (try simp only [Act.put, List.setIfInBounds_toArray, List.set_cons_zero, List.set_cons_succ])
          refine wpAnyH_take (i := 5) (oi := { dst := some 66, op := _, type := _, pos := _, after := _, guard := _ }) (v := ?_) rfl (by kernel_rfl) (by kernel_rfl) (by kernel_rfl) (fun _ _ _ h => h) (Or.inl ⟨by rfl, ?_⟩) (by assumption) ?_
          rotate_left
          · (intro w hSw; (try dsimp only at hSw); go_simp; (try with_reducible rfl))
          (try simp only [Act.put, List.setIfInBounds_toArray, List.set_cons_zero, List.set_cons_succ])
          refine wpAnyH_ready (rs := [6]) (by kernel_rfl) (by simp) ?_
          refine AllReadyH.cons (o := { dst := none, op := _, type := _, pos := _, after := _, guard := _ }) rfl (fun K hK => ?_) AllReadyH.nil
          refine wp_store_mid 35 _ _ rfl W.heap.size 0 z rfl rfl (HTH.out _ (by (repeat (first | (with_reducible exact Kept.refl _) | (with_reducible refine Kept.alloc ?_ _) | (with_reducible refine Kept.drew ?_) | (with_reducible refine Kept.drewN ?_ _))))) HSI.out HON.out ?_
          refine hK.out _ _ ?_ (fun hHeld => ?_)
          · exact HCO.out _ (by (repeat (first | (with_reducible exact Kept.refl _) | (with_reducible refine Kept.alloc ?_ _) | (with_reducible refine Kept.drew ?_) | (with_reducible refine Kept.drewN ?_ _))))
          clear hK K
          (try simp only [Act.put, List.setIfInBounds_toArray, List.set_cons_zero, List.set_cons_succ])
          refine wpAnyH_take (i := 7) (oi := { dst := some 5, op := _, type := _, pos := _, after := _, guard := _ }) (v := ?_) rfl (by kernel_rfl) (by kernel_rfl) (by kernel_rfl) (fun _ _ _ h => h) (Or.inl ⟨by rfl, ?_⟩) (by assumption) ?_
          rotate_left
          · (intro w hSw; (try dsimp only at hSw); go_simp; (try with_reducible rfl))
          (try simp only [Act.put, List.setIfInBounds_toArray, List.set_cons_zero, List.set_cons_succ])
          refine wpAnyH_take (i := 8) (oi := { dst := some 6, op := _, type := _, pos := _, after := _, guard := _ }) (v := ?_) rfl (by kernel_rfl) (by kernel_rfl) (by kernel_rfl) (fun _ _ _ h => h) (Or.inl ⟨by rfl, ?_⟩) (by assumption) ?_
          rotate_left
          · (intro w hSw; (try dsimp only at hSw); go_simp; (try with_reducible rfl))
          (try simp only [Act.put, List.setIfInBounds_toArray, List.set_cons_zero, List.set_cons_succ])
          refine wpAnyH_done (by kernel_rfl) ?_ _
          go_wp2_with fail
          refine bodyPost_ret (results_c2 rfl _ _ W.heap.size _ rfl (HRZ.out _ (chg_kept1 C7.out (by (repeat (first | (with_reducible exact Kept.refl _) | (with_reducible refine Kept.alloc ?_ _) | (with_reducible refine Kept.drew ?_) | (with_reducible refine Kept.drewN ?_ _)))))).1) rfl ?_
          exact ⟨by rw [HP4.out]; rfl, (HRZ.out _ (chg_kept1 C7.out (by (repeat (first | (with_reducible exact Kept.refl _) | (with_reducible refine Kept.alloc ?_ _) | (with_reducible refine Kept.drew ?_) | (with_reducible refine Kept.drewN ?_ _)))))).2⟩
        | ok s1 =>
          rw [hq] at HON1
          have HNX2 := hidMk (show foldP ms ds L (bs.drop (i + 1)) s1 = R by have h := HNX.out; rw [hq] at h; exact h)
          have HHN2 := hidMk (HHN.out s1 hq)
          clear hq HNX HHN
          go_wp2_with fail
          refine HON1.out.mono ?_
          rintro e w7 ⟨c7, rfl, s7⟩
          have S7' := hidMk s7
          clear c7 s7
          go_wp2_with fail
          go_roundg (gk - 1)
          case measure => have := HKG.out; have := HG1.out; omega
          case rel => exact ⟨i + 1, s1, by have := HKG.out; have := HG1.out; omega, by go_num, S7', HNX2, HLR, HHN2⟩
      · have hi1 : ¬ (i : Int) < ((shS k).size : Int) := by rw [hsz]; omega
        have hff := HF.out
        rw [List.drop_eq_nil_of_le (by omega)] at hff
        unfold foldP at hff
        subst hff
        have hp3 : P = if s'.1 < L.length then (cm0, (s'.1 : Int), 6) else (s'.2, 0, 0) := HP3.out
        have HP4 := hidMk hp3
        have q1 := HS'.out.ws
        have q2 := HS'.out.at_
        have hle := HS'.out.le
        have C7 := hidMk HS'.out.kept
        clear HP3 hp3 hkg
        by_cases hl : s'.1 < L.length
        · have hl1 : (s'.1 : Int) < (L.length : Int) := by omega
          have HP5 := hidMk (show P = (cm0, (s'.1 : Int), 6) by rw [HP4.out, if_pos hl])
          have QAT := hidMk (fun y (hy : Kept wr y) => hy.cellp q2)
          have HTH := hidMk (fun y (hy : Kept wr y) => HTZ.out y (chg_kept1 C7.out hy))
          have HCO := hidMk (show ∀ y, Kept wr y → (y.setCells W.heap.size 0 z.toList).cell? ⟨pr, 2, none⟩ = some (.int .i64 s'.1) from fun y hy => (World.cell?_setCells_out _ _ _ _ _ (fun e => absurd (show pr = W.heap.size from e) (by have := HPR.out; omega))).trans (hy.cellp q2))
          clear HP4
          go_wp2_with fail
          go_quiet (fail)
          go_wp2_with fail
          refine wp_region_held_drew (S := (fun w' => w'.cell? ⟨pr, 2, none⟩ = some (.int .i64 s'.1))) (by kernel_rfl) ?_ (fun hHeld => ?_)
          · exact QAT.out _ (by (repeat (first | (with_reducible exact Kept.refl _) | (with_reducible refine Kept.alloc ?_ _) | (with_reducible refine Kept.drew ?_) | (with_reducible refine Kept.drewN ?_ _))))
          refine wpAnyH_take (i := 0) (oi := { dst := some 77, op := _, type := _, pos := _, after := _, guard := _ }) (v := ?_) rfl (by kernel_rfl) (by kernel_rfl) (by kernel_rfl) (fun _ _ _ h => h) (Or.inl ⟨by rfl, ?_⟩) (by assumption) ?_
          rotate_left
          · (intro w hSw; exact HMB.out _ _ _ w)
          (try simp only [Act.put, List.setIfInBounds_toArray, List.set_cons_zero, List.set_cons_succ])
          refine wpAnyH_take (i := 1) (oi := { dst := some 78, op := _, type := _, pos := _, after := _, guard := _ }) (v := ?_) rfl (by kernel_rfl) (by kernel_rfl) (by kernel_rfl) (fun _ _ _ h => h) (Or.inl ⟨by rfl, ?_⟩) (by assumption) ?_
          rotate_left
          · (intro w hSw; (try dsimp only at hSw); go_simp; (try with_reducible rfl))
          (try simp only [Act.put, List.setIfInBounds_toArray, List.set_cons_zero, List.set_cons_succ])
          refine wpAnyH_take (i := 2) (oi := { dst := some 79, op := _, type := _, pos := _, after := _, guard := _ }) (v := ?_) rfl (by kernel_rfl) (by kernel_rfl) (by kernel_rfl) (fun _ _ _ h => h) (Or.inl ⟨by rfl, ?_⟩) (by assumption) ?_
          rotate_left
          · (intro w hSw; (try dsimp only at hSw); go_simp; (try with_reducible rfl))
          (try simp only [Act.put, List.setIfInBounds_toArray, List.set_cons_zero, List.set_cons_succ])
          refine wpAnyH_take (i := 3) (oi := { dst := some 80, op := _, type := _, pos := _, after := _, guard := _ }) (v := ?_) rfl (by kernel_rfl) (by kernel_rfl) (by kernel_rfl) (fun _ _ _ h => h) (Or.inl ⟨by rfl, ?_⟩) (by assumption) ?_
          rotate_left
          · (intro w hSw; (try dsimp only at hSw); go_simp; (try with_reducible rfl))
          (try simp only [Act.put, List.setIfInBounds_toArray, List.set_cons_zero, List.set_cons_succ])
          refine wpAnyH_take (i := 4) (oi := { dst := some 81, op := _, type := _, pos := _, after := _, guard := _ }) (v := ?_) rfl (by kernel_rfl) (by kernel_rfl) (by kernel_rfl) (fun _ _ _ h => h) (Or.inl ⟨by rfl, ?_⟩) (by assumption) ?_
          rotate_left
          · (intro w hSw; (try dsimp only at hSw); go_simp; (try with_reducible rfl))
          (try simp only [Act.put, List.setIfInBounds_toArray, List.set_cons_zero, List.set_cons_succ])
          refine wpAnyH_ready (rs := [5]) (by kernel_rfl) (by simp) ?_
          refine AllReadyH.cons (o := { dst := none, op := _, type := _, pos := _, after := _, guard := _ }) rfl (fun K hK => ?_) AllReadyH.nil
          refine wp_store_mid 35 _ _ rfl W.heap.size 0 z rfl rfl (HTH.out _ (by (repeat (first | (with_reducible exact Kept.refl _) | (with_reducible refine Kept.alloc ?_ _) | (with_reducible refine Kept.drew ?_) | (with_reducible refine Kept.drewN ?_ _))))) HSI.out HON.out ?_
          refine hK.out _ _ ?_ (fun hHeld => ?_)
          · exact HCO.out _ (by (repeat (first | (with_reducible exact Kept.refl _) | (with_reducible refine Kept.alloc ?_ _) | (with_reducible refine Kept.drew ?_) | (with_reducible refine Kept.drewN ?_ _))))
          clear hK K
          (try simp only [Act.put, List.setIfInBounds_toArray, List.set_cons_zero, List.set_cons_succ])
          refine wpAnyH_take (i := 6) (oi := { dst := some 5, op := _, type := _, pos := _, after := _, guard := _ }) (v := ?_) rfl (by kernel_rfl) (by kernel_rfl) (by kernel_rfl) (fun _ _ _ h => h) (Or.inl ⟨by rfl, ?_⟩) (by assumption) ?_
          rotate_left
          · (intro w hSw; (try dsimp only at hSw); go_simp; (try with_reducible rfl))
          (try simp only [Act.put, List.setIfInBounds_toArray, List.set_cons_zero, List.set_cons_succ])
          refine wpAnyH_take (i := 7) (oi := { dst := some 6, op := _, type := _, pos := _, after := _, guard := _ }) (v := ?_) rfl (by kernel_rfl) (by kernel_rfl) (by kernel_rfl) (fun _ _ _ h => h) (Or.inl ⟨by rfl, ?_⟩) (by assumption) ?_
          rotate_left
          · (intro w hSw; (try dsimp only at hSw); go_simp; (try with_reducible rfl))
          (try simp only [Act.put, List.setIfInBounds_toArray, List.set_cons_zero, List.set_cons_succ])
          refine wpAnyH_done (by kernel_rfl) ?_ _
          go_wp2_with fail
          refine bodyPost_ret (results_c2 rfl _ _ W.heap.size _ rfl (HRZ.out _ (chg_kept1 C7.out (by (repeat (first | (with_reducible exact Kept.refl _) | (with_reducible refine Kept.alloc ?_ _) | (with_reducible refine Kept.drew ?_) | (with_reducible refine Kept.drewN ?_ _)))))).1) rfl ?_
          exact ⟨by rw [HP5.out]; rfl, (HRZ.out _ (chg_kept1 C7.out (by (repeat (first | (with_reducible exact Kept.refl _) | (with_reducible refine Kept.alloc ?_ _) | (with_reducible refine Kept.drew ?_) | (with_reducible refine Kept.drewN ?_ _)))))).2⟩
        · have hl1 : ¬ (s'.1 : Int) < (L.length : Int) := by omega
          have HP5 := hidMk (show P = (s'.2, 0, 0) by rw [HP4.out, if_neg hl])
          obtain ⟨cl, hcl⟩ : ∃ cl, cmL s'.2 = cl := ⟨_, rfl⟩
          have HRX := hidMk (show ∀ y, Kept wr y → y.rangeAt pr 3 cl from fun y hy j u hu => hy.cellp (HS'.out.x j u (hcl ▸ hu)))
          obtain ⟨dd, hd1, hd2, hd3⟩ := cmd_type
          have HTY := hidMk (And.intro hd1 (And.intro hd2 hd3))
          have HCS := hidMk (show (cl.length = 12 ∧ cl.toArray.all (·.oneCell') = true) from by rw [← hcl]; exact ⟨rfl, cm_one _⟩)
          have HT3 := hidMk (show ∀ n, (wr.drewN n).there W.heap.size 0 cl.toArray.size from fun n => by
            have e : cl.toArray.size = 12 := by rw [List.size_toArray, HCS.out.1]
            rw [e]
            exact HT2.out _ (chg_kept1 C7.out ((Kept.refl _).drewN _)))
          have HSI2 := hidMk (show (Tryz.prog.info? 35).map (·.size) = some cl.toArray.size from by rw [List.size_toArray, HCS.out.1]; exact hd3)
          have HLX := hidMk (show ∀ y : World, y.there W.heap.size 0 12 → (loadVar 35 ⟨W.heap.size, 0, none⟩).run Tryz.prog (y.setCells W.heap.size 0 cl) = .ok (cmV s'.2) (y.setCells W.heap.size 0 cl) from fun y hy => by rw [← hcl]; exact HLD.out y hy s'.2)
          clear HP4 hd1 hd2 hd3 hcl
          go_wp2_with fail
          go_quiet (fail)
          go_wp2_with (first | (refine wpList_load_mid rfl 35 _ rfl pr 3 rfl cl dd (HRX.out _ ((Kept.refl _).drewN _)) HTY.out.1 HTY.out.2.1 (by rw [HCS.out.1]; exact HTY.out.2.2) ?_) | (refine wpList_store_mid rfl 35 _ _ rfl W.heap.size 0 cl.toArray rfl rfl (HT3.out _) HSI2.out HCS.out.2 ?_))
          refine bodyPost_ret (results_c2 rfl _ _ W.heap.size _ rfl (HLX.out _ (HT2.out _ (chg_kept1 C7.out ((Kept.refl _).drewN _))))) rfl ?_
          refine ⟨by rw [HP5.out]; rfl, ?_⟩
          exact kept_setCells (Nat.le_refl _) cl 0 _ (HKW.out _ (chg_kept1 C7.out ((Kept.refl _).drewN _)))

end Go.Proofs.YtpehinmckppjoaaGreatDoor
