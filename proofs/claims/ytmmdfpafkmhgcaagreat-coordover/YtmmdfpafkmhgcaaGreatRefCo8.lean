/- The definition's space: Under. -/
import Derived.Test.YtmmdfpafkmhgcaaGreatCoLw
namespace Go.Proofs.YtmmdfpafkmhgcaaGreat
open Go.RowKit Go.Maps
set_option linter.unusedSimpArgs false
set_option linter.unusedVariables false

theorem mulK_le {f : Nat → Int} {m : Int} (hm : 0 ≤ m ∧ m ≤ 4) (hf : ∀ k, 0 ≤ f k ∧ f k ≤ 60) : 0 ≤ mulK f m 4 ∧ mulK f m 4 ≤ 51840000 := by
  have st : ∀ (a b B : Int), 0 ≤ a ∧ a ≤ B → 0 ≤ b ∧ b ≤ 60 → 0 ≤ a * b ∧ a * b ≤ B * 60 := fun a b B h1 h2 =>
    ⟨Int.mul_nonneg h1.1 h2.1, Int.mul_le_mul h1.2 h2.2 h2.1 (Int.le_trans h1.1 h1.2)⟩
  have h1 := st _ _ _ hm (hf 0)
  have h2 := st _ _ _ h1 (hf 1)
  have h3 := st _ _ _ h2 (hf 2)
  have h4 := st _ _ _ h3 (hf 3)
  show 0 ≤ m * f 0 * f 1 * f 2 * f 3 ∧ m * f 0 * f 1 * f 2 * f 3 ≤ 51840000
  omega
section
variable {ds : List Dm} {ms : List ByteArray}
theorem leas60 (h : Ct ds ms) (k : Nat) : 0 ≤ (leas ds k : Int) ∧ (leas ds k : Int) ≤ 60 := by
  unfold leas; split
  · next e => have h1 := lvs_len (h.tr k e); have h2 := h.le k e; omega
  · omega
theorem many60 (h : Ct ds ms) (k : Nat) : 0 ≤ (many ds k : Int) ∧ (many ds k : Int) ≤ 60 := by
  unfold many; split
  · next e => have h2 := h.le k e; omega
  · omega
/-- The leaves within a cell, of the first i. -/
def undF (ms : List ByteArray) (ds : List Dm) (cm : Int) (at_ : Nat → Int) (i : Nat) : List Int := (rngI 0 i).filter fun n => decide (n ∈ undL ms ds cm at_)
theorem undF_len (cm : Int) (at_ : Nat → Int) (i : Nat) : (undF ms ds cm at_ i).length ≤ i := by
  have := List.length_filter_le (fun n => decide (n ∈ undL ms ds cm at_)) (rngI 0 i)
  rw [rngI_len] at this
  exact this
theorem undF_yes {cm : Int} {at_ : Nat → Int} {i : Nat} (h : (i : Int) ∈ undL ms ds cm at_) : undF ms ds cm at_ (i + 1) = undF ms ds cm at_ i ++ [(i : Int)] := by
  unfold undF
  rw [rngI_succ, List.filter_append, Int.zero_add]
  simp [h]
theorem undF_no {cm : Int} {at_ : Nat → Int} {i : Nat} (h : ¬ (i : Int) ∈ undL ms ds cm at_) : undF ms ds cm at_ (i + 1) = undF ms ds cm at_ i := by
  unfold undF
  rw [rngI_succ, List.filter_append, Int.zero_add]
  simp [h]
theorem undF_all (h : Ct ds ms) (cm : Int) (at_ : Nat → Int) {L : Nat} (hL : mulK (fun k => leas ds k) ms.length 4 = L) : undF ms ds cm at_ L = undL ms ds cm at_ := by
  refine rise_ext (List.Pairwise.filter _ ?_) (und_rise h cm at_) (fun x => ?_)
  · unfold rngI
    rw [List.pairwise_map]
    exact List.Pairwise.imp (fun h => by omega) List.pairwise_lt_range
  · unfold undF
    rw [List.mem_filter]
    simp only [decide_eq_true_eq]
    refine ⟨fun h => h.2, fun hx => ⟨?_, hx⟩⟩
    have h1 := ((mem_und h).1 hx).1
    unfold okC at h1
    rw [hL] at h1
    unfold rngI
    rw [List.mem_map]
    exact ⟨x.toNat, List.mem_range.2 (by omega), by omega⟩
end
theorem made_at (w : World) (z : Value) (M : Nat) (t : TypeId) {g i : Nat} (hg : g = w.heap.size) (hi : i < M) : (w.alloc (.cells (madeCells #[z] M) t)).cell? ⟨g, i, none⟩ = some z := by
  refine new_cell w _ t g i z hg ?_
  have h1 : (madeCells #[z] M).toList[i]? = some z := by rw [toList_madeCells_one, List.getElem?_replicate, if_pos hi]
  simpa using h1
theorem zeroB : (Tryz.prog.info? 4).map (fun i => (i.zero, i.size, i.bytes)) = some (some (.bool false), 1, 1) := by kernel_rfl
theorem run_makeB (n : Nat) (hn : n ≤ 51840000) (w : World) : (Instr.makeSlice 64 (.int .i64 n) (.int .i64 n)).run Tryz.prog w = .ok (.slice (some ⟨w.heap.size, 0, none⟩) n n) (w.alloc (.cells (madeCells #[.bool false] n) 4)) := by
  obtain ⟨i0, hi0, hz0, hz1, hz2⟩ := info_parts zeroB
  have h := run_make (P := Tryz.prog) w 64 4 i0 _ Tryz.underlying64 hi0 hz0 .i64 .i64 n n (by omega) (by omega) (by rw [hz2]; omega) (by omega)
  rw [h, hz1]
  simp [Value.cells]
theorem zeroL : (Tryz.prog.info? 40).map (fun i => (i.zero, i.size, i.bytes)) = some (some (.slice none 0 0), 1, 24) := by kernel_rfl
theorem run_makeL (n : Nat) (hn : n ≤ 51840000) (w : World) : (Instr.makeSlice 62 (.int .i64 n) (.int .i64 n)).run Tryz.prog w = .ok (.slice (some ⟨w.heap.size, 0, none⟩) n n) (w.alloc (.cells (madeCells #[.slice none 0 0] n) 40)) := by
  obtain ⟨i0, hi0, hz0, hz1, hz2⟩ := info_parts zeroL
  have h := run_make (P := Tryz.prog) w 62 40 i0 _ Tryz.underlying62 hi0 hz0 .i64 .i64 n n (by omega) (by omega) (by rw [hz2]; omega) (by omega)
  rw [h, hz1]
  simp [Value.cells]
section
variable {W0 X Y Z : World} {r q : Nat} {ds : List Dm} {ms : List ByteArray} {rt : Nat → Nat} {y4 y5 : Value} {pp : Option (Nat × Nat)} {B H : Nat}
theorem RQ.put5 (h : RQ W0 r q ds y4 y5 pp X) (hr : r = W0.heap.size) (v : Value) : RQ W0 r q ds y4 v pp (X.setCell ⟨r, 5, none⟩ v) := by
  have k : Chg (fun j => j = r) X (X.setCell ⟨r, 5, none⟩ v) := (Chg.refl (fun j => j = r) X).setCell (p := ⟨r, 5, none⟩) (.inl rfl) v
  have o : ∀ i, i ≠ 5 → (X.setCell ⟨r, 5, none⟩ v).cell? ⟨r, i, none⟩ = X.cell? ⟨r, i, none⟩ := fun i hi => World.cell?_setCell_other _ _ _ _ (by intro e; injection e with _ e1 _; omega)
  refine ⟨Chg.kept h.kp k (fun j e => by omega), (o 0 (by omega)).trans h.c0, (o 4 (by omega)).trans h.c4, World.cell?_setCell_same _ _ _ h.c5, fun j => by rw [World.frozen?_setCell]; exact h.fz j, fun e => ⟨(o 1 (by omega)).trans (h.tn e).1, (o 2 (by omega)).trans (h.tn e).2.1, (o 3 (by omega)).trans (h.tn e).2.2⟩, fun B H e => ?_⟩
  obtain ⟨h1, v1, v2, v3, x1, x2, x3, l1, l2, l3, t1, t2, t3, a1, a2, a3, hT⟩ := h.tb B H e
  exact ⟨h1, v1, v2, v3, x1, x2, x3, l1, l2, l3, t1, t2, t3, (o 1 (by omega)).trans a1, (o 2 (by omega)).trans a2, (o 3 (by omega)).trans a3, hT.chg k (fun j h2 h3 e' => by omega)⟩
theorem RQ.put4 (h : RQ W0 r q ds y4 y5 pp X) (hr : r = W0.heap.size) (v : Value) : RQ W0 r q ds v y5 pp (X.setCell ⟨r, 4, none⟩ v) := by
  have k : Chg (fun j => j = r) X (X.setCell ⟨r, 4, none⟩ v) := (Chg.refl (fun j => j = r) X).setCell (p := ⟨r, 4, none⟩) (.inl rfl) v
  have o : ∀ i, i ≠ 4 → (X.setCell ⟨r, 4, none⟩ v).cell? ⟨r, i, none⟩ = X.cell? ⟨r, i, none⟩ := fun i hi => World.cell?_setCell_other _ _ _ _ (by intro e; injection e with _ e1 _; omega)
  refine ⟨Chg.kept h.kp k (fun j e => by omega), (o 0 (by omega)).trans h.c0, World.cell?_setCell_same _ _ _ h.c4, (o 5 (by omega)).trans h.c5, fun j => by rw [World.frozen?_setCell]; exact h.fz j, fun e => ⟨(o 1 (by omega)).trans (h.tn e).1, (o 2 (by omega)).trans (h.tn e).2.1, (o 3 (by omega)).trans (h.tn e).2.2⟩, fun B H e => ?_⟩
  obtain ⟨h1, v1, v2, v3, x1, x2, x3, l1, l2, l3, t1, t2, t3, a1, a2, a3, hT⟩ := h.tb B H e
  exact ⟨h1, v1, v2, v3, x1, x2, x3, l1, l2, l3, t1, t2, t3, (o 1 (by omega)).trans a1, (o 2 (by omega)).trans a2, (o 3 (by omega)).trans a3, hT.chg k (fun j h2 h3 e' => by omega)⟩
/-- What the definition's Under answers. -/
def UnR (W0 : World) (r q : Nat) (ds : List Dm) (l : List Int) (X : World) (e : Ending) (w' : World) : Prop := ∃ v y4 y5 pp, e = .returned v ∧ OwnI w' X.heap.size v l ∧ RQ W0 r q ds y4 y5 pp w' ∧ Chg (fun j => j = r) X w'
set_option maxHeartbeats 8000000 in
set_option maxRecDepth 100000 in
theorem r7_Under (hE : RE W0 r q ds ms rt) (h : RQ W0 r q ds (.slice none 0 0) (.slice none 0 0) pp X) (cm : Int) (at_ : Nat → Int) : Calls Tryz.prog 24 #[.pointer (some ⟨r, 0, none⟩), cellV cm at_] X (UnR W0 r q ds (undL ms ds cm at_) X) := by
  obtain ⟨cb, hcb⟩ : ∃ x, x = X.heap.size := ⟨_, rfl⟩
  obtain ⟨W1, hW1⟩ : ∃ V, V = X.alloc (.cells #[.int .i64 cm, .int .i64 (at_ 0), .int .i64 (at_ 1), .int .i64 (at_ 2), .int .i64 (at_ 3)] 28) := ⟨_, rfl⟩
  have k1 : Kept X W1 := by rw [hW1]; exact (Kept.refl X).alloc _
  have HK1 := hidMk k1
  have HCC := hidMk (show C5 cb cm at_ W1 from by rw [hW1, hcb]; exact C5.new _ _ _ _)
  have HNR := hidMk (show cb ≠ r from by have := h.lt; omega)
  have HE := hidMk hE
  have HQ1 := hidMk (h.keep k1)
  have HRX := hidMk h.lt
  have HQX := hidMk h
  have HIX := hidMk (r7_Index hE (h.keep k1) cm at_)
  clear h k1
  unfold cellV at *
  by_cases hr1 : rightB ms ds cm at_ = true
  · rw [if_pos hr1] at HIX
    obtain ⟨hmm, hat⟩ := right_iff.1 hr1
    obtain ⟨M, hM⟩ : ∃ M : Nat, mulK (fun k => many ds k) ms.length 4 = M := ⟨(mulK (fun k => many ds k) ms.length 4).toNat, by have := (mulK_le (f := fun k => many ds k) (m := ms.length) (by have := hE.ct.m4; omega) (fun k => many60 hE.ct k)).1; omega⟩
    have hM5 : M ≤ 51840000 := by have := (mulK_le (f := fun k => many ds k) (m := ms.length) (by have := hE.ct.m4; omega) (fun k => many60 hE.ct k)).2; omega
    obtain ⟨L, hL⟩ : ∃ L : Nat, mulK (fun k => leas ds k) ms.length 4 = L := ⟨(mulK (fun k => leas ds k) ms.length 4).toNat, by have := (mulK_le (f := fun k => leas ds k) (m := ms.length) (by have := hE.ct.m4; omega) (fun k => leas60 hE.ct k)).1; omega⟩
    have hL5 : L ≤ 51840000 := by have := (mulK_le (f := fun k => leas ds k) (m := ms.length) (by have := hE.ct.m4; omega) (fun k => leas60 hE.ct k)).2; omega
    have ha4 : ∀ k, 0 ≤ atc at_ k ∧ atc at_ k < (many ds k : Int) := fun k => by
      unfold atc
      by_cases c : k < 4
      · rw [if_pos c]; exact hat k c
      · rw [if_neg c]; have := hE.ct.many k; omega
    have hN0 := num_nonneg (f := fun k => many ds k) hmm.1 (fun k => (many60 hE.ct k).1) (fun k => (ha4 k).1) 4
    have hN1 := num_lt_mul (f := fun k => many ds k) hmm.2 ha4 4
    rw [atc_num] at hN0 hN1
    rw [hM] at hN1
    obtain ⟨N, hN⟩ : ∃ N : Nat, numK (fun k => many ds k) at_ cm 4 = N := ⟨_, (Int.toNat_of_nonneg hN0).symm⟩
    rw [hN] at HIX hN1
    have hNM : N < M := by omega
    have HL := hidMk hL
    have HCE := hidMk (show ∀ Y y4 y5 p, RQ W0 r q ds y4 y5 p Y → _ from fun Y y4 y5 p hq => r7_Cells hE hq)
    have HLE := hidMk (show ∀ Y y4 y5 p, RQ W0 r q ds y4 y5 p Y → _ from fun Y y4 y5 p hq => r7_Leaves hE hq)
    have HIN := hidMk (show ∀ Y y4 y5 p, RQ W0 r q ds y4 y5 p Y → ∀ n, _ from fun Y y4 y5 p hq n => r7_Inside hE hq cm at_ n)
    have HAL := hidMk (undF_all hE.ct cm at_ hL)
    have HMU := hidMk (show ∀ n, (okC ms ds n ∧ inC ms ds (prQ (fun k => leas ds k) n 4) (lfF ds n ds.length) cm at_) ↔ n ∈ undL ms ds cm at_ from fun n => (mem_und hE.ct).symm)
    have HRR := hidMk hE.rr
    simp only [hM] at HCE
    simp only [hL] at HLE
    unfold cellV at HIN
    have mkB := run_makeB M hM5
    have mkL := run_makeL M hM5
    clear hN hN0 hM hL hat ha4 hmm hE hN1
    go_enter Tryz.func24, Tryz.ntmps24
    obtain ⟨a0, a1, a2, a3, a4⟩ := HCC.out
    rw [hW1, hcb] at a0 a1 a2 a3 a4
    go_wp2_with fail
    rw [← hW1, ← hcb]
    clear a0 a1 a2 a3 a4
    refine HIX.out.mono ?_
    rintro e w2 ⟨rfl, k2⟩
    have HQ2 := hidMk (HQ1.out.keep k2)
    have HC2 := hidMk (HCC.out.kept k2)
    have HX2 := hidMk (HK1.out.trans k2)
    clear k2 HCC HQ1 HIX hW1 hcb
    have hn0 : ¬ ((N : Int) < 0) := by omega
    have c5 := HQ2.out.c5
    go_wp2_with fail
    refine (HCE.out _ _ _ _ HQ2.out).mono ?_
    rintro e w3 ⟨rfl, k3⟩
    have HQ3 := hidMk (HQ2.out.keep k3)
    have HC3 := hidMk (HC2.out.kept k3)
    have HX3 := hidMk (HX2.out.trans k3)
    clear k3 c5 HQ2 HC2 HX2
    obtain ⟨kb, hkb⟩ : ∃ x, x = w3.heap.size := ⟨_, rfl⟩
    obtain ⟨W4, hW4⟩ : ∃ V, V = (w3.alloc (.cells (madeCells #[.bool false] M) 4)).setCell ⟨r, 5, none⟩ (.slice (some ⟨w3.heap.size, 0, none⟩) M M) := ⟨_, rfl⟩
    have hq3 := HQ3.out.keep ((Kept.refl w3).alloc (.cells (madeCells #[.bool false] M) 4))
    have HQ4 := hidMk (show RQ W0 r q ds (.slice none 0 0) (.slice (some ⟨kb, 0, none⟩) M M) pp W4 from by rw [hW4, hkb]; exact hq3.put5 HRR.out _)
    have HK4 := hidMk (show W4.cell? ⟨kb, N, none⟩ = some (.bool false) ∧ W4.frozen? ⟨kb, N, none⟩ = false from by
      have hne : kb ≠ r := by have := HQ3.out.lt; omega
      rw [hW4]
      refine ⟨?_, ?_⟩
      · rw [World.cell?_setCell_other _ _ _ _ (by intro e; injection e with e1 _ _; omega)]
        exact made_at _ _ _ _ hkb hNM
      · rw [World.frozen?_setCell]
        exact new_frozen _ _ _ hkb N)
    have hx4 : Chg (fun j => j = r) X W4 := by rw [hW4]; exact ((Chg.of_kept (S := fun j => j = r) HX3.out).alloc _).setCell (p := ⟨r, 5, none⟩) (.inl rfl) _
    have hc4 : Chg (fun j => j = r) w3 W4 := by rw [hW4]; exact ((Chg.refl (fun j => j = r) w3).alloc _).setCell (p := ⟨r, 5, none⟩) (.inl rfl) _
    have HC4 := hidMk (HC3.out.chg hc4 HNR.out)
    have HX4 := hidMk hx4
    have HKB := hidMk (show kb < W4.heap.size ∧ X.heap.size ≤ kb from by
      refine ⟨?_, by have := HX3.out.size; omega⟩
      exact cell_lt (p := ⟨kb, N, none⟩) HK4.out.1)
    have c5 := hq3.c5
    have f5 := hq3.fz 5
    clear hq3 hx4 hc4 HQ3 HC3
    go_wp2_with fail
    rw [← hW4, ← hkb]
    clear hW4 hkb c5 f5 HX3
    refine (HCE.out _ _ _ _ HQ4.out).mono ?_
    rintro e w5 ⟨rfl, k5⟩
    have HQ5 := hidMk (HQ4.out.keep k5)
    have HC5 := hidMk (HC4.out.kept k5)
    have HK5 := hidMk (show w5.cell? ⟨kb, N, none⟩ = some (.bool false) ∧ w5.frozen? ⟨kb, N, none⟩ = false from ⟨k5.cellp HK4.out.1, (k5.frozen (p := ⟨kb, N, none⟩) HKB.out.1).trans HK4.out.2⟩)
    have HX5 := hidMk (HX4.out.trans (Chg.of_kept k5))
    have HKB5 := hidMk (show kb < w5.heap.size from Nat.lt_of_lt_of_le HKB.out.1 k5.size)
    clear k5 HQ4 HC4 HK4 HX4
    obtain ⟨ub, hub⟩ : ∃ x, x = w5.heap.size := ⟨_, rfl⟩
    obtain ⟨W6, hW6⟩ : ∃ V, V = (w5.alloc (.cells (madeCells #[.slice none 0 0] M) 40)).setCell ⟨r, 4, none⟩ (.slice (some ⟨w5.heap.size, 0, none⟩) M M) := ⟨_, rfl⟩
    have hq5 := HQ5.out.keep ((Kept.refl w5).alloc (.cells (madeCells #[.slice none 0 0] M) 40))
    have HQ6 := hidMk (show RQ W0 r q ds (.slice (some ⟨ub, 0, none⟩) M M) (.slice (some ⟨kb, 0, none⟩) M M) pp W6 from by rw [hW6, hub]; exact hq5.put4 HRR.out _)
    have hc6 : Chg (fun j => j = r) w5 W6 := by rw [hW6]; exact ((Chg.refl (fun j => j = r) w5).alloc _).setCell (p := ⟨r, 4, none⟩) (.inl rfl) _
    have HKR := hidMk (show kb ≠ r ∧ ub ≠ r ∧ kb ≠ ub from by have h1 := HQ5.out.lt; have h2 := HKB.out.2; have h3 := HRX.out; have h4 := HKB5.out; omega)
    have HU6 := hidMk (show (W6.cell? ⟨kb, N, none⟩ = some (.bool false) ∧ W6.frozen? ⟨kb, N, none⟩ = false) ∧ W6.cell? ⟨ub, N, none⟩ = some (.slice none 0 0) ∧ W6.frozen? ⟨ub, N, none⟩ = false from by
      obtain ⟨n1, n2, n3⟩ := HKR.out
      refine ⟨⟨hc6.cellp HK5.out.1 n1, (hc6.frozen (p := ⟨kb, N, none⟩) HKB5.out n1).trans HK5.out.2⟩, ?_⟩
      rw [hW6]
      refine ⟨?_, ?_⟩
      · rw [World.cell?_setCell_other _ _ _ _ (by intro e; injection e with e1 _ _; omega)]
        exact made_at _ _ _ _ hub hNM
      · rw [World.frozen?_setCell]
        exact new_frozen _ _ _ hub N)
    have HC6 := hidMk (HC5.out.chg hc6 HNR.out)
    have HX6 := hidMk (HX5.out.trans hc6)
    have HUB := hidMk (show (kb < W6.heap.size ∧ X.heap.size ≤ kb) ∧ ub < W6.heap.size ∧ X.heap.size ≤ ub from ⟨⟨Nat.lt_of_lt_of_le HKB5.out hc6.size, HKB.out.2⟩, cell_lt (p := ⟨ub, N, none⟩) HU6.out.2.1, by have := HX5.out.size; omega⟩)
    have c4 := hq5.c4
    have f4 := hq5.fz 4
    have c5 : ((w5.alloc (.cells (madeCells #[.slice none 0 0] M) 40)).setCell ⟨r, 4, none⟩ (.slice (some ⟨w5.heap.size, 0, none⟩) M M)).cell? ⟨r, 5, none⟩ = some (.slice (some ⟨kb, 0, none⟩) M M) := by rw [← hW6]; exact HQ6.out.c5
    have kc : ((w5.alloc (.cells (madeCells #[.slice none 0 0] M) 40)).setCell ⟨r, 4, none⟩ (.slice (some ⟨w5.heap.size, 0, none⟩) M M)).cell? ⟨kb, N, none⟩ = some (.bool false) := by rw [← hW6]; exact HU6.out.1.1
    have hNM' : (N : Int) < (M : Int) := by omega
    clear hq5 hc6 HQ5 HC5 HK5 HX5 HKB5 HKB
    go_wp2_with fail
    rw [← hW6]
    clear hW6 hub c4 f4 c5 kc mkB mkL
    refine (HLE.out _ _ _ _ HQ6.out).mono ?_
    rintro e w7 ⟨rfl, ⟨B, H, hq7, hnx⟩, hc7⟩
    have HQ7 := hidMk hq7
    have HNX := hidMk hnx
    have HU7 := hidMk (show (w7.cell? ⟨kb, N, none⟩ = some (.bool false) ∧ w7.frozen? ⟨kb, N, none⟩ = false) ∧ w7.cell? ⟨ub, N, none⟩ = some (.slice none 0 0) ∧ w7.frozen? ⟨ub, N, none⟩ = false from by
      obtain ⟨n1, n2, n3⟩ := HKR.out
      obtain ⟨⟨u1, u2⟩, u3, u4⟩ := HU6.out
      exact ⟨⟨hc7.cellp u1 n1, (hc7.frozen (p := ⟨kb, N, none⟩) HUB.out.1.1 n1).trans u2⟩, hc7.cellp u3 n2, (hc7.frozen (p := ⟨ub, N, none⟩) HUB.out.2.1 n2).trans u4⟩)
    have HC7 := hidMk (HC6.out.chg hc7 HNR.out)
    have HX7 := hidMk (HX6.out.trans hc7)
    have HS7 := hidMk hc7.size
    clear hq7 hnx hc7 HU6 HC6 HX6 HCE HLE
    go_wp2_with fail
    go_loopg [6, 8] (L + 1) (fun gg sv x wr => ∃ i : Nat, i + gg = L + 1 ∧ i ≤ L ∧ x = .int .i64 i ∧ Hid (OwnI wr w7.heap.size sv (undF ms ds cm at_ i) ∧ RQ W0 r q ds (.slice (some ⟨ub, 0, none⟩) M M) (.slice (some ⟨kb, 0, none⟩) M M) (some (B, H)) wr ∧ Chg (fun j => j = r) w7 wr))
    case atStart => exact ⟨0, by omega, by omega, rfl, hidMk ⟨ownI_nil _ _, HQ7.out, Chg.refl _ _⟩⟩
    case round =>
      obtain ⟨i, hig, hiL, rfl, HS⟩ := hrel
      have HG := hidMk hig
      clear hig
      obtain ⟨lf, hlf⟩ : ∃ x, x = undF ms ds cm at_ i := ⟨_, rfl⟩
      have hfl : lf.length ≤ i := by rw [hlf]; exact undF_len cm at_ i
      rw [← hlf] at HS
      have HLF := hidMk hlf
      clear hlf
      obtain ⟨sa, sc, hsv, hsl⟩ := HS.out.1.sl (by unfold maxLen; omega)
      subst hsv
      clear hsl
      by_cases hi : i < L
      · have hi' : (i : Int) < (L : Int) := by omega
        obtain ⟨a0, a1, a2, a3, a4⟩ := HC7.out.chg HS.out.2.2 HNR.out
        have HIC := hidMk (HIN.out _ _ _ _ HS.out.2.1 (i : Int))
        go_wp2_with fail
        refine HIC.out.mono ?_
        rintro e w8 ⟨bb, rfl, hb, ⟨p8, hq8, hnx8⟩, hc8⟩
        have hp8 := hnx8.same
        subst hp8
        have hown : ∀ g, (Value.slice sa lf.length sc).ownBlock = some g → w7.heap.size ≤ g ∧ g ≠ r := fun g hg => ⟨(HS.out.1.lt g hg).1, by have h1 := (HS.out.1.lt g hg).1; have h2 := HQ7.out.lt; omega⟩
        have HO8 := hidMk (HS.out.1.chg hc8 (fun g hg => (hown g hg).2))
        have HOW := hidMk hown
        have HQ8 := hidMk hq8
        have HX8 := hidMk (HS.out.2.2.trans hc8)
        have HB := hidMk (hb.trans (HMU.out (i : Int)))
        clear hb hq8 hnx8 hc8 HIC HS a0 a1 a2 a3 a4 hown
        cases bb with
        | false =>
          go_wp2_with fail
          go_roundg (gk - 1)
          case measure => have := HG.out; omega
          case rel => exact ⟨i + 1, by have := HG.out; omega, by omega, by go_num, hidMk ⟨by
            rw [undF_no (fun e => by have := HB.out.2 e; cases this), ← HLF.out]; exact HO8.out, HQ8.out, HX8.out⟩⟩
        | true =>
          have HS8 := hidMk HX8.out.size
          go_wp2_with (at_builtin; refine wpList_pushI _ (by rfl) _ _ (by rfl) w7.heap.size (.slice sa lf.length sc) lf (by rfl) (HO8.out.chg (S := fun _ => False) (Chg.of_kept ((Kept.refl _).alloc _)) (fun _ _ e => e)) (by have := HS8.out; simp; omega) w8.heap.size (i : Int) (by rfl) (by simp) (by omega) (w8.heap.size + 1) (by simp) ?_; intro g6 cap6 w6 o6 k6 a6 l6; have H6 := hidMk o6; have K6 := hidMk k6; clear o6 k6 a6 l6)
          go_roundg (gk - 1)
          case measure => have := HG.out; omega
          case rel =>
            have hhole := HQ7.out.hole rfl
            refine ⟨i + 1, by have := HG.out; omega, by omega, by go_num, hidMk ⟨?_, ?_, ?_⟩⟩
            · rw [undF_yes (by have h9 := HB.out; simpa using h9), ← HLF.out]; exact H6.out
            · refine (HQ8.out.keep ((Kept.refl _).alloc _)).chg K6.out (fun j e => ?_) (fun B' H' e j e2 hh => ?_)
              · have h1 := HOW.out j e; have h2 := HQ7.out.lt; have h3 := HRR.out; omega
              · cases e
                have h1 := HOW.out j e2; omega
            · exact (HX8.out.alloc _).thn2 K6.out (fun j hj e => by have h1 := HOW.out j e; omega)
      · have hie : i = L := by omega
        subst hie
        have hi' : ¬ ((i : Int) < (i : Int)) := by omega
        have hq9 := HS.out.2.1
        have hc9 := HS.out.2.2
        obtain ⟨n1, n2, n3⟩ := HKR.out
        obtain ⟨⟨b1, b2⟩, b3, b4⟩ := HUB.out
        have h7 := HS7.out
        obtain ⟨⟨u1, u2⟩, u3, u4⟩ := HU7.out
        have x5 := hq9.c5
        have kc := hc9.cellp u1 n1
        have kf := (hc9.frozen (p := ⟨kb, N, none⟩) (by show kb < _; omega) n1).trans u2
        have x4 : (wr.setCell ⟨kb, N, none⟩ (.bool true)).cell? ⟨r, 4, none⟩ = some (.slice (some ⟨ub, 0, none⟩) M M) := (World.cell?_setCell_other _ _ _ _ (by intro e; injection e with e1 _ _; omega)).trans hq9.c4
        have uc : (wr.setCell ⟨kb, N, none⟩ (.bool true)).cell? ⟨ub, N, none⟩ = some (.slice none 0 0) := (World.cell?_setCell_other _ _ _ _ (by intro e; injection e with e1 _ _; omega)).trans (hc9.cellp u3 n2)
        have uf := (hc9.frozen (p := ⟨ub, N, none⟩) (by show ub < _; omega) n2).trans u4
        have HN1 := hidMk (show kb ≠ r ∧ ub ≠ r ∧ kb ≠ ub from ⟨n1, n2, n3⟩)
        clear n1 n2 n3 b1 b2 b3 b4 h7 u1 u2 u3 u4 hq9 hc9
        go_wp2_with fail
        go_ret
        clear x5 kc kf x4 uc uf
        obtain ⟨n1, n2, n3⟩ := HN1.out
        obtain ⟨⟨b1, b2⟩, b3, b4⟩ := HUB.out
        have h7 := HS7.out
        have hhole : ∀ j, X.heap.size ≤ j → j < W6.heap.size → ¬ (B ≤ j ∧ j < H) := fun j h1 h2 hh => by
          rcases HNX.out.get rfl with e | e
          · have := (HQX.out.hole e).2; omega
          · omega
        have hr0 := HRR.out
        have hrx := HRX.out
        have cS : Chg (fun j => j = kb ∨ j = ub) wr ((wr.setCell ⟨kb, N, none⟩ (.bool true)).setCell ⟨ub, N, none⟩ (.slice sa lf.length sc)) := ((Chg.refl (fun j => j = kb ∨ j = ub) wr).setCell (p := ⟨kb, N, none⟩) (.inl (.inl rfl)) _).setCell (p := ⟨ub, N, none⟩) (.inl (.inr rfl)) _
        refine ⟨_, _, _, _, rfl, ?_, HS.out.2.1.chg cS (fun j e => ?_) (fun B' H' e j e2 => ?_), ?_⟩
        · rw [← HAL.out, ← HLF.out]
          refine (HS.out.1.base (B' := X.heap.size) HX7.out.size).chg cS (fun g hg e => ?_)
          have h1 := (HS.out.1.lt g hg).1
          omega
        · rcases e with e | e
          · subst e; omega
          · subst e; omega
        · cases e
          rcases e2 with e2 | e2
          · subst e2; exact hhole _ b2 b1
          · subst e2; exact hhole _ b4 b3
        · exact (HX7.out.trans HS.out.2.2).thn2 cS (fun j hj e => by rcases e with e | e <;> omega)
  · have hr2 : rightB ms ds cm at_ = false := by simpa using hr1
    rw [if_neg hr1] at HIX
    have HU := hidMk (show undL ms ds cm at_ = [] from by unfold undL; rw [if_neg hr1])
    go_enter Tryz.func24, Tryz.ntmps24
    obtain ⟨a0, a1, a2, a3, a4⟩ := HCC.out
    rw [hW1, hcb] at a0 a1 a2 a3 a4
    go_wp2_with fail
    rw [← hW1, ← hcb]
    clear a0 a1 a2 a3 a4 hW1 hcb
    refine HIX.out.mono ?_
    rintro e w2 ⟨rfl, k2⟩
    have HK2 := hidMk k2
    clear k2 HIX
    go_wp2_with fail
    go_ret
    exact ⟨_, _, _, _, rfl, by rw [HU.out]; exact ownI_nil _ _, HQ1.out.keep HK2.out, Chg.of_kept (HK1.out.trans HK2.out)⟩
end
end Go.Proofs.YtmmdfpafkmhgcaaGreat
