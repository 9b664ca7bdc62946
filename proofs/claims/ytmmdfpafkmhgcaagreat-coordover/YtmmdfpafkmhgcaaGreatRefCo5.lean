/- The definition's space: Cell, Leaf. -/
import Derived.Test.YtmmdfpafkmhgcaaGreatRefCo4
namespace Go.Proofs.YtmmdfpafkmhgcaaGreat
open Go.RowKit Go.Maps
set_option linter.unusedSimpArgs false
set_option linter.unusedVariables false

/-- A cell in a block of its own. -/
structure CBk (X : World) (lb : Nat) (v : Int) (f : Nat → Int) : Prop where
  c0 : X.cell? ⟨lb, 0, none⟩ = some (.int .i64 v)
  ck : ∀ k, k < 4 → X.cell? ⟨lb, 1 + k, none⟩ = some (.int .i64 (f k))
  fz : ∀ k, X.frozen? ⟨lb, k, none⟩ = false
theorem CBk.put0 {X : World} {lb : Nat} {v : Int} {f : Nat → Int} (h : CBk X lb v f) (u : Int) : CBk (X.setCell ⟨lb, 0, none⟩ (.int .i64 u)) lb u f :=
  ⟨World.cell?_setCell_same _ _ _ h.c0, fun k hk => by rw [World.cell?_setCell_other _ _ _ _ (by intro e; injection e with _ e1 _; omega)]; exact h.ck k hk, fun k => by rw [World.frozen?_setCell]; exact h.fz k⟩
theorem CBk.putk {X : World} {lb : Nat} {v : Int} {f g : Nat → Int} (h : CBk X lb v f) {j : Nat} (hj : j < 4) (u : Int) (hg : g j = u) (hg' : ∀ k, k < 4 → k ≠ j → g k = f k) : CBk (X.setCell ⟨lb, 1 + j, none⟩ (.int .i64 u)) lb v g := by
  refine ⟨by rw [World.cell?_setCell_other _ _ _ _ (by intro e; injection e with _ e1 _; omega)]; exact h.c0, fun k hk => ?_, fun k => by rw [World.frozen?_setCell]; exact h.fz k⟩
  by_cases e : k = j
  · subst e; rw [World.cell?_setCell_same _ _ _ (h.ck k hk), hg]
  · rw [World.cell?_setCell_other _ _ _ _ (by intro e'; injection e' with _ e1 _; omega), h.ck k hk, hg' k hk e]
theorem cbk_new (X : World) (t : TypeId) {lb : Nat} (h : lb = X.heap.size) : CBk (X.alloc (.cells #[.int .i64 0, .int .i64 0, .int .i64 0, .int .i64 0, .int .i64 0] t)) lb 0 (fun _ => 0) := by
  refine ⟨new_cell _ _ _ _ 0 _ h rfl, fun k hk => ?_, fun k => new_frozen _ _ _ h k⟩
  have : k = 0 ∨ k = 1 ∨ k = 2 ∨ k = 3 := by omega
  rcases this with rfl | rfl | rfl | rfl
  · exact new_cell _ _ _ _ 1 _ h rfl
  · exact new_cell _ _ _ _ 2 _ h rfl
  · exact new_cell _ _ _ _ 3 _ h rfl
  · exact new_cell _ _ _ _ 4 _ h rfl
/-- Counts that are 1 change nothing. -/
theorem prQ_out {f : Nat → Int} {N : Int} {d : Nat} (hf : ∀ k, d ≤ k → f k = 1) : ∀ j, j ≤ 4 - d → prQ f N j = N := by
  intro j
  induction j with
  | zero => intro _; rfl
  | succ j ih => intro h; show (prQ f N j).tdiv (f (3 - j)) = N; rw [ih (by omega), hf _ (by omega), Int.tdiv_one]
theorem prA_out {f : Nat → Int} {N : Int} {d k : Nat} (hf : ∀ k, d ≤ k → f k = 1) (hk : d ≤ k) : prA f N k = 0 := by
  unfold prA
  rw [hf k hk, Int.tmod_one]
theorem prQ_next (f : Nat → Int) (N : Int) {i : Nat} (h1 : 1 ≤ i) (h4 : i ≤ 4) : (prQ f N (4 - i)).tdiv (f (i - 1)) = prQ f N (4 - (i - 1)) ∧ (prQ f N (4 - i)).tmod (f (i - 1)) = prA f N (i - 1) := by
  refine ⟨?_, ?_⟩
  · rw [show 4 - (i - 1) = (4 - i) + 1 by omega]
    show _ = (prQ f N (4 - i)).tdiv (f (3 - (4 - i)))
    rw [show 3 - (4 - i) = i - 1 by omega]
  · unfold prA
    rw [show 3 - (i - 1) = 4 - i by omega]
section
variable {W0 X Y : World} {r q : Nat} {ds : List Dm} {ms : List ByteArray} {rt : Nat → Nat} {y4 y5 : Value} {pp : Option (Nat × Nat)}
set_option maxHeartbeats 8000000 in
set_option maxRecDepth 100000 in
theorem r7_Cell (hE : RE W0 r q ds ms rt) (h : RQ W0 r q ds y4 y5 pp X) (n : Int) : Calls Tryz.prog 13 #[.pointer (some ⟨r, 0, none⟩), .int .i64 n] X fun e w' => (if 0 ≤ n ∧ n < mulK (fun k => many ds k) ms.length 4 then e = .returned (.tuple #[cellV (prQ (fun k => many ds k) n 4) (prA (fun k => many ds k) n), .bool true]) else e = .returned (.tuple #[cellV 0 (fun _ => 0), .bool false])) ∧ Kept X w' := by
  obtain ⟨cb, hcb⟩ : ∃ x, x = X.heap.size := ⟨_, rfl⟩
  obtain ⟨W1, hW1⟩ : ∃ V, V = X.alloc (.cells #[.int .i64 0, .int .i64 0, .int .i64 0, .int .i64 0, .int .i64 0] 28) := ⟨_, rfl⟩
  have k1 : Kept X W1 := by rw [hW1]; exact (Kept.refl X).alloc _
  have HK1 := hidMk k1
  have HLT := hidMk (show X.heap.size ≤ cb by omega)
  have HCB := hidMk (show CBk W1 cb 0 (fun _ => 0) from by rw [hW1]; exact cbk_new X _ hcb)
  have HCS := hidMk (show ∀ Y, Kept W1 Y → _ from fun Y k => r7_Cells hE (h.keep (k1.trans k)))
  have HC0 := hidMk (show ∀ Y, Kept W1 Y → Y.cell? ⟨r, 0, none⟩ = some (.pointer (some ⟨q, 0, none⟩)) from fun Y k => (k1.trans k).cellp h.c0)
  obtain ⟨tb, tc, ma, mc, hg⟩ := hE.get
  have HGT := hidMk (show ∀ Y, Kept W1 Y → _ from fun Y k => hg Y (h.kp.trans (k1.trans k)))
  have hd4 := hE.ct.d4
  have HMB := hidMk (mulK_bound (f := fun k => (many ds k : Int)) (m := ms.length) (by have := hE.ct.m4; omega) (fun k => manyB hE.ct k)).2.2.2.2
  have HPO := hidMk (fun k => hE.ct.many k)
  have HPB := hidMk (fun k => manyB hE.ct k)
  have HOU := hidMk (show ∀ k, ds.length ≤ k → (many ds k : Int) = 1 from fun k hk => by rw [many_out (by omega)]; rfl)
  have HMI := hidMk (show ∀ k, k < ds.length → (many ds k : Int) = ((dmL ds k).length : Int) from fun k hk => by rw [many_in hk])
  obtain ⟨D, hD⟩ : ∃ D, D = ds.length := ⟨_, rfl⟩
  rw [← hD] at hd4 HOU HMI
  have HDD := hidMk hD
  unfold cellV
  clear hg hE h k1 hD
  generalize hM : mulK (fun k => (many ds k : Int)) (ms.length : Int) 4 = M at *
  by_cases hi : 0 ≤ n
  · have hin : ¬ n < 0 := by omega
    by_cases hm : n < M
    · have hmn : ¬ (M ≤ n) := by omega
      simp only [if_pos (And.intro hi hm)]
      obtain ⟨f, hf⟩ : ∃ f : Nat → Int, f = fun k => (many ds k : Int) := ⟨_, rfl⟩
      rw [← hf]
      have HF := hidMk hf
      have HQB := hidMk (show ∀ i, 0 ≤ prQ f n i ∧ prQ f n i ≤ 1000000000000000 from fun i => prQ_bound (by have := HMB.out; omega) (fun k => by rw [hf]; exact ⟨HPO.out k, (HPB.out k).2⟩) i)
      have HFL := hidMk (show ∀ k, k < D → f k = ((dmL ds k).length : Int) from fun k hk => by rw [hf]; exact HMI.out k hk)
      have HFP := hidMk (show ∀ k, 1 ≤ f k ∧ f k ≤ 1000 from fun k => by rw [hf]; exact ⟨HPO.out k, (HPB.out k).2⟩)
      have HFO := hidMk (show ∀ k, D ≤ k → f k = 1 from fun k hk => by rw [hf]; exact HOU.out k hk)
      clear hf hM HMI HPO HPB HOU
      go_enter Tryz.func13, Tryz.ntmps13
      go_upto_region 1 with fail
      rw [← hW1, ← hcb]
      clear hW1 hcb
      go_wp2_with fail
      refine (HCS.out _ (Kept.refl _)).mono ?_
      rintro e w2 ⟨rfl, k2⟩
      have HK2 := hidMk k2
      clear k2
      go_upto_region 4 with fail
      obtain ⟨W5, hW5⟩ : ∃ V, V = w2.alloc (.cells #[.int .i64 0, .int .i64 0, .int .i64 0, .int .i64 0, .int .i64 0] 28) := ⟨_, rfl⟩
      obtain ⟨lb, hlb⟩ : ∃ x, x = w2.heap.size := ⟨_, rfl⟩
      have HK5 := hidMk (show Kept w2 W5 from by rw [hW5]; exact (Kept.refl w2).alloc _)
      have HB0 := hidMk (show CBk W5 lb 0 (fun k => if D ≤ k then prA f n k else 0) from by
        rw [hW5]
        have hb := cbk_new w2 28 hlb
        exact ⟨hb.c0, fun k hk => by
          rw [hb.ck k hk]
          by_cases c : D ≤ k
          · rw [if_pos c, prA_out HFO.out c]
          · rw [if_neg c], hb.fz⟩)
      have HLB := hidMk (show w2.heap.size ≤ lb by omega)
      rw [← hW5, ← hlb]
      clear hW5 hlb HCS
      have c0 := HC0.out W5 (HK2.out.trans HK5.out)
      have q4 := (HGT.out W5 (HK2.out.trans HK5.out)).1
      rw [← HDD.out] at q4
      have HQ0 := hidMk (show prQ f n (4 - D) = n from prQ_out HFO.out (4 - D) (Nat.le_refl _))
      go_wp2_with fail
      clear c0 q4
      go_loopg [1, 7] (D + 1) (fun gg s x wr => ∃ i : Nat, i + 1 = gg ∧ i ≤ D ∧ s = .int .i64 (prQ f n (4 - i)) ∧ x = .int .i64 i ∧ Hid (CBk wr lb 0 (fun k => if i ≤ k then prA f n k else 0) ∧ Kept w2 wr))
      case atStart => exact ⟨D, by omega, by omega, by rw [HQ0.out], rfl, hidMk ⟨HB0.out, HK5.out⟩⟩
      case round =>
        clear HB0 HK5
        obtain ⟨i, hig, hiD, rfl, rfl, HS⟩ := hrel
        have HG := hidMk hig
        clear hig
        by_cases hi0 : 0 < i
        · have hi' : (0 : Int) < (i : Int) := by omega
          obtain ⟨j, hj⟩ : ∃ j, i = j + 1 := ⟨i - 1, by omega⟩
          subst hj
          have hw1 : wrap64 (((j + 1 : Nat) : Int) - 1) = (j : Int) := by rw [wrap_c (by omega) (by omega)]; omega
          have hjD : (j : Int) < (D : Int) := by omega
          have hj4 : (j : Int) < 4 := by omega
          have hjd : j < ds.length := by have := HDD.out; omega
          obtain ⟨p1, p2⟩ := prQ_next f n (i := j + 1) (by omega) (by omega)
          rw [Nat.add_sub_cancel] at p1 p2
          have hfl := HFL.out j (by omega)
          have hfp := HFP.out j
          have hqb := HQB.out (4 - (j + 1))
          have hnx : CBk (wr.setCell ⟨lb, 1 + j, none⟩ (.int .i64 (prA f n j))) lb 0 (fun k => if j ≤ k then prA f n k else 0) := HS.out.1.putk (by omega) _ (if_pos (Nat.le_refl j)) (fun k hk hne => by
            by_cases c : j ≤ k
            · rw [if_pos c, if_pos (by omega)]
            · rw [if_neg c, if_neg (by omega)])
          have HNX := hidMk hnx
          have HKX := hidMk (show Kept w2 (wr.setCell ⟨lb, 1 + j, none⟩ (.int .i64 (prA f n j))) from HS.out.2.setCell (p := ⟨lb, 1 + j, none⟩) HLB.out _)
          have c0 := HC0.out wr (HK2.out.trans HS.out.2)
          obtain ⟨q4, _, qt⟩ := HGT.out wr (HK2.out.trans HS.out.2)
          obtain ⟨te, b5, c5, lc⟩ := qt j hjd
          have d0 := HC0.out _ (HK2.out.trans HKX.out)
          obtain ⟨d4, _, dt⟩ := HGT.out _ (HK2.out.trans HKX.out)
          obtain ⟨de, b6, c6, ld⟩ := dt j hjd
          rw [← HDD.out] at q4 d4
          have ec := HS.out.1.ck j (by omega)
          have ef := HS.out.1.fz (1 + j)
          obtain ⟨qi1, hqi1⟩ : ∃ z, z = prQ f n (4 - j) := ⟨_, rfl⟩
          have HQI := hidMk hqi1
          rw [← hqi1] at p1
          generalize prA f n j = pj at *
          generalize hqq : prQ f n (4 - (j + 1)) = qq at *
          rw [hfl] at p1 p2 hfp
          generalize (dmL ds j).length = n5 at *
          have hn0 : ¬ (n5 : Int) = 0 := by omega
          have hnb : ((n5 : Int) == 0) = false := by simpa using hn0
          have hwm : wrap64 pj = pj := by
            have h3 := rem_bound hqb.1 hfp
            rw [p2] at h3
            exact wrap_c (by omega) (by omega)
          have hwd : wrap64 qi1 = qi1 := by
            have h3 : 0 ≤ qq.tdiv (n5 : Int) ∧ qq.tdiv (n5 : Int) ≤ 1000000000000000 := by
              rw [Int.tdiv_eq_ediv_of_nonneg hqb.1]
              exact ⟨Int.ediv_nonneg hqb.1 (by omega), Int.le_trans (Int.ediv_le_self _ hqb.1) hqb.2⟩
            rw [p1] at h3
            exact wrap_c (by omega) (by omega)
          clear hqb hfp hfl qt dt hnx hqi1 hqq
          go_wp2_with fail
          go_roundg (gk - 1)
          case measure => have := HG.out; omega
          case rel => exact ⟨j, by have := HG.out; omega, by omega, by rw [← HQI.out, hwd], by go_num, hidMk ⟨HNX.out, HKX.out⟩⟩
        · have hie : i = 0 := by omega
          subst hie
          have hi' : ¬ ((0 : Int) < ((0 : Nat) : Int)) := by omega
          have HV1 := hidMk (HS.out.1.put0 (prQ f n 4))
          have HKV := hidMk (show Kept w2 (wr.setCell ⟨lb, 0, none⟩ (.int .i64 (prQ f n 4))) from HS.out.2.setCell (p := ⟨lb, 0, none⟩) HLB.out _)
          have l0 := HS.out.1.c0
          have lf := HS.out.1.fz 0
          clear HS HG
          have HKA := hidMk (HK2.out.trans HKV.out)
          have g0 := HV1.out.c0
          have g1 : (wr.setCell ⟨lb, 0, none⟩ (.int .i64 (prQ f n 4))).cell? ⟨lb, 1, none⟩ = some (.int .i64 (prA f n 0)) := HV1.out.ck 0 (by omega)
          have g2 : (wr.setCell ⟨lb, 0, none⟩ (.int .i64 (prQ f n 4))).cell? ⟨lb, 2, none⟩ = some (.int .i64 (prA f n 1)) := HV1.out.ck 1 (by omega)
          have g3 : (wr.setCell ⟨lb, 0, none⟩ (.int .i64 (prQ f n 4))).cell? ⟨lb, 3, none⟩ = some (.int .i64 (prA f n 2)) := HV1.out.ck 2 (by omega)
          have g4 : (wr.setCell ⟨lb, 0, none⟩ (.int .i64 (prQ f n 4))).cell? ⟨lb, 4, none⟩ = some (.int .i64 (prA f n 3)) := HV1.out.ck 3 (by omega)
          have hcbl : cb < W1.heap.size := cell_lt HCB.out.c0
          have s0 := HKA.out.cellp HCB.out.c0
          have s1 : (wr.setCell ⟨lb, 0, none⟩ (.int .i64 (prQ f n 4))).cell? ⟨cb, 1, none⟩ = some (.int .i64 0) := HKA.out.cellp (HCB.out.ck 0 (by omega))
          have s2 : (wr.setCell ⟨lb, 0, none⟩ (.int .i64 (prQ f n 4))).cell? ⟨cb, 2, none⟩ = some (.int .i64 0) := HKA.out.cellp (HCB.out.ck 1 (by omega))
          have s3 : (wr.setCell ⟨lb, 0, none⟩ (.int .i64 (prQ f n 4))).cell? ⟨cb, 3, none⟩ = some (.int .i64 0) := HKA.out.cellp (HCB.out.ck 2 (by omega))
          have s4 : (wr.setCell ⟨lb, 0, none⟩ (.int .i64 (prQ f n 4))).cell? ⟨cb, 4, none⟩ = some (.int .i64 0) := HKA.out.cellp (HCB.out.ck 3 (by omega))
          have f0 : (wr.setCell ⟨lb, 0, none⟩ (.int .i64 (prQ f n 4))).frozen? ⟨cb, 0, none⟩ = false := (HKA.out.frozen (p := ⟨cb, 0, none⟩) hcbl).trans (HCB.out.fz 0)
          have f1 : (wr.setCell ⟨lb, 0, none⟩ (.int .i64 (prQ f n 4))).frozen? ⟨cb, 1, none⟩ = false := (HKA.out.frozen (p := ⟨cb, 1, none⟩) hcbl).trans (HCB.out.fz 1)
          have f2 : (wr.setCell ⟨lb, 0, none⟩ (.int .i64 (prQ f n 4))).frozen? ⟨cb, 2, none⟩ = false := (HKA.out.frozen (p := ⟨cb, 2, none⟩) hcbl).trans (HCB.out.fz 2)
          have f3 : (wr.setCell ⟨lb, 0, none⟩ (.int .i64 (prQ f n 4))).frozen? ⟨cb, 3, none⟩ = false := (HKA.out.frozen (p := ⟨cb, 3, none⟩) hcbl).trans (HCB.out.fz 3)
          have f4 : (wr.setCell ⟨lb, 0, none⟩ (.int .i64 (prQ f n 4))).frozen? ⟨cb, 4, none⟩ = false := (HKA.out.frozen (p := ⟨cb, 4, none⟩) hcbl).trans (HCB.out.fz 4)
          obtain ⟨V1, hV1⟩ : ∃ V, V = wr.setCell ⟨lb, 0, none⟩ (.int .i64 (prQ f n 4)) := ⟨_, rfl⟩
          obtain ⟨V, hV⟩ : ∃ V, V = set5 V1 cb (.int .i64 (prQ f n 4)) (.int .i64 (prA f n 0)) (.int .i64 (prA f n 1)) (.int .i64 (prA f n 2)) (.int .i64 (prA f n 3)) := ⟨_, rfl⟩
          have c5 := set5_cells (X := V1) (b := cb) (by rw [hV1]; exact s0) (by rw [hV1]; exact s1) (by rw [hV1]; exact s2) (by rw [hV1]; exact s3) (by rw [hV1]; exact s4) (.int .i64 (prQ f n 4)) (.int .i64 (prA f n 0)) (.int .i64 (prA f n 1)) (.int .i64 (prA f n 2)) (.int .i64 (prA f n 3))
          have kk := set5_kept (w := X) (X := V1) (b := cb) (by rw [hV1]; exact HK1.out.trans HKA.out) HLT.out (.int .i64 (prQ f n 4)) (.int .i64 (prA f n 0)) (.int .i64 (prA f n 1)) (.int .i64 (prA f n 2)) (.int .i64 (prA f n 3))
          rw [← hV] at c5 kk
          have HC5 := hidMk c5
          have HKK := hidMk kk
          clear c5 kk
          go_wp2_with fail
          unfold set5 at hV
          rw [hV1] at hV
          rw [← hV]
          refine bodyPost_ret (v := .tuple #[.agg #[.int .i64 (prQ f n 4), .int .i64 (prA f n 0), .int .i64 (prA f n 1), .int .i64 (prA f n 2), .int .i64 (prA f n 3)], .bool true]) ?_ rfl ⟨rfl, HKK.out⟩
          simp only [results, show Tryz.f13.results = #[.cell 4 28, .tmp 5] from rfl]
          clear s0 s1 s2 s3 s4 g0 g1 g2 g3 g4 hV hV1
          obtain ⟨s0, s1, s2, s3, s4⟩ := HC5.out
          go_simp
    · have hmn : M ≤ n := by omega
      simp only [if_neg (fun e : 0 ≤ n ∧ n < M => hm e.2)]
      go_enter Tryz.func13, Tryz.ntmps13
      go_upto_region 1 with fail
      rw [← hW1, ← hcb]
      clear hW1 hcb
      go_wp2_with fail
      refine (HCS.out _ (Kept.refl _)).mono ?_
      rintro e w2 ⟨rfl, k2⟩
      have HKA := hidMk k2
      clear k2
      have hcbl : cb < W1.heap.size := cell_lt HCB.out.c0
      have s0 := HKA.out.cellp HCB.out.c0
      have s1 : w2.cell? ⟨cb, 1, none⟩ = some (.int .i64 0) := HKA.out.cellp (HCB.out.ck 0 (by omega))
      have s2 : w2.cell? ⟨cb, 2, none⟩ = some (.int .i64 0) := HKA.out.cellp (HCB.out.ck 1 (by omega))
      have s3 : w2.cell? ⟨cb, 3, none⟩ = some (.int .i64 0) := HKA.out.cellp (HCB.out.ck 2 (by omega))
      have s4 : w2.cell? ⟨cb, 4, none⟩ = some (.int .i64 0) := HKA.out.cellp (HCB.out.ck 3 (by omega))
      have f0 : w2.frozen? ⟨cb, 0, none⟩ = false := (HKA.out.frozen (p := ⟨cb, 0, none⟩) hcbl).trans (HCB.out.fz 0)
      have f1 : w2.frozen? ⟨cb, 1, none⟩ = false := (HKA.out.frozen (p := ⟨cb, 1, none⟩) hcbl).trans (HCB.out.fz 1)
      have f2 : w2.frozen? ⟨cb, 2, none⟩ = false := (HKA.out.frozen (p := ⟨cb, 2, none⟩) hcbl).trans (HCB.out.fz 2)
      have f3 : w2.frozen? ⟨cb, 3, none⟩ = false := (HKA.out.frozen (p := ⟨cb, 3, none⟩) hcbl).trans (HCB.out.fz 3)
      have f4 : w2.frozen? ⟨cb, 4, none⟩ = false := (HKA.out.frozen (p := ⟨cb, 4, none⟩) hcbl).trans (HCB.out.fz 4)
      go_wp2_with fail
      obtain ⟨V, hV⟩ : ∃ V, V = set5 w2 cb (.int .i64 0) (.int .i64 0) (.int .i64 0) (.int .i64 0) (.int .i64 0) := ⟨_, rfl⟩
      have c5 := set5_cells s0 s1 s2 s3 s4 (.int .i64 0) (.int .i64 0) (.int .i64 0) (.int .i64 0) (.int .i64 0)
      have kk := set5_kept (HK1.out.trans HKA.out) HLT.out (.int .i64 0) (.int .i64 0) (.int .i64 0) (.int .i64 0) (.int .i64 0)
      rw [← hV] at c5 kk
      unfold set5 at hV
      rw [← hV]
      clear s0 s1 s2 s3 s4 hV
      refine bodyPost_ret (v := .tuple #[.agg #[.int .i64 0, .int .i64 0, .int .i64 0, .int .i64 0, .int .i64 0], .bool false]) ?_ rfl ⟨rfl, kk⟩
      simp only [results, show Tryz.f13.results = #[.cell 4 28, .tmp 5] from rfl]
      obtain ⟨s0, s1, s2, s3, s4⟩ := c5
      go_simp
  · have hin : n < 0 := by omega
    simp only [if_neg (fun e : 0 ≤ n ∧ n < M => hi e.1)]
    go_enter Tryz.func13, Tryz.ntmps13
    go_upto_region 1 with fail
    rw [← hW1, ← hcb]
    clear hW1 hcb
    have s0 := HCB.out.c0
    have s1 : W1.cell? ⟨cb, 1, none⟩ = some (.int .i64 0) := HCB.out.ck 0 (by omega)
    have s2 : W1.cell? ⟨cb, 2, none⟩ = some (.int .i64 0) := HCB.out.ck 1 (by omega)
    have s3 : W1.cell? ⟨cb, 3, none⟩ = some (.int .i64 0) := HCB.out.ck 2 (by omega)
    have s4 : W1.cell? ⟨cb, 4, none⟩ = some (.int .i64 0) := HCB.out.ck 3 (by omega)
    have f0 := HCB.out.fz 0
    have f1 := HCB.out.fz 1
    have f2 := HCB.out.fz 2
    have f3 := HCB.out.fz 3
    have f4 := HCB.out.fz 4
    go_wp2_with fail
    obtain ⟨V, hV⟩ : ∃ V, V = set5 W1 cb (.int .i64 0) (.int .i64 0) (.int .i64 0) (.int .i64 0) (.int .i64 0) := ⟨_, rfl⟩
    have c5 := set5_cells s0 s1 s2 s3 s4 (.int .i64 0) (.int .i64 0) (.int .i64 0) (.int .i64 0) (.int .i64 0)
    have kk := set5_kept (HK1.out) HLT.out (.int .i64 0) (.int .i64 0) (.int .i64 0) (.int .i64 0) (.int .i64 0)
    rw [← hV] at c5 kk
    unfold set5 at hV
    rw [← hV]
    clear s0 s1 s2 s3 s4 hV
    refine bodyPost_ret (v := .tuple #[.agg #[.int .i64 0, .int .i64 0, .int .i64 0, .int .i64 0, .int .i64 0], .bool false]) ?_ rfl ⟨rfl, kk⟩
    simp only [results, show Tryz.f13.results = #[.cell 4 28, .tmp 5] from rfl]
    obtain ⟨s0, s1, s2, s3, s4⟩ := c5
    go_simp
end
end Go.Proofs.YtmmdfpafkmhgcaaGreat
