/- The definition's space: Leaf. -/
import Derived.Test.YtmmdfpafkmhgcaaGreatRefCo5
namespace Go.Proofs.YtmmdfpafkmhgcaaGreat
open Go.RowKit Go.Maps
set_option linter.unusedSimpArgs false
set_option linter.unusedVariables false

theorem Chg.thn2 {S S' : Nat → Prop} {x y z : World} (h : Chg S x y) (k : Chg S' y z) (hs : ∀ j, j < x.heap.size → S' j → S j) : Chg S x z :=
  ⟨k.os.trans h.os, k.tape.trans h.tape, k.output.trans h.output, Nat.le_trans h.size k.size, fun j hj hb => (k.block j (Nat.lt_of_lt_of_le hj h.size) (fun e => hb (hs j hj e))).trans (h.block j hj hb)⟩
theorem set5_chg {S : Nat → Prop} {x y : World} {b : Nat} (k : Chg S x y) (hb : S b ∨ x.heap.size ≤ b) (v0 v1 v2 v3 v4 : Value) : Chg S x (set5 y b v0 v1 v2 v3 v4) :=
  ((((k.setCell (p := ⟨b, 0, none⟩) hb _).setCell (p := ⟨b, 1, none⟩) hb _).setCell (p := ⟨b, 2, none⟩) hb _).setCell (p := ⟨b, 3, none⟩) hb _).setCell (p := ⟨b, 4, none⟩) hb _
theorem CBk.chg {S : Nat → Prop} {X Y : World} {lb : Nat} {v : Int} {f : Nat → Int} (h : CBk X lb v f) (k : Chg S X Y) (hS : ¬ S lb) : CBk Y lb v f :=
  ⟨k.cellp h.c0 hS, fun j hj => k.cellp (h.ck j hj) hS, fun j => (k.frozen (p := ⟨lb, j, none⟩) (cell_lt (p := ⟨lb, 0, none⟩) h.c0) hS).trans (h.fz j)⟩
section
variable {W0 X Y : World} {r q : Nat} {ds : List Dm} {ms : List ByteArray} {rt : Nat → Nat} {y4 y5 : Value} {pp : Option (Nat × Nat)}
set_option maxHeartbeats 8000000 in
set_option maxRecDepth 100000 in
theorem r7_Leaf (hE : RE W0 r q ds ms rt) (h : RQ W0 r q ds y4 y5 pp X) (n : Int) : Calls Tryz.prog 11 #[.pointer (some ⟨r, 0, none⟩), .int .i64 n] X fun e w' => (if 0 ≤ n ∧ n < mulK (fun k => leas ds k) ms.length 4 then e = .returned (.tuple #[cellV (prQ (fun k => leas ds k) n 4) (lfF ds n ds.length), .bool true]) else e = .returned (.tuple #[cellV 0 (fun _ => 0), .bool false])) ∧ RR W0 r q ds y4 y5 pp X w' := by
  obtain ⟨cb, hcb⟩ : ∃ x, x = X.heap.size := ⟨_, rfl⟩
  obtain ⟨W1, hW1⟩ : ∃ V, V = X.alloc (.cells #[.int .i64 0, .int .i64 0, .int .i64 0, .int .i64 0, .int .i64 0] 28) := ⟨_, rfl⟩
  have k1 : Kept X W1 := by rw [hW1]; exact (Kept.refl X).alloc _
  have HK1 := hidMk k1
  have HLT := hidMk (show X.heap.size ≤ cb by omega)
  have HCB := hidMk (show CBk W1 cb 0 (fun _ => 0) from by rw [hW1]; exact cbk_new X _ hcb)
  have HCS := hidMk (show ∀ Y, Kept W1 Y → _ from fun Y k => r7_Leaves hE (h.keep (k1.trans k)))
  obtain ⟨tb, tc, ma, mc, hg⟩ := hE.get
  have HGT := hidMk hg
  have hd4 := hE.ct.d4
  have HMB := hidMk (mulK_bound (f := fun k => (leas ds k : Int)) (m := ms.length) (by have := hE.ct.m4; omega) (fun k => leasB hE.ct k)).2.2.2.2
  have HPO := hidMk (fun k => hE.ct.leas k)
  have HPB := hidMk (fun k => leasB hE.ct k)
  have HOU := hidMk (show ∀ k, ds.length ≤ k → (leas ds k : Int) = 1 from fun k hk => by rw [leas_out (by omega)]; rfl)
  have HMI := hidMk (show ∀ k, k < ds.length → (leas ds k : Int) = ((lvsN (dmL ds k)).length : Int) from fun k hk => by rw [leas_in hk])
  obtain ⟨D, hD⟩ : ∃ D, D = ds.length := ⟨_, rfl⟩
  rw [← hD] at hd4 HOU HMI
  have HDD := hidMk hD
  have HHO := hidMk (show cb ≠ r ∧ W0.heap.size ≤ cb ∧ ∀ B H, pp = some (B, H) → H ≤ cb from ⟨by have := h.lt; omega, by have := h.kp.size; omega, fun B H e => by have := (h.hole e).2; omega⟩)
  have HC1 := hidMk hE.ct.d1
  have HQ := hidMk h
  unfold cellV
  clear hg hE h k1 hD
  generalize hM : mulK (fun k => (leas ds k : Int)) (ms.length : Int) 4 = M at *
  by_cases hi : 0 ≤ n
  · have hin : ¬ n < 0 := by omega
    by_cases hm : n < M
    · have hmn : ¬ (M ≤ n) := by omega
      simp only [if_pos (And.intro hi hm)]
      obtain ⟨f, hf⟩ : ∃ f : Nat → Int, f = fun k => (leas ds k : Int) := ⟨_, rfl⟩
      rw [← hf]
      have HF := hidMk hf
      have HQB := hidMk (show ∀ i, 0 ≤ prQ f n i ∧ prQ f n i ≤ 1000000000000000 from fun i => prQ_bound (by have := HMB.out; omega) (fun k => by rw [hf]; exact ⟨HPO.out k, (HPB.out k).2⟩) i)
      have HFL := hidMk (show ∀ k, k < D → f k = ((lvsN (dmL ds k)).length : Int) from fun k hk => by rw [hf]; exact HMI.out k hk)
      have HFP := hidMk (show ∀ k, 1 ≤ f k ∧ f k ≤ 1000 from fun k => by rw [hf]; exact ⟨HPO.out k, (HPB.out k).2⟩)
      have HFO := hidMk (show ∀ k, D ≤ k → f k = 1 from fun k hk => by rw [hf]; exact HOU.out k hk)
      clear hf hM HMI HPO HPB HOU
      go_enter Tryz.func11, Tryz.ntmps11
      go_upto_region 1 with fail
      rw [← hW1, ← hcb]
      clear hW1 hcb
      go_wp2_with fail
      refine (HCS.out _ (Kept.refl _)).mono ?_
      rintro e w2 ⟨rfl, ⟨B2, H2, hq2, hnx⟩, hc2⟩
      have HQ2 := hidMk hq2
      have HNX := hidMk hnx
      have HC2 := hidMk hc2
      have HCW := hidMk (show CBk w2 cb 0 (fun _ => 0) from HCB.out.chg hc2 HHO.out.1)
      clear hq2 hnx hc2
      go_upto_region 4 with fail
      obtain ⟨W5, hW5⟩ : ∃ V, V = w2.alloc (.cells #[.int .i64 0, .int .i64 0, .int .i64 0, .int .i64 0, .int .i64 0] 28) := ⟨_, rfl⟩
      obtain ⟨lb, hlb⟩ : ∃ x, x = w2.heap.size := ⟨_, rfl⟩
      have HK5 := hidMk (show Kept w2 W5 from by rw [hW5]; exact (Kept.refl w2).alloc _)
      have HB0 := hidMk (show CBk W5 lb 0 (fun k => if D ≤ k then lfF ds n ds.length k else 0) from by
        rw [hW5]
        have hb := cbk_new w2 28 hlb
        exact ⟨hb.c0, fun k hk => by
          rw [hb.ck k hk]
          by_cases c : D ≤ k
          · rw [if_pos c, lf_out (by have := HDD.out; omega)]
          · rw [if_neg c], hb.fz⟩)
      have HLB := hidMk (show w2.heap.size ≤ lb by omega)
      rw [← hW5, ← hlb]
      clear hW5 hlb HCS
      have c0 := (HQ2.out.keep HK5.out).c0
      have q4 := (HGT.out W5 (HQ2.out.keep HK5.out).kp).1
      rw [← HDD.out] at q4
      have HQ0 := hidMk (show prQ f n (4 - D) = n from prQ_out HFO.out (4 - D) (Nat.le_refl _))
      go_wp2_with fail
      clear c0 q4
      go_loopg [1, 7] (D + 1) (fun gg s x wr => ∃ i : Nat, i + 1 = gg ∧ i ≤ D ∧ s = .int .i64 (prQ f n (4 - i)) ∧ x = .int .i64 i ∧ Hid (CBk wr lb 0 (fun k => if i ≤ k then lfF ds n ds.length k else 0) ∧ Kept w2 wr))
      case atStart => exact ⟨D, by omega, by omega, by rw [HQ0.out], rfl, hidMk ⟨HB0.out, HK5.out⟩⟩
      case round =>
        clear HB0 HK5
        obtain ⟨i, hig, hiD, rfl, rfl, HS⟩ := hrel
        have HG := hidMk hig
        clear hig
        by_cases hi0 : 0 < i
        · have hi' : (0 : Int) < (i : Int) := by omega
          obtain ⟨j, hj⟩ : ∃ j, i = j + 1 := ⟨i - 1, by omega⟩
          subst hj
          have hw1 : wrap64 (((j + 1 : Nat) : Int) - 1) = (j : Int) := by rw [wrap_c (by omega) (by omega)]; omega
          have hjD : (j : Int) < (D : Int) := by omega
          have hj4 : (j : Int) < 4 := by omega
          have hjd : j < ds.length := by have := HDD.out; omega
          obtain ⟨p1, p2⟩ := prQ_next f n (i := j + 1) (by omega) (by omega)
          rw [Nat.add_sub_cancel] at p1 p2
          have hfl := HFL.out j (by omega)
          have hfp := HFP.out j
          have hqb := HQB.out (4 - (j + 1))
          have hnx : CBk (wr.setCell ⟨lb, 1 + j, none⟩ (.int .i64 (lfF ds n ds.length j))) lb 0 (fun k => if j ≤ k then lfF ds n ds.length k else 0) := HS.out.1.putk (by omega) _ (if_pos (Nat.le_refl j)) (fun k hk hne => by
            by_cases c : j ≤ k
            · rw [if_pos c, if_pos (by omega)]
            · rw [if_neg c, if_neg (by omega)])
          have HNX2 := hidMk hnx
          have HKX := hidMk (show Kept w2 (wr.setCell ⟨lb, 1 + j, none⟩ (.int .i64 (lfF ds n ds.length j))) from HS.out.2.setCell (p := ⟨lb, 1 + j, none⟩) HLB.out _)
          obtain ⟨lg, lc, hl1, hlk⟩ := (HQ2.out.keep HS.out.2).leaf HC1.out
          obtain ⟨la, lc2, hlg, hsl⟩ := hlk j hjd
          rw [← HDD.out] at hl1
          have hrm := rem_bound hqb.1 hfp
          rw [p2] at hrm
          obtain ⟨rr, hrr⟩ : ∃ rr : Nat, prA f n j = rr := ⟨(prA f n j).toNat, by omega⟩
          have hrl : rr < (lvsN (dmL ds j)).length := by rw [hfl, hrr] at hrm; omega
          have hrl' : (rr : Int) < ((lvsN (dmL ds j)).length : Int) := by omega
          obtain ⟨b5, o5, hla, _, hcc⟩ := hsl.cells (by omega)
          subst hla
          have hel := hcc rr hrl
          have hlv : (ints (lvsN (dmL ds j))).getD rr 0 = lfF ds n ds.length j := by
            unfold lfF
            rw [if_pos hjd]
            have : prA (fun k => (leas ds k : Int)) n j = rr := by rw [← HF.out]; exact hrr
            rw [this, Int.toNat_natCast]
          rw [hlv] at hel
          rw [hrr] at p2
          clear hcc hsl hlk hlv hrm
          generalize lfF ds n ds.length j = lfj at *
          have ec := HS.out.1.ck j (by omega)
          have ef := HS.out.1.fz (1 + j)
          obtain ⟨qi1, hqi1⟩ : ∃ z, z = prQ f n (4 - j) := ⟨_, rfl⟩
          have HQI := hidMk hqi1
          rw [← hqi1] at p1
          generalize hqq : prQ f n (4 - (j + 1)) = qq at *
          rw [hfl] at p1 p2 hfp
          generalize (lvsN (dmL ds j)).length = n5 at *
          have hn00 : ¬ n5 = 0 := by omega
          have hn0 : ¬ (n5 : Int) = 0 := by omega
          have hnb : ((n5 : Int) == 0) = false := by simpa using hn0
          have hwm : wrap64 (rr : Int) = (rr : Int) := wrap_c (by omega) (by omega)
          have hwd : wrap64 qi1 = qi1 := by
            have h3 : 0 ≤ qq.tdiv (n5 : Int) ∧ qq.tdiv (n5 : Int) ≤ 1000000000000000 := by
              rw [Int.tdiv_eq_ediv_of_nonneg hqb.1]
              exact ⟨Int.ediv_nonneg hqb.1 (by omega), Int.le_trans (Int.ediv_le_self _ hqb.1) hqb.2⟩
            rw [p1] at h3
            exact wrap_c (by omega) (by omega)
          clear hqb hfp hfl hnx hqi1 hqq
          go_wp2_with fail
          go_roundg (gk - 1)
          case measure => have := HG.out; omega
          case rel => exact ⟨j, by have := HG.out; omega, by omega, by rw [← HQI.out, hwd], by go_num, hidMk ⟨HNX2.out, HKX.out⟩⟩
        · have hie : i = 0 := by omega
          subst hie
          have hi' : ¬ ((0 : Int) < ((0 : Nat) : Int)) := by omega
          have HV1 := hidMk (HS.out.1.put0 (prQ f n 4))
          have HKV := hidMk (show Kept w2 (wr.setCell ⟨lb, 0, none⟩ (.int .i64 (prQ f n 4))) from HS.out.2.setCell (p := ⟨lb, 0, none⟩) HLB.out _)
          have l0 := HS.out.1.c0
          have lf := HS.out.1.fz 0
          clear HS HG
          have HKA := hidMk HKV.out
          have g0 := HV1.out.c0
          have g1 : (wr.setCell ⟨lb, 0, none⟩ (.int .i64 (prQ f n 4))).cell? ⟨lb, 1, none⟩ = some (.int .i64 (lfF ds n ds.length 0)) := HV1.out.ck 0 (by omega)
          have g2 : (wr.setCell ⟨lb, 0, none⟩ (.int .i64 (prQ f n 4))).cell? ⟨lb, 2, none⟩ = some (.int .i64 (lfF ds n ds.length 1)) := HV1.out.ck 1 (by omega)
          have g3 : (wr.setCell ⟨lb, 0, none⟩ (.int .i64 (prQ f n 4))).cell? ⟨lb, 3, none⟩ = some (.int .i64 (lfF ds n ds.length 2)) := HV1.out.ck 2 (by omega)
          have g4 : (wr.setCell ⟨lb, 0, none⟩ (.int .i64 (prQ f n 4))).cell? ⟨lb, 4, none⟩ = some (.int .i64 (lfF ds n ds.length 3)) := HV1.out.ck 3 (by omega)
          have hcbl : cb < w2.heap.size := cell_lt HCW.out.c0
          have s0 := HKA.out.cellp HCW.out.c0
          have s1 : (wr.setCell ⟨lb, 0, none⟩ (.int .i64 (prQ f n 4))).cell? ⟨cb, 1, none⟩ = some (.int .i64 0) := HKA.out.cellp (HCW.out.ck 0 (by omega))
          have s2 : (wr.setCell ⟨lb, 0, none⟩ (.int .i64 (prQ f n 4))).cell? ⟨cb, 2, none⟩ = some (.int .i64 0) := HKA.out.cellp (HCW.out.ck 1 (by omega))
          have s3 : (wr.setCell ⟨lb, 0, none⟩ (.int .i64 (prQ f n 4))).cell? ⟨cb, 3, none⟩ = some (.int .i64 0) := HKA.out.cellp (HCW.out.ck 2 (by omega))
          have s4 : (wr.setCell ⟨lb, 0, none⟩ (.int .i64 (prQ f n 4))).cell? ⟨cb, 4, none⟩ = some (.int .i64 0) := HKA.out.cellp (HCW.out.ck 3 (by omega))
          have f0 : (wr.setCell ⟨lb, 0, none⟩ (.int .i64 (prQ f n 4))).frozen? ⟨cb, 0, none⟩ = false := (HKA.out.frozen (p := ⟨cb, 0, none⟩) hcbl).trans (HCW.out.fz 0)
          have f1 : (wr.setCell ⟨lb, 0, none⟩ (.int .i64 (prQ f n 4))).frozen? ⟨cb, 1, none⟩ = false := (HKA.out.frozen (p := ⟨cb, 1, none⟩) hcbl).trans (HCW.out.fz 1)
          have f2 : (wr.setCell ⟨lb, 0, none⟩ (.int .i64 (prQ f n 4))).frozen? ⟨cb, 2, none⟩ = false := (HKA.out.frozen (p := ⟨cb, 2, none⟩) hcbl).trans (HCW.out.fz 2)
          have f3 : (wr.setCell ⟨lb, 0, none⟩ (.int .i64 (prQ f n 4))).frozen? ⟨cb, 3, none⟩ = false := (HKA.out.frozen (p := ⟨cb, 3, none⟩) hcbl).trans (HCW.out.fz 3)
          have f4 : (wr.setCell ⟨lb, 0, none⟩ (.int .i64 (prQ f n 4))).frozen? ⟨cb, 4, none⟩ = false := (HKA.out.frozen (p := ⟨cb, 4, none⟩) hcbl).trans (HCW.out.fz 4)
          obtain ⟨V1, hV1⟩ : ∃ V, V = wr.setCell ⟨lb, 0, none⟩ (.int .i64 (prQ f n 4)) := ⟨_, rfl⟩
          obtain ⟨V, hV⟩ : ∃ V, V = set5 V1 cb (.int .i64 (prQ f n 4)) (.int .i64 (lfF ds n ds.length 0)) (.int .i64 (lfF ds n ds.length 1)) (.int .i64 (lfF ds n ds.length 2)) (.int .i64 (lfF ds n ds.length 3)) := ⟨_, rfl⟩
          have c5 := set5_cells (X := V1) (b := cb) (by rw [hV1]; exact s0) (by rw [hV1]; exact s1) (by rw [hV1]; exact s2) (by rw [hV1]; exact s3) (by rw [hV1]; exact s4) (.int .i64 (prQ f n 4)) (.int .i64 (lfF ds n ds.length 0)) (.int .i64 (lfF ds n ds.length 1)) (.int .i64 (lfF ds n ds.length 2)) (.int .i64 (lfF ds n ds.length 3))
          have k1v : Kept w2 V1 := by rw [hV1]; exact HKA.out
          have kk := set5_chg (S := fun j => j = cb) (Chg.of_kept k1v) (.inl rfl) (.int .i64 (prQ f n 4)) (.int .i64 (lfF ds n ds.length 0)) (.int .i64 (lfF ds n ds.length 1)) (.int .i64 (lfF ds n ds.length 2)) (.int .i64 (lfF ds n ds.length 3))
          rw [← hV] at c5 kk
          have HC5 := hidMk c5
          have HRR := hidMk (show RR W0 r q ds y4 y5 pp X V from by
            refine ⟨⟨_, HQ2.out.chg kk (fun j e => by have e' : j = cb := e; subst e'; exact ⟨HHO.out.2.1, HHO.out.1⟩) (fun B H e j e2 e3 => ?_), HNX.out.le HK1.out.size⟩, ?_⟩
            · cases e
              have e' : j = cb := e2
              rw [e'] at e3
              rcases HNX.out.get rfl with h9 | h9
              · have := HHO.out.2.2 _ _ h9; omega
              · have h10 : cb < W1.heap.size := cell_lt HCB.out.c0
                omega
            · have h1 : Chg (fun j => j = r) X w2 := (Chg.of_kept HK1.out).trans HC2.out
              exact h1.thn2 kk (fun j hj e => by have e' : j = cb := e; have := HLT.out; omega))
          clear c5 kk
          go_wp2_with fail
          unfold set5 at hV
          rw [hV1] at hV
          rw [← hV]
          refine bodyPost_ret (v := .tuple #[.agg #[.int .i64 (prQ f n 4), .int .i64 (lfF ds n ds.length 0), .int .i64 (lfF ds n ds.length 1), .int .i64 (lfF ds n ds.length 2), .int .i64 (lfF ds n ds.length 3)], .bool true]) ?_ rfl ⟨rfl, HRR.out⟩
          simp only [results, show Tryz.f11.results = #[.cell 4 28, .tmp 5] from rfl]
          clear s0 s1 s2 s3 s4 g0 g1 g2 g3 g4 hV hV1
          obtain ⟨s0, s1, s2, s3, s4⟩ := HC5.out
          go_simp
    · have hmn : M ≤ n := by omega
      simp only [if_neg (fun e : 0 ≤ n ∧ n < M => hm e.2)]
      go_enter Tryz.func11, Tryz.ntmps11
      go_upto_region 1 with fail
      rw [← hW1, ← hcb]
      clear hW1 hcb
      go_wp2_with fail
      refine (HCS.out _ (Kept.refl _)).mono ?_
      rintro e w2 ⟨rfl, ⟨B2, H2, hq2, hnx⟩, hc2⟩
      have HQ2 := hidMk hq2
      have HNX := hidMk hnx
      have HC2 := hidMk hc2
      have HCW := hidMk (show CBk w2 cb 0 (fun _ => 0) from HCB.out.chg hc2 HHO.out.1)
      clear hq2 hnx hc2
      have s0 := HCW.out.c0
      have s1 : w2.cell? ⟨cb, 1, none⟩ = some (.int .i64 0) := HCW.out.ck 0 (by omega)
      have s2 : w2.cell? ⟨cb, 2, none⟩ = some (.int .i64 0) := HCW.out.ck 1 (by omega)
      have s3 : w2.cell? ⟨cb, 3, none⟩ = some (.int .i64 0) := HCW.out.ck 2 (by omega)
      have s4 : w2.cell? ⟨cb, 4, none⟩ = some (.int .i64 0) := HCW.out.ck 3 (by omega)
      have f0 := HCW.out.fz 0
      have f1 := HCW.out.fz 1
      have f2 := HCW.out.fz 2
      have f3 := HCW.out.fz 3
      have f4 := HCW.out.fz 4
      go_wp2_with fail
      obtain ⟨V, hV⟩ : ∃ V, V = set5 w2 cb (.int .i64 0) (.int .i64 0) (.int .i64 0) (.int .i64 0) (.int .i64 0) := ⟨_, rfl⟩
      have c5 := set5_cells s0 s1 s2 s3 s4 (.int .i64 0) (.int .i64 0) (.int .i64 0) (.int .i64 0) (.int .i64 0)
      have kk := set5_chg (S := fun j => j = cb) (Chg.refl _ w2) (.inl rfl) (.int .i64 0) (.int .i64 0) (.int .i64 0) (.int .i64 0) (.int .i64 0)
      rw [← hV] at c5 kk
      have HRR := hidMk (show RR W0 r q ds y4 y5 pp X V from by
        refine ⟨⟨_, HQ2.out.chg kk (fun j e => by have e' : j = cb := e; subst e'; exact ⟨HHO.out.2.1, HHO.out.1⟩) (fun B H e j e2 e3 => ?_), HNX.out.le HK1.out.size⟩, ?_⟩
        · cases e
          have e' : j = cb := e2
          rw [e'] at e3
          rcases HNX.out.get rfl with h9 | h9
          · have := HHO.out.2.2 _ _ h9; omega
          · have h10 : cb < W1.heap.size := cell_lt HCB.out.c0
            omega
        · have h1 : Chg (fun j => j = r) X w2 := (Chg.of_kept HK1.out).trans HC2.out
          exact h1.thn2 kk (fun j hj e => by have e' : j = cb := e; have := HLT.out; omega))
      unfold set5 at hV
      rw [← hV]
      clear s0 s1 s2 s3 s4 hV
      refine bodyPost_ret (v := .tuple #[.agg #[.int .i64 0, .int .i64 0, .int .i64 0, .int .i64 0, .int .i64 0], .bool false]) ?_ rfl ⟨rfl, HRR.out⟩
      simp only [results, show Tryz.f11.results = #[.cell 4 28, .tmp 5] from rfl]
      obtain ⟨s0, s1, s2, s3, s4⟩ := c5
      go_simp
  · have hin : n < 0 := by omega
    simp only [if_neg (fun e : 0 ≤ n ∧ n < M => hi e.1)]
    go_enter Tryz.func11, Tryz.ntmps11
    go_upto_region 1 with fail
    rw [← hW1, ← hcb]
    clear hW1 hcb
    have s0 := HCB.out.c0
    have s1 : W1.cell? ⟨cb, 1, none⟩ = some (.int .i64 0) := HCB.out.ck 0 (by omega)
    have s2 : W1.cell? ⟨cb, 2, none⟩ = some (.int .i64 0) := HCB.out.ck 1 (by omega)
    have s3 : W1.cell? ⟨cb, 3, none⟩ = some (.int .i64 0) := HCB.out.ck 2 (by omega)
    have s4 : W1.cell? ⟨cb, 4, none⟩ = some (.int .i64 0) := HCB.out.ck 3 (by omega)
    have f0 := HCB.out.fz 0
    have f1 := HCB.out.fz 1
    have f2 := HCB.out.fz 2
    have f3 := HCB.out.fz 3
    have f4 := HCB.out.fz 4
    go_wp2_with fail
    obtain ⟨V, hV⟩ : ∃ V, V = set5 W1 cb (.int .i64 0) (.int .i64 0) (.int .i64 0) (.int .i64 0) (.int .i64 0) := ⟨_, rfl⟩
    have c5 := set5_cells s0 s1 s2 s3 s4 (.int .i64 0) (.int .i64 0) (.int .i64 0) (.int .i64 0) (.int .i64 0)
    have kk := set5_kept (HK1.out) HLT.out (.int .i64 0) (.int .i64 0) (.int .i64 0) (.int .i64 0) (.int .i64 0)
    rw [← hV] at c5 kk
    unfold set5 at hV
    rw [← hV]
    clear s0 s1 s2 s3 s4 hV
    refine bodyPost_ret (v := .tuple #[.agg #[.int .i64 0, .int .i64 0, .int .i64 0, .int .i64 0, .int .i64 0], .bool false]) ?_ rfl ⟨rfl, HQ.out.rr kk⟩
    simp only [results, show Tryz.f11.results = #[.cell 4 28, .tmp 5] from rfl]
    obtain ⟨s0, s1, s2, s3, s4⟩ := c5
    go_simp
end
end Go.Proofs.YtmmdfpafkmhgcaaGreat
