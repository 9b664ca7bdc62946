/- The definition's arena: Keep, Drop. -/
import Derived.Test.YtjkbhaplngnniaaDoorRefAr1
namespace Go.Proofs.YtjkbhaplngnniaaDoor
open Go.RowKit Go.Maps
set_option linter.unusedSimpArgs false
set_option linter.unusedVariables false

theorem nL_set (rf : Int → Nat) (n : Nat) {i : Nat} (hi : i ≤ n) (v : Nat) : nL (setR rf (i : Nat) v) n = (nL rf n).set i (v : Int) := by
  apply List.ext_getElem?
  intro j
  unfold nL
  by_cases hj : j ≤ n
  · rw [List.getElem?_map, List.getElem?_range (by omega)]
    by_cases e : j = i
    · subst e
      rw [List.getElem?_set_self (by simp; omega)]
      simp [setR]
    · rw [List.getElem?_set_ne (fun e' => e e'.symm), List.getElem?_map, List.getElem?_range (by omega)]
      simp only [Option.map_some]
      rw [setR_other _ _ (by omega)]
  · rw [List.getElem?_eq_none (by simp; omega), List.getElem?_eq_none (by simp; omega)]
section
variable {w : World} {B q : Nat} {most : Int} {n : Nat} {rf : Int → Nat} {nd : Int → ANd} {M bL bN cL cN : Nat} {xs : List Value}
theorem RQ.setN (h : RQ w B q most n rf nd M bL bN cL cN xs) {i : Nat} (h1 : 1 ≤ i) (hi : i ≤ n) (v : Nat) (hv : v ≠ 0 → rf i ≠ 0) {M' : Nat} (hM : M ≤ M') (hv' : v ≤ M') (hM' : M' ≤ 4611686018427387904) :
    RQ (w.setCell ⟨bN, i, none⟩ (.int .i64 v)) B q most n (setR rf (i : Nat) v) nd M' bL bN cL cN xs ∧ Chg (fun j => j = bN) w (w.setCell ⟨bN, i, none⟩ (.int .i64 v)) := by
  have c : Chg (fun j => j = bN) w (w.setCell ⟨bN, i, none⟩ (.int .i64 v)) := chg_setCells (S := fun j => j = bN) rfl [.int .i64 v] i (Chg.refl _ w)
  refine ⟨⟨c.cellp h.c0 (fun e => h.d2 e.symm), c.cellp h.c1 (fun e => h.d2 e.symm), c.cellp h.c2 (fun e => h.d2 e.symm), fun j => (c.frozen (p := ⟨q, j, none⟩) (show q < w.heap.size from cell_lt h.c0) (fun e => h.d2 e.symm)).trans (h.fz j), ?_, ?_, fun k g1 g2 g3 => ?_, fun k hk => ?_, h.kok, h.low, h.nm, fun k => ?_, hM', h.d1, h.d2, h.d3⟩, c⟩
  · have hlt := World.ownsRow.lt h.ownL
    obtain ⟨h0, ⟨h1, _⟩ | ⟨k, cap, cur, hv, hb', hh, r⟩⟩ := h.ownL
    · cases h1
    · cases hv
      refine ⟨h0, .inr ⟨bL, _, cur, rfl, hb', ?_, r⟩⟩
      rw [c.block bL (hlt bL rfl).2 h.d3]
      exact hh
  · have ho := h.ownN
    unfold OwnI at ho ⊢
    rw [nL_len] at ho ⊢
    have := own_setL [.int .i64 (v : Int)] i ho
    rw [nL_set rf n hi v, List.map_set]
    exact this
  · refine h.nodes k g1 g2 ?_
    by_cases e : k = i
    · subst e; rw [setR_same] at g3; exact hv g3
    · rw [setR_other _ _ (by omega)] at g3; exact g3
  · rw [setR_other _ _ (by omega)]; exact h.ok k hk
  · unfold setR; split
    · exact hv'
    · exact Nat.le_trans (h.rb k) hM
theorem RQ.froz (h : RQ w B q most n rf nd M bL bN cL cN xs) (j : Nat) : w.frozen? ⟨bN, j, none⟩ = false := by
  have ho := h.ownN
  unfold OwnI at ho
  rw [nL_len] at ho
  obtain ⟨h0, ⟨h1, _⟩ | ⟨k, cap, cur, hv, hb', hh, r⟩⟩ := ho
  · cases h1
  · cases hv
    simp [World.frozen?, hh]
theorem RQ.drew (h : RQ w B q most n rf nd M bL bN cL cN xs) : RQ w.drew B q most n rf nd M bL bN cL cN xs := h.chg (S := fun _ => False) (Chg.refl _ w).drew (fun e => e) (fun e => e) (fun e => e)
set_option maxHeartbeats 1000000 in
theorem r9_Keep (h : RQ w B q most n rf nd M bL bN cL cN xs) (hM : M + 1 ≤ 4611686018427387904) (i : Int) : Calls Tryd.prog 33 #[.pointer (some ⟨q, 0, none⟩), .int .i64 i] w fun e w' => e = .returned (.int .i64 (atE rf i)) ∧ RQ w' B q most n (KeepR rf i) nd (M + 1) bL bN cL cN xs ∧ Chg (fun j => j = bN) w w' := by
  have HI := hidMk (r9_Is h i)
  unfold atE KeepR
  by_cases hz : rf i = 0
  · have hd : decide (rf i ≠ 0) = false := by simp [hz]
    rw [hd] at HI
    rw [if_pos hz, if_pos hz]
    have HH := hidMk (show RQ w B q most n rf nd (M + 1) bL bN cL cN xs from ⟨h.c0, h.c1, h.c2, h.fz, h.ownL, h.ownN, h.nodes, h.ok, h.kok, h.low, h.nm, fun i => Nat.le_trans (h.rb i) (by omega), hM, h.d1, h.d2, h.d3⟩)
    clear h hd hz
    go_enter Tryd.func33, Tryd.ntmps33
    go_wp2_with fail
    refine HI.out.mono ?_
    rintro e w1 ⟨rfl, rfl⟩
    go_wp2_with fail
    go_ret
    exact ⟨rfl, HH.out, Chg.refl _ _⟩
  · have hd : decide (rf i ≠ 0) = true := by simp [hz]
    rw [hd] at HI
    rw [if_neg hz, if_neg hz]
    have hin : 1 ≤ i ∧ i ≤ (n : Int) := by
      by_cases c : 1 ≤ i ∧ i ≤ (n : Int)
      · exact c
      · exact absurd (h.ok i c) hz
    obtain ⟨k, rfl⟩ : ∃ k : Nat, i = (k : Int) := ⟨i.toNat, by omega⟩
    have hc := h.count (i := k) (by omega)
    have hf := h.froz k
    have hb := h.rb k
    have hn := h.nm
    have h2 := h.c2
    obtain ⟨s1, s2⟩ := h.setN (i := k) (by omega) (by omega) (rf k + 1) (fun _ => hz) (M' := M + 1) (by omega) (by omega) hM
    have HS := hidMk (And.intro s1.drew s2.drew)
    have hk' : (k : Int) < (n : Int) + 1 := by omega
    have hw : wrap64 ((rf k : Int) + 1) = (rf k : Int) + 1 := by unfold wrap64; omega
    rw [show ((rf k + 1 : Nat) : Int) = (rf k : Int) + 1 by omega] at HS
    clear h hd hz hin s1 s2
    generalize hx : rf (k : Int) = x at *
    go_enter Tryd.func33, Tryd.ntmps33
    go_wp2_with fail
    refine HI.out.mono ?_
    rintro e w1 ⟨rfl, hw1⟩
    rw [hw1]
    go_wp2_with fail
    go_region
    go_wp2_with fail
    go_ret
    exact ⟨rfl, HS.out.1, HS.out.2⟩
/-- A kid of a node, in its row. -/
theorem RQ.kid (h : RQ w B q most n rf nd M bL bN cL cN xs) {i : Nat} (hi : i ≤ n) {x : ANd} (hx : x.kids.length = 8) (hn : ∀ j, j < 25 → xs[25 * i + j]? = (ndL x)[j]?) {j : Nat} (hj : j < 8) : w.cell? ⟨bL, i * 25 + 1 + j, none⟩ = some (.int .i64 (x.kids.getD j 0)) := by
  have h1 := h.ownL.cellAt (i * 25 + 1 + j) (by omega)
  rw [h1, show i * 25 + 1 + j = 25 * i + (1 + j) by omega, hn (1 + j) (by omega)]
  exact ndL_kid x hx j hj
set_option maxHeartbeats 4000000 in
theorem r9_Drop : ∀ (K : Nat) {w : World} {rf r : Int → Nat} (i : Int), RQ w B q most n rf nd M bL bN cL cN xs → DropsN (kdA nd) K rf [i] r → Calls Tryd.prog 34 #[.pointer (some ⟨q, 0, none⟩), .int .i64 i] w fun e w' => e = .returned (.int .i64 (atE rf i)) ∧ RQ w' B q most n r nd M bL bN cL cN xs ∧ Chg (fun j => j = bN) w w' := by
  intro K
  induction K using Nat.strongRecOn with
  | ind K ih =>
  intro w rf r i h hd
  have HI := hidMk (r9_Is h i)
  obtain ⟨K', rfl, hd'⟩ := drops_pos hd
  unfold atE
  by_cases hz : rf i = 0
  · have hdc : decide (rf i ≠ 0) = false := by simp [hz]
    rw [hdc] at HI
    rw [if_pos hz]
    have hk : stK (kdA nd) rf i = [] := by unfold stK; rw [if_neg (by omega)]
    rw [stR_none hz, hk] at hd'
    obtain ⟨_, hr⟩ := drops_nil hd'
    rw [hr]
    have HH := hidMk h
    clear h hdc hz ih hd hd' hk hr
    go_enter Tryd.func34, Tryd.ntmps34
    go_wp2_with fail
    refine HI.out.mono ?_
    rintro e w1 ⟨rfl, rfl⟩
    go_wp2_with fail
    go_ret
    exact ⟨rfl, HH.out, Chg.refl _ _⟩
  · have hdc : decide (rf i ≠ 0) = true := by simp [hz]
    rw [hdc] at HI
    rw [if_neg hz]
    have hin : 1 ≤ i ∧ i ≤ (n : Int) := by
      by_cases c : 1 ≤ i ∧ i ≤ (n : Int)
      · exact c
      · exact absurd (h.ok i c) hz
    obtain ⟨k, rfl⟩ : ∃ k : Nat, i = (k : Int) := ⟨i.toNat, by omega⟩
    have hc := h.count (i := k) (by omega)
    have hf := h.froz k
    have hb := h.rb k
    have hn := h.nm
    have h2 := h.c2
    have hMb := h.Mb
    obtain ⟨s1, s2⟩ := h.setN (i := k) (by omega) (by omega) (rf k - 1) (fun _ => hz) (M' := M) (Nat.le_refl _) (by omega) h.Mb
    have hst : setR rf (k : Nat) (rf k - 1) = stR rf k := by
      funext j; unfold setR stR
      by_cases e : j = k
      · subst e; simp
      · rw [if_neg e, if_neg e]
    rw [hst] at s1
    obtain ⟨W1, hW1⟩ : ∃ W, W = (w.setCell ⟨bN, k, none⟩ (.int .i64 ((rf k - 1 : Nat) : Int))).drew := ⟨_, rfl⟩
    have HR1 := hidMk (show RQ W1 B q most n (stR rf k) nd M bL bN cL cN xs ∧ Chg (fun j => j = bN) w W1 from by rw [hW1]; exact ⟨s1.drew, s2.drew⟩)
    have hc1 := HR1.out.1.count (i := k) (by omega)
    rw [stR_same] at hc1
    have hk' : (k : Int) < (n : Int) + 1 := by omega
    have h21 := HR1.out.1.c2
    have h11 := HR1.out.1.c1
    have hND := h.nodes k (by omega) (by omega) hz
    have HIH := hidMk (fun (Kc : Nat) (hK : Kc < K' + 1) (w : World) (rf r : Int → Nat) (i : Int) => ih Kc hK (w := w) (rf := rf) (r := r) i)
    by_cases hone : rf k = 1
    · have hsk : stK (kdA nd) rf k = (nd k).kids := by unfold stK; rw [if_pos hone]; rfl
      rw [hsk, List.append_nil] at hd'
      have HD := hidMk hd'
      have HKL := hidMk (h.kok k).1
      have HKI := hidMk (fun (W : World) (rf' : Int → Nat) (hW : RQ W B q most n rf' nd M bL bN cL cN xs) (j : Nat) (hj : j < 8) => hW.kid (i := k) (by omega) (h.kok k).1 hND hj)
      have hkn : (k : Int) < (n : Int) + 1 := by omega
      rw [hone] at hc hc1 hW1
      replace hc : w.cell? ⟨bN, k, none⟩ = some (.int .i64 1) := hc
      replace hc1 : W1.cell? ⟨bN, k, none⟩ = some (.int .i64 0) := hc1
      replace hW1 : W1 = (w.setCell ⟨bN, k, none⟩ (.int .i64 0)).drew := hW1
      generalize hl : (nd (k : Int)).kids = l at *
      clear h hdc hz hin s1 s2 hst ih hd hd' hsk hND hone hl
      go_enter Tryd.func34, Tryd.ntmps34
      go_wp2_with fail
      refine HI.out.mono ?_
      rintro e w1 ⟨rfl, hw1⟩
      rw [hw1]
      go_wp2_with fail
      go_region
      rw [← hW1]
      clear hW1 hc hf h2 hw1 HI
      go_wp2_with fail
      go_loopg [5] 9 (fun g s wr => ∃ (j : Nat) (rf' : Int → Nat) (Kc : Nat), j + g = 9 ∧ j ≤ 8 ∧ s = .int .i64 j ∧ Kc ≤ K' ∧ Hid (DropsN (kdA nd) Kc rf' (l.drop j) r) ∧ Hid (RQ wr B q most n rf' nd M bL bN cL cN xs) ∧ Hid (Chg (fun j => j = bN) w wr))
      case atStart => exact ⟨0, _, K', by omega, by omega, rfl, Nat.le_refl _, hidMk HD.out, hidMk HR1.out.1, hidMk HR1.out.2⟩
      case round =>
        clear hc1 h21 h11 HD HR1
        obtain ⟨j, rf', Kc, hjg, hj8, rfl, hKc, HD, HR, HC⟩ := hrel
        have HJG := hidMk hjg
        by_cases hj : j < 8
        · have hj' : (j : Int) < 8 := by omega
          have hkid := HKI.out wr rf' HR.out j hj
          have hL := HR.out.c1
          have hld : l.drop j = l.getD j 0 :: l.drop (j + 1) := by
            have hl8 := HKL.out
            rw [List.drop_eq_getElem_cons (by omega), List.getD_eq_getElem?_getD, List.getElem?_eq_getElem (by omega)]
            rfl
          rw [hld] at HD
          generalize l.getD j 0 = c at *
          by_cases hc0 : c = 0
          · subst hc0
            have HD2 := hidMk (show ∃ Kn, Kn ≤ K' ∧ DropsN (kdA nd) Kn rf' (l.drop (j + 1)) r from by
              obtain ⟨Kn, rfl, hh⟩ := drops_pos HD.out
              have h0 : rf' 0 = 0 := HR.out.ok 0 (by omega)
              have hk0 : stK (kdA nd) rf' 0 = [] := by unfold stK; rw [if_neg (by omega)]
              rw [stR_none h0, hk0] at hh
              exact ⟨Kn, by omega, hh⟩)
            clear HD hjg hld
            go_wp2_with fail
            go_roundg (gk - 1)
            case measure => have := HJG.out; omega
            case rel =>
              obtain ⟨Kn, h1, h2⟩ := HD2.out
              exact ⟨j + 1, rf', Kn, by have := HJG.out; omega, by omega, by go_num, h1, hidMk h2, HR, HC⟩
          · obtain ⟨K1, K2, r1, g1, g2, g3⟩ := drops_app Kc [c] (l.drop (j + 1)) HD.out
            have hpos : 1 ≤ K1 := by
              obtain ⟨K1', e, _⟩ := drops_pos g1
              omega
            have HCL := hidMk (HIH.out K1 (by omega) wr rf' r1 c HR.out g1)
            have HG2 := hidMk (And.intro (show K2 ≤ K' by omega) g2)
            have hc0' : (c == 0) = false := by simpa using hc0
            clear HD hjg hld g1 g2 g3
            go_wp2_with fail
            refine HCL.out.mono ?_
            rintro e w5 ⟨rfl, hr5, hc5⟩
            have HR5 := hidMk hr5
            have HC5 := hidMk (HC.out.trans hc5)
            clear hr5 hc5 HCL HC HR hkid hL
            go_wp2_with fail
            go_roundg (gk - 1)
            case measure => have := HJG.out; omega
            case rel => exact ⟨j + 1, r1, K2, by have := HJG.out; omega, by omega, by go_num, HG2.out.1, hidMk HG2.out.2, HR5, HC5⟩
        · have hj' : ¬ ((j : Int) < 8) := by omega
          have hld : l.drop j = [] := List.drop_eq_nil_of_le (by have := HKL.out; omega)
          rw [hld] at HD
          have HE := hidMk (drops_nil HD.out).2
          clear hld HD hjg hj
          go_wp2_with fail
          go_ret
          exact ⟨rfl, by rw [HE.out]; exact HR.out, HC.out⟩
    · have hsk : stK (kdA nd) rf k = [] := by unfold stK; rw [if_neg hone]
      rw [hsk] at hd'
      have hrr := (drops_nil hd').2
      rw [hrr]
      have hcast : ((rf k - 1 : Nat) : Int) = (rf k : Int) - 1 := by omega
      rw [hcast] at hc1 hW1
      have hy : (0 : Int) < (rf k : Int) - 1 := by omega
      have hy2 : (1 : Int) < (rf k : Int) := by omega
      have hy3 : 1 < rf k := by omega
      clear h hdc hz hin s1 s2 hst ih hd hd' hsk hND hone HIH hcast hrr
      generalize hx : rf (k : Int) = x at *
      go_enter Tryd.func34, Tryd.ntmps34
      go_wp2_with fail
      refine HI.out.mono ?_
      rintro e w1 ⟨rfl, hw1⟩
      rw [hw1]
      go_wp2_with fail
      go_region
      rw [← hW1]
      clear hW1 hc hf h2 hw1 HI
      go_wp2_with fail
      go_ret
      exact ⟨rfl, HR1.out.1, HR1.out.2⟩
end
end Go.Proofs.YtjkbhaplngnniaaDoor
