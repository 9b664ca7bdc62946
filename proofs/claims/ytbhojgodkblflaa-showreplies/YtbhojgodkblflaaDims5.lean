/- dims.check: measures, how many cells and leaves there are, limits. -/
import Derived.Test.YtbhojgodkblflaaDims3B
import Derived.Test.YtbhojgodkblflaaTree12
namespace Go.Proofs.Ytbhojgodkblflaa
open Go.RowKit Go.Maps
set_option linter.unusedSimpArgs false
set_option linter.unusedVariables false

def msA (ms : List ByteArray) (i : Nat) : ByteArray := ms.getD i ByteArray.empty
def measE (ms : List ByteArray) (i : Nat) : Int := if nameB (msA ms i) then (if idxI ms (msA ms i) < i then 4 else 0) else 3
def cellsN (m : Nat) (ds : List Dm) : Nat := ds.foldl (fun c d => c * d.2.length) m
def leavesN (m : Nat) (ds : List Dm) : Nat := ds.foldl (fun c d => c * (lvsN d.2).length) m
def tailE (m : Nat) (ds : List Dm) (lv sc : Int) : Int := if 4096 < cellsN m ds ∨ 1024 < leavesN m ds then 5 else if fromB lv 1024 && fromB sc 8 then 0 else 17
def CheckIs (ms : List ByteArray) (ds : List Dm) (lv sc er : Int) : Prop :=
  (∃ i, i < ms.length ∧ measE ms i ≠ 0 ∧ (∀ j, j < i → measE ms j = 0) ∧ er = measE ms i) ∨ ((∀ j, j < ms.length → measE ms j = 0) ∧ er = tailE ms.length ds lv sc)
theorem cells_le {m : Nat} {ds : List Dm} (h : ∀ d, d ∈ ds → d.2.length ≤ 60 ∧ (lvsN d.2).length ≤ 60) : cellsN m ds ≤ m * 60 ^ ds.length ∧ leavesN m ds ≤ m * 60 ^ ds.length := by
  induction ds generalizing m with
  | nil => simp [cellsN, leavesN]
  | cons d r ih =>
    obtain ⟨h1, h2⟩ := h d (List.mem_cons_self ..)
    have h3 := fun x hx => h x (List.mem_cons_of_mem _ hx)
    have e1 := (ih (m := m * d.2.length) h3).1
    have e2 := (ih (m := m * (lvsN d.2).length) h3).2
    have f1 : m * d.2.length * 60 ^ r.length ≤ m * 60 ^ (r.length + 1) := by
      rw [Nat.pow_succ, Nat.mul_comm (60 ^ r.length) 60, ← Nat.mul_assoc]
      exact Nat.mul_le_mul_right _ (Nat.mul_le_mul_left _ h1)
    have f2 : m * (lvsN d.2).length * 60 ^ r.length ≤ m * 60 ^ (r.length + 1) := by
      rw [Nat.pow_succ, Nat.mul_comm (60 ^ r.length) 60, ← Nat.mul_assoc]
      exact Nat.mul_le_mul_right _ (Nat.mul_le_mul_left _ h2)
    exact ⟨Nat.le_trans e1 f1, Nat.le_trans e2 f2⟩
theorem cells_take {m : Nat} {ds : List Dm} {k : Nat} (h : k < ds.length) : cellsN m (ds.take (k + 1)) = cellsN m (ds.take k) * (dmL ds k).length ∧ leavesN m (ds.take (k + 1)) = leavesN m (ds.take k) * (lvsN (dmL ds k)).length := by
  have e : dmL ds k = ds[k].2 := by simp [dmL, List.getD, List.getElem?_eq_getElem h]
  rw [List.take_succ_eq_append_getElem h, e]
  unfold cellsN leavesN
  rw [List.foldl_append, List.foldl_append]
  exact ⟨rfl, rfl⟩
theorem wrap_small (n : Nat) (h : n ≤ 51840000) : wrap64 (n : Int) = n ∧ IntKind.i64.wrap (n : Int) = n := by
  have e : IntKind.i64.wrap (n : Int) = n := by rw [IntKind.wrap_i64]; omega
  exact ⟨by unfold wrap64; omega, e⟩
theorem pow_le4 {m k : Nat} (hm : m ≤ 4) (hk : k ≤ 4) : m * 60 ^ k ≤ 51840000 := by
  have h1 : 60 ^ k ≤ 60 ^ 4 := Nat.pow_le_pow_right (by omega) hk
  have h2 : m * 60 ^ k ≤ 4 * 60 ^ 4 := Nat.mul_le_mul hm h1
  omega
set_option maxHeartbeats 4000000 in
set_option maxRecDepth 100000 in
theorem dims_check {w0 w : World} {p : Nat} {ds : List Dm} {tp : Nat → Nat} {ma : Option Addr} {mc : Nat} {ms : List ByteArray} {lv sc : Int} {dv : Value} (h : DP w0 w p ds tp ma mc ms lv sc dv) (hm : ds.length ≤ 4) (hms : ms.length ≤ 4) (hsz : ∀ i, i < ms.length → (msA ms i).size ≤ maxLen) :
    Calls Try.prog 35 #[.pointer (some ⟨p, 0, none⟩)] w fun e w' => ∃ er, e = .returned (.int .i64 er) ∧ CheckIs ms ds lv sc er ∧ Kept w w' := by
  have HD := hidMk h
  have HSZ := hidMk hsz
  have t1 := h.c1
  have hlw : ∀ k, k < ds.length → Whole w (tp k) (dmL ds k) := fun k hk => by obtain ⟨lo, hi, h1, _⟩ := h.tr k hk; exact h1.whole
  have HWW := hidMk hlw
  obtain ⟨da, dc, rfl, hrows⟩ := h.rows (by omega)
  have HRW := hidMk hrows
  clear h hsz hlw hrows
  go_enter Try.func35, Try.ntmps35
  go_wp2_with fail
  go_loopg [14] ms.length (fun g x wr => ∃ k : Nat, k + g = ms.length ∧ x = .int .i64 k ∧ wr = w ∧ Hid (∀ j, j < k → measE ms j = 0))
  case atStart => exact ⟨0, by omega, rfl, rfl, hidMk fun j hj => absurd hj (by omega)⟩
  case round =>
    obtain ⟨k, hkg, rfl, hwr, HJ⟩ := hrel
    have HKG := hidMk hkg
    subst hwr
    by_cases hkn : k < ms.length
    · obtain ⟨b, o, rfl, _, hcs⟩ := HD.out.mss.cells (by omega)
      have hc : wr.cell? ⟨b, o + k, none⟩ = some (.string (msA ms k)) := hcs k hkn
      have hnm := text_Name (msA ms k) (HSZ.out k hkn)
      have hme := dims_Meas HD.out (msA ms k)
      have hE : measE ms k = if nameB (msA ms k) then (if idxI ms (msA ms k) < k then 4 else 0) else 3 := rfl
      clear hcs hkg
      generalize idxI ms (msA ms k) = ix at *
      generalize msA ms k = s at *
      cases hb : nameB s with
      | false =>
        rw [hb] at hnm hE
        simp only [Bool.false_eq_true, if_false] at hE
        have HN := hidMk hnm
        have HF := hidMk (show CheckIs ms ds lv sc 3 from .inl ⟨k, hkn, by rw [hE]; decide, HJ.out, hE.symm⟩)
        clear hnm hme hE hb
        go_wp2_with (go_at_call 47; refine (HN.out _).mono ?_; rintro e w1 ⟨rfl, rfl⟩)
        go_ret
        exact ⟨3, rfl, HF.out, Kept.refl _⟩
      | true =>
        rw [hb] at hnm hE
        simp only [if_true] at hE
        have HN := hidMk hnm
        have HM := hidMk hme
        by_cases hix : ix < k
        · rw [if_pos hix] at hE
          have HF := hidMk (show CheckIs ms ds lv sc 4 from .inl ⟨k, hkn, by rw [hE]; decide, HJ.out, hE.symm⟩)
          clear hnm hme hE hb
          go_wp2_with (first | (go_at_call 47; refine (HN.out _).mono ?_; rintro e w1 ⟨rfl, rfl⟩) | (go_at_call 50; refine HM.out.mono ?_; rintro e w1 ⟨rfl, rfl⟩))
          go_ret
          exact ⟨4, rfl, HF.out, Kept.refl _⟩
        · rw [if_neg hix] at hE
          have HJ2 := hidMk (show ∀ j, j < k + 1 → measE ms j = 0 from fun j hj => by
            by_cases e : j = k
            · subst e; exact hE
            · exact HJ.out j (by omega))
          clear hnm hme hE hb
          have hix' : (k : Int) ≤ ix := by omega
          go_wp2_with (first | (go_at_call 47; refine (HN.out _).mono ?_; rintro e w1 ⟨rfl, rfl⟩) | (go_at_call 50; refine HM.out.mono ?_; rintro e w1 ⟨rfl, rfl⟩))
          go_roundg (gk - 1)
          case measure => have := HKG.out; omega
          case rel => exact ⟨k + 1, by have := HKG.out; omega, by go_num, rfl, HJ2⟩
    · obtain ⟨wA, hwA⟩ : ∃ wA, wA = wr := ⟨_, rfl⟩
      subst hwA
      have HAL := hidMk (show ∀ j, j < ms.length → measE ms j = 0 from fun j hj => HJ.out j (by omega))
      have hkk : ¬ ((k : Int) < (ms.length : Int)) := by omega
      have t0 := HD.out.c0
      have t1' := fun q => ((Kept.refl wA).drewN q).cellp t1
      have t0' := fun q => ((Kept.refl wA).drewN q).cellp t0
      clear HJ hkg HKG
      go_wp2_with fail
      go_quiet (fail)
      go_wp2_with fail
      go_loopg [5, 6, 43] ds.length (fun g x y z wq => ∃ j : Nat, j + g = ds.length ∧ z = .int .i64 j ∧ x = .int .i64 (cellsN ms.length (ds.take j)) ∧ y = .int .i64 (leavesN ms.length (ds.take j)) ∧ Kept wA wq)
      case atStart => exact ⟨0, by omega, rfl, rfl, rfl, (Kept.refl _).drewN _⟩
      case round =>
        obtain ⟨j, hjg, rfl, rfl, rfl, hk⟩ := hrel
        have HJG := hidMk hjg
        have HK := hidMk hk
        by_cases hjn : j < ds.length
        · obtain ⟨b, rfl, hb⟩ := HRW.out (by omega)
          obtain ⟨c1, c2⟩ := hb j hjn
          have d1 := hk.cellp c1
          have d2 := hk.cellp c2
          have hW := (HWW.out j hjn).kept hk
          have hLl := lvs_len hW.tr
          have hL60 := hW.big
          obtain ⟨e1, e2⟩ := cells_take (m := ms.length) hjn
          have hall : ∀ d, d ∈ ds.take (j + 1) → d.2.length ≤ 60 ∧ (lvsN d.2).length ≤ 60 := fun d hd => by
            obtain ⟨t, ht, e⟩ := List.getElem_of_mem (List.mem_of_mem_take hd)
            have hWt := HWW.out t ht
            have : dmL ds t = d.2 := by simp [dmL, List.getD, List.getElem?_eq_getElem ht, e]
            rw [this] at hWt
            exact ⟨hWt.big, Nat.le_trans (lvs_len hWt.tr) hWt.big⟩
          obtain ⟨b1, b2⟩ := cells_le (m := ms.length) hall
          have hp4 := pow_le4 (m := ms.length) (k := (ds.take (j + 1)).length) hms (by rw [List.length_take]; omega)
          rw [e1] at b1
          rw [e2] at b2
          have HE1 := hidMk e1
          have HE2 := hidMk e2
          have HLE := hidMk (show ∀ y, Kept wA y → _ from fun y hy => w_Len ((HWW.out j hjn).kept hy))
          have HLV := hidMk (show ∀ y, Kept wA y → _ from fun y hy => w_Leaves ((HWW.out j hjn).kept hy))
          clear hb c1 c2 hall e1 e2 hW hjg hk
          generalize cellsN ms.length (ds.take j) = X at *
          generalize leavesN ms.length (ds.take j) = Y at *
          generalize (dmL ds j).length = L at *
          generalize tp j = q at *
          generalize dmN ds j = nmj at *
          have hLV : (lvsN (dmL ds j)).length ≤ 60 := by omega
          have g1 : ((X : Int) * (L : Int)) = ((X * L : Nat) : Int) := by simp
          have g2 : ((Y : Int) * ((lvsN (dmL ds j)).length : Int)) = ((Y * (lvsN (dmL ds j)).length : Nat) : Int) := by simp
          have g3 : X * L ≤ 51840000 := by omega
          have g4 : Y * (lvsN (dmL ds j)).length ≤ 51840000 := by omega
          generalize lvsN (dmL ds j) = LV at *
          generalize hXL : X * L = XL at *
          generalize hYL : Y * LV.length = YL at *
          have m1 : wrap64 ((X : Int) * (L : Int)) = XL := by rw [g1]; exact (wrap_small XL g3).1
          have m2 : wrap64 ((Y : Int) * (LV.length : Int)) = YL := by rw [g2]; exact (wrap_small YL g4).1
          have m3 : IntKind.i64.wrap ((X : Int) * (L : Int)) = XL := by rw [g1]; exact (wrap_small XL g3).2
          have m4 : IntKind.i64.wrap ((Y : Int) * (LV.length : Int)) = YL := by rw [g2]; exact (wrap_small YL g4).2
          have HXL := hidMk hXL
          have HYL := hidMk hYL
          clear hXL hYL g1 g2 b1 b2 hp4
          have jn' : (j : Int) < ds.length := by omega
          go_wp2_with fail
          refine (HLE.out _ (HK.out.alloc _)).mono ?_
          rintro e w5 ⟨rfl, rfl⟩
          go_wp2_with fail
          refine (HLV.out _ (HK.out.alloc _)).mono ?_
          rintro e w6 ⟨v6, rfl, o6, k6⟩
          obtain ⟨a6, c6, rfl, _⟩ := o6.sl (by rw [ints_len]; unfold maxLen; omega)
          rw [ints_len]
          have K6 := hidMk ((HK.out.alloc _).trans k6)
          clear o6 k6
          go_wp2_with fail
          go_roundg (gk - 1)
          case measure => have := HJG.out; omega
          case rel =>
            refine ⟨j + 1, by have := HJG.out; omega, by go_num, ?_, ?_, K6.out⟩
            · rw [HE1.out]
            · rw [HE2.out]
        · have hjj : ¬ ((j : Int) < (ds.length : Int)) := by omega
          have htk : ds.take j = ds := List.take_of_length_le (by omega)
          rw [htk]
          have HT := hidMk (show tailE ms.length ds lv sc = if 4096 < cellsN ms.length ds ∨ 1024 < leavesN ms.length ds then 5 else if fromB lv 1024 && fromB sc 8 then 0 else 17 from rfl)
          have HFT := hidMk (show ∀ er, er = tailE ms.length ds lv sc → CheckIs ms ds lv sc er from fun er e => .inr ⟨HAL.out, e⟩)
          have u2 := hk.cellp HD.out.c2
          have u3 := hk.cellp HD.out.c3
          generalize tailE ms.length ds lv sc = te at *
          generalize cellsN ms.length ds = X at *
          generalize leavesN ms.length ds = Y at *
          have HF1 := hidMk (dims_from1 lv 1024)
          have HF2 := hidMk (dims_from1 sc 8)
          generalize fromB lv 1024 = f1 at *
          generalize fromB sc 8 = f2 at *
          clear hk hjg htk
          by_cases hX : 4096 < X
          · have HTT := hidMk (show (5 : Int) = te by rw [HT.out, if_pos (.inl hX)])
            have hX' : (4096 : Int) < X := by omega
            go_wp2_with fail
            go_ret
            exact ⟨5, rfl, HFT.out 5 HTT.out, HK.out⟩
          · have hX' : (X : Int) ≤ 4096 := by omega
            by_cases hY : 1024 < Y
            · have HTT := hidMk (show (5 : Int) = te by rw [HT.out, if_pos (.inr hY)])
              have hY' : (1024 : Int) < Y := by omega
              go_wp2_with fail
              go_ret
              exact ⟨5, rfl, HFT.out 5 HTT.out, HK.out⟩
            · have hY' : (Y : Int) ≤ 1024 := by omega
              have HT3 := hidMk (show te = if f1 && f2 then 0 else 17 by rw [HT.out, if_neg (by omega)])
              cases f1 with
              | false =>
                go_wp2_with (go_at_call 32; refine (HF1.out _).mono ?_; rintro e w7 ⟨rfl, rfl⟩)
                go_ret
                exact ⟨17, rfl, HFT.out 17 (by rw [HT3.out]; rfl), HK.out⟩
              | true =>
                cases f2 with
                | false =>
                  go_wp2_with fail
                  refine (HF1.out _).mono ?_
                  rintro e w7 ⟨rfl, rfl⟩
                  go_wp2_with fail
                  refine (HF2.out _).mono ?_
                  rintro e w8 ⟨rfl, rfl⟩
                  go_wp2_with fail
                  go_ret
                  exact ⟨17, rfl, HFT.out 17 (by rw [HT3.out]; rfl), HK.out⟩
                | true =>
                  go_wp2_with fail
                  refine (HF1.out _).mono ?_
                  rintro e w7 ⟨rfl, rfl⟩
                  go_wp2_with fail
                  refine (HF2.out _).mono ?_
                  rintro e w8 ⟨rfl, rfl⟩
                  go_wp2_with fail
                  go_ret
                  exact ⟨0, rfl, HFT.out 0 (by rw [HT3.out]; rfl), HK.out⟩
end Go.Proofs.Ytbhojgodkblflaa
