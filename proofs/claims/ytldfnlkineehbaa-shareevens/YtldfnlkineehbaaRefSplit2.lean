/- The definition's Split, where there is no error. -/
import Derived.Test.YtldfnlkineehbaaRefSplit1
namespace Go.Proofs.Ytldfnlkineehbaa
open Go.RowKit
set_option linter.unusedSimpArgs false
set_option linter.unusedVariables false

theorem lst_snoc (k : Nat) (d : Nat → Int) (g : IntKind) : (lst (k + 1) d).map (Value.int g) = (lst k d).map (Value.int g) ++ [.int g (d k)] := by
  unfold lst
  rw [List.range_succ, List.map_append, List.map_append]
  rfl
/-- Two slices of a call's own lie in two blocks. -/
def Apart (u v : Value) : Prop := ∀ g, u.ownBlock = some g → v.ownBlock ≠ some g
theorem Apart.ne {u v : Value} (h : Apart u v) : v.ownBlock = none ∨ v.ownBlock ≠ u.ownBlock := by
  by_cases e : v.ownBlock = none
  · exact .inl e
  · right
    intro e2
    cases hu : u.ownBlock with
    | none => rw [hu] at e2; exact e e2
    | some g => exact h g hu (e2.trans hu)
theorem Apart.symm {u v : Value} (h : Apart u v) : Apart v u := fun g hv hu => h g hu hv
/-- A row that append has made. -/
theorem arr_own {k : IntKind} {w : World} {base e n : Nat} {v : Value} {d : Nat → Int} (h : w.ownsRow base e 1 v n ((lst n d).map (Value.int k))) (hn : 0 < n) : ∃ g cap, base ≤ g ∧ v = .slice (some ⟨g, 0, none⟩) n cap ∧ n ≤ cap ∧ Arr k w g n d := by
  have h' := h
  obtain ⟨hl, ⟨hv, hz⟩ | ⟨g, cap, cur, rfl, hb, hheap, hc, hcm, hsz, htk⟩⟩ := h
  · omega
  · refine ⟨g, cap, hb, rfl, hc, ?_, fun i hi => ?_, fun i hi => h'.frozenAt i⟩
    · by_cases hlt : g < w.heap.size
      · exact hlt
      · rw [Array.getElem?_eq_none (by omega)] at hheap; cases hheap
    · rw [h'.cellAt i (by omega), List.getElem?_map, List.getElem?_eq_getElem (by rw [lst_len]; exact hi)]
      simp [lst]

set_option maxHeartbeats 4000000 in
set_option maxRecDepth 100000 in
theorem ref_Split_ok (whole all : Int) (a : Option Addr) (len cap : Nat) (l : List Int) (f : Nat → Int) (w : World) (hs : Sl .u64 w a len l) (hn : ∀ x ∈ l, isU x) (h0 : 0 < len) (hlen : len ≤ 1024) (hw : isU whole) (hall : sumL l = all) (ha0 : 0 < all) (hau : all < 18446744073709551616)
    (himg : Img 0 len (fun i => (i : Int)) f) (hsrt : Srt (keyR whole all l) f 0 len) :
    Calls Try.prog 31 #[.int .u64 whole, .slice a len cap] w fun e w' => ∃ P cap', w.heap.size ≤ P ∧ e = .returned (.tuple #[.slice (some ⟨P, 0, none⟩) len cap', .int .i64 0]) ∧
      Arr .u64 w' P len (partF whole all l (keyR whole all l)) ∧ Kept w w' := by
  obtain ⟨i0, hi0, hz0, hz1, hz2⟩ := info_parts info_u64
  have hll := hs.len
  have b0 : (((len : Int) == 0) = false) := by rw [beq_eq_false_iff_ne]; omega
  have ba : ((all == 0) = false) := by rw [beq_eq_false_iff_ne]; omega
  have HS := hidMk hs
  have HN := hidMk hn
  have HALL := hidMk hall
  have HI := hidMk himg
  have HSR := hidMk hsrt
  have HW := hidMk hw
  have hw0 := hw.1
  have hw1 := hw.2
  clear hs hn hall himg hsrt hw
  go_enter Try.func31, Try.ntmps31
  go_wp2
  go_loop [6, 7] (fun x y => ∃ k : Nat, k ≤ len ∧ y = .int .i64 k ∧ x = .int .u64 (sumL (l.take k))) (fun _ y => len - (intOf y).toNat)
  case atStart => exact ⟨0, Nat.zero_le _, rfl, rfl⟩
  case round =>
    obtain ⟨k, hk, rfl, rfl⟩ := hrel
    by_cases hkl : k < len
    · obtain ⟨b, o, rfl, hb, hc⟩ := HS.out.cells (by omega)
      have hcell := hc k hkl
      have hst := sumL_take l k (by omega)
      have hle := sumL_take_le l (k + 1) HN.out
      have hx := HN.out _ (getD_mem l k (by omega))
      have hy0 : 0 ≤ sumL (l.take k) := sumL_nonneg _ fun x hx => HN.out x (List.mem_of_mem_take hx)
      have hx0 := hx.1
      rw [HALL.out] at hle
      clear hc hx
      generalize l.getD k 0 = x at *
      have hov : sumL (l.take k) + x ≤ 18446744073709551615 := by omega
      generalize hyy : sumL (l.take k) = y at *
      clear hyy
      have HST := hidMk hst
      clear hst hle
      go_wp2
      exact ⟨⟨k + 1, by omega, by go_num, by rw [HST.out]⟩, by simp [intOf]; omega⟩
    · have e : l.take k = l := List.take_of_length_le (by omega)
      rw [e, HALL.out]
      clear e
      go_wp2_with fail
      go_loopw [8, 9, 10, 11] (fun u v x y wr => ∃ j : Nat, j ≤ len ∧ y = .int .i64 j ∧ x = .int .u64 (leftAt whole all l j) ∧ wr.ownsRow w.heap.size 28 1 u j ((lst j (qF whole all l)).map (Value.int .u64)) ∧ wr.ownsRow w.heap.size 28 1 v j ((lst j (rF whole all l)).map (Value.int .u64)) ∧ Apart u v ∧ Kept w wr) (fun _ _ _ y _ => len - (intOf y).toNat)
      case atStart => exact ⟨0, Nat.zero_le _, rfl, by simp [leftAt, sumN], World.ownsRow_nil _ _ _ _, World.ownsRow_nil _ _ _ _, fun g hg => by simp [Value.ownBlock] at hg, Kept.refl _⟩
      case round =>
        obtain ⟨j, hj, rfl, rfl, ho1, ho2, hap, hkept⟩ := hrel
        by_cases hjl : j < len
        · obtain ⟨b, o, rfl, hb, hc⟩ := (HS.out.kept hkept).cells (by omega)
          have hcell := hc j hjl
          have hxm := HN.out _ (getD_mem l j (by omega))
          have hsum : ∀ i, i ≤ len → sumN (fun i => l.getD i 0) i ≤ all := by
            intro i hi
            rw [← sumL_sumN l i (by omega), ← HALL.out]
            exact sumL_take_le l i HN.out
          have hxa : l.getD j 0 ≤ all := by
            have h1 := hsum (j + 1) (by omega)
            simp only [sumN] at h1
            have h2 : 0 ≤ sumN (fun i => l.getD i 0) j := sumN_nonneg j fun i hi => (HN.out _ (getD_mem l i (by omega))).1
            omega
          have hl0 := left_nonneg whole all l hw0 ha0 (j + 1) (hsum (j + 1) (by omega))
          have hl1 : leftAt whole all l (j + 1) = leftAt whole all l j - qF whole all l j := by unfold leftAt; simp only [sumN]; omega
          have hq0 := qF_nonneg whole all l hw0 ha0 (fun x hx => (HN.out x hx).1) j
          have hlw : leftAt whole all l j ≤ whole := by
            unfold leftAt
            have := sumN_nonneg (f := qF whole all l) j fun i _ => qF_nonneg whole all l hw0 ha0 (fun x hx => (HN.out x hx).1) i
            omega
          obtain ⟨m1, m2⟩ := md_ok HW.out hxm.1 hxa ha0 hau
          have M := ref_MulDiv whole (l.getD j 0) all wr HW.out hxm ⟨by omega, by omega⟩
          rw [m1, m2] at M
          have e1 : whole * l.getD j 0 / all = qF whole all l j := rfl
          have e2 : whole * l.getD j 0 % all = rF whole all l j := rfl
          rw [e1, e2] at M
          rw [hl1] at hl0
          have HL1 := hidMk hl1
          have HKK := hidMk hkept
          have HO1 := hidMk ho1
          have HO2 := hidMk ho2
          have HAP := hidMk hap
          have hkz := hkept.size
          clear hc m1 m2 e1 e2 hl1 hsum hxm hxa hkept ho1 ho2 hap
          generalize l.getD j 0 = x at *
          generalize hQ : qF whole all l j = q at *
          generalize hRR : rF whole all l j = r at *
          generalize leftAt whole all l j = y at *
          generalize mdE whole x all = me at *
          have HM := hidMk M
          have HQ := hidMk hQ
          have HRR := hidMk hRR
          clear hQ hRR M
          go_wp2_with fail
          refine HM.out.mono ?_
          rintro e w2 ⟨rfl, rfl⟩
          clear HM
          have hoA := HO1.out
          go_wp2_with (at_builtin; refine wpList_append_own_at _ rfl _ _ 49 rfl w.heap.size 28 i0 (.int .u64 0) 1 8 Try.underlying49 hi0 hz0 hz1 hz2 rfl (by decide) _ _ _ rfl (hoA.alloc _) ⟨w2.heap.size, 0, none⟩ 1 1 [.int .u64 q] rfl rfl ?c1 ?c2 ?c3 ?c4 ?c5 ?_)
          case c1 =>
            intro j' u hj'
            match j', hj' with
            | 0, hj' => simp at hj'; subst hj'; simp [Addr.add]
          case c2 => first | rfl | (intro u hu; simp at hu; subst hu; rfl)
          case c3 => unfold maxLen; omega
          case c4 => omega
          case c5 => first | omega | (simp; omega)
          intro u' w3 hownA hgrowA _ hatA
          have hoB := (HO2.out.alloc (Obj.cells #[Value.int IntKind.u64 q] 28)).kept hgrowA HAP.out.ne
          have ap1 : Apart u' u9 := by
            intro g hg
            rcases hatA with h | h
            · exact HAP.out g (h ▸ hg)
            · intro e
              have h1 := HO2.out.lt g e
              rw [h] at hg
              simp at hg
              omega
          have kp1 : Kept w w3 := kept_grown (HKK.out.alloc _) (hoA.alloc _) hgrowA
          have hkz3 := kp1.size
          have HA := hidMk hownA
          have AP1 := hidMk ap1
          have KP1 := hidMk kp1
          clear hownA hgrowA hatA ap1 kp1 hoA HO1 HO2 HAP HKK
          go_wp2_with (at_builtin; refine wpList_append_own_at _ rfl _ _ 49 rfl w.heap.size 28 i0 (.int .u64 0) 1 8 Try.underlying49 hi0 hz0 hz1 hz2 rfl (by decide) _ _ _ rfl (hoB.alloc _) ⟨w3.heap.size, 0, none⟩ 1 1 [.int .u64 r] rfl rfl ?c1 ?c2 ?c3 ?c4 ?c5 ?_)
          case c1 =>
            intro j' u hj'
            match j', hj' with
            | 0, hj' => simp at hj'; subst hj'; simp [Addr.add]
          case c2 => first | rfl | (intro u hu; simp at hu; subst hu; rfl)
          case c3 => unfold maxLen; omega
          case c4 => omega
          case c5 => first | omega | (simp; omega)
          intro v' w4 hownB hgrowB _ hatB
          have hoC := (HA.out.alloc (Obj.cells #[Value.int IntKind.u64 r] 28)).kept hgrowB AP1.out.symm.ne
          have ap2 : Apart u' v' := by
            intro g hg e
            rcases hatB with h | h
            · exact AP1.out g hg (h ▸ e)
            · have h1 := HA.out.lt g hg
              rw [h] at e
              simp at e
              omega
          have kp2 : Kept w w4 := kept_grown (KP1.out.alloc _) (hoB.alloc _) hgrowB
          have HB := hidMk hownB
          have HC := hidMk hoC
          have AP2 := hidMk ap2
          have KP2 := hidMk kp2
          clear hownB hgrowB hatB hoC ap2 kp2 hoB HA AP1 KP1
          go_wp2_with fail
          refine ⟨⟨j + 1, by omega, by go_num, by rw [HL1.out], ?_, ?_, AP2.out, KP2.out⟩, by simp [intOf]; omega⟩
          · rw [lst_snoc, HQ.out]; exact HC.out
          · rw [lst_snoc, HRR.out]; exact HB.out
        · have ej : j = len := by omega
          subst ej
          obtain ⟨P, cP, hP, rfl, hcP, harP⟩ := arr_own ho1 h0
          obtain ⟨R, cR, hR, rfl, hcR, harR⟩ := arr_own ho2 h0
          have hPR : P ≠ R := fun e => hap P rfl (by rw [e]; rfl)
          have hsn : sumN (fun i => l.getD i 0) l.length = all := by rw [← sumL_all]; exact HALL.out
          have hl0 := left_nonneg whole all l hw0 ha0 l.length (Int.le_of_eq hsn)
          have hl1 := left_lt whole all l ha0 hsn (by omega)
          have hla := left_all whole all l hsn
          have hl2 : 0 < leftAt whole all l l.length → ∀ i, i < j → qF whole all l i + 1 ≤ whole := by
            intro hp i hi
            have g0 := qF_nonneg whole all l hw0 ha0 (fun x hx => (HN.out x hx).1)
            have g1 := sumN_mono g0 (i + 1) l.length (by omega)
            have g2 := sumN_nonneg (f := qF whole all l) i fun q _ => g0 q
            simp only [sumN] at g1
            unfold leftAt at hp
            omega
          rw [hll] at hl0 hl1 hl2 hla
          obtain ⟨T, hT⟩ := Int.eq_ofNat_of_zero_le hl0
          rw [hT] at hl1 hl2 hla ⊢
          have HT := hidMk hT
          have HL2 := hidMk hl2
          have HLA := hidMk hla
          have HAP := hidMk harP
          have HAR := hidMk harR
          have HKP := hidMk hkept
          clear hT hl0 hl2 hla hsn ho1 ho2 hap harP harR hkept
          go_wp2_with fail
          go_loopw [10, 15] (fun x y wr => ∃ k : Nat, k ≤ T ∧ y = .int .i64 k ∧ x = .int .u64 ((T : Int) - k) ∧ Arr .u64 wr P j (inc (qF whole all l) f k) ∧ Arr .u64 wr R j (zer (rF whole all l) f k) ∧ Kept w wr) (fun _ y _ => T - (intOf y).toNat)
          case atStart => exact ⟨0, Nat.zero_le _, rfl, by simp, HAP.out, HAR.out, HKP.out⟩
          case round =>
            obtain ⟨k, hkT, rfl, rfl, hp, hr, hkk⟩ := hrel
            clear HAP HAR HKP
            by_cases hkl2 : k < T
            · have HP := hidMk hp
              have HR := hidMk hr
              have HK := hidMk hkk
              clear hp hr hkk
              go_wp2_with fail
              go_loopw [16, 17] (fun x y wq => ∃ b i : Nat, b < i ∧ i ≤ j ∧ x = .int .i64 b ∧ y = .int .i64 i ∧ (∀ p, p < i → zer (rF whole all l) f k p ≤ zer (rF whole all l) f k b) ∧ (∀ p, p < b → zer (rF whole all l) f k p < zer (rF whole all l) f k b) ∧ Arr .u64 wq P j (inc (qF whole all l) f k) ∧ Arr .u64 wq R j (zer (rF whole all l) f k) ∧ Kept w wq) (fun _ y _ => j - (intOf y).toNat)
              case atStart =>
                refine ⟨0, 1, by omega, by omega, rfl, rfl, fun p hp => ?_, fun p hp => absurd hp (by omega), HP.out, HR.out, HK.out⟩
                have e0 : p = 0 := by omega
                rw [e0]
                exact Int.le_refl _
              case round =>
                obtain ⟨b, i, hbi, hij, rfl, rfl, hmx, hfs, hp, hr, hkk⟩ := hrel
                clear HP HR HK
                have HMX := hidMk hmx
                have HFS := hidMk hfs
                have HP := hidMk hp
                have HR := hidMk hr
                have HK := hidMk hkk
                clear hmx hfs hp hr hkk
                by_cases hil : i < j
                · have c1 := HR.out.cell i hil
                  have c2 := HR.out.cell b (by omega)
                  have q1 : (i : Int) < (cR : Int) := by omega
                  have q2 : (b : Int) < (cR : Int) := by omega
                  have q3 : (i : Int) < (j : Int) := by omega
                  have q4 : (b : Int) < (j : Int) := by omega
                  obtain ⟨z1, hz1'⟩ : ∃ z1, zer (rF whole all l) f k i = z1 := ⟨_, rfl⟩
                  obtain ⟨z2, hz2'⟩ : ∃ z2, zer (rF whole all l) f k b = z2 := ⟨_, rfl⟩
                  rw [hz1'] at c1
                  rw [hz2'] at c2
                  have HZ1 := hidMk hz1'
                  have HZ2 := hidMk hz2'
                  clear hz1' hz2'
                  by_cases hgt : z2 < z1
                  · go_wp2_with fail
                    go_quiet (fail)
                    go_wp2_with fail
                    refine ⟨⟨i, i + 1, by omega, by omega, rfl, by go_num, fun p hp => ?_, fun p hp => ?_, HP.out.drewN _, HR.out.drewN _, below_drewN HK.out _⟩, by simp [intOf]; omega⟩
                    · rw [HZ1.out]
                      by_cases e : p = i
                      · subst e; rw [HZ1.out]; exact Int.le_refl _
                      · have := HMX.out p (by omega); rw [HZ2.out] at this; omega
                    · rw [HZ1.out]
                      have := HMX.out p hp; rw [HZ2.out] at this; omega
                  · go_wp2_with fail
                    go_quiet (fail)
                    go_wp2_with fail
                    refine ⟨⟨b, i + 1, by omega, by omega, rfl, by go_num, fun p hp => ?_, HFS.out, HP.out.drewN _, HR.out.drewN _, below_drewN HK.out _⟩, by simp [intOf]; omega⟩
                    by_cases e : p = i
                    · subst e; rw [HZ1.out, HZ2.out]; omega
                    · exact HMX.out p (by omega)
                · have ei : i = j := by omega
                  subst ei
                  obtain ⟨p, _, hpn, ep⟩ := HI.out.into k (Nat.zero_le _) (by omega)
                  have ep' : f k = (p : Int) := ep
                  have hKr : ∀ q : Nat, q < i → keyR whole all l q = rF whole all l q := fun q hq => by unfold keyR keyOf; rw [Int.toNat_natCast, lst_get _ _ _ (by omega)]
                  have hpos : 0 < rF whole all l p := by
                    refine top_pos (K := keyR whole all l) (n := i) (t := T) (all := all) hKr (fun q hq => rF_rng whole all l ha0 q) HLA.out p hpn ?_
                    rw [← ep', rank_at HI.out HSR.out k (by omega)]
                    exact hkl2
                  have hbp : b = p := best_is HI.out HSR.out hKr (by omega) ep' hpn hpos hbi HMX.out HFS.out
                  subst hbp
                  have hnot : inc (qF whole all l) f k b = qF whole all l b := inc_not _ _ _ _ fun q hq e => by
                    have h1 := HSR.out q k (Nat.zero_le _) hq (by omega)
                    rw [e, ep'] at h1
                    exact h1.irrefl
                  have c1 := HP.out.cell b hbi
                  rw [hnot] at c1
                  have c2 := HR.out.cell b hbi
                  have f1 := HP.out.fr b hbi
                  have f2 := HR.out.fr b hbi
                  have hq1 : qF whole all l b + 1 ≤ 18446744073709551615 := by
                    have := HL2.out (by omega) b hbi
                    omega
                  have hq0 := qF_nonneg whole all l hw0 ha0 (fun x hx => (HN.out x hx).1) b
                  have S1 := hidMk ((HP.out.set b hbi (qF whole all l b + 1)).other (C := R) (fun e => hPR e.symm) b (.int .u64 0))
                  have S2 := hidMk ((HR.out.other (C := P) hPR b (.int .u64 (qF whole all l b + 1))).set b hbi 0)
                  have S3 := hidMk ((HK.out.setCell (p := ⟨P, b, none⟩) hP (.int .u64 (qF whole all l b + 1))).setCell (p := ⟨R, b, none⟩) hR (.int .u64 0))
                  have HNOT := hidMk hnot
                  have HE := hidMk ep'
                  have q1 : (b : Int) < (i : Int) := by omega
                  have hRP : R ≠ P := fun e => hPR e.symm
                  clear hpos hKr ep ep' hnot HP HR HK HMX HFS
                  generalize hqq : qF whole all l b = q at *
                  clear hqq
                  generalize zer (rF whole all l) f k b = zz at *
                  go_wp2_with fail
                  refine ⟨⟨k + 1, by omega, by go_num, by congr 1; omega, S1.out.eqv fun x hx => ?_, S2.out.eqv fun x hx => ?_, S3.out⟩, by simp [intOf]; omega⟩
                  · simp only [inc]
                    rw [HE.out]
                    by_cases e : x = b
                    · subst e; rw [if_pos rfl, if_pos rfl, HNOT.out]
                    · rw [if_neg (by omega), if_neg e]
                  · simp only [zer]
                    rw [HE.out]
                    by_cases e : x = b
                    · subst e; rw [if_pos rfl, if_pos rfl]
                    · rw [if_neg (by omega), if_neg e]
            · have ek : k = T := by omega
              subst ek
              have eb : (k : Int) - k = 0 := by omega
              rw [eb]
              go_wp2_with fail
              go_ret2
              refine ⟨P, cP, hP, rfl, hp.eqv fun i hi => ?_, hkk⟩
              have hr2 := inc_rank (q := qF whole all l) HI.out HSR.out (by omega : k ≤ j) i hi
              rw [hr2]
              unfold partF
              rw [hll, HT.out]
              by_cases e : rank (keyR whole all l) j i < k
              · rw [if_pos e, if_pos (by omega)]
              · rw [if_neg e, if_neg (by omega)]
end Go.Proofs.Ytldfnlkineehbaa
