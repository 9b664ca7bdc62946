/- UndoBack: back and forward. -/
import Derived.Test.YtbikelbobanfbaaUndo5
import Derived.Deep.RegionHeld3
namespace Go.Proofs.Ytbikelbobanfbaa
open Go.RowKit Go.Maps
set_option linter.unusedSimpArgs false
set_option linter.unusedVariables false

theorem Hs.move {w w' : World} {S T T' : Nat → Prop} {hb : Nat} {past : List Int} {now : Int} {fut : List Int} (h : Hs w T hb past now fut) (k : Chg S w w') (hs : ∀ b, b < w.heap.size → S b → T b) (ht : ∀ b, b < w.heap.size → T' b → T b) : Hs w' T' hb past now fut := by
  obtain ⟨pa, pc, fa, fc, h, h2⟩ := h
  exact ⟨pa, pc, fa, fc, h.chg k (fun b e f => h2 b e (hs b (h.lt b e) f)), fun b e f => h2 b e (ht b (h.lt b e) f)⟩
/-- A history beside a row of the caller's. -/
structure BkS (w wr : World) (hb : Nat) (aa : Option Addr) (ac : Nat) (L : List Int) (p : List Int) (n : Int) (f : List Int) : Prop where
  row : Ro wr aa ac L
  new : ∀ b, Bk aa ac b → w.heap.size ≤ b
  kp : Kept w wr
  hs : Hs wr (fun b => b < w.heap.size ∨ Bk aa ac b) hb p n f
section
variable {w wr : World} {hb : Nat} {aa : Option Addr} {ac : Nat} {L p : List Int} {n : Int} {f : List Int}
theorem BkS.tlt (h : BkS w wr hb aa ac L p n f) : ∀ b, (b < w.heap.size ∨ Bk aa ac b) → b < wr.heap.size := fun b e => e.elim (fun q => Nat.lt_of_lt_of_le q h.kp.size) (h.row.lt b)
theorem BkS.on (h : BkS w wr hb aa ac L p n f) {w' : World} {p' : List Int} {n' : Int} {f' : List Int} (hc : Chg (fun b => ¬ (b < w.heap.size ∨ Bk aa ac b)) wr w') (h2 : Hs w' (fun b => b < w.heap.size ∨ Bk aa ac b) hb p' n' f') : BkS w w' hb aa ac L p' n' f' :=
  ⟨h.row.chg hc (fun b e q => q (.inr e)), h.new, hc.kept h.kp (fun j e => by by_cases q : j < w.heap.size; exact absurd (.inl q) e; omega), h2⟩
theorem BkS.keep (h : BkS w wr hb aa ac L p n f) {w' : World} (k : Kept wr w') : BkS w w' hb aa ac L p n f := ⟨h.row.kept k, h.new, h.kp.trans k, h.hs.kept k⟩
theorem BkS.push (h : BkS w wr hb aa ac L p n f) {w1 w' : World} {a' : Option Addr} {c' : Nat} {L' : List Int} (k : Kept wr w1) (r : Ro w' a' c' L') (hc : Chg (Bk aa ac) w1 w') (hb' : ∀ b, Bk a' c' b → Bk aa ac b ∨ w1.heap.size ≤ b) : BkS w w' hb a' c' L' p n f := by
  have s1 := h.kp.size
  have s2 := k.size
  refine ⟨r, fun b e => (hb' b e).elim (h.new b) (fun q => by omega), hc.kept (h.kp.trans k) h.new, ?_⟩
  exact (h.hs.move (S := Bk aa ac) (T' := fun b => b < w.heap.size ∨ Bk a' c' b) ((Chg.of_kept k).thn hc (fun j _ e => e)) (fun b _ e => .inr e) (fun b hlt e => e.elim .inl (fun q => (hb' b q).elim .inr (fun q => by omega))))
theorem bks_Do (h : BkS w wr hb aa ac L p n f) (x : Int) : Calls Try.prog 11 #[.pointer (some ⟨hb, 0, none⟩), .int .i64 x] wr fun e w' => ∃ v, e = .returned v ∧ BkS w w' hb aa ac L (pastL p n) x [] := by
  refine (hs_Do h.hs h.tlt x).mono ?_
  rintro e w' ⟨ga, gc, rfl, -, -, h2, hc⟩
  exact ⟨_, rfl, h.on hc h2⟩
end
theorem bks_Undo {w wr : World} {hb : Nat} {aa : Option Addr} {ac : Nat} {L p : List Int} {x n : Int} {f : List Int} (h : BkS w wr hb aa ac L (p ++ [x]) n f) : Calls Try.prog 13 #[.pointer (some ⟨hb, 0, none⟩)] wr fun e w' => e = .returned (.tuple #[.int .i64 x, .int .i64 0]) ∧ BkS w w' hb aa ac L p x (n :: f) := by
  refine (hs_Undo h.hs h.tlt).mono ?_
  rintro e w' ⟨rfl, h2, hc⟩
  exact ⟨rfl, h.on hc h2⟩
theorem bks_Redo {w wr : World} {hb : Nat} {aa : Option Addr} {ac : Nat} {L p : List Int} {x n : Int} {f : List Int} (h : BkS w wr hb aa ac L p n (x :: f)) : Calls Try.prog 15 #[.pointer (some ⟨hb, 0, none⟩)] wr fun e w' => e = .returned (.tuple #[.int .i64 x, .int .i64 0]) ∧ BkS w w' hb aa ac L (p ++ [n]) x f := by
  refine (hs_Redo h.hs h.tlt).mono ?_
  rintro e w' ⟨rfl, h2, hc⟩
  exact ⟨rfl, h.on hc h2⟩

/-- All from place d on, ahead of place m. -/
def bkP (A : List Int) (d m : Nat) : List Int := (A.take m).drop d
theorem bk_len (A : List Int) (d m : Nat) (hm : m ≤ A.length) : (bkP A d m).length = m - d := by simp [bkP]; omega
theorem take_more (A : List Int) (m : Nat) (hm : m < A.length) : A.take (m + 1) = A.take m ++ [A.getD m 0] := by
  rw [List.take_add_one, List.getElem?_eq_getElem hm]
  simp [List.getD, List.getElem?_eq_getElem hm]
theorem bk_push (A : List Int) (d m : Nat) (hd : d ≤ m) (hm : m < A.length) : bkP A d (m + 1) = bkP A d m ++ [A.getD m 0] := by
  unfold bkP
  rw [take_more A m hm, List.drop_append_of_le_length (by simp; omega)]
theorem bk_do (A : List Int) (j : Nat) (hj : j < A.length) : pastL (bkP A (j - 12) j) (A.getD j 0) = bkP A (j + 1 - 12) (j + 1) := by
  unfold pastL
  rw [bk_len A _ j (by omega)]
  by_cases h : j - (j - 12) = 12
  · rw [if_pos h, bk_push A _ j (by omega) hj]
    congr 1
    unfold bkP
    rw [List.drop_drop, show j - 12 + 1 = j + 1 - 12 by omega]
  · rw [if_neg h, show j + 1 - 12 = j - 12 by omega, bk_push A _ j (by omega) hj]
theorem drop_at (A : List Int) (m : Nat) (hm : m < A.length) : A.drop m = A.getD m 0 :: A.drop (m + 1) := by
  rw [List.drop_eq_getElem_cons hm]
  simp [List.getD, List.getElem?_eq_getElem hm]
theorem bkS_cell {w wr : World} {hb : Nat} {aa : Option Addr} {ac : Nat} {L p : List Int} {n : Int} {f : List Int} (h : BkS w wr hb aa ac L p n f) (hL : 0 < L.length) : ∃ g o, aa = some ⟨g, o, none⟩ := by
  obtain ⟨g, o, e, _⟩ := h.row.cells (Nat.lt_of_lt_of_le hL h.row.le)
  exact ⟨g, o, e⟩
theorem BkS.at_ {w wr : World} {hb g o : Nat} {ac : Nat} {L p : List Int} {n : Int} {f : List Int} (h : BkS w wr hb (some ⟨g, o, none⟩) ac L p n f) (j : Nat) (hj : j < L.length) : wr.cell? ⟨g, o + j, none⟩ = some (.int .i64 (L.getD j 0)) := by
  obtain ⟨g', o', e, _, hc, _⟩ := h.row.cells (by have := h.row.le; omega)
  cases e
  exact hc j hj
set_option maxHeartbeats 4000000 in
set_option maxRecDepth 100000 in
theorem law_UndoBack (first : Int) (a : Option Addr) (n c : Nat) (l : List Int) (k : Int) (w : World) (hs : Sl .i64 w a n l) : Calls Try.prog 5 #[.int .i64 first, .slice a n c, .int .i64 k] w fun e w' => e = .returned (.bool true) ∧ Kept w w' := by
  have hlen := hs.len
  have hbig := hs.big
  unfold maxLen at hbig
  have HKN := hidMk (law18_known w)
  by_cases h1 : 60 < n
  · have h1' : (60 : Int) < (n : Int) := by omega
    go_enter Try.func5, Try.ntmps5
    go_wp2_with fail
    refine HKN.out.mono ?_
    rintro e w1 ⟨rfl, k1⟩
    go_wp2_with fail
    go_ret
    exact ⟨rfl, k1⟩
  have h1' : ¬ ((60 : Int) < (n : Int)) := by omega
  by_cases h2 : k < 0
  · go_enter Try.func5, Try.ntmps5
    go_wp2_with fail
    refine HKN.out.mono ?_
    rintro e w1 ⟨rfl, k1⟩
    go_wp2_with fail
    go_ret
    exact ⟨rfl, k1⟩
  by_cases h3 : (n : Int) < k
  · go_enter Try.func5, Try.ntmps5
    go_wp2_with fail
    refine HKN.out.mono ?_
    rintro e w1 ⟨rfl, k1⟩
    go_wp2_with fail
    go_ret
    exact ⟨rfl, k1⟩
  by_cases h4 : 12 < k
  · go_enter Try.func5, Try.ntmps5
    go_wp2_with fail
    refine HKN.out.mono ?_
    rintro e w1 ⟨rfl, k1⟩
    go_wp2_with fail
    go_ret
    exact ⟨rfl, k1⟩
  obtain ⟨K, rfl⟩ : ∃ K : Nat, k = (K : Int) := ⟨k.toNat, by omega⟩
  have hK : K ≤ n := by omega
  have hK12 : K ≤ 12 := by omega
  clear h1 h2 h3 HKN
  have h2 : ¬ ((K : Int) < 0) := by omega
  have h3 : ¬ ((n : Int) < (K : Int)) := by omega
  obtain ⟨A, hA⟩ : ∃ A, A = first :: l := ⟨_, rfl⟩
  have hAl : A.length = n + 1 := by simp [hA, hlen]
  have HA := hidMk hAl
  have HN := hidMk (hs_New first w)
  have HS := hidMk hs
  have HAf := hidMk (show A.getD 0 0 = first by simp [hA])
  have HAt := hidMk (show A.take 1 = [first] by simp [hA])
  have HAj := hidMk (show ∀ j, A.getD (j + 1) 0 = l.getD j 0 from fun j => by simp [hA])
  clear hs hA hAl
  go_enter Try.func5, Try.ntmps5
  go_wp2_with fail
  refine HN.out.mono ?_
  rintro e w1 ⟨rfl, hi1, k1⟩
  have HI1 := hidMk hi1
  have HK1 := hidMk k1
  clear hi1 k1
  go_wp2_with fail
  go_loopg [8, 9] n (fun gg av iv wr => ∃ (j : Nat) (aa : Option Addr) (ac : Nat), j + gg = n ∧ iv = .int .i64 j ∧ av = .slice aa (j + 1) ac ∧ Hid (BkS w wr w.heap.size aa ac (A.take (j + 1)) (bkP A (j - 12) j) (A.getD j 0) []))
  case atStart =>
    refine ⟨0, some ⟨w1.heap.size, 0, none⟩, 1, by omega, rfl, rfl, hidMk ?_⟩
    rw [HAt.out, HAf.out]
    have hs1 := HK1.out.size
    refine ⟨by simpa using ro_new w1 [first] 0 3 #[] rfl (by unfold maxLen; simp), fun b e => ?_, HK1.out.alloc _, ?_⟩
    · obtain ⟨_, ad, e1, rfl⟩ := e
      cases e1
      exact hs1
    · refine HI1.out.move (Chg.of_kept (S := fun _ => False) ((Kept.refl w1).alloc _)) (fun _ _ e => e.elim) (fun b hb e => e.elim id (fun q => ?_))
      obtain ⟨_, ad, e1, rfl⟩ := q
      cases e1
      exact absurd hb (Nat.lt_irrefl _)
  case round =>
    obtain ⟨j, aa, ac, hjg, rfl, rfl, HB⟩ := hrel
    by_cases hjn : j < n
    · have hjn' : (j : Int) < (n : Int) := by omega
      obtain ⟨lb, lo, rfl, hlb, hcs⟩ := HS.out.cells (by omega)
      have hc1 := HB.out.kp.cellp (hcs j hjn)
      have HCS := hidMk (hcs j hjn)
      have hlb' : lb < wr.heap.size := Nat.lt_of_lt_of_le hlb HB.out.kp.size
      have HC1 := hidMk hc1
      have HJ := hidMk hjg
      have HD := hidMk (show ∀ x, _ from fun x => bks_Do HB.out x)
      have HX := hidMk (HAj.out j)
      clear hcs hjg
      generalize l.getD j 0 = x at *
      go_wp2_with fail
      refine (HD.out _).mono ?_
      rintro e w2 ⟨v2, rfl, b2⟩
      have HB2 := hidMk b2
      have hc2 := b2.kp.cellp HCS.out
      have hlb2 : lb < w2.heap.size := Nat.lt_of_lt_of_le hlb b2.kp.size
      have HTL := hidMk (show (A.take (j + 1)).length = j + 1 by have := HA.out; simp; omega)
      clear b2 hc1 hlb'
      obtain ⟨R, hR⟩ : ∃ R, R = A.take (j + 1) := ⟨_, rfl⟩
      rw [← hR] at HB2 HTL
      have HR := hidMk hR
      clear hR
      go_wp2_with (at_builtin; refine wpList_pushRo _ rfl _ _ rfl aa ac R (by rw [HTL.out]; rfl) (HB2.out.row.kept ((Kept.refl w2).alloc _)) _ [x] rfl (src_one (by simp)) (by rw [HTL.out]; simp; omega) ?_)
      intro a3 c3 w3 r3 k3 b3
      have HB3 := hidMk (HB2.out.push ((Kept.refl w2).alloc _) r3 k3 (fun b e => by simpa using b3 b e))
      clear r3 k3 b3
      go_wp2_with fail
      go_roundg (gk - 1)
      case measure => have := HJ.out; omega
      case rel =>
        have hj1 : j < A.length := by have := HA.out; omega
        refine ⟨j + 1, a3, c3, by have := HJ.out; omega, by go_num, by rw [HTL.out], hidMk ?_⟩
        have q := HB3.out
        rw [HR.out, bk_do A j hj1, ← HX.out, ← take_more A (j + 1) (by have := HA.out; omega)] at q
        exact q
    · have hjn' : ¬ ((j : Int) < (n : Int)) := by omega
      obtain rfl : j = n := by omega
      have HB1 := HB
      clear HB
      rw [List.take_of_length_le (by have := HA.out; omega)] at HB1
      have HM := hidMk HB1.out.hs.many
      go_wp2_with fail
      go_loopg [10] K (fun gg iv wr => ∃ (i : Nat), i + gg = K ∧ iv = .int .i64 ((i : Int) + 1) ∧ Hid (BkS w wr w.heap.size aa ac A (bkP A (j - 12) (j - i)) (A.getD (j - i) 0) (A.drop (j - i + 1))))
      case atStart =>
        refine ⟨0, by omega, by simp, hidMk ?_⟩
        rw [Nat.sub_zero, List.drop_of_length_le (by have := HA.out; omega)]
        exact HB1.out
      case round => 
        obtain ⟨i, hig, rfl, HB⟩ := hrel
        by_cases hiK : i < K
        · have hiK' : ((i : Int) + 1 ≤ (K : Int)) := by omega
          obtain ⟨M, hM⟩ : ∃ M, j = M + i + 1 := ⟨j - i - 1, by omega⟩
          have HIG := hidMk hig
          have hAM : M < A.length := by have := HA.out; omega
          have hq : bkP A (j - 12) (j - i) = bkP A (j - 12) M ++ [A.getD M 0] := by rw [show j - i = M + 1 by omega]; exact bk_push A _ M (by omega) hAM
          have hq2 : A.drop M = A.getD M 0 :: A.drop (M + 1) := drop_at A M hAM
          have hq3 : A.getD (j - i) 0 :: A.drop (j - i + 1) = A.drop (M + 1) := by rw [show j - i = M + 1 by omega]; exact (drop_at A (M + 1) (by have := HA.out; omega)).symm
          rw [hq] at HB
          have HU := hidMk (bks_Undo HB.out)
          rw [hq3] at HU
          have HMJ := hidMk hM
          have hw1 : IntKind.i64.wrap ((j : Int) - ((i : Int) + 1)) = (M : Int) := by rw [IntKind.wrap_i64]; omega
          have hMz : (0 : Int) ≤ (M : Int) := by omega
          have hMj : M < j + 1 := by omega
          have hMj' : (M : Int) < (j : Int) + 1 := by omega
          obtain ⟨ag, ao, rfl⟩ := bkS_cell HB.out (by have := HA.out; omega)
          clear hq hq2 hq3 hig hM HB
          obtain ⟨y, hy⟩ : ∃ y, A.getD M 0 = y := ⟨_, rfl⟩
          rw [hy] at HU
          have HY := hidMk hy
          clear hy
          go_wp2_with fail
          refine HU.out.mono ?_
          rintro e w4 ⟨rfl, b4⟩
          have HB4 := hidMk b4
          have hc4 := b4.at_ M hAM
          rw [HY.out] at hc4
          have HNW := hidMk (hs_Now b4.hs)
          clear b4
          go_wp2_with fail
          refine HNW.out.mono ?_
          rintro e w5 ⟨rfl, k5⟩
          have HB5 := hidMk (HB4.out.keep k5)
          clear k5
          go_wp2_with fail
          go_roundg (gk - 1)
          case measure => have := HIG.out; omega
          case rel =>
            refine ⟨i + 1, by have := HIG.out; omega, by go_num, hidMk ?_⟩
            have hM := HMJ.out
            rw [show j - (i + 1) = M by omega, HY.out]
            exact HB5.out
        · have hiK' : ¬ ((i : Int) + 1 ≤ (K : Int)) := by omega
          obtain rfl : i = K := by omega
          have HB2 := HB
          clear HB hig
          have hw0 : IntKind.i64.wrap ((i : Int) - 1) = (i : Int) - 1 := by rw [IntKind.wrap_i64]; omega
          go_wp2_with fail
          go_loopg [13] i (fun gg iv wr => gg ≤ i ∧ iv = .int .i64 ((gg : Int) - 1) ∧ Hid (BkS w wr w.heap.size aa ac A (bkP A (j - 12) (j - gg)) (A.getD (j - gg) 0) (A.drop (j - gg + 1))))
          case atStart => exact ⟨Nat.le_refl _, rfl, HB2⟩
          case round =>
            obtain ⟨hgi, rfl, HB⟩ := hrel
            by_cases hg0 : 0 < gk
            · obtain ⟨t, ht⟩ : ∃ t, gk = t + 1 := ⟨gk - 1, by omega⟩
              have HGT := hidMk ht
              rw [ht] at HB
              rw [ht, show (((t + 1 : Nat) : Int) - 1) = (t : Int) by omega]
              obtain ⟨M, hM⟩ : ∃ M, j = M + t + 1 := ⟨j - t - 1, by omega⟩
              have hAM : M + 1 < A.length := by have := HA.out; omega
              rw [show j - (t + 1) = M by omega, drop_at A (M + 1) hAM] at HB
              have HU := hidMk (bks_Redo HB.out)
              rw [← bk_push A _ M (by omega) (by omega)] at HU
              have HMJ := hidMk hM
              have hw1 : IntKind.i64.wrap ((j : Int) - (t : Int)) = ((M + 1 : Nat) : Int) := by rw [IntKind.wrap_i64]; omega
              have hw2 : IntKind.i64.wrap ((t : Int) - 1) = (t : Int) - 1 := by rw [IntKind.wrap_i64]; omega
              have ht0 : (0 : Int) ≤ (t : Int) := by omega
              have hMz : (0 : Int) ≤ ((M + 1 : Nat) : Int) := by omega
              have hMj : M + 1 < j + 1 := by omega
              have hMj' : ((M + 1 : Nat) : Int) < (j : Int) + 1 := by omega
              obtain ⟨ag, ao, rfl⟩ := bkS_cell HB.out (by omega)
              have HGI := hidMk hgi
              clear hM HB hgi ht hg0
              obtain ⟨y, hy⟩ : ∃ y, A.getD (M + 1) 0 = y := ⟨_, rfl⟩
              rw [hy] at HU
              have HY := hidMk hy
              clear hy
              obtain ⟨M1, hM1⟩ : ∃ M1, M1 = M + 1 := ⟨_, rfl⟩
              rw [← hM1] at hw1 hMz hMj hMj' hAM HU HY
              have HM1 := hidMk hM1
              clear hM1
              go_wp2_with fail
              refine HU.out.mono ?_
              rintro e w4 ⟨rfl, b4⟩
              have HB4 := hidMk b4
              have hc4 := b4.at_ M1 hAM
              rw [HY.out] at hc4
              clear b4
              go_wp2_with fail
              go_roundg (gk - 1)
              case measure => have := HGT.out; omega
              case rel =>
                have hgt := HGT.out
                have hM := HMJ.out
                have hM1 := HM1.out
                have hgi := HGI.out
                refine ⟨by omega, by rw [hgt]; simp, hidMk ?_⟩
                rw [show j - (gk - 1) = M1 by omega, HY.out]
                exact HB4.out
            · obtain rfl : gk = 0 := by omega
              have hz : ¬ ((0 : Int) ≤ -1) := by omega
              rw [Nat.sub_zero, List.drop_of_length_le (by have := HA.out; omega)] at HB
              have HU := hidMk (hs_RedoNone HB.out.hs)
              have HNW := hidMk (show ∀ y, Kept wr y → _ from fun y hy => hs_Now (HB.out.hs.kept hy))
              have HKN := hidMk (show ∀ y, Kept wr y → _ from fun y (_ : Kept wr y) => law18_known y)
              obtain ⟨ag, ao, rfl⟩ := bkS_cell HB.out (by have := HA.out; omega)
              have hc4 := HB.out.at_ j (by have := HA.out; omega)
              have HKW := hidMk HB.out.kp
              obtain ⟨y, hy⟩ : ∃ y, A.getD j 0 = y := ⟨_, rfl⟩
              rw [hy] at HNW hc4
              clear hy HB
              have hwj : IntKind.i64.wrap (j : Int) = (j : Int) := by rw [IntKind.wrap_i64]; omega
              have hwj' : IntKind.i64.wrap ((j : Int) + 1 - 1) = (j : Int) := by rw [IntKind.wrap_i64]; omega
              have hj0 : (0 : Int) ≤ (j : Int) := by omega
              have hj1 : (j : Int) < (j : Int) + 1 := by omega
              have hj2 : j < j + 1 := by omega
              go_wp2_with fail
              refine HU.out.mono ?_
              rintro e w4 ⟨rfl, rfl⟩
              go_wp2_with fail
              go_region_held3 (fun w' => w'.cell? ⟨ag, ao + j, none⟩ = some (.int .i64 y)) (first | assumption | (refine Kept.cellp ?_ hc4; (repeat (first | (with_reducible exact Kept.refl _) | (with_reducible refine Kept.alloc ?_ _) | (with_reducible refine Kept.drew ?_) | (with_reducible refine Kept.drewN ?_ _) | (with_reducible refine Kept.trans ?_ (by assumption)))); done))
                (first | (go_at_call 19; refine (HNW.out _ (by (repeat (first | (with_reducible exact Kept.refl _) | (with_reducible refine Kept.alloc ?_ _) | (with_reducible refine Kept.drew ?_) | (with_reducible refine Kept.drewN ?_ _) | (with_reducible refine Kept.trans ?_ (by assumption)))))).mono ?_; rintro e w5 ⟨rfl, k5⟩) | (go_at_call 17; refine (HKN.out _ (by (repeat (first | (with_reducible exact Kept.refl _) | (with_reducible refine Kept.alloc ?_ _) | (with_reducible refine Kept.drew ?_) | (with_reducible refine Kept.drewN ?_ _) | (with_reducible refine Kept.trans ?_ (by assumption)))))).mono ?_; rintro e w6 ⟨rfl, k6⟩))
              all_goals go_wp2_with fail
              all_goals
                go_ret
                refine ⟨rfl, ?_⟩
                (repeat (first | exact HKW.out | (with_reducible refine Kept.alloc ?_ _) | (with_reducible refine Kept.drew ?_) | (with_reducible refine Kept.drewN ?_ _) | (with_reducible refine Kept.trans ?_ (by assumption))))
end Go.Proofs.Ytbikelbobanfbaa
