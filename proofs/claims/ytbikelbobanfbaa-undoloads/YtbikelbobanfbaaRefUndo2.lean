/- The definition's history: Do. -/
import Derived.Test.YtbikelbobanfbaaRefUndo1
namespace Go.Proofs.Ytbikelbobanfbaa
open Go.RowKit Go.Maps
set_option linter.unusedSimpArgs false
set_option linter.unusedVariables false

def RDo (w : World) (q : Nat) (p : List Int) (n : Int) (f : List Int) (next : Int) (e : Ending) (w' : World) : Prop :=
  ∃ ga gc la' lc', e = .returned (.slice ga (goneL p f).length gc) ∧ Sl .i64 w' ga (goneL p f).length (goneL p f) ∧ Rf w' q la' lc' (pastL p n ++ [next]) (pastL p n).length ∧ Chg (· = q) w w' ∧ (∀ b, RB q la' b → b = q ∨ w.heap.size ≤ b)
/-- An own row that was made since w. -/
structure Rn (w wr : World) (a : Option Addr) (c : Nat) (l : List Int) : Prop where
  ro : Ro wr a c l
  new : ∀ b, Bk a c b → w.heap.size ≤ b
  kp : Kept w wr
theorem Rn.push {w wr w1 w' : World} {a a' : Option Addr} {c c' : Nat} {l l' : List Int} (h : Rn w wr a c l) (k : Kept wr w1) (r : Ro w' a' c' l') (hc : Chg (Bk a c) w1 w') (hb : ∀ b, Bk a' c' b → Bk a c b ∨ w1.heap.size ≤ b) : Rn w w' a' c' l' := by
  have s1 := h.kp.size
  have s2 := k.size
  exact ⟨r, fun b e => (hb b e).elim (h.new b) (fun q => by omega), hc.kept (h.kp.trans k) h.new⟩
theorem take_one_more (A : List Int) (m : Nat) (hm : m < A.length) : A.take (m + 1) = A.take m ++ [A.getD m 0] := by
  rw [List.take_add_one, List.getElem?_eq_getElem hm]
  simp [List.getD, List.getElem?_eq_getElem hm]
theorem rf_done {w w1 W : World} {q : Nat} {la : Option Addr} {lc : Nat} {L : List Int} {at_ : Nat} (h : Rf w q la lc L at_) (k : Kept w w1) {g o c' : Nat} {L' : List Int} (hs : Sl .i64 w1 (some ⟨g, o, none⟩) L'.length L') (hg : w.heap.size ≤ g) (hle : L'.length ≤ c') (h1 : 0 < L'.length) (h2 : L'.length ≤ 13)
    (hW : W = (w1.setCell ⟨q, 0, none⟩ (.slice (some ⟨g, o, none⟩) L'.length c')).setCell ⟨q, 1, none⟩ (.int .i64 ((L'.length - 1 : Nat) : Int))) :
    Rf W q (some ⟨g, o, none⟩) c' L' (L'.length - 1) ∧ Chg (· = q) w W ∧ Chg (· = q) w1 W ∧ (∀ b, RB q (some ⟨g, o, none⟩) b → b = q ∨ w.heap.size ≤ b) := by
  have hk := h.kept k
  have hq := h.qlt
  have hc : Chg (· = q) w1 W := by rw [hW]; exact ((Chg.refl (· = q) w1).setCell (p := ⟨q, 0, none⟩) (.inl rfl) _).setCell (p := ⟨q, 1, none⟩) (.inl rfl) _
  have hne : ∀ ad : Addr, (some ⟨g, o, none⟩ : Option Addr) = some ad → ad.block ≠ q := fun ad e => by cases e; show g ≠ q; omega
  refine ⟨⟨?_, ?_, by rw [hW]; simpa using hk.z0, by rw [hW]; simpa using hk.z1, hs.chg hc (fun _ ad e => hne ad e), hne, hle, by omega, h2⟩, (Chg.of_kept k).trans hc, hc, ?_⟩
  · rw [hW]; exact (World.cell?_setCell_other _ _ _ _ (by simp)).trans (World.cell?_setCell_same _ _ _ hk.c0)
  · rw [hW]; exact World.cell?_setCell_same _ _ _ ((World.cell?_setCell_other _ _ _ _ (by simp)).trans hk.c1)
  · rintro b (rfl | ⟨ad, e, rfl⟩)
    · exact .inl rfl
    · cases e; exact .inr hg
set_option maxHeartbeats 4000000 in
set_option maxRecDepth 100000 in
theorem r18_Do {w : World} {q : Nat} {la : Option Addr} {lc : Nat} {p : List Int} {n : Int} {f : List Int} (h : Rf w q la lc (p ++ n :: f) p.length) (hm : p.length + f.length ≤ 12) (next : Int) :
    Calls Try.prog 12 #[.pointer (some ⟨q, 0, none⟩), .int .i64 next] w (RDo w q p n f next) := by
  have hq := h.qlt
  have HR := hidMk h
  obtain ⟨g, o, rfl, hg, hcs⟩ := h.row
  obtain ⟨N, hN⟩ : ∃ N, N = (p ++ n :: f).length := ⟨_, rfl⟩
  have hN1 : N = p.length + 1 + f.length := by rw [hN]; simp; omega
  obtain ⟨P, hP⟩ : ∃ P, P = p.length := ⟨_, rfl⟩
  have HKC := hidMk (show ∀ y, Kept w y → y.cell? ⟨q, 0, none⟩ = some (.slice (some ⟨g, o, none⟩) N lc) ∧ y.cell? ⟨q, 1, none⟩ = some (.int .i64 (P : Int)) ∧ y.frozen? ⟨q, 0, none⟩ = false ∧ y.frozen? ⟨q, 1, none⟩ = false ∧ q < y.heap.size ∧ g < y.heap.size from fun y hy => by
    have k := h.kept hy
    rw [hN, hP]
    exact ⟨k.c0, k.c1, k.z0, k.z1, k.qlt, Nat.lt_of_lt_of_le hg hy.size⟩)
  have HF := hidMk (show ∀ t, t < f.length → ∀ y, Kept w y → y.cell? ⟨g, o + (P + 1 + t), none⟩ = some (.int .i64 (f.getD t 0)) from fun t ht y hy => by
    have := hy.cellp (hcs (P + 1 + t) (by rw [← hN]; omega))
    rw [this, getD_app, if_neg (by omega), show P + 1 + t - p.length = t + 1 by omega]
    rfl)
  have HP2 := hidMk (show ∀ t, t < P + 1 → ∀ y, Kept w y → y.cell? ⟨g, o + t, none⟩ = some (.int .i64 ((p ++ [n]).getD t 0)) from fun t ht y hy => by
    have := hy.cellp (hcs t (by rw [← hN]; omega))
    rw [this, getD_app, getD_app]
    by_cases h1 : t < p.length
    · rw [if_pos h1, if_pos h1]
    · rw [if_neg h1, if_neg h1, show t - p.length = 0 by omega]; rfl)
  have HLn := hidMk (show (p ++ [n]).length = P + 1 by simp [hP])
  have hf12 : f.length ≤ 12 := by omega
  have hP12 : P ≤ 12 := by omega
  have HNN := hidMk hN1
  have HPP := hidMk hP
  obtain ⟨F, hF⟩ : ∃ F, F = f.length := ⟨_, rfl⟩
  have HFF := hidMk hF
  have hNF : N = P + 1 + F := by omega
  subst hNF
  rw [← hF] at hf12
  have hPF : P + F ≤ 12 := by omega
  obtain ⟨d0, d1, z0, z1, hq1, hg1⟩ := HKC.out _ (Kept.refl w)
  have HM := hidMk hm
  have hw1 : IntKind.i64.wrap ((P : Int) + 1) = ((P + 1 + 0 : Nat) : Int) := by rw [IntKind.wrap_i64]; omega
  clear h hcs hN hN1 hP hF hm
  go_enter Try.func12, Try.ntmps12
  go_wp2_with fail
  go_loopg [5, 6] F (fun gg gv iv wr => ∃ (t : Nat) (ga : Option Addr) (gc : Nat), t + gg = F ∧ iv = .int .i64 ((P + 1 + t : Nat) : Int) ∧ gv = .slice ga t gc ∧ Hid (Rn w wr ga gc (f.take t)))
  case atStart => exact ⟨0, none, 0, by omega, by simp, rfl, hidMk ⟨by simpa using ro_nil _, fun b e => absurd e (not_bk_none _ _), Kept.refl _⟩⟩
  case round =>
    obtain ⟨t, ga, gc, htg, rfl, rfl, HG⟩ := hrel
    obtain ⟨d0, d1, z0, z1, hq1, hg1⟩ := HKC.out _ HG.out.kp
    by_cases ht : t < F
    · have hc := HF.out t (by rw [← HFF.out]; exact ht) _ HG.out.kp
      have hi1 : ((P + 1 + t : Nat) : Int) < ((P + 1 + F : Nat) : Int) := by omega
      have hi2 : (0 : Int) ≤ ((P + 1 + t : Nat) : Int) := by omega
      have hw2 : IntKind.i64.wrap (((P + 1 + t : Nat) : Int) + 1) = ((P + 1 + (t + 1) : Nat) : Int) := by rw [IntKind.wrap_i64]; omega
      have HX := hidMk (take_one_more f t (by rw [← HFF.out]; exact ht))
      have HTG := hidMk htg
      have HTL := hidMk (show (f.take t).length = t by rw [List.length_take]; have := HFF.out; omega)
      obtain ⟨R, hR⟩ : ∃ R, R = f.take t := ⟨_, rfl⟩
      rw [← hR] at HG HTL HX
      clear hR htg
      generalize f.getD t 0 = x at *
      obtain ⟨I, hI⟩ : ∃ I, I = P + 1 + t := ⟨_, rfl⟩
      have hI2 : I < P + 1 + F := by omega
      rw [← hI] at hc hi1 hi2 hw2 ⊢
      have HI := hidMk hI
      clear hI
      go_wp2_with (at_builtin; refine wpList_pushRo _ rfl _ _ rfl ga gc R (by rw [HTL.out]; rfl) (HG.out.ro.kept ((Kept.refl wr).alloc _)) _ [x] rfl (src_one (by simp)) (by rw [HTL.out]; simp; omega) ?_)
      intro a3 c3 w3 r3 k3 b3
      have HB3 := hidMk (HG.out.push ((Kept.refl wr).alloc _) r3 k3 (fun b e => by simpa using b3 b e))
      clear r3 k3 b3
      go_wp2_with fail
      go_roundg (gk - 1)
      case measure => have := HTG.out; omega
      case rel =>
        refine ⟨t + 1, a3, c3, by have := HTG.out; omega, rfl, by rw [HTL.out], hidMk ?_⟩
        rw [HX.out]
        exact HB3.out
    · obtain rfl : t = F := by omega
      rw [List.take_of_length_le (by have := HFF.out; omega)] at HG
      have hi1 : ¬ (((P + 1 + t : Nat) : Int) < ((P + 1 + t : Nat) : Int)) := by omega
      have HG1 := HG
      obtain ⟨W1, hW1⟩ : ∃ W1, W1 = wr := ⟨_, rfl⟩
      subst hW1
      clear HG htg ht
      go_wp2_with fail
      go_loopg [7, 8] (P + 1) (fun gg lv iv wq => ∃ (s : Nat) (a : Option Addr) (c : Nat), s + gg = P + 1 ∧ iv = .int .i64 (s : Int) ∧ lv = .slice a s c ∧ Hid (Rn W1 wq a c ((p ++ [n]).take s)))
      case atStart => exact ⟨0, none, 0, by omega, rfl, rfl, hidMk ⟨by simpa using ro_nil _, fun b e => absurd e (not_bk_none _ _), Kept.refl _⟩⟩
      case round =>
        obtain ⟨s, a, c, hsg, rfl, rfl, HL⟩ := hrel
        clear d0 d1 z0 z1 hq1 hg1
        obtain ⟨d0, d1, z0, z1, hq1, hg1⟩ := HKC.out _ (HG1.out.kp.trans HL.out.kp)
        by_cases hs : s < P + 1
        · have hc := HP2.out s hs _ (HG1.out.kp.trans HL.out.kp)
          have hi1 : (s : Int) ≤ (P : Int) := by omega
          have hi2 : (s : Int) < ((P + 1 + t : Nat) : Int) := by omega
          have hi3 : s < P + 1 + t := by omega
          have hi0 : (0 : Int) ≤ (s : Int) := by omega
          have hw2 : IntKind.i64.wrap ((s : Int) + 1) = ((s + 1 : Nat) : Int) := by rw [IntKind.wrap_i64]; omega
          have HX := hidMk (take_one_more (p ++ [n]) s (by rw [HLn.out]; exact hs))
          have HSG := hidMk hsg
          have HTL := hidMk (show ((p ++ [n]).take s).length = s by rw [List.length_take, HLn.out]; omega)
          obtain ⟨R, hR⟩ : ∃ R, R = (p ++ [n]).take s := ⟨_, rfl⟩
          rw [← hR] at HL HTL HX
          clear hR hsg
          generalize (p ++ [n]).getD s 0 = x at *
          go_wp2_with (at_builtin; refine wpList_pushRo _ rfl _ _ rfl a c R (by rw [HTL.out]; rfl) (HL.out.ro.kept ((Kept.refl wr).alloc _)) _ [x] rfl (src_one (by simp)) (by rw [HTL.out]; simp; omega) ?_)
          intro a3 c3 w3 r3 k3 b3
          have HB3 := hidMk (HL.out.push ((Kept.refl wr).alloc _) r3 k3 (fun b e => by simpa using b3 b e))
          clear r3 k3 b3
          go_wp2_with fail
          go_roundg (gk - 1)
          case measure => have := HSG.out; omega
          case rel =>
            refine ⟨s + 1, a3, c3, by have := HSG.out; omega, by go_num, by rw [HTL.out], hidMk ?_⟩
            rw [HX.out]
            exact HB3.out
        · obtain rfl : s = P + 1 := by omega
          rw [List.take_of_length_le (by have := HLn.out; omega)] at HL
          have hi1 : ¬ (((P + 1 : Nat) : Int) ≤ (P : Int)) := by omega
          obtain ⟨R, hR⟩ : ∃ R, R = p ++ [n] := ⟨_, rfl⟩
          have HRE := hidMk hR
          rw [← hR] at HL HLn
          clear hs hsg hR
          go_wp2_with (at_builtin; refine wpList_pushRo _ rfl _ _ rfl a c R (by rw [HLn.out]; rfl) (HL.out.ro.kept ((Kept.refl wr).alloc _)) _ [next] rfl (src_one (by simp)) (by rw [HLn.out]; simp; omega) ?_)
          intro a3 c3 w3 r3 k3 b3
          have HB3 := hidMk (HL.out.push ((Kept.refl wr).alloc _) r3 k3 (fun b e => by simpa using b3 b e))
          clear r3 k3 b3
          rw [HLn.out]
          have HK3 := hidMk (HG1.out.kp.trans HB3.out.kp)
          clear d0 d1 z0 z1 hq1 hg1
          obtain ⟨d0, d1, z0, z1, hq1, hg1⟩ := HKC.out _ HK3.out
          have hc3 : P + 2 ≤ c3 := by have := HB3.out.ro.le; have := HLn.out; simp at *; omega
          obtain ⟨g3, o3, rfl, hg3, hcs3, _⟩ := HB3.out.ro.cells (by omega)
          have HG3 := hidMk (show w.heap.size ≤ g3 from Nat.le_trans HG1.out.kp.size (HB3.out.new g3 ⟨by omega, _, rfl, rfl⟩))
          by_cases hP : P = 12
          · subst hP
            obtain rfl : t = 0 := by omega
            have hf0 : f = [] := List.eq_nil_of_length_eq_zero HFF.out.symm
            have hx0 := hcs3 0 (by simp)
            rw [Nat.add_zero] at hx0
            have HX0 := hidMk (show (R ++ [next]).getD 0 0 = p.getD 0 0 by
              rw [HRE.out]
              have h1 := HPP.out
              cases p with
              | nil => simp at h1
              | cons y l => rfl)
            generalize (R ++ [next]).getD 0 0 = x0 at *
            subst hf0
            clear hcs3
            have hc14 : 14 ≤ c3 := by omega
            have hc15 : ¬ c3 = 1 := by omega
            go_wp2_with (at_builtin; refine wpList_pushRo _ rfl _ _ rfl ga gc [] rfl ((HG1.out.ro.kept HB3.out.kp).kept ((Kept.refl w3).alloc _)) _ [x0] rfl (src_one (by simp)) (by simp) ?_)
            intro a4 c4 w4 r4 k4 b4
            have HB4 := hidMk (show Rn w w4 a4 c4 [x0] from (Rn.mk (HG1.out.ro.kept HB3.out.kp) HG1.out.new HK3.out : Rn w w3 ga gc []).push ((Kept.refl w3).alloc _) r4 k4 (fun b e => by simpa using b4 b e))
            have HL4 := hidMk (show Ro w4 (some ⟨g3, o3, none⟩) c3 (R ++ [next]) from (HB3.out.ro.kept ((Kept.refl w3).alloc _)).chg k4 (fun b e f => by have := HB3.out.new b e; have := HG1.out.ro.lt b f; omega))
            clear r4 k4 b4 d0 d1 z0 z1 hq1 hg1 hx0
            obtain ⟨d0, d1, z0, z1, hq1, hg1⟩ := HKC.out _ HB4.out.kp
            have hlt4 := HL4.out.lt g3 ⟨by omega, _, rfl, rfl⟩
            go_wp2_with fail
            go_ret
            have hpl : pastL p n = p.drop 1 ++ [n] := by unfold pastL; rw [if_pos HPP.out.symm]
            have hgo : goneL p [] = [x0] := by unfold goneL; rw [if_pos HPP.out.symm, HX0.out]; rfl
            unfold RDo
            rw [hpl, hgo]
            have hRl := HLn.out
            have hcut := HL4.out.cut 1 13 (by simp; omega)
            rw [show ((R ++ [next]).drop 1).take 13 = p.drop 1 ++ [n] ++ [next] by
              rw [List.take_of_length_le (by simp; omega), HRE.out, List.drop_append_of_le_length (by simp), List.drop_append_of_le_length (by have := HPP.out; omega)]] at hcut
            have hLl : (p.drop 1 ++ [n] ++ [next]).length = 13 := by have := HPP.out; simp; omega
            obtain ⟨r1, r2, r3, r4⟩ := rf_done (L' := p.drop 1 ++ [n] ++ [next]) (c' := c3 - 1) HR.out HB4.out.kp hcut.sl HG3.out (by omega) (by omega) (by omega) (W := _) (by rw [hLl]; try go_num)
            rw [show (p.drop 1 ++ [n] ++ [next]).length - 1 = (p.drop 1 ++ [n]).length by simp] at r1
            refine ⟨a4, c4, _, _, rfl, HB4.out.ro.sl.chg r3 (fun hp ad e => ?_), r1, r2, r4⟩
            have h1 := HB4.out.new ad.block ⟨by have := HB4.out.ro.le; simp at this; omega, ad, e, rfl⟩
            have h2 := HR.out.qlt
            omega
          · have hP1 : ¬ ((12 : Int) < (P : Int) + 1) := by omega
            clear hcs3
            go_wp2_with fail
            go_ret
            have hpl : pastL p n = p ++ [n] := by unfold pastL; rw [if_neg (by have := HPP.out; omega)]
            have hgo : goneL p f = f := by unfold goneL; rw [if_neg (by have := HPP.out; omega)]
            unfold RDo
            rw [hpl, hgo, ← HRE.out]
            have hRl := HLn.out
            obtain ⟨r1, r2, r3, r4⟩ := rf_done (L' := R ++ [next]) HR.out HK3.out HB3.out.ro.sl HG3.out HB3.out.ro.le (by simp) (by simp; omega) (W := _) (by simp only [List.length_append, List.length_singleton, hRl]; try go_num)
            rw [show (R ++ [next]).length - 1 = R.length by simp] at r1
            have sg : Sl .i64 w3 ga f.length f := (HG1.out.ro.kept HB3.out.kp).sl
            refine ⟨ga, gc, _, _, by rw [← HFF.out]; rfl, sg.chg r3 (fun hp ad e => ?_), r1, r2, r4⟩
            have h1 := HG1.out.new ad.block ⟨by have := HG1.out.ro.le; omega, ad, e, rfl⟩
            have h2 := HR.out.qlt
            omega
end Go.Proofs.Ytbikelbobanfbaa
