/- UndoLoads: a history of lists. -/
import Derived.Test.YtbikelbobanfbaaLawUndoPlays
namespace Go.Proofs.Ytbikelbobanfbaa
open Go.RowKit Go.Maps
set_option linter.unusedSimpArgs false
set_option linter.unusedVariables false

theorem src_new (W : World) (g : Nat) (y : Int) (hg : g = W.heap.size) : Src Try.prog 1 31 (.slice (some ⟨g, 0, none⟩) 1 1) [y].length ([y].map (Value.int .i64)) (W.alloc (.cells #[.int .i64 y] 3)) := by
  subst hg
  exact src_one (by simp)
/-- The definition's history while its list is put together. -/
structure Lr (w1 W : World) (q : Nat) (a : Option Addr) (c : Nat) (l : List Int) (P : Nat) : Prop where
  kp : Kept w1 W
  c0 : W.cell? ⟨q, 0, none⟩ = some (.slice a l.length c)
  c1 : W.cell? ⟨q, 1, none⟩ = some (.int .i64 (P : Int))
  z0 : W.frozen? ⟨q, 0, none⟩ = false
  z1 : W.frozen? ⟨q, 1, none⟩ = false
  ro : Ro W a c l
  nw : ∀ b, Bk a c b → w1.heap.size ≤ b
  nq : ¬ Bk a c q
  hq : w1.heap.size ≤ q
theorem Lr.push {w1 W Y Z : World} {q : Nat} {a a' : Option Addr} {c c' : Nat} {l l' : List Int} {P m : Nat} (h : Lr w1 W q a c l P) (k : Kept W Y) (r : Ro Z a' c' l') (hc : Chg (Bk a c) Y Z) (hb : ∀ b, Bk a' c' b → Bk a c b ∨ Y.heap.size ≤ b) (hm : m = l'.length) :
    Lr w1 (Z.setCell ⟨q, 0, none⟩ (.slice a' m c')) q a' c' l' P := by
  subst hm
  have hq := cell_lt h.c0
  have s1 := h.kp.size
  have s2 := k.size
  have g0 := hc.cellp (k.cellp h.c0) h.nq
  have g1 := hc.cellp (k.cellp h.c1) h.nq
  have hqY : q < Y.heap.size := Nat.lt_of_lt_of_le hq s2
  have hn : ¬ Bk a' c' q := fun e => (hb q e).elim h.nq (fun x => by omega)
  have kc : Chg (· = q) Z (Z.setCell ⟨q, 0, none⟩ (.slice a' l'.length c')) := (Chg.refl (· = q) Z).setCell (p := ⟨q, 0, none⟩) (.inl rfl) _
  refine ⟨kc.kept (hc.kept (h.kp.trans k) h.nw) (fun j e => by have := h.hq; omega), World.cell?_setCell_same _ _ _ g0, (World.cell?_setCell_other _ _ _ _ (by simp)).trans g1, ?_, ?_, r.chg kc (fun b e x => hn (x ▸ e)), fun b e => (hb b e).elim (h.nw b) (fun x => by omega), hn, h.hq⟩
  · simpa using (hc.frozen (p := ⟨q, 0, none⟩) hqY h.nq).trans ((k.frozen (p := ⟨q, 0, none⟩) hq).trans h.z0)
  · simpa using (hc.frozen (p := ⟨q, 1, none⟩) hqY h.nq).trans ((k.frozen (p := ⟨q, 1, none⟩) hq).trans h.z1)
theorem Lr.bi {w w1 W : World} {hb q : Nat} {a : Option Addr} {c : Nat} {p : List Int} {n : Int} {f : List Int} (h : Lr w1 W q a c (p ++ n :: f) p.length) (k : Kept w w1) (hs : Hs w1 (· < w.heap.size) hb p n f) : Bi w W hb q a c p n f (p ++ n :: f) p.length := by
  have s := k.size
  have hm := hs.many
  have hle := h.ro.le
  have hl : (p ++ n :: f).length = p.length + 1 + f.length := by simp; omega
  have hne : ∀ ad, a = some ad → ad.block ≠ q := fun ad e x => h.nq ⟨by omega, ad, e, x⟩
  have hw : ∀ b, RB q a b → w1.heap.size ≤ b := by
    rintro b (rfl | ⟨ad, e, rfl⟩)
    · exact h.hq
    · exact h.nw _ ⟨by omega, ad, e, rfl⟩
  refine ⟨⟨h.c0, h.c1, h.z0, h.z1, h.ro.sl, hne, hle, by omega, by omega⟩, fun b e => Nat.le_trans s (hw b e), k.trans h.kp, ?_⟩
  obtain ⟨pa, pc, fa, fc, hi, ht⟩ := hs
  exact ⟨pa, pc, fa, fc, hi.kept h.kp, fun b e x => x.elim (ht b e) (fun y => by have := hw b y; have := hi.lt b e; omega)⟩
theorem hs_Load (a : Option Addr) (c : Nat) (past : List Int) (now : Int) (b : Option Addr) (d : Nat) (fut : List Int) (w : World) (hp : Sl .i64 w a past.length past) (hf : Sl .i64 w b fut.length fut) (hm : past.length + fut.length ≤ 12) :
    Calls Try.prog 18 #[.slice a past.length c, .int .i64 now, .slice b fut.length d] w fun e w' => ∃ hb, e = .returned (.tuple #[.pointer (some ⟨hb, 0, none⟩), .int .i64 0]) ∧ Hs w' (· < w.heap.size) hb past now fut ∧ Kept w w' := by
  refine (undo_Load a c past now b d fut w hp hf hm).mono ?_
  rintro e w' ⟨hb, pa, pc, fa, fc, rfl, hi, k, hn⟩
  exact ⟨hb, rfl, ⟨pa, pc, fa, fc, hi, fun x e y => by have := hn x e; omega⟩, k⟩
set_option maxHeartbeats 8000000 in
set_option maxRecDepth 100000 in
theorem law_UndoLoads (pA : Option Addr) (pN pC : Nat) (past : List Int) (now : Int) (fA : Option Addr) (fN fC : Nat) (fut : List Int) (a : Option Addr) (N c : Nat) (kd nn : Nat → Int) (w : World) (hp : Sl .i64 w pA pN past) (hf : Sl .i64 w fA fN fut) (hs : As w a N kd nn) :
    Calls Try.prog 4 #[.slice pA pN pC, .int .i64 now, .slice fA fN fC, .slice a N c] w fun e w' => e = .returned (.bool true) ∧ Kept w w' := by
  have hbig := hs.big
  have hpb := hp.big
  have hfb := hf.big
  have hpl := hp.len
  have hfl := hf.len
  by_cases hbad : 12 < pN + fN
  · have HL := hidMk (undo_LoadBad pA pN pC now fA fN fC w hpb hfb hbad)
    have HKN := hidMk law18_known
    unfold maxLen at hpb hfb
    have hc : (12 : Int) < (pN : Int) ∨ (12 : Int) < (fN : Int) ∨ ((pN : Int) ≤ 12 ∧ (fN : Int) ≤ 12) := by omega
    have hw : (pN : Int) ≤ 12 → (fN : Int) ≤ 12 → IntKind.i64.wrap ((pN : Int) + (fN : Int)) = (pN : Int) + (fN : Int) := fun h1 h2 => by rw [IntKind.wrap_i64]; omega
    have hsum : (12 : Int) < (pN : Int) + (fN : Int) := by omega
    have HW := hidMk hw
    clear hp hf hs hw
    by_cases h1 : (12 : Int) < (pN : Int)
    · go_enter Try.func4, Try.ntmps4
      go_wp2_with fail
      refine HL.out.mono ?_
      rintro e w1 ⟨rfl, k1⟩
      have HK1 := hidMk k1
      clear k1
      go_wp2_with fail
      refine (HKN.out _).mono ?_
      rintro e w2 ⟨rfl, k2⟩
      go_wp2_with fail
      go_ret
      exact ⟨rfl, HK1.out.trans k2⟩
    · by_cases h2 : (12 : Int) < (fN : Int)
      · go_enter Try.func4, Try.ntmps4
        go_wp2_with fail
        refine HL.out.mono ?_
        rintro e w1 ⟨rfl, k1⟩
        have HK1 := hidMk k1
        clear k1
        go_wp2_with fail
        refine (HKN.out _).mono ?_
        rintro e w2 ⟨rfl, k2⟩
        go_wp2_with fail
        go_ret
        exact ⟨rfl, HK1.out.trans k2⟩
      · have hw := HW.out (by omega) (by omega)
        go_enter Try.func4, Try.ntmps4
        go_wp2_with fail
        refine HL.out.mono ?_
        rintro e w1 ⟨rfl, k1⟩
        have HK1 := hidMk k1
        clear k1
        go_wp2_with fail
        refine (HKN.out _).mono ?_
        rintro e w2 ⟨rfl, k2⟩
        go_wp2_with fail
        go_ret
        exact ⟨rfl, HK1.out.trans k2⟩
  unfold maxLen at hbig
  have HS := hidMk hs
  subst hpl hfl
  have hm : past.length + fut.length ≤ 12 := by omega
  have HL := hidMk (hs_Load pA pC past now fA fC fut w hp hf hm)
  have HPS := hidMk (show ∀ y, Kept w y → Src Try.prog 1 31 (.slice pA past.length pC) past.length (past.map (Value.int .i64)) y from fun y hy => src_sl (hp.kept hy))
  have HFS := hidMk (show ∀ y, Kept w y → Src Try.prog 1 31 (.slice fA fut.length fC) fut.length (fut.map (Value.int .i64)) y from fun y hy => src_sl (hf.kept hy))
  clear hs hp hf hbad
  have hg1 : ¬ ((12 : Int) < (past.length : Int)) := by omega
  have hg2 : ¬ ((12 : Int) < (fut.length : Int)) := by omega
  have hg3 : ¬ ((12 : Int) < (past.length : Int) + (fut.length : Int)) := by omega
  have hgw : IntKind.i64.wrap ((past.length : Int) + (fut.length : Int)) = (past.length : Int) + (fut.length : Int) := by rw [IntKind.wrap_i64]; omega
  obtain ⟨M, hM⟩ : ∃ M, M = if N ≤ 50 then N else 50 := ⟨_, rfl⟩
  have hM1 : M ≤ N := by rw [hM]; split <;> omega
  have hM2 : M ≤ 50 := by rw [hM]; split <;> omega
  have hM3 : M = N ∨ M = 50 := by rw [hM]; split <;> omega
  clear hM
  go_enter Try.func4, Try.ntmps4
  go_wp2_with fail
  refine HL.out.mono ?_
  rintro e w1 ⟨hb, rfl, h1, k1⟩
  have HH := hidMk h1
  have HK1 := hidMk k1
  clear h1 k1
  go_wp2_with (at_builtin; refine wpList_pushRo _ rfl _ _ rfl none 0 [] rfl (ro_nil _) _ past rfl (HPS.out _ (HK1.out.alloc _)) (by simp; omega) ?_)
  intro a3 c3 w3 r3 k3 b3
  have HL0 := hidMk (show Lr w1 (w1.alloc (.cells #[.slice none 0 0, .int .i64 (past.length : Int)] 41)) w1.heap.size none 0 [] past.length from ⟨(Kept.refl w1).alloc _, by simp, by simp, by simp, by simp, ro_nil _, fun b e => absurd e (not_bk_none _ _), not_bk_none _ _, Nat.le_refl _⟩)
  have HL3 := hidMk (show ∀ m, m = past.length → Lr w1 (w3.setCell ⟨w1.heap.size, 0, none⟩ (.slice a3 m c3)) w1.heap.size a3 c3 past past.length from fun m hm => HL0.out.push (Kept.refl _) (by simpa using r3) k3 (fun b e => by simpa using b3 b e) hm)
  have hq1 : w1.heap.size < w3.heap.size := by have := k3.size; simp at this; omega
  have g0 : w3.cell? ⟨w1.heap.size, 0, none⟩ = some (.slice none 0 0) := k3.cellp (by simp) (not_bk_none _ _)
  have gz : w3.frozen? ⟨w1.heap.size, 0, none⟩ = false := (k3.frozen (p := ⟨w1.heap.size, 0, none⟩) (by simp) (not_bk_none _ _)).trans (by simp)
  clear r3 k3 b3
  go_wp2_with (at_builtin; refine wpList_pushRo _ rfl _ _ rfl a3 c3 past (by rfl) ((HL3.out _ (by rfl)).ro.kept ((Kept.refl _).alloc _)) _ [now] rfl (src_new _ _ now (by simp)) (by simp; omega) ?_)
  intro a4 c4 w4 r4 k4 b4
  have hL3 := HL3.out past.length rfl
  have HL4 := hidMk (show ∀ m, m = past.length + 1 → Lr w1 (w4.setCell ⟨w1.heap.size, 0, none⟩ (.slice a4 m c4)) w1.heap.size a4 c4 (past ++ [now]) past.length from fun m hm => hL3.push ((Kept.refl _).alloc _) r4 (by simpa using k4) (fun b e => by simpa using b4 b e) (by simpa using hm))
  have hq4 : w1.heap.size < w4.heap.size := by have := k4.size; simp at this; omega
  have g4 : w4.cell? ⟨w1.heap.size, 0, none⟩ = some (.slice a3 past.length c3) := k4.cellp (((Kept.refl _).alloc _).cellp (by simpa using hL3.c0)) hL3.nq
  have gz4 : w4.frozen? ⟨w1.heap.size, 0, none⟩ = false := by
    refine (k4.frozen (p := ⟨w1.heap.size, 0, none⟩) (by simp; omega) hL3.nq).trans ?_
    simpa using (((Kept.refl _).alloc _).frozen (p := ⟨w1.heap.size, 0, none⟩) (cell_lt hL3.c0)).trans hL3.z0
  clear hL3 r4 k4 b4 g0 gz hq1
  obtain ⟨R, hR⟩ : ∃ R, R = past ++ [now] := ⟨_, rfl⟩
  have HRl := hidMk (show R.length = past.length + 1 by rw [hR]; simp)
  have HRE := hidMk hR
  rw [← hR] at HL4
  clear hR
  go_wp2_with (at_builtin; refine wpList_pushRo _ rfl _ _ rfl a4 c4 R (by rw [HRl.out]; rfl) ((HL4.out _ (by rfl)).ro) _ fut rfl (HFS.out _ (HK1.out.trans (HL4.out _ (by rfl)).kp)) (by rw [HRl.out]; omega) ?_)
  intro a5 c5 w5 r5 k5 b5
  have hL4 := HL4.out (past.length + 1) rfl
  have HL5 := hidMk (show ∀ m, m = past.length + 1 + fut.length → Lr w1 (w5.setCell ⟨w1.heap.size, 0, none⟩ (.slice a5 m c5)) w1.heap.size a5 c5 (past ++ now :: fut) past.length from fun m hm => hL4.push (Kept.refl _) (by rw [HRE.out] at r5; simpa using r5) (by simpa using k5) (fun b e => by simpa using b5 b e) (by simp; omega))
  have g5 : w5.cell? ⟨w1.heap.size, 0, none⟩ = some (.slice a4 (past.length + 1) c4) := k5.cellp (by have := hL4.c0; rwa [HRl.out] at this) hL4.nq
  have gz5 : w5.frozen? ⟨w1.heap.size, 0, none⟩ = false := (k5.frozen (p := ⟨w1.heap.size, 0, none⟩) (cell_lt hL4.c0) hL4.nq).trans hL4.z0
  have hq5 : w1.heap.size < w5.heap.size := cell_lt g5
  clear hL4 r5 k5 b5 g4 gz4 hq4
  rw [HRl.out]
  have HBI := hidMk (show ∀ m, m = past.length + 1 + fut.length → Bi w (w5.setCell ⟨w1.heap.size, 0, none⟩ (.slice a5 m c5)) hb w1.heap.size a5 c5 past now fut (past ++ now :: fut) past.length from fun m hm => (HL5.out m hm).bi HK1.out HH.out)
  go_wp2_with fail
  refine (law18_alike (HBI.out _ (by rfl))).mono ?_
  rintro e w3 ⟨rfl, k3⟩
  have HB3 := hidMk ((HBI.out _ rfl).keep k3)
  clear k3 g5 gz5 hq5
  obtain ⟨q, hq⟩ : ∃ q, q = w1.heap.size := ⟨_, rfl⟩
  rw [← hq] at HB3 ⊢
  clear hq
  go_wp2_with fail
  go_loopg [12] M (fun gg iv wr => ∃ (k : Nat) (la : Option Addr) (lc : Nat) (p : List Int) (x : Int) (f : List Int), k + gg = M ∧ iv = .int .i64 (k : Int) ∧ Hid (Bi w wr hb q la lc p x f (p ++ x :: f) p.length))
  case atStart => exact ⟨0, _, _, _, _, _, by omega, rfl, HB3⟩
  case round =>
    obtain ⟨k, la, lc, p, x, f, hkg, rfl, HB⟩ := hrel
    have HKG := hidMk hkg
    by_cases hkM : k < M
    · have hk1 : (k : Int) < (N : Int) := by omega
      have hk2 : (k : Int) < 50 := by omega
      have hk3 : k < N := by omega
      have hk0 : (0 : Int) ≤ (k : Int) := by omega
      obtain ⟨ab, ao, rfl, hab, hcs⟩ := HS.out.cells (by omega)
      obtain ⟨q1, q2, q3⟩ := hcs k hk3
      have hab' : ab < wr.heap.size := Nat.lt_of_lt_of_le hab HB.out.kp.size
      have q1' := HB.out.kp.cellp q1
      have q2' := HB.out.kp.cellp q2
      have HQ2 := hidMk q2
      clear hcs q1 q3 q2 hkg
      have hmany := HB.out.hs.many
      have hqlt := HB.out.rf.qlt
      generalize kd k = xk at *
      generalize nn k = xn at *
      by_cases hq0 : xk.tmod 3 = 0
      · have HD := hidMk (show ∀ z, Kept wr z → Calls Try.prog 11 #[.pointer (some ⟨hb, 0, none⟩), .int .i64 xn] z (BiDo w z hb q la lc p x f xn (p ++ x :: f) p.length) from fun z hz => bi_Do (HB.out.keep hz) xn)
        have HRD := hidMk (show ∀ (v z : World) la lc, Bi w v hb q la lc (pastL p x) xn [] (p ++ x :: f) p.length → Kept v z → Calls Try.prog 12 #[.pointer (some ⟨q, 0, none⟩), .int .i64 xn] z (BiRd w z hb q (pastL p x) xn [] p x f xn) from fun v z la lc hv hz => bi_rDo (hv.keep hz) hmany xn)
        have q2'' := HQ2.out
        have HPG := hidMk (show ∃ l, l = goneL p f from ⟨_, rfl⟩)
        obtain ⟨G, hG⟩ : ∃ G, G = goneL p f := ⟨_, rfl⟩
        obtain ⟨PP, hPP⟩ : ∃ PP, PP = pastL p x := ⟨_, rfl⟩
        unfold BiDo at HD
        unfold BiRd at HRD
        rw [← hG, ← hPP] at HD
        rw [← hG, ← hPP] at HRD
        clear hG hPP HPG
        go_wp2_with fail
        go_region_held3 (fun w' => w'.cell? ⟨ab, ao + k * 2 + 1, none⟩ = some (.int .i64 xn)) (first | assumption | (refine Kept.cellp ?_ q2'; (repeat (first | (with_reducible exact Kept.refl _) | (with_reducible refine Kept.alloc ?_ _) | (with_reducible refine Kept.drew ?_) | (with_reducible refine Kept.drewN ?_ _) | (with_reducible refine Kept.trans ?_ (by assumption)))); done) | (refine Kept.cellp ?_ q2''; (repeat (first | (with_reducible exact Kept.refl _) | (with_reducible refine Kept.alloc ?_ _) | (with_reducible refine Kept.drew ?_) | (with_reducible refine Kept.drewN ?_ _) | (with_reducible refine Kept.trans ?_ (by assumption)))); done))
          (first
            | (go_at_call 11; refine (HD.out _ (by (repeat (first | (with_reducible exact Kept.refl _) | (with_reducible refine Kept.alloc ?_ _) | (with_reducible refine Kept.drew ?_) | (with_reducible refine Kept.drewN ?_ _) | (with_reducible refine Kept.trans ?_ (by assumption)))))).mono ?_; rintro e w4 ⟨ga4, gc4, rfl, s4, b4, h4⟩; have k4 := h4.kp)
            | (go_at_call 12; refine (HRD.out _ _ _ _ h4 (by (repeat (first | (with_reducible exact Kept.refl _) | (with_reducible refine Kept.alloc ?_ _) | (with_reducible refine Kept.drew ?_) | (with_reducible refine Kept.drewN ?_ _) | (with_reducible refine Kept.trans ?_ (by assumption)))))).mono ?_; rintro e w5 ⟨ga5, gc5, la5, lc5, rfl, s5, h5, c5⟩; have s6 := two_sl s4 (by (repeat (first | (with_reducible exact Kept.refl _) | (with_reducible refine Kept.alloc ?_ _) | (with_reducible refine Kept.drew ?_) | (with_reducible refine Kept.drewN ?_ _) | (with_reducible refine Kept.trans ?_ (by assumption))))) c5 b4 (by simpa using hqlt); have k5 := h5.kp; have HB5 := hidMk h5; clear s4 b4 h4 h5 c5)
            | (go_at_call 10; refine (ints_same _ _ _ _ _ _ _ _ (Sl.kept (by assumption) (by (repeat (first | (with_reducible exact Kept.refl _) | (with_reducible refine Kept.alloc ?_ _) | (with_reducible refine Kept.drew ?_) | (with_reducible refine Kept.drewN ?_ _) | (with_reducible refine Kept.trans ?_ (by assumption)))))) (Sl.kept (by assumption) (by (repeat (first | (with_reducible exact Kept.refl _) | (with_reducible refine Kept.alloc ?_ _) | (with_reducible refine Kept.drew ?_) | (with_reducible refine Kept.drewN ?_ _) | (with_reducible refine Kept.trans ?_ (by assumption))))))).mono ?_; rintro e w6 ⟨rfl, k6⟩; have HB6 := hidMk (HB5.out.keep (show Kept w5 w6 from by (repeat (first | (with_reducible exact Kept.refl _) | (with_reducible refine Kept.alloc ?_ _) | (with_reducible refine Kept.drew ?_) | (with_reducible refine Kept.drewN ?_ _) | (with_reducible refine Kept.trans ?_ (by assumption))))))))
        all_goals (try go_wp2_with fail)
        all_goals
          have HAL := hidMk (law18_alike HB6.out)
          refine HAL.out.mono ?_
          rintro e w9 ⟨rfl, k9⟩
          have HB9 := hidMk (HB6.out.keep k9)
          clear k9
          go_wp2_with fail
          go_roundg (gk - 1)
          case measure => have := HKG.out; omega
          case rel => exact ⟨k + 1, la5, lc5, PP, xn, [], by have := HKG.out; omega, by go_num, HB9⟩
      · by_cases hq1 : xk.tmod 3 = 1
        · rcases nil_or_last p with rfl | ⟨l, y, rfl⟩
          · have HU := hidMk (hs_UndoNone HB.out.hs)
            have HRU := hidMk (r18_UndoNone HB.out.rf)
            go_wp2_with fail
            refine HU.out.mono ?_
            rintro e w4 ⟨rfl, rfl⟩
            go_wp2_with fail
            refine HRU.out.mono ?_
            rintro e w5 ⟨rfl, rfl⟩
            go_wp2_with fail
            have HAL := hidMk (law18_alike HB.out)
            refine HAL.out.mono ?_
            rintro e w9 ⟨rfl, k9⟩
            have HB9 := hidMk (HB.out.keep k9)
            clear k9
            go_wp2_with fail
            go_roundg (gk - 1)
            case measure => have := HKG.out; omega
            case rel => exact ⟨k + 1, la, lc, [], x, f, by have := HKG.out; omega, by go_num, HB9⟩
          · have HU := hidMk (bi_Undo HB.out)
            go_wp2_with fail
            refine HU.out.mono ?_
            rintro e w4 ⟨rfl, h4⟩
            have HRU := hidMk (bi_rUndo (at_ := l.length) (by simpa using h4))
            rw [show (l ++ y :: x :: f).getD l.length 0 = y by rw [getD_app, if_neg (by omega), Nat.sub_self]; rfl] at HRU
            clear h4
            go_wp2_with fail
            refine HRU.out.mono ?_
            rintro e w5 ⟨rfl, h5⟩
            have HB5 := hidMk h5
            clear h5
            go_wp2_with fail
            have HAL := hidMk (law18_alike HB5.out)
            refine HAL.out.mono ?_
            rintro e w9 ⟨rfl, k9⟩
            have HB9 := hidMk (HB5.out.keep k9)
            clear k9
            go_wp2_with fail
            go_roundg (gk - 1)
            case measure => have := HKG.out; omega
            case rel => exact ⟨k + 1, la, lc, l, y, (x :: f), by have := HKG.out; omega, by go_num, HB9⟩
        · cases f with
          | nil =>
            have HU := hidMk (hs_RedoNone HB.out.hs)
            have HRU := hidMk (r18_RedoNone HB.out.rf (by simp))
            go_wp2_with fail
            refine HU.out.mono ?_
            rintro e w4 ⟨rfl, rfl⟩
            go_wp2_with fail
            refine HRU.out.mono ?_
            rintro e w5 ⟨rfl, k5⟩
            have HB5 := hidMk (HB.out.keep k5)
            clear k5
            go_wp2_with fail
            have HAL := hidMk (law18_alike HB5.out)
            refine HAL.out.mono ?_
            rintro e w9 ⟨rfl, k9⟩
            have HB9 := hidMk (HB5.out.keep k9)
            clear k9
            go_wp2_with fail
            go_roundg (gk - 1)
            case measure => have := HKG.out; omega
            case rel => exact ⟨k + 1, la, lc, p, x, [], by have := HKG.out; omega, by go_num, HB9⟩
          | cons y f =>
            have HU := hidMk (bi_Redo HB.out)
            go_wp2_with fail
            refine HU.out.mono ?_
            rintro e w4 ⟨rfl, h4⟩
            have HRU := hidMk (bi_rRedo h4 (by simp))
            rw [show (p ++ x :: y :: f).getD (p.length + 1) 0 = y by rw [getD_app, if_neg (by omega), Nat.add_sub_cancel_left]; rfl, show p ++ x :: y :: f = (p ++ [x]) ++ y :: f by simp, show p.length + 1 = (p ++ [x]).length by simp] at HRU
            clear h4
            go_wp2_with fail
            refine HRU.out.mono ?_
            rintro e w5 ⟨rfl, h5⟩
            have HB5 := hidMk h5
            clear h5
            go_wp2_with fail
            have HAL := hidMk (law18_alike HB5.out)
            refine HAL.out.mono ?_
            rintro e w9 ⟨rfl, k9⟩
            have HB9 := hidMk (HB5.out.keep k9)
            clear k9
            go_wp2_with fail
            go_roundg (gk - 1)
            case measure => have := HKG.out; omega
            case rel => exact ⟨k + 1, la, lc, (p ++ [x]), y, f, by have := HKG.out; omega, by go_num, HB9⟩
    · have hkM' : ¬ ((k : Int) < (N : Int)) ∨ ¬ ((k : Int) < 50) := by omega
      have HKN := hidMk (law18_known wr)
      have HKP := hidMk HB.out.kp
      by_cases hkn : (k : Int) < (N : Int)
      · have hk100 : ¬ ((k : Int) < 50) := by omega
        go_wp2_with fail
        refine HKN.out.mono ?_
        rintro e w4 ⟨rfl, k4⟩
        go_wp2_with fail
        go_ret
        exact ⟨rfl, HKP.out.trans k4⟩
      · go_wp2_with fail
        refine HKN.out.mono ?_
        rintro e w4 ⟨rfl, k4⟩
        go_wp2_with fail
        go_ret
        exact ⟨rfl, HKP.out.trans k4⟩end Go.Proofs.Ytbikelbobanfbaa
