/- CoordOver. -/
import Derived.Test.YtmmdfpafkmhgcaaGreatRefCo9
namespace Go.Proofs.YtmmdfpafkmhgcaaGreat
open Go.RowKit Go.Maps
set_option linter.unusedSimpArgs false
set_option linter.unusedVariables false

theorem bool_ofO (P : Prop) : ∃ b : Bool, (b = true ↔ P) := by
  by_cases h : P
  · exact ⟨true, ⟨fun _ => h, fun _ => rfl⟩⟩
  · exact ⟨false, ⟨fun e => (by cases e), fun e => absurd e h⟩⟩
theorem bool_eqO {b c : Bool} {P : Prop} (h : b = true ↔ P) (k : c = true ↔ P) : b = c := by
  cases b <;> cases c <;> simp_all
/-- What a row's cell holds. -/
def fC (m : Int) (l : List (List Int)) (i t : Nat) : Int := if t = 0 then m else at4 (l.getD i []) (t - 1)
theorem cfl_get (m : Int) : ∀ (l : List (List Int)) (i t : Nat), i < l.length → t < 5 → (l.flatMap (cfl m))[i * 5 + t]? = some (.int .i64 (fC m l i t)) := by
  intro l
  induction l with
  | nil => intro i t hi; simp at hi
  | cons x r ih =>
    intro i t hi ht
    rw [List.flatMap_cons]
    have hl : (cfl m x).length = 5 := rfl
    cases i with
    | zero =>
      rw [List.getElem?_append_left (by omega)]
      have : t = 0 ∨ t = 1 ∨ t = 2 ∨ t = 3 ∨ t = 4 := by omega
      rcases this with rfl | rfl | rfl | rfl | rfl <;> rfl
    | succ i =>
      rw [List.getElem?_append_right (by omega), hl, show (i + 1) * 5 + t - 5 = i * 5 + t by omega, ih i t (by simpa using hi) ht]
      rfl
open Classical in
/-- The cells that a number's leaf is within. -/
noncomputable def llO (ms : List ByteArray) (ds : List Dm) (n : Int) : List (List Int) := if okC ms ds n then ovL ds n else []
section
variable {ds : List Dm} {ms : List ByteArray}
theorem ll_len (h : Ct ds ms) (n : Int) : (llO ms ds n).length ≤ 51840000 := by
  unfold llO
  by_cases hn : okC ms ds n
  · rw [if_pos hn]
    have h1 := mulK_le (f := fun k => many ds k) (m := ms.length) (by have := h.m4; omega) (fun k => many60 h k)
    have h2 := ovF_all h hn (M := (mulK (fun k => many ds k) ms.length 4).toNat) (by omega)
    have h3 := ovF_len (ds := ds) n (mulK (fun k => many ds k) ms.length 4).toNat
    rw [h2] at h3
    omega
  · rw [if_neg hn]; simp
theorem ll_mem (h : Ct ds ms) (n cm : Int) (at_ : Nat → Int) : (okC ms ds n ∧ inC ms ds (prQ (fun k => leas ds k) n 4) (lfF ds n ds.length) cm at_) ↔ ∃ t, t < (llO ms ds n).length ∧ fC (prQ (fun k => leas ds k) n 4) (llO ms ds n) t 0 = cm ∧ fC (prQ (fun k => leas ds k) n 4) (llO ms ds n) t 1 = at_ 0 ∧ fC (prQ (fun k => leas ds k) n 4) (llO ms ds n) t 2 = at_ 1 ∧ fC (prQ (fun k => leas ds k) n 4) (llO ms ds n) t 3 = at_ 2 ∧ fC (prQ (fun k => leas ds k) n 4) (llO ms ds n) t 4 = at_ 3 := by
  unfold llO
  by_cases hn : okC ms ds n
  · rw [if_pos hn, ← mem_ov h hn]
    have hd : ∀ t, t < (ovL ds n).length → ∃ x, x ∈ ovL ds n ∧ (ovL ds n).getD t [] = x := fun t ht => ⟨_, List.getElem_mem ht, by rw [List.getD_eq_getElem?_getD, List.getElem?_eq_getElem ht]; rfl⟩
    constructor
    · rintro ⟨_, rfl, x, hx, he⟩
      obtain ⟨t, ht, e⟩ := List.getElem_of_mem hx
      have e2 : (ovL ds n).getD t [] = x := by rw [List.getD_eq_getElem?_getD, List.getElem?_eq_getElem ht, ← e]; rfl
      refine ⟨t, ht, rfl, ?_, ?_, ?_, ?_⟩
      · show at4 ((ovL ds n).getD t []) 0 = _; rw [e2]; exact he 0 (by omega)
      · show at4 ((ovL ds n).getD t []) 1 = _; rw [e2]; exact he 1 (by omega)
      · show at4 ((ovL ds n).getD t []) 2 = _; rw [e2]; exact he 2 (by omega)
      · show at4 ((ovL ds n).getD t []) 3 = _; rw [e2]; exact he 3 (by omega)
    · rintro ⟨t, ht, h0, h1, h2, h3, h4⟩
      obtain ⟨x, hx, e2⟩ := hd t ht
      refine ⟨hn, h0.symm, x, hx, fun k hk => ?_⟩
      have g1 : at4 ((ovL ds n).getD t []) 0 = at_ 0 := h1
      have g2 : at4 ((ovL ds n).getD t []) 1 = at_ 1 := h2
      have g3 : at4 ((ovL ds n).getD t []) 2 = at_ 2 := h3
      have g4 : at4 ((ovL ds n).getD t []) 3 = at_ 3 := h4
      rw [e2] at g1 g2 g3 g4
      have : k = 0 ∨ k = 1 ∨ k = 2 ∨ k = 3 := by omega
      rcases this with rfl | rfl | rfl | rfl <;> assumption
  · rw [if_neg hn]
    constructor
    · rintro ⟨h1, _⟩; exact absurd h1 hn
    · rintro ⟨t, ht, _⟩; simp at ht
theorem own_ll {w : World} {B : Nat} {v : Value} {m : Int} {l : List (List Int)} (h : OwnC w B v m l) (hb : l.length ≤ 51840000) : ∃ a c, v = .slice a l.length c ∧ Cs w a l.length (fC m l) := by
  obtain ⟨a, c, rfl⟩ := ownC_form h
  exact ⟨a, c, rfl, own_cs h (by unfold maxLen; omega) (fun i hi t ht => cfl_get m l i t hi ht)⟩
end
set_option maxHeartbeats 8000000 in
set_option maxRecDepth 100000 in
theorem law_CoordOver (a : Option Addr) (n c : Nat) (ds : List Dm) (na : Nat → Option Addr × Nat × Nat) (b : Option Addr) (m d : Nat) (ms : List ByteArray) (lv sc nn mm cm : Int) (at_ : Nat → Int) (w : World) (hs : Dss w a n ds na) (hm : Ss w b m ms) (hmz : ∀ i, i < ms.length → (msA ms i).size ≤ maxLen) :
    Calls Tryz.prog 5 #[.agg #[.slice a n c, .slice b m d, .int .i64 lv, .int .i64 sc], .int .i64 nn, .int .i64 mm, cellV cm at_] w fun e w' => e = .returned (.bool true) ∧ Kept w w' := by
  obtain ⟨tb, htb⟩ : ∃ x, x = w.heap.size := ⟨_, rfl⟩
  obtain ⟨cb, hcb⟩ : ∃ x, x = w.heap.size + 1 := ⟨_, rfl⟩
  obtain ⟨W1, hW1⟩ : ∃ X, X = (w.alloc (.cells #[.slice a n c, .slice b m d, .int .i64 lv, .int .i64 sc] 25)).alloc (.cells #[.int .i64 cm, .int .i64 (at_ 0), .int .i64 (at_ 1), .int .i64 (at_ 2), .int .i64 (at_ 3)] 28) := ⟨_, rfl⟩
  have k1 : Kept w W1 := by rw [hW1]; exact ((Kept.refl w).alloc _).alloc _
  have HK1 := hidMk k1
  have HTC := hidMk (show W1.cell? ⟨tb, 0, none⟩ = some (.slice a n c) ∧ W1.cell? ⟨tb, 1, none⟩ = some (.slice b m d) ∧ W1.cell? ⟨tb, 2, none⟩ = some (.int .i64 lv) ∧ W1.cell? ⟨tb, 3, none⟩ = some (.int .i64 sc) from by
    rw [hW1]
    exact ⟨((Kept.refl _).alloc _).cellp (new_cell _ _ _ _ 0 _ htb rfl), ((Kept.refl _).alloc _).cellp (new_cell _ _ _ _ 1 _ htb rfl), ((Kept.refl _).alloc _).cellp (new_cell _ _ _ _ 2 _ htb rfl), ((Kept.refl _).alloc _).cellp (new_cell _ _ _ _ 3 _ htb rfl)⟩)
  have HCC := hidMk (show C5 cb cm at_ W1 from by
    rw [hW1, hcb]
    have := C5.new (w.alloc (.cells #[.slice a n c, .slice b m d, .int .i64 lv, .int .i64 sc] 25)) cm at_ 28
    rwa [World.size_alloc] at this)
  have HOP := hidMk (law7_open a n c ds na b m d ms lv sc W1 (hs.kept k1) (hm.kept k1) hmz)
  clear hs hm hmz k1
  have HCB := hidMk hcb
  have HW1S := hidMk (show W1.heap.size = w.heap.size + 1 + 1 from by rw [hW1, World.size_alloc, World.size_alloc])
  unfold cellV
  go_enter Tryz.func5, Tryz.ntmps5
  obtain ⟨y0, y1, y2, y3⟩ := HTC.out
  rw [hW1, htb] at y0 y1 y2 y3
  go_wp2_with fail
  rw [← hW1]
  rw [← hcb, ← htb]
  clear hW1 hcb htb y0 y1 y2 y3 HTC
  refine HOP.out.mono ?_
  rintro e w1 (⟨W0, s, p, tp, rv, q, rt, rfl, _, hcat, hsw, hrd, hk, hw1⟩ | ⟨v1, v2, rfl, hno, hk⟩)
  · have hq1 := rq_open W0 q ds
    rw [← hw1] at hq1
    have HE := hidMk (show RE W0 W0.heap.size q ds ms rt from ⟨rfl, hrd, hsw.ct⟩)
    have HKW := hidMk hk
    have HSW := hidMk hsw
    have HNR := hidMk (show cb ≠ W0.heap.size from by have h1 := HCB.out; have h2 := HW1S.out; have h3 := hk.size; omega)
    obtain ⟨r, hr⟩ : ∃ r, r = W0.heap.size := ⟨_, rfl⟩
    rw [← hr] at hq1 HE HNR
    have HQ1 := hidMk hq1
    rw [← hr]
    have HC1 := hidMk (HCC.out.kept (HKW.out.trans hq1.kp))
    have hct := hsw.ct
    obtain ⟨ll, hll⟩ : ∃ x, x = llO ms ds nn := ⟨_, rfl⟩
    obtain ⟨xm, hxm⟩ : ∃ x, x = prQ (fun k => leas ds k) nn 4 := ⟨_, rfl⟩
    have hl5 := ll_len hct nn
    have hmm := ll_mem hct nn cm at_
    rw [← hll] at hl5
    rw [← hll, ← hxm] at hmm
    have HMM := hidMk hmm
    have HSO := hidMk (show ∀ Y, Kept W0 Y → Calls Tryz.prog 29 #[.pointer (some ⟨s, 0, none⟩), .int .i64 nn] Y fun e w' => ∃ v, e = .returned v ∧ OwnC w' Y.heap.size v xm ll ∧ Kept Y w' from fun Y k => (sw_Over (HSW.out.keep k) nn).mono fun e w' h => by
      obtain ⟨h1, h2, h3⟩ := h
      rw [hll, hxm]
      unfold llO
      by_cases hn : okC ms ds nn
      · rw [if_pos hn]
        obtain ⟨v, e1, e2⟩ := h1 hn
        exact ⟨v, e1, e2, h3⟩
      · rw [if_neg hn]
        exact ⟨_, h2 hn, World.ownsRow_nil _ _ _ _, h3⟩)
    have HRO := hidMk (show ∀ Y y4 y5 p, RQ W0 r q ds y4 y5 p Y → Calls Tryz.prog 31 #[.pointer (some ⟨r, 0, none⟩), .int .i64 nn] Y fun e w' => ∃ v, e = .returned v ∧ OwnC w' Y.heap.size v xm ll ∧ (∃ y4 y5 pp, RQ W0 r q ds y4 y5 pp w') ∧ Chg (fun j => j = r) Y w' from fun Y y4 y5 p hq => (r7_Over HE.out hq nn).mono fun e w' h => by
      obtain ⟨h1, h2, h3, h4⟩ := h
      rw [hll, hxm]
      unfold llO
      by_cases hn : okC ms ds nn
      · rw [if_pos hn]
        obtain ⟨v, e1, e2⟩ := h1 hn
        exact ⟨v, e1, e2, h3, h4⟩
      · rw [if_neg hn]
        exact ⟨_, h2 hn, World.ownsRow_nil _ _ _ _, h3, h4⟩)
    have HSS := hidMk (show ∀ Y, Kept W0 Y → _ from fun Y k => sw_Swap (HSW.out.keep k) nn mm)
    have HRS := hidMk (show ∀ Y y4 y5 p, RQ W0 r q ds y4 y5 p Y → _ from fun Y y4 y5 p hq => r7_Swap HE.out hq nn mm)
    have HSI := hidMk (show ∀ Y, Kept W0 Y → _ from fun Y k => sw_Inside (HSW.out.keep k) cm at_ nn)
    rw [← hxm] at HSI
    clear hw1 hsw hrd hk hcat hq1 HOP HCC hr HCB HW1S hct hll hxm hmm HE HSW
    unfold cellV at *
    generalize swapI ms ds nn mm = sw at *
    -- the cells, both sides
    go_wp2_with fail
    refine (HSO.out _ HQ1.out.kp).mono ?_
    rintro e w2 ⟨v1, rfl, ho1, k2⟩
    have HO1 := hidMk ho1
    have HQ2 := hidMk (HQ1.out.keep k2)
    have HC2 := hidMk (HC1.out.kept k2)
    have HV1 := hidMk (show ∀ g, v1.ownBlock = some g → ¬ g = r from fun g hg e => by have h1 := (World.ownsRow.lt ho1 g hg).1; have h2 := HQ1.out.lt; omega)
    clear ho1 k2 HQ1 HC1 HSO
    go_wp2_with fail
    refine (HRO.out _ _ _ _ HQ2.out).mono ?_
    rintro e w3 ⟨v2, rfl, ho2, ⟨z4, z5, zp, hq3⟩, hc3⟩
    have HQ3 := hidMk hq3
    have HC3 := hidMk (HC2.out.chg hc3 HNR.out)
    obtain ⟨a1, c1, hv1, hcs1⟩ := own_ll (show OwnC w3 _ v1 xm ll from ownsRow_chg HO1.out hc3 HV1.out) hl5
    obtain ⟨a2, c2, hv2, hcs2⟩ := own_ll ho2 hl5
    subst hv1
    subst hv2
    have HO3 := hidMk (show OwnC w3 w1.heap.size (.slice a1 ll.length c1) xm ll from ownsRow_chg HO1.out hc3 HV1.out)
    have HSM := hidMk (ref7_Same a1 a2 ll.length c1 c2 (fC xm ll) w3 hcs1 hcs2)
    clear ho2 hq3 hc3 hcs1 hcs2 HO1 HQ2 HC2 HRO
    go_wp2_with fail
    refine HSM.out.mono ?_
    rintro e w4 ⟨rfl, k4⟩
    have HQ4 := hidMk (HQ3.out.keep k4)
    have HC4 := hidMk (HC3.out.kept k4)
    have HO4 := hidMk (show OwnC w4 w1.heap.size (.slice a1 ll.length c1) xm ll from ownsRow_chg HO3.out (S := fun _ => False) (Chg.of_kept k4) (fun _ _ e => e))
    clear k4 HQ3 HC3 HO3 HSM
    go_wp2_with fail
    refine (HSS.out _ HQ4.out.kp).mono ?_
    rintro e w5 ⟨rfl, k5⟩
    have HQ5 := hidMk (HQ4.out.keep k5)
    have HC5 := hidMk (HC4.out.kept k5)
    have HO5 := hidMk (show OwnC w5 w1.heap.size (.slice a1 ll.length c1) xm ll from ownsRow_chg HO4.out (S := fun _ => False) (Chg.of_kept k5) (fun _ _ e => e))
    clear k5 HQ4 HC4 HO4 HSS
    go_wp2_with fail
    refine (HRS.out _ _ _ _ HQ5.out).mono ?_
    rintro e w6 ⟨rfl, ⟨p6, hq6, _⟩, hc6⟩
    have HQ6 := hidMk hq6
    have HC6 := hidMk (HC5.out.chg hc6 HNR.out)
    obtain ⟨a9, c9, hv9, hcs6⟩ := own_ll (show OwnC w6 _ (.slice a1 ll.length c1) xm ll from ownsRow_chg HO5.out hc6 HV1.out) hl5
    injection hv9 with e1 e2 e3
    subst e1
    have HCS := hidMk hcs6
    clear hq6 hc6 HQ5 HC5 HO5 HRS hcs6 HV1 e2 e3 c9
    obtain ⟨N, hN⟩ : ∃ N, N = ll.length := ⟨_, rfl⟩
    rw [← hN] at HMM HCS hl5 ⊢
    generalize fC xm ll = f at *
    clear hN
    go_wp2_with fail
    go_loopg [13, 14] (N + 1) (fun gg sv x wr => ∃ (j : Nat) (bb : Bool), j + gg = N + 1 ∧ j ≤ N ∧ x = .int .i64 j ∧ sv = .bool bb ∧ Hid (Kept w6 wr ∧ (bb = true ↔ ∃ t, t < j ∧ f t 0 = cm ∧ f t 1 = at_ 0 ∧ f t 2 = at_ 1 ∧ f t 3 = at_ 2 ∧ f t 4 = at_ 3)))
    case atStart => exact ⟨0, false, by omega, by omega, rfl, rfl, hidMk ⟨Kept.refl _, ⟨fun e => (by cases e), fun ⟨t, ht, _⟩ => absurd ht (by omega)⟩⟩⟩
    case round =>
      obtain ⟨j, bb, hjg, hjN, rfl, rfl, HS⟩ := hrel
      have HG := hidMk hjg
      clear hjg
      by_cases hj : j < N
      · have hj' : (j : Int) < (N : Int) := by omega
        cases bb with
        | true =>
          have HEX := hidMk (show ∃ t, t < j ∧ f t 0 = cm ∧ f t 1 = at_ 0 ∧ f t 2 = at_ 1 ∧ f t 3 = at_ 2 ∧ f t 4 = at_ 3 from by have h9 := HS.out.2; simpa using h9)
          have HK := hidMk HS.out.1
          clear HS
          go_wp2_with fail
          go_quiet (fail)
          go_wp2_with fail
          go_roundg (gk - 1)
          case measure => have := HG.out; omega
          case rel =>
            obtain ⟨t, ht, hx⟩ := HEX.out
            exact ⟨j + 1, true, by have := HG.out; omega, by omega, by go_num, rfl, hidMk ⟨HK.out.drewN _, ⟨fun _ => ⟨t, by omega, hx⟩, fun _ => rfl⟩⟩⟩
        | false =>
          have HNE := hidMk (show ¬ ∃ t, t < j ∧ f t 0 = cm ∧ f t 1 = at_ 0 ∧ f t 2 = at_ 1 ∧ f t 3 = at_ 2 ∧ f t 4 = at_ 3 from fun e => by have := HS.out.2.2 e; cases this)
          have HK := hidMk HS.out.1
          clear HS
          obtain ⟨ba, oa, ea, _, ca⟩ := (HCS.out.kept HK.out).cells (by omega)
          subst ea
          have x0 := ca j hj 0 (by omega)
          have x1 := ca j hj 1 (by omega)
          have x2 := ca j hj 2 (by omega)
          have x3 := ca j hj 3 (by omega)
          have x4 := ca j hj 4 (by omega)
          rw [Nat.add_zero] at x0
          obtain ⟨y0, y1, y2, y3, y4⟩ := HC6.out.kept HK.out
          have HMJ := hidMk (show (∃ t, t < j + 1 ∧ f t 0 = cm ∧ f t 1 = at_ 0 ∧ f t 2 = at_ 1 ∧ f t 3 = at_ 2 ∧ f t 4 = at_ 3) ↔ (f j 0 = cm ∧ f j 1 = at_ 0 ∧ f j 2 = at_ 1 ∧ f j 3 = at_ 2 ∧ f j 4 = at_ 3) from ⟨fun ⟨t, ht, hx⟩ => by
            by_cases e : t = j
            · subst e; exact hx
            · exact absurd ⟨t, by omega, hx⟩ HNE.out, fun hx => ⟨j, by omega, hx⟩⟩)
          clear HNE ca
          have qa := eq_arrG (f j 1) (f j 2) (f j 3) (f j 4) (at_ 0) (at_ 1) (at_ 2) (at_ 3)
          generalize f j 0 = f0 at *
          generalize f j 1 = f1 at *
          generalize f j 2 = f2 at *
          generalize f j 3 = f3 at *
          generalize f j 4 = f4 at *
          by_cases h0 : f0 = cm
          · subst h0
            have HMJ2 := hidMk (show (decide (f1 = at_ 0 ∧ f2 = at_ 1 ∧ f3 = at_ 2 ∧ f4 = at_ 3) = true) ↔ (∃ t, t < j + 1 ∧ f t 0 = f0 ∧ f t 1 = at_ 0 ∧ f t 2 = at_ 1 ∧ f t 3 = at_ 2 ∧ f t 4 = at_ 3) from by rw [HMJ.out, decide_eq_true_eq]; exact ⟨fun e => ⟨rfl, e⟩, fun e => e.2⟩)
            generalize decide (f1 = at_ 0 ∧ f2 = at_ 1 ∧ f3 = at_ 2 ∧ f4 = at_ 3) = dd at *
            clear HMJ
            cases dd with
            | true =>
              have HMT := hidMk (show ∃ t, t < j + 1 ∧ f t 0 = f0 ∧ f t 1 = at_ 0 ∧ f t 2 = at_ 1 ∧ f t 3 = at_ 2 ∧ f t 4 = at_ 3 from HMJ2.out.1 rfl)
              clear HMJ2
              go_wp2_with fail
              go_quiet (fail)
              go_wp2_with fail
              go_roundg (gk - 1)
              case measure => have := HG.out; omega
              case rel => exact ⟨j + 1, true, by have := HG.out; omega, by omega, by go_num, rfl, hidMk ⟨HK.out.drewN _, ⟨fun _ => HMT.out, fun _ => rfl⟩⟩⟩
            | false =>
              have HMF := hidMk (show ¬ ∃ t, t < j + 1 ∧ f t 0 = f0 ∧ f t 1 = at_ 0 ∧ f t 2 = at_ 1 ∧ f t 3 = at_ 2 ∧ f t 4 = at_ 3 from fun e => by have := HMJ2.out.2 e; cases this)
              clear HMJ2
              go_wp2_with fail
              go_quiet (fail)
              go_wp2_with fail
              go_roundg (gk - 1)
              case measure => have := HG.out; omega
              case rel => exact ⟨j + 1, false, by have := HG.out; omega, by omega, by go_num, rfl, hidMk ⟨HK.out.drewN _, ⟨fun e => (by cases e), fun e => absurd e HMF.out⟩⟩⟩
          · have e0 : (f0 == cm) = false := by simpa using h0
            have HMJ2 := hidMk (show ¬ _ from fun e => h0 (HMJ.out.1 e).1)
            clear HMJ h0 qa
            go_wp2_with fail
            go_quiet (fail)
            go_wp2_with fail
            go_roundg (gk - 1)
            case measure => have := HG.out; omega
            case rel => exact ⟨j + 1, false, by have := HG.out; omega, by omega, by go_num, rfl, hidMk ⟨HK.out.drewN _, ⟨fun e => (by cases e), fun e => absurd e HMJ2.out⟩⟩⟩
      · have hje : j = N := by omega
        subst hje
        have hj' : ¬ ((j : Int) < (j : Int)) := by omega
        obtain ⟨y0, y1, y2, y3, y4⟩ := HC6.out.kept HS.out.1
        have HI2 := hidMk (show Calls Tryz.prog 25 #[.pointer (some ⟨s, 0, none⟩), .agg #[.int .i64 cm, .int .i64 (at_ 0), .int .i64 (at_ 1), .int .i64 (at_ 2), .int .i64 (at_ 3)], .int .i64 nn] wr fun e w' => e = .returned (.bool bb) ∧ Kept wr w' from by
          refine (HSI.out wr (HQ6.out.kp.trans HS.out.1)).mono ?_
          rintro e w' ⟨b9, rfl, h9, k9⟩
          exact ⟨by rw [bool_eqO h9 (HS.out.2.trans HMM.out.symm)], k9⟩)
        go_wp2_with fail
        refine HI2.out.mono ?_
        rintro e w8 ⟨rfl, k8⟩
        have HK8 := hidMk k8
        clear k8 HI2 y0 y1 y2 y3 y4
        go_wp2_with fail
        refine (law7_known _).mono ?_
        rintro e w9 ⟨rfl, k9⟩
        have HK9 := hidMk k9
        clear k9
        go_wp2_with fail
        go_ret
        exact ⟨rfl, HK1.out.trans (HKW.out.trans (HQ6.out.kp.trans (HS.out.1.trans (HK8.out.trans HK9.out))))⟩
  · have HK2 := hidMk hk
    clear hk HOP
    go_wp2_with fail
    refine (law7_known _).mono ?_
    rintro e w3 ⟨rfl, k3⟩
    have HK4 := hidMk k3
    clear k3
    go_wp2_with fail
    go_ret
    exact ⟨rfl, HK1.out.trans (HK2.out.trans HK4.out)⟩
end Go.Proofs.YtmmdfpafkmhgcaaGreat
