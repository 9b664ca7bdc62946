/- region: two sets together (the law RegionParts). -/
import Derived.Test.YthbogpnkdlbilaaLawRegionMakes
import Derived.Test.YthbogpnkdlbilaaRefReg6
import Derived.Test.YthbogpnkdlbilaaRefReg7
namespace Go.Proofs.Ythbogpnkdlbilaa
open Go.RowKit Go.Maps
set_option linter.unusedSimpArgs false
set_option linter.unusedVariables false

theorem SameSet.join {l m : List Rn} {s t : List Int} (h : SameSet l s) (g : SameSet m t) : SameSet (joinR l [m]) (joinL s t) := by
  obtain ⟨a1, a2, _⟩ := join_one h.1 g.1
  obtain ⟨b1, b2⟩ := joinL_is t s h.2.1
  exact ⟨a1, b1, fun x => by rw [a2, b2, h.2.2, g.2.2]⟩
theorem same_dec {l m : List Rn} {s t : List Int} (h : SameSet l s) (g : SameSet m t) : decide (l = m) = decide (s = t) := by
  by_cases e : s = t
  · rw [decide_eq_true e, decide_eq_true]
    subst e
    exact h.ext g
  · rw [decide_eq_false e, decide_eq_false]
    intro e2
    subst e2
    exact e (h.all.symm.trans g.all)
set_option maxHeartbeats 16000000 in
set_option maxRecDepth 100000 in
theorem law8_parts (a b : Option Addr) (n m c d : Nat) (l q : List Int) (f t : Int) (w : World) (hs : Sl .i64 w a n l) (hq : Sl .i64 w b m q) (hI : ∀ x, x ∈ l → isI x) (hJ : ∀ x, x ∈ q → isI x) (hf : isI f) (ht : isI t) :
    Calls Try.prog 4 #[.slice a n c, .slice b m d, .int .i64 f, .int .i64 t] w fun e w' => e = .returned (.bool true) ∧ Kept w w' := by
  have HKN := hidMk law8_known
  have hln := hs.len
  have hlm := hq.len
  by_cases hb : 400 < n ∨ 4000 < f ∨ 4000 < t
  · have HLO := hidMk (fun w => law8_long a n c f t w true (by simp [hb]) hs.big)
    clear hs hq hI hJ hf ht hb
    go_enter Try.func4, Try.ntmps4
    go_wp2_with fail
    refine (HLO.out _).mono ?_
    rintro e w1 ⟨rfl, rfl⟩
    go_wp2_with fail
    refine (HKN.out _).mono ?_
    rintro e w2 ⟨rfl, k2⟩
    go_wp2_with fail
    go_ret
    exact ⟨rfl, k2⟩
  · have HLO := hidMk (fun w => law8_long a n c f t w false (by simp [hb]) hs.big)
    by_cases hm4 : 400 < m
    · have hm' : (400 : Int) < (m : Int) := by omega
      clear hs hq hI hJ hf ht hb
      go_enter Try.func4, Try.ntmps4
      go_wp2_with fail
      refine (HLO.out _).mono ?_
      rintro e w1 ⟨rfl, rfl⟩
      go_wp2_with fail
      refine (HKN.out _).mono ?_
      rintro e w2 ⟨rfl, k2⟩
      go_wp2_with fail
      go_ret
      exact ⟨rfl, k2⟩
    · have hm' : ¬ (400 : Int) < (m : Int) := by omega
      have hn4 : n ≤ 400 := by omega
      have ht4 : t ≤ 4000 := by omega
      have S0 := same_of hI
      have l0 := nrm_len hI
      have o0 := ofL_len l
      have SR := same_run (f := f) ht
      have lr := runL_len f t
      have ur := (upsL_is f t).2.2
      have SB := same_of hJ
      have lB := nrm_len hJ
      have oB := ofL_len q
      have SA := S0.join SR
      have lA := (join_one S0.1 SR.1).2.2
      have oA := joinL_len (upsL f t) (ofL l)
      have g0 : Gd (nrm (ofR l)) := ⟨S0.1, by omega⟩
      have gr : Gd (runL f t) := ⟨SR.1, by omega⟩
      have HO1 := hidMk (region_OfG a n c l w hs hI (by omega))
      have HO2 := hidMk (show ∀ y, Kept w y → _ from fun y hy => region_OfG b m d q y (hq.kept hy) hJ (by omega))
      have HP1 := hidMk (show ∀ y, Kept w y → _ from fun y hy => ref8_Of a n c l y (hs.kept hy) (by omega))
      have HP2 := hidMk (show ∀ y, Kept w y → _ from fun y hy => ref8_Of b m d q y (hq.kept hy) (by omega))
      have HR1 := hidMk (fun y => region_RunG f t y hf ht)
      have HR2 := hidMk (fun y => ref8_Run f t y hf ht4 ht)
      have HJ1 := hidMk (fun v1 b c w (p : SetIs w v1 (nrm (ofR l))) (s : Sts w b [runL f t]) => region_Join1 v1 _ _ b c w p s g0 gr)
      have HJ2 := hidMk (fun v1 u1 w (p : LsIs w v1 (ofL l)) (s : LsIs w u1 (upsL f t)) => ref8_Join v1 u1 (ofL l) (upsL f t) w p s (by omega))
      generalize joinR (nrm (ofR l)) [runL f t] = A at *
      generalize joinL (ofL l) (upsL f t) = X at *
      generalize nrm (ofR q) = B at *
      generalize ofL q = Y at *
      have hX : X.length ≤ 4400 := by omega
      have hY : Y.length ≤ 400 := by omega
      have hA : A.length ≤ 401 := by omega
      have hBl : B.length ≤ 400 := by omega
      have gA : Gd A := ⟨SA.1, by omega⟩
      have gB : Gd B := ⟨SB.1, by omega⟩
      have lj := (join_one SA.1 SB.1).2.2
      have oj := joinL_len Y X
      have om := meetL_len X Y
      have ol := lessL_len X Y
      have HAJ := hidMk (fun v u x y (p : SetIs y v (joinR A [B])) (s : LsIs y u (joinL X Y)) => law8_alike v u _ _ x y p s (SA.join SB) ⟨(SA.join SB).1, by omega⟩ (by omega))
      have HAM := hidMk (fun v u x y (p : SetIs y v (meet A B)) (s : LsIs y u (meetL X Y)) => law8_alike v u _ _ x y p s (SA.meet SB) (meet_gd SA.1 SB.1 (by omega)) (by omega))
      have HAL := hidMk (fun v u x y (p : SetIs y v (less A B)) (s : LsIs y u (lessL X Y)) => law8_alike v u _ _ x y p s (SA.less SB) (less_gd SA.1 SB.1 (by omega)) (by omega))
      have HAA := hidMk (fun v u x y (p : SetIs y v A) (s : LsIs y u X) => law8_alike v u _ _ x y p s SA gA (by omega))
      have HAB := hidMk (fun v u x y (p : SetIs y v B) (s : LsIs y u Y) => law8_alike v u _ _ x y p s SB gB (by omega))
      have HRJ := hidMk (fun v u w (p : LsIs w v X) (s : LsIs w u Y) => ref8_Join v u X Y w p s (by omega))
      have HRM := hidMk (fun v u w (p : LsIs w v X) (s : LsIs w u Y) => ref8_Meet v u X Y w p s (by omega))
      have HRL := hidMk (fun v u w (p : LsIs w v X) (s : LsIs w u Y) => ref8_Less v u X Y w p s (by omega))
      obtain ⟨eq, heq⟩ : ∃ eq, decide (X = Y) = eq := ⟨_, rfl⟩
      have HS1 := hidMk (fun v u w (p : SetIs w v A) (s : SetIs w u B) => region_SameG v u A B w p s (by omega) (by omega) eq ((same_dec SA SB).trans heq))
      have HS2 := hidMk (fun v u w (p : SetIs w v A) (s : SetIs w u A) => region_SameG v u A A w p s (by omega) (by omega) true (decide_eq_true rfl))
      have HIN := hidMk (show ∀ a b n m c d w, Sl .i64 w a n X → Sl .i64 w b m Y → Calls Try.prog 21 #[.slice a n c, .slice b m d] w fun e w' => e = .returned (.bool eq) ∧ Kept w w' from fun a b n m c d w p s => by have := ref_Ints a b n m c d X Y w p s; rw [heq] at this; exact this)
      have heqb : (eq == eq) = true := by cases eq <;> rfl
      clear S0 SR SA SB hs hq hI hJ hf ht hb l0 o0 lr ur lB oB lA oA g0 gr hX hY hA hBl lj oj om ol heq hln hlm
      go_enter Try.func4, Try.ntmps4
      go_wp2_with fail
      refine (HLO.out _).mono ?_
      rintro e w0 ⟨rfl, hw0⟩
      rw [hw0]
      go_wp2_with fail
      refine HO1.out.mono ?_
      rintro e w1 ⟨v1, rfl, s1, k1⟩
      go_wp2_with fail
      refine (HR1.out _).mono ?_
      rintro e w2 ⟨v2, rfl, ⟨ra, rc, rfl, rr, rg, rn⟩, k2⟩
      have s2 : SetIs w2 (.agg #[.slice ra (runL f t).length rc]) (runL f t) := ⟨ra, rc, rfl, rr, rg, rn⟩
      clear rr rg rn
      go_wp2_with fail
      refine (HJ1.out _ _ _ _ (SetIs.kept (by assumption) (by (repeat (first | (with_reducible exact Kept.refl _) | (with_reducible refine Kept.alloc ?_ _) | (with_reducible refine Kept.drew ?_) | (with_reducible refine Kept.drewN ?_ _) | (with_reducible refine Kept.trans ?_ (by assumption)))))) (by (apply sts_one (v := .slice ra (runL f t).length rc) (l := runL f t); exact (SetIs.kept (by assumption) (by (repeat (first | (with_reducible exact Kept.refl _) | (with_reducible refine Kept.alloc ?_ _) | (with_reducible refine Kept.drew ?_) | (with_reducible refine Kept.drewN ?_ _) | (with_reducible refine Kept.trans ?_ (by assumption)))))); (repeat (first | (with_reducible exact Kept.refl _) | (with_reducible refine Kept.alloc ?_ _) | (with_reducible refine Kept.drew ?_) | (with_reducible refine Kept.drewN ?_ _) | (with_reducible refine Kept.trans ?_ (by assumption)))); first | rfl | (simp; done)))).mono ?_
      rintro e w3 ⟨v3, rfl, ⟨a1, c1, rfl, r3, g3, n3⟩, k3⟩
      have s3 : SetIs w3 (.agg #[.slice a1 A.length c1]) A := ⟨a1, c1, rfl, r3, g3, n3⟩
      clear r3 g3 n3 s1 s2
      obtain ⟨p1, hp1⟩ : ∃ p1, w3.heap.size = p1 := ⟨_, rfl⟩
      go_wp2_with fail
      refine (HO2.out _ (by (repeat (first | (with_reducible exact Kept.refl _) | (with_reducible refine Kept.alloc ?_ _) | (with_reducible refine Kept.drew ?_) | (with_reducible refine Kept.drewN ?_ _) | (with_reducible refine Kept.trans ?_ (by assumption)))))).mono ?_
      rintro e w4 ⟨v4, rfl, ⟨a2, c2, rfl, r4, g4, n4⟩, k4⟩
      have s4 : SetIs w4 (.agg #[.slice a2 B.length c2]) B := ⟨a2, c2, rfl, r4, g4, n4⟩
      have x41 := k4.cellp (new_cell hp1 _ _)
      clear r4 g4 n4
      obtain ⟨p2, hp2⟩ : ∃ p2, w4.heap.size = p2 := ⟨_, rfl⟩
      go_wp2_with fail
      refine (HP1.out _ (by (repeat (first | (with_reducible exact Kept.refl _) | (with_reducible refine Kept.alloc ?_ _) | (with_reducible refine Kept.drew ?_) | (with_reducible refine Kept.drewN ?_ _) | (with_reducible refine Kept.trans ?_ (by assumption)))))).mono ?_
      rintro e w5 ⟨v5, rfl, s5, k5⟩
      have x51 := k5.cellp (((Kept.refl w4).alloc _).cellp x41)
      have x52 := k5.cellp (new_cell hp2 _ _)
      clear x41
      go_wp2_with fail
      refine (HR2.out _).mono ?_
      rintro e w6 ⟨v6, rfl, s6, k6⟩
      go_wp2_with fail
      refine (HJ2.out _ _ _ (LsIs.kept (by assumption) (by (repeat (first | (with_reducible exact Kept.refl _) | (with_reducible refine Kept.alloc ?_ _) | (with_reducible refine Kept.drew ?_) | (with_reducible refine Kept.drewN ?_ _) | (with_reducible refine Kept.trans ?_ (by assumption)))))) (LsIs.kept (by assumption) (by (repeat (first | (with_reducible exact Kept.refl _) | (with_reducible refine Kept.alloc ?_ _) | (with_reducible refine Kept.drew ?_) | (with_reducible refine Kept.drewN ?_ _) | (with_reducible refine Kept.trans ?_ (by assumption))))))).mono ?_
      rintro e w7 ⟨v7, rfl, ⟨a3, c3, rfl, r7⟩, k7⟩
      have s7 : LsIs w7 (.agg #[.slice a3 X.length c3]) X := ⟨a3, c3, rfl, r7⟩
      have x71 := k7.cellp (k6.cellp x51)
      have x72 := k7.cellp (k6.cellp x52)
      clear x51 x52 s5 s6
      obtain ⟨p3, hp3⟩ : ∃ p3, w7.heap.size = p3 := ⟨_, rfl⟩
      go_wp2_with fail
      refine (HP2.out _ (by (repeat (first | (with_reducible exact Kept.refl _) | (with_reducible refine Kept.alloc ?_ _) | (with_reducible refine Kept.drew ?_) | (with_reducible refine Kept.drewN ?_ _) | (with_reducible refine Kept.trans ?_ (by assumption)))))).mono ?_
      rintro e w8 ⟨v8, rfl, ⟨a4, c4, rfl, r8⟩, k8⟩
      have s8 : LsIs w8 (.agg #[.slice a4 Y.length c4]) Y := ⟨a4, c4, rfl, r8⟩
      have x81 := k8.cellp (((Kept.refl w7).alloc _).cellp x71)
      have x82 := k8.cellp (((Kept.refl w7).alloc _).cellp x72)
      have x83 := k8.cellp (new_cell hp3 _ _)
      clear x71 x72
      obtain ⟨p4, hp4⟩ : ∃ p4, w8.heap.size = p4 := ⟨_, rfl⟩
      go_wp2_with fail
      refine gen_world (f := fun W => Code.wp _ _ _ _ W) (fun W => SetIs W (.agg #[.slice a1 A.length c1]) A ∧ SetIs W (.agg #[.slice a2 B.length c2]) B ∧ LsIs W (.agg #[.slice a3 X.length c3]) X ∧ LsIs W (.agg #[.slice a4 Y.length c4]) Y ∧ Sl .i64 W a3 X.length X ∧ Sl .i64 W a4 Y.length Y ∧ W.cell? ⟨p1, 0, none⟩ = some (.slice a1 A.length c1) ∧ W.cell? ⟨p2, 0, none⟩ = some (.slice a2 B.length c2) ∧ W.cell? ⟨p3, 0, none⟩ = some (.slice a3 X.length c3) ∧ W.cell? ⟨p4, 0, none⟩ = some (.slice a4 Y.length c4) ∧ Kept w W) ⟨(SetIs.kept (by assumption) (by (repeat (first | (with_reducible exact Kept.refl _) | (with_reducible refine Kept.alloc ?_ _) | (with_reducible refine Kept.drew ?_) | (with_reducible refine Kept.drewN ?_ _) | (with_reducible refine Kept.trans ?_ (by assumption)))))), (SetIs.kept (by assumption) (by (repeat (first | (with_reducible exact Kept.refl _) | (with_reducible refine Kept.alloc ?_ _) | (with_reducible refine Kept.drew ?_) | (with_reducible refine Kept.drewN ?_ _) | (with_reducible refine Kept.trans ?_ (by assumption)))))), (LsIs.kept (by assumption) (by (repeat (first | (with_reducible exact Kept.refl _) | (with_reducible refine Kept.alloc ?_ _) | (with_reducible refine Kept.drew ?_) | (with_reducible refine Kept.drewN ?_ _) | (with_reducible refine Kept.trans ?_ (by assumption)))))), (LsIs.kept (by assumption) (by (repeat (first | (with_reducible exact Kept.refl _) | (with_reducible refine Kept.alloc ?_ _) | (with_reducible refine Kept.drew ?_) | (with_reducible refine Kept.drewN ?_ _) | (with_reducible refine Kept.trans ?_ (by assumption)))))), (Sl.kept (by assumption) (by (repeat (first | (with_reducible exact Kept.refl _) | (with_reducible refine Kept.alloc ?_ _) | (with_reducible refine Kept.drew ?_) | (with_reducible refine Kept.drewN ?_ _) | (with_reducible refine Kept.trans ?_ (by assumption)))))), (Sl.kept (by assumption) (by (repeat (first | (with_reducible exact Kept.refl _) | (with_reducible refine Kept.alloc ?_ _) | (with_reducible refine Kept.drew ?_) | (with_reducible refine Kept.drewN ?_ _) | (with_reducible refine Kept.trans ?_ (by assumption)))))), ((Kept.refl w8).alloc _).cellp x81, ((Kept.refl w8).alloc _).cellp x82, ((Kept.refl w8).alloc _).cellp x83, new_cell hp4 _ _, by (repeat (first | (with_reducible exact Kept.refl _) | (with_reducible refine Kept.alloc ?_ _) | (with_reducible refine Kept.drew ?_) | (with_reducible refine Kept.drewN ?_ _) | (with_reducible refine Kept.trans ?_ (by assumption))))⟩ ?_
      rintro W ⟨t1, t2, t3, t4, t5, t6, hX1, hX2, hX3, hX4, hKW⟩
      have HKW := hidMk hKW
      clear hKW k1 k2 k3 k4 k5 k6 k7 k8 s3 s4 s7 s8 r7 r8 x81 x82 x83 HO1 HO2 HP1 HP2 HR1 HR2 HJ1 HJ2 hp1 hp2 hp3 hp4
      go_cut [71] from 40 to 70 (fun r W2 => r = .bool false ∧ Kept W W2)
      case first =>
        go_region_held3 (fun w' => w'.cell? ⟨p1, 0, none⟩ = some (.slice a1 A.length c1) ∧ w'.cell? ⟨p2, 0, none⟩ = some (.slice a2 B.length c2) ∧ w'.cell? ⟨p3, 0, none⟩ = some (.slice a3 X.length c3) ∧ w'.cell? ⟨p4, 0, none⟩ = some (.slice a4 Y.length c4)) (first | assumption | (refine ⟨Kept.cellp ?_ hX1, Kept.cellp ?_ hX2, Kept.cellp ?_ hX3, Kept.cellp ?_ hX4⟩ <;> (repeat (first | (with_reducible exact Kept.refl _) | (with_reducible refine Kept.alloc ?_ _) | (with_reducible refine Kept.drew ?_) | (with_reducible refine Kept.drewN ?_ _) | (with_reducible refine Kept.trans ?_ (by assumption))))) | go_keep)
          (first
            | (go_at_call 14; go_must (refine (region_Join1 _ A B _ _ _ (SetIs.kept (by assumption) (by (repeat (first | (with_reducible exact Kept.refl _) | (with_reducible refine Kept.alloc ?_ _) | (with_reducible refine Kept.drew ?_) | (with_reducible refine Kept.drewN ?_ _) | (with_reducible refine Kept.trans ?_ (by assumption)))))) (by (apply sts_one (v := .slice a2 B.length c2) (l := B); exact (SetIs.kept (by assumption) (by (repeat (first | (with_reducible exact Kept.refl _) | (with_reducible refine Kept.alloc ?_ _) | (with_reducible refine Kept.drew ?_) | (with_reducible refine Kept.drewN ?_ _) | (with_reducible refine Kept.trans ?_ (by assumption)))))); (repeat (first | (with_reducible exact Kept.refl _) | (with_reducible refine Kept.alloc ?_ _) | (with_reducible refine Kept.drew ?_) | (with_reducible refine Kept.drewN ?_ _) | (with_reducible refine Kept.trans ?_ (by assumption)))); first | rfl | (simp; done))) gA gB).mono ?_); rintro e w5 ⟨v5, rfl, s5, k5⟩)
            | (go_at_call 15; go_must (refine (HRJ.out _ _ _ (LsIs.kept (by assumption) (by (repeat (first | (with_reducible exact Kept.refl _) | (with_reducible refine Kept.alloc ?_ _) | (with_reducible refine Kept.drew ?_) | (with_reducible refine Kept.drewN ?_ _) | (with_reducible refine Kept.trans ?_ (by assumption)))))) (LsIs.kept (by assumption) (by (repeat (first | (with_reducible exact Kept.refl _) | (with_reducible refine Kept.alloc ?_ _) | (with_reducible refine Kept.drew ?_) | (with_reducible refine Kept.drewN ?_ _) | (with_reducible refine Kept.trans ?_ (by assumption))))))).mono ?_); rintro e w5 ⟨v5, rfl, s5, k5⟩)
            | (go_at_call 16; go_must (refine (region_MeetG _ _ A B _ (SetIs.kept (by assumption) (by (repeat (first | (with_reducible exact Kept.refl _) | (with_reducible refine Kept.alloc ?_ _) | (with_reducible refine Kept.drew ?_) | (with_reducible refine Kept.drewN ?_ _) | (with_reducible refine Kept.trans ?_ (by assumption)))))) (SetIs.kept (by assumption) (by (repeat (first | (with_reducible exact Kept.refl _) | (with_reducible refine Kept.alloc ?_ _) | (with_reducible refine Kept.drew ?_) | (with_reducible refine Kept.drewN ?_ _) | (with_reducible refine Kept.trans ?_ (by assumption)))))) gA gB).mono ?_); rintro e w5 ⟨v5, rfl, s5, k5⟩)
            | (go_at_call 17; go_must (refine (HRM.out _ _ _ (LsIs.kept (by assumption) (by (repeat (first | (with_reducible exact Kept.refl _) | (with_reducible refine Kept.alloc ?_ _) | (with_reducible refine Kept.drew ?_) | (with_reducible refine Kept.drewN ?_ _) | (with_reducible refine Kept.trans ?_ (by assumption)))))) (LsIs.kept (by assumption) (by (repeat (first | (with_reducible exact Kept.refl _) | (with_reducible refine Kept.alloc ?_ _) | (with_reducible refine Kept.drew ?_) | (with_reducible refine Kept.drewN ?_ _) | (with_reducible refine Kept.trans ?_ (by assumption))))))).mono ?_); rintro e w5 ⟨v5, rfl, s5, k5⟩)
            | (go_at_call 18; go_must (refine (region_LessG _ _ A B _ (SetIs.kept (by assumption) (by (repeat (first | (with_reducible exact Kept.refl _) | (with_reducible refine Kept.alloc ?_ _) | (with_reducible refine Kept.drew ?_) | (with_reducible refine Kept.drewN ?_ _) | (with_reducible refine Kept.trans ?_ (by assumption)))))) (SetIs.kept (by assumption) (by (repeat (first | (with_reducible exact Kept.refl _) | (with_reducible refine Kept.alloc ?_ _) | (with_reducible refine Kept.drew ?_) | (with_reducible refine Kept.drewN ?_ _) | (with_reducible refine Kept.trans ?_ (by assumption)))))) gA gB).mono ?_); rintro e w5 ⟨v5, rfl, s5, k5⟩)
            | (go_at_call 19; go_must (refine (HRL.out _ _ _ (LsIs.kept (by assumption) (by (repeat (first | (with_reducible exact Kept.refl _) | (with_reducible refine Kept.alloc ?_ _) | (with_reducible refine Kept.drew ?_) | (with_reducible refine Kept.drewN ?_ _) | (with_reducible refine Kept.trans ?_ (by assumption)))))) (LsIs.kept (by assumption) (by (repeat (first | (with_reducible exact Kept.refl _) | (with_reducible refine Kept.alloc ?_ _) | (with_reducible refine Kept.drew ?_) | (with_reducible refine Kept.drewN ?_ _) | (with_reducible refine Kept.trans ?_ (by assumption))))))).mono ?_); rintro e w5 ⟨v5, rfl, s5, k5⟩)
            | (go_at_call 9; go_must (first | (refine (HAJ.out _ _ _ _ (SetIs.kept (by assumption) (by (repeat (first | (with_reducible exact Kept.refl _) | (with_reducible refine Kept.alloc ?_ _) | (with_reducible refine Kept.drew ?_) | (with_reducible refine Kept.drewN ?_ _) | (with_reducible refine Kept.trans ?_ (by assumption)))))) (LsIs.kept (by assumption) (by (repeat (first | (with_reducible exact Kept.refl _) | (with_reducible refine Kept.alloc ?_ _) | (with_reducible refine Kept.drew ?_) | (with_reducible refine Kept.drewN ?_ _) | (with_reducible refine Kept.trans ?_ (by assumption))))))).mono ?_) | (refine (HAM.out _ _ _ _ (SetIs.kept (by assumption) (by (repeat (first | (with_reducible exact Kept.refl _) | (with_reducible refine Kept.alloc ?_ _) | (with_reducible refine Kept.drew ?_) | (with_reducible refine Kept.drewN ?_ _) | (with_reducible refine Kept.trans ?_ (by assumption)))))) (LsIs.kept (by assumption) (by (repeat (first | (with_reducible exact Kept.refl _) | (with_reducible refine Kept.alloc ?_ _) | (with_reducible refine Kept.drew ?_) | (with_reducible refine Kept.drewN ?_ _) | (with_reducible refine Kept.trans ?_ (by assumption))))))).mono ?_) | (refine (HAL.out _ _ _ _ (SetIs.kept (by assumption) (by (repeat (first | (with_reducible exact Kept.refl _) | (with_reducible refine Kept.alloc ?_ _) | (with_reducible refine Kept.drew ?_) | (with_reducible refine Kept.drewN ?_ _) | (with_reducible refine Kept.trans ?_ (by assumption)))))) (LsIs.kept (by assumption) (by (repeat (first | (with_reducible exact Kept.refl _) | (with_reducible refine Kept.alloc ?_ _) | (with_reducible refine Kept.drew ?_) | (with_reducible refine Kept.drewN ?_ _) | (with_reducible refine Kept.trans ?_ (by assumption))))))).mono ?_)); rintro e w5 ⟨rfl, k5⟩))
        all_goals (try go_wp2_with fail)
        all_goals go_meet
        all_goals exact ⟨rfl, by (repeat (first | (with_reducible exact Kept.refl _) | (with_reducible refine Kept.alloc ?_ _) | (with_reducible refine Kept.drew ?_) | (with_reducible refine Kept.drewN ?_ _) | (with_reducible refine Kept.trans ?_ (by assumption))))⟩
      case rest =>
        obtain ⟨rfl, hk2⟩ := hcut
        have y1 := hk2.cellp hX1
        have y2 := hk2.cellp hX2
        have y3 := hk2.cellp hX3
        have y4 := hk2.cellp hX4
        have b1 := t1.kept hk2
        have b2 := t2.kept hk2
        have b3 := t3.kept hk2
        have b4 := t4.kept hk2
        have b5 := t5.kept hk2
        have b6 := t6.kept hk2
        have HK2 := hidMk (HKW.out.trans hk2)
        clear hX1 hX2 hX3 hX4 t1 t2 t3 t4 t5 t6 hk2 HKW
        go_wp2_with fail
        go_region_held3 (fun w' => w'.cell? ⟨p1, 0, none⟩ = some (.slice a1 A.length c1) ∧ w'.cell? ⟨p2, 0, none⟩ = some (.slice a2 B.length c2) ∧ w'.cell? ⟨p3, 0, none⟩ = some (.slice a3 X.length c3) ∧ w'.cell? ⟨p4, 0, none⟩ = some (.slice a4 Y.length c4)) (first | assumption | (refine ⟨Kept.cellp ?_ y1, Kept.cellp ?_ y2, Kept.cellp ?_ y3, Kept.cellp ?_ y4⟩ <;> (repeat (first | (with_reducible exact Kept.refl _) | (with_reducible refine Kept.alloc ?_ _) | (with_reducible refine Kept.drew ?_) | (with_reducible refine Kept.drewN ?_ _) | (with_reducible refine Kept.trans ?_ (by assumption))))) | go_keep)
          (first
            | (go_at_call 20; go_must (first | (refine (HS1.out _ _ _ (SetIs.kept (by assumption) (by (repeat (first | (with_reducible exact Kept.refl _) | (with_reducible refine Kept.alloc ?_ _) | (with_reducible refine Kept.drew ?_) | (with_reducible refine Kept.drewN ?_ _) | (with_reducible refine Kept.trans ?_ (by assumption)))))) (SetIs.kept (by assumption) (by (repeat (first | (with_reducible exact Kept.refl _) | (with_reducible refine Kept.alloc ?_ _) | (with_reducible refine Kept.drew ?_) | (with_reducible refine Kept.drewN ?_ _) | (with_reducible refine Kept.trans ?_ (by assumption))))))).mono ?_) | (refine (HS2.out _ _ _ (SetIs.kept (by assumption) (by (repeat (first | (with_reducible exact Kept.refl _) | (with_reducible refine Kept.alloc ?_ _) | (with_reducible refine Kept.drew ?_) | (with_reducible refine Kept.drewN ?_ _) | (with_reducible refine Kept.trans ?_ (by assumption)))))) (SetIs.kept (by assumption) (by (repeat (first | (with_reducible exact Kept.refl _) | (with_reducible refine Kept.alloc ?_ _) | (with_reducible refine Kept.drew ?_) | (with_reducible refine Kept.drewN ?_ _) | (with_reducible refine Kept.trans ?_ (by assumption))))))).mono ?_)); rintro e w5 ⟨rfl, k5⟩)
            | (go_at_call 21; go_must (refine (HIN.out _ _ _ _ _ _ _ (Sl.kept (by assumption) (by (repeat (first | (with_reducible exact Kept.refl _) | (with_reducible refine Kept.alloc ?_ _) | (with_reducible refine Kept.drew ?_) | (with_reducible refine Kept.drewN ?_ _) | (with_reducible refine Kept.trans ?_ (by assumption)))))) (Sl.kept (by assumption) (by (repeat (first | (with_reducible exact Kept.refl _) | (with_reducible refine Kept.alloc ?_ _) | (with_reducible refine Kept.drew ?_) | (with_reducible refine Kept.drewN ?_ _) | (with_reducible refine Kept.trans ?_ (by assumption))))))).mono ?_); rintro e w5 ⟨rfl, k5⟩)
            | (go_at_call 9; go_must (first | (refine (HAA.out _ _ _ _ (SetIs.kept (by assumption) (by (repeat (first | (with_reducible exact Kept.refl _) | (with_reducible refine Kept.alloc ?_ _) | (with_reducible refine Kept.drew ?_) | (with_reducible refine Kept.drewN ?_ _) | (with_reducible refine Kept.trans ?_ (by assumption)))))) (LsIs.kept (by assumption) (by (repeat (first | (with_reducible exact Kept.refl _) | (with_reducible refine Kept.alloc ?_ _) | (with_reducible refine Kept.drew ?_) | (with_reducible refine Kept.drewN ?_ _) | (with_reducible refine Kept.trans ?_ (by assumption))))))).mono ?_) | (refine (HAB.out _ _ _ _ (SetIs.kept (by assumption) (by (repeat (first | (with_reducible exact Kept.refl _) | (with_reducible refine Kept.alloc ?_ _) | (with_reducible refine Kept.drew ?_) | (with_reducible refine Kept.drewN ?_ _) | (with_reducible refine Kept.trans ?_ (by assumption)))))) (LsIs.kept (by assumption) (by (repeat (first | (with_reducible exact Kept.refl _) | (with_reducible refine Kept.alloc ?_ _) | (with_reducible refine Kept.drew ?_) | (with_reducible refine Kept.drewN ?_ _) | (with_reducible refine Kept.trans ?_ (by assumption))))))).mono ?_)); rintro e w5 ⟨rfl, k5⟩)
            | (go_at_call 8; refine (HKN.out _).mono ?_; rintro e w5 ⟨rfl, k5⟩))
        all_goals
          go_wp2_with fail
          go_ret
          exact ⟨rfl, HK2.out.trans (by (repeat (first | (with_reducible exact Kept.refl _) | (with_reducible refine Kept.alloc ?_ _) | (with_reducible refine Kept.drew ?_) | (with_reducible refine Kept.drewN ?_ _) | (with_reducible refine Kept.trans ?_ (by assumption)))))⟩
end Go.Proofs.Ythbogpnkdlbilaa
