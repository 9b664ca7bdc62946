/- region: sets of numbers, and runs (the law RegionMakes). -/
import Derived.Test.YthbogpnkdlbilaaLawRegionWhole
import Derived.Test.YthbogpnkdlbilaaReg12
import Derived.Test.YthbogpnkdlbilaaRefReg4
namespace Go.Proofs.Ythbogpnkdlbilaa
open Go.RowKit Go.Maps
set_option linter.unusedSimpArgs false
set_option linter.unusedVariables false

theorem law8_long (a : Option Addr) (n c : Nat) (f t : Int) (w : World) (b : Bool) (hb : b = decide (400 < n ∨ 4000 < f ∨ 4000 < t)) (hn : n ≤ maxLen) : Calls Try.prog 7 #[.slice a n c, .int .i64 f, .int .i64 t] w fun e w' => e = .returned (.bool b) ∧ w' = w := by
  unfold maxLen at hn
  by_cases h1 : 400 < n
  · rw [decide_eq_true (.inl h1)] at hb
    subst hb
    have h1' : (400 : Int) < (n : Int) := by omega
    go_enter Try.func7, Try.ntmps7
    go_wp2_with fail
    go_ret
    exact ⟨rfl, rfl⟩
  · have h1' : ¬ (400 : Int) < (n : Int) := by omega
    by_cases h2 : 4000 < f
    · rw [decide_eq_true (.inr (.inl h2))] at hb
      subst hb
      go_enter Try.func7, Try.ntmps7
      go_wp2_with fail
      go_ret
      exact ⟨rfl, rfl⟩
    · by_cases h3 : 4000 < t
      · rw [decide_eq_true (.inr (.inr h3))] at hb
        subst hb
        have h2' : f ≤ 4000 := by omega
        go_enter Try.func7, Try.ntmps7
        go_wp2_with fail
        go_ret
        exact ⟨rfl, rfl⟩
      · rw [decide_eq_false (by omega)] at hb
        subst hb
        have h2' : f ≤ 4000 := by omega
        have h3' : t ≤ 4000 := by omega
        go_enter Try.func7, Try.ntmps7
        go_wp2_with fail
        go_ret
        first | exact ⟨rfl, rfl⟩ | exact ⟨by simp; omega, rfl⟩
theorem region_HasG (v : Value) (l : List Rn) (x : Int) (w : World) (h : SetIs w v l) (g : Gd l) (b : Bool) (hb : b = true ↔ inR l x) : Calls Try.prog 25 #[v, .int .i64 x] w fun e w' => e = .returned (.bool b) ∧ Kept w w' :=
  region_Has v l x w h g.1 (by have := g.2; omega) b hb
set_option maxHeartbeats 8000000 in
set_option maxRecDepth 100000 in
theorem law8_alike (v u : Value) (L : List Rn) (S : List Int) (x : Int) (w : World) (h : SetIs w v L) (g : LsIs w u S) (hs : SameSet L S) (gL : Gd L) (hS : S.length ≤ 100000) :
    Calls Try.prog 9 #[v, u, .int .i64 x] w fun e w' => e = .returned (.bool true) ∧ Kept w w' := by
  obtain ⟨a, c, rfl, h1, h2, h3⟩ := h
  obtain ⟨a2, c2, rfl, g1⟩ := g
  have HA := hidMk (show ∀ y, Kept w y → SetIs y (.agg #[.slice a L.length c]) L from fun y hy => ⟨a, c, rfl, h1.kept hy, h2, h3⟩)
  have HB := hidMk (show ∀ y, Kept w y → LsIs y (.agg #[.slice a2 S.length c2]) S from fun y hy => ⟨a2, c2, rfl, g1.kept hy⟩)
  have HC := hidMk (show ∀ y, Kept w y → Sl .i64 y a2 S.length S from fun y hy => g1.kept hy)
  have eL : Ge L := hs.ge gL hS
  have HQ := hidMk hs.all
  have HM := hidMk hs.many
  have HR := hidMk (show (L.length : Int) = ((runsN S : Nat) : Int) by rw [hs.runs])
  have HI := hidMk (show ∀ x, x ∈ S → 0 ≤ x ∧ x ≤ 9223372036854775807 from fun x hx => hs.1.rng ((hs.2.2 x).2 hx))
  by_cases hx : x ∈ S
  · have HH := hidMk (fun v W (p : SetIs W v L) => region_HasG v L x W p gL true ⟨fun _ => (hs.2.2 x).2 hx, fun _ => rfl⟩)
    have HH2 := hidMk (fun u W (p : LsIs W u S) => ref8_Has u S x W p true (decide_eq_true hx))
    clear h1 h3 g1 hs hx
    go_enter Try.func9, Try.ntmps9
    go_wp2_with fail
    refine gen_world (f := fun W => Code.wp _ _ _ _ W) (fun W => SetIs W (.agg #[.slice a L.length c]) L ∧ LsIs W (.agg #[.slice a2 S.length c2]) S ∧ Sl .i64 W a2 S.length S ∧ W.cell? ⟨w.heap.size, 0, none⟩ = some (.slice a L.length c) ∧ W.cell? ⟨w.heap.size + 1, 0, none⟩ = some (.slice a2 S.length c2) ∧ Kept w W) ⟨HA.out _ (((Kept.refl w).alloc _).alloc _), HB.out _ (((Kept.refl w).alloc _).alloc _), HC.out _ (((Kept.refl w).alloc _).alloc _), ((Kept.refl _).alloc _).cellp (new_cell rfl _ _), new_cell (by simp) _ _, ((Kept.refl w).alloc _).alloc _⟩ ?_
    rintro W ⟨t1, t2, t3, hX1, hX2, hKW⟩
    have HKW := hidMk hKW
    clear hKW HA HB HC
    go_region_held3 (fun w' => w'.cell? ⟨w.heap.size, 0, none⟩ = some (.slice a L.length c) ∧ w'.cell? ⟨w.heap.size + 1, 0, none⟩ = some (.slice a2 S.length c2)) (first | assumption | (refine ⟨Kept.cellp ?_ hX1, Kept.cellp ?_ hX2⟩ <;> (repeat (first | (with_reducible exact Kept.refl _) | (with_reducible refine Kept.alloc ?_ _) | (with_reducible refine Kept.drew ?_) | (with_reducible refine Kept.drewN ?_ _) | (with_reducible refine Kept.trans ?_ (by assumption))))) | go_keep)
      (first
        | (go_at_call 23; go_must (refine (region_AllG _ _ _ (SetIs.kept (by assumption) (by (repeat (first | (with_reducible exact Kept.refl _) | (with_reducible refine Kept.alloc ?_ _) | (with_reducible refine Kept.drew ?_) | (with_reducible refine Kept.drewN ?_ _) | (with_reducible refine Kept.trans ?_ (by assumption)))))) eL).mono ?_); rintro e w5 ⟨a5, c5, rfl, hsl5, k5⟩)
        | (go_at_call 21; go_must (refine (ref_IntsT _ _ _ _ _ _ (expd L) S _ (Sl.kept (by assumption) (by (repeat (first | (with_reducible exact Kept.refl _) | (with_reducible refine Kept.alloc ?_ _) | (with_reducible refine Kept.drew ?_) | (with_reducible refine Kept.drewN ?_ _) | (with_reducible refine Kept.trans ?_ (by assumption)))))) (Sl.kept (by assumption) (by (repeat (first | (with_reducible exact Kept.refl _) | (with_reducible refine Kept.alloc ?_ _) | (with_reducible refine Kept.drew ?_) | (with_reducible refine Kept.drewN ?_ _) | (with_reducible refine Kept.trans ?_ (by assumption)))))) HQ.out).mono ?_); rintro e w5 ⟨rfl, k5⟩)
        | (go_at_call 22; go_must (refine (region_ManyG _ _ _ (SetIs.kept (by assumption) (by (repeat (first | (with_reducible exact Kept.refl _) | (with_reducible refine Kept.alloc ?_ _) | (with_reducible refine Kept.drew ?_) | (with_reducible refine Kept.drewN ?_ _) | (with_reducible refine Kept.trans ?_ (by assumption)))))) eL _ HM.out).mono ?_); rintro e w5 ⟨rfl, k5⟩)
        | (go_at_call 25; go_must (refine (HH.out _ _ (SetIs.kept (by assumption) (by (repeat (first | (with_reducible exact Kept.refl _) | (with_reducible refine Kept.alloc ?_ _) | (with_reducible refine Kept.drew ?_) | (with_reducible refine Kept.drewN ?_ _) | (with_reducible refine Kept.trans ?_ (by assumption))))))).mono ?_); rintro e w5 ⟨rfl, k5⟩)
        | (go_at_call 26; go_must (refine (HH2.out _ _ (LsIs.kept (by assumption) (by (repeat (first | (with_reducible exact Kept.refl _) | (with_reducible refine Kept.alloc ?_ _) | (with_reducible refine Kept.drew ?_) | (with_reducible refine Kept.drewN ?_ _) | (with_reducible refine Kept.trans ?_ (by assumption))))))).mono ?_); rintro e w5 ⟨rfl, k5⟩)
        | (go_at_call 24; go_must (refine (region_RunsG _ _ _ (SetIs.kept (by assumption) (by (repeat (first | (with_reducible exact Kept.refl _) | (with_reducible refine Kept.alloc ?_ _) | (with_reducible refine Kept.drew ?_) | (with_reducible refine Kept.drewN ?_ _) | (with_reducible refine Kept.trans ?_ (by assumption)))))) _ HR.out).mono ?_); rintro e w5 ⟨rfl, k5⟩)
        | (go_at_call 27; go_must (refine (ref8_Runs _ S _ (LsIs.kept (by assumption) (by (repeat (first | (with_reducible exact Kept.refl _) | (with_reducible refine Kept.alloc ?_ _) | (with_reducible refine Kept.drew ?_) | (with_reducible refine Kept.drewN ?_ _) | (with_reducible refine Kept.trans ?_ (by assumption)))))) HI.out hS).mono ?_); rintro e w5 ⟨rfl, k5⟩))
    all_goals
      go_wp2_with fail
      go_ret
      exact ⟨rfl, HKW.out.trans (by (repeat (first | (with_reducible exact Kept.refl _) | (with_reducible refine Kept.alloc ?_ _) | (with_reducible refine Kept.drew ?_) | (with_reducible refine Kept.drewN ?_ _) | (with_reducible refine Kept.trans ?_ (by assumption)))))⟩
  · have HH := hidMk (fun v W (p : SetIs W v L) => region_HasG v L x W p gL false ⟨fun e => (by cases e), fun e => absurd ((hs.2.2 x).1 e) hx⟩)
    have HH2 := hidMk (fun u W (p : LsIs W u S) => ref8_Has u S x W p false (decide_eq_false hx))
    clear h1 h3 g1 hs hx
    go_enter Try.func9, Try.ntmps9
    go_wp2_with fail
    refine gen_world (f := fun W => Code.wp _ _ _ _ W) (fun W => SetIs W (.agg #[.slice a L.length c]) L ∧ LsIs W (.agg #[.slice a2 S.length c2]) S ∧ Sl .i64 W a2 S.length S ∧ W.cell? ⟨w.heap.size, 0, none⟩ = some (.slice a L.length c) ∧ W.cell? ⟨w.heap.size + 1, 0, none⟩ = some (.slice a2 S.length c2) ∧ Kept w W) ⟨HA.out _ (((Kept.refl w).alloc _).alloc _), HB.out _ (((Kept.refl w).alloc _).alloc _), HC.out _ (((Kept.refl w).alloc _).alloc _), ((Kept.refl _).alloc _).cellp (new_cell rfl _ _), new_cell (by simp) _ _, ((Kept.refl w).alloc _).alloc _⟩ ?_
    rintro W ⟨t1, t2, t3, hX1, hX2, hKW⟩
    have HKW := hidMk hKW
    clear hKW HA HB HC
    go_region_held3 (fun w' => w'.cell? ⟨w.heap.size, 0, none⟩ = some (.slice a L.length c) ∧ w'.cell? ⟨w.heap.size + 1, 0, none⟩ = some (.slice a2 S.length c2)) (first | assumption | (refine ⟨Kept.cellp ?_ hX1, Kept.cellp ?_ hX2⟩ <;> (repeat (first | (with_reducible exact Kept.refl _) | (with_reducible refine Kept.alloc ?_ _) | (with_reducible refine Kept.drew ?_) | (with_reducible refine Kept.drewN ?_ _) | (with_reducible refine Kept.trans ?_ (by assumption))))) | go_keep)
      (first
        | (go_at_call 23; go_must (refine (region_AllG _ _ _ (SetIs.kept (by assumption) (by (repeat (first | (with_reducible exact Kept.refl _) | (with_reducible refine Kept.alloc ?_ _) | (with_reducible refine Kept.drew ?_) | (with_reducible refine Kept.drewN ?_ _) | (with_reducible refine Kept.trans ?_ (by assumption)))))) eL).mono ?_); rintro e w5 ⟨a5, c5, rfl, hsl5, k5⟩)
        | (go_at_call 21; go_must (refine (ref_IntsT _ _ _ _ _ _ (expd L) S _ (Sl.kept (by assumption) (by (repeat (first | (with_reducible exact Kept.refl _) | (with_reducible refine Kept.alloc ?_ _) | (with_reducible refine Kept.drew ?_) | (with_reducible refine Kept.drewN ?_ _) | (with_reducible refine Kept.trans ?_ (by assumption)))))) (Sl.kept (by assumption) (by (repeat (first | (with_reducible exact Kept.refl _) | (with_reducible refine Kept.alloc ?_ _) | (with_reducible refine Kept.drew ?_) | (with_reducible refine Kept.drewN ?_ _) | (with_reducible refine Kept.trans ?_ (by assumption)))))) HQ.out).mono ?_); rintro e w5 ⟨rfl, k5⟩)
        | (go_at_call 22; go_must (refine (region_ManyG _ _ _ (SetIs.kept (by assumption) (by (repeat (first | (with_reducible exact Kept.refl _) | (with_reducible refine Kept.alloc ?_ _) | (with_reducible refine Kept.drew ?_) | (with_reducible refine Kept.drewN ?_ _) | (with_reducible refine Kept.trans ?_ (by assumption)))))) eL _ HM.out).mono ?_); rintro e w5 ⟨rfl, k5⟩)
        | (go_at_call 25; go_must (refine (HH.out _ _ (SetIs.kept (by assumption) (by (repeat (first | (with_reducible exact Kept.refl _) | (with_reducible refine Kept.alloc ?_ _) | (with_reducible refine Kept.drew ?_) | (with_reducible refine Kept.drewN ?_ _) | (with_reducible refine Kept.trans ?_ (by assumption))))))).mono ?_); rintro e w5 ⟨rfl, k5⟩)
        | (go_at_call 26; go_must (refine (HH2.out _ _ (LsIs.kept (by assumption) (by (repeat (first | (with_reducible exact Kept.refl _) | (with_reducible refine Kept.alloc ?_ _) | (with_reducible refine Kept.drew ?_) | (with_reducible refine Kept.drewN ?_ _) | (with_reducible refine Kept.trans ?_ (by assumption))))))).mono ?_); rintro e w5 ⟨rfl, k5⟩)
        | (go_at_call 24; go_must (refine (region_RunsG _ _ _ (SetIs.kept (by assumption) (by (repeat (first | (with_reducible exact Kept.refl _) | (with_reducible refine Kept.alloc ?_ _) | (with_reducible refine Kept.drew ?_) | (with_reducible refine Kept.drewN ?_ _) | (with_reducible refine Kept.trans ?_ (by assumption)))))) _ HR.out).mono ?_); rintro e w5 ⟨rfl, k5⟩)
        | (go_at_call 27; go_must (refine (ref8_Runs _ S _ (LsIs.kept (by assumption) (by (repeat (first | (with_reducible exact Kept.refl _) | (with_reducible refine Kept.alloc ?_ _) | (with_reducible refine Kept.drew ?_) | (with_reducible refine Kept.drewN ?_ _) | (with_reducible refine Kept.trans ?_ (by assumption)))))) HI.out hS).mono ?_); rintro e w5 ⟨rfl, k5⟩))
    all_goals
      go_wp2_with fail
      go_ret
      exact ⟨rfl, HKW.out.trans (by (repeat (first | (with_reducible exact Kept.refl _) | (with_reducible refine Kept.alloc ?_ _) | (with_reducible refine Kept.drew ?_) | (with_reducible refine Kept.drewN ?_ _) | (with_reducible refine Kept.trans ?_ (by assumption)))))⟩
theorem same_run {f t : Int} (ht : isI t) : SameSet (runL f t) (upsL f t) := by
  obtain ⟨g1, g2⟩ := runL_is (f := f) ht
  obtain ⟨o1, o2, _⟩ := upsL_is f t
  exact ⟨g1, o1, fun x => by rw [g2, o2]⟩
theorem runL_len (f t : Int) : (runL f t).length ≤ 1 := by unfold runL; split <;> simp
set_option maxHeartbeats 4000000 in
theorem law8_makes (a : Option Addr) (n c : Nat) (l : List Int) (f t x : Int) (w : World) (hs : Sl .i64 w a n l) (hI : ∀ x, x ∈ l → isI x) (hf : isI f) (ht : isI t) :
    Calls Try.prog 3 #[.slice a n c, .int .i64 f, .int .i64 t, .int .i64 x] w fun e w' => e = .returned (.bool true) ∧ Kept w w' := by
  have HKN := hidMk law8_known
  have hln := hs.len
  by_cases hb : 400 < n ∨ 4000 < f ∨ 4000 < t
  · have HLO := hidMk (fun w => law8_long a n c f t w true (by simp [hb]) hs.big)
    clear hs hI hf ht hb
    go_enter Try.func3, Try.ntmps3
    go_wp2_with fail
    refine (HLO.out _).mono ?_
    rintro e w1 ⟨rfl, rfl⟩
    go_wp2_with fail
    refine (HKN.out _).mono ?_
    rintro e w2 ⟨rfl, k2⟩
    go_wp2_with fail
    go_ret
    exact ⟨rfl, k2⟩
  · have HLO := hidMk (fun w => law8_long a n c f t w false (by simp [hb]) hs.big)
    have hn4 : n ≤ 400 := by omega
    have ht4 : t ≤ 4000 := by omega
    have S1 := same_of hI
    have l1 := nrm_len hI
    have o1 := ofL_len l
    have S2 := same_run (f := f) ht
    have l2 := runL_len f t
    have u2 := (upsL_is f t).2.2
    have HO1 := hidMk (region_OfG a n c l w hs hI (by omega))
    have HO2 := hidMk (show ∀ y, Kept w y → _ from fun y hy => ref8_Of a n c l y (hs.kept hy) (by omega))
    have HR1 := hidMk (fun y => region_RunG f t y hf ht)
    have HR2 := hidMk (fun y => ref8_Run f t y hf ht4 ht)
    have HA1 := hidMk (fun v u y (p : SetIs y v (nrm (ofR l))) (q : LsIs y u (ofL l)) => law8_alike v u _ _ x y p q S1 ⟨S1.1, by omega⟩ (by omega))
    have HA2 := hidMk (fun v u y (p : SetIs y v (runL f t)) (q : LsIs y u (upsL f t)) => law8_alike v u _ _ x y p q S2 ⟨S2.1, by omega⟩ (by omega))
    clear S1 S2 hs hI hf ht hb l1 l2 o1 u2
    go_enter Try.func3, Try.ntmps3
    go_wp2_with fail
    refine (HLO.out _).mono ?_
    rintro e w0 ⟨rfl, rfl⟩
    go_wp2_with fail
    refine HO1.out.mono ?_
    rintro e w1 ⟨v1, rfl, s1, k1⟩
    go_wp2_with fail
    refine (HO2.out _ k1).mono ?_
    rintro e w2 ⟨v2, rfl, s2, k2⟩
    go_wp2_with fail
    refine (HA1.out _ _ _ (s1.kept k2) s2).mono ?_
    rintro e w3 ⟨rfl, k3⟩
    go_wp2_with fail
    refine (HR1.out _).mono ?_
    rintro e w4 ⟨v4, rfl, s4, k4⟩
    go_wp2_with fail
    refine (HR2.out _).mono ?_
    rintro e w5 ⟨v5, rfl, s5, k5⟩
    go_wp2_with fail
    refine (HA2.out _ _ _ (s4.kept k5) s5).mono ?_
    rintro e w6 ⟨rfl, k6⟩
    go_wp2_with fail
    refine (HKN.out _).mono ?_
    rintro e w7 ⟨rfl, k7⟩
    go_wp2_with fail
    go_ret
    exact ⟨rfl, by (repeat (first | (with_reducible exact Kept.refl _) | (with_reducible refine Kept.alloc ?_ _) | (with_reducible refine Kept.drew ?_) | (with_reducible refine Kept.drewN ?_ _) | (with_reducible refine Kept.trans ?_ (by assumption))))⟩
end Go.Proofs.Ythbogpnkdlbilaa
