/- region: the parts of a set (the law RegionWhole). -/
import Derived.Test.YthbogpnkdlbilaaReg11
namespace Go.Proofs.Ythbogpnkdlbilaa
open Go.RowKit Go.Maps
set_option linter.unusedSimpArgs false
set_option linter.unusedVariables false

theorem same_of {l : List Int} (h : ∀ x, x ∈ l → isI x) : SameSet (nrm (ofR l)) (ofL l) := by
  obtain ⟨g1, g2, _⟩ := nrm_is (ofR_ok h)
  obtain ⟨o1, o2⟩ := ofL_is l
  exact ⟨g1, o1, fun x => by rw [g2, inR_ofR, o2]⟩
theorem nrm_len {l : List Int} (h : ∀ x, x ∈ l → isI x) : (nrm (ofR l)).length ≤ l.length := by
  obtain ⟨_, _, g3⟩ := nrm_is (ofR_ok h)
  have := ofR_len l
  omega
theorem meet_gd {l m : List Rn} (h : Norm l) (g : Norm m) (hl : l.length + m.length ≤ 10000) : Gd (meet l m) := ⟨(meet_is l m h g).1, by have := meet_len l m; omega⟩
theorem less_gd {l m : List Rn} (h : Norm l) (g : Norm m) (hl : l.length + m.length + 1 ≤ 10000) : Gd (less l m) := ⟨(less_is h g).1, by have := meet_len l (oth 0 m); have := oth_len m 0; unfold less; omega⟩
theorem SameSet.ge {l : List Rn} {s : List Int} (h : SameSet l s) (hg : Gd l) (hs : s.length ≤ 100000) : Ge l := ⟨hg, by rw [h.all]; exact hs⟩
theorem meet_nil_of {l m : List Rn} (h : Norm l) (g : Norm m) (hx : ∀ x, ¬ (inR l x ∧ inR m x)) : meet l m = [] := by
  obtain ⟨a1, a2, _⟩ := meet_is l m h g
  exact norm_ext a1 norm_nil fun x => by rw [a2]; exact ⟨fun e => absurd e (hx x), fun e => absurd e (inR_nil x)⟩
theorem join_one {l m : List Rn} (h : Norm l) (g : Norm m) : Norm (joinR l [m]) ∧ (∀ x, inR (joinR l [m]) x ↔ inR l x ∨ inR m x) ∧ (joinR l [m]).length ≤ l.length + m.length := by
  have hok : ∀ r, r ∈ catL l [m] → okR r := fun r hr => by
    rcases catL_mem.1 hr with e | ⟨t, ht, e⟩
    · exact h.ok r e
    · rw [List.mem_singleton.1 ht] at e; exact g.ok r e
  obtain ⟨a1, a2, a3⟩ := nrm_is hok
  refine ⟨a1, fun x => ?_, by have : (catL l [m]).length = l.length + m.length := by simp [catL]
                              unfold joinR; omega⟩
  rw [joinR, a2, catL_in]
  simp
theorem whole_join {l m : List Rn} (h : Norm l) (g : Norm m) : joinR (less l m) [meet l m] = l := by
  obtain ⟨a1, a2⟩ := less_is h g
  obtain ⟨b1, b2, _⟩ := meet_is l m h g
  obtain ⟨c1, c2, _⟩ := join_one a1 b1
  refine norm_ext c1 h fun x => ?_
  rw [c2, a2, b2]
  by_cases e : inR m x
  · exact ⟨fun k => k.elim (fun k => k.1) (fun k => k.1), fun k => .inr ⟨k, e⟩⟩
  · exact ⟨fun k => k.elim (fun k => k.1) (fun k => k.1), fun k => .inl ⟨k, e⟩⟩
theorem whole_apart {l m : List Rn} (h : Norm l) (g : Norm m) : meet (less l m) (meet l m) = [] := by
  obtain ⟨a1, a2⟩ := less_is h g
  obtain ⟨b1, b2, _⟩ := meet_is l m h g
  exact meet_nil_of a1 b1 fun x ⟨e1, e2⟩ => ((a2 x).1 e1).2 ((b2 x).1 e2).2
theorem region_SameD (v v2 : Value) (l m : List Rn) (w : World) (h : SetIs w v l) (g : SetIs w v2 m) (hl : Gd l) (hm : Gd m) (e : l = m) :
    Calls Try.prog 20 #[v, v2] w fun e w' => e = .returned (.bool true) ∧ Kept w w' :=
  region_SameG v v2 l m w h g (by have := hl.2; omega) (by have := hm.2; omega) true (decide_eq_true e)
/-- A set that is the only one of a row. -/
theorem sts_one {X W : World} {N : Nat} {v : Value} {t : TypeId} {l : List Rn} (hs : SetIs W (.agg #[v]) l) (k : Kept (X.alloc (.cells #[v] t)) W) (hN : X.heap.size = N) : Sts W (some ⟨N, 0, none⟩) [l] :=
  ⟨fun _ => ⟨N, 0, rfl, Nat.lt_of_lt_of_le (by simp [hN]) k.size, fun i hi => by
    have hi0 : i = 0 := by simp at hi; omega
    subst hi0
    exact ⟨v, k.cellp (new_cell hN _ _), hs⟩⟩⟩
theorem region_Join1 (v : Value) (l m : List Rn) (b : Option Addr) (c : Nat) (w : World) (h : SetIs w v l) (hs : Sts w b [m]) (hl : Gd l) (hm : Gd m) :
    Calls Try.prog 14 #[v, .slice b 1 c] w fun e w' => ∃ v', e = .returned v' ∧ SetIs w' v' (joinR l [m]) ∧ Kept w w' :=
  region_JoinG v l b 1 c [m] w h hs rfl hl (fun t ht => by rw [List.mem_singleton.1 ht]; exact hm) (by have := hl.2; have := hm.2; simp [catL]; omega) (by simp)
set_option maxHeartbeats 8000000 in
set_option maxRecDepth 100000 in
theorem law8_whole (a b : Option Addr) (n m c d : Nat) (l t : List Int) (w : World) (hs : Sl .i64 w a n l) (ht : Sl .i64 w b m t) (hI : ∀ x, x ∈ l → isI x) (hJ : ∀ x, x ∈ t → isI x) :
    Calls Try.prog 5 #[.slice a n c, .slice b m d] w fun e w' => e = .returned (.bool true) ∧ Kept w w' := by
  have HKN := hidMk law8_known
  have hln := hs.len
  have hlm := ht.len
  by_cases h1 : n ≤ 400
  · by_cases h2 : m ≤ 400
    · have SA := same_of hI
      have SB := same_of hJ
      have lA := nrm_len hI
      have lB := nrm_len hJ
      have HO1 := hidMk (region_OfG a n c l w hs hI (by omega))
      have HO2 := hidMk (show ∀ y, Kept w y → _ from fun y hy => region_OfG b m d t y (ht.kept hy) hJ (by omega))
      have oA := ofL_len l
      have oB := ofL_len t
      generalize nrm (ofR l) = A at *
      generalize nrm (ofR t) = B at *
      have gA : Gd A := ⟨SA.1, by omega⟩
      have gB : Gd B := ⟨SB.1, by omega⟩
      have gX : Gd (less A B) := less_gd SA.1 SB.1 (by omega)
      have gY : Gd (meet A B) := meet_gd SA.1 SB.1 (by omega)
      have SX := SA.less SB
      have SY := SA.meet SB
      have hpl := parts_len (ofL l) (ofL t)
      have eA : Ge A := SA.ge gA (by omega)
      have eX : Ge (less A B) := SX.ge gX (by omega)
      have eY : Ge (meet A B) := SY.ge gY (by omega)
      have eN : Ge [] := ⟨⟨norm_nil, by simp⟩, by simp [expd]⟩
      have HW := hidMk (whole_join SA.1 SB.1)
      have HV := hidMk (whole_apart SA.1 SB.1)
      have HMA := hidMk SA.many
      have HMX := hidMk SX.many
      have HMY := hidMk SY.many
      have HMN := hidMk (show manyZ [] = 0 from rfl)
      clear SA SB SX SY hs ht hI hJ lA lB
      generalize (ofL l).length = nA at *
      generalize (lessL (ofL l) (ofL t)).length = nX at *
      generalize (meetL (ofL l) (ofL t)).length = nY at *
      have hadd : ((nX : Int) + (nY : Int)) = (nA : Int) := by omega
      have hadd2 : IntKind.i64.wrap ((nX : Int) + (nY : Int)) = (nA : Int) := by rw [IntKind.wrap_i64]; omega
      have hgt1 : ¬ (400 : Int) < (n : Int) := by omega
      have hgt2 : ¬ (400 : Int) < (m : Int) := by omega
      have HADD := hidMk hadd
      clear hadd hpl
      go_enter Try.func5, Try.ntmps5
      go_wp2_with fail
      refine HO1.out.mono ?_
      rintro e w1 ⟨v1, rfl, ⟨a1, c1, rfl, r1, g1, n1⟩, k1⟩
      have s1 : SetIs w1 (.agg #[.slice a1 A.length c1]) A := ⟨a1, c1, rfl, r1, g1, n1⟩
      clear r1 g1 n1
      go_wp2_with fail
      refine (HO2.out _ (k1.alloc _)).mono ?_
      rintro e w2 ⟨v2, rfl, ⟨a2, c2, rfl, r2, g2, n2⟩, k2⟩
      have s2 : SetIs w2 (.agg #[.slice a2 B.length c2]) B := ⟨a2, c2, rfl, r2, g2, n2⟩
      have x21 := k2.cellp (new_cell rfl _ _)
      clear r2 g2 n2
      have x21' := fun o => ((Kept.refl w2).alloc o).cellp x21
      go_wp2_with fail
      refine (region_LessG _ _ _ _ _ (SetIs.kept (by assumption) (by (repeat (first | exact Kept.refl _ | refine Kept.alloc ?_ _ | refine Kept.drew ?_ | refine Kept.drewN ?_ _ | refine Kept.trans ?_ (by assumption))))) (SetIs.kept (by assumption) (by (repeat (first | exact Kept.refl _ | refine Kept.alloc ?_ _ | refine Kept.drew ?_ | refine Kept.drewN ?_ _ | refine Kept.trans ?_ (by assumption))))) gA gB).mono ?_
      rintro e w3 ⟨v3, rfl, ⟨a3, c3, rfl, r3, g3, n3⟩, k3⟩
      have s3 : SetIs w3 (.agg #[.slice a3 (less A B).length c3]) (less A B) := ⟨a3, c3, rfl, r3, g3, n3⟩
      have x31 := k3.cellp (x21' _)
      have x32 := k3.cellp (new_cell rfl _ _)
      clear r3 g3 n3 x21'
      have x31' := fun o => ((Kept.refl w3).alloc o).cellp x31
      have x32' := fun o => ((Kept.refl w3).alloc o).cellp x32
      go_wp2_with fail
      refine (region_MeetG _ _ _ _ _ (SetIs.kept (by assumption) (by (repeat (first | exact Kept.refl _ | refine Kept.alloc ?_ _ | refine Kept.drew ?_ | refine Kept.drewN ?_ _ | refine Kept.trans ?_ (by assumption))))) (SetIs.kept (by assumption) (by (repeat (first | exact Kept.refl _ | refine Kept.alloc ?_ _ | refine Kept.drew ?_ | refine Kept.drewN ?_ _ | refine Kept.trans ?_ (by assumption))))) gA gB).mono ?_
      rintro e w4 ⟨v4, rfl, ⟨a4, c4, rfl, r4, g4, n4⟩, k4⟩
      have s4 : SetIs w4 (.agg #[.slice a4 (meet A B).length c4]) (meet A B) := ⟨a4, c4, rfl, r4, g4, n4⟩
      have x41 := k4.cellp (x31' _)
      have x43 := k4.cellp (new_cell rfl _ _)
      clear r4 g4 n4 x31' x32' x32
      go_wp2_with fail
      refine gen_world (f := fun W => Code.wp _ _ _ _ W) (fun W => SetIs W (.agg #[.slice a1 A.length c1]) A ∧ SetIs W (.agg #[.slice a3 (less A B).length c3]) (less A B) ∧ SetIs W (.agg #[.slice a4 (meet A B).length c4]) (meet A B) ∧ W.cell? ⟨w1.heap.size, 0, none⟩ = some (.slice a1 A.length c1) ∧ W.cell? ⟨w3.heap.size, 0, none⟩ = some (.slice a3 (less A B).length c3) ∧ W.cell? ⟨w4.heap.size, 0, none⟩ = some (.slice a4 (meet A B).length c4) ∧ Kept w W) ⟨(SetIs.kept (by assumption) (by (repeat (first | exact Kept.refl _ | refine Kept.alloc ?_ _ | refine Kept.drew ?_ | refine Kept.drewN ?_ _ | refine Kept.trans ?_ (by assumption))))), (SetIs.kept (by assumption) (by (repeat (first | exact Kept.refl _ | refine Kept.alloc ?_ _ | refine Kept.drew ?_ | refine Kept.drewN ?_ _ | refine Kept.trans ?_ (by assumption))))), (SetIs.kept (by assumption) (by (repeat (first | exact Kept.refl _ | refine Kept.alloc ?_ _ | refine Kept.drew ?_ | refine Kept.drewN ?_ _ | refine Kept.trans ?_ (by assumption))))), ((Kept.refl w4).alloc _).cellp x41, ((Kept.refl w4).alloc _).cellp x43, new_cell rfl _ _, by (repeat (first | exact Kept.refl _ | refine Kept.alloc ?_ _ | refine Kept.drew ?_ | refine Kept.drewN ?_ _ | refine Kept.trans ?_ (by assumption)))⟩ ?_
      rintro W ⟨t1, t3, t4, hX1, hX3, hX4, hKW⟩
      have HKW := hidMk hKW
      clear hKW k1 k2 k3 k4 s1 s2 s3 s4 x21 x31 x41 x43 HO1 HO2
      generalize (less A B) = X at *
      generalize (meet A B) = Y at *
      go_region_held3 (fun w' => w'.cell? ⟨w1.heap.size, 0, none⟩ = some (.slice a1 A.length c1) ∧ w'.cell? ⟨w3.heap.size, 0, none⟩ = some (.slice a3 X.length c3) ∧ w'.cell? ⟨w4.heap.size, 0, none⟩ = some (.slice a4 Y.length c4)) (first | assumption | (refine ⟨Kept.cellp ?_ hX1, Kept.cellp ?_ hX3, Kept.cellp ?_ hX4⟩ <;> (repeat (first | exact Kept.refl _ | refine Kept.alloc ?_ _ | refine Kept.drew ?_ | refine Kept.drewN ?_ _ | refine Kept.trans ?_ (by assumption)))) | go_keep)
        (first
          | (go_at_call 14; go_must (refine (region_Join1 _ _ _ _ _ _ (SetIs.kept (by assumption) (by (repeat (first | exact Kept.refl _ | refine Kept.alloc ?_ _ | refine Kept.drew ?_ | refine Kept.drewN ?_ _ | refine Kept.trans ?_ (by assumption))))) (by (apply sts_one (v := .slice a4 Y.length c4) (l := Y); exact (SetIs.kept (by assumption) (by (repeat (first | exact Kept.refl _ | refine Kept.alloc ?_ _ | refine Kept.drew ?_ | refine Kept.drewN ?_ _ | refine Kept.trans ?_ (by assumption))))); (repeat (first | exact Kept.refl _ | refine Kept.alloc ?_ _ | refine Kept.drew ?_ | refine Kept.drewN ?_ _ | refine Kept.trans ?_ (by assumption))); first | rfl | simp)) (by assumption) (by assumption)).mono ?_); rintro e w5 ⟨v5, rfl, s5, k5⟩; rw [HW.out] at s5)
          | (go_at_call 20; go_must (refine (region_SameD _ _ _ _ _ (SetIs.kept (by assumption) (by (repeat (first | exact Kept.refl _ | refine Kept.alloc ?_ _ | refine Kept.drew ?_ | refine Kept.drewN ?_ _ | refine Kept.trans ?_ (by assumption))))) (SetIs.kept (by assumption) (by (repeat (first | exact Kept.refl _ | refine Kept.alloc ?_ _ | refine Kept.drew ?_ | refine Kept.drewN ?_ _ | refine Kept.trans ?_ (by assumption))))) (by assumption) (by assumption) (by first | rfl | assumption)).mono ?_); rintro e w5 ⟨rfl, k5⟩)
          | (go_at_call 16; go_must (refine (region_MeetG _ _ _ _ _ (SetIs.kept (by assumption) (by (repeat (first | exact Kept.refl _ | refine Kept.alloc ?_ _ | refine Kept.drew ?_ | refine Kept.drewN ?_ _ | refine Kept.trans ?_ (by assumption))))) (SetIs.kept (by assumption) (by (repeat (first | exact Kept.refl _ | refine Kept.alloc ?_ _ | refine Kept.drew ?_ | refine Kept.drewN ?_ _ | refine Kept.trans ?_ (by assumption))))) (by assumption) (by assumption)).mono ?_); rintro e w5 ⟨v5, rfl, s5, k5⟩; rw [HV.out] at s5)
          | (go_at_call 22; go_must (refine (region_ManyG _ _ _ (SetIs.kept (by assumption) (by (repeat (first | exact Kept.refl _ | refine Kept.alloc ?_ _ | refine Kept.drew ?_ | refine Kept.drewN ?_ _ | refine Kept.trans ?_ (by assumption))))) (by assumption) _ (by first | exact HMA.out | exact HMX.out | exact HMY.out | exact HMN.out)).mono ?_); rintro e w5 ⟨rfl, k5⟩)
          | (go_at_call 8; refine (HKN.out _).mono ?_; rintro e w5 ⟨rfl, k5⟩))
      all_goals
        go_wp2_with fail
        go_ret
        exact ⟨rfl, HKW.out.trans (by (repeat (first | exact Kept.refl _ | refine Kept.alloc ?_ _ | refine Kept.drew ?_ | refine Kept.drewN ?_ _ | refine Kept.trans ?_ (by assumption))))⟩
    · have hgt1 : ¬ (400 : Int) < (n : Int) := by omega
      have hgt2 : (400 : Int) < (m : Int) := by omega
      clear hs ht hI hJ
      go_enter Try.func5, Try.ntmps5
      go_wp2_with (go_at_call 8; refine (HKN.out _).mono ?_; rintro e w5 ⟨rfl, k5⟩)
      go_ret
      exact ⟨rfl, k5⟩
  · have hgt1 : (400 : Int) < (n : Int) := by omega
    clear hs ht hI hJ
    go_enter Try.func5, Try.ntmps5
    go_wp2_with (go_at_call 8; refine (HKN.out _).mono ?_; rintro e w5 ⟨rfl, k5⟩)
    go_ret
    exact ⟨rfl, k5⟩
end Go.Proofs.Ythbogpnkdlbilaa
