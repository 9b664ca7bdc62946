/- region: what must come of fixed calls. -/
import Derived.Test.YthbogpnkdlbilaaReg9
import Derived.Test.YthbogpnkdlbilaaReg10
import Derived.Deep.DeepMust
namespace Go.Proofs.Ythbogpnkdlbilaa
open Go.RowKit Go.Maps
set_option linter.unusedSimpArgs false
set_option linter.unusedVariables false

theorem lit2 {X W : World} {N : Nat} (x y : Int) {t : TypeId} (k : Kept (X.alloc (.cells #[.int .i64 x, .int .i64 y] t)) W) (hN : X.heap.size = N) : Sl .i64 W (some ⟨N, 0, none⟩) 2 [x, y] := by
  subst hN
  exact (sl_new .i64 X [x, y] t (by unfold maxLen; simp)).kept k
theorem lit3 {X W : World} {N : Nat} (x y z : Int) {t : TypeId} (k : Kept (X.alloc (.cells #[.int .i64 x, .int .i64 y, .int .i64 z] t)) W) (hN : X.heap.size = N) : Sl .i64 W (some ⟨N, 0, none⟩) 3 [x, y, z] := by
  subst hN
  exact (sl_new .i64 X [x, y, z] t (by unfold maxLen; simp)).kept k
theorem ref_IntsT (a b : Option Addr) (n m c d : Nat) (x y : List Int) (w : World) (hx : Sl .i64 w a n x) (hy : Sl .i64 w b m y) (e : x = y) :
    Calls Try.prog 21 #[.slice a n c, .slice b m d] w fun e w' => e = .returned (.bool true) ∧ Kept w w' := by
  have := ref_Ints a b n m c d x y w hx hy
  rw [decide_eq_true e] at this
  exact this
/-- A set with not too many numbers. -/
def Ge (l : List Rn) : Prop := Gd l ∧ (expd l).length ≤ 100000
theorem region_AllG (v : Value) (l : List Rn) (w : World) (h : SetIs w v l) (g : Ge l) : Calls Try.prog 23 #[v] w (AllPost w (expd l)) :=
  region_All v l w h g.1.1 g.2 (by have := g.1.2; omega)
theorem region_ManyG (v : Value) (l : List Rn) (w : World) (h : SetIs w v l) (g : Ge l) (n : Int) (hn : manyZ l = n) : Calls Try.prog 22 #[v] w fun e w' => e = .returned (.int .i64 n) ∧ Kept w w' := by
  subst hn
  exact region_Many v l w h g.1.1 (by rw [manyZ_is g.1.1]; have := g.2; omega) (by have := g.1.2; omega)
theorem region_RunsG (v : Value) (l : List Rn) (w : World) (h : SetIs w v l) (n : Int) (hn : (l.length : Int) = n) : Calls Try.prog 24 #[v] w fun e w' => e = .returned (.int .i64 n) ∧ Kept w w' := by
  subst hn
  exact region_Runs v l w h
theorem kn_set : nrm (ofR [5, 1, 2, 2, -1]) = [(1, 2), (5, 5)] := by
  obtain ⟨g1, g2, _⟩ := nrm_is (l := ofR [5, 1, 2, 2, -1]) (ofR_ok (fun x hx => by simp at hx; unfold isI; omega))
  refine norm_ext g1 ⟨fun r hr => ?_, by decide⟩ fun x => ?_
  · simp at hr; unfold okR top; rcases hr with rfl | rfl <;> decide
  · rw [g2, inR_ofR, inR_cons, inR_cons]
    have n := inR_nil x
    simp only [List.mem_cons, List.not_mem_nil, or_false, n]
    omega
theorem kn_run : runL 0 4 = [(0, 3)] := by unfold runL; rw [if_neg (by decide)]; rfl
theorem gd_of {l : List Rn} (h1 : ∀ r, r ∈ l → okR r) (h2 : l.Pairwise fun r s => r.2 + 1 < s.1) (h3 : l.length ≤ 10000) : Gd l := ⟨⟨h1, h2⟩, h3⟩
theorem kn_gd1 : Ge [(1, 2), (5, 5)] := ⟨gd_of (fun r hr => by simp at hr; unfold okR top; rcases hr with rfl | rfl <;> decide) (by decide) (by decide), by decide⟩
theorem kn_gd2 : Ge [(0, 3)] := ⟨gd_of (fun r hr => by simp at hr; unfold okR top; subst hr; decide) (by simp) (by decide), by decide⟩
theorem kn_less : less [(0, 3)] [(1, 2), (5, 5)] = [(0, 0), (3, 3)] := by
  obtain ⟨g1, g2⟩ := less_is kn_gd2.1.1 kn_gd1.1.1
  refine norm_ext g1 ⟨fun r hr => ?_, by decide⟩ fun x => ?_
  · simp at hr; unfold okR top; rcases hr with rfl | rfl <;> decide
  · rw [g2, inR_cons, inR_cons, inR_cons, inR_cons, inR_cons]
    have n := inR_nil x
    simp only [n, or_false]
    omega
theorem kn_gd3 : Ge [(0, 0), (3, 3)] := ⟨gd_of (fun r hr => by simp at hr; unfold okR top; rcases hr with rfl | rfl <;> decide) (by decide) (by decide), by decide⟩
set_option maxHeartbeats 4000000 in
set_option maxRecDepth 100000 in
theorem law8_known (w : World) : Calls Try.prog 8 #[] w fun e w' => e = .returned (.bool true) ∧ Kept w w' := by
  have hsl := sl_new .i64 w [5, 1, 2, 2, -1] 3 (by unfold maxLen; simp)
  have HOF := hidMk (region_OfG _ _ 5 _ _ hsl (fun x hx => by simp at hx; unfold isI; omega) (by simp))
  rw [kn_set] at HOF
  clear hsl
  have e1 := kn_gd1
  have e2 := kn_gd2
  have e3 := kn_gd3
  have f1 := kn_gd1.1
  have f2 := kn_gd2.1
  have HQ1 := hidMk (show expd [(1, 2), (5, 5)] = [1, 2, 5] by decide)
  have HQ2 := hidMk (show expd [(0, 0), (3, 3)] = [0, 3] by decide)
  have HKL := hidMk kn_less
  have HKR := hidMk kn_run
  have HRUN := hidMk (fun W => region_RunG 0 4 W (by unfold isI; omega) (by unfold isI; omega))
  rw [kn_run] at HRUN
  go_enter Try.func8, Try.ntmps8
  go_wp2_with fail
  refine HOF.out.mono ?_
  rintro e w1 ⟨v1, rfl, hs1, k1⟩
  obtain ⟨a, c, rfl, r1, g1, n1⟩ := hs1
  have HK1 := hidMk (show Kept w w1 from ((Kept.refl w).alloc _).trans k1)
  have HS1 := hidMk (show ∀ y, Kept w1 y → SetIs y (.agg #[.slice a 2 c]) [(1, 2), (5, 5)] from fun y hy => ⟨a, c, rfl, r1.kept hy, g1, n1⟩)
  clear r1 g1 n1 k1 HOF
  go_wp2_with fail
  refine gen_world (f := fun W => Code.wp _ _ _ _ W) (fun W => SetIs W (.agg #[.slice a 2 c]) [(1, 2), (5, 5)] ∧ W.cell? ⟨w1.heap.size, 0, none⟩ = some (.slice a 2 c) ∧ Kept w W) ⟨HS1.out _ ((Kept.refl w1).alloc _), by simp, HK1.out.alloc _⟩ ?_
  rintro W ⟨hS, hX, hKW⟩
  have HKW := hidMk hKW
  clear hKW HS1 HK1
  go_region_held3 (fun w' => w'.cell? ⟨w1.heap.size, 0, none⟩ = some (.slice a 2 c)) (first | assumption | (refine Kept.cellp ?_ hX; (repeat (first | exact Kept.refl _ | refine Kept.alloc ?_ _ | refine Kept.drew ?_ | refine Kept.drewN ?_ _ | refine Kept.trans ?_ (by assumption)))) | go_keep)
    (first
      | (go_at_call 23; refine (region_AllG _ _ _ (SetIs.kept (by assumption) (by (repeat (first | exact Kept.refl _ | refine Kept.alloc ?_ _ | refine Kept.drew ?_ | refine Kept.drewN ?_ _ | refine Kept.trans ?_ (by assumption))))) (by assumption)).mono ?_; rintro e w5 ⟨a5, c5, rfl, hsl5, k5⟩)
      | (go_at_call 21; go_must (refine (ref_IntsT _ _ _ _ _ _ _ _ _ (Sl.kept (by assumption) (by (repeat (first | exact Kept.refl _ | refine Kept.alloc ?_ _ | refine Kept.drew ?_ | refine Kept.drewN ?_ _ | refine Kept.trans ?_ (by assumption))))) (by first | (apply lit3 1 2 5; (repeat (first | exact Kept.refl _ | refine Kept.alloc ?_ _ | refine Kept.drew ?_ | refine Kept.drewN ?_ _ | refine Kept.trans ?_ (by assumption))); first | rfl | simp) | (apply lit2 0 3; (repeat (first | exact Kept.refl _ | refine Kept.alloc ?_ _ | refine Kept.drew ?_ | refine Kept.drewN ?_ _ | refine Kept.trans ?_ (by assumption))); first | rfl | simp)) (by first | exact HQ1.out | exact HQ2.out)).mono ?_); rintro e w5 ⟨rfl, k5⟩)
      | (go_at_call 24; refine (region_RunsG _ _ _ (SetIs.kept (by assumption) (by (repeat (first | exact Kept.refl _ | refine Kept.alloc ?_ _ | refine Kept.drew ?_ | refine Kept.drewN ?_ _ | refine Kept.trans ?_ (by assumption))))) 2 (by rfl)).mono ?_; rintro e w5 ⟨rfl, k5⟩)
      | (go_at_call 12; refine (HRUN.out _).mono ?_; rintro e w5 ⟨v5, rfl, hs5, k5⟩)
      | (go_at_call 18; refine (region_LessG _ _ _ _ _ (SetIs.kept (by assumption) (by (repeat (first | exact Kept.refl _ | refine Kept.alloc ?_ _ | refine Kept.drew ?_ | refine Kept.drewN ?_ _ | refine Kept.trans ?_ (by assumption))))) (SetIs.kept (by assumption) (by (repeat (first | exact Kept.refl _ | refine Kept.alloc ?_ _ | refine Kept.drew ?_ | refine Kept.drewN ?_ _ | refine Kept.trans ?_ (by assumption))))) (by assumption) (by assumption)).mono ?_; rintro e w5 ⟨v5, rfl, hs5, k5⟩; rw [HKL.out] at hs5))
  all_goals
    go_wp2_with fail
    go_ret
    exact ⟨rfl, HKW.out.trans (by (repeat (first | exact Kept.refl _ | refine Kept.alloc ?_ _ | refine Kept.drew ?_ | refine Kept.drewN ?_ _ | refine Kept.trans ?_ (by assumption))))⟩
end Go.Proofs.Ythbogpnkdlbilaa
