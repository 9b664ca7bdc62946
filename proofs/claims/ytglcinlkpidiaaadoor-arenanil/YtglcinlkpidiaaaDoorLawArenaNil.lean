/- ArenaNil: an arena that is not there. -/
import Derived.Test.YtglcinlkpidiaaaDoorArKnown
namespace Go.Proofs.YtglcinlkpidiaaaDoor
open Go.RowKit
set_option linter.unusedSimpArgs false
set_option linter.unusedVariables false
theorem nil_Make (v : Value) (A : List Value) (hv : v = .agg A.toArray) (w : World) : Calls Tryd.prog 11 #[.pointer none, v] w fun e w' => e = .returned (.tuple #[.int .i64 0, .int .i64 1]) ∧ Kept w w' := by
  subst hv
  go_enter Tryd.func11, Tryd.ntmps11
  go_wp2_with fail
  go_ret2
  exact ⟨rfl, (Kept.refl w).alloc _⟩
/-- A new block of a node's cells is written. -/
theorem wpl_allocN2 {ops : Array Oper} {rest : List Oper} {o : Oper} {a : Act} {w : World} {Q : Exit → Act → World → Prop} (hg : o.guard = none) (ho : o.op = .alloc 42)
    (h : ∀ W b, Kept w W → W.there b 0 25 → w.heap.size ≤ b → wpList Tryd.prog ops Q rest (a.put o.dst (.pointer (some ⟨b, 0, none⟩))) W) : wpList Tryd.prog ops Q (o :: rest) a w :=
  wpl_allocN hg ho (h _ _ ((Kept.refl w).alloc _) (new_there _ _ _ _ (by rfl)) (Nat.le_refl _))
set_option maxHeartbeats 4000000 in
set_option maxRecDepth 100000 in
theorem law_ArenaNil (i : Int) (w : World) (hV : Vars w) : Calls Tryd.prog 6 #[.int .i64 i] w fun e w' => e = .returned (.bool true) ∧ Kept w w' := by
  have H1 := hidMk (fun W => nil_Make (ndV zNd) (ndL zNd) rfl W)
  have H2 := hidMk (nil_At i)
  have H3 := hidMk (nil_Keep i)
  have H4 := hidMk (nil_Drop i)
  have H5 := hidMk (nil_Refs i)
  have H6 := hidMk nil_Used
  have H7 := hidMk nil_Cap
  have HKN := hidMk (fun W (h : Kept w W) => law9_known W (hV.kept h))
  clear hV
  go_enter Tryd.func6, Tryd.ntmps6
  go_wp2_with (first | (refine wpl_buildZ rfl rfl ?_))
  refine (H1.out _).mono ?_
  rintro e w1 ⟨rfl, k1⟩
  have K1 := hidMk k1
  clear k1 H1
  go_wp2_with fail
  refine (H2.out _).mono ?_
  rintro e w2 ⟨rfl, k2⟩
  have K2 := hidMk (K1.out.trans k2)
  clear k2 H2 K1
  have HZL := hidMk (ndL_len zNd rfl rfl)
  have HZO := hidMk (ndL_one zNd)
  unfold ndV
  generalize ndL zNd = LZ at *
  go_wp2_with (first | (refine wpl_allocN2 rfl rfl ?_; intro W b kW tW bW) | (refine wpl_storeN rfl _ _ rfl _ _ rfl LZ HZL.out rfl HZO.out (by assumption) ?_))
  refine gen_world (f := fun W => Calls _ _ _ W _) (fun W => Kept w W) (kept_setCells (Nat.le_trans K2.out.size bW) _ _ (K2.out.trans kW)) ?_
  intro w3 k3
  have K3 := hidMk k3
  clear k3 kW tW K2 HZL HZO
  refine (H3.out _).mono ?_
  rintro e w4 ⟨rfl, rfl⟩
  go_wp2_with fail
  refine (H4.out _).mono ?_
  rintro e w5 ⟨rfl, k5⟩
  have K5 := hidMk (K3.out.trans k5)
  clear k5 K3
  go_wp2_with (first | (go_at_call 21; refine (H5.out _).mono ?_; rintro e w6 ⟨rfl, rfl⟩) | (go_at_call 19; refine (H6.out _).mono ?_; rintro e w6 ⟨rfl, rfl⟩) | (go_at_call 22; refine (H7.out _).mono ?_; rintro e w6 ⟨rfl, rfl⟩))
  refine (HKN.out _ K5.out).mono ?_
  rintro e w7 ⟨rfl, k7⟩
  have K7 := hidMk (K5.out.trans k7)
  clear k7
  go_wp2_with fail
  go_ret
  exact ⟨rfl, K7.out⟩
end Go.Proofs.YtglcinlkpidiaaaDoor
