/- DimsNil: a catalogue that is not there. -/
import Derived.Test.YtlcjnldkldkffaaLawDims2
import Derived.Test.YtlcjnldkldkffaaRefDims12B
import Derived.Test.YtlcjnldkldkffaaDims14
namespace Go.Proofs.Ytlcjnldkldkffaa
open Go.RowKit Go.Maps
set_option linter.unusedSimpArgs false
set_option linter.unusedVariables false

theorem nil_DMany (w : World) : Calls Try.prog 9 #[.pointer none] w fun e w' => e = .returned (.int .i64 0) ∧ w' = w := by
  go_enter Try.func9, Try.ntmps9
  go_wp2_with fail
  go_ret
  exact ⟨rfl, rfl⟩
theorem nil_DTree (k : Int) (w : World) : Calls Try.prog 16 #[.pointer none, .int .i64 k] w fun e w' => e = .returned (.pointer none) ∧ w' = w := by
  have H := hidMk nil_DMany
  by_cases h1 : k < 0
  · go_enter Try.func16, Try.ntmps16
    go_wp2_with fail
    go_ret
    exact ⟨rfl, rfl⟩
  · have h2 : (0 : Int) ≤ k := by omega
    go_enter Try.func16, Try.ntmps16
    go_wp2_with (go_at_call 9; refine (H.out _).mono ?_; rintro e w1 ⟨rfl, rfl⟩)
    go_ret
    exact ⟨rfl, rfl⟩
theorem nil_DFind (s : ByteArray) (w : World) : Calls Try.prog 10 #[.pointer none, .string s] w fun e w' => e = .returned (.int .i64 (-1)) ∧ Kept w w' := by
  go_enter Try.func10, Try.ntmps10
  go_wp2_with fail
  go_ret
  exact ⟨rfl, by first | exact Kept.refl _ | exact (Kept.refl _).alloc _⟩
theorem nil_DMeas (s : ByteArray) (w : World) : Calls Try.prog 13 #[.pointer none, .string s] w fun e w' => e = .returned (.int .i64 (-1)) ∧ w' = w := by
  go_enter Try.func13, Try.ntmps13
  go_wp2_with fail
  go_ret
  exact ⟨rfl, rfl⟩
theorem nil_DCat (w : World) : Calls Try.prog 15 #[.pointer none] w fun e w' => e = .returned (.agg #[.slice none 0 0, .slice none 0 0, .int .i64 0, .int .i64 0]) ∧ Kept w w' := by
  go_enter Try.func15, Try.ntmps15
  go_wp2_with fail
  refine cat_rets w.heap.size _ _ _ _ (fun j v hv => ?_) rfl rfl ⟨rfl, by first | exact (Kept.refl _).alloc _ | skip⟩
  have : j = 0 ∨ j = 1 ∨ j = 2 ∨ j = 3 := by have := (List.getElem?_eq_some_iff.1 hv).1; simp at this; omega
  rcases this with rfl | rfl | rfl | rfl <;> (simp at hv; subst hv; simp)
theorem nil_DCell (s : ByteArray) (xa : Option Addr) (xn xc : Nat) (w : World) : Calls Try.prog 20 #[.pointer none, .string s, .slice xa xn xc] w fun e w' => e = .returned (.tuple #[.agg #[.int .i64 0, .int .i64 0, .int .i64 0, .int .i64 0, .int .i64 0], .int .i64 1]) ∧ Kept w w' := by
  go_enter Try.func20, Try.ntmps20
  go_wp2_with fail
  refine cell_rets w.heap.size (.int .i64 0) (.int .i64 0) (.int .i64 0) (.int .i64 0) (.int .i64 0) rfl rfl rfl (by simp) (by simp) (by simp) (by simp) (by simp) ⟨rfl, by first | exact (Kept.refl _).alloc _ | skip⟩
theorem nil_DRight (c0 c1 c2 c3 c4 : Value) (w : World) : Calls Try.prog 22 #[.pointer none, .agg #[c0, c1, c2, c3, c4]] w fun e w' => e = .returned (.bool false) ∧ Kept w w' := by
  have hg : decide ((true : Bool) = false) = false := by decide
  go_enter Try.func22, Try.ntmps22
  go_wp2_with fail
  go_quiet (fail)
  go_wp2_with fail
  go_ret
  exact ⟨rfl, by first | exact (Kept.refl _).alloc _ | exact ((Kept.refl _).alloc _).drewN _ | exact ((Kept.refl _).alloc _).drew⟩
theorem nil_DShow (c0 c1 c2 c3 c4 : Value) (w : World) : Calls Try.prog 21 #[.pointer none, .agg #[c0, c1, c2, c3, c4]] w fun e w' => e = .returned (.string ⟨#[]⟩) ∧ Kept w w' := by
  have H := hidMk (nil_DRight c0 c1 c2 c3 c4)
  go_enter Try.func21, Try.ntmps21
  go_wp2_with fail
  refine (H.out _).mono ?_
  rintro e w1 ⟨rfl, k1⟩
  go_wp2_with fail
  go_ret
  exact ⟨rfl, ((Kept.refl _).alloc _).trans k1⟩
theorem nil_DLeaf (c0 c1 c2 c3 c4 : Value) (w : World) : Calls Try.prog 23 #[.pointer none, .agg #[c0, c1, c2, c3, c4]] w fun e w' => e = .returned (.bool false) ∧ Kept w w' := by
  have H := hidMk (nil_DRight c0 c1 c2 c3 c4)
  go_enter Try.func23, Try.ntmps23
  go_wp2_with fail
  refine (H.out _).mono ?_
  rintro e w1 ⟨rfl, k1⟩
  go_wp2_with fail
  go_ret
  exact ⟨rfl, ((Kept.refl _).alloc _).trans k1⟩
theorem dss_none (w : World) : Dss w none 0 [] (fun _ => (none, 0, 0)) := ⟨rfl, Nat.zero_le _, fun k hk => absurd hk (by omega), fun k hk => absurd hk (by omega), fun hp => absurd hp (by omega)⟩
theorem ss_none (w : World) : Ss w none 0 [] := ⟨rfl, Nat.zero_le _, fun hp => absurd hp (by omega)⟩
set_option maxHeartbeats 4000000 in
set_option maxRecDepth 100000 in
theorem law_DimsNil (s : ByteArray) (k : Int) (w : World) : Calls Try.prog 4 #[.string s, .int .i64 k] w fun e w' => e = .returned (.bool true) ∧ Kept w w' := by
  have H1 := hidMk nil_DMany
  have H2 := hidMk nil_DTree
  have H3 := hidMk nil_DFind
  have H4 := hidMk nil_DMeas
  have H5 := hidMk nil_DCat
  have H6 := hidMk nil_DCell
  have H7 := hidMk nil_DRight
  have H8 := hidMk nil_DShow
  have H9 := hidMk nil_DLeaf
  have HS := hidMk (fun (W : World) => ref6_Same none none 0 0 0 [] (fun _ => (none, 0, 0)) (fun _ => (none, 0, 0)) none none 0 0 0 [] 0 0 W (dss_none W) (dss_none W) (ss_none W) (ss_none W))
  have HKN := hidMk law6_known
  have q1 : ((⟨#[]⟩ : ByteArray).toList == (⟨#[]⟩ : ByteArray).toList) = true := by simp
  go_enter Try.func4, Try.ntmps4
  go_wp2_with fail
  refine (H6.out _ _ _ _ _).mono ?_
  rintro e w1 ⟨rfl, k1⟩
  have K1 := hidMk (show Kept w w1 from ((Kept.refl w).alloc _).trans k1)
  clear k1
  go_wp2_with fail
  refine (H5.out _).mono ?_
  rintro e w2 ⟨rfl, k2⟩
  have K2 := hidMk (show Kept w w2 from (K1.out.alloc _).trans k2)
  clear k2 K1
  go_wp2_with fail
  refine (HS.out _).mono ?_
  rintro e w3 ⟨rfl, k3⟩
  have K3 := hidMk (K2.out.trans k3)
  clear k3 K2
  go_wp2_with (first | (go_at_call 9; refine (H1.out _).mono ?_; rintro e w4 ⟨rfl, rfl⟩) | (go_at_call 16; refine (H2.out _ _).mono ?_; rintro e w4 ⟨rfl, rfl⟩))
  refine (H3.out _ _).mono ?_
  rintro e w5 ⟨rfl, k5⟩
  have K5 := hidMk (K3.out.trans k5)
  clear k5 K3
  go_wp2_with (first | (go_at_call 13; refine (H4.out _ _).mono ?_; rintro e w6 ⟨rfl, rfl⟩))
  refine (H8.out _ _ _ _ _ _).mono ?_
  rintro e w7 ⟨rfl, k7⟩
  have K7 := hidMk (K5.out.trans k7)
  clear k7 K5
  go_wp2_with fail
  refine (H7.out _ _ _ _ _ _).mono ?_
  rintro e w8 ⟨rfl, k8⟩
  have K8 := hidMk (K7.out.trans k8)
  clear k8 K7
  go_wp2_with fail
  refine (H9.out _ _ _ _ _ _).mono ?_
  rintro e w9 ⟨rfl, k9⟩
  have K9 := hidMk (K8.out.trans k9)
  clear k9 K8
  go_wp2_with fail
  refine (HKN.out _).mono ?_
  rintro e w10 ⟨rfl, k10⟩
  have K10 := hidMk (K9.out.trans k10)
  clear k10 K9
  go_wp2_with fail
  go_ret
  exact ⟨rfl, K10.out⟩
end Go.Proofs.Ytlcjnldkldkffaa
