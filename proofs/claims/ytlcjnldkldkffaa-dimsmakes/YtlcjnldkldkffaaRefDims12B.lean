/- The reference's Same, of texts that are the same. · The reference's Same, of catalogues that are the same. -/
import Derived.Test.YtlcjnldkldkffaaLawDims5B
namespace Go.Proofs.Ytlcjnldkldkffaa
open Go.RowKit Go.Maps
set_option linter.unusedSimpArgs false
set_option linter.unusedVariables false
set_option maxHeartbeats 1000000 in
theorem ref3_Same (a b : Option Addr) (n ca cb : Nat) (l : List ByteArray) (w : World) (hs : Ss w a n l) (ht : Ss w b n l) :
    Calls Try.prog 34 #[.slice a n ca, .slice b n cb] w fun e w' => e = .returned (.bool true) ∧ Kept w w' := by
  have HS := hidMk hs
  have HT := hidMk ht
  have hbig := hs.big
  unfold maxLen at hbig
  have hnn : ((n : Int) != (n : Int)) = false := by simp
  clear hs ht
  go_enter Try.func34, Try.ntmps34
  go_wp2_with fail
  go_loopg [5] n (fun g x wr => ∃ k : Nat, k + g = n ∧ x = .int .i64 k ∧ Kept w wr)
  case atStart => exact ⟨0, by omega, rfl, Kept.refl _⟩
  case round =>
    obtain ⟨k, hkg, rfl, hk⟩ := hrel
    have HKG := hidMk hkg
    have HK := hidMk hk
    by_cases hkn : k < n
    · obtain ⟨b1, o1, rfl, _, h1⟩ := (HS.out.kept hk).cells (by omega)
      obtain ⟨b2, o2, rfl, _, h2⟩ := (HT.out.kept hk).cells (by omega)
      have c1 := h1 k hkn
      have c2 := h2 k hkn
      have kn' : (k : Int) < n := by omega
      clear h1 h2 hk hkg
      generalize l.getD k ByteArray.empty = s at *
      have hz2 : (s.toList != s.toList) = false := by simp
      go_wp2_with fail
      go_quiet (fail)
      go_wp2_with fail
      go_roundg (gk - 1)
      case measure => have := HKG.out; omega
      case rel => exact ⟨k + 1, by have := HKG.out; omega, by go_num, HK.out.drewN _⟩
    · have kn' : ¬ ((k : Int) < (n : Int)) := by omega
      clear hk
      go_wp2_with fail
      go_ret
      exact ⟨rfl, HK.out⟩
end Go.Proofs.Ytlcjnldkldkffaa
namespace Go.Proofs.Ytlcjnldkldkffaa
open Go.RowKit Go.Maps
set_option linter.unusedSimpArgs false
set_option linter.unusedVariables false
set_option maxHeartbeats 4000000 in
set_option maxRecDepth 100000 in
theorem ref6_Same (a a' : Option Addr) (n c c' : Nat) (ds : List Dm) (na na' : Nat → Option Addr × Nat × Nat) (b b' : Option Addr) (m d d' : Nat) (ms : List ByteArray) (lv sc : Int) (w : World) (hs : Dss w a n ds na) (hs' : Dss w a' n ds na') (hm : Ss w b m ms) (hm' : Ss w b' m ms) :
    Calls Try.prog 14 #[.agg #[.slice a n c, .slice b m d, .int .i64 lv, .int .i64 sc], .agg #[.slice a' n c', .slice b' m d', .int .i64 lv, .int .i64 sc]] w fun e w' => e = .returned (.bool true) ∧ Kept w w' := by
  have HS := hidMk hs
  have HT := hidMk hs'
  have HSA := hidMk (show ∀ y, Kept w y → _ from fun y hy => ref3_Same b b' m d d' ms y (hm.kept hy) (hm'.kept hy))
  have hbig := hs.big
  unfold maxLen at hbig
  have q1 : ((n : Int) != (n : Int)) = false := by simp
  have q2 : (lv != lv) = false := by simp
  have q3 : (sc != sc) = false := by simp
  clear hs hs' hm hm'
  go_enter Try.func14, Try.ntmps14
  go_wp2_with fail
  refine (HSA.out _ (((Kept.refl w).alloc _).alloc _)).mono ?_
  rintro e w1 ⟨rfl, k1⟩
  have HK1 := hidMk (show Kept w w1 from (((Kept.refl w).alloc _).alloc _).trans k1)
  have y0 : w1.cell? ⟨w.heap.size, 0, none⟩ = some (.slice a n c) := k1.cellp (((Kept.refl _).alloc _).cellp (by simp))
  have y2 : w1.cell? ⟨w.heap.size, 2, none⟩ = some (.int .i64 lv) := k1.cellp (((Kept.refl _).alloc _).cellp (by simp))
  have y3 : w1.cell? ⟨w.heap.size, 3, none⟩ = some (.int .i64 sc) := k1.cellp (((Kept.refl _).alloc _).cellp (by simp))
  have z0 : w1.cell? ⟨w.heap.size + 1, 0, none⟩ = some (.slice a' n c') := k1.cellp (new_cell _ _ _ _ _ _ (by simp) rfl)
  have z2 : w1.cell? ⟨w.heap.size + 1, 2, none⟩ = some (.int .i64 lv) := k1.cellp (new_cell _ _ _ _ _ _ (by simp) rfl)
  have z3 : w1.cell? ⟨w.heap.size + 1, 3, none⟩ = some (.int .i64 sc) := k1.cellp (new_cell _ _ _ _ _ _ (by simp) rfl)
  clear k1 HSA
  go_wp2_with fail
  go_loopg [5] n (fun g x wr => ∃ k : Nat, k + g = n ∧ x = .int .i64 k ∧ Kept w1 wr)
  case atStart => exact ⟨0, by omega, rfl, Kept.refl _⟩
  case round =>
    obtain ⟨k, hkg, rfl, hk⟩ := hrel
    have HKG := hidMk hkg
    have HK := hidMk hk
    have u0 := hk.cellp y0
    have v0 := hk.cellp z0
    by_cases hkn : k < n
    · have kw := HK1.out.trans hk
      obtain ⟨b1, o1, rfl, _, h1⟩ := (HS.out.kept kw).cells (by omega)
      obtain ⟨b2, o2, rfl, _, h2⟩ := (HT.out.kept kw).cells (by omega)
      obtain ⟨c1, c2⟩ := h1 k hkn
      obtain ⟨e1, e2⟩ := h2 k hkn
      have N1 := (HS.out.kept kw).nds k hkn
      have N2 := (HT.out.kept kw).nds k hkn
      have kn' : (k : Int) < n := by omega
      clear h1 h2 hk hkg kw
      generalize na k = x1 at *
      generalize na' k = x2 at *
      obtain ⟨p1, p2, p3⟩ := x1
      obtain ⟨r1, r2, r3⟩ := x2
      simp only [slv] at c2 e2 N1 N2
      have hr : r2 = p2 := N2.len.symm.trans N1.len
      subst hr
      have hpb := N1.big
      unfold maxLen at hpb
      generalize dmL ds k = L at *
      generalize dmN ds k = s at *
      have HN1 := hidMk N1
      have HN2 := hidMk N2
      have q4 : (s.toList != s.toList) = false := by simp
      have q5 : ((r2 : Int) != (r2 : Int)) = false := by simp
      have c1' := fun o => ((Kept.refl wr).alloc o).cellp c1
      have c2' := fun o => ((Kept.refl wr).alloc o).cellp c2
      have e1' := fun o => ((Kept.refl wr).alloc o).cellp e1
      have e2' := fun o => ((Kept.refl wr).alloc o).cellp e2
      have v0' := fun o => ((Kept.refl wr).alloc o).cellp v0
      clear N1 N2
      obtain ⟨gi, hgi⟩ : ∃ gi, gi = gk := ⟨_, rfl⟩
      subst hgi
      go_wp2_with fail
      refine gen_world (f := fun W => Code.wp _ _ _ _ W) (fun W => Kept wr W ∧ W.cell? ⟨wr.heap.size, 1, none⟩ = some (.slice p1 r2 p3) ∧ W.cell? ⟨wr.heap.size + 1, 1, none⟩ = some (.slice r1 r2 r3)) ⟨((Kept.refl wr).alloc _).alloc _, ((Kept.refl _).alloc _).cellp (by simp), new_cell _ _ _ _ _ _ (by simp) rfl⟩ ?_
      rintro W ⟨kW, f1, f2⟩
      have HKW := hidMk kW
      clear kW c1' c2' e1' e2' v0'
      go_loopg [8] r2 (fun g x wq => ∃ j : Nat, j + g = r2 ∧ x = .int .i64 j ∧ Kept W wq)
      case atStart => exact ⟨0, by omega, rfl, Kept.refl _⟩
      case round =>
        obtain ⟨j, hjg, rfl, hj⟩ := hrel
        have HJG := hidMk hjg
        have HJ := hidMk hj
        have g1 := hj.cellp f1
        have g2 := hj.cellp f2
        by_cases hjn : j < r2
        · obtain ⟨b3, o3, rfl, _, h3⟩ := (HN1.out.kept (HKW.out.trans hj)).cells (by omega)
          obtain ⟨b4, o4, rfl, _, h4⟩ := (HN2.out.kept (HKW.out.trans hj)).cells (by omega)
          obtain ⟨c3, c4⟩ := h3 j hjn
          obtain ⟨c5, c6⟩ := h4 j hjn
          have jn' : (j : Int) < r2 := by omega
          clear h3 h4 hj hjg
          generalize nmA L j = t at *
          generalize upA L j = u at *
          have q6 : (t.toList == t.toList) = true := by simp
          have q7 : (u == u) = true := by simp
          go_wp2_with fail
          go_quiet (fail)
          go_wp2_with fail
          go_roundg (gk - 1)
          case measure => have := HJG.out; omega
          case rel => exact ⟨j + 1, by have := HJG.out; omega, by go_num, HJ.out.drewN _⟩
        · have jn' : ¬ ((j : Int) < (r2 : Int)) := by omega
          clear hj
          go_wp2_with fail
          go_roundg (gi - 1)
          case measure => have := HKG.out; omega
          case rel => exact ⟨k + 1, by have := HKG.out; omega, by go_num, HK.out.trans (HKW.out.trans HJ.out)⟩
    · have kn' : ¬ ((k : Int) < (n : Int)) := by omega
      clear hk
      go_wp2_with fail
      go_ret
      exact ⟨rfl, HK1.out.trans HK.out⟩
end Go.Proofs.Ytlcjnldkldkffaa
