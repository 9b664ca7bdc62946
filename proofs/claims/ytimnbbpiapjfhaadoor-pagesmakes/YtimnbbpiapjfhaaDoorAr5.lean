/- A node that is gone: clear. -/
import Derived.Test.YtimnbbpiapjfhaaDoorAr4
namespace Go.Proofs.YtimnbbpiapjfhaaDoor
open Go.RowKit
set_option linter.unusedSimpArgs false
set_option linter.unusedVariables false
section
variable {w : World} {p B : Nat} {most : Int} {n : Nat} {rf q : Int → Nat} {nd : Int → ANd} {M : Nat} {wd : Nat → Nat} {v : Value} {xs : List Value}
set_option maxHeartbeats 2000000 in
set_option maxRecDepth 100000 in
theorem arena_clear {k : Nat} (h : ARq w p B most n rf (stR rf (k + 1 : Nat)) nd M wd v xs) (hk : k < n) (h1 : rf (k + 1 : Nat) = 1) : Calls Tryd.prog 52 #[.pointer (some ⟨p, 0, none⟩), .int .i64 (k + 1 : Nat)] w fun e w' => e = .returned (.tuple #[]) ∧ (∃ wd' xs', AR w' p B most n (stR rf (k + 1 : Nat)) nd M wd' v xs') ∧ Chg (fun j => j = p ∨ v.ownBlock = some j) w w' := by
  have hn := h.n_le
  have hl : xs.length = n * 26 := h.own.1
  obtain ⟨g, c, hv, hg, hc, hf, _⟩ := h.refCell (i := k) hk
  have h2 := h.c2
  have ht := hidMk (h.there hg hk)
  -- the place with nothing
  have hz8 : zNd.kids.length = 8 ∧ zNd.vals.length = 8 := ⟨rfl, rfl⟩
  obtain ⟨Z, hZ⟩ : ∃ Z, plL zNd 0 = Z := ⟨_, rfl⟩
  have hzl : Z.length = 26 := by rw [← hZ]; exact plL_len zNd 0 hz8.1 hz8.2
  have hzr : Z[25]? = some (.int .i64 ((0 : Nat) : Int)) := by rw [← hZ]; exact plL_ref zNd 0 hz8.1 hz8.2
  have hzn : ∀ j, j < 25 → Z[j]? = (ndL zNd)[j]? := by rw [← hZ]; exact plL_nd zNd 0 hz8.1 hz8.2
  have HZO := hidMk (show ∀ u ∈ Z, u.oneCell' = true by rw [← hZ]; exact plL_one zNd 0)
  have HZ := hidMk hZ
  clear hZ
  obtain ⟨hA, hC⟩ := h.cells hg (k * 26) Z (stR rf (k + 1 : Nat)) (fun i => if i = (k + 1 : Nat) then zNd else nd i) (fun i hi => by
    by_cases e : i = k
    · subst e
      rw [show 26 * i + 25 = i * 26 + 25 by omega, setL_in _ _ _ _ (by omega) (by omega), hzr, stR_same, h1]
    · rw [setL_out _ _ _ _ (by omega)]
      exact h.refs i hi) (fun i hi hne j hj => by
    by_cases e : i = k
    · subst e
      rw [if_pos rfl, show 26 * i + j = i * 26 + j by omega, setL_in _ _ _ _ (by omega) (by omega)]
      exact hzn j hj
    · rw [if_neg (by omega), setL_out _ _ _ _ (by omega)]
      exact h.nodes i hi hne j hj) (fun i => by
    by_cases e : i = (k + 1 : Nat)
    · rw [if_pos e]; exact hz8
    · rw [if_neg e]; exact h.kok i)
  have hus : usd rf n = usd (stR rf (k + 1 : Nat)) n + 1 := usd_set (k + 1) n (by omega) (by omega) (by rw [stR_same, h1]) (by rw [h1]; omega) (fun i hi => by rw [stR_other rf (by omega)])
  have hul := usd_le rf n
  have HA := hidMk hA
  have HC := hidMk hC
  have HW := hidMk (hA.word (k / 64) (by omega))
  have hc3 := hA.c3 (k / 64) (by omega)
  have hfz := hA.fz (3 + k / 64)
  have HFL := hidMk (arena_flip k (by omega) (wd (k / 64)) HW.out hc3 hfz)
  have c1 := hA.c1
  have f1 := hA.fz 1
  have HMK := hidMk (show ∀ w1, OneSet (w.setCells g (k * 26) Z) w1 p (3 + k / 64) (.int .u64 (wd (k / 64) ^^^ 2 ^ (k % 64) : Nat)) → (w1.cell? ⟨p, 1, none⟩ = some (.int .i64 (usd rf n)) ∧ w1.frozen? ⟨p, 1, none⟩ = false ∧ ((∃ wd' xs', AR (w1.setCell ⟨p, 1, none⟩ (.int .i64 (usd (stR rf (k + 1 : Nat)) n))) p B most n (stR rf (k + 1 : Nat)) nd M wd' v xs') ∧ Chg (fun j => j = p ∨ v.ownBlock = some j) w (w1.setCell ⟨p, 1, none⟩ (.int .i64 (usd (stR rf (k + 1 : Nat)) n))))) from fun w1 hw1 => by
    have q1 := (hw1.other 1 (by omega)).trans c1
    refine ⟨q1, (hw1.fz 1).trans f1, ?_⟩
    obtain ⟨m1, m2⟩ := hA.marks hk (rf' := stR rf (k + 1 : Nat)) (fun j hj => by rw [stR_other rf hj]) (by rw [stR_same, h1]; simp) hw1 (oneSet q1) (fun j hj => by
      by_cases e : j = (k + 1 : Nat)
      · exact .inr e
      · rw [stR_other rf e] at hj; exact .inl hj) (stR_ok h.ok _) (fun j => by have := h.rb j; unfold stR; split <;> omega) (fun hne => absurd (by rw [stR_same, h1]) hne)
    have m3 := fun i hi hne j hj => m1.nodes i hi hne j hj
    have m4 : ∀ i, i < n → stR rf (k + 1 : Nat) (i + 1 : Nat) ≠ 0 → ∀ j, j < 25 → (setL xs (k * 26) Z)[26 * i + j]? = (ndL (nd (i + 1 : Nat)))[j]? := fun i hi hne j hj => by
      have := m1.nodes i hi hne j hj
      rw [if_neg (fun e => by rw [e, stR_same, h1] at hne; exact hne rfl)] at this
      exact this
    exact ⟨⟨_, _, ⟨m1.c0, m1.c1, m1.c2, m1.c3, m1.fz, m1.own, m1.refs, m4, m1.word, m1.bit, m1.ok, h.kok, m1.pB, m1.B1, m1.m1, m1.m2, m1.nm, m1.rb, m1.Mb⟩⟩, (hC.mono (fun j _ e => .inr e)).trans (m2.mono (fun j _ e => .inl e))⟩)
  have HZL := hidMk hzl
  clear h hA hC hl hf hc hg c1 f1 hc3 hfz h1 hul hzl hzr hzn hz8
  subst hv
  rw [show ((k + 1 : Nat) : Int) = (k : Int) + 1 by omega]
  have hk1 : (k : Int) < n := by omega
  have e1 : wrap64 ((k : Int) + 1 - 1) = k := by unfold wrap64; omega
  obtain ⟨u1, hu1⟩ : ∃ u1, usd (stR rf (k + 1 : Nat)) n = u1 := ⟨_, rfl⟩
  have hun := usd_le (stR rf (k + 1 : Nat)) n
  rw [hu1] at hus HMK hun
  rw [hus] at HMK
  have e2 : wrap64 (((u1 + 1 : Nat) : Int) - 1) = u1 := by unfold wrap64; omega
  have e3 : wrap64 ((u1 : Int) + 1 - 1) = u1 := by unfold wrap64; omega
  clear hu1 hus HA HC HW
  go_enter Tryd.func52, Tryd.ntmps52
  go_wp2_with (first | (refine wpl_buildZQ HZ.out rfl rfl ?_) | (refine wpl_storeP rfl _ _ rfl _ _ rfl Z HZL.out rfl HZO.out ht.out ?_))
  refine HFL.out.mono ?_
  rintro e w1 ⟨rfl, hw1⟩
  obtain ⟨q1, f1, hfin⟩ := HMK.out w1 hw1
  have HF := hidMk hfin
  clear hfin hw1 HMK HFL
  go_wp2_with fail
  go_end0
  exact ⟨rfl, HF.out⟩
end
end Go.Proofs.YtimnbbpiapjfhaaDoor
