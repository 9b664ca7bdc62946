/- An arena in memory: find, Used, Cap, Refs, At, Keep. -/
import Derived.Test.YtjkbhaplngnniaaDoorAr1
namespace Go.Proofs.YtjkbhaplngnniaaDoor
open Go.RowKit
set_option linter.unusedSimpArgs false
set_option linter.unusedVariables false

/-- An arena in block p: its places, of 26 cells each, in a row v from block B on; most nodes, n places, how often each is asked for, the nodes. -/
structure ARq (w : World) (p B : Nat) (most : Int) (n : Nat) (rf q : Int → Nat) (nd : Int → ANd) (M : Nat) (wd : Nat → Nat) (v : Value) (xs : List Value) : Prop where
  c0 : w.cell? ⟨p, 0, none⟩ = some (.int .i64 most)
  c1 : w.cell? ⟨p, 1, none⟩ = some (.int .i64 (usd rf n))
  c2 : w.cell? ⟨p, 2, none⟩ = some v
  c3 : ∀ j, j < 313 → w.cell? ⟨p, 3 + j, none⟩ = some (.int .u64 (wd j))
  fz : ∀ j, w.frozen? ⟨p, j, none⟩ = false
  own : w.ownsRow B 104 26 v n xs
  refs : ∀ i, i < n → xs[26 * i + 25]? = some (.int .i64 (q (i + 1 : Nat)))
  nodes : ∀ i, i < n → rf (i + 1 : Nat) ≠ 0 → ∀ j, j < 25 → xs[26 * i + j]? = (ndL (nd (i + 1 : Nat)))[j]?
  word : ∀ j, j < 313 → wd j < 18446744073709551616
  bit : ∀ j, j < 313 → ∀ b, b < 64 → (wd j).testBit b = decide (rf (64 * j + b + 1 : Nat) ≠ 0)
  ok : RfOk n rf
  kok : ∀ i, (nd i).kids.length = 8 ∧ (nd i).vals.length = 8
  pB : p < B
  B1 : B ≤ w.heap.size
  m1 : 1 ≤ most
  m2 : most ≤ 20000
  nm : (n : Int) ≤ most
  rb : ∀ i, rf i ≤ M
  Mb : M ≤ 4611686018427387904
abbrev AR (w : World) (p B : Nat) (most : Int) (n : Nat) (rf : Int → Nat) (nd : Int → ANd) (M : Nat) (wd : Nat → Nat) (v : Value) (xs : List Value) : Prop := ARq w p B most n rf rf nd M wd v xs
section
variable {w : World} {p B : Nat} {most : Int} {n : Nat} {rf q : Int → Nat} {nd : Int → ANd} {M : Nat} {wd : Nat → Nat} {v : Value} {xs : List Value}
theorem ARq.lt (h : ARq w p B most n rf q nd M wd v xs) : p < w.heap.size := cell_lt h.c0
theorem ARq.apart (h : ARq w p B most n rf q nd M wd v xs) {g : Nat} (hg : v.ownBlock = some g) : B ≤ g ∧ g < w.heap.size ∧ g ≠ p := by
  have h1 := World.ownsRow.lt h.own g hg
  have h2 := h.pB
  exact ⟨h1.1, h1.2, by omega⟩
theorem ARq.chg {S : Nat → Prop} {y : World} (h : ARq w p B most n rf q nd M wd v xs) (g : Chg S w y) (hp : ¬ S p) (hv : ∀ k, v.ownBlock = some k → ¬ S k) : ARq y p B most n rf q nd M wd v xs := by
  have lp := h.lt
  refine ⟨g.cellp h.c0 hp, g.cellp h.c1 hp, g.cellp h.c2 hp, fun j hj => g.cellp (h.c3 j hj) hp, fun j => (g.frozen (p := ⟨p, j, none⟩) lp hp).trans (h.fz j), ?_, h.refs, h.nodes, h.word, h.bit, h.ok, h.kok, h.pB, Nat.le_trans h.B1 g.size, h.m1, h.m2, h.nm, h.rb, h.Mb⟩
  have hlt := World.ownsRow.lt h.own
  obtain ⟨h0, h1 | ⟨k, cap, cur, hv', hb', hh, r⟩⟩ := h.own
  · exact ⟨h0, .inl h1⟩
  · subst hv'
    refine ⟨h0, .inr ⟨k, cap, cur, rfl, hb', ?_, r⟩⟩
    rw [g.block k (hlt k rfl).2 (hv k rfl)]
    exact hh
theorem ARq.kept {y : World} (h : ARq w p B most n rf q nd M wd v xs) (g : Kept w y) : ARq y p B most n rf q nd M wd v xs := h.chg (S := fun _ => False) (Chg.of_kept g) (fun e => e) (fun _ _ e => e)
/-- The places' slice, and each one's cells. -/
theorem ARq.rows (h : ARq w p B most n rf q nd M wd v xs) : ∃ a c, v = .slice a n c ∧ (0 < n → ∃ g, a = some ⟨g, 0, none⟩ ∧ v.ownBlock = some g ∧ (∀ j, j < 26 * n → w.cell? ⟨g, j, none⟩ = xs[j]?) ∧ (∀ j, w.frozen? ⟨g, j, none⟩ = false)) := by
  have h' := h.own
  obtain ⟨hl, ⟨hv, hz⟩ | ⟨g, cap, cur, hv, hb, hheap, hc, hcm, hsz, htk⟩⟩ := h.own
  · exact ⟨none, 0, by rw [hv, hz], fun hp => absurd hp (by omega)⟩
  · refine ⟨_, _, hv, fun hp => ⟨g, rfl, by rw [hv]; rfl, fun j hj => ?_, fun j => ?_⟩⟩
    · subst hv
      rw [h'.cellAt j (by omega)]
    · simp [World.frozen?, hheap]
theorem ARq.refCell (h : ARq w p B most n rf q nd M wd v xs) {i : Nat} (hi : i < n) : ∃ g c, v = .slice (some ⟨g, 0, none⟩) n c ∧ v.ownBlock = some g ∧ w.cell? ⟨g, i * 26 + 25, none⟩ = some (.int .i64 (q (i + 1 : Nat))) ∧ w.frozen? ⟨g, i * 26 + 25, none⟩ = false ∧ (rf (i + 1 : Nat) ≠ 0 → w.rangeAt g (i * 26) (ndL (nd (i + 1 : Nat)))) := by
  obtain ⟨a, c, hv, hr⟩ := h.rows
  obtain ⟨g, rfl, hg, hc, hf⟩ := hr (by omega)
  refine ⟨g, c, hv, hg, ?_, hf _, fun hne j u hu => ?_⟩
  · rw [hc _ (by omega), ← h.refs i hi, Nat.mul_comm]
  · have hj : j < 25 := by
      have := (List.getElem?_eq_some_iff.1 hu).1
      rw [ndL_len _ (h.kok _).1 (h.kok _).2] at this
      exact this
    rw [hc _ (by omega), ← hu, ← h.nodes i hi hne j hj, Nat.mul_comm]
theorem ARq.n_le (h : ARq w p B most n rf q nd M wd v xs) : n ≤ 20000 := by have := h.nm; have := h.m2; omega

theorem arena_Used (h : AR w p B most n rf nd M wd v xs) : Calls Tryd.prog 18 #[.pointer (some ⟨p, 0, none⟩)] w fun e w' => e = .returned (.int .i64 (usd rf n)) ∧ w' = w := by
  have h1 := h.c1
  clear h
  go_enter Tryd.func18, Tryd.ntmps18
  go_wp2_with fail
  go_ret
  exact ⟨rfl, rfl⟩
/-- find, of a number that no node has. -/
theorem arena_findNone (h : AR w p B most n rf nd M wd v xs) (i : Int) (hi : rf i = 0) : Calls Tryd.prog 51 #[.pointer (some ⟨p, 0, none⟩), .int .i64 i] w fun e w' => e = .returned (.tuple #[.pointer none, .int .i64 10]) ∧ w' = w := by
  have hn := h.n_le
  by_cases h1 : i < 1
  · clear h hi
    go_enter Tryd.func51, Tryd.ntmps51
    go_wp2_with fail
    go_ret2
    exact ⟨rfl, rfl⟩
  · obtain ⟨a, c, hv, _⟩ := h.rows
    have h2 := h.c2
    have h1' : 1 ≤ i := by omega
    by_cases h3 : (n : Int) < i
    · rw [hv] at h2
      clear h hi h1 hv
      go_enter Tryd.func51, Tryd.ntmps51
      go_wp2_with fail
      go_ret2
      exact ⟨rfl, rfl⟩
    · obtain ⟨k, rfl⟩ : ∃ k : Nat, i = (k : Int) + 1 := ⟨(i - 1).toNat, by omega⟩
      obtain ⟨g, c', hv', hg, hc, hf, _⟩ := h.refCell (i := k) (by omega)
      rw [hv'] at h2
      rw [show ((k + 1 : Nat) : Int) = (k : Int) + 1 by omega, hi] at hc
      have h3' : ¬ ((n : Int) < (k : Int) + 1) := h3
      have e1 : wrap64 ((k : Int) + 1 - 1) = k := by unfold wrap64; omega
      have hk : (k : Int) < n := by omega
      clear h hi h1 hv hv' h3
      go_enter Tryd.func51, Tryd.ntmps51
      go_wp2_with fail
      go_ret2
      exact ⟨rfl, rfl⟩
/-- find, of a node: where it lies. -/
theorem arena_find (h : AR w p B most n rf nd M wd v xs) (k : Nat) (hk : k < n) (hr : rf (k + 1 : Nat) ≠ 0) {g : Nat} (hg : v.ownBlock = some g) : Calls Tryd.prog 51 #[.pointer (some ⟨p, 0, none⟩), .int .i64 (k + 1 : Nat)] w fun e w' => e = .returned (.tuple #[.pointer (some ⟨g, k * 26, none⟩), .int .i64 0]) ∧ w' = w := by
  have hn := h.n_le
  obtain ⟨g', c', hv', hg', hc, hf, _⟩ := h.refCell (i := k) hk
  have : g' = g := by rw [hg] at hg'; cases hg'; rfl
  subst this
  have h2 := h.c2
  rw [hv'] at h2
  have hb := h.rb (k + 1 : Nat)
  generalize rf (k + 1 : Nat) = r at *
  have hr' : ((r : Int) == 0) = false := by simpa using hr
  rw [show ((k + 1 : Nat) : Int) = (k : Int) + 1 by omega]
  have h1' : 1 ≤ (k : Int) + 1 := by omega
  have h3' : ¬ ((n : Int) < (k : Int) + 1) := by omega
  have e1 : wrap64 ((k : Int) + 1 - 1) = k := by unfold wrap64; omega
  have hk : (k : Int) < n := by omega
  clear h hr hv' hb
  go_enter Tryd.func51, Tryd.ntmps51
  go_wp2_with fail
  go_ret2
  exact ⟨rfl, rfl⟩
def atV (rf : Int → Nat) (nd : Int → ANd) (i : Int) : Value := if rf i = 0 then ndV zNd else ndV (nd i)
def atE (rf : Int → Nat) (i : Int) : Int := if rf i = 0 then 10 else 0
theorem arena_At (h : AR w p B most n rf nd M wd v xs) (i : Int) : Calls Tryd.prog 54 #[.pointer (some ⟨p, 0, none⟩), .int .i64 i] w fun e w' => e = .returned (.tuple #[atV rf nd i, .int .i64 (atE rf i)]) ∧ Kept w w' := by
  have hl := h.lt
  by_cases hi : rf i = 0
  · have H := hidMk (arena_findNone (h.kept ((Kept.refl w).alloc (.cells (ndL zNd).toArray 91))) i hi)
    unfold atV atE
    rw [if_pos hi, if_pos hi]
    clear h hi
    go_enter Tryd.func54, Tryd.ntmps54
    go_wp2_with (first | (refine wpl_allocN rfl rfl ?_))
    refine H.out.mono ?_
    rintro e w1 ⟨rfl, hw⟩
    rw [hw]
    go_wp2_with (first | (refine wpl_buildZ rfl rfl ?_) | (refine wpl_storeN rfl _ _ rfl _ _ rfl _ (by rfl) rfl (ndL_one zNd) (new_there _ _ _ _ (by rfl)) ?_))
    refine At_rets w.heap.size (ndL zNd) (by rfl) (World.rangeAt_setCells_same _ _ _ _ (new_there _ _ _ _ (by rfl))) rfl rfl rfl ⟨rfl, kept_setCells (Nat.le_refl _) _ _ ((Kept.refl w).alloc _)⟩
  · have hn : 1 ≤ i ∧ i ≤ (n : Int) := by
      by_cases c : 1 ≤ i ∧ i ≤ (n : Int)
      · exact c
      · exact absurd (h.ok i c) hi
    unfold atV atE
    rw [if_neg hi, if_neg hi]
    obtain ⟨k, rfl⟩ : ∃ k : Nat, i = ((k + 1 : Nat) : Int) := ⟨(i - 1).toNat, by omega⟩
    have h' := h.kept ((Kept.refl w).alloc (.cells (ndL zNd).toArray 91))
    obtain ⟨g, c, hv, hg, hc, hf, hrg⟩ := h'.refCell (i := k) (by omega)
    have H := hidMk (arena_find h' k (by omega) hi hg)
    have HRG := hidMk (hrg hi)
    have hlen := ndL_len _ (h.kok ((k + 1 : Nat) : Int)).1 (h.kok ((k + 1 : Nat) : Int)).2
    have hone := ndL_one (nd ((k + 1 : Nat) : Int))
    have HL := hidMk (And.intro hlen hone)
    clear h h' hi hv hg hf hc hlen hone hrg
    unfold ndV
    generalize ndL (nd ((k + 1 : Nat) : Int)) = L at *
    generalize ((k + 1 : Nat) : Int) = K at *
    go_enter Tryd.func54, Tryd.ntmps54
    go_wp2_with (first | (refine wpl_allocN rfl rfl ?_))
    refine H.out.mono ?_
    rintro e w1 ⟨rfl, hw⟩
    rw [hw]
    go_wp2_with (first | (refine wpl_loadN rfl _ rfl _ _ rfl L HL.out.1 HRG.out ?_) | (refine wpl_storeN rfl _ _ rfl _ _ rfl L HL.out.1 rfl HL.out.2 (new_there _ _ _ _ (by rfl)) ?_))
    have ht : (w.alloc (.cells (ndL zNd).toArray 91)).there w.heap.size 0 L.length := by rw [HL.out.1]; exact new_there _ _ _ _ (by rfl)
    exact At_rets w.heap.size L HL.out.1 (World.rangeAt_setCells_same _ _ _ _ ht) rfl rfl rfl ⟨rfl, kept_setCells (Nat.le_refl _) _ _ ((Kept.refl w).alloc _)⟩
end
end Go.Proofs.YtjkbhaplngnniaaDoor
