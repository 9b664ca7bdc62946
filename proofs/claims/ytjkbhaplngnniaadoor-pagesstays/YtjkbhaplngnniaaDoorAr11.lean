/- An arena as a whole; known. -/
import Derived.Test.YtjkbhaplngnniaaDoorAr10
namespace Go.Proofs.YtjkbhaplngnniaaDoor
open Go.RowKit
set_option linter.unusedSimpArgs false
set_option linter.unusedVariables false

/-- An arena that came to be behind w0: in block p, its places in block ow. -/
def AS (w0 w : World) (p : Nat) (ow : Option Nat) (most : Int) (n : Nat) (rf : Int → Nat) (nd : Int → ANd) (M : Nat) : Prop :=
  Kept w0 w ∧ w0.heap.size ≤ p ∧ ∃ B wd v xs, AR w p B most n rf nd M wd v xs ∧ v.ownBlock = ow ∧ ∀ g, ow = some g → w0.heap.size ≤ g
section
variable {w0 w : World} {p : Nat} {ow : Option Nat} {most : Int} {n : Nat} {rf : Int → Nat} {nd : Int → ANd} {M : Nat}
theorem AS.keep {y : World} (h : AS w0 w p ow most n rf nd M) (k : Kept w y) : AS w0 y p ow most n rf nd M := by
  obtain ⟨h1, h2, B, wd, v, xs, h3, h4, h5⟩ := h
  exact ⟨h1.trans k, h2, B, wd, v, xs, h3.kept k, h4, h5⟩
theorem AS.chg {S : Nat → Prop} {y : World} (h : AS w0 w p ow most n rf nd M) (k : Chg S w y) (hs : ∀ j, S j → w0.heap.size ≤ j) (hp : ¬ S p) (ho : ∀ g, ow = some g → ¬ S g) : AS w0 y p ow most n rf nd M := by
  obtain ⟨h1, h2, B, wd, v, xs, h3, h4, h5⟩ := h
  exact ⟨Chg.kept h1 k hs, h2, B, wd, v, xs, h3.chg k hp (fun j hj => ho j (by rw [← h4]; exact hj)), h4, h5⟩
theorem AS.ok (h : AS w0 w p ow most n rf nd M) : RfOk n rf ∧ (∀ i, (nd i).kids.length = 8 ∧ (nd i).vals.length = 8) ∧ 1 ≤ most ∧ most ≤ 20000 ∧ (n : Int) ≤ most ∧ (∀ i, rf i ≤ M) ∧ p < w.heap.size ∧ (∀ g, ow = some g → g < w.heap.size ∧ g ≠ p) := by
  obtain ⟨h1, h2, B, wd, v, xs, h3, h4, h5⟩ := h
  exact ⟨h3.ok, h3.kok, h3.m1, h3.m2, h3.nm, h3.rb, h3.lt, fun g hg => ⟨(h3.apart (h4.trans hg)).2.1, (h3.apart (h4.trans hg)).2.2⟩⟩
theorem AS.raise (h : AS w0 w p ow most n rf nd M) {M' : Nat} (h1 : M ≤ M') (h2 : M' ≤ 4611686018427387904) : AS w0 w p ow most n rf nd M' := by
  obtain ⟨a1, a2, B, wd, v, xs, h3, h4, h5⟩ := h
  exact ⟨a1, a2, B, wd, v, xs, h3.raise h1 h2, h4, h5⟩
theorem as_new {w0 w' : World} (h : NewA w w' most) (hk : Kept w0 w) (m1 : 1 ≤ most) (m2 : most ≤ 20000) : AS w0 w' w.heap.size none most 0 (fun _ => 0) (fun _ => zNd) 0 := by
  refine ⟨hk.trans h.kept, hk.size, w.heap.size + 1, fun _ => 0, .slice none 0 0, [], ⟨h.c0, h.c1, h.c2, h.c3, h.fz, World.ownsRow_nil _ _ _ _, fun i hi => absurd hi (by omega), fun i hi => absurd hi (by omega), fun j hj => by omega, fun j hj b hb => by simp, fun i _ => rfl, fun i => ⟨rfl, rfl⟩, Nat.lt_succ_self _, h.lt, m1, m2, by omega, fun i => Nat.le_refl _, by omega⟩, rfl, fun g hg => by cases hg⟩
theorem as_Used (h : AS w0 w p ow most n rf nd M) : Calls Tryd.prog 18 #[.pointer (some ⟨p, 0, none⟩)] w fun e w' => e = .returned (.int .i64 (usd rf n)) ∧ w' = w := by
  obtain ⟨h1, h2, B, wd, v, xs, h3, h4, h5⟩ := h
  exact arena_Used h3
theorem as_At (h : AS w0 w p ow most n rf nd M) (i : Int) : Calls Tryd.prog 54 #[.pointer (some ⟨p, 0, none⟩), .int .i64 i] w fun e w' => e = .returned (.tuple #[atV rf nd i, .int .i64 (atE rf i)]) ∧ Kept w w' := by
  obtain ⟨h1, h2, B, wd, v, xs, h3, h4, h5⟩ := h
  exact arena_At h3 i
/-- What an act leaves. -/
def ASN (w0 w w' : World) (p : Nat) (ow : Option Nat) (most : Int) (n : Nat) (rf : Int → Nat) (nd : Int → ANd) (M : Nat) : Prop :=
  (∃ ow', AS w0 w' p ow' most n rf nd M ∧ (∀ g, ow' = some g → ow = some g ∨ w.heap.size ≤ g)) ∧ Chg (fun j => j = p ∨ ow = some j) w w'
def KeepR (rf : Int → Nat) (i : Int) : Int → Nat := if rf i = 0 then rf else setR rf i (rf i + 1)
theorem as_Keep (h : AS w0 w p ow most n rf nd M) (hM : M + 1 ≤ 4611686018427387904) (i : Int) : Calls Tryd.prog 43 #[.pointer (some ⟨p, 0, none⟩), .int .i64 i] w fun e w' => e = .returned (.int .i64 (atE rf i)) ∧ ASN w0 w w' p ow most n (KeepR rf i) nd (M + 1) := by
  have hh := h
  obtain ⟨h1, h2, B, wd, v, xs, h3, h4, h5⟩ := h
  refine (arena_Keep h3 hM i).mono ?_
  rintro e w' (⟨hz, rfl, rfl⟩ | ⟨hz, rfl, ⟨xs', h6⟩, hc⟩)
  · unfold atE KeepR
    rw [if_pos hz, if_pos hz]
    exact ⟨rfl, ⟨ow, hh.raise (by omega) hM, fun g hg => .inl hg⟩, Chg.refl _ _⟩
  · unfold atE KeepR
    rw [if_neg hz, if_neg hz]
    exact ⟨rfl, ⟨ow, ⟨Chg.kept h1 hc (fun j hj => h5 j (by rw [← h4]; exact hj)), h2, B, wd, v, xs', h6, h4, h5⟩, fun g hg => .inl hg⟩, hc.mono (fun j _ e => .inr (by rw [← h4]; exact e))⟩
theorem as_Drop (h : AS w0 w p ow most n rf nd M) (i : Int) (K : Nat) (r : Int → Nat) (hK : DropsN (kdA nd) K rf [i] r) : Calls Tryd.prog 39 #[.pointer (some ⟨p, 0, none⟩), .int .i64 i] w fun e w' => e = .returned (.int .i64 (atE rf i)) ∧ ASN w0 w w' p ow most n r nd M := by
  have hh := h
  obtain ⟨h1, h2, B, wd, v, xs, h3, h4, h5⟩ := h
  by_cases hz : rf i = 0
  · refine (arena_DropNone h3 i hz).mono ?_
    rintro e w' ⟨rfl, rfl⟩
    unfold atE
    rw [if_pos hz]
    have hr : r = rf := by
      obtain ⟨K', rfl, hd⟩ := drops_pos hK
      rw [stR_none hz] at hd
      have : stK (kdA nd) rf i = [] := by unfold stK; rw [if_neg (by omega)]
      rw [this] at hd
      exact (drops_nil hd).2
    rw [hr]
    exact ⟨rfl, ⟨ow, hh, fun g hg => .inl hg⟩, Chg.refl _ _⟩
  · refine (arena_Drop h3 i hz K r hK).mono ?_
    rintro e w' ⟨rfl, ⟨wd', xs', h6⟩, hc⟩
    unfold atE
    rw [if_neg hz]
    have hc' : Chg (fun j => j = p ∨ ow = some j) w w' := hc.mono (fun j _ e => e.imp id (fun e => by rw [← h4]; exact e))
    exact ⟨rfl, ⟨ow, ⟨Chg.kept h1 hc' (fun j hj => by rcases hj with rfl | e; exact h2; exact h5 j e), h2, B, wd', v, xs', h6, h4, h5⟩, fun g hg => .inl hg⟩, hc'⟩
/-- What Make answers, and what it leaves. -/
def MakeIs (w0 w : World) (p : Nat) (ow : Option Nat) (most : Int) (n : Nat) (rf : Int → Nat) (nd : Int → ANd) (M : Nat) (y : ANd) (e : Ending) (w' : World) : Prop :=
  (haveB rf y.kids = false ∧ e = .returned (.tuple #[.int .i64 0, .int .i64 10]) ∧ Kept w w') ∨
  (haveB rf y.kids = true ∧ most ≤ usd rf n ∧ e = .returned (.tuple #[.int .i64 0, .int .i64 14]) ∧ Kept w w') ∨
  (haveB rf y.kids = true ∧ (usd rf n : Int) < most ∧ ∃ x : Nat, LowN rf x ∧ e = .returned (.tuple #[.int .i64 x, .int .i64 0]) ∧ ASN w0 w w' p ow most (max n x) (setR (incR rf y.kids) x 1) (updN nd x y) (M + 9))
theorem as_Make (h : AS w0 w p ow most n rf nd M) (hV : Vars w0) (hM : M + 9 ≤ 4611686018427387904) (x : ANd) (hx : x.kids.length = 8 ∧ x.vals.length = 8) : Calls Tryd.prog 53 #[.pointer (some ⟨p, 0, none⟩), ndV x] w (MakeIs w0 w p ow most n rf nd M (bareN x)) := by
  have hh := h
  obtain ⟨h1, h2, B, wd, v, xs, h3, h4, h5⟩ := h
  have hz : 0 < w0.heap.size := cell_lt (hV 0 (by decide))
  refine (arena_Make h3 (hV.kept h1) (by omega) (fun e => by have := h5 0 (by rw [← h4]; exact e); omega) hM x hx).mono ?_
  rintro e w' (⟨a1, a2, a3⟩ | ⟨a1, a2, a3, a4⟩ | ⟨a1, a2, y, a3, a4, ⟨n', wd', v', xs', rfl, a6, a7⟩, a8⟩)
  · exact .inl ⟨a1, a2, a3⟩
  · exact .inr (.inl ⟨a1, a2, a3, a4⟩)
  · have hc' : Chg (fun j => j = p ∨ ow = some j) w w' := a8.mono (fun j _ e => e.imp id (fun e => by rw [← h4]; exact e))
    refine .inr (.inr ⟨a1, a2, y, a3, a4, ⟨v'.ownBlock, ⟨Chg.kept h1 hc' (fun j hj => by rcases hj with rfl | e; exact h2; exact h5 j e), h2, B, wd', v', xs', a6, rfl, fun g hg => ?_⟩, fun g hg => ?_⟩, hc'⟩)
    · rcases a7 g hg with e | e
      · exact h5 g (by rw [← h4]; exact e)
      · exact Nat.le_trans h1.size e
    · rcases a7 g hg with e | e
      · exact .inl (by rw [← h4]; exact e)
      · exact .inr e
end
end Go.Proofs.YtjkbhaplngnniaaDoor
