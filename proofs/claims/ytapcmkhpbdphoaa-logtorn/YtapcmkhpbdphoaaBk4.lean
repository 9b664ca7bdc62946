/- block: acts that came in; what a play keeps. -/
import Derived.Test.YtapcmkhpbdphoaaBk3
import Derived.Deep.Slices
import Derived.WideShapes
namespace Go.Proofs.Ytapcmkhpbdphoaa
open Go.RowKit Go.Maps
set_option linter.unusedSimpArgs false
set_option linter.unusedVariables false

/-- An act: its kind, two numbers, where its bytes lie, and these. -/
abbrev Ab := Int × Int × Int × (Option Addr × Nat × Nat) × List Int
def slv3 (q : Option Addr × Nat × Nat) : Value := .slice q.1 q.2.1 q.2.2
def abF (x : Ab) : List Value := [.int .i64 x.1, .int .i64 x.2.1, .int .i64 x.2.2.1, slv3 x.2.2.2.1]
def abA (l : List Ab) (i : Nat) : Ab := l.getD i (0, 0, 0, (none, 0, 0), [])
/-- Acts that came in. -/
structure Aq (w : World) (a : Option Addr) (n : Nat) (l : List Ab) : Prop where
  len : l.length = n
  big : n ≤ maxLen
  sl : ∀ i, i < n → Sl .u8 w (abA l i).2.2.2.1.1 (abA l i).2.2.2.1.2.1 (abA l i).2.2.2.2 ∧ (∀ x ∈ (abA l i).2.2.2.2, isB x) ∧ isI (abA l i).1 ∧ isI (abA l i).2.1 ∧ isI (abA l i).2.2.1
  cells : 0 < n → ∃ b o, a = some ⟨b, o, none⟩ ∧ b < w.heap.size ∧ ∀ i, i < n → ∀ t, t < 4 → ∀ u, (abF (abA l i))[t]? = some u → w.cell? ⟨b, o + i * 4 + t, none⟩ = some u
theorem Sl.chgB {k : IntKind} {S : Nat → Prop} {w w' : World} {a : Option Addr} {n : Nat} {l : List Int} (h : Sl k w a n l) (g : Chg S w w') (hb : ∀ ad, a = some ad → ¬ S ad.block) : Sl k w' a n l :=
  ⟨h.len, h.big, fun hp => by
    obtain ⟨b, o, h1, h2, h3⟩ := h.cells hp
    exact ⟨b, o, h1, Nat.lt_of_lt_of_le h2 g.size, fun i hi => by rw [g.cell (p := ⟨b, o + i, none⟩) h2 (hb ⟨b, o, none⟩ h1)]; exact h3 i hi⟩⟩
theorem Aq.at {w W : World} {b o n : Nat} {l : List Ab} (h : Aq w (some ⟨b, o, none⟩) n l) (k : Kept w W) {i : Nat} (hi : i < n) : b < w.heap.size ∧ W.cell? ⟨b, o + i * 4, none⟩ = some (.int .i64 (abA l i).1) ∧ W.cell? ⟨b, o + i * 4 + 1, none⟩ = some (.int .i64 (abA l i).2.1) ∧ W.cell? ⟨b, o + i * 4 + 2, none⟩ = some (.int .i64 (abA l i).2.2.1) ∧ W.cell? ⟨b, o + i * 4 + 3, none⟩ = some (.slice (abA l i).2.2.2.1.1 (abA l i).2.2.2.1.2.1 (abA l i).2.2.2.1.2.2) := by
  obtain ⟨b', o', e, hl, h3⟩ := h.cells (by omega)
  cases e
  exact ⟨hl, (k.cell (p := ⟨b, o + i * 4, none⟩) hl).trans (h3 i hi 0 (by omega) _ rfl), (k.cell (p := ⟨b, o + i * 4 + 1, none⟩) hl).trans (h3 i hi 1 (by omega) _ rfl), (k.cell (p := ⟨b, o + i * 4 + 2, none⟩) hl).trans (h3 i hi 2 (by omega) _ rfl), (k.cell (p := ⟨b, o + i * 4 + 3, none⟩) hl).trans (h3 i hi 3 (by omega) _ rfl)⟩
section
variable {H : Type} {enc : TypeId × Value → H} {w : World} {base : Nat} {spare : Nat → Bool} {held : Bool} {fuel : Nat} {x : DataW H × List MemPlace}
theorem bytes_open {v : Value} (h : DataW.trod enc Try.prog w base spare held fuel 33 [v] = some x) : ∃ a n c l, v = .slice a n c ∧ Sl .u8 w a n l ∧ ∀ y ∈ l, isB y := by
  rcases Go.Deep.open_slice1 Try.underlying33 (by kernel_rfl) h with ⟨hcs, _⟩ | ⟨ad, len, cap, m, n, V, D, Pl, hcs, _, hl, hm, hmm, _, hall⟩
  · simp only [List.cons.injEq, and_true] at hcs
    subst hcs
    exact ⟨_, _, _, [], rfl, ⟨rfl, Nat.zero_le _, fun h => absurd h (by omega)⟩, by simp⟩
  · simp only [List.cons.injEq, and_true] at hcs
    subst hcs
    have hlm : len ≤ m := by rw [hmm]; split <;> omega
    have each : ∀ i, i < len → ∃ q : Int, w.cell? (ad.add i) = some (.int .u8 q) ∧ (Lit.int .u8 q).wf = true := fun i hi => by
      obtain ⟨h1, h2⟩ := hall i (by omega)
      obtain ⟨q, e, _, hw⟩ := DataW.trod_int Try.underlying5 h2
      simp only [List.cons.injEq, and_true] at e
      exact ⟨q, by rw [h1, e], hw⟩
    obtain ⟨q, hq⟩ := Go.Deep.choose_lt each
    have hg : ∀ i, i < len → ((List.range len).map q).getD i 0 = q i := fun i hi => by simp [List.getD, hi]
    refine ⟨_, _, _, (List.range len).map q, rfl, ⟨by simp, by omega, fun hp => ?_⟩, fun y hy => ?_⟩
    · obtain ⟨b, off, spot⟩ := ad
      have hspot : spot = none := by simpa [Addr.add] using World.cell?_spot (hq 0 hp).1
      subst hspot
      refine ⟨b, off, rfl, cell_lt (p := ⟨b, off, none⟩) (by simpa [Addr.add] using (hq 0 hp).1), fun i hi => ?_⟩
      have := (hq i hi).1
      rw [Go.WideShapes.add_plain] at this
      rw [hg i hi]
      exact this
    · obtain ⟨i, hi, rfl⟩ := List.mem_map.1 hy
      exact isB_of (hq i (by simpa using hi)).2
end
theorem bad_zero {s : Bf} {N : Nat} {n : Int} (h : bad s N n = 0) : s.off = false ∧ 0 ≤ n ∧ n < N := by
  unfold bad at h
  cases ho : s.off with
  | true => rw [ho] at h; simp at h
  | false =>
    rw [ho] at h
    simp only [Bool.false_eq_true, if_false] at h
    by_cases q : n < 0 ∨ (N : Int) ≤ n
    · rw [if_pos q] at h; omega
    · exact ⟨rfl, by omega, by omega⟩
theorem wrS_ok {s : Bf} {N : Nat} {n : Int} {l : List Int} (h : Ok s) : Ok (wrS s N n l) ∧ (wrS s N n l).wr ≤ s.wr + 1 := by
  have w0 := h.w0
  unfold wrS
  split
  · exact ⟨h, by omega⟩
  · split
    · exact ⟨h, by omega⟩
    · split
      · exact ⟨⟨h.b0, h.b1, h.y0, h.y1, by show 0 ≤ s.wr + 1; omega⟩, Int.le_refl _⟩
      · have b0 := h.b0
        have b1 := h.b1
        refine ⟨⟨?_, ?_, h.y0, h.y1, by show 0 ≤ s.wr + 1; omega⟩, Int.le_refl _⟩
        · show 0 ≤ (cmS s).be
          unfold cmS; dsimp only; split <;> omega
        · show (cmS s).be ≤ _
          unfold cmS; dsimp only; split <;> omega
theorem stS_ok {s : Bf} {x y : Int} (h : Ok s) (hx : isI x) : Ok (stS s x y) ∧ (stS s x y).wr = s.wr ∧ (stS s x y).F = s.F := by
  unfold isI at hx
  unfold stS
  split
  · rename_i he
    unfold stE at he
    split at he
    · omega
    · rename_i hq
      exact ⟨⟨by show 0 ≤ x; omega, by show x ≤ _; omega, by show 0 ≤ y; omega, by show y ≤ 32; omega, h.w0⟩, rfl, rfl⟩
  · exact ⟨h, rfl, rfl⟩
theorem upS_ok {s : Bf} (h : Ok s) : Ok (upS s) := ⟨Int.le_refl _, by simp [upS], Int.le_refl _, by simp [upS], h.w0⟩
theorem wrS_blk {s : Bf} {N i : Nat} {n : Int} {l : List Int} (hF : s.F.length = N * 32) (hi : i < N) (hn : n ≠ i) : blk (wrS s N n l).F i = blk s.F i := by
  unfold wrS
  split
  · rfl
  · rename_i hb
    obtain ⟨_, h0, h1⟩ := bad_zero (by simpa using hb)
    have hne : ¬ i = n.toNat := by omega
    split
    · rfl
    · rename_i hl
      have hwl := whole_len (l := l) (by omega)
      split
      · show blk (putL s.F (n.toNat * 32) ((whole l).take s.by_.toNat)) i = _
        rw [blk_putL hF (by omega) hi (by rw [List.length_take]; omega), if_neg hne]
      · show blk (putL s.F (n.toNat * 32) (whole l)) i = _
        rw [blk_putL hF (by omega) hi (by omega), if_neg hne]
end Go.Proofs.Ytapcmkhpbdphoaa
