/- Slices of texts. -/
import Derived.Test.YtbhojgodkblflaaOwn
namespace Go.Proofs.Ytbhojgodkblflaa
open Go.RowKit
set_option linter.unusedSimpArgs false
set_option linter.unusedVariables false

/-- A slice of texts. -/
structure Ss (w : World) (a : Option Addr) (n : Nat) (l : List ByteArray) : Prop where
  len : l.length = n
  big : n ≤ maxLen
  cells : 0 < n → ∃ b o, a = some ⟨b, o, none⟩ ∧ b < w.heap.size ∧ ∀ i, i < n → w.cell? ⟨b, o + i, none⟩ = some (.string (l.getD i ByteArray.empty))
theorem Ss.kept {w w' : World} {a : Option Addr} {n : Nat} {l : List ByteArray} (h : Ss w a n l) (g : Kept w w') : Ss w' a n l :=
  ⟨h.len, h.big, fun hp => by
    obtain ⟨b, o, h1, h2, h3⟩ := h.cells hp
    exact ⟨b, o, h1, Nat.lt_of_lt_of_le h2 g.size, fun i hi => by rw [g.cell (p := ⟨b, o + i, none⟩) h2]; exact h3 i hi⟩⟩

/-- A slice of texts that came in. -/
theorem isStrs_ss {w : World} {x : Addr} {len cap : Nat} {Sx : Nat → ByteArray} (hl : len ≤ cap) (hm : cap ≤ maxLen) (h : ∀ i, i < cap → w.cell? (x.add i) = some (.string (Sx i)) ∧ (Sx i).size ≤ maxLen) :
    ∃ l, Ss w (some x) len l ∧ ∀ s ∈ l, s.size ≤ maxLen := by
  refine ⟨(List.range len).map Sx, ⟨by simp, by omega, fun hp => ?_⟩, fun s hs => ?_⟩
  · obtain ⟨b, off, spot⟩ := x
    have hspot : spot = none := by simpa [Addr.add] using World.cell?_spot (h 0 (by omega)).1
    subst hspot
    refine ⟨b, off, rfl, cell_lt (p := ⟨b, off, none⟩) (by simpa [Addr.add] using (h 0 (by omega)).1), fun i hi => ?_⟩
    have h1 := (h i (by omega)).1
    rw [Go.WideShapes.add_plain] at h1
    rw [h1]
    simp [List.getD, hi]
  · simp only [List.mem_map, List.mem_range] at hs
    obtain ⟨i, hi, rfl⟩ := hs
    exact (h i (by omega)).2
end Go.Proofs.Ytbhojgodkblflaa
