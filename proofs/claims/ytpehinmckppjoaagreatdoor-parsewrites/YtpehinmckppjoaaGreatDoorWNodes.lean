/- A slice of members that came in, as the frame reads it. -/
import Derived.Test.YtpehinmckppjoaaGreatDoorWTree4B
import Derived.Deep.SlicePairs
import Derived.OpenShut
namespace Go.Proofs.YtpehinmckppjoaaGreatDoor
open Go.RowKit
set_option linter.unusedSimpArgs false
set_option linter.unusedVariables false

theorem nodes_ns {w : World} {x : Addr} {len : Nat} {N : Nat → ByteArray} {U : Nat → Int} (hm : len ≤ maxLen) (h : ∀ i, i < len → w.cell? (x.add (i * 2)) = some (.string (N i)) ∧ w.cell? (x.add (i * 2 + 1)) = some (.int .i64 (U i)) ∧ (N i).size ≤ maxLen ∧ isI (U i)) :
    ∃ l, Ns w (some x) len l := by
  have hn : ∀ i, i < len → nmA ((List.range len).map fun i => (N i, U i)) i = N i := fun i hi => by simp [nmA, List.getD, hi]
  have hu : ∀ i, i < len → upA ((List.range len).map fun i => (N i, U i)) i = U i := fun i hi => by simp [upA, List.getD, hi]
  refine ⟨(List.range len).map fun i => (N i, U i), by simp, hm, fun i hi => ?_, fun i hi => ?_, fun hp => ?_⟩
  · simp at hi; rw [hn i hi]; exact (h i hi).2.2.1
  · simp at hi; rw [hu i hi]; exact (h i hi).2.2.2
  · obtain ⟨b, off, spot⟩ := x
    have hspot : spot = none := by simpa [Addr.add] using World.cell?_spot (h 0 (by omega)).1
    subst hspot
    refine ⟨b, off, rfl, cell_lt (p := ⟨b, off, none⟩) (by simpa [Addr.add] using (h 0 (by omega)).1), fun i hi => ?_⟩
    obtain ⟨h1, h2, _⟩ := h i hi
    rw [Go.WideShapes.add_plain] at h1 h2
    rw [hn i hi, hu i hi]
    exact ⟨h1, by rw [Nat.add_assoc]; exact h2⟩
theorem nodes_open {H : Type} {enc : TypeId × Value → H} {w : World} {base : Nat} {spare : Nat → Bool} {held : Bool} {fuel : Nat} {a : Option Addr} {n c : Nat} {x : DataW H × List MemPlace}
    (h : DataW.trod enc Tryz.prog w base spare held fuel 53 [.slice a n c] = some x) : ∃ l, Ns w a n l := by
  rcases Go.Deep.open_slice_pairs Tryz.underlying53 Tryz.underlying61 (by kernel_rfl) rfl rfl (by kernel_rfl) (by kernel_rfl) h with ⟨hcs, _⟩ | ⟨ad, len, cap, m, k, V0, V1, D0, D1, P0, P1, hcs, _, hl, hm, hmm, _, hall⟩
  · simp at hcs
    obtain ⟨rfl, rfl, rfl⟩ := hcs
    exact ⟨[], rfl, Nat.zero_le _, fun i hi => absurd hi (by simp), fun i hi => absurd hi (by simp), fun hp => absurd hp (by omega)⟩
  · simp at hcs
    obtain ⟨rfl, rfl, rfl⟩ := hcs
    have hlm : n ≤ m := by rw [hmm]; split <;> omega
    have each : ∀ i, i < n → ∃ q : ByteArray × Int, w.cell? (ad.add (i * 2)) = some (.string q.1) ∧ w.cell? (ad.add (i * 2 + 1)) = some (.int .i64 q.2) ∧ q.1.size ≤ maxLen ∧ isI q.2 := fun i hi => by
      obtain ⟨h1, h2, h3, h4⟩ := hall i (by omega)
      obtain ⟨s, e1, _, e2⟩ := DataW.trod_string Tryz.underlying9 h3
      obtain ⟨z, e3, _, e4⟩ := DataW.trod_int Tryz.underlying3 h4
      simp only [List.cons.injEq, and_true] at e1 e3
      exact ⟨(s, z), by rw [h1, e1], by rw [h2, e3], e2, isI_of e4⟩
    obtain ⟨q, hq⟩ := Go.Deep.choose_lt each
    exact nodes_ns (N := fun i => (q i).1) (U := fun i => (q i).2) (by omega) hq
end Go.Proofs.YtpehinmckppjoaaGreatDoor
