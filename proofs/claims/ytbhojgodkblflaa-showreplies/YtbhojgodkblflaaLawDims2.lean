/- moietylaw06.known. -/
import Derived.Test.YtbhojgodkblflaaLawDims1
import Derived.Test.YtbhojgodkblflaaRefDims10
namespace Go.Proofs.Ytbhojgodkblflaa
open Go.RowKit Go.Maps
set_option linter.unusedSimpArgs false
set_option linter.unusedVariables false

def k6 : List Nd := [(⟨#[97, 108, 108]⟩, -1), (⟨#[97]⟩, 0), (⟨#[98]⟩, 0)]
def ds6 : List Dm := [(⟨#[112, 108, 97, 99, 101]⟩, k6)]
def ms6 : List ByteArray := [⟨#[115, 97, 108, 101, 115]⟩, ⟨#[99, 111, 115, 116]⟩]
def at6 (j : Nat) : Int := if j = 0 then 2 else 0
theorem k6_good : Good k6 := by unfold Good; decide +kernel
theorem k6_new {at_ er : Int} (h : NewIs k6 at_ er) : er = 0 := by
  rcases h with ⟨h, _⟩ | ⟨_, ⟨_, _, h⟩ | ⟨q, i, hb, _, he⟩⟩
  · exact absurd h (by decide)
  · exact h
  · exact absurd (k6_good q hb.1 i hb.2.1) hb.2.2.1
theorem k6_meas : measE ms6 0 = 0 ∧ measE ms6 1 = 0 := by decide +kernel
theorem k6_tail : tailE 2 ds6 9 2 = 0 := by decide +kernel
theorem k6_cat {at_ er : Int} (h : CatIs ds6 ms6 9 2 at_ er) : er = 0 := by
  rcases h with ⟨h, _⟩ | ⟨_, ⟨k, hk, ha, hn, _⟩ | ⟨_, ⟨i, hi, hn, _⟩ | ⟨_, h⟩, _⟩⟩
  · exact absurd h (by decide)
  · have : k = 0 := by have : ds6.length = 1 := rfl; omega
    subst this
    rcases ha with ⟨h, _⟩ | ⟨_, h, _⟩ | ⟨_, _, a, h⟩
    · exact absurd h (by decide +kernel)
    · exact absurd (by decide +kernel) h
    · exact k6_new h
  · have : i = 0 ∨ i = 1 := by have : ms6.length = 2 := rfl; omega
    rcases this with rfl | rfl
    · exact absurd k6_meas.1 hn
    · exact absurd k6_meas.2 hn
  · rw [h]; exact k6_tail
theorem k6_idx : idxI ms6 ⟨#[99, 111, 115, 116]⟩ = 1 := by decide +kernel
theorem k6_fd : fdK ds6 [⟨#[98]⟩] 0 = 2 := by decide +kernel
theorem k6_cell {r : Value} {er : Int} (h : CellIs ms6 ds6 ⟨#[99, 111, 115, 116]⟩ [⟨#[98]⟩] r er) : r = .agg #[.int .i64 1, .int .i64 2, .int .i64 0, .int .i64 0, .int .i64 0] ∧ er = 0 := by
  rcases h with ⟨h, _⟩ | ⟨_, h, _⟩ | ⟨_, _, ⟨k, hk, h⟩, _⟩ | ⟨_, _, _, h1, h2⟩
  · rw [k6_idx] at h; exact absurd h (by decide)
  · exact absurd rfl h
  · have : k = 0 := by have : ds6.length = 1 := rfl; omega
    subst this
    rw [k6_fd] at h; exact absurd h (by decide)
  · refine ⟨?_, h2⟩
    rw [h1, k6_idx]
    unfold cellV atK
    have e : ds6.length = 1 := rfl
    simp [e, k6_fd]
theorem k6_right : rightB ms6 ds6 1 at6 = true := by decide +kernel
theorem k6_show : joinB slash (showL ms6 ds6 1 at6 ds6.length) = ⟨#[99, 111, 115, 116, 47, 98]⟩ := by decide +kernel
theorem k6_len : (slash.data.toList.intercalate (datas (showL ms6 ds6 1 at6 ds6.length))).length ≤ 140737488355328 := by
  have := joinB_size slash (showL ms6 ds6 1 at6 ds6.length)
  rw [k6_show] at this
  rw [← this]
  decide
theorem k6_leaf : leavesB ds6 at6 ds6.length := fun j hj => by
  have : j = 0 := by have : ds6.length = 1 := rfl; omega
  subst this
  decide +kernel
theorem k6_ns (w : World) (t : TypeId) : Ns (w.alloc (.cells #[.string ⟨#[97, 108, 108]⟩, .int .i64 (-1), .string ⟨#[97]⟩, .int .i64 0, .string ⟨#[98]⟩, .int .i64 0] t)) (some ⟨w.heap.size, 0, none⟩) 3 k6 := by
  refine ⟨rfl, by unfold maxLen; omega, ?_, ?_, fun _ => ⟨_, _, rfl, by simp, fun i hi => ?_⟩⟩
  · intro i hi
    have : i = 0 ∨ i = 1 ∨ i = 2 := by have : k6.length = 3 := rfl; omega
    rcases this with rfl | rfl | rfl <;> (unfold maxLen; decide +kernel)
  · intro i hi
    have : i = 0 ∨ i = 1 ∨ i = 2 := by have : k6.length = 3 := rfl; omega
    unfold isI
    rcases this with rfl | rfl | rfl <;> decide +kernel
  · have : i = 0 ∨ i = 1 ∨ i = 2 := by omega
    rcases this with rfl | rfl | rfl <;> simp [k6, nmA, upA]
theorem k6_dss {w : World} {q g : Nat} (h1 : w.cell? ⟨g, 0, none⟩ = some (.string ⟨#[112, 108, 97, 99, 101]⟩)) (h2 : w.cell? ⟨g, 1, none⟩ = some (.slice (some ⟨q, 0, none⟩) 3 3)) (hn : Ns w (some ⟨q, 0, none⟩) 3 k6) : Dss w (some ⟨g, 0, none⟩) 1 ds6 (fun _ => (some ⟨q, 0, none⟩, 3, 3)) := by
  refine ⟨rfl, by unfold maxLen; omega, fun k hk => ?_, fun k hk => ?_, fun _ => ⟨_, _, rfl, cell_lt h1, fun k hk => ?_⟩⟩
  · have : k = 0 := by omega
    subst this
    unfold maxLen; decide +kernel
  · have : k = 0 := by omega
    subst this
    exact hn
  · have : k = 0 := by omega
    subst this
    exact ⟨h1, h2⟩
theorem k6_ss {w : World} {g : Nat} (h1 : w.cell? ⟨g, 0, none⟩ = some (.string ⟨#[115, 97, 108, 101, 115]⟩)) (h2 : w.cell? ⟨g, 1, none⟩ = some (.string ⟨#[99, 111, 115, 116]⟩)) : Ss w (some ⟨g, 0, none⟩) 2 ms6 := by
  refine ⟨rfl, by unfold maxLen; omega, fun _ => ⟨_, _, rfl, cell_lt h1, fun k hk => ?_⟩⟩
  have : k = 0 ∨ k = 1 := by omega
  rcases this with rfl | rfl
  · exact h1
  · exact h2
theorem k6_sz : ∀ i, i < ms6.length → (msA ms6 i).size ≤ maxLen := fun i hi => by
  have : i = 0 ∨ i = 1 := by have : ms6.length = 2 := rfl; omega
  unfold maxLen
  rcases this with rfl | rfl <;> decide +kernel
theorem one_ss {w : World} {g : Nat} {s : ByteArray} (h1 : w.cell? ⟨g, 0, none⟩ = some (.string s)) : Ss w (some ⟨g, 0, none⟩) 1 [s] := by
  refine ⟨rfl, by unfold maxLen; omega, fun _ => ⟨_, _, rfl, cell_lt h1, fun k hk => ?_⟩⟩
  have : k = 0 := by omega
  subst this
  exact h1
theorem new_cell (w : World) (vs : Array Value) (t : TypeId) (g i : Nat) (v : Value) (hg : g = w.heap.size) (hv : vs[i]? = some v) : (w.alloc (.cells vs t)).cell? ⟨g, i, none⟩ = some v := by
  subst hg
  simp [hv]
end Go.Proofs.Ytbhojgodkblflaa
