/- The reference's New of a catalogue: the walk. -/
import Derived.Test.YtofppldiipjllaaRefDims8
namespace Go.Proofs.Ytofppldiipjllaa
open Go.RowKit Go.Maps
set_option linter.unusedSimpArgs false
set_option linter.unusedVariables false

theorem new_good {l : List Nd} {at_ : Int} (h : NewIs l at_ 0) : Good l ∧ 1 ≤ l.length ∧ l.length ≤ 32 := by
  rcases h with ⟨_, _, h⟩ | ⟨h1, ⟨h2, _⟩ | ⟨q, i, hb, _, he⟩⟩
  · omega
  · exact ⟨h2, h1⟩
  · exact absurd he.symm hb.2.2.1
theorem add_good {ds : List Dm} {k : Nat} (h : AddOk ds k 0) : Good (dmL ds k) ∧ 1 ≤ (dmL ds k).length ∧ (dmL ds k).length ≤ 32 := by
  rcases h with ⟨_, h⟩ | ⟨_, _, h⟩ | ⟨_, _, at_, h⟩
  · omega
  · omega
  · exact new_good h
theorem cells_small {m : Nat} {ds : List Dm} {k : Nat} (hm : m ≤ 4) (hk : k < ds.length) (hd : ds.length ≤ 4) (h : ∀ j, j < k + 1 → AddOk ds j 0) : cellsN m (ds.take k) * (dmL ds k).length ≤ 51840000 ∧ leavesN m (ds.take k) * (lvsN (dmL ds k)).length ≤ 51840000 := by
  have hall : ∀ d, d ∈ ds.take (k + 1) → d.2.length ≤ 60 ∧ (lvsN d.2).length ≤ 60 := fun d hd => by
    obtain ⟨t, ht, e⟩ := List.getElem_of_mem hd
    have ht' : t < k + 1 := by rw [List.length_take] at ht; omega
    obtain ⟨g1, g2, g3⟩ := add_good (h t ht')
    have : dmL ds t = d.2 := by
      rw [List.getElem_take] at e
      simp [dmL, List.getD, List.getElem?_eq_getElem (show t < ds.length by omega), e]
    rw [this] at g1 g3
    have := lvs_len (tr_of g1)
    omega
  obtain ⟨b1, b2⟩ := cells_le (m := m) hall
  obtain ⟨e1, e2⟩ := cells_take (m := m) hk
  have hp4 := pow_le4 (m := m) (k := (ds.take (k + 1)).length) hm (by rw [List.length_take]; omega)
  rw [← e1, ← e2]
  exact ⟨Nat.le_trans b1 hp4, Nat.le_trans b2 hp4⟩
set_option maxHeartbeats 4000000 in
set_option maxRecDepth 100000 in
theorem ref6_New_no (a : Option Addr) (n c : Nat) (ds : List Dm) (b : Option Addr) (m d : Nat) (ms : List ByteArray) (lv sc : Int) (w : World) (hln : ds.length = n) (hlm : ms.length = m) (hno : ¬ (1 ≤ n ∧ n ≤ 4 ∧ 1 ≤ m ∧ m ≤ 4)) :
    Calls Try.prog 8 #[.agg #[.slice a n c, .slice b m d, .int .i64 lv, .int .i64 sc]] w (RNewPost w ds ms lv sc) := by
  have HF := hidMk (show RNewPost w ds ms lv sc (.returned (.tuple #[.pointer none, .int .i64 (-1), .int .i64 5])) (w.alloc (.cells #[.slice a n c, .slice b m d, .int .i64 lv, .int .i64 sc] 25)) from .inr ⟨-1, 5, rfl, by omega, .inl ⟨by omega, rfl, rfl⟩, (Kept.refl w).alloc _⟩)
  by_cases h1 : n = 0
  · subst h1
    clear hno hln hlm
    go_enter Try.func8, Try.ntmps8
    go_wp2_with fail
    go_ret3
    exact HF.out
  have h1' : ((n : Int) == 0) = false := by simpa using h1
  by_cases h2 : 4 < n
  · have h2' : (4 : Int) < n := by omega
    clear hno hln hlm h1
    go_enter Try.func8, Try.ntmps8
    go_wp2_with fail
    go_ret3
    exact HF.out
  have h2' : (n : Int) ≤ 4 := by omega
  by_cases h3 : m = 0
  · subst h3
    clear hno hln hlm h1
    go_enter Try.func8, Try.ntmps8
    go_wp2_with fail
    go_ret3
    exact HF.out
  have h3' : ((m : Int) == 0) = false := by simpa using h3
  have h4 : 4 < m := by omega
  have h4' : (4 : Int) < m := by omega
  clear hno hln hlm h1 h3
  go_enter Try.func8, Try.ntmps8
  go_wp2_with fail
  go_ret3
  exact HF.out
end Go.Proofs.Ytofppldiipjllaa
