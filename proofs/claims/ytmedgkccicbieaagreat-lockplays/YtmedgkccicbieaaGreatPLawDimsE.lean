/- Facts of catalogues that can be. · For DimsMakes: each name of a catalogue that can be leads to its place. · '==' of two cells. -/
import Derived.Test.YtmedgkccicbieaaGreatPLawDims2
namespace Go.Proofs.YtmedgkccicbieaaGreat
open Go.RowKit Go.Maps
set_option linter.unusedSimpArgs false
set_option linter.unusedVariables false

theorem add_one {ds : List Dm} {k : Nat} {e e' : Int} (h : AddOk ds k e) (h' : AddOk ds k e') : e = e' := by
  rcases h with ⟨h1, h2⟩ | ⟨h1, h2, h3⟩ | ⟨h1, h2, a, h3⟩ <;> rcases h' with ⟨g1, g2⟩ | ⟨g1, g2, g3⟩ | ⟨g1, g2, a', g3⟩
  · omega
  · rw [h1] at g1; cases g1
  · rw [h1] at g1; cases g1
  · rw [h1] at g1; cases g1
  · omega
  · exact absurd g2 h2
  · rw [h1] at g1; cases g1
  · exact absurd h2 g2
  · exact (newIs_one h3 g3).2
theorem check_one {ms : List ByteArray} {ds : List Dm} {lv sc e e' : Int} (h : CheckIs ms ds lv sc e) (h' : CheckIs ms ds lv sc e') : e = e' := by
  rcases h with ⟨i, h1, h2, h3, h4⟩ | ⟨h1, h2⟩ <;> rcases h' with ⟨i', g1, g2, g3, g4⟩ | ⟨g1, g2⟩
  · have : i = i' := by
      rcases Nat.lt_trichotomy i i' with c | c | c
      · exact absurd (g3 i c) h2
      · exact c
      · exact absurd (h3 i' c) g2
    subst this
    omega
  · exact absurd (g1 i h1) h2
  · exact absurd (h1 i' g1) g2
  · omega
theorem cat_one {ds : List Dm} {ms : List ByteArray} {lv sc a e a' e' : Int} (h : CatIs ds ms lv sc a e) (h' : CatIs ds ms lv sc a' e') : a = a' ∧ e = e' := by
  rcases h with ⟨h1, h2, h3⟩ | ⟨h1, ⟨k, k1, k2, k3, k4, k5⟩ | ⟨l1, l2, l3⟩⟩ <;> rcases h' with ⟨g1, g2, g3⟩ | ⟨g1, ⟨k', q1, q2, q3, q4, q5⟩ | ⟨m1, m2, m3⟩⟩
  · omega
  · exact absurd g1 h1
  · exact absurd g1 h1
  · exact absurd h1 g1
  · have : k = k' := by
      rcases Nat.lt_trichotomy k k' with c | c | c
      · exact absurd (add_one k2 (q4 k c)) k3
      · exact c
      · exact absurd (add_one q2 (k4 k' c)) q3
    subst this
    exact ⟨by omega, add_one k2 q2⟩
  · exact absurd (add_one k2 (m1 k k1)) k3
  · exact absurd h1 g1
  · exact absurd (add_one q2 (l1 k' q1)) q3
  · have := check_one l2 m2
    subst this
    exact ⟨by rw [l3, m3], rfl⟩
structure CatOk (ds : List Dm) (ms : List ByteArray) : Prop where
  d1 : 1 ≤ ds.length
  d4 : ds.length ≤ 4
  m1 : 1 ≤ ms.length
  m4 : ms.length ≤ 4
  add : ∀ j, j < ds.length → AddOk ds j 0
  meas : ∀ j, j < ms.length → measE ms j = 0
theorem cat_ok {ds : List Dm} {ms : List ByteArray} {lv sc a : Int} (h : CatIs ds ms lv sc a 0) : CatOk ds ms := by
  rcases h with ⟨_, _, h3⟩ | ⟨h1, ⟨k, k1, k2, k3, k4, k5⟩ | ⟨l1, ⟨i, _, l2, _, l3⟩ | ⟨l2, _⟩, l3⟩⟩
  · omega
  · exact absurd rfl k3
  · exact absurd l3.symm l2
  · exact ⟨h1.1, h1.2.1, h1.2.2.1, h1.2.2.2, l1, l2⟩
end Go.Proofs.YtmedgkccicbieaaGreat
namespace Go.Proofs.YtmedgkccicbieaaGreat
open Go.RowKit Go.Maps
theorem CatOk.place {ds : List Dm} {ms : List ByteArray} (h : CatOk ds ms) {k : Nat} (hk : k < ds.length) : idxI (lbl ds) (dmN ds k) = k := by
  have hl : (lbl ds).length = ds.length := lbl_len ds
  have h1 : idxS (lbl ds) (dmN ds k) ≤ k := idxS_le (by omega) (lbl_get ds k hk)
  have e1 : idxI (lbl ds) (dmN ds k) = idxS (lbl ds) (dmN ds k) := if_pos (by omega)
  have hi := idx_ahead hk
  rcases h.add k hk with ⟨_, e⟩ | ⟨_, _, e⟩ | ⟨_, g, _⟩
  · omega
  · omega
  · have := hi.1 g
    omega
end Go.Proofs.YtmedgkccicbieaaGreat
