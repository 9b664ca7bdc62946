/- moietylaw06.small. -/
import Derived.Test.YtlcjnldkldkffaaRefDims6
namespace Go.Proofs.Ytlcjnldkldkffaa
open Go.RowKit Go.Maps
set_option linter.unusedSimpArgs false
set_option linter.unusedVariables false

def SmallC (ds : List Dm) (m : Nat) : Prop := ds.length ≤ 20 ∧ m ≤ 20 ∧ ∀ k, k < ds.length → (dmL ds k).length ≤ 60
def SmallPost (w : World) (ds : List Dm) (m : Nat) (e : Ending) (w' : World) : Prop := ∃ r, e = .returned (.bool r) ∧ (r = true ↔ SmallC ds m) ∧ Kept w w'
set_option maxHeartbeats 1000000 in
theorem law6_small (a : Option Addr) (n c : Nat) (ds : List Dm) (na : Nat → Option Addr × Nat × Nat) (b : Option Addr) (m d : Nat) (lv sc : Int) (w : World) (hs : Dss w a n ds na) (hm : m ≤ maxLen) :
    Calls Try.prog 5 #[.agg #[.slice a n c, .slice b m d, .int .i64 lv, .int .i64 sc]] w (SmallPost w ds m) := by
  have HS := hidMk hs
  have hlen := hs.len
  have hbig := hs.big
  unfold maxLen at hbig hm
  clear hs
  by_cases h1 : n ≤ 20 ∧ m ≤ 20
  · have h1' : ¬ ((20 : Int) < n) := by omega
    have h2' : ¬ ((20 : Int) < m) := by omega
    obtain ⟨hn, hm2⟩ := h1
    go_enter Try.func5, Try.ntmps5
    go_wp2_with fail
    refine gen_world (f := fun W => Code.wp _ _ _ _ W) (fun W => Kept w W ∧ W.cell? ⟨w.heap.size, 0, none⟩ = some (.slice a n c)) ⟨(Kept.refl w).alloc _, by simp⟩ ?_
    rintro W ⟨kW, cW⟩
    have HKW := hidMk kW
    clear kW
    go_loopg [3] n (fun g x wr => ∃ k : Nat, k + g = n ∧ x = .int .i64 k ∧ wr = W ∧ Hid (∀ j, j < k → (dmL ds j).length ≤ 60))
    case atStart => exact ⟨0, by omega, rfl, rfl, hidMk fun j hj => absurd hj (by omega)⟩
    case round =>
      obtain ⟨k, hkg, rfl, rfl, HJ⟩ := hrel
      have HKG := hidMk hkg
      by_cases hkn : k < n
      · obtain ⟨bb, oo, rfl, hb, hcs⟩ := HS.out.cells (by omega)
        have c1 := HKW.out.cellp (hcs k hkn).2
        have hl := (HS.out.nds k hkn).len
        have hl2 := (HS.out.nds k hkn).big
        unfold maxLen at hl2
        have hk1 : (k : Int) < n := by omega
        have HYES := hidMk (show (dmL ds k).length ≤ 60 → ∀ j, j < k + 1 → (dmL ds j).length ≤ 60 from fun e j hj => by
          by_cases e' : j = k
          · subst e'; exact e
          · exact HJ.out j (by omega))
        have HNO := hidMk (show ¬ (dmL ds k).length ≤ 60 → ¬ SmallC ds m from fun e h => e (h.2.2 k (by omega)))
        rw [hl] at HYES HNO
        unfold slv at c1
        clear hcs hkg hl
        generalize na k = q at *
        obtain ⟨q1, q2, q3⟩ := q
        by_cases hq : q2 ≤ 60
        · have HY2 := hidMk (HYES.out hq)
          have hq' : ¬ ((60 : Int) < q2) := by omega
          simp only at c1 hl2
          go_wp2_with fail
          go_roundg (gk - 1)
          case measure => have := HKG.out; omega
          case rel => exact ⟨k + 1, by have := HKG.out; omega, by go_num, rfl, HY2⟩
        · have HN2 := hidMk (HNO.out hq)
          have hq' : (60 : Int) < q2 := by omega
          simp only at c1 hl2
          go_wp2_with fail
          go_ret
          exact ⟨false, rfl, ⟨fun e => (by cases e), fun e => absurd e HN2.out⟩, HKW.out⟩
      · have HT := hidMk (show SmallC ds m from ⟨by omega, hm2, fun k hk => HJ.out k (by omega)⟩)
        clear hkg
        have hkk : ¬ ((k : Int) < (n : Int)) := by omega
        go_wp2_with fail
        go_ret
        exact ⟨true, rfl, ⟨fun _ => HT.out, fun _ => rfl⟩, HKW.out⟩
  · have HF := hidMk (show ¬ SmallC ds m from fun h => h1 ⟨by have := h.1; omega, h.2.1⟩)
    by_cases hn : 20 < n
    · have h1' : (20 : Int) < n := by omega
      go_enter Try.func5, Try.ntmps5
      go_wp2_with fail
      go_ret
      exact ⟨false, rfl, ⟨fun e => (by cases e), fun e => absurd e HF.out⟩, (Kept.refl w).alloc _⟩
    · have h1' : ¬ ((20 : Int) < n) := by omega
      have h2' : (20 : Int) < m := by omega
      go_enter Try.func5, Try.ntmps5
      go_wp2_with fail
      go_ret
      exact ⟨false, rfl, ⟨fun e => (by cases e), fun e => absurd e HF.out⟩, (Kept.refl w).alloc _⟩
end Go.Proofs.Ytlcjnldkldkffaa
