/- dims.Tree. -/
import Derived.Test.YtlcjnldkldkffaaDims10
namespace Go.Proofs.Ytlcjnldkldkffaa
open Go.RowKit Go.Maps
set_option linter.unusedSimpArgs false
set_option linter.unusedVariables false

def treeP (ds : List Dm) (tp : Nat → Nat) (k : Int) : Option Addr := if 0 ≤ k ∧ k < ds.length then some ⟨tp k.toNat, 0, none⟩ else none
set_option maxHeartbeats 1000000 in
theorem dims_Tree {w0 w : World} {p : Nat} {ds : List Dm} {tp : Nat → Nat} {ma : Option Addr} {mc : Nat} {ms : List ByteArray} {lv sc : Int} {dv : Value} (h : DP w0 w p ds tp ma mc ms lv sc dv) (hm : ds.length ≤ 4) (k : Int) :
    Calls Try.prog 16 #[.pointer (some ⟨p, 0, none⟩), .int .i64 k] w fun e w' => e = .returned (.pointer (treeP ds tp k)) ∧ w' = w := by
  have HMN := hidMk (dims_Many h (by omega))
  obtain ⟨da, dc, rfl, hrows⟩ := h.rows (by omega)
  have t0 := h.c0
  clear h
  by_cases h1 : k < 0
  · have HT : treeP ds tp k = none := if_neg (by omega)
    rw [HT]
    clear HT hrows HMN t0
    go_enter Try.func16, Try.ntmps16
    go_wp2_with fail
    go_ret
    exact ⟨rfl, rfl⟩
  · by_cases h2 : k < ds.length
    · obtain ⟨i, rfl⟩ : ∃ i : Nat, k = i := ⟨k.toNat, by omega⟩
      have HT : treeP ds tp i = some ⟨tp i, 0, none⟩ := (if_pos (by omega)).trans (by rw [Int.toNat_natCast])
      rw [HT]
      obtain ⟨b, rfl, hb⟩ := hrows (by omega)
      obtain ⟨c1, c2⟩ := hb i (by omega)
      have h3 : ¬ ((ds.length : Int) ≤ i) := by omega
      clear HT hb
      generalize tp i = q at *
      go_enter Try.func16, Try.ntmps16
      go_wp2_with (go_at_call 9; refine HMN.out.mono ?_; rintro e w1 ⟨rfl, rfl⟩)
      go_ret
      exact ⟨rfl, rfl⟩
    · have HT : treeP ds tp k = none := if_neg (by omega)
      rw [HT]
      have h3 : (ds.length : Int) ≤ k := by omega
      clear HT hrows t0
      go_enter Try.func16, Try.ntmps16
      go_wp2_with (go_at_call 9; refine HMN.out.mono ?_; rintro e w1 ⟨rfl, rfl⟩)
      go_ret
      exact ⟨rfl, rfl⟩
end Go.Proofs.Ytlcjnldkldkffaa
