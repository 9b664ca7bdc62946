/- The definition's Spoil and Kept (layer 4). -/
import Derived.Test.YtcmhfmbpbbdemaaRefWire2
namespace Go.Proofs.Ytcmhfmbpbbdemaa
open Go.RowKit
set_option linter.unusedSimpArgs false
set_option linter.unusedVariables false

theorem But.grown {g : Nat} {w w' : World} (h : w.grownBy w' (some g)) : But g w w' :=
  ⟨h.os, h.tape, h.output, h.size, fun j hj hne => h.block j hj (by simpa using hne)⟩

set_option maxHeartbeats 400000 in
theorem ref_Spoil (g n c : Nat) (l : List Int) (w0 w : World) (hn : l.length = n) (hm : n ≤ 1000000) (h : Owned w0 w (.slice (some ⟨g, 0, none⟩) n c) l) :
    Calls Try.prog 33 #[.slice (some ⟨g, 0, none⟩) n c] w fun e w' => e = .returned (.tuple #[]) ∧ But g w w' := by
  have H : Hid (w.ownsRow w0.heap.size 5 1 (.slice (some ⟨g, 0, none⟩) n c) n (l.map (Value.int .u8))) := hidMk (by unfold Owned at h; rw [hn] at h; exact h)
  clear h
  go_enter Try.func33, Try.ntmps33
  go_wp2
  go_loopw [2] (fun i wr => ∃ (k : Nat) (m : List Int), k ≤ n ∧ i = .int .i64 k ∧ m.length = n ∧ Hid (wr.ownsRow w0.heap.size 5 1 (.slice (some ⟨g, 0, none⟩) n c) n (m.map (Value.int .u8))) ∧ Hid (But g w wr)) (fun i _ => n - (intOf i).toNat)
  case atStart => exact ⟨0, l, Nat.zero_le _, rfl, hn, H, hidMk (But.refl _ _)⟩
  case round =>
    obtain ⟨k, m, hk, rfl, hml, HO, HW⟩ := hrel
    by_cases hkn : k < n
    · have hcell := HO.out.cellAt k (by omega)
      have hfr := HO.out.frozenAt k
      have hst := fun z : Int => HO.out.stored k (.int .u8 z)
      have HST := hidMk hst
      rw [List.getElem?_map, List.getElem?_eq_getElem (by omega)] at hcell
      simp only [Option.map_some] at hcell
      generalize m[k] = x at *
      clear hst
      go_wp2_with fail
      obtain ⟨z, hz⟩ : ∃ z, bits BinOp.xor IntKind.u8 x 255 = z := ⟨_, rfl⟩
      rw [hz]
      refine ⟨⟨k + 1, m.set k z, by omega, by go_num, by simpa using hml, hidMk ?_, hidMk (HW.out.trans (But.grown (HST.out z).2))⟩, by simp [intOf]; omega⟩
      have := (HST.out z).1
      rw [List.map_set]
      exact this
    · go_wp2_with fail
      go_end0
      exact ⟨rfl, HW.out⟩

theorem twelve_at (l : List Int) (n i : Nat) (hn : l.length = n) (hi : i < 12) : (l ++ twelve).getD (n + i) 0 = (i : Int) + 1 := by
  rw [List.getD_eq_getElem?_getD, List.getElem?_append_right (by omega), show n + i - l.length = i by omega]
  have h : ∀ j : Fin 12, (twelve[j.val]?).getD 0 = ((j.val : Nat) : Int) + 1 := by decide
  exact h ⟨i, hi⟩

set_option maxHeartbeats 1000000 in
set_option maxRecDepth 100000 in
theorem ref_Kept (g n d : Nat) (a : Option Addr) (c : Nat) (l : List Int) (w : World) (h : Lentd w g n d l) (hs : Sl .u8 w a n l) (hb : ∀ x ∈ l, isB x) (hm : n ≤ 1000000) :
    Calls Try.prog 34 #[.slice (some ⟨g, 0, none⟩) n d, .slice a n c] w fun e w' => e = .returned (.bool true) ∧ w' = w := by
  obtain ⟨h1, h2, h3, h4⟩ := h
  have s1 := sl_take h1 n (by omega)
  rw [show (l ++ twelve).take n = l by rw [← h3, List.take_left]] at s1
  have g1 := run_string_sl (c := d) s1 hb
  have g2 := run_string_sl (c := c) hs hb
  have hcells : ∀ i, i < 12 → w.cell? ⟨g, n + i, none⟩ = some (.int .u8 ((i : Int) + 1)) := by
    intro i hi
    obtain ⟨b', o', e, _, hcs⟩ := h1.cells (by omega)
    cases e
    have := hcs (n + i) (by omega)
    rw [Nat.zero_add] at this
    rw [this, twelve_at l n i h3 hi]
  have HC := hidMk hcells
  have hd : (n : Int) + 12 ≤ (d : Int) := by omega
  clear h1 hs hb s1 hcells
  go_enter Try.func34, Try.ntmps34
  go_wp2_with fail
  go_loopw [6] (fun i wr => ∃ k : Nat, k ≤ 12 ∧ i = .int .i64 k ∧ wr = w) (fun i _ => 12 - (intOf i).toNat)
  case atStart => exact ⟨0, Nat.zero_le _, rfl, rfl⟩
  case round =>
    obtain ⟨k, hk, rfl, rfl⟩ := hrel
    by_cases hkn : k < 12
    · have hcell := HC.out k hkn
      have hlt : (k : Int) < 12 := by omega
      go_wp2_with fail
      exact ⟨⟨k + 1, by omega, by go_num, trivial⟩, by simp [intOf]; omega⟩
    · have hkn' : k = 12 := by omega
      subst hkn'
      go_wp2_with fail
      go_ret
      exact ⟨rfl, rfl⟩
end Go.Proofs.Ytcmhfmbpbbdemaa
