/- The definition's Text, All, Same, Lent, Spoil, Kept (layer 4). -/
import Derived.Test.YtcmhfmbpbbdemabRefWire1
namespace Go.Proofs.Ytcmhfmbpbbdemab
open Go.RowKit
set_option linter.unusedSimpArgs false
set_option linter.unusedVariables false

theorem owned_nil {w0 w : World} {a : Option Addr} {n c : Nat} {l : List Int} (h : Owned w0 w (.slice a n c) l) (ha : a = none) : c = 0 := by
  subst ha
  obtain ⟨_, ⟨e, hz⟩ | ⟨g, cap, cur, hv, r⟩⟩ := h
  · cases e; rfl
  · cases hv

theorem str_toList (l : List Int) : (str l).toList = l.map (fun x => UInt8.ofNat x.toNat) := by
  unfold str
  rw [ByteArray.toList_mk]
def twelve : List Int := [1, 2, 3, 4, 5, 6, 7, 8, 9, 10, 11, 12]
/-- Bytes with twelve others behind them. -/
structure Lentd (w : World) (g n c : Nat) (l : List Int) : Prop where
  sl : Sl .u8 w (some ⟨g, 0, none⟩) (n + 12) (l ++ twelve)
  cap : n + 12 ≤ c
  len : l.length = n
  lt : g < w.heap.size

set_option maxHeartbeats 400000 in
theorem ref_Lent (a : Option Addr) (n c : Nat) (l : List Int) (w : World) (hs : Sl .u8 w a n l) (hnil : a = none → c = 0) (hl : n ≤ 1000000) :
    Calls Try.prog 6 #[.slice a n c] w fun e w' => ∃ g d, e = .returned (.slice (some ⟨g, 0, none⟩) n d) ∧ w.heap.size ≤ g ∧ Lentd w' g n d l ∧ Kept w w' := by
  have hlen := hs.len
  have H := hidMk hs
  have HN := hidMk hnil
  clear hs hnil
  go_enter Try.func6, Try.ntmps6
  go_wp2_with (at_builtin; refine wpList_app _ rfl _ _ rfl w _ [] rfl (World.ownsRow_nil _ _ _ _) (Kept.refl _) a n c l rfl H.out HN.out ?c1 ?_)
  case c1 => simp; omega
  intro v1 w1 o1 k1
  have O1 := hidMk o1
  have K1 := hidMk k1
  clear o1 k1
  go_wp2_with (at_builtin; refine wpList_app _ rfl _ _ rfl w _ l rfl (O1.out.alloc _) (K1.out.alloc _) (some ⟨w1.heap.size, 0, none⟩) 12 12 twelve rfl (sl_new .u8 w1 twelve 5 (by unfold twelve maxLen; decide)) (fun h => by cases h) ?c1 ?_)
  case c1 => omega
  intro v2 w2 o2 k2
  have hl2 : (l ++ twelve).length = n + 12 := by rw [List.length_append, hlen]; rfl
  obtain ⟨a2, c2, rfl, s2, n2, q2⟩ := owned_sl o2 (by unfold maxLen; omega)
  rw [hl2] at s2 n2
  have hne : ∃ g, a2 = some ⟨g, 0, none⟩ := by
    obtain ⟨_, ⟨e, hz⟩ | ⟨g, cap, cur, hv, r⟩⟩ := o2
    · omega
    · cases hv; exact ⟨g, rfl⟩
  obtain ⟨g, rfl⟩ := hne
  have HG := hidMk (q2 _ rfl)
  have S2 := hidMk s2
  have K2 := hidMk k2
  clear o2 k2 q2 s2
  rw [hl2]
  clear hl2
  go_wp2_with fail
  go_ret
  exact ⟨g, c2, rfl, HG.out.1, ⟨S2.out, n2, hlen, HG.out.2⟩, K2.out⟩
end Go.Proofs.Ytcmhfmbpbbdemab
