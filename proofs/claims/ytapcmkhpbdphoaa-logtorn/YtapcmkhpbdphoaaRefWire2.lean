/- The definition's Text, All, Same, Lent, Spoil, Kept (layer 4). -/
import Derived.Test.YtapcmkhpbdphoaaRefWire1
namespace Go.Proofs.Ytapcmkhpbdphoaa
open Go.RowKit
set_option linter.unusedSimpArgs false
set_option linter.unusedVariables false

theorem owned_nil {w0 w : World} {a : Option Addr} {n c : Nat} {l : List Int} (h : Owned w0 w (.slice a n c) l) (ha : a = none) : c = 0 := by
  subst ha
  obtain ⟨_, ⟨e, hz⟩ | ⟨g, cap, cur, hv, r⟩⟩ := h
  · cases e; rfl
  · cases hv

theorem str_toList (l : List Int) : (str l).toList = l.map (fun x => UInt8.ofNat x.toNat) := by
  unfold str
  rw [ByteArray.toList_mk]
def twelve : List Int := [1, 2, 3, 4, 5, 6, 7, 8, 9, 10, 11, 12]
/-- Bytes with twelve others behind them. -/
structure Lentd (w : World) (g n c : Nat) (l : List Int) : Prop where
  sl : Sl .u8 w (some ⟨g, 0, none⟩) (n + 12) (l ++ twelve)
  cap : n + 12 ≤ c
  len : l.length = n
  lt : g < w.heap.size

end Go.Proofs.Ytapcmkhpbdphoaa
