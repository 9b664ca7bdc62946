/- rec: bytes that are lent, as a row of one's own. -/
import Derived.Test.YtapcmkhpbdphoaaRec5
import Derived.Test.YtapcmkhpbdphoaaRefWire2
namespace Go.Proofs.Ytapcmkhpbdphoaa
open Go.RowKit Go.Maps
set_option linter.unusedSimpArgs false
set_option linter.unusedVariables false

theorem own_cut {w0 w : World} {g n N d : Nat} {l m : List Int} (h : Owned w0 w (.slice (some ⟨g, 0, none⟩) N d) (l ++ m)) (hN : N = n + m.length) (hn : l.length = n) : Owned w0 w (.slice (some ⟨g, 0, none⟩) n d) l := by
  obtain ⟨h0, ⟨e, _⟩ | ⟨g', cap, cur, hv, hb, hheap, hc, hcm, hsz, htk⟩⟩ := h
  · cases e
  · cases hv
    subst hn
    refine ⟨by simp, .inr ⟨g, d, cur, rfl, hb, hheap, by simp at hc; omega, hcm, hsz, ?_⟩⟩
    have h2 : (cur.toList.take ((l ++ m).length * 1)).take (l.length * 1) = ((l ++ m).map (Value.int .u8)).take (l.length * 1) := by rw [htk]
    rw [List.take_take, Nat.min_eq_left (by simp), List.map_append, List.take_left' (by simp)] at h2
    exact h2
end Go.Proofs.Ytapcmkhpbdphoaa
