/- rec: bytes that are lent, as a row of one's own. -/
import Derived.Test.YtcmhfmbpbbdemabRec5
import Derived.Test.YtcmhfmbpbbdemabRefWire2
namespace Go.Proofs.Ytcmhfmbpbbdemab
open Go.RowKit Go.Maps
set_option linter.unusedSimpArgs false
set_option linter.unusedVariables false

theorem own_cut {w0 w : World} {g n N d : Nat} {l m : List Int} (h : Owned w0 w (.slice (some ⟨g, 0, none⟩) N d) (l ++ m)) (hN : N = n + m.length) (hn : l.length = n) : Owned w0 w (.slice (some ⟨g, 0, none⟩) n d) l := by
  obtain ⟨h0, ⟨e, _⟩ | ⟨g', cap, cur, hv, hb, hheap, hc, hcm, hsz, htk⟩⟩ := h
  · cases e
  · cases hv
    subst hn
    refine ⟨by simp, .inr ⟨g, d, cur, rfl, hb, hheap, by simp at hc; omega, hcm, hsz, ?_⟩⟩
    have h2 : (cur.toList.take ((l ++ m).length * 1)).take (l.length * 1) = ((l ++ m).map (Value.int .u8)).take (l.length * 1) := by rw [htk]
    rw [List.take_take, Nat.min_eq_left (by simp), List.map_append, List.take_left' (by simp)] at h2
    exact h2
set_option maxHeartbeats 1000000 in
theorem ref_LentO (a : Option Addr) (n c : Nat) (l : List Int) (w : World) (hs : Sl .u8 w a n l) (hnil : a = none → c = 0) (hl : n ≤ 1000000) :
    Calls Try.prog 6 #[.slice a n c] w fun e w' => ∃ g d, e = .returned (.slice (some ⟨g, 0, none⟩) n d) ∧ w.heap.size ≤ g ∧ Owned w w' (.slice (some ⟨g, 0, none⟩) n d) l ∧ Kept w w' := by
  have hlen := hs.len
  have H := hidMk hs
  have HN := hidMk hnil
  clear hs hnil
  go_enter Try.func6, Try.ntmps6
  go_wp2_with (at_builtin; refine wpList_app _ rfl _ _ rfl w _ [] rfl (World.ownsRow_nil _ _ _ _) (Kept.refl _) a n c l rfl H.out HN.out ?c1 ?_)
  case c1 => simp; omega
  intro v1 w1 o1 k1
  have O1 := hidMk o1
  have K1 := hidMk k1
  clear o1 k1
  go_wp2_with (at_builtin; refine wpList_app _ rfl _ _ rfl w _ l rfl (O1.out.alloc _) (K1.out.alloc _) (some ⟨w1.heap.size, 0, none⟩) 12 12 twelve rfl (sl_new .u8 w1 twelve 5 (by unfold twelve maxLen; decide)) (fun h => by cases h) ?c1 ?_)
  case c1 => omega
  intro v2 w2 o2 k2
  have hl2 : (l ++ twelve).length = n + 12 := by rw [List.length_append, hlen]; rfl
  obtain ⟨g, c2, rfl, hg1, hg2⟩ := owned_at o2 (by omega)
  rw [hl2] at o2 ⊢
  have q := own_cap o2
  have O2 := hidMk (own_cut o2 (show n + 12 = n + twelve.length from rfl) hlen)
  have K2 := hidMk k2
  have q1 : (n : Int) ≤ (c2 : Int) := by omega
  clear o2 k2 hl2
  go_wp2_with fail
  go_ret
  exact ⟨g, c2, rfl, hg1, O2.out, K2.out⟩
end Go.Proofs.Ytcmhfmbpbbdemab
