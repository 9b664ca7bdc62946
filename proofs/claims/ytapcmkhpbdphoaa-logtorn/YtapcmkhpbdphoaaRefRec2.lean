/- rec: the definition's Put. -/
import Derived.Test.YtapcmkhpbdphoaaRefRec1
import Derived.Test.YtapcmkhpbdphoaaRec6
import Derived.Test.YtapcmkhpbdphoaaRefWire3
namespace Go.Proofs.Ytapcmkhpbdphoaa
open Go.RowKit Go.Maps
set_option linter.unusedSimpArgs false
set_option linter.unusedVariables false

set_option maxHeartbeats 1000000 in
theorem ref24_Put_bad (a : Option Addr) (n c : Nat) (w : World) (h : n = 0 ∨ 250 < n) : Calls Try.prog 14 #[.slice a n c] w fun e w' => e = .returned (.tuple #[.slice none 0 0, .int .i64 5]) ∧ w' = w := by
  by_cases h0 : n = 0
  · subst h0
    clear h
    go_enter Try.func14, Try.ntmps14
    go_wp2_with fail
    go_ret2
    exact ⟨rfl, rfl⟩
  · have h1 : (250 : Int) < (n : Int) := by omega
    have h2 : (1 : Int) ≤ (n : Int) := by omega
    clear h h0
    go_enter Try.func14, Try.ntmps14
    go_wp2_with fail
    go_ret2
    exact ⟨rfl, rfl⟩
set_option maxHeartbeats 4000000 in
theorem ref24_Put (a : Option Addr) (n c : Nat) (l : List Int) (w : World) (hs : Sl .u8 w a n l) (hb : ∀ x ∈ l, isB x) (hnil : a = none → c = 0) (h1 : 1 ≤ n) (h2 : n ≤ 250) :
    Calls Try.prog 14 #[.slice a n c] w fun e w' => ∃ v, e = .returned (.tuple #[v, .int .i64 0]) ∧ Owned w w' v (recB l) ∧ Kept w w' := by
  have hlen := hs.len
  have H := hidMk hs
  have HB := hidMk hb
  have HN := hidMk hnil
  have h3 : (1 : Int) ≤ (n : Int) := by omega
  have h4 : (n : Int) ≤ 250 := by omega
  have hi : isI ((n : Int) + 1) := by unfold isI; omega
  have HEL := hidMk (encI_len _ hi)
  have HI := hidMk hi
  have hlt := sumN_lt hb
  clear hs hb hnil hi
  go_enter Try.func14, Try.ntmps14
  go_wp2_with fail
  refine (ref_Put none 0 0 [] ((n : Int) + 1) w ⟨rfl, Nat.zero_le _, fun h => absurd h (by omega)⟩ (fun _ => rfl) HI.out (by omega)).mono ?_
  rintro e w1 ⟨v1, rfl, o1, k1⟩
  rw [List.nil_append] at o1
  have O1 := hidMk o1
  have K1 := hidMk k1
  clear o1 k1
  go_wp2_with (at_builtin; refine wpList_app _ rfl _ _ rfl w _ (encI ((n : Int) + 1)) rfl O1.out K1.out a n c l rfl (H.out.kept K1.out) HN.out ?c1 ?_)
  case c1 => have := HEL.out; omega
  intro v2 w2 o2 k2
  obtain ⟨P2, hP2⟩ : ∃ P, P = encI ((n : Int) + 1) ++ l := ⟨_, rfl⟩
  rw [← hP2] at o2
  have HRB2 := hidMk (show recB l = P2 ++ (sb (sumN l) ++ [165]) by unfold recB; rw [hlen, hP2]; simp)
  have HL2 := hidMk (show P2.length ≤ 1000 by have := HEL.out; rw [hP2, List.length_append]; omega)
  have O2 := hidMk o2
  have K2 := hidMk k2
  clear o2 k2 O1 K1 hP2
  go_wp2_with fail
  refine (ref_Sum a n c l _ (H.out.kept K2.out) HB.out).mono ?_
  rintro e w3 ⟨rfl, rfl⟩
  obtain ⟨s, hs⟩ : ∃ s, s = sumN l := ⟨_, rfl⟩
  rw [← hs] at HRB2 hlt ⊢
  clear hs
  have e0 : IntKind.u8.wrap (s : Int) = ((s % 256 : Nat) : Int) := by rw [IntKind.wrap_u8]; omega
  have HSL := hidMk (sl_new .u8 w3 (sb s ++ [165]) 5 (by simp [sb, maxLen]))
  have HC := hidMk (show ((sb s ++ [165]).map (Value.int .u8)).toArray = #[.int .u8 ((s : Int) % 256), .int .u8 ((s : Int) / 256 % 256), .int .u8 ((s : Int) / 65536 % 256), .int .u8 ((s : Int) / 16777216), .int .u8 165] by unfold sb; rw [show ((s / 16777216 % 256 : Nat) : Int) = (s : Int) / 16777216 by omega]; simp)
  rw [HC.out] at HSL
  have HAL := hidMk (BRow.alloc (.inl O2.out) (.cells #[.int .u8 ((s : Int) % 256), .int .u8 ((s : Int) / 256 % 256), .int .u8 ((s : Int) / 65536 % 256), .int .u8 ((s : Int) / 16777216), .int .u8 165] 5))
  have OAL := hidMk (O2.out.alloc (.cells #[.int .u8 ((s : Int) % 256), .int .u8 ((s : Int) / 256 % 256), .int .u8 ((s : Int) / 65536 % 256), .int .u8 ((s : Int) / 16777216), .int .u8 165] 5))
  have KAL := hidMk (K2.out.alloc (.cells #[.int .u8 ((s : Int) % 256), .int .u8 ((s : Int) / 256 % 256), .int .u8 ((s : Int) / 65536 % 256), .int .u8 ((s : Int) / 16777216), .int .u8 165] 5))
  obtain ⟨B2, hB2⟩ : ∃ B, B = sb s ++ [165] := ⟨_, rfl⟩
  rw [← hB2] at HSL HRB2
  have HBL := hidMk (show B2.length = 5 by rw [hB2]; rfl)
  rw [HBL.out] at HSL
  clear hB2 HC HAL e0
  go_wp2_with (at_builtin; go_loud (refine wpList_app _ (by rfl) _ _ (by rfl) w _ P2 (by rfl) OAL.out KAL.out (some ⟨w3.heap.size, 0, none⟩) 5 5 B2 (by rfl) HSL.out (fun h => by cases h) (by have := HL2.out; omega) ?_; intro v5 w5 o5 k5; have O5 := hidMk o5; have K5 := hidMk k5; clear o5 k5))
  go_ret2
  exact ⟨_, rfl, by rw [HRB2.out]; exact O5.out, K5.out⟩
end Go.Proofs.Ytapcmkhpbdphoaa
