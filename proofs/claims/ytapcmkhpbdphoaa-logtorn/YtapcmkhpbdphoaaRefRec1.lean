/- rec: the definition's sum. -/
import Derived.Test.YtapcmkhpbdphoaaRec1
namespace Go.Proofs.Ytapcmkhpbdphoaa
open Go.RowKit Go.Maps
set_option linter.unusedSimpArgs false
set_option linter.unusedVariables false

set_option maxHeartbeats 4000000 in
set_option maxRecDepth 100000 in
theorem ref_Sum (a : Option Addr) (n c : Nat) (l : List Int) (w : World) (hs : Sl .u8 w a n l) (hb : ∀ x ∈ l, isB x) : Calls Try.prog 36 #[.slice a n c] w fun e w' => e = .returned (.int .u32 (sumN l : Nat)) ∧ w' = w := by
  have H := hidMk hs
  have HB := hidMk hb
  have hlen := hs.len
  have hbig := hs.big
  unfold maxLen at hbig
  clear hs hb
  go_enter Try.func36, Try.ntmps36
  go_wp2_with fail
  go_loopg [3, 4] n (fun gg s i wr => ∃ k : Nat, k + gg = n ∧ i = .int .i64 (k : Int) ∧ s = .int .u32 ((crcL (l.take k) : Nat) : Int) ∧ wr = w)
  case atStart => exact ⟨0, by omega, rfl, rfl, rfl⟩
  case round =>
    obtain ⟨k, hkg, rfl, rfl, rfl⟩ := hrel
    have HKG := hidMk hkg
    by_cases hkn : k < n
    · obtain ⟨b, o, rfl, hbb, hcs⟩ := H.out.cells (by omega)
      have hcell := hcs k hkn
      have hxb := HB.out _ (getD_in (l := l) (k := k) (by omega))
      have hc0 := crcL_lt (take_isB HB.out k)
      have HN := hidMk (crcL_take (l := l) (k := k) (by omega))
      have hc1 := crcB_lt hc0 hxb
      have hkn' : (k : Int) < (n : Int) := by omega
      generalize l.getD k 0 = x at *
      have hxx := x32 (crcL (l.take k)) x.toNat hc0 (by unfold isB at hxb; omega)
      rw [show ((x.toNat : Nat) : Int) = x by unfold isB at hxb; omega] at hxx
      have hw1 : IntKind.u32.wrap x = x := by unfold isB at hxb; rw [IntKind.wrap_u32]; omega
      have hw2 : x % 4294967296 = x := by unfold isB at hxb; omega
      generalize crcL (l.take k) ^^^ x.toNat = c1 at *
      generalize crcL (l.take k) = c0 at *
      obtain ⟨gi, hgi⟩ : ∃ gi, gi = gk := ⟨_, rfl⟩
      subst hgi
      clear hcs hxb hkg hc0
      go_wp2_with fail
      go_loopg [3, 5] 8 (fun g2 s j wr2 => ∃ t : Nat, t + g2 = 8 ∧ j = .int .i64 (t : Int) ∧ s = .int .u32 ((stK c1 t : Nat) : Int) ∧ wr2 = wr)
      case atStart => exact ⟨0, by omega, rfl, by simp only [stK] <;> first | rfl | simp [hxx], rfl⟩
      case round =>
        obtain ⟨t, htg, rfl, rfl, rfl⟩ := hrel
        have HTG := hidMk htg
        by_cases ht : t < 8
        · have hlt := stK_lt hc1 t
          have HT1 := hidMk (show stK c1 (t + 1) = st1 (stK c1 t) from rfl)
          have ht' : (t : Int) < 8 := by omega
          have q1 := and32 (stK c1 t) hlt
          by_cases hodd : stK c1 t % 2 = 1
          · have HS := hidMk (show st1 (stK c1 t) = (stK c1 t / 2) ^^^ 3988292384 from if_pos hodd)
            rw [hodd] at q1
            have q2 := x32 (stK c1 t / 2) 3988292384 (by omega) (by decide)
            rw [← HS.out, show ((stK c1 t / 2 : Nat) : Int) = (stK c1 t : Int) / 2 from by omega, show ((3988292384 : Nat) : Int) = 3988292384 from rfl] at q2
            rw [show ((1 : Nat) : Int) = 1 from rfl] at q1
            generalize st1 (stK c1 t) = c2 at *
            generalize stK c1 t = cc at *
            clear htg
            go_wp2_with fail
            go_roundg (gk - 1)
            case measure => have := HTG.out; omega
            case rel => exact ⟨t + 1, by have := HTG.out; omega, by go_num, by rw [HT1.out], rfl⟩
          · have HS := hidMk (show st1 (stK c1 t) = stK c1 t / 2 from if_neg hodd)
            rw [show stK c1 t % 2 = 0 from by omega] at q1
            have q2 := x32 (stK c1 t / 2) 0 (by omega) (by decide)
            rw [Nat.xor_zero, ← HS.out] at q2
            rw [show ((0 : Nat) : Int) = 0 from rfl] at q1 q2
            have q3 : (((st1 (stK c1 t) : Nat)) : Int) = (stK c1 t : Int) / 2 := by rw [HS.out]; omega
            rw [q3] at q2
            have HQ3 := hidMk q3
            clear q3
            generalize st1 (stK c1 t) = c2 at *
            generalize stK c1 t = cc at *
            clear htg
            go_wp2_with fail
            go_roundg (gk - 1)
            case measure => have := HTG.out; omega
            case rel => exact ⟨t + 1, by have := HTG.out; omega, by go_num, by rw [HT1.out, HQ3.out], rfl⟩
        · have ht8 : t = 8 := by omega
          subst ht8
          go_wp2_with fail
          go_roundg (gi - 1)
          case measure => have := HKG.out; omega
          case rel => exact ⟨k + 1, by have := HKG.out; omega, by go_num, by rw [HN.out], rfl⟩
    · have hk : k = n := by omega
      subst hk
      have HT := hidMk (show l.take k = l from List.take_of_length_le (by omega))
      have hlt := crcL_lt HB.out
      have q2 := x32 4294967295 (crcL l) (by decide) hlt
      rw [show ((4294967295 : Nat) : Int) = IntKind.u32.max by decide] at q2
      rw [HT.out]
      have HQ := hidMk q2
      go_wp2_with fail
      go_ret
      exact ⟨by first | rfl | (rw [HQ.out]; rfl), rfl⟩
end Go.Proofs.Ytapcmkhpbdphoaa
