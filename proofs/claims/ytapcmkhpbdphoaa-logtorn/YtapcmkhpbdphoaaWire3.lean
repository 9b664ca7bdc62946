/- slices.Clone and slices.IndexFunc of bytes; wire.New, wire.number. -/
import Derived.Test.YtapcmkhpbdphoaaByteRow
import Derived.Deep.DeepAppendWide
import Derived.Shelf.GgClosure.Gives
import Derived.Deep.Draws
namespace Go.Proofs.Ytapcmkhpbdphoaa
open Go.RowKit
set_option linter.unusedSimpArgs false
set_option linter.unusedVariables false

set_option maxHeartbeats 400000 in
theorem wire_New (a : Option Addr) (n c : Nat) (l : List Int) (w : World) (hs : Sl .u8 w a n l) (hb : ∀ x ∈ l, isB x) (hl : (n + n / 4 + 192) ≤ 281474976710656) :
    Calls Try.prog 65 #[.slice a n c] w fun e w' => ∃ p, e = .returned (.pointer (some ⟨p, 0, none⟩)) ∧ w.heap.size ≤ p ∧ Rd w' w.heap.size p l 0 ∧ Kept w w' := by
  have H := hidMk hs
  have HB := hidMk hb
  have hlen := hs.len
  have hbig := hs.big
  clear hs hb
  go_enter Try.func65, Try.ntmps65
  go_wp2_with (go_at_call 34; refine (slices_Clone a n c l _ H.out hl).mono ?_; rintro e w1 ⟨v1, rfl, ho, hk⟩; obtain ⟨a1, c1, rfl, hs1, hn1, hb1⟩ := owned_sl ho (by rw [hlen]; exact hbig); rw [hlen] at hs1 hn1; have H1 := hidMk hs1; have H2 := hidMk hk; have H3 := hidMk hb1; clear ho hs1 hk hb1)
  go_ret
  refine ⟨w1.heap.size, rfl, H2.out.size, ⟨⟨a1, n, c1, ⟨by simp, by simp, by simp, by simp, by simp⟩, ?_, hn1, ?_⟩, HB.out⟩, H2.out.alloc _⟩
  · exact H1.out.kept ((Kept.refl w1).alloc _)
  · intro _ ad ha
    exact H3.out ad ha

theorem number_fn (c : Int) (w : World) : Calls Try.prog 74 #[.int .u8 c] w fun e w' => e = .returned (.bool (decide (c < 128))) ∧ w' = w := by
  go_enter Try.func74, Try.ntmps74
  go_wp2
  go_ret
  exact ⟨rfl, rfl⟩

def ixI (l : List Int) : Int := match lastIx l with | none => -1 | some k => k

set_option maxHeartbeats 400000 in
theorem slices_IndexFunc (a : Option Addr) (n c : Nat) (l : List Int) (w : World) (hs : Sl .u8 w a n l) :
    Calls Try.prog 59 #[.slice a n c, .func (.func 74) #[] #[]] w fun e w' => e = .returned (.int .i64 (ixI l)) ∧ w' = w := by
  have H := hidMk hs
  have hbig := hs.big
  have hlen := hs.len
  unfold maxLen at hbig
  clear hs
  go_enter Try.func59, Try.ntmps59
  go_wp2
  go_loopw [5, 8] (fun _ i wr => ∃ k : Nat, k ≤ n ∧ i = .int .i64 k ∧ wr = w ∧ Hid (∀ j, j < k → 128 ≤ l.getD j 0)) (fun _ i _ => n - (intOf i).toNat)
  case atStart => exact ⟨0, Nat.zero_le _, rfl, rfl, hidMk fun j hj => absurd hj (by omega)⟩
  case round =>
    obtain ⟨k, hk, rfl, rfl, HJ⟩ := hrel
    by_cases hkn : k < n
    · obtain ⟨b, o, rfl, hb, hcs⟩ := H.out.cells (by omega)
      have hcell := hcs k hkn
      clear hcs
      have HX := hidMk (show l.getD k 0 = l.getD k 0 from rfl)
      generalize hx : l.getD k 0 = x at hcell
      have H1 := hidMk hx
      clear hx
      by_cases h128 : x < 128
      · have hd : decide (x < 128) = true := by simpa using h128
        have hc := number_fn x
        rw [hd] at hc
        have HC := hidMk hc
        clear hc
        go_wp2_with (go_at_call 74; refine (HC.out _).mono ?_; rintro e w1 ⟨rfl, rfl⟩)
        go_ret
        refine ⟨?_, rfl⟩
        have e := lastIx_at (l := l) (k := k) (by omega) (by rw [H1.out]; exact h128) HJ.out
        unfold ixI
        rw [e]
        rfl
      · have hd : decide (x < 128) = false := by simpa using h128
        have hc := number_fn x
        rw [hd] at hc
        have HC := hidMk hc
        clear hc
        go_wp2_with (go_at_call 74; refine (HC.out _).mono ?_; rintro e w1 ⟨rfl, rfl⟩)
        refine ⟨⟨k + 1, by omega, by go_num, trivial, hidMk fun j hj => ?_⟩, by simp [intOf]; omega⟩
        by_cases e : j = k
        · subst e; rw [H1.out]; omega
        · exact HJ.out j (by omega)
    · have hkn' : k = n := by omega
      subst hkn'
      go_wp2
      go_ret
      refine ⟨?_, rfl⟩
      have e := lastIx_no (l := l) (by rw [hlen]; exact HJ.out)
      unfold ixI
      rw [e]
      rfl
end Go.Proofs.Ytapcmkhpbdphoaa
