/- The definition's Read. -/
import Derived.Test.YtifddieoekbnfaaDoorText5
namespace Go.Proofs.YtifddieoekbnfaaDoor
open Go.RowKit
set_option linter.unusedSimpArgs false
set_option linter.unusedVariables false

theorem bytes_ne {a b : ByteArray} (h : a ≠ b) : (a.toList == b.toList) = false := by
  rw [beq_eq_false_iff_ne]
  intro e
  apply h
  apply ByteArray.ext
  rw [ByteArray.toList_eq, ByteArray.toList_eq] at e
  exact Array.ext' e
theorem valR_take (s : ByteArray) (k : Nat) (h : k < s.size) : valR 0 ((byt s).take (k + 1)) = if digB (bat s k) then (valR 0 ((byt s).take k) * 10 + (bat s k - 48)) % 18446744073709551616 else valR 0 ((byt s).take k) := by
  have h' : k < (byt s).length := by rw [byt_len]; exact h
  rw [List.take_succ_eq_append_getElem h', valR_app]
  have e : bat s k = (byt s)[k] := by unfold bat; rw [List.getD_eq_getElem?_getD, List.getElem?_eq_getElem h']; rfl
  rw [e]
  rfl
/-- What the definition's Read comes to. -/
def refV (s : ByteArray) : Int := if 0 < s.size ∧ bat s 0 = 45 then wrap64 (IntKind.u64.wrap (-valR 0 (byt s))) else wrap64 (valR 0 (byt s))
theorem refV_is (s : ByteArray) : isI (refV s) := by
  unfold refV; split <;> exact wrap64_is _
theorem refV_num (v : Int) (hv : isI v) : refV (numS v) = v := by
  have h1 := numL_head v
  have e : bat (numS v) 0 = (numL v).getD 0 0 := by unfold bat; rw [numS_byt]
  have hs : 0 < (numS v).size := by unfold numS; rw [str_size]; exact h1.1
  unfold refV
  rw [numS_byt, valR_num v hv, e]
  unfold isI at hv
  by_cases h : v < 0
  · rw [if_pos ⟨hs, h1.2.2 h⟩, if_pos h, IntKind.wrap_u64]
    unfold wrap64; omega
  · rw [if_neg (fun hh => h (h1.2.1 hh.2)), if_neg h]
    unfold wrap64; omega

set_option maxHeartbeats 1000000 in
set_option maxRecDepth 100000 in
theorem ref_Read (s : ByteArray) (hs : s.size ≤ 9223372036854775806) (w : World) :
    Calls Tryd.prog 33 #[.string s] w fun e w' => e = .returned (.tuple #[.int .i64 (if numS (refV s) = s ∧ s.size ≤ 20 then refV s else 0), .int .i64 (if numS (refV s) = s ∧ s.size ≤ 20 then 0 else 6)]) ∧ w' = w := by
  by_cases g0 : 20 < s.size
  · rw [if_neg (by omega), if_neg (by omega)]
    have g0' : (20 : Int) < (s.size : Int) := by omega
    go_enter Tryd.func33, Tryd.ntmps33
    go_wp2
    go_ret2
    exact ⟨rfl, rfl⟩
  have g0' : (s.size : Int) ≤ 20 := by omega
  obtain ⟨A, hA⟩ : ∃ A, (if numS (refV s) = s ∧ s.size ≤ 20 then refV s else 0) = A := ⟨_, rfl⟩
  obtain ⟨E, hE⟩ : ∃ E : Int, (if numS (refV s) = s ∧ s.size ≤ 20 then 0 else 6) = E := ⟨_, rfl⟩
  rw [hA, hE]
  have HA := hidMk hA
  have HE := hidMk hE
  clear hA hE
  go_enter Tryd.func33, Tryd.ntmps33
  go_wp2
  go_loopw [4, 5] (fun n i wr => ∃ k : Nat, k ≤ s.size ∧ i = .int .i64 k ∧ wr = w ∧ n = .int .u64 (valR 0 ((byt s).take k))) (fun _ i _ => s.size - (intOf i).toNat)
  case atStart => exact ⟨0, Nat.zero_le _, rfl, rfl, rfl⟩
  case round =>
    obtain ⟨k, hk, rfl, rfl, rfl⟩ := hrel
    by_cases hks : k < s.size
    · have i1 := run_at (P := Tryd.prog) Tryd.underlying9 s .i64 k hks
      have HT := hidMk (valR_take s k hks)
      have hu := valR_isU ((byt s).take k) 0 (by unfold isU; omega)
      unfold isU at hu
      have hb := bat_is s k
      have HD := hidMk (ref_digit (bat s k))
      generalize valR 0 ((byt s).take k) = acc at *
      generalize bat s k = c at *
      cases hd : digB c with
      | true =>
        rw [hd] at HD
        have hc : 48 ≤ c ∧ c ≤ 57 := by unfold digB at hd; simpa using hd
        have HT2 := hidMk (show valR 0 ((byt s).take (k + 1)) = (acc * 10 + (c - 48)) % 18446744073709551616 by rw [HT.out, if_pos hd])
        have hst : IntKind.u64.wrap (IntKind.u64.wrap (acc * 10) + (c - 48)) = (acc * 10 + (c - 48)) % 18446744073709551616 := by rw [IntKind.wrap_u64, IntKind.wrap_u64]; omega
        clear HT hd
        obtain ⟨c1, c2⟩ := hc
        go_wp2_with (go_at_call 48; refine (HD.out _).mono ?_; rintro e w1 ⟨rfl, rfl⟩)
        exact ⟨⟨k + 1, by omega, by go_num, trivial, by rw [HT2.out]⟩, by simp [intOf]; omega⟩
      | false =>
        rw [hd] at HD
        have HT2 := hidMk (show valR 0 ((byt s).take (k + 1)) = acc by rw [HT.out, if_neg (by rw [hd]; simp)])
        clear HT hd
        go_wp2_with (go_at_call 48; refine (HD.out _).mono ?_; rintro e w1 ⟨rfl, rfl⟩)
        exact ⟨⟨k + 1, by omega, by go_num, trivial, by rw [HT2.out]⟩, by simp [intOf]; omega⟩
    · have ht : (byt s).take k = byt s := List.take_of_length_le (by rw [byt_len]; omega)
      rw [ht]
      have hks' : ¬ ((k : Int) < (s.size : Int)) := by omega
      have hu := valR_isU (byt s) 0 (by unfold isU; omega)
      unfold isU at hu
      have HN := hidMk (ref_Num (refV s) (refV_is s))
      by_cases hneg : 0 < s.size ∧ bat s 0 = 45
      · have hr : wrap64 (IntKind.u64.wrap (-valR 0 (byt s))) = refV s := by unfold refV; rw [if_pos hneg]
        have i0 : ∀ w, (Instr.index 9 (.string s) (.int .i64 0)).run Tryd.prog w = .ok (.int .u8 45) w := fun w => by
          have := run_at (P := Tryd.prog) Tryd.underlying9 s .i64 0 hneg.1 w
          rw [hneg.2] at this
          exact this
        have hp : (0 : Int) < (s.size : Int) := by omega
        clear ht
        generalize refV s = v at *
        generalize valR 0 (byt s) = n at *
        clear hneg
        by_cases hn : numS v = s
        · have HAA := hidMk (show A = v by rw [← HA.out, if_pos ⟨hn, by omega⟩])
          have HEE := hidMk (show E = 0 by rw [← HE.out, if_pos ⟨hn, by omega⟩])
          rw [hn] at HN
          clear hn
          go_wp2_with (go_at_call 49; refine (HN.out _).mono ?_; rintro e w1 ⟨rfl, rfl⟩)
          go_ret2
          rw [HAA.out, HEE.out]
          exact ⟨rfl, rfl⟩
        · have HAA := hidMk (show A = 0 by rw [← HA.out, if_neg (fun h => hn h.1)])
          have HEE := hidMk (show E = 6 by rw [← HE.out, if_neg (fun h => hn h.1)])
          have hb := bytes_ne hn
          clear hn
          generalize numS v = x at *
          go_wp2_with (go_at_call 49; refine (HN.out _).mono ?_; rintro e w1 ⟨rfl, rfl⟩)
          go_ret2
          rw [HAA.out, HEE.out]
          exact ⟨rfl, rfl⟩
      · have hr : wrap64 (valR 0 (byt s)) = refV s := by unfold refV; rw [if_neg hneg]
        by_cases hp : 0 < s.size
        · have hb0 : (bat s 0 == 45) = false := by
            rw [beq_eq_false_iff_ne]
            exact fun e => hneg ⟨hp, e⟩
          have i0 : ∀ w, (Instr.index 9 (.string s) (.int .i64 0)).run Tryd.prog w = .ok (.int .u8 (bat s 0)) w := run_at (P := Tryd.prog) Tryd.underlying9 s .i64 0 hp
          have hp' : (0 : Int) < (s.size : Int) := by omega
          clear ht hneg
          generalize bat s 0 = c0 at *
          generalize refV s = v at *
          generalize valR 0 (byt s) = n at *
          by_cases hn : numS v = s
          · have HAA := hidMk (show A = v by rw [← HA.out, if_pos ⟨hn, by omega⟩])
            have HEE := hidMk (show E = 0 by rw [← HE.out, if_pos ⟨hn, by omega⟩])
            rw [hn] at HN
            clear hn
            go_wp2_with (go_at_call 49; refine (HN.out _).mono ?_; rintro e w1 ⟨rfl, rfl⟩)
            go_ret2
            rw [HAA.out, HEE.out]
            exact ⟨rfl, rfl⟩
          · have HAA := hidMk (show A = 0 by rw [← HA.out, if_neg (fun h => hn h.1)])
            have HEE := hidMk (show E = 6 by rw [← HE.out, if_neg (fun h => hn h.1)])
            have hb := bytes_ne hn
            clear hn
            generalize numS v = x at *
            go_wp2_with (go_at_call 49; refine (HN.out _).mono ?_; rintro e w1 ⟨rfl, rfl⟩)
            go_ret2
            rw [HAA.out, HEE.out]
            exact ⟨rfl, rfl⟩
        · have hp' : ¬ ((0 : Int) < (s.size : Int)) := by omega
          have hn : numS (refV s) ≠ s := by
            intro e
            have h1 := (numL_head (refV s)).1
            have h2 : (numS (refV s)).size = (numL (refV s)).length := by unfold numS; rw [str_size]
            rw [e] at h2
            omega
          have HAA := hidMk (show A = 0 by rw [← HA.out, if_neg (fun h => hn h.1)])
          have HEE := hidMk (show E = 6 by rw [← HE.out, if_neg (fun h => hn h.1)])
          have hb := bytes_ne hn
          clear hn ht hneg
          generalize refV s = v at *
          generalize valR 0 (byt s) = n at *
          generalize numS v = x at *
          go_wp2_with (go_at_call 49; refine (HN.out _).mono ?_; rintro e w1 ⟨rfl, rfl⟩)
          go_ret2
          rw [HAA.out, HEE.out]
          exact ⟨rfl, rfl⟩

theorem ref_Read_ok (v : Int) (hv : isI v) (w : World) : Calls Tryd.prog 33 #[.string (numS v)] w fun e w' => e = .returned (.tuple #[.int .i64 v, .int .i64 0]) ∧ w' = w := by
  have hs := numS_size v hv
  have h := ref_Read (numS v) (by omega) w
  rw [refV_num v hv, if_pos ⟨rfl, hs⟩, if_pos ⟨rfl, hs⟩] at h
  exact h
theorem ref_Read_no (s : ByteArray) (hs : s.size ≤ 9223372036854775806) (hno : ∀ v, isI v → numS v ≠ s) (w : World) : Calls Tryd.prog 33 #[.string s] w fun e w' => e = .returned (.tuple #[.int .i64 0, .int .i64 6]) ∧ w' = w := by
  have h := ref_Read s hs w
  have hn := hno (refV s) (refV_is s)
  rw [if_neg (fun h => hn h.1), if_neg (fun h => hn h.1)] at h
  exact h
end Go.Proofs.YtifddieoekbnfaaDoor
