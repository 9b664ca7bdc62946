/- wire.number: the number that bytes begin with. -/
import Derived.Test.YtapcmkhpbdphoaaWire3
namespace Go.Proofs.Ytapcmkhpbdphoaa
open Go.RowKit
set_option linter.unusedSimpArgs false
set_option linter.unusedVariables false

set_option maxHeartbeats 1000000 in
set_option maxRecDepth 100000 in
theorem wire_number (a : Option Addr) (n c : Nat) (l : List Int) (w : World) (hs : Sl .u8 w a n l) (hb : ∀ x ∈ l, isB x) :
    Calls Try.prog 72 #[.slice a n c] w fun e w' => e = .returned (.tuple #[.int .i64 (numV l), .int .i64 (numS l), .int .i64 (numE l)]) ∧ Kept w w' := by
  have H := hidMk hs
  have HB := hidMk hb
  have hbig := hs.big
  have hlen := hs.len
  unfold maxLen at hbig
  cases hix : lastIx l with
  | none =>
    have HR := hidMk (show numV l = 0 ∧ numS l = 0 ∧ numE l = 7 by unfold numV numS numE; rw [hix]; exact ⟨rfl, rfl, rfl⟩)
    have hc := slices_IndexFunc a n c l
    have e : ixI l = -1 := by unfold ixI; rw [hix]
    rw [e] at hc
    have HC := hidMk hc
    clear hs hb hix hc e
    go_enter Try.func72, Try.ntmps72
    go_wp2_with (go_at_call 59; refine (HC.out _ H.out).mono ?_; rintro e w1 ⟨rfl, rfl⟩)
    go_ret3
    obtain ⟨h1, h2, h3⟩ := HR.out
    rw [h1, h2, h3]
    exact ⟨rfl, Kept.refl _⟩
  | some k =>
    obtain ⟨hk, hk1, hk2⟩ := lastIx_spec hix
    have hc := slices_IndexFunc a n c l
    have e : ixI l = k := by unfold ixI; rw [hix]
    rw [e] at hc
    have HC := hidMk hc
    obtain ⟨b, o, rfl, hbb, hcs⟩ := hs.cells (by omega)
    have hcell := hcs k (by omega)
    have hxb := hb _ (getD_in hk)
    by_cases hbad : numBad l k
    · have HR := hidMk (show numV l = 0 ∧ numS l = 0 ∧ numE l = 6 by unfold numV numS numE; rw [hix]; exact ⟨if_pos hbad, if_pos hbad, if_pos hbad⟩)
      unfold numBad at hbad
      generalize l.getD k 0 = x at *
      clear hs hb hix hc e hcs hk2
      unfold isB at hxb
      have hk0 : (0 : Int) < (k : Int) := by rcases hbad with ⟨h1, h2⟩ | h1 | ⟨h1, h2⟩ <;> omega
      by_cases hx0 : x = 0
      · subst hx0
        clear hbad
        go_enter Try.func72, Try.ntmps72
        go_wp2_with (go_at_call 59; refine (HC.out _ H.out).mono ?_; rintro e w1 ⟨rfl, rfl⟩)
        go_ret3
        obtain ⟨h1, h2, h3⟩ := HR.out
        rw [h1, h2, h3]
        exact ⟨rfl, Kept.refl _⟩
      · have hxe : (x == 0) = false := by simpa using hx0
        by_cases h10 : 10 < k + 1
        · have h10' : (10 : Int) < (k : Int) + 1 := by omega
          clear hbad
          go_enter Try.func72, Try.ntmps72
          go_wp2_with (go_at_call 59; refine (HC.out _ H.out).mono ?_; rintro e w1 ⟨rfl, rfl⟩)
          go_ret3
          obtain ⟨h1, h2, h3⟩ := HR.out
          rw [h1, h2, h3]
          exact ⟨rfl, Kept.refl _⟩
        · obtain ⟨rfl, hx1⟩ : k = 9 ∧ 1 < x := by rcases hbad with ⟨h1, h2⟩ | h1 | ⟨h1, h2⟩ <;> omega
          clear hbad
          go_enter Try.func72, Try.ntmps72
          go_wp2_with (go_at_call 59; refine (HC.out _ H.out).mono ?_; rintro e w1 ⟨rfl, rfl⟩)
          go_ret3
          obtain ⟨h1, h2, h3⟩ := HR.out
          rw [h1, h2, h3]
          exact ⟨rfl, Kept.refl _⟩
    · have HR := hidMk (show numV l = zag (val (l.take (k + 1))) ∧ numS l = k + 1 ∧ numE l = 0 by unfold numV numS numE; rw [hix]; exact ⟨if_neg hbad, if_neg hbad, if_neg hbad⟩)
      have hfit := val_fits hb hix hbad
      have HF := hidMk hfit
      have HCS := hidMk hcs
      have hx : (k = 0 ∨ l.getD k 0 ≠ 0) ∧ k + 1 ≤ 10 ∧ (k ≠ 9 ∨ l.getD k 0 ≤ 1) := by unfold numBad at hbad; omega
      clear hbad hs hb hix hc e hcs hk2 hfit
      generalize l.getD k 0 = x at *
      unfold isB at hxb
      obtain ⟨h1, h2, h3⟩ := hx
      have hcase : k = 0 ∨ (0 < k ∧ k < 9) ∨ k = 9 := by omega
      rcases hcase with rfl | ⟨c1, c2⟩ | rfl
      · skip
        clear h1 h3
        go_enter Try.func72, Try.ntmps72
        go_wp2_with (go_at_call 59; refine (HC.out _ H.out).mono ?_; rintro e w1 ⟨rfl, rfl⟩)
        go_loop [8, 9] (fun u i => ∃ j : Nat, j ≤ 0 + 1 ∧ i = .int .i64 ((j : Int) - 1) ∧ u = .int .u64 (val ((l.take (0 + 1)).drop j) : Nat)) (fun _ i => (intOf i + 1).toNat)
        case atStart => exact ⟨0 + 1, Nat.le_refl _, by go_num, by rw [List.drop_of_length_le (by rw [List.length_take]; omega)]; rfl⟩
        case round =>
          obtain ⟨j, hj, rfl, rfl⟩ := hrel
          cases j with
          | zero =>
            rw [List.drop_zero]
            have hlt := HF.out
            have HZ := hidMk (show numV l = zag (val (l.take (0 + 1))) from HR.out.1)
            generalize val (l.take (0 + 1)) = u at *
            have g1 := and1_word u hlt
            have G2 := hidMk (zag_word2 u hlt)
            go_wp2
            go_ret3
            refine ⟨?_, Kept.refl _⟩
            obtain ⟨q1, q2, q3⟩ := HR.out
            rw [HZ.out, q2, q3, ← G2.out]
            rfl
          | succ i =>
            have hcell2 := HCS.out i (by omega)
            have hval := val_drop (l := l.take (0 + 1)) (k := i) (by rw [List.length_take]; omega)
            have hle := val_le_drop (l.take (0 + 1)) (i + 1) (by rw [List.length_take]; omega)
            have hgd : (l.take (0 + 1)).getD i 0 = l.getD i 0 := by rw [List.getD_eq_getElem?_getD, List.getD_eq_getElem?_getD, List.getElem?_take_of_lt (by omega)]
            have hyb := HB.out _ (getD_in (l := l) (k := i) (by omega))
            have hlt := HF.out
            rw [hgd] at hval
            have HV := hidMk hval
            generalize l.getD i 0 = y at *
            generalize val ((l.take (0 + 1)).drop (i + 1)) = u at *
            generalize val (l.take (0 + 1)) = U at *
            have hu : 128 * u + 127 < 18446744073709551616 := by
              have : (128 : Nat) ^ 1 ≤ 128 ^ (i + 1) := Nat.pow_le_pow_right (by omega) (by omega)
              have := Nat.mul_le_mul_right u this
              omega
            have g1 := andNot128_word y hyb
            have g2 := join7_word u y hyb hu
            rw [show IntKind.u64.wrap ((u : Int) * 128) = (u : Int) * 128 by rw [IntKind.wrap_u64]; omega] at g2
            have G2 := hidMk g2
            clear hval hgd hle hlt g2
            go_wp2
            exact ⟨⟨i, by omega, rfl, by rw [HV.out, G2.out]⟩, by simp [intOf]⟩
      · have f1 : (x == 0) = false := by simp; omega
        have f2 : (0 : Int) < (k : Int) := by omega
        have f3 : (k : Int) + 1 ≤ 10 := by omega
        have f4 : ((k : Int) + 1 == 10) = false := by simp; omega
        clear h1 h3
        go_enter Try.func72, Try.ntmps72
        go_wp2_with (go_at_call 59; refine (HC.out _ H.out).mono ?_; rintro e w1 ⟨rfl, rfl⟩)
        go_loop [8, 9] (fun u i => ∃ j : Nat, j ≤ k + 1 ∧ i = .int .i64 ((j : Int) - 1) ∧ u = .int .u64 (val ((l.take (k + 1)).drop j) : Nat)) (fun _ i => (intOf i + 1).toNat)
        case atStart => exact ⟨k + 1, Nat.le_refl _, by go_num, by rw [List.drop_of_length_le (by rw [List.length_take]; omega)]; rfl⟩
        case round =>
          obtain ⟨j, hj, rfl, rfl⟩ := hrel
          cases j with
          | zero =>
            rw [List.drop_zero]
            have hlt := HF.out
            have HZ := hidMk (show numV l = zag (val (l.take (k + 1))) from HR.out.1)
            generalize val (l.take (k + 1)) = u at *
            have g1 := and1_word u hlt
            have G2 := hidMk (zag_word2 u hlt)
            go_wp2
            go_ret3
            refine ⟨?_, Kept.refl _⟩
            obtain ⟨q1, q2, q3⟩ := HR.out
            rw [HZ.out, q2, q3, ← G2.out]
            rfl
          | succ i =>
            have hcell2 := HCS.out i (by omega)
            have hval := val_drop (l := l.take (k + 1)) (k := i) (by rw [List.length_take]; omega)
            have hle := val_le_drop (l.take (k + 1)) (i + 1) (by rw [List.length_take]; omega)
            have hgd : (l.take (k + 1)).getD i 0 = l.getD i 0 := by rw [List.getD_eq_getElem?_getD, List.getD_eq_getElem?_getD, List.getElem?_take_of_lt (by omega)]
            have hyb := HB.out _ (getD_in (l := l) (k := i) (by omega))
            have hlt := HF.out
            rw [hgd] at hval
            have HV := hidMk hval
            generalize l.getD i 0 = y at *
            generalize val ((l.take (k + 1)).drop (i + 1)) = u at *
            generalize val (l.take (k + 1)) = U at *
            have hu : 128 * u + 127 < 18446744073709551616 := by
              have : (128 : Nat) ^ 1 ≤ 128 ^ (i + 1) := Nat.pow_le_pow_right (by omega) (by omega)
              have := Nat.mul_le_mul_right u this
              omega
            have g1 := andNot128_word y hyb
            have g2 := join7_word u y hyb hu
            rw [show IntKind.u64.wrap ((u : Int) * 128) = (u : Int) * 128 by rw [IntKind.wrap_u64]; omega] at g2
            have G2 := hidMk g2
            clear hval hgd hle hlt g2
            go_wp2
            exact ⟨⟨i, by omega, rfl, by rw [HV.out, G2.out]⟩, by simp [intOf]⟩
      · have f1 : (x == 0) = false := by simp; omega
        have f5 : x ≤ 1 := by omega
        clear h1 h3
        go_enter Try.func72, Try.ntmps72
        go_wp2_with (go_at_call 59; refine (HC.out _ H.out).mono ?_; rintro e w1 ⟨rfl, rfl⟩)
        go_loop [8, 9] (fun u i => ∃ j : Nat, j ≤ 9 + 1 ∧ i = .int .i64 ((j : Int) - 1) ∧ u = .int .u64 (val ((l.take (9 + 1)).drop j) : Nat)) (fun _ i => (intOf i + 1).toNat)
        case atStart => exact ⟨9 + 1, Nat.le_refl _, by go_num, by rw [List.drop_of_length_le (by rw [List.length_take]; omega)]; rfl⟩
        case round =>
          obtain ⟨j, hj, rfl, rfl⟩ := hrel
          cases j with
          | zero =>
            rw [List.drop_zero]
            have hlt := HF.out
            have HZ := hidMk (show numV l = zag (val (l.take (9 + 1))) from HR.out.1)
            generalize val (l.take (9 + 1)) = u at *
            have g1 := and1_word u hlt
            have G2 := hidMk (zag_word2 u hlt)
            go_wp2
            go_ret3
            refine ⟨?_, Kept.refl _⟩
            obtain ⟨q1, q2, q3⟩ := HR.out
            rw [HZ.out, q2, q3, ← G2.out]
            rfl
          | succ i =>
            have hcell2 := HCS.out i (by omega)
            have hval := val_drop (l := l.take (9 + 1)) (k := i) (by rw [List.length_take]; omega)
            have hle := val_le_drop (l.take (9 + 1)) (i + 1) (by rw [List.length_take]; omega)
            have hgd : (l.take (9 + 1)).getD i 0 = l.getD i 0 := by rw [List.getD_eq_getElem?_getD, List.getD_eq_getElem?_getD, List.getElem?_take_of_lt (by omega)]
            have hyb := HB.out _ (getD_in (l := l) (k := i) (by omega))
            have hlt := HF.out
            rw [hgd] at hval
            have HV := hidMk hval
            generalize l.getD i 0 = y at *
            generalize val ((l.take (9 + 1)).drop (i + 1)) = u at *
            generalize val (l.take (9 + 1)) = U at *
            have hu : 128 * u + 127 < 18446744073709551616 := by
              have : (128 : Nat) ^ 1 ≤ 128 ^ (i + 1) := Nat.pow_le_pow_right (by omega) (by omega)
              have := Nat.mul_le_mul_right u this
              omega
            have g1 := andNot128_word y hyb
            have g2 := join7_word u y hyb hu
            rw [show IntKind.u64.wrap ((u : Int) * 128) = (u : Int) * 128 by rw [IntKind.wrap_u64]; omega] at g2
            have G2 := hidMk g2
            clear hval hgd hle hlt g2
            go_wp2
            exact ⟨⟨i, by omega, rfl, by rw [HV.out, G2.out]⟩, by simp [intOf]⟩
end Go.Proofs.Ytapcmkhpbdphoaa
