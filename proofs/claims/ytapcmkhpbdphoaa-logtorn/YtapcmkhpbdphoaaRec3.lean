/- rec: the number ahead of a record; Put. -/
import Derived.Test.YtapcmkhpbdphoaaRec2
import Derived.Test.YtapcmkhpbdphoaaRefWire1
namespace Go.Proofs.Ytapcmkhpbdphoaa
open Go.RowKit Go.Maps
set_option linter.unusedSimpArgs false
set_option linter.unusedVariables false

set_option maxHeartbeats 4000000 in
theorem rec_length (b o n c : Nat) (l : List Int) (w : World) (hs : Sl .u8 w (some ⟨b, o, none⟩) n l) (hb : ∀ x ∈ l, isB x) (hp : 0 < n) (hl : n ≤ 100000) (hc : n ≤ c) :
    Calls Try.prog 61 #[.slice (some ⟨b, o, none⟩) n c] w fun e w' => e = .returned (.tuple #[.int .i64 (lenV l), .int .i64 (lenS l), .int .i64 (lenE l)]) ∧ Kept w w' := by
  have HN2 := hidMk (show ∀ W, Kept w W → Calls Try.prog 64 #[.slice (some ⟨b, o, none⟩) n c] W fun e w' => e = .returned (.tuple #[.int .i64 (numV l), .int .i64 (numS l), .int .i64 (numE l)]) ∧ Kept W w' from fun W k => rec_number _ n c l W (hs.kept k) hb hl)
  by_cases h2 : n < 2
  · obtain rfl : n = 1 := by omega
    have HN1 := hidMk (rec_number (some ⟨b, o, none⟩) 1 c (l.take 1) w (sl_take hs 1 (by omega)) (take_isB hb 1) (by omega))
    clear hs hb h2 hp
    by_cases hE1 : numE (l.take 1) = 0
    · obtain ⟨u1, u2, u3⟩ := num_take l 1 hE1
      rw [u1, u2, hE1] at HN1
      by_cases hR : numV l < 2 ∨ 251 < numV l
      · have HE := hidMk (show lenE l = 6 by unfold lenE; rw [if_neg (by simp [u3]), if_pos hR])
        have HV := hidMk (show lenV l = 0 ∧ lenS l = 0 by unfold lenV lenS; rw [HE.out]; exact ⟨rfl, rfl⟩)
        rw [HE.out, HV.out.1, HV.out.2]
        clear u1 u2 u3 hE1 HE HV HN2
        generalize numV l = V at *
        generalize numS l = S at *
        by_cases hR1 : V < 2
        · clear hR
          go_enter Try.func61, Try.ntmps61
          go_wp2_with (go_at_call 64; refine HN1.out.mono ?_; rintro e w1 ⟨rfl, k1⟩)
          go_ret3
          exact ⟨rfl, k1⟩
        · have hR2 : 251 < V := by omega
          have hR3 : 2 ≤ V := by omega
          clear hR hR1
          go_enter Try.func61, Try.ntmps61
          go_wp2_with (go_at_call 64; refine HN1.out.mono ?_; rintro e w1 ⟨rfl, k1⟩)
          go_ret3
          exact ⟨rfl, k1⟩
      · have HE := hidMk (show lenE l = 0 by unfold lenE; rw [if_neg (by simp [u3]), if_neg hR])
        have HV := hidMk (show lenV l = numV l - 1 ∧ lenS l = numS l by unfold lenV lenS; rw [HE.out]; exact ⟨rfl, rfl⟩)
        rw [HE.out, HV.out.1, HV.out.2]
        have hR1 : 2 ≤ numV l := by omega
        have hR2 : numV l ≤ 251 := by omega
        clear u1 u2 u3 hE1 HE HV HN2 hR
        generalize numV l = V at *
        generalize numS l = S at *
        go_enter Try.func61, Try.ntmps61
        go_wp2_with (go_at_call 64; refine HN1.out.mono ?_; rintro e w1 ⟨rfl, k1⟩)
        go_ret3
        exact ⟨rfl, k1⟩
    · have q1 : (numE (l.take 1) == 0) = false := by simpa using hE1
      generalize numE (l.take 1) = E1 at *
      generalize numV (l.take 1) = V1 at *
      generalize numS (l.take 1) = S1 at *
      by_cases hE : numE l = 0
      · rw [hE] at HN2
        by_cases hR : numV l < 2 ∨ 251 < numV l
        · have HE := hidMk (show lenE l = 6 by unfold lenE; rw [if_neg (by simp [hE]), if_pos hR])
          have HV := hidMk (show lenV l = 0 ∧ lenS l = 0 by unfold lenV lenS; rw [HE.out]; exact ⟨rfl, rfl⟩)
          rw [HE.out, HV.out.1, HV.out.2]
          clear hE HE HV
          generalize numV l = V at *
          generalize numS l = S at *
          by_cases hR1 : V < 2
          · clear hR
            go_enter Try.func61, Try.ntmps61
            go_wp2_with fail
            refine HN1.out.mono ?_
            rintro e w1 ⟨rfl, k1⟩
            have HC := hidMk (HN2.out w1 k1)
            have K1 := hidMk k1
            clear k1
            go_wp2_with fail
            refine HC.out.mono ?_
            rintro e w2 ⟨rfl, k2⟩
            have K2 := hidMk (K1.out.trans k2)
            clear k2 HC
            go_wp2_with fail
            go_ret3
            exact ⟨rfl, K2.out⟩
          · have hR2 : 251 < V := by omega
            have hR3 : 2 ≤ V := by omega
            clear hR hR1
            go_enter Try.func61, Try.ntmps61
            go_wp2_with fail
            refine HN1.out.mono ?_
            rintro e w1 ⟨rfl, k1⟩
            have HC := hidMk (HN2.out w1 k1)
            have K1 := hidMk k1
            clear k1
            go_wp2_with fail
            refine HC.out.mono ?_
            rintro e w2 ⟨rfl, k2⟩
            have K2 := hidMk (K1.out.trans k2)
            clear k2 HC
            go_wp2_with fail
            go_ret3
            exact ⟨rfl, K2.out⟩
        · have HE := hidMk (show lenE l = 0 by unfold lenE; rw [if_neg (by simp [hE]), if_neg hR])
          have HV := hidMk (show lenV l = numV l - 1 ∧ lenS l = numS l by unfold lenV lenS; rw [HE.out]; exact ⟨rfl, rfl⟩)
          rw [HE.out, HV.out.1, HV.out.2]
          have hR1 : 2 ≤ numV l := by omega
          have hR2 : numV l ≤ 251 := by omega
          clear hE HE HV hR
          generalize numV l = V at *
          generalize numS l = S at *
          go_enter Try.func61, Try.ntmps61
          go_wp2_with fail
          refine HN1.out.mono ?_
          rintro e w1 ⟨rfl, k1⟩
          have HC := hidMk (HN2.out w1 k1)
          have K1 := hidMk k1
          clear k1
          go_wp2_with fail
          refine HC.out.mono ?_
          rintro e w2 ⟨rfl, k2⟩
          have K2 := hidMk (K1.out.trans k2)
          clear k2 HC
          go_wp2_with fail
          go_ret3
          exact ⟨rfl, K2.out⟩
      · have HE := hidMk (show lenE l = numE l by unfold lenE; rw [if_pos hE])
        have HV := hidMk (show lenV l = 0 ∧ lenS l = 0 by unfold lenV lenS; rw [HE.out, if_neg hE, if_neg hE]; exact ⟨rfl, rfl⟩)
        rw [HE.out, HV.out.1, HV.out.2]
        have q2 : (numE l == 0) = false := by simpa using hE
        clear HE HV
        generalize numE l = E at *
        generalize numV l = V at *
        generalize numS l = S at *
        go_enter Try.func61, Try.ntmps61
        go_wp2_with fail
        refine HN1.out.mono ?_
        rintro e w1 ⟨rfl, k1⟩
        have HC := hidMk (HN2.out w1 k1)
        have K1 := hidMk k1
        clear k1
        go_wp2_with fail
        refine HC.out.mono ?_
        rintro e w2 ⟨rfl, k2⟩
        have K2 := hidMk (K1.out.trans k2)
        clear k2 HC
        go_wp2_with fail
        go_ret3
        exact ⟨rfl, K2.out⟩
  · have HN1 := hidMk (rec_number (some ⟨b, o, none⟩) 2 c (l.take 2) w (sl_take hs 2 (by omega)) (take_isB hb 2) (by omega))
    have h2' : (2 : Int) ≤ (n : Int) := by omega
    have hmin : min (n : Int) 2 = 2 := by omega
    have h2c : (2 : Int) ≤ (c : Int) := by omega
    clear hs hb h2 hp
    by_cases hE1 : numE (l.take 2) = 0
    · obtain ⟨u1, u2, u3⟩ := num_take l 2 hE1
      rw [u1, u2, hE1] at HN1
      by_cases hR : numV l < 2 ∨ 251 < numV l
      · have HE := hidMk (show lenE l = 6 by unfold lenE; rw [if_neg (by simp [u3]), if_pos hR])
        have HV := hidMk (show lenV l = 0 ∧ lenS l = 0 by unfold lenV lenS; rw [HE.out]; exact ⟨rfl, rfl⟩)
        rw [HE.out, HV.out.1, HV.out.2]
        clear u1 u2 u3 hE1 HE HV HN2
        generalize numV l = V at *
        generalize numS l = S at *
        by_cases hR1 : V < 2
        · clear hR
          go_enter Try.func61, Try.ntmps61
          go_wp2_with (go_at_call 64; refine HN1.out.mono ?_; rintro e w1 ⟨rfl, k1⟩)
          go_ret3
          exact ⟨rfl, k1⟩
        · have hR2 : 251 < V := by omega
          have hR3 : 2 ≤ V := by omega
          clear hR hR1
          go_enter Try.func61, Try.ntmps61
          go_wp2_with (go_at_call 64; refine HN1.out.mono ?_; rintro e w1 ⟨rfl, k1⟩)
          go_ret3
          exact ⟨rfl, k1⟩
      · have HE := hidMk (show lenE l = 0 by unfold lenE; rw [if_neg (by simp [u3]), if_neg hR])
        have HV := hidMk (show lenV l = numV l - 1 ∧ lenS l = numS l by unfold lenV lenS; rw [HE.out]; exact ⟨rfl, rfl⟩)
        rw [HE.out, HV.out.1, HV.out.2]
        have hR1 : 2 ≤ numV l := by omega
        have hR2 : numV l ≤ 251 := by omega
        clear u1 u2 u3 hE1 HE HV HN2 hR
        generalize numV l = V at *
        generalize numS l = S at *
        go_enter Try.func61, Try.ntmps61
        go_wp2_with (go_at_call 64; refine HN1.out.mono ?_; rintro e w1 ⟨rfl, k1⟩)
        go_ret3
        exact ⟨rfl, k1⟩
    · have q1 : (numE (l.take 2) == 0) = false := by simpa using hE1
      generalize numE (l.take 2) = E1 at *
      generalize numV (l.take 2) = V1 at *
      generalize numS (l.take 2) = S1 at *
      by_cases hE : numE l = 0
      · rw [hE] at HN2
        by_cases hR : numV l < 2 ∨ 251 < numV l
        · have HE := hidMk (show lenE l = 6 by unfold lenE; rw [if_neg (by simp [hE]), if_pos hR])
          have HV := hidMk (show lenV l = 0 ∧ lenS l = 0 by unfold lenV lenS; rw [HE.out]; exact ⟨rfl, rfl⟩)
          rw [HE.out, HV.out.1, HV.out.2]
          clear hE HE HV
          generalize numV l = V at *
          generalize numS l = S at *
          by_cases hR1 : V < 2
          · clear hR
            go_enter Try.func61, Try.ntmps61
            go_wp2_with fail
            refine HN1.out.mono ?_
            rintro e w1 ⟨rfl, k1⟩
            have HC := hidMk (HN2.out w1 k1)
            have K1 := hidMk k1
            clear k1
            go_wp2_with fail
            refine HC.out.mono ?_
            rintro e w2 ⟨rfl, k2⟩
            have K2 := hidMk (K1.out.trans k2)
            clear k2 HC
            go_wp2_with fail
            go_ret3
            exact ⟨rfl, K2.out⟩
          · have hR2 : 251 < V := by omega
            have hR3 : 2 ≤ V := by omega
            clear hR hR1
            go_enter Try.func61, Try.ntmps61
            go_wp2_with fail
            refine HN1.out.mono ?_
            rintro e w1 ⟨rfl, k1⟩
            have HC := hidMk (HN2.out w1 k1)
            have K1 := hidMk k1
            clear k1
            go_wp2_with fail
            refine HC.out.mono ?_
            rintro e w2 ⟨rfl, k2⟩
            have K2 := hidMk (K1.out.trans k2)
            clear k2 HC
            go_wp2_with fail
            go_ret3
            exact ⟨rfl, K2.out⟩
        · have HE := hidMk (show lenE l = 0 by unfold lenE; rw [if_neg (by simp [hE]), if_neg hR])
          have HV := hidMk (show lenV l = numV l - 1 ∧ lenS l = numS l by unfold lenV lenS; rw [HE.out]; exact ⟨rfl, rfl⟩)
          rw [HE.out, HV.out.1, HV.out.2]
          have hR1 : 2 ≤ numV l := by omega
          have hR2 : numV l ≤ 251 := by omega
          clear hE HE HV hR
          generalize numV l = V at *
          generalize numS l = S at *
          go_enter Try.func61, Try.ntmps61
          go_wp2_with fail
          refine HN1.out.mono ?_
          rintro e w1 ⟨rfl, k1⟩
          have HC := hidMk (HN2.out w1 k1)
          have K1 := hidMk k1
          clear k1
          go_wp2_with fail
          refine HC.out.mono ?_
          rintro e w2 ⟨rfl, k2⟩
          have K2 := hidMk (K1.out.trans k2)
          clear k2 HC
          go_wp2_with fail
          go_ret3
          exact ⟨rfl, K2.out⟩
      · have HE := hidMk (show lenE l = numE l by unfold lenE; rw [if_pos hE])
        have HV := hidMk (show lenV l = 0 ∧ lenS l = 0 by unfold lenV lenS; rw [HE.out, if_neg hE, if_neg hE]; exact ⟨rfl, rfl⟩)
        rw [HE.out, HV.out.1, HV.out.2]
        have q2 : (numE l == 0) = false := by simpa using hE
        clear HE HV
        generalize numE l = E at *
        generalize numV l = V at *
        generalize numS l = S at *
        go_enter Try.func61, Try.ntmps61
        go_wp2_with fail
        refine HN1.out.mono ?_
        rintro e w1 ⟨rfl, k1⟩
        have HC := hidMk (HN2.out w1 k1)
        have K1 := hidMk k1
        clear k1
        go_wp2_with fail
        refine HC.out.mono ?_
        rintro e w2 ⟨rfl, k2⟩
        have K2 := hidMk (K1.out.trans k2)
        clear k2 HC
        go_wp2_with fail
        go_ret3
        exact ⟨rfl, K2.out⟩

/-- A record's bytes. -/
def recB (l : List Int) : List Int := encI ((l.length : Int) + 1) ++ l ++ sb (sumN l) ++ [165]
theorem allB_one (x : Int) : allB [x] = encI x := by simp [allB]
set_option maxHeartbeats 2000000 in
theorem rec_Put_bad (a : Option Addr) (n c : Nat) (w : World) (h : n = 0 ∨ 250 < n) : Calls Try.prog 24 #[.slice a n c] w fun e w' => e = .returned (.tuple #[.slice none 0 0, .int .i64 5]) ∧ w' = w := by
  by_cases h0 : n = 0
  · subst h0
    clear h
    go_enter Try.func24, Try.ntmps24
    go_wp2_with fail
    go_ret2
    exact ⟨rfl, rfl⟩
  · have h1 : (250 : Int) < (n : Int) := by omega
    have h2 : ((n : Int) == 0) = false := by simp; omega
    clear h
    go_enter Try.func24, Try.ntmps24
    go_wp2_with fail
    go_ret2
    exact ⟨rfl, rfl⟩
set_option maxHeartbeats 4000000 in
theorem rec_Put (a : Option Addr) (n c : Nat) (l : List Int) (w : World) (hs : Sl .u8 w a n l) (hb : ∀ x ∈ l, isB x) (hnil : a = none → c = 0) (h1 : 1 ≤ n) (h2 : n ≤ 250) :
    Calls Try.prog 24 #[.slice a n c] w fun e w' => ∃ v, e = .returned (.tuple #[v, .int .i64 0]) ∧ Owned w w' v (recB l) ∧ Kept w w' := by
  have hlen := hs.len
  have H := hidMk hs
  have HB := hidMk hb
  have HN := hidMk hnil
  have h3 : ((n : Int) == 0) = false := by simp; omega
  have h4 : (n : Int) ≤ 250 := by omega
  have hi : isI ((n : Int) + 1) := by unfold isI; omega
  have HEL := hidMk (encI_len _ hi)
  have HI := hidMk hi
  have HRB := hidMk (show recB l = encI ((n : Int) + 1) ++ l ++ sb (sumN l) ++ [165] by unfold recB; rw [hlen])
  clear hs hb hnil hi
  go_enter Try.func24, Try.ntmps24
  go_wp2_with fail
  refine (wire_All (some ⟨w.heap.size, 0, none⟩) 1 1 [(n : Int) + 1] _ (sl_new .i64 w [(n : Int) + 1] 2 (by unfold maxLen; simp)) (fun x hx => by simp at hx; subst hx; exact HI.out) (by omega)).mono ?_
  rintro e w1 ⟨v1, rfl, o1, k1⟩
  rw [allB_one] at o1
  have O1 := hidMk (show Owned w w1 v1 (encI ((n : Int) + 1)) from ownsRow_base o1 (by simp))
  have K1 := hidMk (((Kept.refl w).alloc _).trans k1)
  clear o1 k1
  go_wp2_with (at_builtin; refine wpList_app _ rfl _ _ rfl w _ (encI ((n : Int) + 1)) rfl O1.out K1.out a n c l rfl (H.out.kept K1.out) HN.out ?c1 ?_)
  case c1 => have := HEL.out; omega
  intro v2 w2 o2 k2
  have O2 := hidMk o2
  have K2 := hidMk k2
  clear o2 k2 O1 K1
  go_wp2_with fail
  refine (rec_sumBytes a n c l _ (H.out.kept K2.out) HB.out).mono ?_
  rintro e w3 ⟨g3, rfl, hg3, s3, k3⟩
  have O3 := hidMk (O2.out.kept k3)
  have K3 := hidMk (K2.out.trans k3)
  have S3 := hidMk s3
  clear k3 s3 O2 K2
  go_wp2_with (at_builtin; refine wpList_app _ rfl _ _ rfl w _ (encI ((n : Int) + 1) ++ l) rfl O3.out K3.out (some ⟨g3, 0, none⟩) 4 4 (sb (sumN l)) rfl S3.out (fun h => by cases h) ?c1 ?_)
  case c1 => have := HEL.out; rw [List.length_append]; omega
  intro v4 w4 o4 k4
  obtain ⟨P4, hP4⟩ : ∃ P, P = encI ((n : Int) + 1) ++ (l ++ sb (sumN l)) := ⟨_, rfl⟩
  rw [← hP4] at o4
  have HRB4 := hidMk (show recB l = P4 ++ [165] by unfold recB; rw [hlen, hP4]; simp)
  have HL4 := hidMk (show P4.length + 1 ≤ 140737488355328 by have := HEL.out; rw [hP4, List.length_append, List.length_append, show (sb (sumN l)).length = 4 from rfl]; omega)
  have O4 := hidMk o4
  have K4 := hidMk k4
  clear o4 k4 O3 K3 S3 hP4
  have O4a := hidMk (BRow.alloc (.inl O4.out) (.cells #[.int .u8 165] 5))
  have K4a := hidMk (K4.out.alloc (.cells #[.int .u8 165] 5))
  have HCC := hidMk (show (w4.alloc (.cells #[.int .u8 165] 5)).cell? ⟨w4.heap.size, 0, none⟩ = some (.int .u8 165) by simp)
  go_wp2_with (at_builtin; go_loud (refine wpList_push _ (by rfl) _ _ (by rfl) w _ P4 (by rfl) O4a.out K4a.out w4.heap.size 165 (by rfl) HCC.out HL4.out ?_; intro v5 w5 o5 k5; have O5 := hidMk o5; have K5 := hidMk k5; clear o5 k5))
  go_ret2
  exact ⟨_, rfl, by rw [HRB4.out]; exact O5.out, K5.out⟩
end Go.Proofs.Ytapcmkhpbdphoaa
