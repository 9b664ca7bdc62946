/- RecPuts: the sum of any bytes, and any bytes as a record. -/
import Derived.Test.YtcmhfmbpbbdemaaRefRec2
import Derived.Test.YtcmhfmbpbbdemaaLawRecBack
namespace Go.Proofs.Ytcmhfmbpbbdemaa
open Go.RowKit Go.Maps
set_option linter.unusedSimpArgs false
set_option linter.unusedVariables false

theorem Lentd.keptR {w w' : World} {g n c : Nat} {l : List Int} (h : Lentd w g n c l) (k : Kept w w') : Lentd w' g n c l := ⟨h.sl.kept k, h.cap, h.len, Nat.lt_of_lt_of_le h.lt k.size⟩
theorem Lentd.butR {w w' : World} {g n c b : Nat} {l : List Int} (h : Lentd w g n c l) (k : But b w w') (hne : g ≠ b) : Lentd w' g n c l :=
  ⟨h.sl.but k (fun _ ad ha => by cases ha; exact hne), h.cap, h.len, Nat.lt_of_lt_of_le h.lt k.size⟩
theorem Lentd.ownR {w : World} {g n c : Nat} {l : List Int} (h : Lentd w g n c l) : Sl .u8 w (some ⟨g, 0, none⟩) n l := by
  have := sl_take h.sl n (by omega)
  rwa [show (l ++ twelve).take n = l by rw [← h.len, List.take_left]] at this
set_option maxHeartbeats 4000000 in
theorem law_RecPuts (a0 : Option Addr) (n0 c0 : Nat) (lb : List Int) (w : World) (h0 : Sl .u8 w a0 n0 lb) (hb : ∀ x ∈ lb, isB x) (e0 : a0 = none → c0 = 0) :
    Calls Try.prog 7 #[.slice a0 n0 c0] w fun e w' => e = .returned (.bool true) ∧ Kept w w' := by
  have H0 := hidMk h0
  have HB := hidMk hb
  have E0 := hidMk e0
  have b0 : n0 ≤ 9223372036854775807 := h0.big
  have l0 := h0.len
  clear h0 hb e0
  by_cases q0 : 1000 < n0
  · have q0' : (1000 : Int) < (n0 : Int) := by omega
    go_enter Try.func7, Try.ntmps7
    go_wp2_with (go_at_call 27; refine (law24_known _).mono ?_; rintro e w3 ⟨rfl, k3⟩)
    go_ret
    exact ⟨rfl, k3⟩
  have q0' : (n0 : Int) ≤ (1000 : Int) := by omega
  by_cases hbad : n0 = 0 ∨ 250 < n0
  · have HBD := hidMk hbad
    clear hbad
    go_enter Try.func7, Try.ntmps7
    go_wp2_with fail
    refine (ref_Lent a0 n0 c0 lb _ H0.out E0.out (by omega)).mono ?_
    rintro e w1 ⟨g, d, rfl, hg, r1, k1⟩
    have R1 := hidMk r1
    have K1 := hidMk k1
    clear r1 k1
    go_wp2_with fail
    refine (rec_Put_bad _ n0 d _ HBD.out).mono ?_
    rintro e w2 ⟨rfl, hw2⟩
    rw [hw2]
    clear hw2 w2
    go_wp2_with fail
    refine (ref24_Put_bad _ n0 c0 _ HBD.out).mono ?_
    rintro e w2 ⟨rfl, hw2⟩
    rw [hw2]
    clear hw2 w2
    have t0 := fun W : World => run_string_sl (w := W) (a := none) (n := 0) (c := 0) (l := []) ⟨rfl, Nat.zero_le _, fun h => absurd h (by omega)⟩ (by simp)
    go_wp2_with (first | (go_at_call 31; refine (rec_Sum _ n0 d lb _ R1.out.ownR HB.out).mono ?_; rintro e w3 ⟨rfl, hw3⟩; rw [hw3]; clear hw3 w3) | (go_at_call 32; refine (ref_Sum a0 n0 c0 lb _ (H0.out.kept K1.out) HB.out).mono ?_; rintro e w4 ⟨rfl, hw4⟩; rw [hw4]; clear hw4 w4) | (go_at_call 33; refine (ref_Spoil_nil _).mono ?_; rintro e w5 ⟨rfl, hw5⟩; rw [hw5]; clear hw5 w5) | (go_at_call 34; refine (ref_Kept g n0 d a0 c0 lb _ R1.out (H0.out.kept K1.out) HB.out (by omega)).mono ?_; rintro e w6 ⟨rfl, hw6⟩; rw [hw6]; clear hw6 w6) | (go_at_call 27; refine (law24_known _).mono ?_; rintro e w7 ⟨rfl, k7⟩))
    go_ret
    exact ⟨rfl, K1.out.trans k7⟩
  have hn1 : 1 ≤ n0 := by omega
  have hn2 : n0 ≤ 250 := by omega
  have HRL := hidMk (show (recB lb).length ≤ 300 by rw [recB_len]; have := enc_two (u := 2 * lb.length + 2) (by omega); omega)
  have HRP := hidMk (show 0 < (recB lb).length by rw [recB_len]; omega)
  have HRI := hidMk (recB_isB HB.out)
  clear hbad
  go_enter Try.func7, Try.ntmps7
  go_wp2_with fail
  refine (ref_Lent a0 n0 c0 lb _ H0.out E0.out (by omega)).mono ?_
  rintro e w1 ⟨g, d, rfl, hg, r1, k1⟩
  have R1 := hidMk r1
  have K1 := hidMk k1
  have hgl := r1.lt
  clear r1 k1
  go_wp2_with fail
  refine (rec_Put (some ⟨g, 0, none⟩) n0 d lb _ R1.out.ownR HB.out (fun h => by cases h) hn1 hn2).mono ?_
  rintro e w2 ⟨v2, rfl, o2, k2⟩
  obtain ⟨X, hX⟩ : ∃ X, X = recB lb := ⟨_, rfl⟩
  have HX := hidMk hX
  rw [← hX] at o2 HRL HRP HRI
  clear hX
  obtain ⟨gx, cx, rfl, hx1, hx2⟩ := owned_at o2 HRP.out
  obtain ⟨nx, hnx⟩ : ∃ nx, nx = X.length := ⟨_, rfl⟩
  rw [← hnx] at o2 HRL HRP ⊢
  have hnx3 := HRL.out
  have HNX := hidMk hnx.symm
  have O2 := hidMk o2
  have K2 := hidMk k2
  have S2 := hidMk (owned_slx o2 hnx.symm (by unfold maxLen; omega))
  clear o2 k2 hnx
  go_wp2_with fail
  refine (ref24_Put a0 n0 c0 lb _ (H0.out.kept (K1.out.trans K2.out)) HB.out E0.out hn1 hn2).mono ?_
  rintro e w3 ⟨v3, rfl, o3, k3⟩
  rw [← HX.out] at o3
  obtain ⟨a3, c3, rfl, s3, _, _⟩ := owned_sl o3 (by rw [HNX.out]; unfold maxLen; omega)
  rw [HNX.out] at s3 ⊢
  have K3 := hidMk k3
  have S3 := hidMk s3
  have t1 := run_string_sl (c := cx) (S2.out.kept k3) HRI.out
  have t2 := run_string_sl (c := c3) s3 HRI.out
  have R3 := hidMk ((R1.out.keptR K2.out).keptR K3.out)
  have K13 := hidMk ((K1.out.trans K2.out).trans K3.out)
  clear o3 k3 s3
  go_wp2_with (first | (go_at_call 31; refine (rec_Sum _ n0 d lb _ R3.out.ownR HB.out).mono ?_; rintro e w4 ⟨rfl, hw4⟩; rw [hw4]; clear hw4 w4) | (go_at_call 32; refine (ref_Sum a0 n0 c0 lb _ (H0.out.kept K13.out) HB.out).mono ?_; rintro e w4 ⟨rfl, hw4⟩; rw [hw4]; clear hw4 w4))
  refine (ref_Spoil gx nx cx _ _ _ HNX.out (by omega) (O2.out.kept K3.out)).mono ?_
  rintro e w11 ⟨rfl, b11⟩
  have KA := hidMk (But.kept K13.out (by have := K1.out.size; omega) b11)
  have LA := hidMk (R3.out.butR b11 (by omega))
  clear b11 t1 t2
  go_wp2_with fail
  refine (ref_Kept g n0 d a0 c0 lb _ LA.out (H0.out.kept KA.out) HB.out (by omega)).mono ?_
  rintro e w13 ⟨rfl, rfl⟩
  go_wp2_with (go_at_call 27; refine (law24_known _).mono ?_; rintro e w14 ⟨rfl, k14⟩)
  go_ret
  exact ⟨rfl, KA.out.trans k14⟩
end Go.Proofs.Ytcmhfmbpbbdemaa
