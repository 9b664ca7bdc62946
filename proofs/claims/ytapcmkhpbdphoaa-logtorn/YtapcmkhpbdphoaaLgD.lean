/- log: Clear of a new file; two lists of bytes that are the same. -/
import Derived.Test.YtapcmkhpbdphoaaLg8
namespace Go.Proofs.Ytapcmkhpbdphoaa
open Go.RowKit Go.Maps
set_option linter.unusedSimpArgs false
set_option linter.unusedVariables false

/-- A file of noughts behind k writes. -/
def zst (N : Nat) (k : Nat) : Bf := ⟨zs (N * 32), false, false, 0, 0, (k : Int)⟩
theorem zst_zero (N : Nat) : news N = zst N 0 := rfl
theorem zst_ok (N k : Nat) : Ok (zst N k) := ⟨Int.le_refl 0, by simp [zst], Int.le_refl 0, by simp [zst], by simp [zst]⟩
theorem putL_zs {n o k : Nat} (h : o + k ≤ n) : putL (zs n) o (zs k) = zs n := by
  have hl := putL_len (F := zs n) (v := zs k) (o := o) (by rw [zs_len, zs_len]; exact h)
  refine ext_getD hl (fun j hj => ?_)
  rw [zs_getD]
  by_cases h1 : o ≤ j ∧ j < o + (zs k).length
  · rw [putL_in (by rw [zs_len, zs_len]; exact h) h1.1 h1.2, zs_getD]
  · rw [putL_out (by rw [zs_len, zs_len]; exact h) (by omega), zs_getD]
theorem zst_wr {N k n : Nat} (h : n < N) : wrE (zst N k) N (n : Int) 0 = 0 ∧ wrS (zst N k) N (n : Int) [] = zst N (k + 1) := by
  have hb : bad (zst N k) N (n : Int) = 0 := by unfold bad; rw [if_neg (by simp [zst]), if_neg (by omega)]
  constructor
  · unfold wrE
    rw [if_neg (fun e => e hb), if_neg (by omega)]
    rfl
  · unfold wrS
    rw [if_neg (fun e => e hb), if_neg (by simp), if_neg (by simp [cmB, zst]), Int.toNat_natCast]
    have e : putL (zs (N * 32)) (n * 32) (whole []) = zs (N * 32) := putL_zs (k := 32) (by omega)
    show (⟨putL (zs (N * 32)) (n * 32) (whole []), false, false, _, 0, _⟩ : Bf) = _
    rw [e]
    show (⟨zs (N * 32), false, false, _, 0, (k : Int) + 1⟩ : Bf) = ⟨zs (N * 32), false, false, 0, 0, ((k + 1 : Nat) : Int)⟩
    rw [show ((k + 1 : Nat) : Int) = (k : Int) + 1 by omega]
    rfl
set_option maxHeartbeats 1000000 in
set_option maxRecDepth 100000 in
theorem log_Clear {w : World} {f d N k0 : Nat} (h : Fl w f d N (zst N k0)) (fr to : Nat) (h1 : fr < to) (h2 : to ≤ N) (hN : N ≤ 1000) (hk : k0 ≤ 1000) :
    Calls Try.prog 19 #[.pointer (some ⟨f, 0, none⟩), .int .i64 (fr : Int), .int .i64 (to : Int)] w fun e w' => e = .returned (.int .i64 0) ∧ Fl w' f d N (zst N (k0 + (to - fr))) ∧ Chg (Of f d) w w' := by
  have HA := hidMk (ask_ok h fr to h1 h2)
  have H := hidMk h
  have H1 := hidMk h1
  have H2 := hidMk h2
  have hto : (to : Int) ≤ 1000 := by omega
  have HN := hidMk hN
  have HK := hidMk hk
  clear h h1 h2 hN hk
  go_enter Try.func19, Try.ntmps19
  go_wp2_with (go_at_call 31; refine HA.out.mono ?_; rintro e w1 ⟨rfl, hw1⟩; rw [hw1]; clear hw1 w1)
  go_loopg [7, 8] (to - fr) (fun gg x y wr => ∃ (k j : Nat), k + gg = to - fr ∧ x = .int .i64 0 ∧ j = fr + k ∧ y = .int .i64 (j : Int) ∧ Hid (Fl wr f d N (zst N (k0 + k)) ∧ Chg (Of f d) w wr))
  case atStart => exact ⟨0, fr, by omega, rfl, rfl, rfl, hidMk ⟨H.out, Chg.refl _ _⟩⟩
  case round =>
    obtain ⟨k, j, hkg, rfl, hj, rfl, HI⟩ := hrel
    have HKG := hidMk hkg
    have HJ := hidMk hj
    clear hkg hj
    by_cases hlt : j < to
    · have hlt' : (j : Int) < (to : Int) := by omega
      obtain ⟨z1, z2⟩ := zst_wr (N := N) (k := k0 + k) (n := j) (by have := H2.out; omega)
      have HW := hidMk (bk_Write HI.out.1 (zst_ok N (k0 + k)) (by show ((k0 + k : Nat) : Int) < 1000000; have := HK.out; have := HKG.out; have := H2.out; have := HN.out; omega) (j : Int) none 0 0 [] (sl_none rfl) (by simp))
      rw [z1, z2] at HW
      clear z1 z2
      go_wp2_with fail
      refine HW.out.mono ?_
      rintro e w3 ⟨rfl, f3, c3⟩
      have F3 := hidMk f3
      have C3 := hidMk (HI.out.2.trans c3)
      clear f3 c3 HW
      go_wp2_with fail
      go_roundg (gk - 1)
      case measure => have := HKG.out; have := HJ.out; omega
      case rel => exact ⟨k + 1, j + 1, by have := HKG.out; have := HJ.out; omega, rfl, by have := HJ.out; omega, by go_num, hidMk ⟨F3.out, C3.out⟩⟩
    · have hlt' : ¬ ((j : Int) < (to : Int)) := by omega
      have hkk : to - fr = k := by have := HKG.out; have := HJ.out; have := H1.out; omega
      have HKK := hidMk hkk
      clear hkk
      go_wp2_with fail
      go_ret
      rw [HKK.out]
      exact ⟨rfl, HI.out.1, HI.out.2⟩
set_option maxHeartbeats 1000000 in
set_option maxRecDepth 100000 in
theorem ref24_Same {w : World} {B1 B2 : Nat} {v1 v2 : Value} {q1 q2 : List Sv} {rs : List (List Int)} (h1 : Rz w B1 v1 q1 rs) (h2 : Rz w B2 v2 q2 rs) (hb : ∀ r ∈ rs, ∀ x ∈ r, isB x) (hn : rs.length ≤ 100000) : Calls Try.prog 9 #[v1, v2] w fun e w' => e = .returned (.bool true) ∧ Kept w w' := by
  obtain ⟨a1, c1, rfl, m1, m1', _⟩ := h1.shape
  obtain ⟨a2, c2, rfl, m2, m2', _⟩ := h2.shape
  have H1 := hidMk h1
  have H2 := hidMk h2
  have HB := hidMk hb
  obtain ⟨n, hnn⟩ : ∃ n, n = rs.length := ⟨_, rfl⟩
  have e1 : q1.length = n := by rw [hnn]; exact h1.len.symm
  have e2 : q2.length = n := by rw [hnn]; exact h2.len.symm
  have HE1 := hidMk e1
  have HE2 := hidMk e2
  have HNN := hidMk hnn
  have hn' : n ≤ 100000 := by omega
  rw [e1, e2]
  clear h1 h2 hb e1 e2 hnn m1 m2 m1' m2' hn
  go_enter Try.func9, Try.ntmps9
  go_wp2_with fail
  go_loopg [5] n (fun gg x wr => ∃ (k q : Nat), k + gg = n ∧ x = .int .i64 (k : Int) ∧ wr = w.drewN q)
  case atStart => exact ⟨0, 0, by omega, rfl, rfl⟩
  case round =>
    obtain ⟨k, q, hkg, rfl, hwr⟩ := hrel
    have HKG := hidMk hkg
    subst hwr
    by_cases hk : k < n
    · have hk' : (k : Int) < (n : Int) := by omega
      obtain ⟨g1, d1, z1, _, _, y1⟩ := H1.out.cell (by have := HE1.out; omega)
      obtain ⟨g2, d2, z2, _, _, y2⟩ := H2.out.cell (by have := HE2.out; omega)
      rw [HE1.out] at z1
      rw [HE2.out] at z2
      injection z1 with i1 _ i2
      injection z2 with i3 _ i4
      subst i1 i2 i3 i4
      have kD : Kept w (w.drewN q) := (Kept.refl w).drewN q
      have s1 := H1.out.row k (by have := HE1.out; omega)
      have s2 := H2.out.row k (by have := HE2.out; omega)
      have cc1 := y1 k (by have := HE1.out; omega)
      have cc2 := y2 k (by have := HE2.out; omega)
      have hmem : rs.getD k [] ∈ rs := by
        rw [List.getD_eq_getElem?_getD, List.getElem?_eq_getElem (by have := HNN.out; omega)]
        exact List.getElem_mem _
      have hbr := HB.out _ hmem
      generalize rs.getD k [] = r at *
      generalize q1.getD k q0 = p1 at *
      generalize q2.getD k q0 = p2 at *
      obtain ⟨pa1, pn1, pc1⟩ := p1
      obtain ⟨pa2, pn2, pc2⟩ := p2
      unfold slv3 at cc1 cc2
      dsimp only at s1 s2 cc1 cc2
      have t1 := fun Q => run_string_sl (c := pc1) (s1.kept ((Kept.refl w).drewN Q)) hbr
      have t2 := fun Q => run_string_sl (c := pc2) (s2.kept ((Kept.refl w).drewN Q)) hbr
      have t1' := run_string_sl (c := pc1) s1 hbr
      have t2' := run_string_sl (c := pc2) s2 hbr
      clear y1 y2 s1 s2 hmem hbr kD hkg
      go_wp2_with fail
      go_quiet (fail)
      go_wp2_with fail
      go_roundg (gk - 1)
      case measure => have := HKG.out; omega
      case rel => exact ⟨k + 1, q + nq, by have := HKG.out; omega, by go_num, by first | rfl | simp⟩
    · have hkk : ¬ ((k : Int) < (n : Int)) := by omega
      clear hkg
      go_wp2_with fail
      go_ret
      exact ⟨rfl, (Kept.refl w).drewN q⟩
end Go.Proofs.Ytapcmkhpbdphoaa
