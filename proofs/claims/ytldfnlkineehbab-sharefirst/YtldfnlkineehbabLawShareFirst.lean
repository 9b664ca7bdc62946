/- The walk of the law ShareFirst. -/
import Derived.Test.YtldfnlkineehbabLawShareWhole
import Derived.Deep.RegionHeld
namespace Go.Proofs.Ytldfnlkineehbab
open Go.RowKit
set_option linter.unusedSimpArgs false
set_option linter.unusedVariables false

theorem keyR_eq (whole all : Int) (l : List Int) (k : Nat) (hk : k < l.length) : keyR whole all l k = rF whole all l k := by
  unfold keyR keyOf
  rw [Int.toNat_natCast, lst_get _ _ _ hk]
theorem part_first {whole all : Int} {l : List Int} (i k : Nat) (hik : i < k) (hk : k < l.length) (he : l.getD i 0 = l.getD k 0) :
    partF whole all l (keyR whole all l) k ≤ partF whole all l (keyR whole all l) i ∧ partF whole all l (keyR whole all l) i ≤ partF whole all l (keyR whole all l) k + 1 := by
  have hq : qF whole all l i = qF whole all l k := by unfold qF; rw [he]
  have hr : rF whole all l i = rF whole all l k := by unfold rF; rw [he]
  have hlt : LT (keyR whole all l) i k := by
    right
    rw [keyR_eq whole all l i (by omega), keyR_eq whole all l k hk]
    exact ⟨hr, by omega⟩
  have hrk := rank_lt_of hlt (n := l.length) (by omega)
  unfold partF
  rw [hq]
  split <;> split <;> omega

theorem law_no_ShareFirst (whole i k : Int) (a : Option Addr) (len cap : Nat) (w : World) (hlen : len ≤ maxLen) (hi : isI i) (hk : isI k) (h : 1100 < len ∨ i < 0 ∨ k ≤ i ∨ len ≤ k) :
    Calls Try.prog 5 #[.int .u64 whole, .slice a len cap, .int .i64 i, .int .i64 k] w fun e w' => e = .returned (.bool true) ∧ Below w.heap.size w w' := by
  unfold maxLen at hlen
  by_cases h1 : 1100 < len
  · have b1 : decide (1100 < (len : Int)) = true := by simp; omega
    go_enter Try.func5, Try.ntmps5
    go_wp2_with fail
    go_quiet (fail)
    go_wp2_with fail
    refine (law2_known _).mono ?_
    rintro e w7 ⟨rfl, k7⟩
    go_wp2_with fail
    go_ret
    exact ⟨rfl, Below.trans (below_drewN (Below.refl _ _) _) k7⟩
  · have b1 : decide (1100 < (len : Int)) = false := by simp; omega
    by_cases h2 : i < 0
    · have b2 : decide (i < 0) = true := by simp [h2]
      go_enter Try.func5, Try.ntmps5
      go_wp2_with fail
      go_quiet (fail)
      go_wp2_with fail
      refine (law2_known _).mono ?_
      rintro e w7 ⟨rfl, k7⟩
      go_wp2_with fail
      go_ret
      exact ⟨rfl, Below.trans (below_drewN (Below.refl _ _) _) k7⟩
    · have b2 : decide (i < 0) = false := by simp; omega
      by_cases h3 : k ≤ i
      · have b3 : decide (k ≤ i) = true := by simp [h3]
        go_enter Try.func5, Try.ntmps5
        go_wp2_with fail
        go_quiet (fail)
        go_wp2_with fail
        refine (law2_known _).mono ?_
        rintro e w7 ⟨rfl, k7⟩
        go_wp2_with fail
        go_ret
        exact ⟨rfl, Below.trans (below_drewN (Below.refl _ _) _) k7⟩
      · have b3 : decide (k ≤ i) = false := by simp; omega
        have h4 : (len : Int) ≤ k := by omega
        have b4 : decide ((len : Int) ≤ k) = true := by simp [h4]
        go_enter Try.func5, Try.ntmps5
        go_wp2_with fail
        go_quiet (fail)
        go_wp2_with fail
        refine (law2_known _).mono ?_
        rintro e w7 ⟨rfl, k7⟩
        go_wp2_with fail
        go_ret
        exact ⟨rfl, Below.trans (below_drewN (Below.refl _ _) _) k7⟩

set_option maxHeartbeats 2000000 in
theorem law_in_ShareFirst (whole : Int) (i k : Nat) (a : Option Addr) (len cap : Nat) (l : List Int) (w : World) (hw : isU whole) (hs : Sl .u64 w a len l) (hn : ∀ x ∈ l, isU x) (h1 : len ≤ 1100) (hik : i < k) (hk : k < len) :
    Calls Try.prog 5 #[.int .u64 whole, .slice a len cap, .int .i64 i, .int .i64 k] w fun e w' => e = .returned (.bool true) ∧ Below w.heap.size w w' := by
  have hll := hs.len
  have b1 : decide (1100 < (len : Int)) = false := by simp; omega
  have b2 : decide ((i : Int) < 0) = false := by simp
  have b3 : decide ((k : Int) ≤ (i : Int)) = false := by simp; omega
  have b4 : decide ((len : Int) ≤ (k : Int)) = false := by simp; omega
  have b5 : (i : Int) < (len : Int) := by omega
  have b6 : (k : Int) < (len : Int) := by omega
  obtain ⟨b, o, rfl, hb, hc⟩ := hs.cells (by omega)
  have c1 := hc i (by omega)
  have c2 := hc k hk
  by_cases he : l.getD i 0 = l.getD k 0
  · have hpf := fun all => part_first (whole := whole) (all := all) (l := l) i k hik (by omega) he
    rw [he] at c1
    have HS := hidMk hs
    have HN := hidMk hn
    have HW := hidMk hw
    have HPF := hidMk hpf
    clear hpf he hc hs hn hw
    generalize l.getD k 0 = x at *
    have hxx : ((x != x) = false) := by simp
    go_enter Try.func5, Try.ntmps5
    go_wp2_with fail
    go_quiet (fail)
    have HS1 := hidMk (HS.out.kept (show Kept w (w.drewN nq) from below_drewN (Below.refl _ _) _))
    have HK0 := hidMk (show Kept w (w.drewN nq) from below_drewN (Below.refl _ _) _)
    by_cases hsp : splE len l = 0
    · obtain ⟨g0, g1, g2, g3⟩ := spl_ok HN.out hsp
      have C := hidMk (share_Split_ok whole (sumL l) (some ⟨b, o, none⟩) len cap l (w.drewN nq) HS1.out HN.out g0 g1 HW.out rfl g2 g3)
      have HP := hidMk g2
      clear hsp g2 g3
      go_wp2_with fail
      refine C.out.mono ?_
      rintro e w1 ⟨P, hPw, rfl, harr, k1, _⟩
      have d1 := harr.cell i (by omega)
      have d2 := harr.cell k hk
      have hpl := harr.lt
      have hpf := HPF.out (sumL l)
      have hnn := part_nonneg (l := l) HW.out HP.out HN.out k
      generalize partF whole (sumL l) l (keyR whole (sumL l) l) i = y at *
      generalize partF whole (sumL l) l (keyR whole (sumL l) l) k = z at *
      have HK1 := hidMk (HK0.out.trans k1)
      clear harr k1 C HS1 HK0 HPF
      obtain ⟨p1, p2⟩ := hpf
      have q0 : (((len : Int) == (len : Int)) = true) := by simp
      have q1 : (z ≤ y) = True := by simp [p1]
      have q2 : IntKind.u64.wrap (y - z) = y - z := by rw [IntKind.wrap_u64]; omega
      have q3 : (y - z ≤ 1) = True := by simp; omega
      go_wp2_with fail
      go_region_held (fun w' => w'.cell? ⟨P, i, none⟩ = some (.int .u64 y) ∧ w'.cell? ⟨P, k, none⟩ = some (.int .u64 z)) (go_keep)
        ((go_at_call 7; refine (law2_known _).mono ?_; rintro e w7 ⟨rfl, k7⟩; have m1 := (k7.cell (p := ⟨P, i, none⟩) (by exact hpl)).trans d1; have m2 := (k7.cell (p := ⟨P, k, none⟩) (by exact hpl)).trans d2))
      go_wp2_with fail
      go_ret
      exact ⟨rfl, HK1.out.trans (show Kept w1 _ from Below.trans (Below.drew (Below.refl _ _)) k7)⟩
    · have C := share_Split_err whole (some ⟨b, o, none⟩) len cap l (w.drewN nq) HS1.out HN.out hsp
      have hbn : (splE len l != 0) = true := by rw [bne_iff_ne]; exact hsp
      have HC := hidMk C
      clear C hsp HS1
      generalize splE len l = E at *
      go_wp2_with fail
      refine HC.out.mono ?_
      rintro e w1 ⟨rfl, rfl⟩
      go_wp2_with fail
      refine (law2_known _).mono ?_
      rintro e w7 ⟨rfl, k7⟩
      go_wp2_with fail
      go_ret
      exact ⟨rfl, HK0.out.trans k7⟩
  · have hbn : (l.getD i 0 != l.getD k 0) = true := by rw [bne_iff_ne]; exact he
    clear hc hs hn hw he
    generalize l.getD k 0 = x at *
    generalize l.getD i 0 = y at *
    go_enter Try.func5, Try.ntmps5
    go_wp2_with fail
    go_quiet (fail)
    go_wp2_with fail
    refine (law2_known _).mono ?_
    rintro e w7 ⟨rfl, k7⟩
    go_wp2_with fail
    go_ret
    exact ⟨rfl, Below.trans (below_drewN (Below.refl _ _) _) k7⟩

theorem law_ShareFirst (whole i k : Int) (a : Option Addr) (len cap : Nat) (l : List Int) (w : World) (hw : isU whole) (hi : isI i) (hk : isI k) (hs : Sl .u64 w a len l) (hn : ∀ x ∈ l, isU x) :
    Calls Try.prog 5 #[.int .u64 whole, .slice a len cap, .int .i64 i, .int .i64 k] w fun e w' => e = .returned (.bool true) ∧ Below w.heap.size w w' := by
  by_cases h : 1100 < len ∨ i < 0 ∨ k ≤ i ∨ len ≤ k
  · exact law_no_ShareFirst whole i k a len cap w hs.big hi hk h
  · obtain ⟨p, rfl⟩ := Int.eq_ofNat_of_zero_le (show 0 ≤ i by omega)
    obtain ⟨q, rfl⟩ := Int.eq_ofNat_of_zero_le (show 0 ≤ k by omega)
    exact law_in_ShareFirst whole p q a len cap l w hw hs hn (by omega) (by omega) (by omega)
end Go.Proofs.Ytldfnlkineehbab
