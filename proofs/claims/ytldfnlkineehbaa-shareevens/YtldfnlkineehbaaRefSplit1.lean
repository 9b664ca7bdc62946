/- The definition's Split: where it ends with an error; its sums. -/
import Derived.Test.YtldfnlkineehbaaSame
import Derived.Test.YtldfnlkineehbaaPartMath
import Derived.Test.YtldfnlkineehbaaMulDivRef
import Derived.Maps.AppendAt
namespace Go.Proofs.Ytldfnlkineehbaa
open Go.RowKit
set_option linter.unusedSimpArgs false
set_option linter.unusedVariables false

set_option maxHeartbeats 1000000 in
set_option maxRecDepth 100000 in
theorem ref_Split_err (whole : Int) (a : Option Addr) (len cap : Nat) (l : List Int) (w : World) (hs : Sl .u64 w a len l) (hn : ∀ x ∈ l, isU x) (he : splE len l ≠ 0) :
    Calls Try.prog 31 #[.int .u64 whole, .slice a len cap] w fun e w' => e = .returned (.tuple #[.slice none 0 0, .int .i64 (splE len l)]) ∧ w' = w := by
  have hbig := hs.big
  unfold maxLen at hbig
  have hll := hs.len
  by_cases h0 : len = 0
  · have e : splE len l = 13 := by unfold splE cntE; rw [if_pos (show (len : Int) < 1 by omega)]; rfl
    rw [e]
    subst h0
    clear hs hn he e
    go_enter Try.func31, Try.ntmps31
    go_wp2
    go_ret2
    exact ⟨rfl, rfl⟩
  · have b0 : (((len : Int) == 0) = false) := by rw [beq_eq_false_iff_ne]; omega
    by_cases h1 : 1024 < len
    · have e : splE len l = 5 := by unfold splE cntE; rw [if_neg (show ¬ (len : Int) < 1 by omega), if_pos (show (1024 : Int) < len by omega)]; rfl
      rw [e]
      clear hs hn he e
      go_enter Try.func31, Try.ntmps31
      go_wp2
      go_ret2
      exact ⟨rfl, rfl⟩
    · have e : splE len l = totE l := by unfold splE cntE; rw [if_neg (show ¬ (len : Int) < 1 by omega), if_neg (show ¬ (1024 : Int) < len by omega)]; rfl
      rw [e] at he ⊢
      have HS := hidMk hs
      have HN := hidMk hn
      have HE := hidMk he
      clear hs hn he e
      go_enter Try.func31, Try.ntmps31
      go_wp2
      go_loop [6, 7] (fun x y => ∃ k : Nat, k ≤ len ∧ y = .int .i64 k ∧ x = .int .u64 (sumL (l.take k)) ∧ sumL (l.take k) < 18446744073709551616) (fun _ y => len - (intOf y).toNat)
      case atStart => exact ⟨0, Nat.zero_le _, rfl, rfl, by simp [sumL]⟩
      case round =>
        obtain ⟨k, hk, rfl, rfl, hlt⟩ := hrel
        by_cases hkl : k < len
        · obtain ⟨b, o, rfl, hb, hc⟩ := HS.out.cells (by omega)
          have hcell := hc k hkl
          have hst := sumL_take l k (by omega)
          have hle := sumL_take_le l (k + 1) HN.out
          have hx := HN.out _ (getD_mem l k (by omega))
          have hy0 : 0 ≤ sumL (l.take k) := sumL_nonneg _ fun x hx => HN.out x (List.mem_of_mem_take hx)
          have hx0 := hx.1
          have hx1 := hx.2
          clear hc
          generalize l.getD k 0 = x at *
          generalize hyy : sumL (l.take k) = y at *
          clear hyy hx
          have HST := hidMk hst
          have HLE := hidMk hle
          have HLT := hidMk hlt
          clear hst hle hlt
          by_cases hov : y + x < 18446744073709551616
          · have hov2 : y + x ≤ 18446744073709551615 := by omega
            go_wp2
            exact ⟨⟨k + 1, by omega, by go_num, by rw [HST.out], by rw [HST.out]; omega⟩, by simp [intOf]; omega⟩
          · have e1 : ¬ sumL l < 18446744073709551616 := by have := HST.out; have := HLE.out; omega
            have H3 := hidMk (show totE l = 8 by unfold totE; rw [if_neg e1])
            have hwr : IntKind.u64.wrap (y + x) = y + x - 18446744073709551616 := by rw [IntKind.wrap_u64]; have := HLT.out; omega
            have hlt2 : y + x - 18446744073709551616 < y := by omega
            obtain ⟨z, hz⟩ : ∃ z, y + x - 18446744073709551616 = z := ⟨_, rfl⟩
            rw [hz] at hwr hlt2
            clear hov e1 hz hx1
            go_wp2
            go_ret2
            exact ⟨by rw [H3.out]; rfl, rfl⟩
        · have e : l.take k = l := List.take_of_length_le (by omega)
          rw [e] at hlt ⊢
          have hz : sumL l = 0 := by
            by_cases h : sumL l = 0
            · exact h
            · exact absurd (show totE l = 0 by unfold totE; rw [if_pos hlt, if_neg h]) HE.out
          have H3 := hidMk (show totE l = 9 by unfold totE; rw [if_pos hlt, if_pos hz])
          rw [hz]
          clear hlt hz e
          go_wp2
          go_ret2
          exact ⟨by rw [H3.out]; rfl, rfl⟩

/-- The first k have gone to 0. -/
def zer (r f : Nat → Int) : Nat → Nat → Int
  | 0 => r
  | k + 1 => fun i => if (i : Int) = f k then 0 else zer r f k i
theorem zer_not (r f : Nat → Int) (k i : Nat) (h : ∀ j, j < k → f j ≠ i) : zer r f k i = r i := by
  induction k with
  | zero => rfl
  | succ k ih =>
    simp only [zer]
    rw [if_neg (fun e => h k (by omega) e.symm), ih fun j hj => h j (by omega)]
theorem zer_yes (r f : Nat → Int) (k i j : Nat) (hj : j < k) (e : f j = i) : zer r f k i = 0 := by
  induction k with
  | zero => omega
  | succ k ih =>
    simp only [zer]
    by_cases h : (i : Int) = f k
    · rw [if_pos h]
    · rw [if_neg h]
      refine ih ?_
      by_cases e2 : j = k
      · subst e2; exact absurd e.symm h
      · omega
/-- The first greatest of what is left is the one whose rank comes next. -/
theorem best_is {K : Int → Int} {r f : Nat → Int} {n k best p : Nat} (himg : Img 0 n (fun i => (i : Int)) f) (hs : Srt K f 0 n) (hK : ∀ j : Nat, j < n → K j = r j) (hk : k < n) (hp : f k = (p : Int)) (hpn : p < n) (hpos : 0 < r p)
    (hb : best < n) (hmax : ∀ j, j < n → zer r f k j ≤ zer r f k best) (hfirst : ∀ j, j < best → zer r f k j < zer r f k best) : best = p := by
  have hzp : zer r f k p = r p := zer_not r f k p fun j hj e => by
    have h1 := hs j k (Nat.zero_le _) hj hk
    rw [e, hp] at h1
    exact h1.irrefl
  obtain ⟨j, _, hj, ej⟩ := himg.onto best (Nat.zero_le _) hb
  have ej' : f j = (best : Int) := ej
  rcases Nat.lt_trichotomy j k with h | h | h
  · have h1 := zer_yes r f k best j h ej'
    have h2 := hmax p hpn
    omega
  · subst h
    rw [ej'] at hp
    omega
  · have h1 := hs k j (Nat.zero_le _) h hj
    rw [hp, ej'] at h1
    have hzb : zer r f k best = r best := zer_not r f k best fun q hq e => by
      have h2 := hs q j (Nat.zero_le _) (by omega) hj
      rw [e, ej'] at h2
      exact h2.irrefl
    have h2 := hmax p hpn
    rw [hzp, hzb] at h2
    unfold LT at h1
    rw [hK p hpn, hK best hb] at h1
    rcases h1 with h1 | ⟨h1, h3⟩
    · omega
    · have h4 := hfirst p (by omega)
      rw [hzp, hzb] at h4
      omega
end Go.Proofs.Ytldfnlkineehbaa
