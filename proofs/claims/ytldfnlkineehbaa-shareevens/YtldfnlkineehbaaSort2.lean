/- The comparison: cmp.Compare at uint64, and share's closure over the rests. -/
import Derived.Test.YtldfnlkineehbaaSort1
namespace Go.Proofs.Ytldfnlkineehbaa
open Go.RowKit
set_option linter.unusedSimpArgs false
set_option linter.unusedVariables false

def cfOf (a b : Int) : Int := if a < b then -1 else if b < a then 1 else 0

theorem cmp_Compare (a b : Int) (w : World) :
    Calls Try.prog 48 #[.int .u64 a, .int .u64 b] w fun e w' => e = .returned (.int .i64 (cfOf a b)) ∧ w' = w := by
  have ha : ((a != a) = false) := by simp
  have hb : ((b != b) = false) := by simp
  rcases Int.lt_trichotomy a b with h | h | h
  · have e : cfOf a b = -1 := by unfold cfOf; rw [if_pos h]
    rw [e]
    go_enter Try.func48, Try.ntmps48
    go_wp2
    go_ret
    exact ⟨rfl, rfl⟩
  · subst h
    have e : cfOf a a = 0 := by unfold cfOf; rw [if_neg (by omega), if_neg (by omega)]
    rw [e]
    go_enter Try.func48, Try.ntmps48
    go_wp2
    go_ret
    exact ⟨rfl, rfl⟩
  · have e : cfOf a b = 1 := by unfold cfOf; rw [if_neg (by omega), if_pos h]
    rw [e]
    go_enter Try.func48, Try.ntmps48
    go_wp2
    go_ret
    exact ⟨rfl, rfl⟩

/-- What the sort asks of the comparison, in every world below whose block B nothing has turned. -/
def Cmp (w0 : World) (B N R : Nat) (K : Int → Int) : Prop :=
  ∀ w, Below B w0 w → ∀ x y : Int, 0 ≤ x → x < N → 0 ≤ y → y < N →
    Calls Try.prog 47 #[.int .i64 x, .int .i64 y, .pointer (some ⟨R, 0, none⟩)] w fun e w' => e = .returned (.int .i64 (cfOf (K y) (K x))) ∧ ∃ q, w' = w.drewN q

theorem closure (a : Option Addr) (len cap R : Nat) (l : List Int) (x y : Nat) (w : World) (hR : w.cell? ⟨R, 0, none⟩ = some (.slice a len cap)) (hs : Sl .u64 w a len l) (hx : x < len) (hy : y < len) :
    Calls Try.prog 47 #[.int .i64 x, .int .i64 y, .pointer (some ⟨R, 0, none⟩)] w fun e w' => e = .returned (.int .i64 (cfOf (l.getD y 0) (l.getD x 0))) ∧ ∃ q, w' = w.drewN q := by
  have hbig := hs.big
  unfold maxLen at hbig
  obtain ⟨b, o, rfl, hb, hc⟩ := hs.cells (by omega)
  have c1 := hc x hx
  have c2 := hc y hy
  have h1 : (x : Int) < (len : Int) := by omega
  have h2 : (y : Int) < (len : Int) := by omega
  generalize l.getD x 0 = u at *
  generalize l.getD y 0 = v at *
  clear hc hs
  go_enter Try.func47, Try.ntmps47
  go_wp2
  go_quiet ((go_at_call 48; exact Calls.quiet_of_same (cmp_Compare _ _ _)))
  go_wp2
  go_ret
  exact ⟨rfl, nq, rfl⟩
end Go.Proofs.Ytldfnlkineehbaa
