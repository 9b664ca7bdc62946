/- region: runs that are sorted by their first numbers. -/
import Derived.Test.YthbogpnkdlbilaaReg1
import Derived.Test.YthbogpnkdlbilaaSortShelf
namespace Go.Proofs.Ythbogpnkdlbilaa
open Go.RowKit Go.Maps
open Go.Sort (SWO PermIn SortedIn HoldsK grow putRowK)
set_option linter.unusedSimpArgs false
set_option linter.unusedVariables false

def encR (x : Rn) : List Value := [.int .i64 x.1, .int .i64 x.2]
theorem cmp_Compare (x y : Int) (w : World) : Calls Try.prog 37 #[.int .i64 x, .int .i64 y] w fun e w' => e = .returned (.int .i64 (if x < y then -1 else if y < x then 1 else 0)) ∧ w' = w := by
  have hN : ∀ (x : Int) (w : World), Calls Try.prog 40 #[.int .i64 x] w fun e w' => e = .returned (.bool false) ∧ w' = w := by
    intro x w
    go_enter Try.func40, Try.ntmps40
    go_wp2_with fail
    go_ret
    first | exact ⟨rfl, rfl⟩ | exact ⟨by simp, rfl⟩
  by_cases h1 : x < y
  · rw [if_pos h1]
    go_enter Try.func37, Try.ntmps37
    go_wp2_with (go_at_call 40; refine (hN _ _).mono ?_; rintro e w1 ⟨rfl, rfl⟩)
    go_ret
    exact ⟨rfl, rfl⟩
  · rw [if_neg h1]
    have h1' : y ≤ x := by omega
    by_cases h2 : y < x
    · rw [if_pos h2]
      go_enter Try.func37, Try.ntmps37
      go_wp2_with (go_at_call 40; refine (hN _ _).mono ?_; rintro e w1 ⟨rfl, rfl⟩)
      go_ret
      exact ⟨rfl, rfl⟩
    · rw [if_neg h2]
      have h2' : x ≤ y := by omega
      go_enter Try.func37, Try.ntmps37
      go_wp2_with (go_at_call 40; refine (hN _ _).mono ?_; rintro e w1 ⟨rfl, rfl⟩)
      go_ret
      exact ⟨rfl, rfl⟩
def cfR (x y : Rn) : Int := if x.1 < y.1 then -1 else if y.1 < x.1 then 1 else 0
theorem ltR (x y : Rn) : ltOf cfR x y = decide (x.1 < y.1) := by
  unfold ltOf cfR
  by_cases h1 : x.1 < y.1
  · simp [h1]
  · by_cases h2 : y.1 < x.1 <;> simp [h1, h2]
theorem swoR : SWO (ltOf cfR) where
  irrefl x := by rw [ltR]; simp
  trans x y z h1 h2 := by rw [ltR] at *; simp at *; omega
  ntrans x y z h1 h2 := by rw [ltR] at *; simp at *; omega
theorem closureR (x y : Rn) (W : World) : Calls Try.prog 36 #[.agg #[.int .i64 x.1, .int .i64 x.2], .agg #[.int .i64 y.1, .int .i64 y.2]] W fun e w' => e = .returned (.int .i64 (cfR x y)) ∧ ∃ q os', w' = grow (W.drewN q) os' := by
  have hcon := fun W' => cmp_Compare x.1 y.1 W'
  have HC := hidMk hcon
  have e : cfR x y = if x.1 < y.1 then -1 else if y.1 < x.1 then 1 else 0 := rfl
  rw [← e] at HC
  clear hcon e
  generalize cfR x y = r at *
  go_enter Try.func36, Try.ntmps36
  go_wp2_with (go_at_call 37; refine (HC.out _).mono ?_; rintro e w' ⟨rfl, rfl⟩)
  go_ret
  exact ⟨rfl, 0, _, by rw [Go.Sort.alloc_eq_grow, Go.Sort.alloc_eq_grow, Go.Sort.grow_grow]; rfl⟩
theorem cmpLaysR (blk off size : Nat) (w : World) : CmpLays Try.prog 36 #[] encR 2 cfR blk off size w :=
  fun _ _ _ _ x y => closureR x y _
theorem slices_SortR {w : World} {g off cap : Nat} {d : Array Rn} (hH : HoldsK encR 2 w g off d) (hb : g < w.heap.size) (hsz : d.size ≤ 100000) :
    Calls Try.prog 35 #[.slice (some ⟨g, off, none⟩) d.size cap, .func (.func 36) #[] #[]] w fun e w' => e = .returned (.tuple #[]) ∧ ∃ d' n os, PermIn 0 d.size d d' ∧ SortedIn (ltOf cfR) 0 d.size d' ∧ w' = sortWorldK encR 2 w g off n d' os := by
  have eg : ∀ args w, (callFunc 36 args).run Try.prog w = .ok (.enter 36 args) w := enters_of Try.func36 (by kernel_rfl) rfl
  have hcon := AnyQ.slices_SortFunc Try.sortR 2 Try.isAgg47 Try.sizeOf47 encR (fun _ => rfl) (fun x v hv => by simp [encR] at hv; rcases hv with rfl | rfl <;> rfl) cfR swoR 36 #[] g off cap d w eg (cmpLaysR g off d.size w) hH hb (by omega)
  exact hcon
end Go.Proofs.Ythbogpnkdlbilaa
