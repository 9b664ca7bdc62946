/- text.Num and the definition's. -/
import Derived.Test.YtbhojgodkblflaaTextName
import Derived.Test.YtbhojgodkblflaaNumMath
namespace Go.Proofs.Ytbhojgodkblflaa
open Go.RowKit
set_option linter.unusedSimpArgs false
set_option linter.unusedVariables false

theorem ten_cut (n : Nat) (h : n < 10) : (ByteArray.mk #[48, 49, 50, 51, 52, 53, 54, 55, 56, 57]).extract n (n + 1) = str [48 + (n : Int)] := by
  have h : ∀ k : Fin 10, (ByteArray.mk #[48, 49, 50, 51, 52, 53, 54, 55, 56, 57]).extract k.val (k.val + 1) = str [48 + ((k.val : Nat) : Int)] := by decide +kernel
  exact h ⟨n, by assumption⟩

theorem ref_digit1 (n : Nat) (h : n < 10) (w : World) : Calls Try.prog 44 #[.int .u64 n] w fun e w' => e = .returned (.string (str (digs n))) ∧ w' = w := by
  rw [digs_lt h, ← ten_cut n h]
  have h' : (n : Int) < 10 := by omega
  go_enter Try.func44, Try.ntmps44
  go_wp2
  go_ret
  exact ⟨rfl, rfl⟩

set_option maxHeartbeats 400000 in
theorem ref_digits (n : Nat) : n < 18446744073709551616 → ∀ w : World, Calls Try.prog 44 #[.int .u64 n] w fun e w' => e = .returned (.string (str (digs n))) ∧ w' = w := by
  refine digs_ind (p := fun n => n < 18446744073709551616 → ∀ w : World, Calls Try.prog 44 #[.int .u64 n] w fun e w' => e = .returned (.string (str (digs n))) ∧ w' = w) (fun u h _ w => ref_digit1 u h w) (fun u h ih hu w => ?_) n
  have hge : (10 : Int) ≤ (u : Int) := by omega
  have HI := hidMk (ih (by omega))
  have HD := hidMk (ref_digit1 (u % 10) (by omega))
  have HE := hidMk (show digs u = digs (u / 10) ++ digs (u % 10) by rw [digs_ge h, digs_lt (n := u % 10) (by omega)])
  have hs1 : (str (digs (u / 10))).size ≤ 20 := by
    rw [str_size]
    have := digs_len (u / 10) 20 (by omega) (by have : (10 : Nat) ^ 20 = 100000000000000000000 := by decide
                                                omega)
    omega
  have hs2 : (str (digs (u % 10))).size ≤ 20 := by
    rw [str_size, digs_lt (by omega)]; simp
  have HS := hidMk (str_app (digs (u / 10)) (digs (u % 10)))
  clear ih
  generalize str (digs (u / 10)) = x at *
  generalize str (digs (u % 10)) = y at *
  have hq : ((u : Int) / 10) = ((u / 10 : Nat) : Int) := by omega
  have hm : ((u : Int) % 10) = ((u % 10 : Nat) : Int) := by omega
  generalize u / 10 = q at *
  generalize u % 10 = m at *
  go_enter Try.func44, Try.ntmps44
  go_wp2_with fail
  refine (HI.out _).mono ?_
  rintro e w1 ⟨rfl, rfl⟩
  go_wp2_with fail
  refine (HD.out _).mono ?_
  rintro e w2 ⟨rfl, rfl⟩
  go_wp2_with fail
  go_ret
  rw [HE.out, ← HS.out]
  exact ⟨rfl, rfl⟩

theorem numS_neg {x : Int} (h : x < 0) : numS x = str [45] ++ str (digs (-x).toNat) := by
  unfold numS numL
  rw [if_pos h, str_app]
  rfl
theorem numS_pos {x : Int} (h : 0 ≤ x) : numS x = str (digs x.toNat) := by
  unfold numS numL
  rw [if_neg (by omega)]

set_option maxHeartbeats 400000 in
theorem ref_Num (x : Int) (hx : isI x) (w : World) : Calls Try.prog 24 #[.int .i64 x] w fun e w' => e = .returned (.string (numS x)) ∧ w' = w := by
  unfold isI at hx
  by_cases h : x < 0
  · rw [numS_neg h]
    have HD := hidMk (ref_digits (-x).toNat (by omega))
    have hw : IntKind.u64.wrap (-IntKind.u64.wrap x) = ((-x).toNat : Int) := by rw [IntKind.wrap_u64, IntKind.wrap_u64]; omega
    have hs : (str (digs (-x).toNat)).size ≤ 20 := by
      rw [str_size]
      exact digs_len _ 20 (by omega) (by have : (10 : Nat) ^ 20 = 100000000000000000000 := by decide
                                         omega)
    rw [show str [45] = ⟨#[45]⟩ by decide +kernel]
    generalize str (digs (-x).toNat) = y at *
    generalize (-x).toNat = q at *
    go_enter Try.func24, Try.ntmps24
    go_wp2_with fail
    refine (HD.out _).mono ?_
    rintro e w1 ⟨rfl, rfl⟩
    go_wp2_with fail
    go_ret
    exact ⟨rfl, rfl⟩
  · rw [numS_pos (by omega)]
    have HD := hidMk (ref_digits x.toNat (by omega))
    have hw : IntKind.u64.wrap x = (x.toNat : Int) := by rw [IntKind.wrap_u64]; omega
    have h0 : 0 ≤ x := by omega
    clear h
    generalize str (digs x.toNat) = y at *
    generalize hq : x.toNat = q at *
    obtain rfl : x = (q : Int) := by omega
    clear hq
    go_enter Try.func24, Try.ntmps24
    go_wp2_with fail
    refine (HD.out _).mono ?_
    rintro e w1 ⟨rfl, rfl⟩
    go_wp2_with fail
    go_ret
    exact ⟨rfl, rfl⟩
end Go.Proofs.Ytbhojgodkblflaa
