/- Numbers as bytes, seven bits a byte, the lowest first: there and back. No program is named here. -/
import Derived.Test.YtapcmkhpbdphoaaMathNum
namespace Go.Proofs.Ytapcmkhpbdphoaa
open Go.RowKit
set_option linter.unusedSimpArgs false
set_option linter.unusedVariables false

def isB (x : Int) : Prop := 0 ≤ x ∧ x ≤ 255
theorem isB_of {a : Int} (h : (Lit.int .u8 a).wf = true) : isB a := by
  simp [Lit.wf, IntKind.min, IntKind.max, IntKind.bits, IntKind.signed] at h
  unfold isB; omega

def enc (u : Nat) : List Int := if h : u < 128 then [(u : Int)] else ((u % 128 + 128 : Nat) : Int) :: enc (u / 128)
termination_by u
decreasing_by omega
theorem enc_lt {u : Nat} (h : u < 128) : enc u = [(u : Int)] := by rw [enc, dif_pos h]
theorem enc_ge {u : Nat} (h : 128 ≤ u) : enc u = ((u % 128 + 128 : Nat) : Int) :: enc (u / 128) := by rw [enc, dif_neg (by omega)]

def zig (n : Int) : Nat := if 0 ≤ n then (2 * n).toNat else (-2 * n - 1).toNat
def zag (u : Nat) : Int := if u % 2 = 0 then (u / 2 : Nat) else -((u / 2 : Nat) : Int) - 1
theorem zag_zig (n : Int) : zag (zig n) = n := by
  unfold zag zig
  by_cases h : 0 ≤ n
  · rw [if_pos h, if_pos (by omega)]; omega
  · rw [if_neg h, if_neg (by omega)]; omega
theorem zig_lt {n : Int} (h : isI n) : zig n < 18446744073709551616 := by
  unfold isI at h; unfold zig
  split <;> omega
theorem zag_is {u : Nat} (h : u < 18446744073709551616) : isI (zag u) := by
  unfold isI zag
  split <;> omega
def encI (n : Int) : List Int := enc (zig n)

theorem enc_ind {p : Nat → Prop} (h0 : ∀ u, u < 128 → p u) (h1 : ∀ u, 128 ≤ u → p (u / 128) → p u) (u : Nat) : p u := by
  induction u using Nat.strongRecOn with
  | ind u ih =>
    by_cases h : u < 128
    · exact h0 u h
    · exact h1 u (by omega) (ih (u / 128) (by omega))

theorem enc_pos (u : Nat) : 0 < (enc u).length := by
  by_cases h : u < 128
  · rw [enc_lt h]; simp
  · rw [enc_ge (by omega)]; simp
theorem enc_isB (u : Nat) : ∀ x ∈ enc u, isB x := by
  refine enc_ind (p := fun u => ∀ x ∈ enc u, isB x) (fun u h => ?_) (fun u h ih => ?_) u
  · rw [enc_lt h]; intro x hx; simp at hx; subst hx; unfold isB; omega
  · rw [enc_ge h]; intro x hx
    rcases List.mem_cons.1 hx with rfl | hx
    · unfold isB; omega
    · exact ih x hx

/-- The place of the first byte that is a last one. -/
def lastIx : List Int → Option Nat
  | [] => none
  | c :: r => if c < 128 then some 0 else (lastIx r).map (· + 1)
def val : List Int → Nat
  | [] => 0
  | c :: r => (c % 128).toNat + 128 * val r

theorem lastIx_enc (u : Nat) (r : List Int) : lastIx (enc u ++ r) = some ((enc u).length - 1) := by
  refine enc_ind (p := fun u => lastIx (enc u ++ r) = some ((enc u).length - 1)) (fun u h => ?_) (fun u h ih => ?_) u
  · rw [enc_lt h]; simp [lastIx]; omega
  · have hp := enc_pos (u / 128)
    rw [enc_ge h, List.cons_append, lastIx, if_neg (by omega), ih]
    simp; omega
theorem val_enc (u : Nat) : val (enc u) = u := by
  refine enc_ind (p := fun u => val (enc u) = u) (fun u h => ?_) (fun u h ih => ?_) u
  · rw [enc_lt h]; simp [val]; omega
  · rw [enc_ge h, val, ih]; omega
theorem enc_len (u : Nat) : ∀ k, 1 ≤ k → u < 128 ^ k → (enc u).length ≤ k := by
  refine enc_ind (p := fun u => ∀ k, 1 ≤ k → u < 128 ^ k → (enc u).length ≤ k) (fun u h k hk _ => ?_) (fun u h ih k hk hu => ?_) u
  · rw [enc_lt h]; simpa using hk
  · rw [enc_ge h, List.length_cons]
    by_cases h1 : k = 1
    · subst h1; simp at hu; omega
    · have := ih (k - 1) (by omega) (by
        obtain ⟨m, rfl⟩ : ∃ m, k = m + 1 := ⟨k - 1, by omega⟩
        rw [Nat.pow_succ] at hu
        rw [show m + 1 - 1 = m by omega]
        exact Nat.div_lt_of_lt_mul (by rw [Nat.mul_comm]; exact hu))
      omega
theorem enc_last (u : Nat) : (enc u).getD ((enc u).length - 1) 0 = ((u / 128 ^ ((enc u).length - 1) : Nat) : Int) := by
  refine enc_ind (p := fun u => (enc u).getD ((enc u).length - 1) 0 = ((u / 128 ^ ((enc u).length - 1) : Nat) : Int)) (fun u h => ?_) (fun u h ih => ?_) u
  · rw [enc_lt h]; simp
  · have hp := enc_pos (u / 128)
    obtain ⟨m, hm⟩ : ∃ m, (enc (u / 128)).length = m + 1 := ⟨_, (by omega : (enc (u / 128)).length = ((enc (u / 128)).length - 1) + 1)⟩
    rw [hm] at ih
    rw [enc_ge h, List.length_cons, hm]
    simp only [Nat.add_sub_cancel] at ih ⊢
    rw [List.getD_cons_succ, ih, Nat.div_div_eq_div_mul]
    congr 2
    rw [Nat.pow_succ]; omega
theorem enc_last_pos (u : Nat) : 1 < (enc u).length → 0 < u / 128 ^ ((enc u).length - 1) := by
  refine enc_ind (p := fun u => 1 < (enc u).length → 0 < u / 128 ^ ((enc u).length - 1)) (fun u h h1 => ?_) (fun u h ih h1 => ?_) u
  · rw [enc_lt h] at h1; simp at h1
  · have hp := enc_pos (u / 128)
    rw [enc_ge h, List.length_cons, Nat.add_sub_cancel]
    by_cases h2 : 1 < (enc (u / 128)).length
    · have := ih h2
      obtain ⟨m, hm⟩ : ∃ m, (enc (u / 128)).length = m + 1 := ⟨_, (by omega : (enc (u / 128)).length = ((enc (u / 128)).length - 1) + 1)⟩
      rw [hm] at this ⊢
      rw [Nat.add_sub_cancel, Nat.div_div_eq_div_mul] at this
      rw [Nat.pow_succ, Nat.mul_comm]
      exact this
    · have h3 : (enc (u / 128)).length = 1 := by omega
      rw [h3]; simp; omega

/-- What the next number is: its value, how many bytes it has, the error. -/
def numBad (l : List Int) (k : Nat) : Prop := (0 < k ∧ l.getD k 0 = 0) ∨ 10 < k + 1 ∨ (k + 1 = 10 ∧ 1 < l.getD k 0)
instance (l : List Int) (k : Nat) : Decidable (numBad l k) := by unfold numBad; infer_instance
def numV (l : List Int) : Int := match lastIx l with | none => 0 | some k => if numBad l k then 0 else zag (val (l.take (k + 1)))
def numS (l : List Int) : Nat := match lastIx l with | none => 0 | some k => if numBad l k then 0 else k + 1
def numE (l : List Int) : Int := match lastIx l with | none => 7 | some k => if numBad l k then 6 else 0

theorem getD_app {l r : List Int} {k : Nat} (h : k < l.length) : (l ++ r).getD k 0 = l.getD k 0 := by
  rw [List.getD_eq_getElem?_getD, List.getD_eq_getElem?_getD, List.getElem?_append_left h]
theorem enc_good (u : Nat) (hu : u < 18446744073709551616) (r : List Int) : ¬ numBad (enc u ++ r) ((enc u).length - 1) := by
  have hp := enc_pos u
  have h10 := enc_len u 10 (by omega) (by have : (128 : Nat) ^ 10 = 1180591620717411303424 := by decide
                                          omega)
  unfold numBad
  rw [getD_app (by omega), enc_last]
  rintro (⟨h1, h2⟩ | h1 | ⟨h1, h2⟩)
  · have := enc_last_pos u (by omega)
    omega
  · omega
  · have e : (enc u).length - 1 = 9 := by omega
    rw [e] at h2
    have : (128 : Nat) ^ 9 = 9223372036854775808 := by decide
    omega
theorem num_enc (u : Nat) (hu : u < 18446744073709551616) (r : List Int) : numV (enc u ++ r) = zag u ∧ numS (enc u ++ r) = (enc u).length ∧ numE (enc u ++ r) = 0 := by
  have hp := enc_pos u
  have hg := enc_good u hu r
  unfold numV numS numE
  rw [lastIx_enc]
  simp only [if_neg hg]
  have e : (enc u).length - 1 + 1 = (enc u).length := by omega
  rw [e, List.take_left, val_enc]
  exact ⟨rfl, rfl, trivial⟩
theorem lastIx_none {l : List Int} (h : ∀ x ∈ l, 128 ≤ x) : lastIx l = none := by
  induction l with
  | nil => rfl
  | cons c r ih =>
    rw [lastIx, if_neg (by have := h c (List.mem_cons_self ..); omega), ih fun x hx => h x (List.mem_cons_of_mem _ hx)]
    rfl
theorem enc_front (u : Nat) : ∀ x ∈ (enc u).dropLast, 128 ≤ x := by
  refine enc_ind (p := fun u => ∀ x ∈ (enc u).dropLast, 128 ≤ x) (fun u h => ?_) (fun u h ih => ?_) u
  · rw [enc_lt h]; simp
  · rw [enc_ge h]
    cases he : enc (u / 128) with
    | nil => have := enc_pos (u / 128); rw [he] at this; simp at this
    | cons y t =>
      rw [he] at ih
      intro x hx
      rw [List.dropLast_cons_cons] at hx
      rcases List.mem_cons.1 hx with rfl | hx
      · omega
      · exact ih x hx
theorem num_short (u : Nat) : numV (enc u).dropLast = 0 ∧ numS (enc u).dropLast = 0 ∧ numE (enc u).dropLast = 7 := by
  unfold numV numS numE
  rw [lastIx_none (enc_front u)]
  exact ⟨rfl, rfl, rfl⟩

theorem lastIx_spec {l : List Int} {k : Nat} (h : lastIx l = some k) : k < l.length ∧ l.getD k 0 < 128 ∧ ∀ j, j < k → 128 ≤ l.getD j 0 := by
  induction l generalizing k with
  | nil => cases h
  | cons c r ih =>
    rw [lastIx] at h
    by_cases hc : c < 128
    · rw [if_pos hc] at h
      cases h
      exact ⟨by simp, by simpa using hc, fun j hj => absurd hj (by omega)⟩
    · rw [if_neg hc] at h
      cases hr : lastIx r with
      | none => rw [hr] at h; cases h
      | some m =>
        rw [hr] at h
        simp at h
        subst h
        obtain ⟨h1, h2, h3⟩ := ih hr
        refine ⟨by simp; omega, by simpa using h2, fun j hj => ?_⟩
        cases j with
        | zero => simp; omega
        | succ j => simpa using h3 j (by omega)
theorem lastIx_at {l : List Int} {k : Nat} (hk : k < l.length) (h1 : l.getD k 0 < 128) (h2 : ∀ j, j < k → 128 ≤ l.getD j 0) : lastIx l = some k := by
  induction l generalizing k with
  | nil => simp at hk
  | cons c r ih =>
    rw [lastIx]
    cases k with
    | zero => rw [if_pos (by simpa using h1)]
    | succ k =>
      have := h2 0 (by omega)
      rw [if_neg (by simp at this; omega), ih (by simpa using hk) (by simpa using h1) fun j hj => by simpa using h2 (j + 1) (by omega)]
      rfl
theorem lastIx_no {l : List Int} (h : ∀ j, j < l.length → 128 ≤ l.getD j 0) : lastIx l = none := by
  refine lastIx_none fun x hx => ?_
  obtain ⟨i, hi, rfl⟩ := List.getElem_of_mem hx
  have := h i hi
  rwa [List.getD_eq_getElem?_getD, List.getElem?_eq_getElem hi] at this
theorem numS_le (l : List Int) : numS l ≤ l.length := by
  unfold numS
  cases h : lastIx l with
  | none => simp
  | some k =>
    have := (lastIx_spec h).1
    dsimp
    split <;> omega
theorem numE_cases (l : List Int) : (numE l = 0 ∧ 0 < numS l) ∨ ((numE l = 7 ∨ numE l = 6) ∧ numS l = 0 ∧ numV l = 0) := by
  unfold numE numS numV
  cases h : lastIx l with
  | none => exact .inr ⟨.inl rfl, rfl, rfl⟩
  | some k =>
    dsimp
    by_cases hb : numBad l k
    · exact .inr ⟨.inr (if_pos hb), if_pos hb, if_pos hb⟩
    · exact .inl ⟨if_neg hb, by rw [if_neg hb]; omega⟩

theorem val_app (l r : List Int) : val (l ++ r) = val l + 128 ^ l.length * val r := by
  induction l with
  | nil => simp [val]
  | cons c t ih =>
    rw [List.cons_append, val, val, ih, List.length_cons, Nat.pow_succ, Nat.mul_add, Nat.mul_comm (128 ^ t.length) 128, Nat.mul_assoc]
    omega
theorem val_lt (l : List Int) : val l < 128 ^ l.length := by
  induction l with
  | nil => simp [val]
  | cons c t ih => rw [val, List.length_cons, Nat.pow_succ]; omega
theorem val_drop {l : List Int} {k : Nat} (h : k < l.length) : val (l.drop k) = (l.getD k 0 % 128).toNat + 128 * val (l.drop (k + 1)) := by
  rw [List.drop_eq_getElem_cons h, val, List.getD_eq_getElem?_getD, List.getElem?_eq_getElem h]
  rfl
theorem val_le_drop (l : List Int) (k : Nat) (h : k ≤ l.length) : 128 ^ k * val (l.drop k) ≤ val l := by
  have e := val_app (l.take k) (l.drop k)
  rw [List.take_append_drop, List.length_take, Nat.min_eq_left h] at e
  omega
/-- A number that is none of the bad ones fits in 64 bits. -/
theorem val_fits {l : List Int} (hb : ∀ x ∈ l, isB x) {k : Nat} (h : lastIx l = some k) (hg : ¬ numBad l k) : val (l.take (k + 1)) < 18446744073709551616 := by
  obtain ⟨hk, h1, h2⟩ := lastIx_spec h
  unfold numBad at hg
  have e9 : (128 : Nat) ^ 9 = 9223372036854775808 := by decide
  by_cases h9 : k + 1 ≤ 9
  · have := val_lt (l.take (k + 1))
    rw [List.length_take, Nat.min_eq_left (by omega)] at this
    have : (128 : Nat) ^ (k + 1) ≤ 128 ^ 9 := Nat.pow_le_pow_right (by omega) h9
    omega
  · have hk9 : k = 9 := by omega
    subst hk9
    rw [List.take_succ_eq_append_getElem hk, val_app, List.length_take, Nat.min_eq_left (by omega)]
    have hlt := val_lt (l.take 9)
    rw [List.length_take, Nat.min_eq_left (by omega)] at hlt
    have hx : l.getD 9 0 ≤ 1 := by omega
    have hx0 : isB (l.getD 9 0) := hb _ (by rw [List.getD_eq_getElem?_getD, List.getElem?_eq_getElem hk]; exact List.getElem_mem hk)
    have e : l[9] = l.getD 9 0 := by rw [List.getD_eq_getElem?_getD, List.getElem?_eq_getElem hk]; rfl
    rw [e]
    generalize l.getD 9 0 = x at *
    unfold isB at hx0
    simp only [val]
    rw [e9] at *
    omega
theorem numV_is {l : List Int} (hb : ∀ x ∈ l, isB x) : isI (numV l) := by
  unfold numV
  cases h : lastIx l with
  | none => unfold isI; dsimp; omega
  | some k =>
    dsimp
    by_cases hg : numBad l k
    · rw [if_pos hg]; unfold isI; omega
    · rw [if_neg hg]; exact zag_is (val_fits hb h hg)
end Go.Proofs.Ytapcmkhpbdphoaa
