/- Digits that are read: the library's way, and the definition's. No program is named here. -/
import Derived.Test.YtifddieoekbnfaaDoorNumMath
import Derived.Lib.ParseIntBTie
namespace Go.Proofs.YtifddieoekbnfaaDoor
open Go.RowKit
set_option linter.unusedSimpArgs false
set_option linter.unusedVariables false

def u8s (l : List Int) : List UInt8 := l.map fun x => UInt8.ofNat x.toNat
theorem str_data (l : List Int) : (str l).data.toList = u8s l := by simp [str, u8s]
theorem u8_val {c : Int} (h : isB c) : (UInt8.ofNat c.toNat).toNat = c.toNat := by
  unfold isB at h
  simp
  omega
theorem valD_ge (l : List Int) (acc : Nat) : acc ≤ valD acc l := by
  induction l generalizing acc with
  | nil => exact Nat.le_refl _
  | cons c r ih => have := ih (acc * 10 + (c - 48).toNat); unfold valD; omega
theorem parse_digs (l : List Int) (h : ∀ x ∈ l, 48 ≤ x ∧ x ≤ 57) (acc : Nat) (hv : valD acc l < 18446744073709551616) : Lib.parseUintM (2 ^ 64 - 1) acc (u8s l) = .ok (valD acc l) := by
  induction l generalizing acc with
  | nil => rfl
  | cons c r ih =>
    have hc := h c (List.mem_cons_self ..)
    have hge := valD_ge r (acc * 10 + (c - 48).toNat)
    unfold valD at hv ⊢
    have e : (UInt8.ofNat c.toNat).toNat = c.toNat := u8_val (by unfold isB; omega)
    show Lib.parseUintM (2 ^ 64 - 1) acc (UInt8.ofNat c.toNat :: u8s r) = _
    unfold Lib.parseUintM
    rw [e, if_pos (by omega), if_neg (by omega), if_neg (by omega)]
    rw [show c.toNat - 48 = (c - 48).toNat by omega]
    exact ih (fun x hx => h x (List.mem_cons_of_mem _ hx)) _ hv
theorem parse_num (v : Int) (hv : isI v) : Lib.parseIntB 64 (numS v).data.toList = .ok v := by
  unfold numS
  rw [str_data]
  unfold isI at hv
  unfold numL
  by_cases h : v < 0
  · rw [if_pos h]
    show Lib.parseIntB 64 (UInt8.ofNat 45 :: u8s (digs (-v).toNat)) = _
    have hp := parse_digs (digs (-v).toNat) (digs_dig _) 0 (by rw [valD_digs]; omega)
    rw [valD_digs] at hp
    have hne : u8s (digs (-v).toNat) ≠ [] := by
      intro e
      have := congrArg List.length e
      have h2 := digs_pos (-v).toNat
      simp [u8s] at this
      rw [this] at h2; simp at h2
    have hU : Lib.parseUintB 64 (u8s (digs (-v).toNat)) = .ok (-v).toNat := by unfold Lib.parseUintB; rw [if_neg hne]; exact hp
    unfold Lib.parseIntB
    have e45 : (UInt8.ofNat 45).toNat = 45 := rfl
    have e63 : (2 : Nat) ^ (64 - 1) = 9223372036854775808 := by decide
    simp only [e45]
    rw [if_pos (by simp), hU]
    simp only [e63]
    rw [if_neg (by simp), if_neg (by omega)]
    simp
    omega
  · rw [if_neg h]
    have hp := parse_digs (digs v.toNat) (digs_dig _) 0 (by rw [valD_digs]; omega)
    rw [valD_digs] at hp
    cases hd : digs v.toNat with
    | nil => have := digs_pos v.toNat; rw [hd] at this; simp at this
    | cons c r =>
      have hc := digs_dig v.toNat c (by rw [hd]; exact List.mem_cons_self ..)
      rw [hd] at hp
      have e : (UInt8.ofNat c.toNat).toNat = c.toNat := u8_val (by unfold isB; omega)
      have hU : Lib.parseUintB 64 (u8s (c :: r)) = .ok v.toNat := by unfold Lib.parseUintB; rw [if_neg (by simp [u8s])]; exact hp
      have hcons : u8s (c :: r) = UInt8.ofNat c.toNat :: u8s r := rfl
      rw [hcons] at hU ⊢
      unfold Lib.parseIntB
      have e63 : (2 : Nat) ^ (64 - 1) = 9223372036854775808 := by decide
      simp only [e]
      rw [if_neg (by omega), hU]
      simp only [e63]
      rw [if_neg (by omega), if_neg (by omega), if_neg (by omega)]
      simp
      omega
theorem parse_is {l : List UInt8} {v : Int} (h : Lib.parseIntB 64 l = .ok v) : isI v := by
  rw [Lib.parseIntB_64] at h
  have := Lib.atoiAll_bounds h
  unfold isI
  omega

/-- The definition's way: what is no digit is passed by; what is too great goes round. -/
def valR : Int → List Int → Int
  | acc, [] => acc
  | acc, c :: r => valR (if digB c then (acc * 10 + (c - 48)) % 18446744073709551616 else acc) r
theorem valR_app (acc : Int) (l m : List Int) : valR acc (l ++ m) = valR (valR acc l) m := by
  induction l generalizing acc with
  | nil => rfl
  | cons c r ih => exact ih _
theorem valR_isU (l : List Int) (acc : Int) (h : isU acc) : isU (valR acc l) := by
  induction l generalizing acc with
  | nil => exact h
  | cons c r ih =>
    unfold valR
    refine ih _ ?_
    unfold isU at *
    split
    · omega
    · exact h
theorem valR_digs (l : List Int) (h : ∀ x ∈ l, 48 ≤ x ∧ x ≤ 57) (acc : Nat) (hv : valD acc l < 18446744073709551616) : valR acc l = (valD acc l : Int) := by
  induction l generalizing acc with
  | nil => rfl
  | cons c r ih =>
    have hc := h c (List.mem_cons_self ..)
    have hge := valD_ge r (acc * 10 + (c - 48).toNat)
    unfold valD at hv ⊢
    unfold valR
    have e : digB c = true := by unfold digB; simp; omega
    rw [if_pos e, ← ih (fun x hx => h x (List.mem_cons_of_mem _ hx)) _ hv]
    congr 1
    omega
theorem valR_num (v : Int) (hv : isI v) : valR 0 (numL v) = if v < 0 then -v else v := by
  unfold isI at hv
  unfold numL
  by_cases h : v < 0
  · rw [if_pos h, if_pos h]
    unfold valR
    rw [if_neg (by decide)]
    have := valR_digs (digs (-v).toNat) (digs_dig _) 0 (by rw [valD_digs]; omega)
    rw [valD_digs] at this
    rw [show (0 : Int) = ((0 : Nat) : Int) from rfl, this]
    omega
  · rw [if_neg h, if_neg h]
    have := valR_digs (digs v.toNat) (digs_dig _) 0 (by rw [valD_digs]; omega)
    rw [valD_digs] at this
    rw [show (0 : Int) = ((0 : Nat) : Int) from rfl, this]
    omega
theorem numL_len (v : Int) (hv : isI v) : (numL v).length ≤ 20 := by
  unfold isI at hv
  have e19 : (10 : Nat) ^ 19 = 10000000000000000000 := by decide
  unfold numL
  split
  · have := digs_len (-v).toNat 19 (by omega) (by omega)
    simp; omega
  · have := digs_len v.toNat 19 (by omega) (by omega)
    omega
theorem numS_size (v : Int) (hv : isI v) : (numS v).size ≤ 20 := by
  unfold numS; rw [str_size]; exact numL_len v hv
theorem numL_head (v : Int) : 0 < (numL v).length ∧ ((numL v).getD 0 0 = 45 ↔ v < 0) := by
  unfold numL
  by_cases h : v < 0
  · rw [if_pos h]; simp [h]
  · rw [if_neg h]
    refine ⟨digs_pos _, ?_⟩
    cases hd : digs v.toNat with
    | nil => have := digs_pos v.toNat; rw [hd] at this; simp at this
    | cons c r =>
      have hc := digs_dig v.toNat c (by rw [hd]; exact List.mem_cons_self ..)
      simp
      omega
end Go.Proofs.YtifddieoekbnfaaDoor
