/- Numbers in digits. No program is named here. -/
import Derived.Test.YtbhojgodkblflaaTreeMath2B
import Derived.Laws.Concat
import Derived.Laws.IdiomStrings
namespace Go.Proofs.Ytbhojgodkblflaa
open Go.RowKit
set_option linter.unusedSimpArgs false
set_option linter.unusedVariables false

def isB (x : Int) : Prop := 0 ≤ x ∧ x ≤ 255
def str (l : List Int) : ByteArray := ⟨(l.map fun x => UInt8.ofNat x.toNat).toArray⟩
theorem str_app (l m : List Int) : str l ++ str m = str (l ++ m) := by
  unfold str
  rw [ByteArray.mk_append_mk, List.map_append]
theorem str_size (l : List Int) : (str l).size = l.length := by
  unfold str
  show (l.map fun x => UInt8.ofNat x.toNat).toArray.size = _
  simp
theorem str_byt (s : ByteArray) : str (byt s) = s := by
  have h : (byt s).map (fun x => UInt8.ofNat x.toNat) = s.data.toList := by
    unfold byt
    rw [List.map_map]
    conv => rhs; rw [← List.map_id s.data.toList]
    refine List.map_congr_left fun b _ => ?_
    simp
  unfold str
  rw [h]
theorem byt_str {l : List Int} (h : ∀ x ∈ l, isB x) : byt (str l) = l := by
  unfold byt str
  simp only [List.map_map]
  conv => rhs; rw [← List.map_id l]
  refine List.map_congr_left fun x hx => ?_
  have := h x hx
  unfold isB at this
  simp
  omega
theorem byt_inj {a b : ByteArray} (h : byt a = byt b) : a = b := by rw [← str_byt a, ← str_byt b, h]

def digs (n : Nat) : List Int := if h : n < 10 then [48 + (n : Int)] else digs (n / 10) ++ [48 + ((n % 10 : Nat) : Int)]
termination_by n
decreasing_by omega
theorem digs_lt {n : Nat} (h : n < 10) : digs n = [48 + (n : Int)] := by rw [digs, dif_pos h]
theorem digs_ge {n : Nat} (h : 10 ≤ n) : digs n = digs (n / 10) ++ [48 + ((n % 10 : Nat) : Int)] := by rw [digs, dif_neg (by omega)]
theorem digs_ind {p : Nat → Prop} (h0 : ∀ u, u < 10 → p u) (h1 : ∀ u, 10 ≤ u → p (u / 10) → p u) (u : Nat) : p u := by
  induction u using Nat.strongRecOn with
  | ind u ih =>
    by_cases h : u < 10
    · exact h0 u h
    · exact h1 u (by omega) (ih (u / 10) (by omega))
theorem digs_pos (n : Nat) : 0 < (digs n).length := by
  by_cases h : n < 10
  · rw [digs_lt h]; simp
  · rw [digs_ge (by omega)]; simp
theorem digs_two {n : Nat} (h : 10 ≤ n) : 2 ≤ (digs n).length := by
  rw [digs_ge h, List.length_append]
  have := digs_pos (n / 10)
  simp; omega
theorem digs_len (n : Nat) : ∀ k, 1 ≤ k → n < 10 ^ k → (digs n).length ≤ k := by
  refine digs_ind (p := fun n => ∀ k, 1 ≤ k → n < 10 ^ k → (digs n).length ≤ k) (fun u h k hk _ => ?_) (fun u h ih k hk hu => ?_) n
  · rw [digs_lt h]; simpa using hk
  · rw [digs_ge h, List.length_append]
    by_cases h1 : k = 1
    · subst h1; simp at hu; omega
    · have := ih (k - 1) (by omega) (by
        obtain ⟨m, rfl⟩ : ∃ m, k = m + 1 := ⟨k - 1, by omega⟩
        rw [Nat.pow_succ] at hu
        rw [show m + 1 - 1 = m by omega]
        exact Nat.div_lt_of_lt_mul (by rw [Nat.mul_comm]; exact hu))
      simp; omega
theorem digs_dig (n : Nat) : ∀ x ∈ digs n, 48 ≤ x ∧ x ≤ 57 := by
  refine digs_ind (p := fun n => ∀ x ∈ digs n, 48 ≤ x ∧ x ≤ 57) (fun u h => ?_) (fun u h ih => ?_) n
  · rw [digs_lt h]; intro x hx; simp at hx; omega
  · rw [digs_ge h]; intro x hx
    rcases List.mem_append.1 hx with hx | hx
    · exact ih x hx
    · simp at hx; omega
def numL (x : Int) : List Int := if x < 0 then 45 :: digs (-x).toNat else digs x.toNat
def numS (x : Int) : ByteArray := str (numL x)
theorem numL_isB (x : Int) : ∀ y ∈ numL x, isB y := by
  intro y hy
  unfold numL at hy
  unfold isB
  split at hy
  · rcases List.mem_cons.1 hy with rfl | hy
    · omega
    · have := digs_dig _ y hy; omega
  · have := digs_dig _ y hy; omega
theorem numS_byt (x : Int) : byt (numS x) = numL x := byt_str (numL_isB x)

/-- What digits tell. -/
def valD (acc : Nat) : List Int → Nat
  | [] => acc
  | c :: r => valD (acc * 10 + (c - 48).toNat) r
theorem valD_app (acc : Nat) (l m : List Int) : valD acc (l ++ m) = valD (valD acc l) m := by
  induction l generalizing acc with
  | nil => rfl
  | cons c r ih => exact ih _
theorem valD_digs (n : Nat) : valD 0 (digs n) = n := by
  refine digs_ind (p := fun n => valD 0 (digs n) = n) (fun u h => ?_) (fun u h ih => ?_) n
  · rw [digs_lt h]; simp [valD]; omega
  · rw [digs_ge h, valD_app, ih]
    simp [valD]
    omega
theorem numL_inj {x y : Int} (h : numL x = numL y) : x = y := by
  unfold numL at h
  have hd : ∀ n, (digs n).head? ≠ some 45 := fun n e => by
    cases hh : digs n with
    | nil => have := digs_pos n; rw [hh] at this; simp at this
    | cons c r =>
      rw [hh] at e
      simp at e
      have := digs_dig n c (by rw [hh]; exact List.mem_cons_self ..)
      omega
  have hv : ∀ {a b : Nat}, digs a = digs b → a = b := fun {a b} e => by rw [← valD_digs a, ← valD_digs b, e]
  by_cases h1 : x < 0
  · by_cases h2 : y < 0
    · rw [if_pos h1, if_pos h2] at h
      have := hv (List.cons.inj h).2
      omega
    · rw [if_pos h1, if_neg h2] at h
      exact absurd (by rw [← h]; rfl) (hd y.toNat)
  · by_cases h2 : y < 0
    · rw [if_neg h1, if_pos h2] at h
      exact absurd (by rw [h]; rfl) (hd x.toNat)
    · rw [if_neg h1, if_neg h2] at h
      have := hv h
      omega

theorem run_string_gen {P : Program} {ts td te : TypeId} (hts : P.underlying ts = some (.slice te)) (hte : P.underlying te = some (.int .u8)) (htd : P.underlying td = some .string)
    {w : World} {a : Option Addr} {n c : Nat} {l : List Int} (hs : Sl .u8 w a n l) (hb : ∀ x ∈ l, isB x) :
    (convert ts td (.slice a n c)).run P w = .ok (.string (str l)) w := by
  have hl := hs.len
  cases a with
  | none =>
    have hn : n = 0 := by
      by_cases hn : 0 < n
      · obtain ⟨b, o, e, _⟩ := hs.cells hn
        cases e
      · omega
    subst hn
    have : l = [] := List.eq_nil_of_length_eq_zero hl
    subst this
    rw [run_convert_bytes_string w _ _ te none 0 c hts hte htd]
    rfl
  | some ad =>
    have h := run_convert_bytes_back (P := P) w ts td te ad c (l.map fun x => UInt8.ofNat x.toNat) hts hte htd (fun j hj => by
      have hj' : j < l.length := by simpa using hj
      obtain ⟨b, o, e, _, hcs⟩ := hs.cells (by omega)
      cases e
      rw [Addr.add_lit, hcs j (by omega)]
      have e2 : l.getD j 0 = l[j] := by rw [List.getD_eq_getElem?_getD, List.getElem?_eq_getElem hj']; rfl
      have hx := hb _ (List.getElem_mem hj')
      rw [e2]
      unfold isB at hx
      simp
      omega)
    rw [List.length_map, hl] at h
    exact h
end Go.Proofs.Ytbhojgodkblflaa
