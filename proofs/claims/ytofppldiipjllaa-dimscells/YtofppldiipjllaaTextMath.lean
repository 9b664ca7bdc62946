/- Texts as bytes: letters, names, which one is ahead. No program is named here. -/
import Derived.Test.YtofppldiipjllaaMathNum
import Derived.Laws.Strings
namespace Go.Proofs.Ytofppldiipjllaa
open Go.RowKit
set_option linter.unusedSimpArgs false
set_option linter.unusedVariables false

/-- A text's bytes as numbers. -/
def byt (s : ByteArray) : List Int := s.data.toList.map fun b => (b.toNat : Int)
theorem byt_len (s : ByteArray) : (byt s).length = s.size := by unfold byt; rw [List.length_map, Array.length_toList]; rfl
def bat (s : ByteArray) (i : Nat) : Int := (byt s).getD i 0
theorem bat_get (s : ByteArray) (i : Nat) (h : i < s.size) : bat s i = ((s[i]'h).toNat : Int) := by
  unfold bat byt
  have h' : i < s.data.toList.length := by rw [Array.length_toList]; exact h
  rw [List.getD_eq_getElem?_getD, List.getElem?_map, List.getElem?_eq_getElem h']
  rfl
theorem bat_is (s : ByteArray) (i : Nat) : 0 ≤ bat s i ∧ bat s i ≤ 255 := by
  by_cases h : i < s.size
  · rw [bat_get s i h]
    have := (s[i]'h).toNat_lt
    omega
  · unfold bat
    rw [List.getD_eq_getElem?_getD, List.getElem?_eq_none (by rw [byt_len]; omega)]
    simp
theorem run_at {P : Program} {t : TypeId} (ht : P.underlying t = some .string) (s : ByteArray) (k : IntKind) (i : Nat) (h : i < s.size) (w : World) :
    (Instr.index t (.string s) (.int k (i : Int))).run P w = .ok (.int .u8 (bat s i)) w := by
  rw [run_index_string w t s k i ht, dif_pos (by omega), bat_get s i h]
  rfl

def letB (c : Int) : Bool := decide (97 ≤ c ∧ c ≤ 122) || decide (65 ≤ c ∧ c ≤ 90)
def digB (c : Int) : Bool := decide (48 ≤ c ∧ c ≤ 57)
def okB (c : Int) : Bool := letB c || digB c || decide (c = 95)
/-- Can it be a name? -/
def nameB (s : ByteArray) : Bool := decide (1 ≤ s.size ∧ s.size ≤ 12) && letB (bat s 0) && decide (∀ i, i < s.size → okB (bat s i) = true)
theorem nameB_no {s : ByteArray} {i : Nat} (hi : i < s.size) (h : okB (bat s i) = false) : nameB s = false := by
  unfold nameB
  rw [Bool.and_eq_false_iff]
  right
  simp only [decide_eq_false_iff_not]
  intro hall
  have := hall i hi
  rw [h] at this
  cases this
theorem nameB_yes {s : ByteArray} (h1 : 1 ≤ s.size ∧ s.size ≤ 12) (h2 : letB (bat s 0) = true) (h3 : ∀ i, i < s.size → okB (bat s i) = true) : nameB s = true := by
  unfold nameB
  rw [h2, decide_eq_true h1, decide_eq_true h3]
  rfl
end Go.Proofs.Ytofppldiipjllaa
