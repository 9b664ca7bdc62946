/- text.Words, text.Lines; two lists that are held against each other. -/
import Derived.Test.YtifddieoekbnfaaDoorText6
import Derived.Test.YtifddieoekbnfaaDoorStrs
import Derived.Lib.SplitLaws
namespace Go.Proofs.YtifddieoekbnfaaDoor
open Go.RowKit
set_option linter.unusedSimpArgs false
set_option linter.unusedVariables false

theorem own_ss {w : World} {base : Nat} {e : TypeId} {A n c : Nat} {l : List ByteArray} (hn : l.length = n) (hm : n ≤ maxLen) (h : w.ownsRow base e 1 (.slice (some ⟨A, 0, none⟩) n c) n (l.map Value.string)) : Ss w (some ⟨A, 0, none⟩) n l := by
  have h' := h
  obtain ⟨_, ⟨e1, _⟩ | ⟨g, cap, cur, hv, hb, hheap, hc, hcm, hsz, htk⟩⟩ := h
  · cases e1
  · cases hv
    refine ⟨hn, hm, fun hp => ⟨A, 0, rfl, ?_, fun i hi => ?_⟩⟩
    · by_cases hlt : A < w.heap.size
      · exact hlt
      · rw [Array.getElem?_eq_none (by omega)] at hheap; cases hheap
    · rw [Nat.zero_add, h'.cellAt i (by omega)]
      simp [List.getElem?_map, List.getElem?_eq_getElem (show i < l.length by omega), List.getD]
theorem ss_new (w : World) (l : List ByteArray) (T : TypeId) (h : l.length ≤ maxLen) : Ss (w.alloc (.cells (l.map Value.string).toArray T)) (some ⟨w.heap.size, 0, none⟩) l.length l := by
  refine ⟨rfl, h, fun hp => ⟨_, _, rfl, by simp, fun i hi => ?_⟩⟩
  simp [List.getElem?_eq_getElem hi, List.getD]

def isBlank : Nat → Bool := fun x => (x : Int) == 32
theorem words_fn (x : Nat) (w : World) : Calls Tryd.prog 40 #[.int .i32 (x : Int)] w fun e w' => e = .returned (.bool (isBlank x)) ∧ w' = w := by
  unfold isBlank
  go_enter Tryd.func40, Tryd.ntmps40
  go_wp2
  go_ret
  exact ⟨rfl, rfl⟩
theorem words_pred (w : World) : PredAt Tryd.prog 40 #[] encR isBlank w := by
  intro W x _
  refine (words_fn x W).mono ?_
  rintro e w' ⟨rfl, rfl⟩
  exact ⟨rfl, 0, rfl⟩
theorem words_enters : ∀ args w, (callFunc 40 args).run Tryd.prog w = .ok (.enter 40 args) w :=
  enters_of Tryd.func40 (by kernel_rfl) rfl

def wordsB (s : ByteArray) : List ByteArray := Lib.goFieldsP isBlank s
set_option maxHeartbeats 400000 in
theorem text_Words (s : ByteArray) (hs : s.size ≤ 1000000) (w : World) (hlen : (wordsB s).length ≤ 1000001) : Calls Tryd.prog 26 #[.string s] w fun e w' => ∃ a, e = .returned (.slice a (wordsB s).length (wordsB s).length) ∧ Ss w' a (wordsB s).length (wordsB s) ∧ Kept w w' := by
  have HC := hidMk (Tryd.strings_FieldsFunc 40 #[] words_enters isBlank s w (by omega) (words_pred w))
  have HW := hidMk (show Lib.goFieldsP isBlank s = wordsB s from rfl)
  rw [HW.out] at HC
  generalize wordsB s = l at *
  go_enter Tryd.func26, Tryd.ntmps26
  go_wp2_with fail
  refine HC.out.mono ?_
  rintro e w1 ⟨A, rfl, hA, ho, k1⟩
  have HO := hidMk (own_ss rfl (by unfold maxLen; omega) ho)
  have HK : Hid (Kept w w1) := hidMk k1
  clear ho k1
  go_wp2_with fail
  go_ret
  exact ⟨_, rfl, HO.out, HK.out⟩

def nlB : ByteArray := ⟨#[10]⟩
def partsB (s : ByteArray) : List ByteArray := Lib.splitB nlB 0 (Lib.countB s nlB) s
theorem partsB_len (s : ByteArray) : (partsB s).length = Lib.countB s nlB + 1 := Lib.splitB_all nlB (by decide) 0 _ s rfl
def linesB (s : ByteArray) : List ByteArray := if (partsB s).getD ((partsB s).length - 1) ByteArray.empty = ByteArray.empty then (partsB s).take ((partsB s).length - 1) else partsB s
theorem ss_take {w : World} {b o n : Nat} {l : List ByteArray} (h : Ss w (some ⟨b, o, none⟩) n l) (k : Nat) (hk : k ≤ n) : Ss w (some ⟨b, o, none⟩) k (l.take k) := by
  have hl := h.len
  refine ⟨by rw [List.length_take]; omega, Nat.le_trans hk h.big, fun hp => ?_⟩
  obtain ⟨b', o', e, h2, h3⟩ := h.cells (by omega)
  cases e
  refine ⟨b, o, rfl, h2, fun i hi => ?_⟩
  rw [h3 i (by omega), List.getD_eq_getElem?_getD, List.getD_eq_getElem?_getD, List.getElem?_take_of_lt hi]
theorem empty_eq (s : ByteArray) (h : s = ByteArray.empty) : s.toList.isEmpty = true := by subst h; rw [ByteArray.toList_eq]; rfl
theorem empty_ne (s : ByteArray) (h : s ≠ ByteArray.empty) : s.toList.isEmpty = false := by
  rw [List.isEmpty_eq_false_iff]
  intro e
  apply h
  apply ByteArray.ext
  rw [ByteArray.toList_eq] at e
  exact Array.ext' e
end Go.Proofs.YtifddieoekbnfaaDoor
