/- text.Words, text.Lines; two lists that are held against each other. -/
import Derived.Test.YtolihnipoggokaaDoorText6
import Derived.Test.YtolihnipoggokaaDoorStrs
import Derived.Lib.SplitLaws
namespace Go.Proofs.YtolihnipoggokaaDoor
open Go.RowKit
set_option linter.unusedSimpArgs false
set_option linter.unusedVariables false

theorem own_ss {w : World} {base : Nat} {e : TypeId} {A n c : Nat} {l : List ByteArray} (hn : l.length = n) (hm : n ≤ maxLen) (h : w.ownsRow base e 1 (.slice (some ⟨A, 0, none⟩) n c) n (l.map Value.string)) : Ss w (some ⟨A, 0, none⟩) n l := by
  have h' := h
  obtain ⟨_, ⟨e1, _⟩ | ⟨g, cap, cur, hv, hb, hheap, hc, hcm, hsz, htk⟩⟩ := h
  · cases e1
  · cases hv
    refine ⟨hn, hm, fun hp => ⟨A, 0, rfl, ?_, fun i hi => ?_⟩⟩
    · by_cases hlt : A < w.heap.size
      · exact hlt
      · rw [Array.getElem?_eq_none (by omega)] at hheap; cases hheap
    · rw [Nat.zero_add, h'.cellAt i (by omega)]
      simp [List.getElem?_map, List.getElem?_eq_getElem (show i < l.length by omega), List.getD]
theorem ss_new (w : World) (l : List ByteArray) (T : TypeId) (h : l.length ≤ maxLen) : Ss (w.alloc (.cells (l.map Value.string).toArray T)) (some ⟨w.heap.size, 0, none⟩) l.length l := by
  refine ⟨rfl, h, fun hp => ⟨_, _, rfl, by simp, fun i hi => ?_⟩⟩
  simp [List.getElem?_eq_getElem hi, List.getD]

def isBlank : Nat → Bool := fun x => (x : Int) == 32
theorem words_fn (x : Nat) (w : World) : Calls Tryd.prog 31 #[.int .i32 (x : Int)] w fun e w' => e = .returned (.bool (isBlank x)) ∧ w' = w := by
  unfold isBlank
  go_enter Tryd.func31, Tryd.ntmps31
  go_wp2
  go_ret
  exact ⟨rfl, rfl⟩
theorem words_pred (w : World) : PredAt Tryd.prog 31 #[] encR isBlank w := by
  intro W x _
  refine (words_fn x W).mono ?_
  rintro e w' ⟨rfl, rfl⟩
  exact ⟨rfl, 0, rfl⟩
theorem words_enters : ∀ args w, (callFunc 31 args).run Tryd.prog w = .ok (.enter 31 args) w :=
  enters_of Tryd.func31 (by kernel_rfl) rfl

def wordsB (s : ByteArray) : List ByteArray := Lib.goFieldsP isBlank s
set_option maxHeartbeats 400000 in
theorem text_Words (s : ByteArray) (hs : s.size ≤ 1000000) (w : World) (hlen : (wordsB s).length ≤ 1000001) : Calls Tryd.prog 18 #[.string s] w fun e w' => ∃ a, e = .returned (.slice a (wordsB s).length (wordsB s).length) ∧ Ss w' a (wordsB s).length (wordsB s) ∧ Kept w w' := by
  have HC := hidMk (Tryd.strings_FieldsFunc 31 #[] words_enters isBlank s w (by omega) (words_pred w))
  have HW := hidMk (show Lib.goFieldsP isBlank s = wordsB s from rfl)
  rw [HW.out] at HC
  generalize wordsB s = l at *
  go_enter Tryd.func18, Tryd.ntmps18
  go_wp2_with fail
  refine HC.out.mono ?_
  rintro e w1 ⟨A, rfl, hA, ho, k1⟩
  have HO := hidMk (own_ss rfl (by unfold maxLen; omega) ho)
  have HK : Hid (Kept w w1) := hidMk k1
  clear ho k1
  go_wp2_with fail
  go_ret
  exact ⟨_, rfl, HO.out, HK.out⟩

def nlB : ByteArray := ⟨#[10]⟩
def partsB (s : ByteArray) : List ByteArray := Lib.splitB nlB 0 (Lib.countB s nlB) s
theorem partsB_len (s : ByteArray) : (partsB s).length = Lib.countB s nlB + 1 := Lib.splitB_all nlB (by decide) 0 _ s rfl
def linesB (s : ByteArray) : List ByteArray := if (partsB s).getD ((partsB s).length - 1) ByteArray.empty = ByteArray.empty then (partsB s).take ((partsB s).length - 1) else partsB s
theorem ss_take {w : World} {b o n : Nat} {l : List ByteArray} (h : Ss w (some ⟨b, o, none⟩) n l) (k : Nat) (hk : k ≤ n) : Ss w (some ⟨b, o, none⟩) k (l.take k) := by
  have hl := h.len
  refine ⟨by rw [List.length_take]; omega, Nat.le_trans hk h.big, fun hp => ?_⟩
  obtain ⟨b', o', e, h2, h3⟩ := h.cells (by omega)
  cases e
  refine ⟨b, o, rfl, h2, fun i hi => ?_⟩
  rw [h3 i (by omega), List.getD_eq_getElem?_getD, List.getD_eq_getElem?_getD, List.getElem?_take_of_lt hi]
theorem empty_eq (s : ByteArray) (h : s = ByteArray.empty) : s.toList.isEmpty = true := by subst h; rw [ByteArray.toList_eq]; rfl
theorem empty_ne (s : ByteArray) (h : s ≠ ByteArray.empty) : s.toList.isEmpty = false := by
  rw [List.isEmpty_eq_false_iff]
  intro e
  apply h
  apply ByteArray.ext
  rw [ByteArray.toList_eq] at e
  exact Array.ext' e
set_option maxHeartbeats 400000 in
theorem text_Lines (s : ByteArray) (hs : s.size ≤ 1000000) (w : World) (hV : Vars w) : Calls Tryd.prog 20 #[.string s] w fun e w' => ∃ a c, e = .returned (.slice a (linesB s).length c) ∧ Ss w' a (linesB s).length (linesB s) ∧ Kept w w' := by
  obtain ⟨_, _, m, hm⟩ := hV
  have hcount := Lib.countB_le nlB (by decide) s.size s (Nat.le_refl _)
  have hpl := partsB_len s
  have HC := hidMk (Tryd.strings_Split s nlB m w (by omega) hm (by decide))
  have HP := hidMk (show Lib.splitB nlB 0 (Lib.countB s nlB) s = partsB s from rfl)
  rw [HP.out, ← hpl] at HC
  have hbig : (partsB s).length ≤ 1000001 := by omega
  have hpos : 1 ≤ (partsB s).length := by omega
  have HL := hidMk (show linesB s = if (partsB s).getD ((partsB s).length - 1) ByteArray.empty = ByteArray.empty then (partsB s).take ((partsB s).length - 1) else partsB s from rfl)
  have HSS := hidMk (ss_new w (partsB s) 9 (by unfold maxLen; omega))
  clear hcount hpl hm HP
  generalize linesB s = ll at *
  generalize partsB s = l at *
  obtain ⟨b, o, e0, hb, hcs⟩ := HSS.out.cells (by omega)
  cases e0
  have hcell := hcs (l.length - 1) (by omega)
  rw [Nat.zero_add] at hcell
  clear hcs
  generalize hln : l.length = n at *
  by_cases hem : l.getD (n - 1) ByteArray.empty = ByteArray.empty
  · have HLL := hidMk (show ll = l.take (n - 1) by rw [HL.out, if_pos hem])
    have HLN := hidMk (show ll.length = n - 1 by rw [HLL.out, List.length_take, hln]; omega)
    rw [hem] at hcell
    have HLEN := hidMk hln
    have h1 : ByteArray.empty.toList.isEmpty = true := empty_eq _ rfl
    rw [HLN.out]
    clear hem hln
    go_enter Tryd.func20, Tryd.ntmps20
    go_wp2_with fail
    refine HC.out.mono ?_
    rintro e w1 ⟨rfl, rfl⟩
    go_wp2_with fail
    go_ret
    refine ⟨_, _, rfl, ?_, (Kept.refl w).alloc _⟩
    rw [HLL.out]
    exact ss_take HSS.out (n - 1) (by omega)
  · have HLL := hidMk (show ll = l by rw [HL.out, if_neg hem])
    have HLN := hidMk (show ll.length = n by rw [HLL.out, hln])
    have h1 := empty_ne _ hem
    have HLEN := hidMk hln
    rw [HLN.out]
    clear hem hln
    generalize l.getD (n - 1) ByteArray.empty = x at *
    go_enter Tryd.func20, Tryd.ntmps20
    go_wp2_with fail
    refine HC.out.mono ?_
    rintro e w1 ⟨rfl, rfl⟩
    go_wp2_with fail
    go_ret
    refine ⟨_, _, rfl, ?_, (Kept.refl w).alloc _⟩
    rw [HLL.out]
    exact HSS.out
end Go.Proofs.YtolihnipoggokaaDoor
