/- text.Join. -/
import Derived.Test.YtolihnipoggokaaDoorSplitMath2
import Derived.Test.YtolihnipoggokaaDoorText8
namespace Go.Proofs.YtolihnipoggokaaDoor
open Go.RowKit
set_option linter.unusedSimpArgs false
set_option linter.unusedVariables false

set_option maxHeartbeats 400000 in
theorem text_Lines2 (s : ByteArray) (hs : s.size ≤ 1000000) (w : World) (hV : Vars w) : Calls Tryd.prog 20 #[.string s] w fun e w' => ∃ a c, e = .returned (.slice a (linesB s).length c) ∧ Ss w' a (linesB s).length (linesB s) ∧ (linesB s).length ≤ c ∧ Kept w w' := by
  obtain ⟨_, _, m, hm⟩ := hV
  have hcount := Lib.countB_le nlB (by decide) s.size s (Nat.le_refl _)
  have hpl := partsB_len s
  have HC := hidMk (Tryd.strings_Split s nlB m w (by omega) hm (by decide))
  have HP := hidMk (show Lib.splitB nlB 0 (Lib.countB s nlB) s = partsB s from rfl)
  rw [HP.out, ← hpl] at HC
  have hbig : (partsB s).length ≤ 1000001 := by omega
  have hpos : 1 ≤ (partsB s).length := by omega
  have HL := hidMk (show linesB s = if (partsB s).getD ((partsB s).length - 1) ByteArray.empty = ByteArray.empty then (partsB s).take ((partsB s).length - 1) else partsB s from rfl)
  have HSS := hidMk (ss_new w (partsB s) 9 (by unfold maxLen; omega))
  clear hcount hpl hm HP
  generalize linesB s = ll at *
  generalize partsB s = l at *
  obtain ⟨b, o, e0, hb, hcs⟩ := HSS.out.cells (by omega)
  cases e0
  have hcell := hcs (l.length - 1) (by omega)
  rw [Nat.zero_add] at hcell
  clear hcs
  generalize hln : l.length = n at *
  by_cases hem : l.getD (n - 1) ByteArray.empty = ByteArray.empty
  · have HLL := hidMk (show ll = l.take (n - 1) by rw [HL.out, if_pos hem])
    have HLN := hidMk (show ll.length = n - 1 by rw [HLL.out, List.length_take, hln]; omega)
    rw [hem] at hcell
    have HLEN := hidMk hln
    have h1 : ByteArray.empty.toList.isEmpty = true := empty_eq _ rfl
    rw [HLN.out]
    clear hem hln
    go_enter Tryd.func20, Tryd.ntmps20
    go_wp2_with fail
    refine HC.out.mono ?_
    rintro e w1 ⟨rfl, rfl⟩
    go_wp2_with fail
    go_ret
    refine ⟨_, _, rfl, ?_, by omega, (Kept.refl w).alloc _⟩
    rw [HLL.out]
    exact ss_take HSS.out (n - 1) (by omega)
  · have HLL := hidMk (show ll = l by rw [HL.out, if_neg hem])
    have HLN := hidMk (show ll.length = n by rw [HLL.out, hln])
    have h1 := empty_ne _ hem
    have HLEN := hidMk hln
    rw [HLN.out]
    clear hem hln
    generalize l.getD (n - 1) ByteArray.empty = x at *
    go_enter Tryd.func20, Tryd.ntmps20
    go_wp2_with fail
    refine HC.out.mono ?_
    rintro e w1 ⟨rfl, rfl⟩
    go_wp2_with fail
    go_ret
    refine ⟨_, _, rfl, ?_, by omega, (Kept.refl w).alloc _⟩
    rw [HLL.out]
    exact HSS.out
def datas (l : List ByteArray) : List (List UInt8) := l.map (·.data.toList)
def joinB (sep : ByteArray) (l : List ByteArray) : ByteArray := ⟨(sep.data.toList.intercalate (datas l)).toArray⟩
theorem joinB_data (sep : ByteArray) (l : List ByteArray) : (joinB sep l).data.toList = sep.data.toList.intercalate (datas l) := by simp [joinB]
theorem joinB_size (sep : ByteArray) (l : List ByteArray) : (joinB sep l).size = (sep.data.toList.intercalate (datas l)).length := by
  rw [← joinB_data, Array.length_toList]; rfl

set_option maxHeartbeats 400000 in
theorem text_Join (sep : ByteArray) (a : Option Addr) (n c : Nat) (l : List ByteArray) (w : World) (hs : Ss w a n l) (hc : n ≤ c) (hn : n ≤ 140737488355328) (hlen : (sep.data.toList.intercalate (datas l)).length ≤ 140737488355328) :
    Calls Tryd.prog 22 #[.string sep, .slice a n c] w fun e w' => e = .returned (.string (joinB sep l)) ∧ Kept w w' := by
  have hl := hs.len
  by_cases h0 : n = 0
  · subst h0
    have hnil : l = [] := List.eq_nil_of_length_eq_zero hl
    have hj : joinB sep l = ⟨#[]⟩ := by subst hnil; unfold joinB datas; rw [List.map_nil, join_nil]
    rw [hj]
    have HC := hidMk (Tryd.strings_Join_none a c sep w)
    clear hs hlen
    go_enter Tryd.func22, Tryd.ntmps22
    go_wp2_with fail
    refine HC.out.mono ?_
    rintro e w1 ⟨rfl, rfl⟩
    go_wp2_with fail
    go_ret
    exact ⟨rfl, Kept.refl _⟩
  · obtain ⟨b, o, rfl, hb, hcs⟩ := hs.cells (by omega)
    have HC := hidMk (Tryd.strings_Join b o c l sep w (fun j x hj => by
      have hjl := (List.getElem?_eq_some_iff.1 hj).1
      rw [hcs j (by omega), List.getD_eq_getElem?_getD, hj]
      rfl) hb (by omega) (by omega) hlen)
    have HJ := hidMk (show (⟨(Lib.join (l.map (·.data.toList)) sep.data.toList).toArray⟩ : ByteArray) = joinB sep l from rfl)
    rw [HJ.out, hl] at HC
    clear hs hlen hcs
    generalize joinB sep l = r at *
    go_enter Tryd.func22, Tryd.ntmps22
    go_wp2_with fail
    refine HC.out.mono ?_
    rintro e w1 ⟨rfl, k1⟩
    have K1 : Hid (Kept w w1) := hidMk k1
    clear k1
    go_wp2_with fail
    go_ret
    exact ⟨rfl, K1.out⟩
end Go.Proofs.YtolihnipoggokaaDoor
