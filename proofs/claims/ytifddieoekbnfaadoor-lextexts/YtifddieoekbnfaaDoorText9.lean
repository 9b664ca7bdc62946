/- text.Join. -/
import Derived.Test.YtifddieoekbnfaaDoorSplitMath2
import Derived.Test.YtifddieoekbnfaaDoorText8
namespace Go.Proofs.YtifddieoekbnfaaDoor
open Go.RowKit
set_option linter.unusedSimpArgs false
set_option linter.unusedVariables false

def datas (l : List ByteArray) : List (List UInt8) := l.map (·.data.toList)
def joinB (sep : ByteArray) (l : List ByteArray) : ByteArray := ⟨(sep.data.toList.intercalate (datas l)).toArray⟩
theorem joinB_data (sep : ByteArray) (l : List ByteArray) : (joinB sep l).data.toList = sep.data.toList.intercalate (datas l) := by simp [joinB]
theorem joinB_size (sep : ByteArray) (l : List ByteArray) : (joinB sep l).size = (sep.data.toList.intercalate (datas l)).length := by
  rw [← joinB_data, Array.length_toList]; rfl

set_option maxHeartbeats 400000 in
theorem text_Join (sep : ByteArray) (a : Option Addr) (n c : Nat) (l : List ByteArray) (w : World) (hs : Ss w a n l) (hc : n ≤ c) (hn : n ≤ 140737488355328) (hlen : (sep.data.toList.intercalate (datas l)).length ≤ 140737488355328) :
    Calls Tryd.prog 22 #[.string sep, .slice a n c] w fun e w' => e = .returned (.string (joinB sep l)) ∧ Kept w w' := by
  have hl := hs.len
  by_cases h0 : n = 0
  · subst h0
    have hnil : l = [] := List.eq_nil_of_length_eq_zero hl
    have hj : joinB sep l = ⟨#[]⟩ := by subst hnil; unfold joinB datas; rw [List.map_nil, join_nil]
    rw [hj]
    have HC := hidMk (Tryd.strings_Join_none a c sep w)
    clear hs hlen
    go_enter Tryd.func22, Tryd.ntmps22
    go_wp2_with fail
    refine HC.out.mono ?_
    rintro e w1 ⟨rfl, rfl⟩
    go_wp2_with fail
    go_ret
    exact ⟨rfl, Kept.refl _⟩
  · obtain ⟨b, o, rfl, hb, hcs⟩ := hs.cells (by omega)
    have HC := hidMk (Tryd.strings_Join b o c l sep w (fun j x hj => by
      have hjl := (List.getElem?_eq_some_iff.1 hj).1
      rw [hcs j (by omega), List.getD_eq_getElem?_getD, hj]
      rfl) hb (by omega) (by omega) hlen)
    have HJ := hidMk (show (⟨(Lib.join (l.map (·.data.toList)) sep.data.toList).toArray⟩ : ByteArray) = joinB sep l from rfl)
    rw [HJ.out, hl] at HC
    clear hs hlen hcs
    generalize joinB sep l = r at *
    go_enter Tryd.func22, Tryd.ntmps22
    go_wp2_with fail
    refine HC.out.mono ?_
    rintro e w1 ⟨rfl, k1⟩
    have K1 : Hid (Kept w w1) := hidMk k1
    clear k1
    go_wp2_with fail
    go_ret
    exact ⟨rfl, K1.out⟩
end Go.Proofs.YtifddieoekbnfaaDoor
