/- TextBack: what was joined comes apart again. -/
import Derived.Test.YtolihnipoggokaaDoorText9
namespace Go.Proofs.YtolihnipoggokaaDoor
open Go.RowKit
set_option linter.unusedSimpArgs false
set_option linter.unusedVariables false

theorem wordsB_len (s : ByteArray) : (wordsB s).length ≤ s.size + 1 := by
  have h := words_tie s
  have h1 : (wordsB s).length = (wrd s.data.toList).length := by rw [← h, List.length_map]
  have h2 := tot_len (wrd s.data.toList)
  have h3 : tot (wrd s.data.toList) ≤ tot (spl 32 s.data.toList) := tot_filter _ _
  rw [tot_spl] at h3
  have h4 : s.data.toList.length = s.size := by rw [Array.length_toList]; rfl
  omega
theorem linesB_len (s : ByteArray) : (linesB s).length ≤ s.size + 1 := by
  have h := lines_tie s
  have h1 : (linesB s).length = (lin s.data.toList).length := by rw [← h, List.length_map]
  have h2 : (lin s.data.toList).length ≤ (spl 10 s.data.toList).length := by
    unfold lin; split
    · rw [List.length_take]; omega
    · exact Nat.le_refl _
  have h3 := tot_len (spl 10 s.data.toList)
  rw [tot_spl] at h3
  have h4 : s.data.toList.length = s.size := by rw [Array.length_toList]; rfl
  omega
def blankB : ByteArray := ⟨#[32]⟩
theorem join_words (s : ByteArray) : (joinB blankB (wordsB s)).size ≤ s.size + 1 ∧ wordsB (joinB blankB (wordsB s)) = wordsB s := by
  have h := words_tie s
  have e : (joinB blankB (wordsB s)).data.toList = [32].intercalate (wrd s.data.toList) := by rw [joinB_data]; unfold datas; rw [h]; rfl
  have h4 : s.data.toList.length = s.size := by rw [Array.length_toList]; rfl
  constructor
  · have h5 : (joinB blankB (wordsB s)).data.toList.length = (joinB blankB (wordsB s)).size := by rw [Array.length_toList]; rfl
    have h6 := join_len 32 (wrd s.data.toList)
    have h3 : tot (wrd s.data.toList) ≤ tot (spl 32 s.data.toList) := tot_filter _ _
    rw [tot_spl] at h3
    rw [← h5, e]
    omega
  · refine datas_inj ?_
    rw [words_tie, e, wrd_join _ (fun p hp => wrd_mem hp), h]
theorem tot_take (xs : List (List UInt8)) (k : Nat) : tot (xs.take k) ≤ tot xs := by
  induction xs generalizing k with
  | nil => simp
  | cons x r ih =>
    cases k with
    | zero => simp [tot]
    | succ k => have := ih k; unfold tot at *; simp at *; omega
theorem tot_lin (l : List UInt8) : tot (lin l) ≤ l.length + 1 := by
  have h := tot_spl 10 l
  unfold lin
  split
  · have := tot_take (spl 10 l) ((spl 10 l).length - 1); omega
  · omega
theorem join_lines_size (s : ByteArray) : (joinB nlB (linesB s)).size ≤ s.size + 1 := by
  have h := lines_tie s
  have e : (joinB nlB (linesB s)).data.toList = [10].intercalate (lin s.data.toList) := by rw [joinB_data]; unfold datas; rw [h]; rfl
  have h4 : s.data.toList.length = s.size := by rw [Array.length_toList]; rfl
  have h5 : (joinB nlB (linesB s)).data.toList.length = (joinB nlB (linesB s)).size := by rw [Array.length_toList]; rfl
  have h6 := join_len 10 (lin s.data.toList)
  have h7 := tot_lin s.data.toList
  rw [← h5, e]
  omega
theorem join_lines (s : ByteArray) (hne : 0 < (linesB s).length) : linesB (joinB nlB (linesB s) ++ nlB) = linesB s := by
  have h := lines_tie s
  refine datas_inj ?_
  have e : (joinB nlB (linesB s) ++ nlB).data.toList = [10].intercalate (lin s.data.toList) ++ [10] := by
    rw [ByteArray.data_append, Array.toList_append, joinB_data]; unfold datas; rw [h]; rfl
  rw [lines_tie, e, lin_back _ (fun hn => by rw [hn] at h; have := congrArg List.length h; rw [List.length_map, List.length_nil] at this; omega) (fun p hp => lin_mem hp), h]
theorem join_lines0 (s : ByteArray) (hz : (linesB s).length = 0) : linesB (joinB nlB (linesB s)) = linesB s := by
  have h0 : linesB s = [] := List.eq_nil_of_length_eq_zero hz
  rw [h0]
  refine datas_inj ?_
  have e : (joinB nlB []).data.toList = [] := by rw [joinB_data]; exact join_nil _
  rw [lines_tie, e, lin_nil]
  rfl

set_option maxHeartbeats 2000000 in
set_option maxRecDepth 100000 in
theorem law_TextBack (s : ByteArray) (w : World) (hs : s.size ≤ 140737488355328) (hV : Vars w) : Calls Tryd.prog 6 #[.string s] w fun e w' => e = .returned (.bool true) ∧ Kept w w' := by
  have HV := hidMk hV
  clear hV
  by_cases g0 : 3000 < s.size
  · have g0' : (3000 : Int) < (s.size : Int) := by omega
    go_enter Tryd.func6, Tryd.ntmps6
    go_wp2_with fail
    refine (law_known _ HV.out).mono ?_
    rintro e w1 ⟨rfl, k1⟩
    go_wp2_with fail
    go_ret
    exact ⟨rfl, k1⟩
  have g0' : (s.size : Int) ≤ 3000 := by omega
  have hwl := wordsB_len s
  have hll := linesB_len s
  have J1 := hidMk (join_words s)
  have J2 := hidMk (join_lines_size s)
  have J3 := hidMk (join_lines s)
  have J4 := hidMk (join_lines0 s)
  have hj1 := J1.out.1
  have W1 := hidMk (text_Words s (by omega))
  have L1 := hidMk (text_Lines2 s (by omega))
  have WJ := hidMk (text_Words (joinB blankB (wordsB s)) (by omega))
  rw [J1.out.2] at WJ
  have hj2 := J2.out
  have JW := hidMk (fun a c w h hc => text_Join blankB a (wordsB s).length c (wordsB s) w h hc (by omega) (by have := joinB_size blankB (wordsB s); omega))
  have JL := hidMk (fun a c w h hc => text_Join nlB a (linesB s).length c (linesB s) w h hc (by omega) (by have := joinB_size nlB (linesB s); omega))
  have LJ : Hid (∀ t, (0 < (linesB s).length ∧ t = joinB nlB (linesB s) ++ nlB) ∨ ((linesB s).length = 0 ∧ t = joinB nlB (linesB s)) → ∀ w, Vars w → Calls Tryd.prog 20 #[.string t] w fun e w' => ∃ a c, e = .returned (.slice a (linesB s).length c) ∧ Ss w' a (linesB s).length (linesB s) ∧ (linesB s).length ≤ c ∧ Kept w w') := hidMk (by
    intro t ht w hw
    rcases ht with ⟨h1, rfl⟩ | ⟨h1, rfl⟩
    · have h := text_Lines2 (joinB nlB (linesB s) ++ nlB) (by
        have : (joinB nlB (linesB s) ++ nlB).size = (joinB nlB (linesB s)).size + 1 := by rw [ByteArray.size_append]; rfl
        omega) w hw
      rw [J3.out h1] at h
      exact h
    · have h := text_Lines2 (joinB nlB (linesB s)) (by omega) w hw
      rw [J4.out h1] at h
      exact h)
  have HBL := hidMk (show blankB = ⟨#[32]⟩ from rfl)
  have HNL := hidMk (show nlB = ⟨#[10]⟩ from rfl)
  clear J1 J3 J4 J2
  generalize joinB blankB (wordsB s) = jw at *
  generalize joinB nlB (linesB s) = jl at *
  rw [HBL.out] at JW
  rw [HNL.out] at JL LJ
  generalize wordsB s = ws at *
  generalize linesB s = ls at *
  have hjs : jl.size + 1 ≤ 9223372036854775807 := by omega
  by_cases hpos : 0 < ls.length
  · have hpos' : (0 : Int) < (ls.length : Int) := by omega
    go_enter Tryd.func6, Tryd.ntmps6
    go_wp2_with fail
    refine (W1.out _ (by omega)).mono ?_
    rintro e w1 ⟨a1, rfl, s1, k1⟩
    have S1 := hidMk s1
    have K1 := hidMk k1
    clear s1 k1
    go_wp2_with fail
    refine (L1.out _ (HV.out.kept K1.out)).mono ?_
    rintro e w2 ⟨a2, c2, rfl, s2, hc2, k2⟩
    have S2 := hidMk s2
    have K2 := hidMk k2
    clear s2 k2
    go_wp2_with fail
    refine (JL.out a2 c2 _ S2.out hc2).mono ?_
    rintro e w3 ⟨rfl, k3⟩
    have K3 := hidMk k3
    clear k3
    go_wp2_with fail
    refine (JW.out a1 _ _ (S1.out.kept (K2.out.trans K3.out)) (Nat.le_refl _)).mono ?_
    rintro e w4 ⟨rfl, k4⟩
    have K4 := hidMk k4
    clear k4
    go_wp2_with fail
    refine (WJ.out _ (by omega)).mono ?_
    rintro e w5 ⟨a5, rfl, s5, k5⟩
    have S5 := hidMk s5
    have K5 := hidMk k5
    clear s5 k5
    go_wp2_with fail
    refine (ref_Same _ _ _ _ _ _ _ _ _ S5.out (S1.out.kept (((K2.out.trans K3.out).trans K4.out).trans K5.out))).mono ?_
    rintro e w6 ⟨rfl, k6⟩
    rw [show decide (ws = ws) = true by simp]
    have K6 := hidMk k6
    have K06 := hidMk (((((K1.out.trans K2.out).trans K3.out).trans K4.out).trans K5.out).trans k6)
    clear k6
    go_wp2_with fail
    refine (LJ.out _ (.inl ⟨hpos, rfl⟩) _ (HV.out.kept K06.out)).mono ?_
    rintro e w7 ⟨a7, c7, rfl, s7, hc7, k7⟩
    have S7 := hidMk s7
    have K7 := hidMk k7
    clear s7 k7
    go_wp2_with fail
    refine (ref_Same _ _ _ _ _ _ _ _ _ S7.out (S2.out.kept ((((K3.out.trans K4.out).trans K5.out).trans K6.out).trans K7.out))).mono ?_
    rintro e w8 ⟨rfl, k8⟩
    rw [show decide (ls = ls) = true by simp]
    have K8 := hidMk ((K06.out.trans K7.out).trans k8)
    clear k8
    go_wp2_with fail
    refine (law_known _ (HV.out.kept K8.out)).mono ?_
    rintro e w9 ⟨rfl, k9⟩
    go_wp2_with fail
    go_ret
    exact ⟨rfl, K8.out.trans k9⟩
  · have hz : ls.length = 0 := by omega
    have hpos' : ¬ ((0 : Int) < (ls.length : Int)) := by omega
    have HZ := hidMk hz
    clear hz
    go_enter Tryd.func6, Tryd.ntmps6
    go_wp2_with fail
    refine (W1.out _ (by omega)).mono ?_
    rintro e w1 ⟨a1, rfl, s1, k1⟩
    have S1 := hidMk s1
    have K1 := hidMk k1
    clear s1 k1
    go_wp2_with fail
    refine (L1.out _ (HV.out.kept K1.out)).mono ?_
    rintro e w2 ⟨a2, c2, rfl, s2, hc2, k2⟩
    have S2 := hidMk s2
    have K2 := hidMk k2
    clear s2 k2
    go_wp2_with fail
    refine (JL.out a2 c2 _ S2.out hc2).mono ?_
    rintro e w3 ⟨rfl, k3⟩
    have K3 := hidMk k3
    clear k3
    go_wp2_with fail
    refine (JW.out a1 _ _ (S1.out.kept (K2.out.trans K3.out)) (Nat.le_refl _)).mono ?_
    rintro e w4 ⟨rfl, k4⟩
    have K4 := hidMk k4
    clear k4
    go_wp2_with fail
    refine (WJ.out _ (by omega)).mono ?_
    rintro e w5 ⟨a5, rfl, s5, k5⟩
    have S5 := hidMk s5
    have K5 := hidMk k5
    clear s5 k5
    go_wp2_with fail
    refine (ref_Same _ _ _ _ _ _ _ _ _ S5.out (S1.out.kept (((K2.out.trans K3.out).trans K4.out).trans K5.out))).mono ?_
    rintro e w6 ⟨rfl, k6⟩
    rw [show decide (ws = ws) = true by simp]
    have K6 := hidMk k6
    have K06 := hidMk (((((K1.out.trans K2.out).trans K3.out).trans K4.out).trans K5.out).trans k6)
    clear k6
    go_wp2_with fail
    refine (LJ.out _ (.inr ⟨HZ.out, rfl⟩) _ (HV.out.kept K06.out)).mono ?_
    rintro e w7 ⟨a7, c7, rfl, s7, hc7, k7⟩
    have S7 := hidMk s7
    have K7 := hidMk k7
    clear s7 k7
    go_wp2_with fail
    refine (ref_Same _ _ _ _ _ _ _ _ _ S7.out (S2.out.kept ((((K3.out.trans K4.out).trans K5.out).trans K6.out).trans K7.out))).mono ?_
    rintro e w8 ⟨rfl, k8⟩
    rw [show decide (ls = ls) = true by simp]
    have K8 := hidMk ((K06.out.trans K7.out).trans k8)
    clear k8
    go_wp2_with fail
    refine (law_known _ (HV.out.kept K8.out)).mono ?_
    rintro e w9 ⟨rfl, k9⟩
    go_wp2_with fail
    go_ret
    exact ⟨rfl, K8.out.trans k9⟩
end Go.Proofs.YtolihnipoggokaaDoor
