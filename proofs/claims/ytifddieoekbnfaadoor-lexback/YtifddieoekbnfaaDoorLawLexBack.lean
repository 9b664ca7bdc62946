/- LexBack: the words of words that are put together are the same. -/
import Derived.Test.YtifddieoekbnfaaDoorLexC
import Derived.Test.YtifddieoekbnfaaDoorLexA
namespace Go.Proofs.YtifddieoekbnfaaDoor
open Go Go.RowKit Go.Maps
set_option linter.unusedSimpArgs false
set_option linter.unusedVariables false

theorem sameB_of {l m : List Wd} (h : l.map key = m.map key) : sameB l m = true := by unfold sameB; exact decide_eq_true h
theorem txs_of {s : ByteArray} {l : List Wd} (h : l.map cor = (tks s.data.toList).map mkc) : txs l = wordsB s := by
  have := congrArg (List.map fun c : Int × ByteArray × Int × Int × List ByteArray => c.2.1) h
  rw [List.map_map, List.map_map] at this
  rw [wordsB_tks]
  exact this
theorem join_words (s : ByteArray) : (joinB blankB (wordsB s)).size ≤ s.size + 1 ∧ wordsB (joinB blankB (wordsB s)) = wordsB s := by
  have h := words_tie s
  have e : (joinB blankB (wordsB s)).data.toList = [32].intercalate (wrd s.data.toList) := by rw [joinB_data]; unfold datas; rw [h]; rfl
  constructor
  · have h6 := join_len 32 (wrd s.data.toList)
    have h3 : tot (wrd s.data.toList) ≤ tot (spl 32 s.data.toList) := tot_filter _ _
    rw [tot_spl, data_len] at h3
    rw [← data_len, e]
    omega
  · refine datas_inj ?_
    rw [words_tie, e, wrd_join _ (fun p hp => wrd_mem hp), h]
theorem sizes_words (s : ByteArray) : sizes (wordsB s) ≤ s.size + 1 := by
  have h := words_tie s
  have h3 : tot (wrd s.data.toList) ≤ tot (spl 32 s.data.toList) := tot_filter _ _
  rw [tot_spl, data_len] at h3
  have h4 : ∀ xs : List ByteArray, sizes xs ≤ tot (xs.map (·.data.toList)) := by
    intro xs
    induction xs with
    | nil => simp [sizes]
    | cons x r ih =>
      unfold sizes tot at *
      have := data_len x
      simp only [List.map_cons, List.sum_cons] at *
      omega
  have := h4 (wordsB s)
  rw [h] at this
  omega
/-- Words of what was put together are alike. -/
theorem back_key {s : ByteArray} {l m : List Wd} (h1 : l.map cor = (tks s.data.toList).map mkc) (h2 : m.map cor = (tks (joinB blankB (txs l)).data.toList).map mkc) : m.map key = l.map key := by
  rw [txs_of h1] at h2
  have e : (tks (joinB blankB (wordsB s)).data.toList).map (·.2) = (tks s.data.toList).map (·.2) := by
    rw [tks_snd, tks_snd, ← words_tie, (join_words s).2, words_tie]
  rw [key_cor, key_cor, h1, h2, keyC_mkc, keyC_mkc, e]
set_option maxHeartbeats 2000000 in
set_option maxRecDepth 100000 in
theorem law_LexBack (s : ByteArray) (w : World) (hs : s.size ≤ 140737488355328) (hV : Vars w) : Calls Tryd.prog 5 #[.string s] w fun e w' => e = .returned (.bool true) ∧ Kept w w' := by
  have HV := hidMk hV
  clear hV
  by_cases g0 : 3000 < s.size
  · have g0' : (3000 : Int) < (s.size : Int) := by omega
    go_enter Tryd.func5, Tryd.ntmps5
    go_wp2_with fail
    refine (law28_known _ HV.out).mono ?_
    rintro e w1 ⟨rfl, k1⟩
    go_wp2_with fail
    go_ret
    exact ⟨rfl, k1⟩
  have g0' : (s.size : Int) ≤ 3000 := by omega
  have HSZ := hidMk (show s.size ≤ 3000 by omega)
  have HTB := hidMk (show (tks s.data.toList).length ≤ 3001 by have h1 := tks_len s.data.toList; have h2 := data_len s; omega)
  have HWL := hidMk (lex_Words s (by omega))
  clear g0
  go_enter Tryd.func5, Tryd.ntmps5
  go_wp2_with fail
  refine (HWL.out _ HV.out).mono ?_
  rintro e w1 ⟨v1, l, rfl, o1, c1, k1⟩
  obtain ⟨a1, cc1, rfl, q1, _⟩ := o1.form
  have Q1 := hidMk q1
  have C1 := hidMk c1
  have K1 := hidMk k1
  have HL := hidMk (show l.length ≤ 3001 by have := congrArg List.length c1; rw [List.length_map, List.length_map] at this; have := HTB.out; omega)
  have HZ := hidMk (show sizes (txs l) ≤ 3001 by rw [txs_of c1]; have := sizes_words s; have := HSZ.out; omega)
  have HJ := hidMk (show (joinB blankB (txs l)).size ≤ 3001 by rw [txs_of c1]; have := (join_words s).1; have := HSZ.out; omega)
  have HBK := hidMk (fun m h2 => back_key (m := m) c1 h2)
  clear q1 c1 k1 o1
  go_wp2_with fail
  refine (lex_Text a1 cc1 l _ Q1.out (by have := HL.out; omega) (by have := HZ.out; omega)).mono ?_
  rintro e w2 ⟨rfl, k2⟩
  have Q2 := hidMk (Q1.out.kept k2)
  have K2 := hidMk (K1.out.trans k2)
  clear k2 Q1
  generalize joinB blankB (txs l) = j at *
  go_wp2_with fail
  refine (lex_Words j (by have := HJ.out; omega) _ (HV.out.kept K2.out)).mono ?_
  rintro e w3 ⟨v3, m, rfl, o3, c3, k3⟩
  obtain ⟨a3, cc3, rfl, q3, _⟩ := o3.form
  have Q3 := hidMk q3
  have Q2b := hidMk (Q2.out.kept k3)
  have K3 := hidMk (K2.out.trans k3)
  have HS := hidMk (sameB_of (HBK.out m c3))
  have HM := hidMk (show m.length ≤ 3002 by have := congrArg List.length c3; rw [List.length_map, List.length_map] at this; have h1 := tks_len j.data.toList; have h2 := data_len j; have := HJ.out; omega)
  clear q3 c3 k3 o3 Q2
  go_wp2_with fail
  refine (lex_Same a3 a1 cc3 cc1 m l _ Q3.out Q2b.out (by have := HM.out; omega) (by have := HL.out; omega)).mono ?_
  rintro e w4 ⟨rfl, k4⟩
  rw [HS.out]
  have K4 := hidMk (K3.out.trans k4)
  clear k4
  go_wp2_with fail
  refine (law28_known _ (HV.out.kept K4.out)).mono ?_
  rintro e w5 ⟨rfl, k5⟩
  have K5 := hidMk (K4.out.trans k5)
  clear k5
  go_wp2_with fail
  go_ret
  exact ⟨rfl, K5.out⟩
end Go.Proofs.YtifddieoekbnfaaDoor
