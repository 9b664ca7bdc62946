/- LexTexts: any words as a line, and whether two lists of words are alike. -/
import Derived.Test.YtifddieoekbnfaaDoorLexC
import Derived.Test.YtifddieoekbnfaaDoorLexA
import Derived.Test.YtifddieoekbnfaaDoorLexB
namespace Go.Proofs.YtifddieoekbnfaaDoor
open Go Go.RowKit Go.Maps
set_option linter.unusedSimpArgs false
set_option linter.unusedVariables false

theorem sameB_self (l : List Wd) : sameB l l = true := by unfold sameB; exact decide_eq_true rfl
set_option maxHeartbeats 4000000 in
set_option maxRecDepth 100000 in
theorem law_LexTexts (a b : Option Addr) (ca cb : Nat) (l m : List Wd) (w : World) (h1 : Wq w a l) (h2 : Wq w b m) (hb : ∀ x ∈ l, x.t.size ≤ maxLen) (hn1 : l.length ≤ maxLen) (hn2 : m.length ≤ maxLen) (hV : Vars w) : Calls Tryd.prog 4 #[.slice a l.length ca, .slice b m.length cb] w fun e w' => e = .returned (.bool true) ∧ Kept w w' := by
  have HV := hidMk hV
  have H1 := hidMk h1
  have H2 := hidMk h2
  have HB := hidMk (fun k (hk : k < l.length) => hb _ (wdA_mem hk))
  unfold maxLen at hn1 hn2
  clear hV h1 h2 hb
  by_cases g1 : 300 < l.length
  · have g1' : (300 : Int) < (l.length : Int) := by omega
    go_enter Tryd.func4, Tryd.ntmps4
    go_wp2_with fail
    refine (law28_known _ HV.out).mono ?_
    rintro e w1 ⟨rfl, k1⟩
    go_wp2_with fail
    go_ret
    exact ⟨rfl, k1⟩
  have g1' : (l.length : Int) ≤ 300 := by omega
  by_cases g2 : 300 < m.length
  · have g2' : (300 : Int) < (m.length : Int) := by omega
    go_enter Tryd.func4, Tryd.ntmps4
    go_wp2_with fail
    refine (law28_known _ HV.out).mono ?_
    rintro e w1 ⟨rfl, k1⟩
    go_wp2_with fail
    go_ret
    exact ⟨rfl, k1⟩
  have g2' : (m.length : Int) ≤ 300 := by omega
  have HL := hidMk (show l.length ≤ 300 by omega)
  have HM := hidMk (show m.length ≤ 300 by omega)
  have HT := hidMk (show ∀ k, k < l.length → sizes ((txs l).take (k + 1)) = sizes ((txs l).take k) + (wdA l k).t.size from fun k hk => by rw [sizes_take (by rw [txs_len]; exact hk), txs_getD l k hk])
  have HTE := hidMk (show ∀ k, l.length ≤ k → (txs l).take k = txs l from fun k hk => List.take_of_length_le (by rw [txs_len]; exact hk))
  clear g1 g2
  go_enter Tryd.func4, Tryd.ntmps4
  go_wp2_with fail
  go_loopw [5, 6] (fun t i wr => ∃ k : Nat, k ≤ l.length ∧ i = .int .i64 k ∧ t = .int .i64 (sizes ((txs l).take k) : Nat) ∧ sizes ((txs l).take k) ≤ 9000 ∧ wr = w) (fun _ i _ => l.length - (intOf i).toNat)
  case atStart => exact ⟨0, Nat.zero_le _, rfl, by simp [sizes], by simp [sizes], rfl⟩
  case round =>
    obtain ⟨k, hk, rfl, rfl, hsz, rfl⟩ := hrel
    by_cases hkn : k < l.length
    · obtain ⟨bb, o, rfl⟩ := H1.out.form (by omega)
      obtain ⟨_, x1, _, _, _⟩ := H1.out.at hkn
      have HTK := hidMk (HT.out k hkn)
      have hkn' : (k : Int) < (l.length : Int) := by omega
      have hxb := HB.out k hkn
      unfold maxLen at hxb
      generalize (wdA l k).t = x at *
      generalize sizes ((txs l).take k) = t at *
      by_cases g3 : 1000 < x.size
      · have g3' : (1000 : Int) < (x.size : Int) := by omega
        go_wp2_with fail
        refine (law28_known _ HV.out).mono ?_
        rintro e w1 ⟨rfl, k1⟩
        go_wp2_with fail
        go_ret
        exact ⟨rfl, k1⟩
      have g3' : (x.size : Int) ≤ 1000 := by omega
      by_cases g4 : 9000 < t + x.size
      · have g4' : (9000 : Int) < (t : Int) + (x.size : Int) := by omega
        go_wp2_with fail
        refine (law28_known _ HV.out).mono ?_
        rintro e w1 ⟨rfl, k1⟩
        go_wp2_with fail
        go_ret
        exact ⟨rfl, k1⟩
      have g4' : (t : Int) + (x.size : Int) ≤ 9000 := by omega
      go_wp2_with fail
      refine ⟨⟨k + 1, by omega, by go_num, ?_, ?_, trivial⟩, by simp [intOf]; omega⟩
      · rw [HTK.out]; go_num
      · rw [HTK.out]; omega
    · have HZ := hidMk (show sizes (txs l) ≤ 100000 by rw [← HTE.out k (by omega)]; omega)
      have hkn' : ¬ ((k : Int) < (l.length : Int)) := by omega
      have HGA := hidMk (fun W (q : Wq W a l) => law_given a ca l W q (by have := HL.out; omega))
      have HGB := hidMk (fun W (q : Wq W b m) => law_given b cb m W q (by have := HM.out; omega))
      have HRS := hidMk (fun W (q : Wq W a l) (q2 : Wq W b m) => ref28_Same a b ca cb l m W q q2 (by have := HL.out; omega) (by have := HM.out; omega))
      have HRT := hidMk (ref28_Text a ca l wr H1.out (by have := HL.out; omega) HZ.out)
      have HLT := hidMk (fun W a c (q : Wq W a l) => lex_Text a c l W q (by have := HL.out; omega) HZ.out)
      have HLS := hidMk (fun W a b ca cb (q : Wq W a l) (q2 : Wq W b m) => lex_Same a b ca cb l m W q q2 (by have := HL.out; omega) (by have := HM.out; omega))
      have HLL := hidMk (fun W a b ca cb (q : Wq W a l) (q2 : Wq W b l) => lex_Same a b ca cb l l W q q2 (by have := HL.out; omega) (by have := HL.out; omega))
      rw [sameB_self] at HLL
      have HRT2 := hidMk (fun W (q : Wq W a l) => ref28_Text a ca l W q (by have := HL.out; omega) HZ.out)
      clear hsz HT HTE HRT
      generalize joinB blankB (txs l) = j at *
      generalize sizes ((txs l).take k) = t at *
      generalize sameB l m = z at *
      have hzz : (z == z) = true := by cases z <;> rfl
      go_wp2_with fail
      refine (HGA.out _ H1.out).mono ?_
      rintro e w1 ⟨v1, rfl, o1, k1⟩
      obtain ⟨a1, c1, rfl, q1, _⟩ := o1.form
      have Q1 := hidMk q1
      have K1 := hidMk k1
      clear q1 k1 o1
      go_wp2_with fail
      refine (HLT.out _ _ _ Q1.out).mono ?_
      rintro e w2 ⟨rfl, k2⟩
      have K2 := hidMk (K1.out.trans k2)
      clear k2 Q1
      go_wp2_with fail
      refine (HRT2.out _ (H1.out.kept K2.out)).mono ?_
      rintro e w3 ⟨rfl, hw3⟩
      rw [hw3]
      clear hw3 w3
      go_wp2_with fail
      refine (HGA.out _ (H1.out.kept K2.out)).mono ?_
      rintro e w3 ⟨v3, rfl, o3, k3⟩
      obtain ⟨a3, c3, rfl, q3, _⟩ := o3.form
      have Q3 := hidMk q3
      have K3 := hidMk (K2.out.trans k3)
      clear q3 k3 o3
      go_wp2_with fail
      refine (HGB.out _ (H2.out.kept K3.out)).mono ?_
      rintro e w4 ⟨v4, rfl, o4, k4⟩
      obtain ⟨a4, c4, rfl, q4, _⟩ := o4.form
      have Q4 := hidMk q4
      have Q3b := hidMk (Q3.out.kept k4)
      have K4 := hidMk (K3.out.trans k4)
      clear q4 k4 o4 Q3
      go_wp2_with fail
      refine (HLS.out _ _ _ _ _ Q3b.out Q4.out).mono ?_
      rintro e w5 ⟨rfl, k5⟩
      have K5 := hidMk (K4.out.trans k5)
      clear k5 Q3b Q4
      go_wp2_with fail
      refine (HRS.out _ (H1.out.kept K5.out) (H2.out.kept K5.out)).mono ?_
      rintro e w6 ⟨rfl, k6⟩
      have K6 := hidMk (K5.out.trans k6)
      clear k6
      go_wp2_with fail
      refine (HGA.out _ (H1.out.kept K6.out)).mono ?_
      rintro e w7 ⟨v7, rfl, o7, k7⟩
      obtain ⟨a7, c7, rfl, q7, _⟩ := o7.form
      have Q7 := hidMk q7
      have K7 := hidMk (K6.out.trans k7)
      clear q7 k7 o7
      go_wp2_with fail
      refine (HGA.out _ (H1.out.kept K7.out)).mono ?_
      rintro e w8 ⟨v8, rfl, o8, k8⟩
      obtain ⟨a8, c8, rfl, q8, _⟩ := o8.form
      have Q8 := hidMk q8
      have Q7b := hidMk (Q7.out.kept k8)
      have K8 := hidMk (K7.out.trans k8)
      clear q8 k8 o8 Q7
      go_wp2_with fail
      refine (HLL.out _ _ _ _ _ Q7b.out Q8.out).mono ?_
      rintro e w9 ⟨rfl, k9⟩
      have K9 := hidMk (K8.out.trans k9)
      clear k9 Q7b Q8
      go_wp2_with fail
      refine (law28_known _ (HV.out.kept K9.out)).mono ?_
      rintro e w10 ⟨rfl, k10⟩
      have K10 := hidMk (K9.out.trans k10)
      clear k10
      go_wp2_with fail
      go_ret
      exact ⟨rfl, K10.out⟩
end Go.Proofs.YtifddieoekbnfaaDoor
