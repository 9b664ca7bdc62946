/- LexWords: the words of a line, and whether it has nothing to say. -/
import Derived.Test.YtifddieoekbnfaaDoorLexC
import Derived.Test.YtifddieoekbnfaaDoorLexB
namespace Go.Proofs.YtifddieoekbnfaaDoor
open Go Go.RowKit Go.Maps
set_option linter.unusedSimpArgs false
set_option linter.unusedVariables false

theorem sameB_of {l m : List Wd} (h : l.map key = m.map key) : sameB l m = true := by unfold sameB; exact decide_eq_true h
theorem cor_p {l m : List Wd} (h : l.map cor = m.map cor) {k : Nat} (hk : k < m.length) : (wdA l k).p = (wdA m k).p := by
  obtain ⟨_, e⟩ := cor_get h (k := k) (y := cor (wdA m k)) (by rw [List.getElem?_map, List.getElem?_eq_getElem hk, wdA_get hk]; rfl)
  unfold cor at e
  simp only [Prod.mk.injEq] at e
  exact e.2.2.1
set_option maxHeartbeats 2000000 in
set_option maxRecDepth 100000 in
theorem law_LexWords (s : ByteArray) (w : World) (hs : s.size ≤ 140737488355328) (hV : Vars w) : Calls Tryd.prog 3 #[.string s] w fun e w' => e = .returned (.bool true) ∧ Kept w w' := by
  have HV := hidMk hV
  clear hV
  by_cases g0 : 3000 < s.size
  · have g0' : (3000 : Int) < (s.size : Int) := by omega
    go_enter Tryd.func3, Tryd.ntmps3
    go_wp2_with fail
    refine (law28_known _ HV.out).mono ?_
    rintro e w1 ⟨rfl, k1⟩
    go_wp2_with fail
    go_ret
    exact ⟨rfl, k1⟩
  have g0' : (s.size : Int) ≤ 3000 := by omega
  have HTB := hidMk (show (tks s.data.toList).length ≤ 3001 by have h1 := tks_len s.data.toList; have h2 := data_len s; omega)
  have HEM := hidMk (lex_Empty s (by omega))
  have HER := hidMk (ref28_Empty s (by omega))
  have HWL := hidMk (lex_Words s (by omega))
  have HWR := hidMk (ref28_Words s (by omega))
  unfold WordsP at HWL HWR
  obtain ⟨z, hz⟩ : ∃ z, emB s.data.toList = z := ⟨_, rfl⟩
  rw [hz] at HEM HER
  clear hz
  obtain ⟨ts, hts⟩ : ∃ ts, tks s.data.toList = ts := ⟨_, rfl⟩
  rw [hts] at HTB HWL HWR
  clear hts
  go_enter Tryd.func3, Tryd.ntmps3
  go_wp2_with fail
  refine (HWL.out _ HV.out).mono ?_
  rintro e w1 ⟨v1, l, rfl, o1, c1, k1⟩
  obtain ⟨a1, cc1, rfl, q1, _⟩ := o1.form
  have Q1 := hidMk q1
  have C1 := hidMk c1
  have K1 := hidMk k1
  have HL := hidMk (show l.length ≤ 3001 by have := congrArg List.length c1; rw [List.length_map, List.length_map] at this; have := HTB.out; omega)
  clear q1 c1 k1 o1
  go_wp2_with fail
  refine (law_taken a1 cc1 l _ Q1.out (by have := HL.out; omega)).mono ?_
  rintro e w2 ⟨v2, rfl, o2, k2⟩
  obtain ⟨a2, cc2, rfl, q2, _⟩ := o2.form
  have Q2 := hidMk q2
  have K2 := hidMk (K1.out.trans k2)
  clear q2 k2 o2
  go_wp2_with fail
  refine (HWR.out _).mono ?_
  rintro e w3 ⟨v3, m, rfl, o3, c3, k3⟩
  obtain ⟨a3, cc3, rfl, q3, _⟩ := o3.form
  have Q3 := hidMk q3
  have Q2b := hidMk (Q2.out.kept k3)
  have K3 := hidMk (K2.out.trans k3)
  have HCC := hidMk (show l.map cor = m.map cor from C1.out.trans c3.symm)
  have HLM := hidMk (show l.length = m.length by have := congrArg List.length (C1.out.trans c3.symm); simpa using this)
  clear q3 c3 k3 o3 Q2
  go_wp2_with fail
  refine (ref28_Same a2 a3 cc2 cc3 l m _ Q2b.out Q3.out (by have := HL.out; omega) (by have := HL.out; have := HLM.out; omega)).mono ?_
  rintro e w4 ⟨rfl, k4⟩
  rw [sameB_of (by rw [key_cor, key_cor, HCC.out])]
  have Q2c := hidMk (Q2b.out.kept k4)
  have Q3c := hidMk (Q3.out.kept k4)
  have K4 := hidMk (K3.out.trans k4)
  clear k4 Q2b Q3
  go_wp2_with fail
  refine (HEM.out _ (HV.out.kept K4.out)).mono ?_
  rintro e w5 ⟨rfl, k5⟩
  have Q2d := hidMk (Q2c.out.kept k5)
  have Q3d := hidMk (Q3c.out.kept k5)
  have K5 := hidMk (K4.out.trans k5)
  clear k5 Q2c Q3c
  go_wp2_with fail
  refine (HER.out _).mono ?_
  rintro e w6 ⟨rfl, k6⟩
  have Q2e := hidMk (Q2d.out.kept k6)
  have Q3e := hidMk (Q3d.out.kept k6)
  have K6 := hidMk (K5.out.trans k6)
  clear k6 Q2d Q3d
  have hzz : (z != z) = false := by cases z <;> rfl
  have HP := hidMk (fun k (hk : k < m.length) => cor_p HCC.out hk)
  obtain ⟨n, hn⟩ : ∃ n, m.length = n := ⟨_, rfl⟩
  rw [hn] at HP HLM ⊢
  have HN := hidMk hn
  clear hn
  rw [HLM.out]
  have hnb : n ≤ 3001 := by have := HL.out; have := HLM.out; omega
  go_wp2_with fail
  go_loopw [5] (fun i wr => ∃ k : Nat, k ≤ n ∧ i = .int .i64 k ∧ Hid (Kept w6 wr)) (fun i _ => n - (intOf i).toNat)
  case atStart => exact ⟨0, Nat.zero_le _, rfl, hidMk (Kept.refl _)⟩
  case round =>
    obtain ⟨k, hk, rfl, HK⟩ := hrel
    by_cases hkn : k < n
    · have hk2 : k < m.length := by rw [HN.out]; exact hkn
      have hk1 : k < l.length := by rw [HLM.out]; exact hkn
      obtain ⟨b1, o1, rfl⟩ := Q2e.out.form (by omega)
      obtain ⟨b2, o2, rfl⟩ := Q3e.out.form (by omega)
      obtain ⟨_, _, x2, _, _⟩ := (Q2e.out.kept HK.out).at hk1
      obtain ⟨_, _, y2, _, _⟩ := (Q3e.out.kept HK.out).at hk2
      rw [HP.out k hkn] at x2
      have hkn' : (k : Int) < (n : Int) := by omega
      clear hk1 hk2
      generalize (wdA m k).p = p at *
      have hpp : (p != p) = false := by simp
      go_wp2_with fail
      go_quiet (fail)
      go_wp2_with fail
      exact ⟨⟨k + 1, by omega, by go_num, hidMk (HK.out.drewN _)⟩, by simp [intOf]; omega⟩
    · have hkn' : ¬ ((k : Int) < (n : Int)) := by omega
      go_wp2_with fail
      refine (law28_known _ (HV.out.kept (K6.out.trans HK.out))).mono ?_
      rintro e w7 ⟨rfl, k7⟩
      have K7 := hidMk ((K6.out.trans HK.out).trans k7)
      clear k7
      go_wp2_with fail
      go_ret
      exact ⟨rfl, K7.out⟩
end Go.Proofs.YtifddieoekbnfaaDoor
