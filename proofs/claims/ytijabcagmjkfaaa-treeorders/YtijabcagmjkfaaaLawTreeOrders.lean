/- TreeOrders: all members in order, all leaves, and of any place what is below and above it, its rank and its span. -/
import Derived.Test.YtijabcagmjkfaaaRefTree3
import Derived.Test.YtijabcagmjkfaaaRefTree7
namespace Go.Proofs.Ytijabcagmjkfaaa
open Go.RowKit Go.Maps
set_option linter.unusedSimpArgs false
set_option linter.unusedVariables false

set_option maxHeartbeats 8000000 in
set_option maxRecDepth 100000 in
theorem law_TreeOrders (a : Option Addr) (n c : Nat) (l : List Nd) (i k : Int) (w : World) (hs : Ns w a n l) : Calls Try.prog 4 #[.slice a n c, .int .i64 i, .int .i64 k] w fun e w' => e = .returned (.bool true) ∧ Kept w w' := by
  have hlen := hs.len
  have hbig := hs.big
  unfold maxLen at hbig
  have HNS := hidMk hs
  have HN := hidMk (tree_New a n c l w hs)
  have HKN := hidMk (fun w => law5_known w)
  clear hs
  by_cases h60 : 60 < n
  · have h60' : (60 : Int) < n := by omega
    go_enter Try.func4, Try.ntmps4
    go_wp2_with (go_at_call 9; refine (HKN.out _).mono ?_; rintro e w9 ⟨rfl, k9⟩; have K9 := hidMk k9; clear k9)
    go_ret
    exact ⟨rfl, K9.out⟩
  have h60' : (n : Int) ≤ 60 := by omega
  go_enter Try.func4, Try.ntmps4
  go_wp2_with fail
  refine HN.out.mono ?_
  rintro e w1 (⟨p, hp, rfl, hni, hw, hk⟩ | ⟨at_, er, rfl, her, hni, hk⟩)
  · have HW := hidMk hw
    have HK := hidMk hk
    have HNI := hidMk hni
    have HR := hidMk (r_New a n c l w1 (HNS.out.kept hk))
    have HTR := hidMk hw.tr
    have hb60 := hw.big
    clear hw hk hni HN
    go_wp2_with fail
    refine HR.out.mono ?_
    rintro e w2 (⟨rp, hrp, rfl, _, hrt, hk2⟩ | ⟨at2, er2, rfl, her2, hni2, _⟩)
    · have R2 := hidMk hrt
      have W2 := hidMk (HW.out.kept hk2)
      have K2 := hidMk (HK.out.trans hk2)
      have hol := ord_len HTR.out
      have hll := lvs_len HTR.out
      have hal : (abvA l i).length ≤ l.length + 1 := abv_le l _ i
      have hkl : (kidsI l i).length ≤ l.length := by
        unfold kidsI
        split
        · rw [ints_len]; exact kidK_len l l.length i
        · exact Nat.zero_le _
      clear hrt hk2 HR HW HNI
      have c2 := hidMk (w_Span W2.out i)
      go_wp2_with fail
      refine c2.out.mono ?_
      rintro e w3 ⟨rfl, k3⟩
      have K3 := hidMk (K2.out.trans k3)
      have W3 := hidMk (W2.out.kept k3)
      have R3 := hidMk (R2.out.kept k3)
      clear k3 c2
      have c3 := hidMk (r_Span R3.out HTR.out i)
      go_wp2_with fail
      refine c3.out.mono ?_
      rintro e w4 ⟨rfl, k4⟩
      have K4 := hidMk (K3.out.trans k4)
      have W4 := hidMk (W3.out.kept k4)
      have R4 := hidMk (R3.out.kept k4)
      clear k4 c3
      have c4 := hidMk (w_Order W4.out)
      go_wp2_with fail
      refine c4.out.mono ?_
      rintro e w5 ⟨v5, rfl, o5, k5⟩
      obtain ⟨a5, d5, rfl, s5⟩ := o5.sl (by rw [ints_len]; unfold maxLen; omega)
      have S5 := hidMk s5
      have K5 := hidMk (K4.out.trans k5)
      have W5 := hidMk (W4.out.kept k5)
      have R5 := hidMk (R4.out.kept k5)
      clear o5 k5 s5 c4
      have c5 := hidMk (r_Order R5.out HTR.out)
      go_wp2_with fail
      refine c5.out.mono ?_
      rintro e w6 ⟨v6, rfl, o6, k6⟩
      obtain ⟨a6, d6, rfl, s6⟩ := o6.sl (by rw [ints_len]; unfold maxLen; omega)
      have S6 := hidMk s6
      have S5b := hidMk (S5.out.kept k6)
      have K6 := hidMk (K5.out.trans k6)
      have W6 := hidMk (W5.out.kept k6)
      have R6 := hidMk (R5.out.kept k6)
      clear o6 k6 s6 c5
      have c6 := ref_Ints a5 a6 (ints (ordN l)).length (ints (ordN l)).length d5 d6 (ints (ordN l)) (ints (ordN l)) w6 S5b.out S6.out
      rw [decide_eq_true rfl] at c6
      have C6 := hidMk c6
      clear c6
      go_wp2_with fail
      refine C6.out.mono ?_
      rintro e w7 ⟨rfl, k7⟩
      have K7 := hidMk (K6.out.trans k7)
      have W7 := hidMk (W6.out.kept k7)
      have R7 := hidMk (R6.out.kept k7)
      clear k7 C6 S5 S5b S6
      have c7 := hidMk (w_Leaves W7.out)
      go_wp2_with fail
      refine c7.out.mono ?_
      rintro e w8 ⟨v8, rfl, o8, k8⟩
      obtain ⟨a8, d8, rfl, s8⟩ := o8.sl (by rw [ints_len]; unfold maxLen; omega)
      have S8 := hidMk s8
      have K8 := hidMk (K7.out.trans k8)
      have W8 := hidMk (W7.out.kept k8)
      have R8 := hidMk (R7.out.kept k8)
      clear o8 k8 s8 c7
      have c8 := hidMk (r_Leaves R8.out HTR.out)
      go_wp2_with fail
      refine c8.out.mono ?_
      rintro e w9 ⟨v9, rfl, o9, k9⟩
      obtain ⟨a9, d9, rfl, s9⟩ := o9.sl (by rw [ints_len]; unfold maxLen; omega)
      have S9 := hidMk s9
      have S8b := hidMk (S8.out.kept k9)
      have K9 := hidMk (K8.out.trans k9)
      have W9 := hidMk (W8.out.kept k9)
      have R9 := hidMk (R8.out.kept k9)
      clear o9 k9 s9 c8
      have c9 := ref_Ints a8 a9 (ints (lvsN l)).length (ints (lvsN l)).length d8 d9 (ints (lvsN l)) (ints (lvsN l)) w9 S8b.out S9.out
      rw [decide_eq_true rfl] at c9
      have C9 := hidMk c9
      clear c9
      go_wp2_with fail
      refine C9.out.mono ?_
      rintro e w10 ⟨rfl, k10⟩
      have K10 := hidMk (K9.out.trans k10)
      have W10 := hidMk (W9.out.kept k10)
      have R10 := hidMk (R9.out.kept k10)
      clear k10 C9 S8 S8b S9
      have c10 := hidMk (w_Kids W10.out i)
      go_wp2_with fail
      refine c10.out.mono ?_
      rintro e w11 ⟨v11, rfl, o11, k11⟩
      obtain ⟨a11, d11, rfl, s11⟩ := o11.sl (by unfold maxLen; omega)
      have S11 := hidMk s11
      have K11 := hidMk (K10.out.trans k11)
      have W11 := hidMk (W10.out.kept k11)
      have R11 := hidMk (R10.out.kept k11)
      clear o11 k11 s11 c10
      have c11 := hidMk (r_Kids R11.out i)
      go_wp2_with fail
      refine c11.out.mono ?_
      rintro e w12 ⟨v12, rfl, o12, k12⟩
      obtain ⟨a12, d12, rfl, s12⟩ := o12.sl (by unfold maxLen; omega)
      have S12 := hidMk s12
      have S11b := hidMk (S11.out.kept k12)
      have K12 := hidMk (K11.out.trans k12)
      have W12 := hidMk (W11.out.kept k12)
      have R12 := hidMk (R11.out.kept k12)
      clear o12 k12 s12 c11
      have c12 := ref_Ints a11 a12 (kidsI l i).length (kidsI l i).length d11 d12 (kidsI l i) (kidsI l i) w12 S11b.out S12.out
      rw [decide_eq_true rfl] at c12
      have C12 := hidMk c12
      clear c12
      go_wp2_with fail
      refine C12.out.mono ?_
      rintro e w13 ⟨rfl, k13⟩
      have K13 := hidMk (K12.out.trans k13)
      have W13 := hidMk (W12.out.kept k13)
      have R13 := hidMk (R12.out.kept k13)
      clear k13 C12 S11 S11b S12
      have c13 := hidMk (w_Above W13.out i)
      go_wp2_with fail
      refine c13.out.mono ?_
      rintro e w14 ⟨v14, rfl, o14, k14⟩
      obtain ⟨a14, d14, rfl, s14⟩ := o14.sl (by unfold maxLen; omega)
      have S14 := hidMk s14
      have K14 := hidMk (K13.out.trans k14)
      have W14 := hidMk (W13.out.kept k14)
      have R14 := hidMk (R13.out.kept k14)
      clear o14 k14 s14 c13
      have c14 := hidMk (r_Above R14.out i)
      go_wp2_with fail
      refine c14.out.mono ?_
      rintro e w15 ⟨v15, rfl, o15, k15⟩
      obtain ⟨a15, d15, rfl, s15⟩ := o15.sl (by unfold maxLen; omega)
      have S15 := hidMk s15
      have S14b := hidMk (S14.out.kept k15)
      have K15 := hidMk (K14.out.trans k15)
      have W15 := hidMk (W14.out.kept k15)
      have R15 := hidMk (R14.out.kept k15)
      clear o15 k15 s15 c14
      have c15 := ref_Ints a14 a15 (abvA l i).length (abvA l i).length d14 d15 (abvA l i) (abvA l i) w15 S14b.out S15.out
      rw [decide_eq_true rfl] at c15
      have C15 := hidMk c15
      clear c15
      go_wp2_with fail
      refine C15.out.mono ?_
      rintro e w16 ⟨rfl, k16⟩
      have K16 := hidMk (K15.out.trans k16)
      have W16 := hidMk (W15.out.kept k16)
      have R16 := hidMk (R15.out.kept k16)
      clear k16 C15 S14 S14b S15
      have c16 := hidMk (w_Within W16.out i k)
      go_wp2_with fail
      refine c16.out.mono ?_
      rintro e w17 ⟨rfl, hw17⟩
      subst hw17
      have K17 := K16
      have W17 := W16
      have R17 := R16
      clear c16
      have c17 := hidMk (r_Within R17.out i k)
      go_wp2_with fail
      refine c17.out.mono ?_
      rintro e w18 ⟨rfl, k18⟩
      have K18 := hidMk (K17.out.trans k18)
      have W18 := hidMk (W17.out.kept k18)
      have R18 := hidMk (R17.out.kept k18)
      clear k18 c17
      have c18 := hidMk (w_Leaf W18.out i)
      go_wp2_with fail
      refine c18.out.mono ?_
      rintro e w19 ⟨rfl, hw19⟩
      subst hw19
      have K19 := K18
      have W19 := W18
      have R19 := R18
      clear c18
      have c19 := hidMk (r_Leaf R19.out i)
      go_wp2_with fail
      refine c19.out.mono ?_
      rintro e w20 ⟨rfl, k20⟩
      have K20 := hidMk (K19.out.trans k20)
      have W20 := hidMk (W19.out.kept k20)
      have R20 := hidMk (R19.out.kept k20)
      clear k20 c19
      have hbl : ∀ b : Bool, (b == b) = true := fun b => by simp
      have c20 := hidMk (w_Rank W20.out i)
      go_wp2_with fail
      refine c20.out.mono ?_
      rintro e w21 ⟨rfl, hw21⟩
      subst hw21
      have K21 := K20
      have W21 := W20
      have R21 := R20
      clear c20
      have c21 := hidMk (r_Rank R21.out HTR.out i)
      go_wp2_with fail
      refine c21.out.mono ?_
      rintro e w22 ⟨rfl, k22⟩
      have K22 := hidMk (K21.out.trans k22)
      have W22 := hidMk (W21.out.kept k22)
      have R22 := hidMk (R21.out.kept k22)
      clear k22 c21
      have c22 := hidMk (w_Up W22.out i)
      go_wp2_with fail
      refine c22.out.mono ?_
      rintro e w23 ⟨rfl, hw23⟩
      subst hw23
      have K23 := K22
      have W23 := W22
      have R23 := R22
      clear c22
      have c23 := hidMk (r_Up R23.out i)
      go_wp2_with fail
      refine c23.out.mono ?_
      rintro e w24 ⟨rfl, hw24⟩
      subst hw24
      have K24 := K23
      have W24 := W23
      have R24 := R23
      clear c23
      have c24 := hidMk (w_Name W24.out i)
      go_wp2_with fail
      refine c24.out.mono ?_
      rintro e w25 ⟨rfl, hw25⟩
      subst hw25
      have K25 := K24
      have W25 := W24
      have R25 := R24
      clear c24
      have c25 := hidMk (r_Name R25.out i)
      go_wp2_with fail
      refine c25.out.mono ?_
      rintro e w26 ⟨rfl, hw26⟩
      subst hw26
      have K26 := K25
      have W26 := W25
      have R26 := R25
      clear c25
      have c26 := hidMk (w_Depth W26.out i)
      go_wp2_with fail
      refine c26.out.mono ?_
      rintro e w27 ⟨rfl, hw27⟩
      subst hw27
      have K27 := K26
      have W27 := W26
      have R27 := R26
      clear c26
      have c27 := hidMk (r_Depth R27.out i)
      go_wp2_with fail
      refine c27.out.mono ?_
      rintro e w28 ⟨rfl, k28⟩
      have K28 := hidMk (K27.out.trans k28)
      have W28 := hidMk (W27.out.kept k28)
      have R28 := hidMk (R27.out.kept k28)
      clear k28 c27
      go_wp2_with (go_at_call 9; refine (HKN.out _).mono ?_; rintro e w99 ⟨rfl, k99⟩; have K99 := hidMk k99; clear k99)
      go_ret
      exact ⟨rfl, K28.out.trans K99.out⟩
    · exact absurd (newIs_one HNI.out hni2).2.symm her2
  · have HK := hidMk hk
    have HNI := hidMk hni
    have HR := hidMk (r_New a n c l w1 (HNS.out.kept hk))
    clear hk hni HN
    go_wp2_with fail
    refine HR.out.mono ?_
    rintro e w2 (⟨rp, hrp, rfl, hni2, hrt, hk2⟩ | ⟨at2, er2, rfl, her2, hni2, hk2⟩)
    · exact absurd (newIs_one HNI.out hni2).2 her
    · obtain ⟨rfl, rfl⟩ := newIs_one HNI.out hni2
      have HK2 := hidMk hk2
      clear hk2 hni2 HR
      have ze : (er != er) = false := by simp
      have ze2 : (er != 0) = true := by simpa using her
      go_wp2_with (go_at_call 9; refine (HKN.out _).mono ?_; rintro e w9 ⟨rfl, k9⟩; have K9 := hidMk k9; clear k9)
      go_ret
      exact ⟨rfl, (HK.out.trans HK2.out).trans K9.out⟩
end Go.Proofs.Ytijabcagmjkfaaa
