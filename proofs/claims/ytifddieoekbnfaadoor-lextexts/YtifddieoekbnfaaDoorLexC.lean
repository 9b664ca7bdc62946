/- lex: what must come of fixed calls. -/
import Derived.Test.YtifddieoekbnfaaDoorLex9
import Derived.Test.YtifddieoekbnfaaDoorLex4
namespace Go.Proofs.YtifddieoekbnfaaDoor
open Go Go.RowKit Go.Maps
set_option linter.unusedSimpArgs false
set_option linter.unusedVariables false

def kLine : ByteArray := ⟨#[115, 101, 116, 32, 32, 109, 47, 97, 32, 45, 53]⟩
def kHash : ByteArray := ⟨#[32, 35, 32, 120]⟩
theorem k_tks : tks kLine.data.toList = [(0, [115, 101, 116]), (5, [109, 47, 97]), (9, [45, 53])] := by decide +kernel
theorem k_hash : emB kHash.data.toList = true := by decide +kernel
theorem num0 : numS 0 = ⟨#[48]⟩ := by
  unfold numS numL
  rw [if_neg (by omega), show (0 : Int).toNat = 0 from rfl, digs_lt (n := 0) (by omega)]
  decide +kernel
theorem num5 : numS (-5) = ⟨#[45, 53]⟩ := by
  unfold numS numL
  rw [if_pos (by omega), show ((- -5 : Int)).toNat = 5 from rfl, digs_lt (n := 5) (by omega)]
  decide +kernel
theorem k_set : ¬ isNum (bstr [115, 101, 116]) := by
  unfold isNum
  rw [show refV (bstr [115, 101, 116]) = 0 by decide +kernel, num0]
  decide
theorem k_ma : ¬ isNum (bstr [109, 47, 97]) := by
  unfold isNum
  rw [show refV (bstr [109, 47, 97]) = 0 by decide +kernel, num0]
  decide
theorem k_m5 : refV (bstr [45, 53]) = -5 := by decide +kernel
theorem k_num : isNum (bstr [45, 53]) := by
  unfold isNum
  rw [k_m5, num5]
  decide
theorem k_all : (tks kLine.data.toList).map mkc = [(1, bstr [115, 101, 116], 0, 0, []), (3, bstr [109, 47, 97], 5, 0, [⟨#[109]⟩, ⟨#[97]⟩]), (2, bstr [45, 53], 9, -5, [])] := by
  rw [k_tks]
  unfold mkc
  simp only [List.map_cons, List.map_nil]
  have e1 : rdK (bstr [115, 101, 116]) = 1 ∧ rdN (bstr [115, 101, 116]) = 0 ∧ rdP (bstr [115, 101, 116]) = [] := by
    unfold rdK rdN rdP
    have h : nameB (bstr [115, 101, 116]) = true := by decide +kernel
    rw [if_neg k_set, if_pos h, if_neg k_set, if_neg k_set, if_pos h]
    exact ⟨rfl, rfl, rfl⟩
  have e2 : rdK (bstr [109, 47, 97]) = 3 ∧ rdN (bstr [109, 47, 97]) = 0 ∧ rdP (bstr [109, 47, 97]) = [⟨#[109]⟩, ⟨#[97]⟩] := by
    unfold rdK rdN rdP
    have h : nameB (bstr [109, 47, 97]) = false := by decide +kernel
    have h2 : slP (bstr [109, 47, 97]) = [⟨#[109]⟩, ⟨#[97]⟩] := by decide +kernel
    have h3 : cellB (bstr [109, 47, 97]) = true := by unfold cellB; rw [h2]; decide +kernel
    rw [if_neg k_ma, if_neg (by rw [h]; simp), if_pos h3, if_neg k_ma, if_neg k_ma, if_neg (by rw [h]; simp), if_pos h3, h2]
    exact ⟨rfl, rfl, rfl⟩
  have e3 : rdK (bstr [45, 53]) = 2 ∧ rdN (bstr [45, 53]) = -5 ∧ rdP (bstr [45, 53]) = [] := by
    unfold rdK rdN rdP
    rw [if_pos k_num, if_pos k_num, if_pos k_num, k_m5]
    exact ⟨rfl, rfl, rfl⟩
  rw [e1.1, e1.2.1, e1.2.2, e2.1, e2.2.1, e2.2.2, e3.1, e3.2.1, e3.2.2]
  rfl
theorem cor_get {l : List Wd} {cs : List (Int × ByteArray × Int × Int × List ByteArray)} (h : l.map cor = cs) {k : Nat} {y : Int × ByteArray × Int × Int × List ByteArray} (hk : cs[k]? = some y) : k < l.length ∧ cor (wdA l k) = y := by
  subst h
  have hl : k < l.length := by have := (List.getElem?_eq_some_iff.1 hk).1; simpa using this
  refine ⟨hl, ?_⟩
  rw [List.getElem?_map, List.getElem?_eq_getElem hl] at hk
  rw [wdA_get hl]
  simpa using hk
set_option maxHeartbeats 2000000 in
set_option maxRecDepth 100000 in
theorem law28_known (w : World) (hV : Vars w) : Calls Tryd.prog 6 #[] w fun e w' => e = .returned (.bool true) ∧ Kept w w' := by
  have HW := hidMk (lex_Words kLine (by decide) w hV)
  have HV := hidMk hV
  have HE := hidMk (show ∀ W, Vars W → Calls Tryd.prog 11 #[.string kHash] W fun e w' => e = .returned (.bool true) ∧ Kept W w' from fun W h => by
    have := lex_Empty kHash (by decide) W h
    rw [k_hash] at this
    exact this)
  unfold kHash at HE
  unfold kLine at HW
  clear hV
  go_enter Tryd.func6, Tryd.ntmps6
  go_wp2_with fail
  refine HW.out.mono ?_
  rintro e w1 ⟨v, l, rfl, ho, hc, k1⟩
  rw [show (tks (ByteArray.mk #[115, 101, 116, 32, 32, 109, 47, 97, 32, 45, 53]).data.toList).map mkc = _ from k_all] at hc
  obtain ⟨a, c, rfl, hq, _⟩ := ho.form
  have hl : l.length = 3 := by have := congrArg List.length hc; simpa using this
  rw [hl]
  obtain ⟨h0, e0⟩ := cor_get hc (k := 0) rfl
  obtain ⟨h1, e1⟩ := cor_get hc (k := 1) rfl
  obtain ⟨h2, e2⟩ := cor_get hc (k := 2) rfl
  obtain ⟨b, o, rfl⟩ := hq.form (by omega)
  obtain ⟨a0, _, _, _, _⟩ := hq.at h0
  obtain ⟨b0, _, b2, _, b4⟩ := hq.at h1
  obtain ⟨d0, _, _, d3, _⟩ := hq.at h2
  have hp := (hq.part h1).len
  unfold cor at e0 e1 e2
  simp only [Prod.mk.injEq] at e0 e1 e2
  rw [e0.1] at a0
  rw [e1.1] at b0
  rw [e1.2.2.1] at b2
  rw [e1.2.2.2.2] at hp
  rw [← hp] at b4
  rw [e2.1] at d0
  rw [e2.2.2.2.1] at d3
  rw [Nat.zero_mul, Nat.add_zero] at a0
  rw [Nat.one_mul] at b0 b2 b4
  simp only [List.length_cons, List.length_nil, Nat.zero_add, Nat.reduceAdd, Nat.reduceMul] at b4 d0 d3
  rw [Nat.add_assoc] at b2 b4 d3
  simp only [Nat.reduceAdd] at b2 b4 d3
  have HK := hidMk k1
  have HEE := hidMk (HE.out w1 (HV.out.kept k1))
  clear ho hc hq hl h0 h1 h2 e0 e1 e2 hp k1
  generalize (wdA l 1).a = pa at *
  generalize (wdA l 1).c = pc at *
  go_wp2_with fail
  refine HEE.out.mono ?_
  rintro e w2 ⟨rfl, k2⟩
  have K2 := hidMk (HK.out.trans k2)
  clear k2 a0 b0 b2 b4 d0 d3
  go_wp2_with fail
  go_ret
  exact ⟨rfl, K2.out⟩
end Go.Proofs.YtifddieoekbnfaaDoor
