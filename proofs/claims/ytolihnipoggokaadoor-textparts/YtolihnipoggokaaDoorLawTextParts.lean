/- TextParts: words, lines, and what is joined. -/
import Derived.Test.YtolihnipoggokaaDoorRefText1
namespace Go.Proofs.YtolihnipoggokaaDoor
open Go.RowKit
set_option linter.unusedSimpArgs false
set_option linter.unusedVariables false

theorem wordsB_len2 (s : ByteArray) : (wordsB s).length ≤ s.size + 1 := by
  have h := words_tie s
  have h1 : (wordsB s).length = (wrd s.data.toList).length := by rw [← h, List.length_map]
  have h2 := tot_len (wrd s.data.toList)
  have h3 : tot (wrd s.data.toList) ≤ tot (spl 32 s.data.toList) := tot_filter _ _
  rw [tot_spl] at h3
  have h4 : s.data.toList.length = s.size := by rw [Array.length_toList]; rfl
  omega
def sizes (l : List ByteArray) : Nat := (l.map (·.size)).sum
theorem sizes_take {l : List ByteArray} {k : Nat} (h : k < l.length) : sizes (l.take (k + 1)) = sizes (l.take k) + (l.getD k ByteArray.empty).size := by
  unfold sizes
  have e : l.getD k ByteArray.empty = l[k] := by rw [List.getD_eq_getElem?_getD, List.getElem?_eq_getElem h]; rfl
  rw [List.take_succ_eq_append_getElem h, e, List.map_append, List.sum_append, List.map_cons, List.map_nil, List.sum_cons, List.sum_nil, Nat.add_zero]

def SmallP (n : Nat) (l : List ByteArray) (e : Ending) : Prop := ∃ r, e = .returned (.bool r) ∧ (r = true → n ≤ 501 ∧ sizes l ≤ 10000)
set_option maxHeartbeats 1000000 in
set_option maxRecDepth 100000 in
theorem law_small (a : Option Addr) (n c : Nat) (l : List ByteArray) (w : World) (hs : Ss w a n l) (hb : ∀ x ∈ l, x.size ≤ maxLen) :
    Calls Tryd.prog 16 #[.slice a n c] w fun e w' => SmallP n l e ∧ w' = w := by
  have H := hidMk hs
  have HB := hidMk hb
  have hl := hs.len
  have hbig : n ≤ 9223372036854775807 := hs.big
  clear hs hb
  go_enter Tryd.func16, Tryd.ntmps16
  go_wp2_with fail
  go_loopw [3, 4] (fun t i wr => ∃ k : Nat, k ≤ n ∧ k ≤ 501 ∧ i = .int .i64 k ∧ wr = w ∧ t = .int .i64 (sizes (l.take k) : Nat) ∧ sizes (l.take k) ≤ 10000) (fun _ i _ => n - (intOf i).toNat)
  case atStart => exact ⟨0, Nat.zero_le _, Nat.zero_le _, rfl, rfl, by simp [sizes], by simp [sizes]⟩
  case round =>
    obtain ⟨k, hk, hk5, rfl, rfl, rfl, ht⟩ := hrel
    by_cases hkn : k < n
    · obtain ⟨b, o, rfl, hbb, hcs⟩ := H.out.cells (by omega)
      have hcell := hcs k hkn
      have HT := hidMk (sizes_take (l := l) (k := k) (by omega))
      have hkn' : (k : Int) < (n : Int) := by omega
      clear hcs
      generalize l.getD k ByteArray.empty = x at *
      generalize sizes (l.take k) = t at *
      by_cases h1 : 3000 < x.size
      · have h1' : (3000 : Int) < (x.size : Int) := by omega
        go_wp2_with fail
        go_ret
        exact ⟨⟨false, rfl, fun h => by cases h⟩, rfl⟩
      have h1' : (x.size : Int) ≤ 3000 := by omega
      by_cases h2 : 500 < k
      · have h2' : (500 : Int) < (k : Int) := by omega
        go_wp2_with fail
        go_ret
        exact ⟨⟨false, rfl, fun h => by cases h⟩, rfl⟩
      have h2' : (k : Int) ≤ 500 := by omega
      by_cases h3 : 10000 < t + x.size
      · have h3' : (10000 : Int) < (t : Int) + (x.size : Int) := by omega
        go_wp2_with fail
        go_ret
        exact ⟨⟨false, rfl, fun h => by cases h⟩, rfl⟩
      have h3' : (t : Int) + (x.size : Int) ≤ 10000 := by omega
      go_wp2_with fail
      refine ⟨⟨k + 1, by omega, by omega, by go_num, trivial, ?_, ?_⟩, by simp [intOf]; omega⟩
      · rw [HT.out]; go_num
      · rw [HT.out]; omega
    · have e : l.take k = l := List.take_of_length_le (by omega)
      rw [e] at ht ⊢
      have hkn' : ¬ ((k : Int) < (n : Int)) := by omega
      have HH := hidMk (show n ≤ 501 ∧ sizes l ≤ 10000 from ⟨by omega, ht⟩)
      go_wp2_with fail
      go_ret
      exact ⟨⟨true, rfl, fun _ => HH.out⟩, rfl⟩

theorem join_snoc (c : List UInt8) : ∀ (xs : List (List UInt8)) (y : List UInt8), xs ≠ [] → c.intercalate (xs ++ [y]) = c.intercalate xs ++ c ++ y
  | [], _, h => absurd rfl h
  | [x], y, _ => by rw [List.cons_append, List.nil_append, join_cons2, join_one, join_one]
  | x :: z :: r, y, _ => by
    have := join_snoc c (z :: r) y (by simp)
    rw [List.cons_append, List.cons_append, join_cons2, ← List.cons_append, this, join_cons2]
    simp
theorem joinB_step {sep : ByteArray} {l : List ByteArray} {k : Nat} (h : k < l.length) (hk : 0 < k) : joinB sep (l.take (k + 1)) = joinB sep (l.take k) ++ sep ++ l.getD k ByteArray.empty := by
  have e : l.getD k ByteArray.empty = l[k] := by rw [List.getD_eq_getElem?_getD, List.getElem?_eq_getElem h]; rfl
  refine data_inj ?_
  rw [ByteArray.data_append, ByteArray.data_append, Array.toList_append, Array.toList_append, joinB_data, joinB_data, e, List.take_succ_eq_append_getElem h]
  unfold datas
  rw [List.map_append, List.map_cons, List.map_nil, join_snoc _ _ _ (by intro e; have := congrArg List.length e; rw [List.length_map, List.length_take, List.length_nil] at this; omega)]
theorem joinB_first {sep : ByteArray} {l : List ByteArray} (h : 0 < l.length) : joinB sep (l.take 1) = l.getD 0 ByteArray.empty := by
  cases l with
  | nil => simp at h
  | cons x r =>
    refine data_inj ?_
    rw [joinB_data]
    unfold datas
    simp [join_one]
theorem joinB_zero (sep : ByteArray) : joinB sep [] = ⟨#[]⟩ := by unfold joinB datas; rw [List.map_nil, join_nil]
theorem joinB_le (sep : ByteArray) (l : List ByteArray) : (joinB sep l).size ≤ sizes l + l.length * sep.size := by
  rw [joinB_size]
  unfold datas sizes
  have h4 : ∀ s : ByteArray, s.data.toList.length = s.size := fun s => by rw [Array.length_toList]; rfl
  have : ∀ xs : List ByteArray, (sep.data.toList.intercalate (xs.map (·.data.toList))).length ≤ (xs.map (·.size)).sum + xs.length * sep.size := by
    intro xs
    induction xs with
    | nil => rw [List.map_nil, join_nil]; simp
    | cons x r ih =>
      cases r with
      | nil => rw [List.map_cons, List.map_nil, join_one, h4]; simp
      | cons y t =>
        rw [List.map_cons, List.map_cons, join_cons2, List.length_append, List.length_append, h4, h4]
        rw [List.map_cons (l := t)] at ih
        show _ ≤ (x.size + ((y :: t).map (·.size)).sum) + ((y :: t).length + 1) * sep.size
        rw [Nat.add_mul]
        omega
  exact this l
theorem sizes_le (l : List ByteArray) (k : Nat) : sizes (l.take k) ≤ sizes l := by
  have h : sizes l = sizes (l.take k) + sizes (l.drop k) := by unfold sizes; rw [← List.sum_append, ← List.map_append, List.take_append_drop]
  omega

set_option maxHeartbeats 1000000 in
theorem ref_Join (sep : ByteArray) (a : Option Addr) (n c : Nat) (l : List ByteArray) (w : World) (hs : Ss w a n l) (hn : n ≤ 501) (hsz : sizes l ≤ 10000) (hsep : sep.size ≤ 100) :
    Calls Tryd.prog 23 #[.string sep, .slice a n c] w fun e w' => e = .returned (.string (joinB sep l)) ∧ w' = w := by
  have H := hidMk hs
  have hl := hs.len
  clear hs
  go_enter Tryd.func23, Tryd.ntmps23
  go_wp2_with fail
  go_loopw [5, 6] (fun t i wr => ∃ k : Nat, k ≤ n ∧ i = .int .i64 k ∧ wr = w ∧ t = .string (joinB sep (l.take k))) (fun _ i _ => n - (intOf i).toNat)
  case atStart => exact ⟨0, Nat.zero_le _, rfl, rfl, by rw [List.take_zero, joinB_zero]⟩
  case round =>
    obtain ⟨k, hk, rfl, rfl, rfl⟩ := hrel
    by_cases hkn : k < n
    · obtain ⟨b, o, rfl, hbb, hcs⟩ := H.out.cells (by omega)
      have hcell := hcs k hkn
      have hkn' : (k : Int) < (n : Int) := by omega
      have h1 := joinB_le sep (l.take k)
      have h2 := sizes_le l k
      have h3 := sizes_le l (k + 1)
      have h4 := sizes_take (l := l) (k := k) (by omega)
      have h5 : (l.take k).length * sep.size ≤ 501 * 100 := Nat.mul_le_mul (by rw [List.length_take]; omega) hsep
      have hx : (l.getD k ByteArray.empty).size ≤ 10000 := by omega
      have hj : (joinB sep (l.take k)).size ≤ 61000 := by omega
      clear hcs h1 h2 h3 h4 h5
      by_cases hk0 : k = 0
      · subst hk0
        have HF := hidMk (joinB_first (sep := sep) (l := l) (by omega))
        have HE := hidMk (show joinB sep (l.take 0) = ⟨#[]⟩ by rw [List.take_zero, joinB_zero])
        have happ : ∀ x : ByteArray, (⟨#[]⟩ : ByteArray) ++ x = x := fun x => data_inj (by rw [ByteArray.data_append, Array.toList_append]; rfl)
        have HA := hidMk happ
        rw [HE.out] at hj ⊢
        rw [Nat.add_zero] at hcell
        generalize l.getD 0 ByteArray.empty = x at *
        clear happ
        go_wp2_with fail
        refine ⟨⟨1, by omega, by go_num, trivial, ?_⟩, by simp [intOf]; omega⟩
        rw [HF.out, HA.out]
      · have hk0' : (0 : Int) < (k : Int) := by omega
        have HF := hidMk (joinB_step (sep := sep) (l := l) (k := k) (by omega) (by omega))
        generalize l.getD k ByteArray.empty = x at *
        generalize joinB sep (l.take k) = j at *
        go_wp2_with fail
        refine ⟨⟨k + 1, by omega, by go_num, trivial, ?_⟩, by simp [intOf]; omega⟩
        rw [HF.out]
    · have e : l.take k = l := List.take_of_length_le (by omega)
      rw [e]
      have hkn' : ¬ ((k : Int) < (n : Int)) := by omega
      go_wp2_with fail
      go_ret
      exact ⟨rfl, rfl⟩

set_option maxHeartbeats 2000000 in
set_option maxRecDepth 100000 in
theorem law_TextParts (s sep : ByteArray) (a : Option Addr) (n c : Nat) (l : List ByteArray) (w : World) (hs : s.size ≤ 140737488355328) (hsep : sep.size ≤ 140737488355328) (hl : Ss w a n l) (hb : ∀ x ∈ l, x.size ≤ maxLen) (hc : n ≤ c) (hV : Vars w) :
    Calls Tryd.prog 5 #[.string s, .string sep, .slice a n c] w fun e w' => e = .returned (.bool true) ∧ Kept w w' := by
  have HV := hidMk hV
  have HL := hidMk hl
  have HB := hidMk hb
  clear hV hl hb
  by_cases g0 : 3000 < s.size
  · have g0' : (3000 : Int) < (s.size : Int) := by omega
    go_enter Tryd.func5, Tryd.ntmps5
    go_wp2_with fail
    refine (law_known _ HV.out).mono ?_
    rintro e w1 ⟨rfl, k1⟩
    go_wp2_with fail
    go_ret
    exact ⟨rfl, k1⟩
  have g0' : (s.size : Int) ≤ 3000 := by omega
  by_cases g1 : 100 < sep.size
  · have g1' : (100 : Int) < (sep.size : Int) := by omega
    go_enter Tryd.func5, Tryd.ntmps5
    go_wp2_with fail
    refine (law_known _ HV.out).mono ?_
    rintro e w1 ⟨rfl, k1⟩
    go_wp2_with fail
    go_ret
    exact ⟨rfl, k1⟩
  have g1' : (sep.size : Int) ≤ 100 := by omega
  have HWL : Hid ((wordsB s).length ≤ 1000001) := hidMk (by have := wordsB_len2 s; omega)
  go_enter Tryd.func5, Tryd.ntmps5
  go_wp2_with fail
  refine (law_small a n c l _ HL.out HB.out).mono ?_
  rintro e w1 ⟨⟨r, rfl, hr⟩, rfl⟩
  cases r with
  | false =>
    clear hr
    go_wp2_with fail
    refine (law_known _ HV.out).mono ?_
    rintro e w1 ⟨rfl, k1⟩
    go_wp2_with fail
    go_ret
    exact ⟨rfl, k1⟩
  | true =>
    obtain ⟨hn, hz⟩ := hr rfl
    have hjl := joinB_le sep l
    have hl2 : l.length = n := HL.out.len
    have hjl2 : (joinB sep l).size ≤ 61000 := by
      have : l.length * sep.size ≤ 501 * 100 := Nat.mul_le_mul (by omega) (by omega)
      omega
    have JT := hidMk (fun w h => text_Join sep a n c l w h hc (by omega) (by have := joinB_size sep l; omega))
    have JR := hidMk (fun w h => ref_Join sep a n c l w h hn hz (by omega))
    clear hjl hl2 hr
    generalize joinB sep l = j at *
    go_wp2_with fail
    refine (text_Words s (by omega) _ HWL.out).mono ?_
    rintro e w2 ⟨a2, rfl, s2, k2⟩
    have S2 := hidMk s2
    have K2 := hidMk k2
    clear s2 k2
    go_wp2_with fail
    refine (ref_Words s (by omega) _).mono ?_
    rintro e w3 ⟨a3, c3, rfl, s3, k3⟩
    have S3 := hidMk s3
    have K3 := hidMk k3
    clear s3 k3
    go_wp2_with fail
    refine (ref_Same _ _ _ _ _ _ _ _ _ (S2.out.kept K3.out) S3.out).mono ?_
    rintro e w4 ⟨rfl, k4⟩
    rw [show decide (wordsB s = wordsB s) = true by simp]
    have K4 := hidMk ((K2.out.trans K3.out).trans k4)
    clear k4
    go_wp2_with fail
    refine (text_Lines s (by omega) _ (HV.out.kept K4.out)).mono ?_
    rintro e w5 ⟨a5, c5, rfl, s5, k5⟩
    have S5 := hidMk s5
    have K5 := hidMk k5
    clear s5 k5
    go_wp2_with fail
    refine (ref_Lines s (by omega) _).mono ?_
    rintro e w6 ⟨a6, c6, rfl, s6, k6⟩
    have S6 := hidMk s6
    have K6 := hidMk k6
    clear s6 k6
    go_wp2_with fail
    refine (ref_Same _ _ _ _ _ _ _ _ _ (S5.out.kept K6.out) S6.out).mono ?_
    rintro e w7 ⟨rfl, k7⟩
    rw [show decide (linesB s = linesB s) = true by simp]
    have K7 := hidMk (((K4.out.trans K5.out).trans K6.out).trans k7)
    clear k7
    go_wp2_with fail
    refine (JT.out _ (HL.out.kept K7.out)).mono ?_
    rintro e w8 ⟨rfl, k8⟩
    have K8 := hidMk (K7.out.trans k8)
    clear k8
    go_wp2_with fail
    refine (JR.out _ (HL.out.kept K8.out)).mono ?_
    rintro e w9 ⟨rfl, rfl⟩
    go_wp2_with fail
    refine (law_known _ (HV.out.kept K8.out)).mono ?_
    rintro e w10 ⟨rfl, k10⟩
    go_wp2_with fail
    go_ret
    exact ⟨rfl, K8.out.trans k10⟩
end Go.Proofs.YtolihnipoggokaaDoor
