/- lex: Text; the definition's. -/
import Derived.Test.YtifddieoekbnfaaDoorLex5
namespace Go.Proofs.YtifddieoekbnfaaDoor
open Go Go.RowKit Go.Maps
set_option linter.unusedSimpArgs false
set_option linter.unusedVariables false

def blankB : ByteArray := ⟨#[32]⟩
def sizes (l : List ByteArray) : Nat := (l.map (·.size)).sum
theorem sizes_take {l : List ByteArray} {k : Nat} (h : k < l.length) : sizes (l.take (k + 1)) = sizes (l.take k) + (l.getD k ByteArray.empty).size := by
  unfold sizes
  have e : l.getD k ByteArray.empty = l[k] := by rw [List.getD_eq_getElem?_getD, List.getElem?_eq_getElem h]; rfl
  rw [List.take_succ_eq_append_getElem h, e, List.map_append, List.sum_append, List.map_cons, List.map_nil, List.sum_cons, List.sum_nil, Nat.add_zero]
theorem join_snoc (c : List UInt8) : ∀ (xs : List (List UInt8)) (y : List UInt8), xs ≠ [] → c.intercalate (xs ++ [y]) = c.intercalate xs ++ c ++ y
  | [], _, h => absurd rfl h
  | [x], y, _ => by rw [List.cons_append, List.nil_append, join_cons2, join_one, join_one]
  | x :: z :: r, y, _ => by
    have := join_snoc c (z :: r) y (by simp)
    rw [List.cons_append, List.cons_append, join_cons2, ← List.cons_append, this, join_cons2]
    simp
theorem joinB_step {sep : ByteArray} {l : List ByteArray} {k : Nat} (h : k < l.length) (hk : 0 < k) : joinB sep (l.take (k + 1)) = joinB sep (l.take k) ++ sep ++ l.getD k ByteArray.empty := by
  have e : l.getD k ByteArray.empty = l[k] := by rw [List.getD_eq_getElem?_getD, List.getElem?_eq_getElem h]; rfl
  refine data_inj ?_
  rw [ByteArray.data_append, ByteArray.data_append, Array.toList_append, Array.toList_append, joinB_data, joinB_data, e, List.take_succ_eq_append_getElem h]
  unfold datas
  rw [List.map_append, List.map_cons, List.map_nil, join_snoc _ _ _ (by intro e; have := congrArg List.length e; rw [List.length_map, List.length_take, List.length_nil] at this; omega)]
theorem joinB_first {sep : ByteArray} {l : List ByteArray} (h : 0 < l.length) : joinB sep (l.take 1) = l.getD 0 ByteArray.empty := by
  cases l with
  | nil => simp at h
  | cons x r =>
    refine data_inj ?_
    rw [joinB_data]
    unfold datas
    simp [join_one]
theorem joinB_zero (sep : ByteArray) : joinB sep [] = ⟨#[]⟩ := by unfold joinB datas; rw [List.map_nil, join_nil]
theorem joinB_le (sep : ByteArray) (l : List ByteArray) : (joinB sep l).size ≤ sizes l + l.length * sep.size := by
  rw [joinB_size]
  unfold datas sizes
  have h4 : ∀ s : ByteArray, s.data.toList.length = s.size := fun s => by rw [Array.length_toList]; rfl
  have : ∀ xs : List ByteArray, (sep.data.toList.intercalate (xs.map (·.data.toList))).length ≤ (xs.map (·.size)).sum + xs.length * sep.size := by
    intro xs
    induction xs with
    | nil => rw [List.map_nil, join_nil]; simp
    | cons x r ih =>
      cases r with
      | nil => rw [List.map_cons, List.map_nil, join_one, h4]; simp
      | cons y t =>
        rw [List.map_cons, List.map_cons, join_cons2, List.length_append, List.length_append, h4, h4]
        rw [List.map_cons (l := t)] at ih
        show _ ≤ (x.size + ((y :: t).map (·.size)).sum) + ((y :: t).length + 1) * sep.size
        rw [Nat.add_mul]
        omega
  exact this l
theorem sizes_le (l : List ByteArray) (k : Nat) : sizes (l.take k) ≤ sizes l := by
  have h : sizes l = sizes (l.take k) + sizes (l.drop k) := by unfold sizes; rw [← List.sum_append, ← List.map_append, List.take_append_drop]
  omega
/-- The texts of words. -/
def txs (l : List Wd) : List ByteArray := l.map (·.t)
theorem txs_len (l : List Wd) : (txs l).length = l.length := by simp [txs]
theorem txs_take (l : List Wd) (k : Nat) (h : k < l.length) : (txs l).take (k + 1) = (txs l).take k ++ [(wdA l k).t] := by
  rw [List.take_succ_eq_append_getElem (by rw [txs_len]; exact h), wdA_get h]
  simp [txs]
theorem txs_getD (l : List Wd) (k : Nat) (h : k < l.length) : (txs l).getD k ByteArray.empty = (wdA l k).t := by
  rw [List.getD_eq_getElem?_getD, List.getElem?_eq_getElem (by rw [txs_len]; exact h), wdA_get h]
  simp [txs]
set_option maxHeartbeats 2000000 in
set_option maxRecDepth 100000 in
theorem lex_Text (a : Option Addr) (c : Nat) (l : List Wd) (w : World) (hs : Wq w a l) (hl : l.length ≤ 10001) (hz : sizes (txs l) ≤ 100000) :
    Calls Tryd.prog 13 #[.slice a l.length c] w fun e w' => e = .returned (.string (joinB blankB (txs l))) ∧ Kept w w' := by
  have H := hidMk hs
  have hjl := joinB_le blankB (txs l)
  rw [txs_len] at hjl
  have hb1 : blankB.size = 1 := rfl
  rw [hb1] at hjl
  have HJL := hidMk (show ((blankB.data.toList.intercalate (datas (txs l))).length ≤ 140737488355328) from by rw [← joinB_size]; omega)
  have HJ := hidMk (show ∀ a c W, Ss W a (txs l).length (txs l) → (txs l).length ≤ c → _ from fun a c W h hc => text_Join blankB a (txs l).length c (txs l) W h hc (by rw [txs_len]; omega) HJL.out)
  have HT := hidMk (fun k (h : k < l.length) => txs_take l k h)
  have HTL := hidMk (txs_len l)
  have HJB := hidMk (show blankB = ⟨#[32]⟩ from rfl)
  clear hs hjl hb1 hz
  generalize joinB blankB (txs l) = r at *
  rw [HJB.out] at HJ
  obtain ⟨n, hn⟩ : ∃ n, l.length = n := ⟨_, rfl⟩
  have HN := hidMk hn
  rw [hn] at hl HTL ⊢
  clear hn
  go_enter Tryd.func13, Tryd.ntmps13
  go_wp2_with fail
  go_loopw [3, 5, 8] (fun v _ i wr => ∃ k : Nat, k ≤ n ∧ i = .int .i64 k ∧ Hid (OwnS w wr v ((txs l).take k)) ∧ Hid (Kept w wr)) (fun _ _ i _ => n - (intOf i).toNat)
  case atStart => exact ⟨0, Nat.zero_le _, rfl, hidMk (World.ownsRow_nil _ _ _ _), hidMk (Kept.refl _)⟩
  case round =>
    obtain ⟨k, hk, rfl, HO, HK⟩ := hrel
    by_cases hkn : k < n
    · have hkl : k < l.length := by rw [HN.out]; exact hkn
      obtain ⟨b, o, rfl⟩ := H.out.form (by omega)
      obtain ⟨c0, c1, c2, c3, c4⟩ := (H.out.kept HK.out).at hkl
      have HTK := hidMk (HT.out k hkl)
      have hkn' : (k : Int) < (n : Int) := by omega
      have HTKL := hidMk (show ((txs l).take k).length ≤ 1000000 by rw [List.length_take]; omega)
      clear hkl
      generalize wdA l k = x at *
      generalize (txs l).take k = tl at *
      go_wp2_with (at_builtin; refine wpList_pushS _ rfl _ _ rfl w _ tl rfl (World.ownsRow.alloc (World.ownsRow.alloc HO.out _) _) ((HK.out.alloc _).alloc _) (wr.heap.size + 1) x.t rfl ?c1 ?c2 ?_)
      case c1 => simp
      case c2 => exact HTKL.out
      intro v' w' ho hk'
      have H4 := hidMk ho
      have H5 := hidMk hk'
      clear ho hk'
      go_wp2_with fail
      exact ⟨⟨k + 1, by omega, by go_num, hidMk (by rw [HTK.out]; exact H4.out), H5⟩, by simp [intOf]; omega⟩
    · have hke : k = n := by omega
      have ht : (txs l).take k = txs l := List.take_of_length_le (by rw [HTL.out]; omega)
      rw [ht] at HO
      have hkn' : ¬ ((k : Int) < (n : Int)) := by omega
      clear ht
      obtain ⟨ta, tc, rfl, hss, hc, _⟩ := ownS_sl HO.out (by rw [HTL.out]; omega)
      have HJJ := hidMk (HJ.out ta tc wr hss hc)
      rw [HTL.out] at HJJ ⊢
      clear hss hc HJ HO
      go_wp2_with fail
      refine HJJ.out.mono ?_
      rintro e w1 ⟨rfl, k1⟩
      have K1 := hidMk k1
      clear k1
      go_wp2_with fail
      go_ret
      exact ⟨rfl, HK.out.trans K1.out⟩
set_option maxHeartbeats 2000000 in
set_option maxRecDepth 100000 in
theorem ref28_Text (a : Option Addr) (c : Nat) (l : List Wd) (w : World) (hs : Wq w a l) (hl : l.length ≤ 10001) (hz : sizes (txs l) ≤ 100000) :
    Calls Tryd.prog 15 #[.slice a l.length c] w fun e w' => e = .returned (.string (joinB blankB (txs l))) ∧ w' = w := by
  have H := hidMk hs
  have HJ1 := hidMk (show ∀ k, k < l.length → (joinB blankB ((txs l).take k)).size + ((txs l).getD k ByteArray.empty).size ≤ 300000 from fun k hk => by
    have h1 := joinB_le blankB ((txs l).take k)
    have h2 := sizes_le (txs l) k
    have h3 := sizes_le (txs l) (k + 1)
    have h4 := sizes_take (l := txs l) (k := k) (by rw [txs_len]; omega)
    have h5 : ((txs l).take k).length * blankB.size ≤ 10001 * 1 := Nat.mul_le_mul (by rw [List.length_take, txs_len]; omega) (Nat.le_refl _)
    omega)
  have HST := hidMk (show ∀ k, k < l.length → 0 < k → joinB blankB ((txs l).take (k + 1)) = joinB blankB ((txs l).take k) ++ blankB ++ (txs l).getD k ByteArray.empty from fun k hk h0 => joinB_step (by rw [txs_len]; exact hk) h0)
  have HFS := hidMk (show 0 < l.length → joinB blankB ((txs l).take 1) = (txs l).getD 0 ByteArray.empty from fun h => joinB_first (by rw [txs_len]; exact h))
  have HGD := hidMk (fun k (h : k < l.length) => txs_getD l k h)
  have HTL := hidMk (txs_len l)
  have HJB := hidMk (show blankB = ⟨#[32]⟩ from rfl)
  clear hs hz
  obtain ⟨n, hn⟩ : ∃ n, l.length = n := ⟨_, rfl⟩
  have HN := hidMk hn
  rw [hn] at hl HTL HJ1 HST HFS HGD ⊢
  clear hn
  go_enter Tryd.func15, Tryd.ntmps15
  go_wp2_with fail
  go_loopw [3, 4] (fun t i wr => ∃ k : Nat, k ≤ n ∧ i = .int .i64 k ∧ wr = w ∧ t = .string (joinB blankB ((txs l).take k))) (fun _ i _ => n - (intOf i).toNat)
  case atStart => exact ⟨0, Nat.zero_le _, rfl, rfl, by rw [List.take_zero, joinB_zero]⟩
  case round =>
    obtain ⟨k, hk, rfl, rfl, rfl⟩ := hrel
    by_cases hkn : k < n
    · have hkl : k < l.length := by rw [HN.out]; exact hkn
      obtain ⟨b, o, rfl⟩ := H.out.form (by omega)
      obtain ⟨c0, c1, c2, c3, c4⟩ := H.out.at hkl
      have hkn' : (k : Int) < (n : Int) := by omega
      have hsz := HJ1.out k hkn
      have hg := HGD.out k hkn
      rw [hg] at hsz
      clear hkl
      by_cases hk0 : k = 0
      · subst hk0
        have HF := hidMk (HFS.out hkn)
        rw [hg] at HF
        have HE := hidMk (show joinB blankB ((txs l).take 0) = ⟨#[]⟩ by rw [List.take_zero, joinB_zero])
        have happ : ∀ x : ByteArray, (⟨#[]⟩ : ByteArray) ++ x = x := fun x => data_inj (by rw [ByteArray.data_append, Array.toList_append]; rfl)
        have HA := hidMk happ
        rw [HE.out] at hsz ⊢
        rw [Nat.zero_mul, Nat.add_zero] at c0 c1 c2 c3 c4
        clear happ hg
        generalize wdA l 0 = x at *
        go_wp2_with fail
        refine ⟨⟨1, by omega, by go_num, trivial, ?_⟩, by simp [intOf]; omega⟩
        rw [HF.out, HA.out]
      · have hk0' : (0 : Int) < (k : Int) := by omega
        have HF := hidMk (HST.out k hkn (by omega))
        rw [hg] at HF
        clear hg
        generalize wdA l k = x at *
        generalize joinB blankB ((txs l).take k) = j at *
        go_wp2_with fail
        refine ⟨⟨k + 1, by omega, by go_num, trivial, ?_⟩, by simp [intOf]; omega⟩
        rw [HF.out, HJB.out]
    · have e : (txs l).take k = txs l := List.take_of_length_le (by rw [HTL.out]; omega)
      rw [e]
      have hkn' : ¬ ((k : Int) < (n : Int)) := by omega
      go_wp2_with fail
      go_ret
      exact ⟨rfl, rfl⟩
end Go.Proofs.YtifddieoekbnfaaDoor
