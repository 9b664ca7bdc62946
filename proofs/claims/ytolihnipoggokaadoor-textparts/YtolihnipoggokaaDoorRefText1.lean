/- The definition's split, Words, Lines, Join (layer 3); small. -/
import Derived.Test.YtolihnipoggokaaDoorText9
import Derived.BigRegion
import Derived.Deep.RegionHeld
namespace Go.Proofs.YtolihnipoggokaaDoor
open Go.RowKit
set_option linter.unusedSimpArgs false
set_option linter.unusedVariables false

theorem strinfo : ∃ i0, Tryd.prog.info? 9 = some i0 ∧ i0.zero = some (.string ⟨#[]⟩) ∧ i0.size = 1 ∧ i0.bytes = 16 := by
  have h : (Tryd.prog.info? 9).map (fun i => (i.zero, i.size, i.bytes)) = some (some (.string ⟨#[]⟩), 1, 16) := by kernel_rfl
  exact info_parts h
/-- Texts in a row of the call's own. -/
def OwnS (w0 w : World) (v : Value) (l : List ByteArray) : Prop := w.ownsRow w0.heap.size 9 1 v l.length (l.map Value.string)
theorem wpList_pushS {ops : Array Oper} {rest : List Oper} {o : Oper} {a : Act} {Q : Exit → Act → World → Prop} (w : World) (hgd : o.guard = none) (s x : Operand)
    (ho : o.op = .call { callee := .builtin .append, args := #[s, x], argTypes := #[30, 30] })
    (w0 : World) (v : Value) (l : List ByteArray) (hs : a.eval s = v) (hown : OwnS w0 w v l) (hk : Kept w0 w) (g : Nat) (y : ByteArray) (hx : a.eval x = .slice (some ⟨g, 0, none⟩) 1 1) (hcell : w.cell? ⟨g, 0, none⟩ = some (.string y))
    (h47 : l.length ≤ 1000000)
    (h : ∀ v' w', OwnS w0 w' v' (l ++ [y]) → Kept w0 w' → wpList Tryd.prog ops Q rest (a.put o.dst v') w') : wpList Tryd.prog ops Q (o :: rest) a w := by
  obtain ⟨i0, hi0, hz0, hz1, hz2⟩ := strinfo
  have hc : ∀ (j : Nat) u, [Value.string y][j]? = some u → w.cell? ((⟨g, 0, none⟩ : Addr).add j) = some u := by
    intro j u hj
    cases j with
    | zero => simp at hj; subst hj; simpa [Addr.add] using hcell
    | succ j => simp at hj
  have h1 : ∀ u ∈ [Value.string y], u.oneCell' = true := by intro u hu; simp at hu; subst hu; rfl
  refine wpList_append_own w hgd s x 30 ho w0.heap.size 9 i0 (.string ⟨#[]⟩) 1 16 Tryd.underlying30 hi0 hz0 hz1 hz2 rfl (by decide) v _ _ hs hown ⟨g, 0, none⟩ 1 1 [.string y] hx rfl hc h1 (by unfold maxLen; omega) (by omega) hk.size ?_
  intro v' w' h2 h3 _
  exact h v' w' (by unfold OwnS; simpa using h2) (kept_grown hk hown h3)

def bstr (l : List UInt8) : ByteArray := ⟨l.toArray⟩
def bstrs (l : List (List UInt8)) : List ByteArray := l.map bstr
theorem bstr_data (l : List UInt8) : (bstr l).data.toList = l := by simp [bstr]
theorem data_bstr (s : ByteArray) : bstr s.data.toList = s := data_inj (bstr_data _)
theorem bstrs_len (l : List (List UInt8)) : (bstrs l).length = l.length := by simp [bstrs]
theorem bstrs_getD (l : List (List UInt8)) (k : Nat) (h : k < l.length) : (bstrs l).getD k ByteArray.empty = bstr (l.getD k []) := by
  unfold bstrs
  rw [List.getD_eq_getElem?_getD, List.getD_eq_getElem?_getD, List.getElem?_map, List.getElem?_eq_getElem h]
  rfl
theorem datas_bstrs (l : List (List UInt8)) : (bstrs l).map (·.data.toList) = l := by
  unfold bstrs
  rw [List.map_map]
  conv => rhs; rw [← List.map_id l]
  exact List.map_congr_left fun x _ => bstr_data x
theorem bstrs_datas (l : List ByteArray) : bstrs (l.map (·.data.toList)) = l := datas_inj (datas_bstrs _)
theorem spl_len_le (c : UInt8) (l : List UInt8) : (spl c l).length ≤ l.length + 1 := by
  have := tot_len (spl c l); rw [tot_spl] at this; exact this
theorem spl_get_len (c : UInt8) (l : List UInt8) (k : Nat) : ((spl c l).getD k []).length ≤ l.length := by
  by_cases h : k < (spl c l).length
  · have hm : (spl c l)[k] ∈ spl c l := List.getElem_mem h
    have ht := tot_spl c l
    have : ∀ (xs : List (List UInt8)) (p : List UInt8), p ∈ xs → p.length + 1 ≤ tot xs := by
      intro xs
      induction xs with
      | nil => intro p hp; cases hp
      | cons x r ih =>
        intro p hp
        unfold tot
        rcases List.mem_cons.1 hp with rfl | hp
        · simp
        · have := ih p hp; unfold tot at this; simp; omega
    have := this _ _ hm
    rw [List.getD_eq_getElem?_getD, List.getElem?_eq_getElem h]
    show (spl c l)[k].length ≤ l.length
    omega
  · rw [List.getD_eq_getElem?_getD, List.getElem?_eq_none (by omega)]; simp
theorem bat_data (s : ByteArray) (k : Nat) (h : k < s.size) : ∃ b : UInt8, s.data.toList.take (k + 1) = s.data.toList.take k ++ [b] ∧ bat s k = (b.toNat : Int) ∧ s.extract k (k + 1) = bstr [b] := by
  have h' : k < s.data.toList.length := by rw [Array.length_toList]; exact h
  refine ⟨s.data.toList[k], List.take_succ_eq_append_getElem h', bat_get s k h, ?_⟩
  refine data_inj ?_
  rw [Lib.extract_data, bstr_data, show k + 1 - k = 1 by omega, List.drop_eq_getElem_cons h']
  rfl

set_option maxHeartbeats 2000000 in
set_option maxRecDepth 100000 in
theorem ref_split (s : ByteArray) (c : UInt8) (hs : s.size ≤ 100000) (w : World) : Calls Tryd.prog 32 #[.string s, .int .u8 (c.toNat : Int)] w fun e w' => ∃ v, e = .returned v ∧ OwnS w w' v (bstrs (spl c s.data.toList)) ∧ Kept w w' := by
  have hsz : s.data.toList.length = s.size := by rw [Array.length_toList]; rfl
  have hcn := c.toNat_lt
  go_enter Tryd.func32, Tryd.ntmps32
  go_wp2_with fail
  go_loopw [5, 6] (fun v i wr => ∃ k : Nat, k ≤ s.size ∧ i = .int .i64 k ∧ Hid (OwnS w wr v (bstrs (spl c (s.data.toList.take k)))) ∧ Hid (Kept w wr)) (fun _ i _ => s.size - (intOf i).toNat)
  case atStart =>
    refine ⟨0, Nat.zero_le _, rfl, hidMk ?_, hidMk ((Kept.refl w).alloc _)⟩
    exact World.ownsRow_lit w #[.string ⟨#[]⟩] 1 (Nat.le_refl _) (by unfold maxLen; decide) rfl
  case round =>
    obtain ⟨k, hk, rfl, HO, HK⟩ := hrel
    by_cases hks : k < s.size
    · have i1 := run_at (P := Tryd.prog) Tryd.underlying9 s .i64 k hks
      obtain ⟨b, hb1, hb2, hb3⟩ := bat_data s k hks
      have hll := spl_len_le c (s.data.toList.take k)
      have hpos := spl_pos c (s.data.toList.take k)
      rw [List.length_take] at hll
      have HB1 := hidMk hb1
      have hks' : (k : Int) < (s.size : Int) := by omega
      rw [hb2] at i1
      by_cases hbc : b = c
      · subst hbc
        have HS := hidMk (show bstrs (spl b (s.data.toList.take (k + 1))) = bstrs (spl b (s.data.toList.take k)) ++ [⟨#[]⟩] by rw [hb1, spl_snoc_c]; simp [bstrs, bstr])
        have hlen : (bstrs (spl b (s.data.toList.take k))).length ≤ 1000000 := by rw [bstrs_len]; omega
        clear hb1 hb2 hb3 hll hpos
        generalize bstrs (spl b (s.data.toList.take k)) = l at *
        go_wp2_with (at_builtin; refine wpList_pushS _ rfl _ _ rfl w _ l rfl (HO.out.alloc _) (HK.out.alloc _) wr.heap.size ⟨#[]⟩ rfl ?c1 ?c2 ?_)
        case c1 => simp
        case c2 => exact hlen
        intro v' w' ho hk'
        have H4 := hidMk ho
        have H5 := hidMk hk'
        clear ho hk'
        go_wp2_with fail
        exact ⟨⟨k + 1, by omega, by go_num, hidMk (by rw [HS.out]; exact H4.out), H5⟩, by simp [intOf]; omega⟩
      · have hbe : (((b.toNat : Nat) : Int) == ((c.toNat : Nat) : Int)) = false := by
          rw [beq_eq_false_iff_ne]
          intro e
          exact hbc (UInt8.toNat_inj.1 (by omega))
        have hpl := spl_get_len c (s.data.toList.take k) ((spl c (s.data.toList.take k)).length - 1)
        rw [List.length_take] at hpl
        have HS := hidMk (show bstrs (spl c (s.data.toList.take (k + 1))) = (bstrs (spl c (s.data.toList.take k))).set ((bstrs (spl c (s.data.toList.take k))).length - 1) ((bstrs (spl c (s.data.toList.take k))).getD ((bstrs (spl c (s.data.toList.take k))).length - 1) ByteArray.empty ++ bstr [b]) by
          rw [hb1, spl_snoc hbc, bstrs_len, bstrs_getD _ _ (by omega)]
          unfold bstrs
          rw [List.map_set]
          congr 1)
        have hlast : ((bstrs (spl c (s.data.toList.take k))).getD ((bstrs (spl c (s.data.toList.take k))).length - 1) ByteArray.empty).size ≤ 100000 := by
          rw [bstrs_len, bstrs_getD _ _ (by omega)]
          have : (bstr ((spl c (s.data.toList.take k)).getD ((spl c (s.data.toList.take k)).length - 1) [])).size = ((spl c (s.data.toList.take k)).getD ((spl c (s.data.toList.take k)).length - 1) []).length := by
            unfold bstr; show (List.toArray _).size = _; simp
          omega
        have hlen : 0 < (bstrs (spl c (s.data.toList.take k))).length ∧ (bstrs (spl c (s.data.toList.take k))).length ≤ 1000000 := by rw [bstrs_len]; omega
        clear hb1 hb2 hll hpos hpl
        generalize bstrs (spl c (s.data.toList.take k)) = l at *
        obtain ⟨hl0, hl1⟩ := hlen
        obtain ⟨_, ⟨e0, hz⟩ | ⟨g, cap, cur, hv, hbg, hheap, hnc, hcm, hcs, htk⟩⟩ := HO.out
        · omega
        subst hv
        have hcell := World.ownsRow.cellAt HO.out (l.length - 1) (by omega)
        have hfr := World.ownsRow.frozenAt HO.out (l.length - 1)
        have HST := hidMk (fun u => World.ownsRow.stored HO.out (l.length - 1) u)
        have HX := hidMk (show l.getD (l.length - 1) ByteArray.empty = l.getD (l.length - 1) ByteArray.empty from rfl)
        rw [List.getElem?_map, List.getElem?_eq_getElem (by omega)] at hcell
        have hxe : l.getD (l.length - 1) ByteArray.empty = l[l.length - 1] := by rw [List.getD_eq_getElem?_getD, List.getElem?_eq_getElem (by omega)]; rfl
        simp only [Option.map_some] at hcell
        rw [← hxe] at hcell
        have hy1 : (bstr [b]).size ≤ 1 := Nat.le_refl _
        have HG := hidMk hbg
        clear hheap hcs htk hcm hxe hbg
        generalize bstr [b] = y at *
        generalize l.getD (l.length - 1) ByteArray.empty = x at *
        have HLEN := hidMk (show l.length = l.length from rfl)
        obtain ⟨n, hn⟩ : ∃ n, l.length = n := ⟨_, rfl⟩
        have HN := hidMk hn
        rw [hn] at hl0 hl1 hcell hfr
        rw [hn]
        have hsl : ∀ w, (Instr.slice 9 (.string s) (some (.int .i64 (k : Int))) (some (.int .i64 ((k : Int) + 1))) none).run Tryd.prog w = .ok (.string y) w := fun w => by
          rw [run_slice_string w 9 s .i64 .i64 (k : Int) ((k : Int) + 1) Tryd.underlying9 (by omega) (by omega) (by omega)]
          rw [show ((k : Int)).toNat = k by omega, show ((k : Int) + 1).toNat = k + 1 by omega, hb3]
        clear hn hb3
        go_wp2_with fail
        go_region
        go_wp2_with fail
        refine ⟨⟨k + 1, by omega, by go_num, hidMk ?_, hidMk (Kept.drew (HK.out.setCell (by exact HG.out) _))⟩, by simp [intOf]; omega⟩
        rw [HS.out]
        show World.ownsRow _ _ _ _ _ (l.set (l.length - 1) (x ++ y)).length ((l.set (l.length - 1) (x ++ y)).map Value.string)
        rw [List.length_set, List.map_set, HN.out]
        have h := (HST.out (.string (x ++ y))).1
        rw [HN.out] at h
        exact h
    · have ht : s.data.toList.take k = s.data.toList := List.take_of_length_le (by omega)
      rw [ht] at HO
      have hks' : ¬ ((k : Int) < (s.size : Int)) := by omega
      go_wp2_with fail
      go_ret
      exact ⟨_, rfl, HO.out, HK.out⟩

theorem ownS_sl {w0 w : World} {v : Value} {l : List ByteArray} (h : OwnS w0 w v l) (hm : l.length ≤ 1000000) : ∃ a c, v = .slice a l.length c ∧ Ss w a l.length l ∧ l.length ≤ c := by
  have h' := h
  obtain ⟨h0, ⟨rfl, hz⟩ | ⟨g, cap, cur, rfl, hb, hheap, hc, hcm, hsz, htk⟩⟩ := h
  · have : l = [] := List.eq_nil_of_length_eq_zero hz
    subst this
    exact ⟨none, 0, rfl, ⟨rfl, Nat.zero_le _, fun hp => absurd hp (by simp)⟩, Nat.le_refl _⟩
  · exact ⟨_, cap, rfl, own_ss rfl (by unfold maxLen; omega) h', hc⟩

set_option maxHeartbeats 1000000 in
theorem ref_Lines (s : ByteArray) (hs : s.size ≤ 100000) (w : World) : Calls Tryd.prog 21 #[.string s] w fun e w' => ∃ a c, e = .returned (.slice a (linesB s).length c) ∧ Ss w' a (linesB s).length (linesB s) ∧ Kept w w' := by
  have hsz : s.data.toList.length = s.size := by rw [Array.length_toList]; rfl
  have HT := hidMk (show bstrs (spl 10 s.data.toList) = partsB s by rw [← parts_tie, bstrs_datas])
  have HC := hidMk (ref_split s 10 hs w)
  rw [HT.out] at HC
  have hpl : (partsB s).length ≤ 100001 ∧ 1 ≤ (partsB s).length := by
    rw [← HT.out, bstrs_len]
    have h1 := spl_len_le 10 s.data.toList
    have h2 := spl_pos 10 s.data.toList
    omega
  have HL := hidMk (show linesB s = if (partsB s).getD ((partsB s).length - 1) ByteArray.empty = ByteArray.empty then (partsB s).take ((partsB s).length - 1) else partsB s from rfl)
  clear HT
  generalize linesB s = ll at *
  generalize partsB s = l at *
  obtain ⟨hb1, hb2⟩ := hpl
  go_enter Tryd.func21, Tryd.ntmps21
  go_wp2_with fail
  refine HC.out.mono ?_
  rintro e w1 ⟨v1, rfl, o1, k1⟩
  obtain ⟨a1, c1, rfl, s1, hc1⟩ := ownS_sl o1 (by omega)
  have S1 := hidMk s1
  have K1 := hidMk k1
  clear o1 k1
  obtain ⟨b, o, rfl, hb, hcs⟩ := s1.cells (by omega)
  have hcell := hcs (l.length - 1) (by omega)
  clear hcs s1
  generalize hln : l.length = n at *
  by_cases hem : l.getD (n - 1) ByteArray.empty = ByteArray.empty
  · have HLL := hidMk (show ll = l.take (n - 1) by rw [HL.out, if_pos hem])
    have HLN := hidMk (show ll.length = n - 1 by rw [HLL.out, List.length_take, hln]; omega)
    rw [hem] at hcell
    have HLEN := hidMk hln
    have h1 : ByteArray.empty.toList.isEmpty = true := empty_eq _ rfl
    clear hem hln
    go_wp2_with fail
    go_ret
    rw [HLN.out]
    refine ⟨_, _, rfl, ?_, K1.out⟩
    rw [HLL.out]
    exact ss_take S1.out (n - 1) (by omega)
  · have HLL := hidMk (show ll = l by rw [HL.out, if_neg hem])
    have HLN := hidMk (show ll.length = n by rw [HLL.out, hln])
    have h1 := empty_ne _ hem
    have HLEN := hidMk hln
    clear hem hln
    generalize l.getD (n - 1) ByteArray.empty = x at *
    go_wp2_with fail
    go_ret
    rw [HLN.out]
    refine ⟨_, _, rfl, ?_, K1.out⟩
    rw [HLL.out]
    exact S1.out

def nonE (l : List ByteArray) : List ByteArray := l.filter fun x => decide (x ≠ ByteArray.empty)
theorem nonE_take {l : List ByteArray} {k : Nat} (h : k < l.length) : nonE (l.take (k + 1)) = if l.getD k ByteArray.empty = ByteArray.empty then nonE (l.take k) else nonE (l.take k) ++ [l.getD k ByteArray.empty] := by
  unfold nonE
  have e : l.getD k ByteArray.empty = l[k] := by rw [List.getD_eq_getElem?_getD, List.getElem?_eq_getElem h]; rfl
  rw [List.take_succ_eq_append_getElem h, List.filter_append, e]
  by_cases hx : l[k] = ByteArray.empty
  · rw [if_pos hx]; simp [hx]
  · rw [if_neg hx]; simp [hx]
theorem nonE_len (l : List ByteArray) : (nonE l).length ≤ l.length := List.length_filter_le _ _
theorem words_nonE (s : ByteArray) : wordsB s = nonE (bstrs (spl 32 s.data.toList)) := by
  refine datas_inj ?_
  rw [words_tie]
  unfold wrd nonE bstrs
  rw [List.filter_map, List.map_map]
  have : (fun x => decide (x ≠ ByteArray.empty)) ∘ bstr = fun p => decide (p ≠ []) := by
    funext p
    show decide (bstr p ≠ ByteArray.empty) = decide (p ≠ [])
    congr 1
    refine propext ⟨fun h e => h (by subst e; rfl), fun h e => h (by have := congrArg (·.data.toList) e; simpa [bstr] using this)⟩
  rw [this]
  conv => lhs; rw [← List.map_id (List.filter _ _)]
  exact List.map_congr_left fun x _ => (bstr_data x).symm

set_option maxHeartbeats 1000000 in
theorem ref_Words (s : ByteArray) (hs : s.size ≤ 100000) (w : World) : Calls Tryd.prog 19 #[.string s] w fun e w' => ∃ a c, e = .returned (.slice a (wordsB s).length c) ∧ Ss w' a (wordsB s).length (wordsB s) ∧ Kept w w' := by
  have hsz : s.data.toList.length = s.size := by rw [Array.length_toList]; rfl
  have HC := hidMk (ref_split s 32 hs w)
  have HW := hidMk (words_nonE s)
  have hpl : (bstrs (spl 32 s.data.toList)).length ≤ 100001 := by
    rw [bstrs_len]
    have h1 := spl_len_le 32 s.data.toList
    omega
  generalize wordsB s = ll at *
  generalize bstrs (spl 32 s.data.toList) = l at *
  go_enter Tryd.func19, Tryd.ntmps19
  go_wp2_with fail
  refine HC.out.mono ?_
  rintro e w1 ⟨v1, rfl, o1, k1⟩
  obtain ⟨a1, c1, rfl, s1, hc1⟩ := ownS_sl o1 (by omega)
  have S1 := hidMk s1
  have K1 := hidMk k1
  clear o1 k1 s1
  generalize hln : l.length = n at *
  have HN := hidMk hln
  clear hln
  go_wp2_with fail
  go_loopw [3, 5] (fun v i wr => ∃ k : Nat, k ≤ n ∧ i = .int .i64 k ∧ Hid (OwnS w1 wr v (nonE (l.take k))) ∧ Hid (Kept w1 wr)) (fun _ i _ => n - (intOf i).toNat)
  case atStart => exact ⟨0, Nat.zero_le _, rfl, hidMk (World.ownsRow_nil _ _ _ _), hidMk (Kept.refl _)⟩
  case round =>
    obtain ⟨k, hk, rfl, HO, HK⟩ := hrel
    by_cases hkn : k < n
    · obtain ⟨b, o, rfl, hb, hcs⟩ := S1.out.cells (by omega)
      have hcell := (HK.out.cell (p := ⟨b, o + k, none⟩) hb).trans (hcs k hkn)
      have HT := hidMk (nonE_take (l := l) (k := k) (by rw [HN.out]; exact hkn))
      have hll : (nonE (l.take k)).length ≤ 1000000 := by have := nonE_len (l.take k); rw [List.length_take] at this; omega
      have hkn' : (k : Int) < (n : Int) := by omega
      have hbb : b < wr.heap.size := Nat.lt_of_lt_of_le hb HK.out.size
      clear hcs
      generalize l.getD k ByteArray.empty = x at *
      by_cases hx : x = ByteArray.empty
      · have h1 := empty_eq x hx
        have HT2 := hidMk (show nonE (l.take (k + 1)) = nonE (l.take k) by rw [HT.out, if_pos hx])
        clear hx
        go_wp2_with fail
        exact ⟨⟨k + 1, by omega, by go_num, hidMk (by rw [HT2.out]; exact HO.out), HK⟩, by simp [intOf]; omega⟩
      · have h1 := empty_ne x hx
        have HT2 := hidMk (show nonE (l.take (k + 1)) = nonE (l.take k) ++ [x] by rw [HT.out, if_neg hx])
        clear hx
        go_wp2_with (at_builtin; refine wpList_pushS _ rfl _ _ rfl w1 _ (nonE (l.take k)) rfl (HO.out.alloc _) (HK.out.alloc _) wr.heap.size x rfl ?c1 ?c2 ?_)
        case c1 => simp
        case c2 => exact hll
        intro v' w' ho hk'
        have H4 := hidMk ho
        have H5 := hidMk hk'
        clear ho hk'
        go_wp2_with fail
        exact ⟨⟨k + 1, by omega, by go_num, hidMk (by rw [HT2.out]; exact H4.out), H5⟩, by simp [intOf]; omega⟩
    · have ht : l.take k = l := List.take_of_length_le (by rw [HN.out]; omega)
      rw [ht, ← HW.out] at HO
      have hkn' : ¬ ((k : Int) < (n : Int)) := by omega
      have hwl : ll.length ≤ 1000000 := by have := nonE_len l; rw [← HW.out, HN.out] at this; omega
      obtain ⟨a3, c3, rfl, s3, hc3⟩ := ownS_sl HO.out hwl
      have S3 := hidMk s3
      clear s3
      go_wp2_with fail
      go_ret
      first | exact ⟨_, _, rfl, S3.out, K1.out.trans HK.out⟩ | exact ⟨_, ⟨_, rfl⟩, S3.out, K1.out.trans HK.out⟩
end Go.Proofs.YtolihnipoggokaaDoor
