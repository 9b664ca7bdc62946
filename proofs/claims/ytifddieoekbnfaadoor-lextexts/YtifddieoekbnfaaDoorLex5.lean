/- The definition's words of a line: parts, word, Words, Empty. -/
import Derived.Test.YtifddieoekbnfaaDoorLex3
import Derived.BigRegion
namespace Go.Proofs.YtifddieoekbnfaaDoor
open Go Go.RowKit Go.Maps
set_option linter.unusedSimpArgs false
set_option linter.unusedVariables false

theorem strinfo : ∃ i0, Tryd.prog.info? 9 = some i0 ∧ i0.zero = some (.string ⟨#[]⟩) ∧ i0.size = 1 ∧ i0.bytes = 16 := by
  have h : (Tryd.prog.info? 9).map (fun i => (i.zero, i.size, i.bytes)) = some (some (.string ⟨#[]⟩), 1, 16) := by kernel_rfl
  exact info_parts h
/-- Texts in a row of the call's own. -/
def OwnS (w0 w : World) (v : Value) (l : List ByteArray) : Prop := w.ownsRow w0.heap.size 9 1 v l.length (l.map Value.string)
theorem wpList_pushS {ops : Array Oper} {rest : List Oper} {o : Oper} {a : Act} {Q : Exit → Act → World → Prop} (w : World) (hgd : o.guard = none) (s x : Operand)
    (ho : o.op = .call { callee := .builtin .append, args := #[s, x], argTypes := #[30, 30] })
    (w0 : World) (v : Value) (l : List ByteArray) (hs : a.eval s = v) (hown : OwnS w0 w v l) (hk : Kept w0 w) (g : Nat) (y : ByteArray) (hx : a.eval x = .slice (some ⟨g, 0, none⟩) 1 1) (hcell : w.cell? ⟨g, 0, none⟩ = some (.string y))
    (h47 : l.length ≤ 1000000)
    (h : ∀ v' w', OwnS w0 w' v' (l ++ [y]) → Kept w0 w' → wpList Tryd.prog ops Q rest (a.put o.dst v') w') : wpList Tryd.prog ops Q (o :: rest) a w := by
  obtain ⟨i0, hi0, hz0, hz1, hz2⟩ := strinfo
  have hc : ∀ (j : Nat) u, [Value.string y][j]? = some u → w.cell? ((⟨g, 0, none⟩ : Addr).add j) = some u := by
    intro j u hj
    cases j with
    | zero => simp at hj; subst hj; simpa [Addr.add] using hcell
    | succ j => simp at hj
  have h1 : ∀ u ∈ [Value.string y], u.oneCell' = true := by intro u hu; simp at hu; subst hu; rfl
  refine wpList_append_own w hgd s x 30 ho w0.heap.size 9 i0 (.string ⟨#[]⟩) 1 16 Tryd.underlying30 hi0 hz0 hz1 hz2 rfl (by decide) v _ _ hs hown ⟨g, 0, none⟩ 1 1 [.string y] hx rfl hc h1 (by unfold maxLen; omega) (by omega) hk.size ?_
  intro v' w' h2 h3 _
  exact h v' w' (by unfold OwnS; simpa using h2) (kept_grown hk hown h3)
theorem spl_len_le (c : UInt8) (l : List UInt8) : (spl c l).length ≤ l.length + 1 := by
  have := tot_len (spl c l); rw [tot_spl] at this; exact this
theorem spl_get_len (c : UInt8) (l : List UInt8) (k : Nat) : ((spl c l).getD k []).length ≤ l.length := by
  by_cases h : k < (spl c l).length
  · have hm : (spl c l)[k] ∈ spl c l := List.getElem_mem h
    have ht := tot_spl c l
    have : ∀ (xs : List (List UInt8)) (p : List UInt8), p ∈ xs → p.length + 1 ≤ tot xs := by
      intro xs
      induction xs with
      | nil => intro p hp; cases hp
      | cons x r ih =>
        intro p hp
        unfold tot
        rcases List.mem_cons.1 hp with rfl | hp
        · simp
        · have := ih p hp; unfold tot at this; simp; omega
    have := this _ _ hm
    rw [List.getD_eq_getElem?_getD, List.getElem?_eq_getElem h]
    show (spl c l)[k].length ≤ l.length
    omega
  · rw [List.getD_eq_getElem?_getD, List.getElem?_eq_none (by omega)]; simp
theorem bat_data (s : ByteArray) (k : Nat) (h : k < s.size) : ∃ b : UInt8, s.data.toList.take (k + 1) = s.data.toList.take k ++ [b] ∧ bat s k = (b.toNat : Int) ∧ s.extract k (k + 1) = bstr [b] ∧ s.data.toList[k]? = some b := by
  have h' : k < s.data.toList.length := by rw [Array.length_toList]; exact h
  refine ⟨s.data.toList[k], List.take_succ_eq_append_getElem h', bat_get s k h, ?_, List.getElem?_eq_getElem h'⟩
  refine data_inj ?_
  rw [Lib.extract_data, bstr_data, show k + 1 - k = 1 by omega, List.drop_eq_getElem_cons h']
  rfl
theorem ownS_sl {w0 w : World} {v : Value} {l : List ByteArray} (h : OwnS w0 w v l) (hm : l.length ≤ 1000000) : ∃ a c, v = .slice a l.length c ∧ Ss w a l.length l ∧ l.length ≤ c ∧ ∀ ad, a = some ad → w0.heap.size ≤ ad.block := by
  have h' := h
  obtain ⟨h0, ⟨rfl, hz⟩ | ⟨g, cap, cur, rfl, hb, hheap, hc, hcm, hsz, htk⟩⟩ := h
  · have : l = [] := List.eq_nil_of_length_eq_zero hz
    subst this
    exact ⟨none, 0, rfl, ⟨rfl, Nat.zero_le _, fun hp => absurd hp (by simp)⟩, Nat.le_refl _, by simp⟩
  · exact ⟨_, cap, rfl, own_ss rfl (by unfold maxLen; omega) h', hc, fun ad e => by cases e; exact hb⟩
/-- What parts tells. -/
def ptL (s : ByteArray) : List ByteArray := if cellB s = true then slP s else []
theorem ptL_yes {s : ByteArray} (h : cellB s = true) : ptL s = slP s := by unfold ptL; rw [if_pos h]
theorem ptL_no {s : ByteArray} (h : cellB s = false) : ptL s = [] := by unfold ptL; rw [if_neg (by rw [h]; simp)]
def PartsP (s : ByteArray) (w : World) (e : Ending) (w' : World) : Prop := ∃ a c l, e = .returned (.slice a l.length c) ∧ l = ptL s ∧ Ss w' a l.length l ∧ (∀ ad, a = some ad → w.heap.size ≤ ad.block) ∧ Kept w w'
set_option maxHeartbeats 2000000 in
set_option maxRecDepth 100000 in
theorem ref28_parts (s : ByteArray) (hs : s.size ≤ 100000) (w : World) : Calls Tryd.prog 35 #[.string s] w (PartsP s w) := by
  have hsz : s.data.toList.length = s.size := by rw [Array.length_toList]; rfl
  have HCB := hidMk (show cellB s = (decide (1 < (slP s).length) && nmB (slP s)) from rfl)
  have HSL := hidMk (show slP s = bstrs (spl 47 s.data.toList) from slP_spl s)
  have HSB := hidMk (show ∀ x ∈ slP s, x.size ≤ 1000000 from fun x hx => by have := slP_size s x hx; omega)
  have HLE := hidMk (slP_le s)
  go_enter Tryd.func35, Tryd.ntmps35
  go_wp2_with fail
  go_loopw [3, 4] (fun v i wr => ∃ k : Nat, k ≤ s.size ∧ i = .int .i64 k ∧ Hid (OwnS w wr v (bstrs (spl 47 (s.data.toList.take k)))) ∧ Hid (Kept w wr)) (fun _ i _ => s.size - (intOf i).toNat)
  case atStart =>
    refine ⟨0, Nat.zero_le _, rfl, hidMk ?_, hidMk ((Kept.refl w).alloc _)⟩
    exact World.ownsRow_lit w #[.string ⟨#[]⟩] 1 (Nat.le_refl _) (by unfold maxLen; decide) rfl
  case round =>
    obtain ⟨k, hk, rfl, HO, HK⟩ := hrel
    by_cases hks : k < s.size
    · have i1 := run_at (P := Tryd.prog) Tryd.underlying9 s .i64 k hks
      obtain ⟨b, hb1, hb2, hb3, _⟩ := bat_data s k hks
      have hll := spl_len_le 47 (s.data.toList.take k)
      have hpos := spl_pos 47 (s.data.toList.take k)
      rw [List.length_take] at hll
      have HB1 := hidMk hb1
      have hks' : (k : Int) < (s.size : Int) := by omega
      rw [hb2] at i1
      by_cases hbc : b = 47
      · subst hbc
        have HS := hidMk (show bstrs (spl 47 (s.data.toList.take (k + 1))) = bstrs (spl 47 (s.data.toList.take k)) ++ [⟨#[]⟩] by rw [hb1, spl_snoc_c]; simp [bstrs, bstr])
        have hlen : (bstrs (spl 47 (s.data.toList.take k))).length ≤ 1000000 := by rw [bstrs_len]; omega
        clear hb1 hb2 hb3 hll hpos
        generalize bstrs (spl 47 (s.data.toList.take k)) = l at *
        go_wp2_with (at_builtin; refine wpList_pushS _ rfl _ _ rfl w _ l rfl (HO.out.alloc _) (HK.out.alloc _) wr.heap.size ⟨#[]⟩ rfl ?c1 ?c2 ?_)
        case c1 => simp
        case c2 => exact hlen
        intro v' w' ho hk'
        have H4 := hidMk ho
        have H5 := hidMk hk'
        clear ho hk'
        go_wp2_with fail
        exact ⟨⟨k + 1, by omega, by go_num, hidMk (by rw [HS.out]; exact H4.out), H5⟩, by simp [intOf]; omega⟩
      · have hbe : (((b.toNat : Nat) : Int) == 47) = false := by
          rw [beq_eq_false_iff_ne]
          intro e
          exact hbc (UInt8.toNat_inj.1 (by show b.toNat = 47; omega))
        have hpl := spl_get_len 47 (s.data.toList.take k) ((spl 47 (s.data.toList.take k)).length - 1)
        rw [List.length_take] at hpl
        have HS := hidMk (show bstrs (spl 47 (s.data.toList.take (k + 1))) = (bstrs (spl 47 (s.data.toList.take k))).set ((bstrs (spl 47 (s.data.toList.take k))).length - 1) ((bstrs (spl 47 (s.data.toList.take k))).getD ((bstrs (spl 47 (s.data.toList.take k))).length - 1) ByteArray.empty ++ bstr [b]) by
          rw [hb1, spl_snoc hbc, bstrs_len, bstrs_getD _ _ (by omega)]
          unfold bstrs
          rw [List.map_set]
          congr 1)
        have hlast : ((bstrs (spl 47 (s.data.toList.take k))).getD ((bstrs (spl 47 (s.data.toList.take k))).length - 1) ByteArray.empty).size ≤ 100000 := by
          rw [bstrs_len, bstrs_getD _ _ (by omega), bstr_size]
          omega
        have hlen : 0 < (bstrs (spl 47 (s.data.toList.take k))).length ∧ (bstrs (spl 47 (s.data.toList.take k))).length ≤ 1000000 := by rw [bstrs_len]; omega
        clear hb1 hb2 hll hpos hpl
        generalize bstrs (spl 47 (s.data.toList.take k)) = l at *
        obtain ⟨hl0, hl1⟩ := hlen
        obtain ⟨_, ⟨e0, hz⟩ | ⟨g, cap, cur, hv, hbg, hheap, hnc, hcm, hcs, htk⟩⟩ := HO.out
        · omega
        subst hv
        have hcell := World.ownsRow.cellAt HO.out (l.length - 1) (by omega)
        have hfr := World.ownsRow.frozenAt HO.out (l.length - 1)
        have HST := hidMk (fun u => World.ownsRow.stored HO.out (l.length - 1) u)
        have HX := hidMk (show l.getD (l.length - 1) ByteArray.empty = l.getD (l.length - 1) ByteArray.empty from rfl)
        rw [List.getElem?_map, List.getElem?_eq_getElem (by omega)] at hcell
        have hxe : l.getD (l.length - 1) ByteArray.empty = l[l.length - 1] := by rw [List.getD_eq_getElem?_getD, List.getElem?_eq_getElem (by omega)]; rfl
        simp only [Option.map_some] at hcell
        rw [← hxe] at hcell
        have hy1 : (bstr [b]).size ≤ 1 := Nat.le_refl _
        have HG := hidMk hbg
        clear hheap hcs htk hcm hxe hbg
        generalize bstr [b] = y at *
        generalize l.getD (l.length - 1) ByteArray.empty = x at *
        have HLEN := hidMk (show l.length = l.length from rfl)
        obtain ⟨n, hn⟩ : ∃ n, l.length = n := ⟨_, rfl⟩
        have HN := hidMk hn
        rw [hn] at hl0 hl1 hcell hfr
        rw [hn]
        have hsl : ∀ w, (Instr.slice 9 (.string s) (some (.int .i64 (k : Int))) (some (.int .i64 ((k : Int) + 1))) none).run Tryd.prog w = .ok (.string y) w := fun w => by
          rw [run_slice_string w 9 s .i64 .i64 (k : Int) ((k : Int) + 1) Tryd.underlying9 (by omega) (by omega) (by omega)]
          rw [show ((k : Int)).toNat = k by omega, show ((k : Int) + 1).toNat = k + 1 by omega, hb3]
        clear hn hb3
        go_wp2_with fail
        go_region
        go_wp2_with fail
        refine ⟨⟨k + 1, by omega, by go_num, hidMk ?_, hidMk (Kept.drew (HK.out.setCell (by exact HG.out) _))⟩, by simp [intOf]; omega⟩
        rw [HS.out]
        show World.ownsRow _ _ _ _ _ (l.set (l.length - 1) (x ++ y)).length ((l.set (l.length - 1) (x ++ y)).map Value.string)
        rw [List.length_set, List.map_set, HN.out]
        have h := (HST.out (.string (x ++ y))).1
        rw [HN.out] at h
        exact h
    · have ht : s.data.toList.take k = s.data.toList := List.take_of_length_le (by omega)
      rw [ht, ← HSL.out] at HO
      have hks' : ¬ ((k : Int) < (s.size : Int)) := by omega
      clear hsz HSL ht
      obtain ⟨l, hls⟩ : ∃ l, slP s = l := ⟨_, rfl⟩
      have HLS := hidMk hls
      rw [hls] at HO HSB HLE HCB
      clear hls
      have hl2 : l.length ≤ 100001 := by have := HLE.out; omega
      obtain ⟨a, c, rfl, hss, hc, hab⟩ := ownS_sl HO.out (by omega)
      have SS := hidMk hss
      have HAB := hidMk hab
      clear hss hab
      obtain ⟨n, hn⟩ : ∃ n, l.length = n := ⟨_, rfl⟩
      have HN := hidMk hn
      rw [hn] at SS HCB hl2 hc ⊢
      clear hn
      by_cases h2 : n < 2
      · have h2' : (n : Int) < 2 := by omega
        have HCF := hidMk (show cellB s = false by rw [HCB.out, decide_eq_false (by omega), Bool.false_and])
        go_wp2_with fail
        go_ret
        exact ⟨none, 0, [], rfl, (ptL_no HCF.out).symm, ss_nil _ _, by simp, HK.out⟩
      · have h2' : (2 : Int) ≤ (n : Int) := by omega
        go_wp2_with fail
        go_loopw [5] (fun i wx => ∃ j : Nat, j ≤ n ∧ i = .int .i64 j ∧ wx = wr ∧ Hid (∀ q, q < j → nameB (l.getD q ByteArray.empty) = true)) (fun i _ => n - (intOf i).toNat)
        case atStart => exact ⟨0, Nat.zero_le _, rfl, rfl, hidMk fun q hq => absurd hq (by omega)⟩
        case round =>
          obtain ⟨j, hj, rfl, rfl, HJ⟩ := hrel
          by_cases hjn : j < n
          · obtain ⟨b, o, rfl, hbb, hcs⟩ := SS.out.cells (by omega)
            have hcell := hcs j hjn
            clear hcs
            have hcn := ref_Name (l.getD j ByteArray.empty) (by have := getD_size (k := j) HSB.out; omega)
            have hjn' : (j : Int) < (n : Int) := by omega
            generalize hx : l.getD j ByteArray.empty = x at hcell hcn
            have H1 := hidMk hx
            clear hx
            cases h0 : nameB x with
            | true =>
              rw [h0] at hcn
              have H0 := hidMk h0
              have HCN := hidMk hcn
              clear h0 hcn
              go_wp2_with fail
              refine (HCN.out _).mono ?_
              rintro e w1 ⟨rfl, rfl⟩
              go_wp2_with fail
              exact ⟨⟨j + 1, by omega, by go_num, trivial, hidMk fun q hq => by
                by_cases e : q = j
                · subst e; rw [H1.out]; exact H0.out
                · exact HJ.out q (by omega)⟩, by simp [intOf]; omega⟩
            | false =>
              rw [h0] at hcn
              have HCF := hidMk (show cellB s = false by rw [HCB.out, all_not (k := j) (by rw [HN.out]; exact hjn) (by rw [H1.out]; exact h0), Bool.and_false])
              have HCN := hidMk hcn
              clear h0 hcn
              go_wp2_with fail
              refine (HCN.out _).mono ?_
              rintro e w1 ⟨rfl, rfl⟩
              go_wp2_with fail
              go_ret
              exact ⟨none, 0, [], rfl, (ptL_no HCF.out).symm, ss_nil _ _, by simp, HK.out⟩
          · have hjn' : ¬ ((j : Int) < (n : Int)) := by omega
            have HCT := hidMk (show cellB s = true by rw [HCB.out, decide_eq_true (by omega), Bool.true_and]; exact all_upto (fun q hq => HJ.out q (by have := HN.out; omega)))
            go_wp2_with fail
            go_ret
            exact ⟨a, c, l, by rw [HN.out]; rfl, (HLS.out.symm.trans (ptL_yes HCT.out).symm), by rw [HN.out]; exact SS.out, HAB.out, HK.out⟩
set_option maxHeartbeats 1000000 in
set_option maxRecDepth 100000 in
theorem ref28_word (s : ByteArray) (p : Int) (hs : s.size ≤ 100000) (w : World) : Calls Tryd.prog 19 #[.string s, .int .i64 p] w (ReadP s p w) := by
  obtain ⟨W1, hW1⟩ : ∃ V, V = w.alloc (.cells #[.int .i64 0, .string ⟨#[]⟩, .int .i64 0, .int .i64 0, .slice none 0 0] 32) := ⟨_, rfl⟩
  have k1 : Kept w W1 := by rw [hW1]; exact (Kept.refl w).alloc _
  have HK1 := hidMk k1
  have HNW := hidMk (show NW W1 w.heap.size by rw [hW1]; exact nw_new w _ rfl)
  have HR := hidMk (ref_ReadB s (by omega) W1)
  have HN := hidMk (ref_Name s (by omega))
  have HPT := hidMk (ref28_parts s hs)
  clear k1
  obtain ⟨c0, c1, c2, c3, c4, fz⟩ := HNW.out
  have f0 := fz 0 (by omega)
  have f1 := fz 1 (by omega)
  have f2 := fz 2 (by omega)
  have f3 := fz 3 (by omega)
  have f4 := fz 4 (by omega)
  clear fz
  by_cases h1 : isNum s
  · have HE := hidMk (show rdK s = 2 ∧ rdE s = 0 ∧ rdP s = [] by unfold rdK rdE rdP; rw [if_pos h1, if_pos h1, if_pos h1]; exact ⟨rfl, rfl, rfl⟩)
    rw [HE.out.2.1] at HR
    obtain ⟨z, hz⟩ : ∃ z, rdN s = z := ⟨_, rfl⟩
    have HZ := hidMk hz
    rw [hz] at HR
    clear h1 hz
    go_enter Tryd.func19, Tryd.ntmps19
    go_wp2_with fail
    rw [← hW1]
    refine HR.out.mono ?_
    rintro e w2 ⟨rfl, hw2⟩
    rw [hw2]
    clear hW1 hw2 w2
    go_wp2_with fail
    refine word_ret wload_r rfl w.heap.size rfl rfl (HNW.out.set _ _ _ _ _) ?_
    refine ⟨⟨2, s, p, z, none, 0, 0, []⟩, rfl, ?_, ss_nil _ _, fun h => absurd h (by simp), set5_kept HK1.out (Nat.le_refl _) _ _ _ _ _⟩
    unfold cor; rw [HE.out.1, HZ.out, HE.out.2.2]
  have HRE := hidMk (show rdN s = 0 ∧ rdE s = 6 by unfold rdN rdE; rw [if_neg h1, if_neg h1]; exact ⟨rfl, rfl⟩)
  rw [HRE.out.1, HRE.out.2] at HR
  by_cases h2 : nameB s = true
  · have HE := hidMk (show rdK s = 1 ∧ rdP s = [] by unfold rdK rdP; rw [if_neg h1, if_neg h1, if_pos h2, if_pos h2]; exact ⟨rfl, rfl⟩)
    rw [h2] at HN
    clear h1 h2
    go_enter Tryd.func19, Tryd.ntmps19
    go_wp2_with fail
    rw [← hW1]
    refine HR.out.mono ?_
    rintro e w2 ⟨rfl, hw2⟩
    rw [hw2]
    clear hW1 hw2 w2
    go_wp2_with fail
    refine (HN.out _).mono ?_
    rintro e w3 ⟨rfl, hw3⟩
    rw [hw3]
    clear hw3 w3
    go_wp2_with fail
    refine word_ret wload_r rfl w.heap.size rfl rfl (HNW.out.set _ _ _ _ _) ?_
    refine ⟨⟨1, s, p, 0, none, 0, 0, []⟩, rfl, ?_, ss_nil _ _, fun h => absurd h (by simp), set5_kept HK1.out (Nat.le_refl _) _ _ _ _ _⟩
    unfold cor; rw [HE.out.1, HRE.out.1, HE.out.2]
  have HN0 : nameB s = false := by simpa using h2
  rw [HN0] at HN
  clear c0 c1 c2 c3 c4 f0 f1 f2 f3 f4
  cases h3 : cellB s with
  | true =>
    have HK : Hid (rdK s = 3 ∧ rdP s = slP s) := hidMk (by unfold rdK rdP; rw [if_neg h1, if_neg h2, if_neg h1, if_neg h2, if_pos h3, if_pos h3]; exact ⟨rfl, rfl⟩)
    have HLT := hidMk (show 1 < (slP s).length by unfold cellB at h3; simp only [Bool.and_eq_true, decide_eq_true_eq] at h3; exact h3.1)
    have HPL := hidMk (show ptL s = slP s from ptL_yes h3)
    clear h1 h2 h3 HN0
    go_enter Tryd.func19, Tryd.ntmps19
    go_wp2_with fail
    rw [← hW1]
    refine HR.out.mono ?_
    rintro e w2 ⟨rfl, hw2⟩
    rw [hw2]
    have HS1 := hidMk (show W1.heap.size = w.heap.size + 1 by rw [hW1]; simp)
    clear hW1 hw2 w2
    go_wp2_with fail
    refine (HN.out _).mono ?_
    rintro e w3 ⟨rfl, hw3⟩
    rw [hw3]
    clear hw3 w3
    go_wp2_with fail
    refine (HPT.out _).mono ?_
    rintro e w4 ⟨a, c, l, rfl, hl, s4, ab4, k4⟩
    rw [HPL.out] at hl
    have S4 := hidMk s4
    have AB4 := hidMk ab4
    have K4 := hidMk k4
    have N4 := hidMk (HNW.out.kept k4)
    have hpos : (0 : Int) < (l.length : Int) := by have := HLT.out; rw [← hl] at this; omega
    have HL := hidMk hl
    clear s4 ab4 k4 hl
    obtain ⟨n, hn⟩ : ∃ n, l.length = n := ⟨_, rfl⟩
    rw [hn] at S4 hpos ⊢
    clear hn
    obtain ⟨c0, c1, c2, c3, c4, fz⟩ := N4.out
    have f0 := fz 0 (by omega)
    have f1 := fz 1 (by omega)
    have f2 := fz 2 (by omega)
    have f3 := fz 3 (by omega)
    have f4 := fz 4 (by omega)
    clear fz
    go_wp2_with fail
    refine word_ret wload_r rfl w.heap.size rfl rfl (N4.out.set _ _ _ _ _) ?_
    refine ⟨⟨3, s, p, 0, a, n, c, l⟩, rfl, ?_, ?_, ?_, set5_kept (HK1.out.trans K4.out) (Nat.le_refl _) _ _ _ _ _⟩
    · unfold cor; rw [HK.out.1, HRE.out.1, HK.out.2, HL.out]
    · exact S4.out.chg (set5_chg _ w.heap.size _ _ _ _ _) (fun _ ad e => by have h1 := AB4.out ad e; have h2 := HS1.out; show ¬ ad.block = w.heap.size; omega)
    · intro _ ad e; have h1 := AB4.out ad e; have h2 := HS1.out; omega
  | false =>
    have HK : Hid (rdK s = 0 ∧ rdP s = []) := hidMk (by unfold rdK rdP; rw [if_neg h1, if_neg h2, if_neg h1, if_neg h2, if_neg (by rw [h3]; simp), if_neg (by rw [h3]; simp)]; exact ⟨rfl, rfl⟩)
    have HPL := hidMk (show ptL s = [] from ptL_no h3)
    clear h1 h2 h3 HN0
    go_enter Tryd.func19, Tryd.ntmps19
    go_wp2_with fail
    rw [← hW1]
    refine HR.out.mono ?_
    rintro e w2 ⟨rfl, hw2⟩
    rw [hw2]
    clear hW1 hw2 w2
    go_wp2_with fail
    refine (HN.out _).mono ?_
    rintro e w3 ⟨rfl, hw3⟩
    rw [hw3]
    clear hw3 w3
    go_wp2_with fail
    refine (HPT.out _).mono ?_
    rintro e w4 ⟨a, c, l, rfl, hl, s4, ab4, k4⟩
    rw [HPL.out] at hl
    subst hl
    have K4 := hidMk k4
    have N4 := hidMk (HNW.out.kept k4)
    clear s4 ab4 k4
    obtain ⟨c0, c1, c2, c3, c4, fz⟩ := N4.out
    have f0 := fz 0 (by omega)
    have f1 := fz 1 (by omega)
    have f2 := fz 2 (by omega)
    have f3 := fz 3 (by omega)
    have f4 := fz 4 (by omega)
    clear fz
    rw [List.length_nil]
    go_wp2_with fail
    refine word_ret wload_r rfl w.heap.size rfl rfl (N4.out.set _ _ _ _ _) ?_
    refine ⟨⟨0, s, p, 0, none, 0, 0, []⟩, rfl, ?_, ss_nil _ _, fun h => absurd h (by simp), set5_kept (HK1.out.trans K4.out) (Nat.le_refl _) _ _ _ _ _⟩
    unfold cor; rw [HK.out.1, HRE.out.1, HK.out.2]
end Go.Proofs.YtifddieoekbnfaaDoor
