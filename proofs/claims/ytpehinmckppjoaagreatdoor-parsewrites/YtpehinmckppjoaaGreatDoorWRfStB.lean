/- The definition's words of a line: parts, word, Words, Empty. · The definition's words of a line: Words, Empty. · A range over a function whose body may return: the law for the caller; regions that draw, inside a round. -/
import Derived.Test.YtpehinmckppjoaaGreatDoorWLex3
import Derived.BigRegion
import Derived.RangeFuncNested
import Derived.RangeFuncBound
import Derived.RangeFuncCalls
import Derived.RangeFuncLeaves
import Derived.Shelf.Abstract
import Derived.Shelf.RegionOpen
import Derived.WalkKit
import Derived.OwnWalkIn
import Derived.TacticsInMore
import Derived.LoopNIn
import Derived.LoopIn
import Derived.OrdersHeld
import Derived.Deep.RegionHeld
import Derived.Test.YtpehinmckppjoaaGreatDoorChecked
namespace Go.Proofs.YtpehinmckppjoaaGreatDoor
open Go Go.RowKit Go.Maps
set_option linter.unusedSimpArgs false
set_option linter.unusedVariables false

theorem strinfoX : ∃ i0, Tryz.prog.info? 9 = some i0 ∧ i0.zero = some (.string ⟨#[]⟩) ∧ i0.size = 1 ∧ i0.bytes = 16 := by
  have h : (Tryz.prog.info? 9).map (fun i => (i.zero, i.size, i.bytes)) = some (some (.string ⟨#[]⟩), 1, 16) := by kernel_rfl
  exact info_parts h
/-- Texts in a row of the call's own. -/
def OwnSX (w0 w : World) (v : Value) (l : List ByteArray) : Prop := w.ownsRow w0.heap.size 9 1 v l.length (l.map Value.string)
theorem wpList_pushSX {ops : Array Oper} {rest : List Oper} {o : Oper} {a : Act} {Q : Exit → Act → World → Prop} (w : World) (hgd : o.guard = none) (s x : Operand)
    (ho : o.op = .call { callee := .builtin .append, args := #[s, x], argTypes := #[23, 23] })
    (w0 : World) (v : Value) (l : List ByteArray) (hs : a.eval s = v) (hown : OwnSX w0 w v l) (hk : Kept w0 w) (g : Nat) (y : ByteArray) (hx : a.eval x = .slice (some ⟨g, 0, none⟩) 1 1) (hcell : w.cell? ⟨g, 0, none⟩ = some (.string y))
    (h47 : l.length ≤ 1000000)
    (h : ∀ v' w', OwnSX w0 w' v' (l ++ [y]) → Kept w0 w' → wpList Tryz.prog ops Q rest (a.put o.dst v') w') : wpList Tryz.prog ops Q (o :: rest) a w := by
  obtain ⟨i0, hi0, hz0, hz1, hz2⟩ := strinfoX
  have hc : ∀ (j : Nat) u, [Value.string y][j]? = some u → w.cell? ((⟨g, 0, none⟩ : Addr).add j) = some u := by
    intro j u hj
    cases j with
    | zero => simp at hj; subst hj; simpa [Addr.add] using hcell
    | succ j => simp at hj
  have h1 : ∀ u ∈ [Value.string y], u.oneCell' = true := by intro u hu; simp at hu; subst hu; rfl
  refine wpList_append_own w hgd s x 23 ho w0.heap.size 9 i0 (.string ⟨#[]⟩) 1 16 Tryz.underlying23 hi0 hz0 hz1 hz2 rfl (by decide) v _ _ hs hown ⟨g, 0, none⟩ 1 1 [.string y] hx rfl hc h1 (by unfold maxLen; omega) (by omega) hk.size ?_
  intro v' w' h2 h3 _
  exact h v' w' (by unfold OwnSX; simpa using h2) (kept_grown hk hown h3)
theorem spl_len_le (c : UInt8) (l : List UInt8) : (spl c l).length ≤ l.length + 1 := by
  have := tot_len (spl c l); rw [tot_spl] at this; exact this
theorem spl_get_len (c : UInt8) (l : List UInt8) (k : Nat) : ((spl c l).getD k []).length ≤ l.length := by
  by_cases h : k < (spl c l).length
  · have hm : (spl c l)[k] ∈ spl c l := List.getElem_mem h
    have ht := tot_spl c l
    have : ∀ (xs : List (List UInt8)) (p : List UInt8), p ∈ xs → p.length + 1 ≤ tot xs := by
      intro xs
      induction xs with
      | nil => intro p hp; cases hp
      | cons x r ih =>
        intro p hp
        unfold tot
        rcases List.mem_cons.1 hp with rfl | hp
        · simp
        · have := ih p hp; unfold tot at this; simp; omega
    have := this _ _ hm
    rw [List.getD_eq_getElem?_getD, List.getElem?_eq_getElem h]
    show (spl c l)[k].length ≤ l.length
    omega
  · rw [List.getD_eq_getElem?_getD, List.getElem?_eq_none (by omega)]; simp
theorem bat_data (s : ByteArray) (k : Nat) (h : k < s.size) : ∃ b : UInt8, s.data.toList.take (k + 1) = s.data.toList.take k ++ [b] ∧ bat s k = (b.toNat : Int) ∧ s.extract k (k + 1) = bstr [b] ∧ s.data.toList[k]? = some b := by
  have h' : k < s.data.toList.length := by rw [Array.length_toList]; exact h
  refine ⟨s.data.toList[k], List.take_succ_eq_append_getElem h', bat_get s k h, ?_, List.getElem?_eq_getElem h'⟩
  refine data_inj ?_
  rw [Lib.extract_data, bstr_data, show k + 1 - k = 1 by omega, List.drop_eq_getElem_cons h']
  rfl
theorem ownS_sl {w0 w : World} {v : Value} {l : List ByteArray} (h : OwnSX w0 w v l) (hm : l.length ≤ 1000000) : ∃ a c, v = .slice a l.length c ∧ Ss w a l.length l ∧ l.length ≤ c ∧ ∀ ad, a = some ad → w0.heap.size ≤ ad.block := by
  have h' := h
  obtain ⟨h0, ⟨rfl, hz⟩ | ⟨g, cap, cur, rfl, hb, hheap, hc, hcm, hsz, htk⟩⟩ := h
  · have : l = [] := List.eq_nil_of_length_eq_zero hz
    subst this
    exact ⟨none, 0, rfl, ⟨rfl, Nat.zero_le _, fun hp => absurd hp (by simp)⟩, Nat.le_refl _, by simp⟩
  · exact ⟨_, cap, rfl, own_ssX rfl (by unfold maxLen; omega) h', hc, fun ad e => by cases e; exact hb⟩
/-- What parts tells. -/
def ptL (s : ByteArray) : List ByteArray := if cellB s = true then slP s else []
theorem ptL_yes {s : ByteArray} (h : cellB s = true) : ptL s = slP s := by unfold ptL; rw [if_pos h]
theorem ptL_no {s : ByteArray} (h : cellB s = false) : ptL s = [] := by unfold ptL; rw [if_neg (by rw [h]; simp)]
def PartsP (s : ByteArray) (w : World) (e : Ending) (w' : World) : Prop := ∃ a c l, e = .returned (.slice a l.length c) ∧ l = ptL s ∧ Ss w' a l.length l ∧ (∀ ad, a = some ad → w.heap.size ≤ ad.block) ∧ Kept w w' ∧ l.length ≤ c
set_option maxHeartbeats 2000000 in
set_option maxRecDepth 100000 in
theorem ref28_parts (s : ByteArray) (hs : s.size ≤ 100000) (w : World) : Calls Tryz.prog 62 #[.string s] w (PartsP s w) := by
  have hsz : s.data.toList.length = s.size := by rw [Array.length_toList]; rfl
  have HCB := hidMk (show cellB s = (decide (1 < (slP s).length) && nmB (slP s)) from rfl)
  have HSL := hidMk (show slP s = bstrs (spl 47 s.data.toList) from slP_spl s)
  have HSB := hidMk (show ∀ x ∈ slP s, x.size ≤ 1000000 from fun x hx => by have := slP_size s x hx; omega)
  have HLE := hidMk (slP_le s)
  go_enter Tryz.func62, Tryz.ntmps62
  go_wp2_with fail
  go_loopw [3, 4] (fun v i wr => ∃ k : Nat, k ≤ s.size ∧ i = .int .i64 k ∧ Hid (OwnSX w wr v (bstrs (spl 47 (s.data.toList.take k)))) ∧ Hid (Kept w wr)) (fun _ i _ => s.size - (intOf i).toNat)
  case atStart =>
    refine ⟨0, Nat.zero_le _, rfl, hidMk ?_, hidMk ((Kept.refl w).alloc _)⟩
    exact World.ownsRow_lit w #[.string ⟨#[]⟩] 1 (Nat.le_refl _) (by unfold maxLen; decide) rfl
  case round =>
    obtain ⟨k, hk, rfl, HO, HK⟩ := hrel
    by_cases hks : k < s.size
    · have i1 := run_at (P := Tryz.prog) Tryz.underlying9 s .i64 k hks
      obtain ⟨b, hb1, hb2, hb3, _⟩ := bat_data s k hks
      have hll := spl_len_le 47 (s.data.toList.take k)
      have hpos := spl_pos 47 (s.data.toList.take k)
      rw [List.length_take] at hll
      have HB1 := hidMk hb1
      have hks' : (k : Int) < (s.size : Int) := by omega
      rw [hb2] at i1
      by_cases hbc : b = 47
      · subst hbc
        have HS := hidMk (show bstrs (spl 47 (s.data.toList.take (k + 1))) = bstrs (spl 47 (s.data.toList.take k)) ++ [⟨#[]⟩] by rw [hb1, spl_snoc_c]; simp [bstrs, bstr])
        have hlen : (bstrs (spl 47 (s.data.toList.take k))).length ≤ 1000000 := by rw [bstrs_len]; omega
        clear hb1 hb2 hb3 hll hpos
        generalize bstrs (spl 47 (s.data.toList.take k)) = l at *
        go_wp2_with (at_builtin; refine wpList_pushSX _ rfl _ _ rfl w _ l rfl (HO.out.alloc _) (HK.out.alloc _) wr.heap.size ⟨#[]⟩ rfl ?c1 ?c2 ?_)
        case c1 => simp
        case c2 => exact hlen
        intro v' w' ho hk'
        have H4 := hidMk ho
        have H5 := hidMk hk'
        clear ho hk'
        go_wp2_with fail
        exact ⟨⟨k + 1, by omega, by go_num, hidMk (by rw [HS.out]; exact H4.out), H5⟩, by simp [intOf]; omega⟩
      · have hbe : (((b.toNat : Nat) : Int) == 47) = false := by
          rw [beq_eq_false_iff_ne]
          intro e
          exact hbc (UInt8.toNat_inj.1 (by show b.toNat = 47; omega))
        have hpl := spl_get_len 47 (s.data.toList.take k) ((spl 47 (s.data.toList.take k)).length - 1)
        rw [List.length_take] at hpl
        have HS := hidMk (show bstrs (spl 47 (s.data.toList.take (k + 1))) = (bstrs (spl 47 (s.data.toList.take k))).set ((bstrs (spl 47 (s.data.toList.take k))).length - 1) ((bstrs (spl 47 (s.data.toList.take k))).getD ((bstrs (spl 47 (s.data.toList.take k))).length - 1) ByteArray.empty ++ bstr [b]) by
          rw [hb1, spl_snoc hbc, bstrs_len, bstrs_getD _ _ (by omega)]
          unfold bstrs
          rw [List.map_set]
          congr 1)
        have hlast : ((bstrs (spl 47 (s.data.toList.take k))).getD ((bstrs (spl 47 (s.data.toList.take k))).length - 1) ByteArray.empty).size ≤ 100000 := by
          rw [bstrs_len, bstrs_getD _ _ (by omega), bstr_size]
          omega
        have hlen : 0 < (bstrs (spl 47 (s.data.toList.take k))).length ∧ (bstrs (spl 47 (s.data.toList.take k))).length ≤ 1000000 := by rw [bstrs_len]; omega
        clear hb1 hb2 hll hpos hpl
        generalize bstrs (spl 47 (s.data.toList.take k)) = l at *
        obtain ⟨hl0, hl1⟩ := hlen
        obtain ⟨_, ⟨e0, hz⟩ | ⟨g, cap, cur, hv, hbg, hheap, hnc, hcm, hcs, htk⟩⟩ := HO.out
        · omega
        subst hv
        have hcell := World.ownsRow.cellAt HO.out (l.length - 1) (by omega)
        have hfr := World.ownsRow.frozenAt HO.out (l.length - 1)
        have HST := hidMk (fun u => World.ownsRow.stored HO.out (l.length - 1) u)
        have HX := hidMk (show l.getD (l.length - 1) ByteArray.empty = l.getD (l.length - 1) ByteArray.empty from rfl)
        rw [List.getElem?_map, List.getElem?_eq_getElem (by omega)] at hcell
        have hxe : l.getD (l.length - 1) ByteArray.empty = l[l.length - 1] := by rw [List.getD_eq_getElem?_getD, List.getElem?_eq_getElem (by omega)]; rfl
        simp only [Option.map_some] at hcell
        rw [← hxe] at hcell
        have hy1 : (bstr [b]).size ≤ 1 := Nat.le_refl _
        have HG := hidMk hbg
        clear hheap hcs htk hcm hxe hbg
        generalize bstr [b] = y at *
        generalize l.getD (l.length - 1) ByteArray.empty = x at *
        have HLEN := hidMk (show l.length = l.length from rfl)
        obtain ⟨n, hn⟩ : ∃ n, l.length = n := ⟨_, rfl⟩
        have HN := hidMk hn
        rw [hn] at hl0 hl1 hcell hfr
        rw [hn]
        have hsl : ∀ w, (Instr.slice 9 (.string s) (some (.int .i64 (k : Int))) (some (.int .i64 ((k : Int) + 1))) none).run Tryz.prog w = .ok (.string y) w := fun w => by
          rw [run_slice_string w 9 s .i64 .i64 (k : Int) ((k : Int) + 1) Tryz.underlying9 (by omega) (by omega) (by omega)]
          rw [show ((k : Int)).toNat = k by omega, show ((k : Int) + 1).toNat = k + 1 by omega, hb3]
        clear hn hb3
        go_wp2_with fail
        go_region
        go_wp2_with fail
        refine ⟨⟨k + 1, by omega, by go_num, hidMk ?_, hidMk (Kept.drew (HK.out.setCell (by exact HG.out) _))⟩, by simp [intOf]; omega⟩
        rw [HS.out]
        show World.ownsRow _ _ _ _ _ (l.set (l.length - 1) (x ++ y)).length ((l.set (l.length - 1) (x ++ y)).map Value.string)
        rw [List.length_set, List.map_set, HN.out]
        have h := (HST.out (.string (x ++ y))).1
        rw [HN.out] at h
        exact h
    · have ht : s.data.toList.take k = s.data.toList := List.take_of_length_le (by omega)
      rw [ht, ← HSL.out] at HO
      have hks' : ¬ ((k : Int) < (s.size : Int)) := by omega
      clear hsz HSL ht
      obtain ⟨l, hls⟩ : ∃ l, slP s = l := ⟨_, rfl⟩
      have HLS := hidMk hls
      rw [hls] at HO HSB HLE HCB
      clear hls
      have hl2 : l.length ≤ 100001 := by have := HLE.out; omega
      obtain ⟨a, c, rfl, hss, hc, hab⟩ := ownS_sl HO.out (by omega)
      have SS := hidMk hss
      have HAB := hidMk hab
      clear hss hab
      obtain ⟨n, hn⟩ : ∃ n, l.length = n := ⟨_, rfl⟩
      have HN := hidMk hn
      rw [hn] at SS HCB hl2 hc ⊢
      have HLC := hidMk hc
      clear hn
      by_cases h2 : n < 2
      · have h2' : (n : Int) < 2 := by omega
        have HCF := hidMk (show cellB s = false by rw [HCB.out, decide_eq_false (by omega), Bool.false_and])
        go_wp2_with fail
        go_ret
        exact ⟨none, 0, [], rfl, (ptL_no HCF.out).symm, ss_nil _ _, by simp, HK.out, Nat.le_refl _⟩
      · have h2' : (2 : Int) ≤ (n : Int) := by omega
        go_wp2_with fail
        go_loopw [5] (fun i wx => ∃ j : Nat, j ≤ n ∧ i = .int .i64 j ∧ wx = wr ∧ Hid (∀ q, q < j → nameB (l.getD q ByteArray.empty) = true)) (fun i _ => n - (intOf i).toNat)
        case atStart => exact ⟨0, Nat.zero_le _, rfl, rfl, hidMk fun q hq => absurd hq (by omega)⟩
        case round =>
          obtain ⟨j, hj, rfl, rfl, HJ⟩ := hrel
          by_cases hjn : j < n
          · obtain ⟨b, o, rfl, hbb, hcs⟩ := SS.out.cells (by omega)
            have hcell := hcs j hjn
            clear hcs
            have hcn := ref_NameW (l.getD j ByteArray.empty) (by have := getD_size (k := j) HSB.out; omega)
            have hjn' : (j : Int) < (n : Int) := by omega
            generalize hx : l.getD j ByteArray.empty = x at hcell hcn
            have H1 := hidMk hx
            clear hx
            cases h0 : nameB x with
            | true =>
              rw [h0] at hcn
              have H0 := hidMk h0
              have HCN := hidMk hcn
              clear h0 hcn
              go_wp2_with fail
              refine (HCN.out _).mono ?_
              rintro e w1 ⟨rfl, rfl⟩
              go_wp2_with fail
              exact ⟨⟨j + 1, by omega, by go_num, trivial, hidMk fun q hq => by
                by_cases e : q = j
                · subst e; rw [H1.out]; exact H0.out
                · exact HJ.out q (by omega)⟩, by simp [intOf]; omega⟩
            | false =>
              rw [h0] at hcn
              have HCF := hidMk (show cellB s = false by rw [HCB.out, all_not (k := j) (by rw [HN.out]; exact hjn) (by rw [H1.out]; exact h0), Bool.and_false])
              have HCN := hidMk hcn
              clear h0 hcn
              go_wp2_with fail
              refine (HCN.out _).mono ?_
              rintro e w1 ⟨rfl, rfl⟩
              go_wp2_with fail
              go_ret
              exact ⟨none, 0, [], rfl, (ptL_no HCF.out).symm, ss_nil _ _, by simp, HK.out, Nat.le_refl _⟩
          · have hjn' : ¬ ((j : Int) < (n : Int)) := by omega
            have HCT := hidMk (show cellB s = true by rw [HCB.out, decide_eq_true (by omega), Bool.true_and]; exact all_upto (fun q hq => HJ.out q (by have := HN.out; omega)))
            go_wp2_with fail
            go_ret
            exact ⟨a, c, l, by rw [HN.out]; rfl, (HLS.out.symm.trans (ptL_yes HCT.out).symm), by rw [HN.out]; exact SS.out, HAB.out, HK.out, by rw [HN.out]; exact HLC.out⟩
set_option maxHeartbeats 1000000 in
set_option maxRecDepth 100000 in
theorem ref28_word (s : ByteArray) (p : Int) (hs : s.size ≤ 100000) (w : World) : Calls Tryz.prog 36 #[.string s, .int .i64 p] w (ReadP s p w) := by
  obtain ⟨W1, hW1⟩ : ∃ V, V = w.alloc (.cells #[.int .i64 0, .string ⟨#[]⟩, .int .i64 0, .int .i64 0, .slice none 0 0] 77) := ⟨_, rfl⟩
  have k1 : Kept w W1 := by rw [hW1]; exact (Kept.refl w).alloc _
  have HK1 := hidMk k1
  have HNW := hidMk (show NW W1 w.heap.size by rw [hW1]; exact nw_new w _ rfl)
  have HR := hidMk (ref_ReadB s (by omega) W1)
  have HN := hidMk (ref_NameW s (by omega))
  have HPT := hidMk (ref28_parts s hs)
  clear k1
  obtain ⟨c0, c1, c2, c3, c4, fz⟩ := HNW.out
  have f0 := fz 0 (by omega)
  have f1 := fz 1 (by omega)
  have f2 := fz 2 (by omega)
  have f3 := fz 3 (by omega)
  have f4 := fz 4 (by omega)
  clear fz
  by_cases h1 : isNum s
  · have HE := hidMk (show rdK s = 2 ∧ rdE s = 0 ∧ rdP s = [] by unfold rdK rdE rdP; rw [if_pos h1, if_pos h1, if_pos h1]; exact ⟨rfl, rfl, rfl⟩)
    rw [HE.out.2.1] at HR
    obtain ⟨z, hz⟩ : ∃ z, rdN s = z := ⟨_, rfl⟩
    have HZ := hidMk hz
    rw [hz] at HR
    clear h1 hz
    go_enter Tryz.func36, Tryz.ntmps36
    go_wp2_with fail
    rw [← hW1]
    refine HR.out.mono ?_
    rintro e w2 ⟨rfl, hw2⟩
    rw [hw2]
    clear hW1 hw2 w2
    go_wp2_with fail
    refine word_ret wload_r rfl w.heap.size rfl rfl (HNW.out.set _ _ _ _ _) ?_
    refine ⟨⟨2, s, p, z, none, 0, 0, [], by omega⟩, rfl, ?_, ss_nil _ _, fun h => absurd h (by simp), set5_kept HK1.out (Nat.le_refl _) _ _ _ _ _⟩
    unfold cor; rw [HE.out.1, HZ.out, HE.out.2.2]
  have HRE := hidMk (show rdN s = 0 ∧ rdE s = 6 by unfold rdN rdE; rw [if_neg h1, if_neg h1]; exact ⟨rfl, rfl⟩)
  rw [HRE.out.1, HRE.out.2] at HR
  by_cases h2 : nameB s = true
  · have HE := hidMk (show rdK s = 1 ∧ rdP s = [] by unfold rdK rdP; rw [if_neg h1, if_neg h1, if_pos h2, if_pos h2]; exact ⟨rfl, rfl⟩)
    rw [h2] at HN
    clear h1 h2
    go_enter Tryz.func36, Tryz.ntmps36
    go_wp2_with fail
    rw [← hW1]
    refine HR.out.mono ?_
    rintro e w2 ⟨rfl, hw2⟩
    rw [hw2]
    clear hW1 hw2 w2
    go_wp2_with fail
    refine (HN.out _).mono ?_
    rintro e w3 ⟨rfl, hw3⟩
    rw [hw3]
    clear hw3 w3
    go_wp2_with fail
    refine word_ret wload_r rfl w.heap.size rfl rfl (HNW.out.set _ _ _ _ _) ?_
    refine ⟨⟨1, s, p, 0, none, 0, 0, [], by omega⟩, rfl, ?_, ss_nil _ _, fun h => absurd h (by simp), set5_kept HK1.out (Nat.le_refl _) _ _ _ _ _⟩
    unfold cor; rw [HE.out.1, HRE.out.1, HE.out.2]
  have HN0 : nameB s = false := by simpa using h2
  rw [HN0] at HN
  clear c0 c1 c2 c3 c4 f0 f1 f2 f3 f4
  cases h3 : cellB s with
  | true =>
    have HK : Hid (rdK s = 3 ∧ rdP s = slP s) := hidMk (by unfold rdK rdP; rw [if_neg h1, if_neg h2, if_neg h1, if_neg h2, if_pos h3, if_pos h3]; exact ⟨rfl, rfl⟩)
    have HLT := hidMk (show 1 < (slP s).length by unfold cellB at h3; simp only [Bool.and_eq_true, decide_eq_true_eq] at h3; exact h3.1)
    have HPL := hidMk (show ptL s = slP s from ptL_yes h3)
    clear h1 h2 h3 HN0
    go_enter Tryz.func36, Tryz.ntmps36
    go_wp2_with fail
    rw [← hW1]
    refine HR.out.mono ?_
    rintro e w2 ⟨rfl, hw2⟩
    rw [hw2]
    have HS1 := hidMk (show W1.heap.size = w.heap.size + 1 by rw [hW1]; simp)
    clear hW1 hw2 w2
    go_wp2_with fail
    refine (HN.out _).mono ?_
    rintro e w3 ⟨rfl, hw3⟩
    rw [hw3]
    clear hw3 w3
    go_wp2_with fail
    refine (HPT.out _).mono ?_
    rintro e w4 ⟨a, c, l, rfl, hl, s4, ab4, k4, hlc⟩
    rw [HPL.out] at hl
    have S4 := hidMk s4
    have AB4 := hidMk ab4
    have K4 := hidMk k4
    have HLC := hidMk hlc
    have N4 := hidMk (HNW.out.kept k4)
    have hpos : (0 : Int) < (l.length : Int) := by have := HLT.out; rw [← hl] at this; omega
    have HL := hidMk hl
    clear s4 ab4 k4 hl hlc
    obtain ⟨n, hn⟩ : ∃ n, l.length = n := ⟨_, rfl⟩
    rw [hn] at S4 hpos HLC ⊢
    clear hn
    obtain ⟨c0, c1, c2, c3, c4, fz⟩ := N4.out
    have f0 := fz 0 (by omega)
    have f1 := fz 1 (by omega)
    have f2 := fz 2 (by omega)
    have f3 := fz 3 (by omega)
    have f4 := fz 4 (by omega)
    clear fz
    go_wp2_with fail
    refine word_ret wload_r rfl w.heap.size rfl rfl (N4.out.set _ _ _ _ _) ?_
    refine ⟨⟨3, s, p, 0, a, n, c, l, HLC.out⟩, rfl, ?_, ?_, ?_, set5_kept (HK1.out.trans K4.out) (Nat.le_refl _) _ _ _ _ _⟩
    · unfold cor; rw [HK.out.1, HRE.out.1, HK.out.2, HL.out]
    · exact S4.out.chg (set5_chg _ w.heap.size _ _ _ _ _) (fun _ ad e => by have h1 := AB4.out ad e; have h2 := HS1.out; show ¬ ad.block = w.heap.size; omega)
    · intro _ ad e; have h1 := AB4.out ad e; have h2 := HS1.out; omega
  | false =>
    have HK : Hid (rdK s = 0 ∧ rdP s = []) := hidMk (by unfold rdK rdP; rw [if_neg h1, if_neg h2, if_neg h1, if_neg h2, if_neg (by rw [h3]; simp), if_neg (by rw [h3]; simp)]; exact ⟨rfl, rfl⟩)
    have HPL := hidMk (show ptL s = [] from ptL_no h3)
    clear h1 h2 h3 HN0
    go_enter Tryz.func36, Tryz.ntmps36
    go_wp2_with fail
    rw [← hW1]
    refine HR.out.mono ?_
    rintro e w2 ⟨rfl, hw2⟩
    rw [hw2]
    clear hW1 hw2 w2
    go_wp2_with fail
    refine (HN.out _).mono ?_
    rintro e w3 ⟨rfl, hw3⟩
    rw [hw3]
    clear hw3 w3
    go_wp2_with fail
    refine (HPT.out _).mono ?_
    rintro e w4 ⟨a, c, l, rfl, hl, s4, ab4, k4, hlc⟩
    rw [HPL.out] at hl
    subst hl
    have K4 := hidMk k4
    have N4 := hidMk (HNW.out.kept k4)
    clear s4 ab4 k4
    obtain ⟨c0, c1, c2, c3, c4, fz⟩ := N4.out
    have f0 := fz 0 (by omega)
    have f1 := fz 1 (by omega)
    have f2 := fz 2 (by omega)
    have f3 := fz 3 (by omega)
    have f4 := fz 4 (by omega)
    clear fz
    rw [List.length_nil]
    go_wp2_with fail
    refine word_ret wload_r rfl w.heap.size rfl rfl (N4.out.set _ _ _ _ _) ?_
    refine ⟨⟨0, s, p, 0, none, 0, 0, [], by omega⟩, rfl, ?_, ss_nil _ _, fun h => absurd h (by simp), set5_kept (HK1.out.trans K4.out) (Nat.le_refl _) _ _ _ _ _⟩
    unfold cor; rw [HK.out.1, HRE.out.1, HK.out.2]
end Go.Proofs.YtpehinmckppjoaaGreatDoor
namespace Go.Proofs.YtpehinmckppjoaaGreatDoor
open Go Go.RowKit Go.Maps
set_option linter.unusedSimpArgs false
set_option linter.unusedVariables false

theorem drop_join (c : UInt8) : ∀ (xs : List (List UInt8)) (y : List UInt8), ([c].intercalate (xs ++ [y])).drop (tot xs) = y
  | [], y => by rw [List.nil_append, join_one]; rfl
  | [x], y => by
    rw [List.cons_append, List.nil_append, join_cons2, join_one, show tot [x] = (x ++ [c]).length by simp [tot], List.drop_left]
  | x :: z :: r, y => by
    have ih := drop_join c (z :: r) y
    rw [List.cons_append, List.cons_append, join_cons2, show tot (x :: z :: r) = (x ++ [c]).length + tot (z :: r) by (first | (simp [tot]; done) | (simp [tot]; omega)), ← List.drop_drop, List.drop_left]
    exact ih
/-- Parts: all but the last one, and this. -/
def don (l : List UInt8) : List (List UInt8) := (spl 32 l).dropLast
theorem spl_don (l : List UInt8) : spl 32 l = don l ++ [l.drop (tot (don l))] ∧ tot (don l) ≤ l.length := by
  have hp := spl_pos 32 l
  have h1 := List.dropLast_concat_getLast (l := spl 32 l) (by intro e; rw [e] at hp; simp at hp)
  have h2 := unspl 32 l
  have h3 := tot_spl 32 l
  have e : (spl 32 l).getLast (by intro e; rw [e] at hp; simp at hp) = l.drop (tot (don l)) := by
    have h4 := drop_join 32 (don l) ((spl 32 l).getLast (by intro e; rw [e] at hp; simp at hp))
    unfold don at h4 ⊢
    rw [h1, h2] at h4
    exact h4.symm
  rw [e] at h1
  refine ⟨h1.symm, ?_⟩
  have h5 : tot (spl 32 l) = tot (don l) + (l.drop (tot (don l))).length + 1 := by
    conv => lhs; rw [← h1]
    show tot (don l ++ _) = _
    simp [tot]
    omega
  rw [h3, List.length_drop] at h5
  omega
theorem don_of {l : List UInt8} {xs : List (List UInt8)} {y : List UInt8} (h : spl 32 l = xs ++ [y]) : don l = xs := by unfold don; rw [h, List.dropLast_concat]
def gF (L : List UInt8) (k : Nat) : Nat := if k ≤ L.length then tot (don (L.take k)) else k
def gG (L : List UInt8) (k : Nat) : List (Nat × List UInt8) := if k ≤ L.length then tk 0 (don (L.take k)) else tks L
theorem gF_le {L : List UInt8} {k : Nat} (h : k ≤ L.length) : gF L k ≤ k := by
  unfold gF
  rw [if_pos h]
  have := (spl_don (L.take k)).2
  rw [List.length_take] at this
  omega
theorem don_same {L : List UInt8} {k : Nat} {b : UInt8} (h : L.take (k + 1) = L.take k ++ [b]) (hb : b ≠ 32) : don (L.take (k + 1)) = don (L.take k) := by
  have h1 := (spl_don (L.take k)).1
  refine don_of (y := (L.take k).drop (tot (don (L.take k))) ++ [b]) ?_
  rw [h, spl_snoc hb]
  generalize L.take k = l at *
  generalize don l = xs at *
  rw [h1]
  simp
theorem don_next {L : List UInt8} {k : Nat} (h : L.take (k + 1) = L.take k ++ [32]) : don (L.take (k + 1)) = spl 32 (L.take k) := by
  refine don_of (y := []) ?_
  rw [h, spl_snoc_c]
theorem g_same {L : List UInt8} {k : Nat} {b : UInt8} (hk : k < L.length) (h : L.take (k + 1) = L.take k ++ [b]) (hb : b ≠ 32) : gF L (k + 1) = gF L k ∧ gG L (k + 1) = gG L k := by
  unfold gF gG
  rw [if_pos (by omega), if_pos (by omega), if_pos (by omega), if_pos (by omega), don_same h hb]
  exact ⟨rfl, rfl⟩
theorem tk_spl (l : List UInt8) : tk 0 (spl 32 l) = tk 0 (don l) ++ (if tot (don l) < l.length then [(tot (don l), l.drop (tot (don l)))] else []) := by
  have h := spl_don l
  conv => lhs; rw [h.1]
  rw [tk_app, Nat.zero_add, tk_cons]
  by_cases hl : tot (don l) < l.length
  · rw [if_pos hl, if_neg (by intro e; have := congrArg List.length e; rw [List.length_drop, List.length_nil] at this; omega)]
    rfl
  · rw [if_neg hl, if_pos (List.drop_of_length_le (by omega))]
    rfl
/-- Behind byte k, where it is a blank or the line's end. -/
theorem g_next {L : List UInt8} {k : Nat} (hk : k ≤ L.length) (h : k = L.length ∨ (k < L.length ∧ L.take (k + 1) = L.take k ++ [32])) : gF L (k + 1) = k + 1 ∧ gG L (k + 1) = gG L k ++ (if gF L k < k then [(gF L k, (L.take k).drop (gF L k))] else []) := by
  have hl : (L.take k).length = k := by rw [List.length_take]; omega
  have e1 : gF L k = tot (don (L.take k)) := by unfold gF; rw [if_pos hk]
  have e2 : gG L k = tk 0 (don (L.take k)) := by unfold gG; rw [if_pos hk]
  have e3 : gG L (k + 1) = tk 0 (spl 32 (L.take k)) := by
    unfold gG
    rcases h with h | ⟨h, h2⟩
    · rw [if_neg (by omega), List.take_of_length_le (show L.length ≤ k by omega)]; rfl
    · rw [if_pos (by omega), don_next h2]
  refine ⟨?_, ?_⟩
  · unfold gF
    rcases h with h | ⟨h, h2⟩
    · rw [if_neg (by omega)]
    · rw [if_pos (by omega), don_next h2, tot_spl, hl]
  · rw [e3, tk_spl, e1, e2, hl]
theorem g_zero (L : List UInt8) : gF L 0 = 0 ∧ gG L 0 = [] := by
  unfold gF gG
  rw [if_pos (by omega), if_pos (by omega)]
  exact ⟨rfl, rfl⟩
theorem g_end {L : List UInt8} {k : Nat} (h : L.length < k) : gG L k = tks L := by unfold gG; rw [if_neg (by omega)]
theorem extract_bstr (s : ByteArray) (i k : Nat) (hk : k ≤ s.size) : s.extract i k = bstr ((s.data.toList.take k).drop i) := by
  refine data_inj ?_
  rw [Lib.extract_data, bstr_data, List.drop_take]
theorem gG_len (L : List UInt8) (k : Nat) : (gG L k).length ≤ L.length + 1 := by
  unfold gG
  split
  · have h1 : (tk 0 (don (L.take k))).length = ((tk 0 (don (L.take k))).map (·.2)).length := by rw [List.length_map]
    rw [h1, tk_snd]
    have h2 := List.length_filter_le (fun p => decide (p ≠ ([] : List UInt8))) (don (L.take k))
    have h3 := spl_len_le 32 (L.take k)
    have h4 : (don (L.take k)).length ≤ (spl 32 (L.take k)).length := by unfold don; rw [List.length_dropLast]; omega
    rw [List.length_take] at h3
    omega
  · exact tks_len L
/-- Words of a line in a row of the call's own. -/
def WordsP (e0 : TypeId) (s : ByteArray) (w : World) (e : Ending) (w' : World) : Prop := ∃ v l, e = .returned v ∧ OwnW e0 w' w.heap.size v l ∧ l.map cor = (tks s.data.toList).map mkc ∧ Kept w w'
set_option maxHeartbeats 2000000 in
set_option maxRecDepth 100000 in
theorem ref28_Words (s : ByteArray) (hs : s.size ≤ 10000) (w : World) : Calls Tryz.prog 18 #[.string s] w (WordsP 77 s w) := by
  have hsz := data_len s
  have HSZ := hidMk hsz
  go_enter Tryz.func18, Tryz.ntmps18
  go_wp2_with fail
  go_loopw [3, 4, 5] (fun v f i wr => ∃ (k : Nat) (l : List Wd), k ≤ s.size + 1 ∧ i = .int .i64 k ∧ f = .int .i64 (gF s.data.toList k : Nat) ∧ Hid (OwnW 77 wr w.heap.size v l) ∧ Hid (l.map cor = (gG s.data.toList k).map mkc) ∧ Hid (Kept w wr)) (fun _ _ i _ => s.size + 1 - (intOf i).toNat)
  case atStart => exact ⟨0, [], Nat.zero_le _, rfl, by rw [(g_zero _).1]; rfl, hidMk (ownW_nil _ _ _), hidMk (by rw [(g_zero _).2]; rfl), hidMk (Kept.refl _)⟩
  case round =>
    obtain ⟨k, l, hk, rfl, rfl, HO, HC, HK⟩ := hrel
    by_cases hks : k ≤ s.size
    · have hks' : (k : Int) ≤ (s.size : Int) := by omega
      have hFl := gF_le (L := s.data.toList) (k := k) (by omega)
      have HLL := hidMk (show l.length ≤ 10001 by
        have h1 := congrArg List.length HC.out
        rw [List.length_map, List.length_map] at h1
        have := gG_len s.data.toList k
        omega)
      by_cases hcont : k < s.size ∧ bat s k ≠ 32
      · obtain ⟨hkl, hbn⟩ := hcont
        obtain ⟨b, hb1, hb2, hb3, _⟩ := bat_data s k hkl
        have i1 := run_at (P := Tryz.prog) Tryz.underlying9 s .i64 k hkl
        have hbe : (bat s k != 32) = true := by simpa using hbn
        obtain ⟨g1, g2⟩ := g_same (L := s.data.toList) (by omega) hb1 (fun e => hbn (by rw [hb2, e]; rfl))
        have G1 := hidMk g1
        have HC2 := hidMk (show l.map cor = (gG s.data.toList (k + 1)).map mkc by rw [g2]; exact HC.out)
        have hkl' : (k : Int) < (s.size : Int) := by omega
        clear hb1 hb2 hb3 hbn g1 g2 HC hsz
        generalize gF s.data.toList k = f at *
        generalize bat s k = bc at *
        go_wp2_with fail
        exact ⟨⟨k + 1, l, by omega, by go_num, by rw [G1.out], HO, HC2, HK⟩, by simp [intOf]; omega⟩
      · have HN := hidMk (g_next (L := s.data.toList) (k := k) (by omega) (by
          by_cases hkl : k < s.size
          · right
            obtain ⟨b, hb1, hb2, hb3, _⟩ := bat_data s k hkl
            refine ⟨by omega, ?_⟩
            have : bat s k = 32 := Classical.byContradiction fun e => hcont ⟨hkl, e⟩
            rw [hb1]
            congr 2
            exact UInt8.toNat_inj.1 (by show b.toNat = 32; omega)
          · left; omega))
        have hxs : s.extract (gF s.data.toList k) k = bstr ((s.data.toList.take k).drop (gF s.data.toList k)) := extract_bstr s _ _ hks
        obtain ⟨y, hy⟩ : ∃ y, bstr ((s.data.toList.take k).drop (gF s.data.toList k)) = y := ⟨_, rfl⟩
        have HY := hidMk hy
        rw [hy] at hxs
        have hys : y.size ≤ 10000 := by rw [← hy, bstr_size, List.length_drop, List.length_take]; omega
        have hsl : ∀ w, (Instr.slice 9 (.string s) (some (.int .i64 (gF s.data.toList k : Nat))) (some (.int .i64 (k : Int))) none).run Tryz.prog w = .ok (.string y) w := fun w => by
          rw [run_slice_string w 9 s .i64 .i64 ((gF s.data.toList k : Nat) : Int) (k : Int) Tryz.underlying9 (by omega) (by omega) (by omega)]
          rw [show (((gF s.data.toList k : Nat) : Int)).toNat = gF s.data.toList k by omega, show ((k : Int)).toNat = k by omega, hxs]
        have HW := hidMk (fun (p : Int) => ref28_word y p (by omega))
        have HFK : Hid (gF s.data.toList k ≤ k) := hidMk hFl
        clear hy hxs hsz hys hFl
        obtain ⟨f, hf⟩ : ∃ f, gF s.data.toList k = f := ⟨_, rfl⟩
        have HFE := hidMk hf
        rw [hf] at HN HFK hsl ⊢
        clear hf
        by_cases hlt : f < k
        · have hlt' : (f : Int) < (k : Int) := by omega
          have HN2 := hidMk (show gG s.data.toList (k + 1) = gG s.data.toList k ++ [(f, (s.data.toList.take k).drop f)] by have := HN.out.2; rw [if_pos hlt] at this; exact this)
          by_cases hkl : k < s.size
          · have hb32 : bat s k = 32 := Classical.byContradiction fun e => hcont ⟨hkl, e⟩
            have i1 := run_at (P := Tryz.prog) Tryz.underlying9 s .i64 k hkl
            rw [hb32] at i1
            have hkl' : (k : Int) < (s.size : Int) := by omega
            clear hcont hb32
            go_wp2_with fail
            refine (HW.out _ wr).mono ?_
            rintro e w1 ⟨x, rfl, hx1, hx2, hx3, k1⟩
            have HX1 := hidMk hx1
            have HX2 := hidMk hx2
            have HX3 := hidMk hx3
            have K1 := hidMk k1
            unfold wdV
            clear hx1 hx2 hx3 k1
            go_wp2_with (at_builtin; refine wpList_pushW _ rfl _ _ rfl winfo_r rfl ((HO.out.kept K1.out).kept ((Kept.refl _).alloc _)) (by rw [World.size_alloc]; have := (HK.out.trans K1.out).size; omega) w1.heap.size x rfl (wcells_new w1 x _ rfl) (HX2.out.kept ((Kept.refl _).alloc _)) (fun hm ad e e2 => by have h1 := HX3.out hm ad e; have h2 := (HO.out.lt _ e2).2; omega) (by have := HLL.out; omega) ?_; intro g' cap w' o' c' x')
            have O2 := hidMk o'
            have K2 := hidMk (show Kept w w' from Chg.kept ((HK.out.trans K1.out).alloc _) c' (fun j e => (HO.out.lt j e).1))
            clear o' c' x'
            go_wp2_with fail
            refine ⟨⟨k + 1, l ++ [x], by omega, by go_num, by rw [HN.out.1]; go_num, O2, hidMk ?_, K2⟩, by simp [intOf]; omega⟩
            rw [HN2.out, List.map_append, List.map_append, HC.out, List.map_singleton, List.map_singleton, HX1.out]
            unfold mkc
            rw [← HFE.out, HY.out]
          · have hkl' : ¬ ((k : Int) < (s.size : Int)) := by omega
            clear hcont
            go_wp2_with fail
            refine (HW.out _ wr).mono ?_
            rintro e w1 ⟨x, rfl, hx1, hx2, hx3, k1⟩
            have HX1 := hidMk hx1
            have HX2 := hidMk hx2
            have HX3 := hidMk hx3
            have K1 := hidMk k1
            unfold wdV
            clear hx1 hx2 hx3 k1
            go_wp2_with (at_builtin; refine wpList_pushW _ rfl _ _ rfl winfo_r rfl ((HO.out.kept K1.out).kept ((Kept.refl _).alloc _)) (by rw [World.size_alloc]; have := (HK.out.trans K1.out).size; omega) w1.heap.size x rfl (wcells_new w1 x _ rfl) (HX2.out.kept ((Kept.refl _).alloc _)) (fun hm ad e e2 => by have h1 := HX3.out hm ad e; have h2 := (HO.out.lt _ e2).2; omega) (by have := HLL.out; omega) ?_; intro g' cap w' o' c' x')
            have O2 := hidMk o'
            have K2 := hidMk (show Kept w w' from Chg.kept ((HK.out.trans K1.out).alloc _) c' (fun j e => (HO.out.lt j e).1))
            clear o' c' x'
            go_wp2_with fail
            refine ⟨⟨k + 1, l ++ [x], by omega, by go_num, by rw [HN.out.1]; go_num, O2, hidMk ?_, K2⟩, by simp [intOf]; omega⟩
            rw [HN2.out, List.map_append, List.map_append, HC.out, List.map_singleton, List.map_singleton, HX1.out]
            unfold mkc
            rw [← HFE.out, HY.out]
        · have hlt' : (k : Int) ≤ (f : Int) := by omega
          have HC2 := hidMk (show l.map cor = (gG s.data.toList (k + 1)).map mkc by have := HN.out.2; rw [if_neg hlt, List.append_nil] at this; rw [this]; exact HC.out)
          by_cases hkl : k < s.size
          · have hb32 : bat s k = 32 := Classical.byContradiction fun e => hcont ⟨hkl, e⟩
            have i1 := run_at (P := Tryz.prog) Tryz.underlying9 s .i64 k hkl
            rw [hb32] at i1
            have hkl' : (k : Int) < (s.size : Int) := by omega
            clear hcont hb32
            go_wp2_with fail
            exact ⟨⟨k + 1, l, by omega, by go_num, by rw [HN.out.1]; go_num, HO, HC2, HK⟩, by simp [intOf]; omega⟩
          · have hkl' : ¬ ((k : Int) < (s.size : Int)) := by omega
            clear hcont
            go_wp2_with fail
            exact ⟨⟨k + 1, l, by omega, by go_num, by rw [HN.out.1]; go_num, HO, HC2, HK⟩, by simp [intOf]; omega⟩
    · have hks' : ¬ ((k : Int) ≤ (s.size : Int)) := by omega
      have HC2 := hidMk (show l.map cor = (tks s.data.toList).map mkc by rw [← g_end (L := s.data.toList) (k := k) (by omega)]; exact HC.out)
      clear hsz
      go_wp2_with fail
      go_ret
      exact ⟨_, l, rfl, HO.out, HC2.out, HK.out⟩
end Go.Proofs.YtpehinmckppjoaaGreatDoor
namespace Go.Proofs.YtpehinmckppjoaaGreatDoor
open Go Go.RowKit
set_option linter.unusedSimpArgs false
set_option linter.unusedVariables false

section
variable {P : Program} {l n : Nat} {Q : Exit → Act → World → Prop}
end
/-- The loop's record and the block of deferred calls lie as they lay. -/
def Recs (d : Nat) (R : Obj) (X : World) : Prop := X.heap[d + 1]? = some R ∧ X.heap[d]? = some (.deferred (some []))
end Go.Proofs.YtpehinmckppjoaaGreatDoor
