/- The definition's words of a line: Words, Empty. -/
import Derived.Test.YtifddieoekbnfaaDoorLex5
namespace Go.Proofs.YtifddieoekbnfaaDoor
open Go Go.RowKit Go.Maps
set_option linter.unusedSimpArgs false
set_option linter.unusedVariables false

theorem drop_join (c : UInt8) : ∀ (xs : List (List UInt8)) (y : List UInt8), ([c].intercalate (xs ++ [y])).drop (tot xs) = y
  | [], y => by rw [List.nil_append, join_one]; rfl
  | [x], y => by
    rw [List.cons_append, List.nil_append, join_cons2, join_one, show tot [x] = (x ++ [c]).length by simp [tot], List.drop_left]
  | x :: z :: r, y => by
    have ih := drop_join c (z :: r) y
    rw [List.cons_append, List.cons_append, join_cons2, show tot (x :: z :: r) = (x ++ [c]).length + tot (z :: r) by (first | (simp [tot]; done) | (simp [tot]; omega)), ← List.drop_drop, List.drop_left]
    exact ih
/-- Parts: all but the last one, and this. -/
def don (l : List UInt8) : List (List UInt8) := (spl 32 l).dropLast
theorem spl_don (l : List UInt8) : spl 32 l = don l ++ [l.drop (tot (don l))] ∧ tot (don l) ≤ l.length := by
  have hp := spl_pos 32 l
  have h1 := List.dropLast_concat_getLast (l := spl 32 l) (by intro e; rw [e] at hp; simp at hp)
  have h2 := unspl 32 l
  have h3 := tot_spl 32 l
  have e : (spl 32 l).getLast (by intro e; rw [e] at hp; simp at hp) = l.drop (tot (don l)) := by
    have h4 := drop_join 32 (don l) ((spl 32 l).getLast (by intro e; rw [e] at hp; simp at hp))
    unfold don at h4 ⊢
    rw [h1, h2] at h4
    exact h4.symm
  rw [e] at h1
  refine ⟨h1.symm, ?_⟩
  have h5 : tot (spl 32 l) = tot (don l) + (l.drop (tot (don l))).length + 1 := by
    conv => lhs; rw [← h1]
    show tot (don l ++ _) = _
    simp [tot]
    omega
  rw [h3, List.length_drop] at h5
  omega
theorem don_of {l : List UInt8} {xs : List (List UInt8)} {y : List UInt8} (h : spl 32 l = xs ++ [y]) : don l = xs := by unfold don; rw [h, List.dropLast_concat]
def gF (L : List UInt8) (k : Nat) : Nat := if k ≤ L.length then tot (don (L.take k)) else k
def gG (L : List UInt8) (k : Nat) : List (Nat × List UInt8) := if k ≤ L.length then tk 0 (don (L.take k)) else tks L
theorem gF_le {L : List UInt8} {k : Nat} (h : k ≤ L.length) : gF L k ≤ k := by
  unfold gF
  rw [if_pos h]
  have := (spl_don (L.take k)).2
  rw [List.length_take] at this
  omega
theorem don_same {L : List UInt8} {k : Nat} {b : UInt8} (h : L.take (k + 1) = L.take k ++ [b]) (hb : b ≠ 32) : don (L.take (k + 1)) = don (L.take k) := by
  have h1 := (spl_don (L.take k)).1
  refine don_of (y := (L.take k).drop (tot (don (L.take k))) ++ [b]) ?_
  rw [h, spl_snoc hb]
  generalize L.take k = l at *
  generalize don l = xs at *
  rw [h1]
  simp
theorem don_next {L : List UInt8} {k : Nat} (h : L.take (k + 1) = L.take k ++ [32]) : don (L.take (k + 1)) = spl 32 (L.take k) := by
  refine don_of (y := []) ?_
  rw [h, spl_snoc_c]
theorem g_same {L : List UInt8} {k : Nat} {b : UInt8} (hk : k < L.length) (h : L.take (k + 1) = L.take k ++ [b]) (hb : b ≠ 32) : gF L (k + 1) = gF L k ∧ gG L (k + 1) = gG L k := by
  unfold gF gG
  rw [if_pos (by omega), if_pos (by omega), if_pos (by omega), if_pos (by omega), don_same h hb]
  exact ⟨rfl, rfl⟩
theorem tk_spl (l : List UInt8) : tk 0 (spl 32 l) = tk 0 (don l) ++ (if tot (don l) < l.length then [(tot (don l), l.drop (tot (don l)))] else []) := by
  have h := spl_don l
  conv => lhs; rw [h.1]
  rw [tk_app, Nat.zero_add, tk_cons]
  by_cases hl : tot (don l) < l.length
  · rw [if_pos hl, if_neg (by intro e; have := congrArg List.length e; rw [List.length_drop, List.length_nil] at this; omega)]
    rfl
  · rw [if_neg hl, if_pos (List.drop_of_length_le (by omega))]
    rfl
/-- Behind byte k, where it is a blank or the line's end. -/
theorem g_next {L : List UInt8} {k : Nat} (hk : k ≤ L.length) (h : k = L.length ∨ (k < L.length ∧ L.take (k + 1) = L.take k ++ [32])) : gF L (k + 1) = k + 1 ∧ gG L (k + 1) = gG L k ++ (if gF L k < k then [(gF L k, (L.take k).drop (gF L k))] else []) := by
  have hl : (L.take k).length = k := by rw [List.length_take]; omega
  have e1 : gF L k = tot (don (L.take k)) := by unfold gF; rw [if_pos hk]
  have e2 : gG L k = tk 0 (don (L.take k)) := by unfold gG; rw [if_pos hk]
  have e3 : gG L (k + 1) = tk 0 (spl 32 (L.take k)) := by
    unfold gG
    rcases h with h | ⟨h, h2⟩
    · rw [if_neg (by omega), List.take_of_length_le (show L.length ≤ k by omega)]; rfl
    · rw [if_pos (by omega), don_next h2]
  refine ⟨?_, ?_⟩
  · unfold gF
    rcases h with h | ⟨h, h2⟩
    · rw [if_neg (by omega)]
    · rw [if_pos (by omega), don_next h2, tot_spl, hl]
  · rw [e3, tk_spl, e1, e2, hl]
theorem g_zero (L : List UInt8) : gF L 0 = 0 ∧ gG L 0 = [] := by
  unfold gF gG
  rw [if_pos (by omega), if_pos (by omega)]
  exact ⟨rfl, rfl⟩
theorem g_end {L : List UInt8} {k : Nat} (h : L.length < k) : gG L k = tks L := by unfold gG; rw [if_neg (by omega)]
theorem extract_bstr (s : ByteArray) (i k : Nat) (hk : k ≤ s.size) : s.extract i k = bstr ((s.data.toList.take k).drop i) := by
  refine data_inj ?_
  rw [Lib.extract_data, bstr_data, List.drop_take]
theorem gG_len (L : List UInt8) (k : Nat) : (gG L k).length ≤ L.length + 1 := by
  unfold gG
  split
  · have h1 : (tk 0 (don (L.take k))).length = ((tk 0 (don (L.take k))).map (·.2)).length := by rw [List.length_map]
    rw [h1, tk_snd]
    have h2 := List.length_filter_le (fun p => decide (p ≠ ([] : List UInt8))) (don (L.take k))
    have h3 := spl_len_le 32 (L.take k)
    have h4 : (don (L.take k)).length ≤ (spl 32 (L.take k)).length := by unfold don; rw [List.length_dropLast]; omega
    rw [List.length_take] at h3
    omega
  · exact tks_len L
/-- Words of a line in a row of the call's own. -/
def WordsP (e0 : TypeId) (s : ByteArray) (w : World) (e : Ending) (w' : World) : Prop := ∃ v l, e = .returned v ∧ OwnW e0 w' w.heap.size v l ∧ l.map cor = (tks s.data.toList).map mkc ∧ Kept w w'
set_option maxHeartbeats 2000000 in
set_option maxRecDepth 100000 in
theorem ref28_Words (s : ByteArray) (hs : s.size ≤ 10000) (w : World) : Calls Tryd.prog 9 #[.string s] w (WordsP 32 s w) := by
  have hsz := data_len s
  have HSZ := hidMk hsz
  go_enter Tryd.func9, Tryd.ntmps9
  go_wp2_with fail
  go_loopw [3, 4, 5] (fun v f i wr => ∃ (k : Nat) (l : List Wd), k ≤ s.size + 1 ∧ i = .int .i64 k ∧ f = .int .i64 (gF s.data.toList k : Nat) ∧ Hid (OwnW 32 wr w.heap.size v l) ∧ Hid (l.map cor = (gG s.data.toList k).map mkc) ∧ Hid (Kept w wr)) (fun _ _ i _ => s.size + 1 - (intOf i).toNat)
  case atStart => exact ⟨0, [], Nat.zero_le _, rfl, by rw [(g_zero _).1]; rfl, hidMk (ownW_nil _ _ _), hidMk (by rw [(g_zero _).2]; rfl), hidMk (Kept.refl _)⟩
  case round =>
    obtain ⟨k, l, hk, rfl, rfl, HO, HC, HK⟩ := hrel
    by_cases hks : k ≤ s.size
    · have hks' : (k : Int) ≤ (s.size : Int) := by omega
      have hFl := gF_le (L := s.data.toList) (k := k) (by omega)
      have HLL := hidMk (show l.length ≤ 10001 by
        have h1 := congrArg List.length HC.out
        rw [List.length_map, List.length_map] at h1
        have := gG_len s.data.toList k
        omega)
      by_cases hcont : k < s.size ∧ bat s k ≠ 32
      · obtain ⟨hkl, hbn⟩ := hcont
        obtain ⟨b, hb1, hb2, hb3, _⟩ := bat_data s k hkl
        have i1 := run_at (P := Tryd.prog) Tryd.underlying9 s .i64 k hkl
        have hbe : (bat s k != 32) = true := by simpa using hbn
        obtain ⟨g1, g2⟩ := g_same (L := s.data.toList) (by omega) hb1 (fun e => hbn (by rw [hb2, e]; rfl))
        have G1 := hidMk g1
        have HC2 := hidMk (show l.map cor = (gG s.data.toList (k + 1)).map mkc by rw [g2]; exact HC.out)
        have hkl' : (k : Int) < (s.size : Int) := by omega
        clear hb1 hb2 hb3 hbn g1 g2 HC hsz
        generalize gF s.data.toList k = f at *
        generalize bat s k = bc at *
        go_wp2_with fail
        exact ⟨⟨k + 1, l, by omega, by go_num, by rw [G1.out], HO, HC2, HK⟩, by simp [intOf]; omega⟩
      · have HN := hidMk (g_next (L := s.data.toList) (k := k) (by omega) (by
          by_cases hkl : k < s.size
          · right
            obtain ⟨b, hb1, hb2, hb3, _⟩ := bat_data s k hkl
            refine ⟨by omega, ?_⟩
            have : bat s k = 32 := Classical.byContradiction fun e => hcont ⟨hkl, e⟩
            rw [hb1]
            congr 2
            exact UInt8.toNat_inj.1 (by show b.toNat = 32; omega)
          · left; omega))
        have hxs : s.extract (gF s.data.toList k) k = bstr ((s.data.toList.take k).drop (gF s.data.toList k)) := extract_bstr s _ _ hks
        obtain ⟨y, hy⟩ : ∃ y, bstr ((s.data.toList.take k).drop (gF s.data.toList k)) = y := ⟨_, rfl⟩
        have HY := hidMk hy
        rw [hy] at hxs
        have hys : y.size ≤ 10000 := by rw [← hy, bstr_size, List.length_drop, List.length_take]; omega
        have hsl : ∀ w, (Instr.slice 9 (.string s) (some (.int .i64 (gF s.data.toList k : Nat))) (some (.int .i64 (k : Int))) none).run Tryd.prog w = .ok (.string y) w := fun w => by
          rw [run_slice_string w 9 s .i64 .i64 ((gF s.data.toList k : Nat) : Int) (k : Int) Tryd.underlying9 (by omega) (by omega) (by omega)]
          rw [show (((gF s.data.toList k : Nat) : Int)).toNat = gF s.data.toList k by omega, show ((k : Int)).toNat = k by omega, hxs]
        have HW := hidMk (fun (p : Int) => ref28_word y p (by omega))
        have HFK : Hid (gF s.data.toList k ≤ k) := hidMk hFl
        clear hy hxs hsz hys hFl
        obtain ⟨f, hf⟩ : ∃ f, gF s.data.toList k = f := ⟨_, rfl⟩
        have HFE := hidMk hf
        rw [hf] at HN HFK hsl ⊢
        clear hf
        by_cases hlt : f < k
        · have hlt' : (f : Int) < (k : Int) := by omega
          have HN2 := hidMk (show gG s.data.toList (k + 1) = gG s.data.toList k ++ [(f, (s.data.toList.take k).drop f)] by have := HN.out.2; rw [if_pos hlt] at this; exact this)
          by_cases hkl : k < s.size
          · have hb32 : bat s k = 32 := Classical.byContradiction fun e => hcont ⟨hkl, e⟩
            have i1 := run_at (P := Tryd.prog) Tryd.underlying9 s .i64 k hkl
            rw [hb32] at i1
            have hkl' : (k : Int) < (s.size : Int) := by omega
            clear hcont hb32
            go_wp2_with fail
            refine (HW.out _ wr).mono ?_
            rintro e w1 ⟨x, rfl, hx1, hx2, hx3, k1⟩
            have HX1 := hidMk hx1
            have HX2 := hidMk hx2
            have HX3 := hidMk hx3
            have K1 := hidMk k1
            unfold wdV
            clear hx1 hx2 hx3 k1
            go_wp2_with (at_builtin; refine wpList_pushW _ rfl _ _ rfl winfo_r rfl ((HO.out.kept K1.out).kept ((Kept.refl _).alloc _)) (by rw [World.size_alloc]; have := (HK.out.trans K1.out).size; omega) w1.heap.size x rfl (wcells_new w1 x _ rfl) (HX2.out.kept ((Kept.refl _).alloc _)) (fun hm ad e e2 => by have h1 := HX3.out hm ad e; have h2 := (HO.out.lt _ e2).2; omega) (by have := HLL.out; omega) ?_; intro g' cap w' o' c' x')
            have O2 := hidMk o'
            have K2 := hidMk (show Kept w w' from Chg.kept ((HK.out.trans K1.out).alloc _) c' (fun j e => (HO.out.lt j e).1))
            clear o' c' x'
            go_wp2_with fail
            refine ⟨⟨k + 1, l ++ [x], by omega, by go_num, by rw [HN.out.1]; go_num, O2, hidMk ?_, K2⟩, by simp [intOf]; omega⟩
            rw [HN2.out, List.map_append, List.map_append, HC.out, List.map_singleton, List.map_singleton, HX1.out]
            unfold mkc
            rw [← HFE.out, HY.out]
          · have hkl' : ¬ ((k : Int) < (s.size : Int)) := by omega
            clear hcont
            go_wp2_with fail
            refine (HW.out _ wr).mono ?_
            rintro e w1 ⟨x, rfl, hx1, hx2, hx3, k1⟩
            have HX1 := hidMk hx1
            have HX2 := hidMk hx2
            have HX3 := hidMk hx3
            have K1 := hidMk k1
            unfold wdV
            clear hx1 hx2 hx3 k1
            go_wp2_with (at_builtin; refine wpList_pushW _ rfl _ _ rfl winfo_r rfl ((HO.out.kept K1.out).kept ((Kept.refl _).alloc _)) (by rw [World.size_alloc]; have := (HK.out.trans K1.out).size; omega) w1.heap.size x rfl (wcells_new w1 x _ rfl) (HX2.out.kept ((Kept.refl _).alloc _)) (fun hm ad e e2 => by have h1 := HX3.out hm ad e; have h2 := (HO.out.lt _ e2).2; omega) (by have := HLL.out; omega) ?_; intro g' cap w' o' c' x')
            have O2 := hidMk o'
            have K2 := hidMk (show Kept w w' from Chg.kept ((HK.out.trans K1.out).alloc _) c' (fun j e => (HO.out.lt j e).1))
            clear o' c' x'
            go_wp2_with fail
            refine ⟨⟨k + 1, l ++ [x], by omega, by go_num, by rw [HN.out.1]; go_num, O2, hidMk ?_, K2⟩, by simp [intOf]; omega⟩
            rw [HN2.out, List.map_append, List.map_append, HC.out, List.map_singleton, List.map_singleton, HX1.out]
            unfold mkc
            rw [← HFE.out, HY.out]
        · have hlt' : (k : Int) ≤ (f : Int) := by omega
          have HC2 := hidMk (show l.map cor = (gG s.data.toList (k + 1)).map mkc by have := HN.out.2; rw [if_neg hlt, List.append_nil] at this; rw [this]; exact HC.out)
          by_cases hkl : k < s.size
          · have hb32 : bat s k = 32 := Classical.byContradiction fun e => hcont ⟨hkl, e⟩
            have i1 := run_at (P := Tryd.prog) Tryd.underlying9 s .i64 k hkl
            rw [hb32] at i1
            have hkl' : (k : Int) < (s.size : Int) := by omega
            clear hcont hb32
            go_wp2_with fail
            exact ⟨⟨k + 1, l, by omega, by go_num, by rw [HN.out.1]; go_num, HO, HC2, HK⟩, by simp [intOf]; omega⟩
          · have hkl' : ¬ ((k : Int) < (s.size : Int)) := by omega
            clear hcont
            go_wp2_with fail
            exact ⟨⟨k + 1, l, by omega, by go_num, by rw [HN.out.1]; go_num, HO, HC2, HK⟩, by simp [intOf]; omega⟩
    · have hks' : ¬ ((k : Int) ≤ (s.size : Int)) := by omega
      have HC2 := hidMk (show l.map cor = (tks s.data.toList).map mkc by rw [← g_end (L := s.data.toList) (k := k) (by omega)]; exact HC.out)
      clear hsz
      go_wp2_with fail
      go_ret
      exact ⟨_, l, rfl, HO.out, HC2.out, HK.out⟩
theorem emB_nil {L : List UInt8} (h : tks L = []) : emB L = true := by unfold emB; rw [h]
theorem emB_cons {L : List UInt8} {y : Nat × List UInt8} {r : List (Nat × List UInt8)} (h : tks L = y :: r) : emB L = (y.2.head? == some 35) := by
  unfold emB; rw [h]
theorem bat_head {s : ByteArray} (h : 0 < s.size) : (bat s 0 == 35) = (s.data.toList.head? == some 35) := by
  have hl := data_len s
  obtain ⟨c0, _, hc0, _, hd0⟩ := bat_data s 0 h
  cases hd : s.data.toList with
  | nil => rw [hd] at hl; simp at hl; omega
  | cons c t =>
    rw [hd] at hd0
    obtain rfl : c = c0 := by simpa using hd0
    have e : bat s 0 = (c.toNat : Int) := hc0
    rw [e, List.head?_cons]
    by_cases hc : c = 35
    · subst hc; rfl
    · have h1 : ((c.toNat : Int) == 35) = false := by
        rw [beq_eq_false_iff_ne]
        intro e
        exact hc (UInt8.toNat_inj.1 (by show c.toNat = 35; omega))
      have h2 : ((some c : Option UInt8) == some 35) = false := by
        rw [beq_eq_false_iff_ne]
        intro e
        exact hc (by simpa using e)
      rw [h1, h2]
set_option maxHeartbeats 1000000 in
set_option maxRecDepth 100000 in
theorem ref28_Empty (s : ByteArray) (hs : s.size ≤ 10000) (w : World) : Calls Tryd.prog 12 #[.string s] w fun e w' => e = .returned (.bool (emB s.data.toList)) ∧ Kept w w' := by
  have HW := hidMk (ref28_Words s hs w)
  obtain ⟨z, hz⟩ : ∃ z, emB s.data.toList = z := ⟨_, rfl⟩
  rw [hz]
  have HZ := hidMk hz
  clear hz
  go_enter Tryd.func12, Tryd.ntmps12
  go_wp2_with fail
  refine HW.out.mono ?_
  rintro e w1 ⟨v, l, rfl, ho, hc, k1⟩
  obtain ⟨a, c, rfl, hq, _⟩ := ho.form
  have K1 := hidMk k1
  clear k1 ho
  cases ht : tks s.data.toList with
  | nil =>
    rw [ht] at hc
    obtain rfl : l = [] := by simpa using hc
    have HE := hidMk (show z = true by rw [← HZ.out]; exact emB_nil ht)
    clear hq hc ht
    rw [List.length_nil]
    go_wp2_with fail
    go_ret
    exact ⟨by rw [HE.out]; rfl, K1.out⟩
  | cons y r =>
    rw [ht] at hc
    have hl : 0 < l.length := by have := congrArg List.length hc; rw [List.length_map, List.length_map, List.length_cons] at this; omega
    obtain ⟨b, o, rfl⟩ := hq.form hl
    obtain ⟨a0, a1, a2, a3, a4⟩ := hq.at hl
    have hx : cor (wdA l 0) = mkc y := by
      have := congrArg (·[0]?) hc
      rw [wdA_get hl]
      simpa [List.getElem?_eq_getElem hl] using this
    have hxt : (wdA l 0).t = bstr y.2 := by unfold cor mkc at hx; simp only [Prod.mk.injEq] at hx; exact hx.2.1
    have hy := tks_mem (l := s.data.toList) (y := y) (by rw [ht]; simp)
    have hyl : 0 < (bstr y.2).size := by rw [bstr_size]; cases e : y.2 with | nil => exact absurd e hy.1 | cons _ _ => simp
    have hE : z = (bat (bstr y.2) 0 == 35) := by rw [← HZ.out, emB_cons ht, bat_head hyl, bstr_data]
    rw [hxt] at a1
    have HE := hidMk hE
    have i1 := run_at (P := Tryd.prog) Tryd.underlying9 (bstr y.2) .i64 0 hyl
    have hl' : ((l.length : Int) == 0) = false := by rw [beq_eq_false_iff_ne]; omega
    have hl2 : (0 : Int) < (l.length : Int) := by omega
    have hlb : l.length ≤ 10001 := by
      have h1 := congrArg List.length hc
      rw [List.length_map, List.length_map, ← ht] at h1
      have h2 := tks_len s.data.toList
      rw [data_len] at h2
      omega
    clear hq hc ht hx hy hE hxt
    generalize bstr y.2 = t at *
    generalize l.length = n at *
    have HBG := hidMk (bat_get t 0 hyl)
    clear i1
    go_wp2_with fail
    go_ret
    refine ⟨?_, K1.out⟩
    rw [HE.out, HBG.out]
    rfl
end Go.Proofs.YtifddieoekbnfaaDoor
