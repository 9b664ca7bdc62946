/- coord: slices.Values, AppendSeq, Collect, Sort, Sorted at numbers. · coord: slices.AppendSeq, Collect, Sort, Sorted at numbers. -/
import Derived.Test.YtmmdfpafkmhgcaaGreatCo18
import Derived.Test.YtmmdfpafkmhgcaaGreatIntSort
import Derived.Lib.SlKeysI
import Derived.Deep.DeepMust
namespace Go.Proofs.YtmmdfpafkmhgcaaGreat
open Go.RowKit Go.Maps Go.Shelf
set_option linter.unusedSimpArgs false
set_option linter.unusedVariables false
attribute [local go_sem] Oper.semAt_some

theorem slices_Values (a : Option Addr) (n c : Nat) (w : World) : Calls Tryz.prog 54 #[.slice a n c] w fun e w' => e = .returned (.func (.func 78) #[] #[.pointer (some ⟨w.heap.size, 0, none⟩)]) ∧ w' = w.alloc (.cells #[.slice a n c] 40) := by
  go_enter Tryz.func54, Tryz.ntmps54
  go_wp2_with fail
  go_ret
  exact ⟨rfl, rfl⟩
set_option maxHeartbeats 4000000 in
set_option maxRecDepth 100000 in
theorem values_it {l vb : Nat} {va : Option Addr} {vc m : Nat} (xs : List Int) (W : World) (J : List Int → World → Prop) (hm : xs.length = m) (hlen : m ≤ 1000)
    (hJs : ∀ pre X, J pre X → X.cell? ⟨vb, 0, none⟩ = some (.slice va m vc) ∧ Sl .i64 X va m xs)
    (n : Nat) (hY : ∀ pre x X, J pre X → pre ++ [x] <+: xs → YieldAt Fence.wide (n - 1) Tryz.prog l #[.int .i64 x] X fun e X' => e = .returned (.bool true) ∧ J (pre ++ [x]) X')
    (h0 : J [] W) : CallsIn Fence.wide n Tryz.prog 78 #[.func (.yield l) #[] #[], .pointer (some ⟨vb, 0, none⟩)] W fun e X' => (∃ v, e = .returned v) ∧ J xs X' := by
  have HJS := hidMk hJs
  have HY := hidMk hY
  have c0 := (hJs _ _ h0).1
  have HJ0 := hidMk h0
  have HM := hidMk hm
  clear hJs hY h0 hm
  refine callsIn_of_wp Tryz.func78 rfl trivial ?_ rfl
  simp only [Tryz.ntmps78, List.size_toArray, List.length_cons, List.length_nil, Nat.reduceAdd, Nat.reduceSub, Array.replicate_succ, Array.replicate_zero, List.push_toArray, List.append_toArray, List.nil_append, List.cons_append]
  gi_wp2
  clear c0
  gi_loopw [7] (fun s wr => ∃ j : Nat, j ≤ m ∧ s = .int .i64 j ∧ Hid (J (xs.take j) wr)) (fun s _ => m - (intOf s).toNat)
  case atStart => exact ⟨0, by omega, rfl, HJ0⟩
  case round =>
    clear HJ0
    obtain ⟨j, hjm, rfl, HS⟩ := hrel
    by_cases hj : j < m
    · have hj' : (j : Int) < (m : Int) := by omega
      obtain ⟨b2, o2, hva2, _, hcc⟩ := (HJS.out _ _ HS.out).2.cells (by omega)
      have cv := hcc j hj
      obtain ⟨v, hvv⟩ : ∃ v, v = xs.getD j 0 := ⟨_, rfl⟩
      rw [← hvv] at cv
      subst hva2
      have htake : xs.take (j + 1) = xs.take j ++ [v] := by
        rw [List.take_add_one, List.getElem?_eq_getElem (by have := HM.out; omega), hvv, List.getD_eq_getElem?_getD, List.getElem?_eq_getElem (by have := HM.out; omega)]; rfl
      obtain ⟨fn, tmps, assign, body, hy, hR⟩ := HY.out _ v _ HS.out (by rw [← htake]; exact List.take_prefix _ _)
      rw [← htake] at hR
      have HR := hidMk hR
      clear hR hcc hvv htake HS
      gi_wp2
      refine ⟨fun e => (by cases e), ?_⟩
      refine HR.out.mono ?_
      rintro e X' ⟨rfl, hJ'⟩
      have HF := hidMk hJ'
      clear hJ' HR
      gi_wp2
      go_roundw
      case rel => exact ⟨j + 1, by omega, by go_num, HF⟩
      case measure => simp [intOf]; omega
    · have hje : j = m := by omega
      subst hje
      have hj' : ¬ ((j : Int) < (j : Int)) := by omega
      have HF := hidMk (show J xs wr from by have := HS.out; rw [List.take_of_length_le (by have := HM.out; omega)] at this; exact this)
      clear HS
      gi_wp2
      go_end0
      exact ⟨⟨_, rfl⟩, HF.out⟩
end Go.Proofs.YtmmdfpafkmhgcaaGreat
namespace Go.Proofs.YtmmdfpafkmhgcaaGreat
open Go.RowKit Go.Maps Go.Shelf
set_option linter.unusedSimpArgs false
set_option linter.unusedVariables false

set_option maxHeartbeats 4000000 in
set_option maxRecDepth 100000 in
theorem slices_AppendSeq {w : World} {vb : Nat} {va : Option Addr} {vc m : Nat} {xs : List Int} (hc : w.cell? ⟨vb, 0, none⟩ = some (.slice va m vc)) (hs : Sl .i64 w va m xs) (hm : m ≤ 1000) : Calls Tryz.prog 92 #[.slice none 0 0, .func (.func 78) #[] #[.pointer (some ⟨vb, 0, none⟩)]] w (UndP w xs) := by
  obtain ⟨i0, hi0, hz0, hz1, hz2⟩ := iinfo
  obtain ⟨W0, hW0⟩ : ∃ X, X = w.alloc (.cells #[.slice none 0 0] 40) := ⟨_, rfl⟩
  have HS0 := hidMk (show W0.heap.size = w.heap.size + 1 from by rw [hW0]; simp)
  have HU0 := hidMk (show ∀ Y, Kept W0 Y → w.heap.size + 3 ≤ Y.heap.size → UJ 3 w (fun x : Int => x) [] Y from fun Y kY hY => by
    have c : W0.cell? ⟨w.heap.size, 0, none⟩ = some (.slice none 0 0) := by rw [hW0]; exact new_cell _ _ _ _ 0 _ rfl rfl
    exact ⟨(show Kept w W0 from by rw [hW0]; exact (Kept.refl w).alloc _).trans kY, hY, ⟨_, kY.cellp c, ownI_nil _ _⟩, (kY.frozen (p := ⟨w.heap.size, 0, none⟩) (cell_lt c)).trans (by rw [hW0]; exact new_frozen _ _ _ rfl 0)⟩)
  have HLN := hidMk hs.len
  have HVS := hidMk (fun X (kX : Kept w X) => And.intro (kX.cellp hc) (hs.kept kX))
  have HA := hidMk hi0
  have HZ := hidMk hz0
  clear hi0 hz0 hs hc
  refine (callsIn_wide (n := 3)).1 ?_
  refine callsIn_of_wp_marks Tryz.func92 rfl trivial ?_ rfl
  simp only [Tryz.ntmps92, List.size_toArray, List.length_cons, List.length_nil, Nat.reduceAdd, Nat.reduceSub, Array.replicate_succ, Array.replicate_zero, List.push_toArray, List.append_toArray, List.nil_append, List.cons_append]
  gi_wp2
  rw [← hW0]
  clear hW0
  refine range_su (n := 1) (gf := 78) (lb := #[.pointer (some ⟨vb, 0, none⟩)]) (by rfl) (enters_of Tryz.func78 (by kernel_rfl) rfl) (encs := fun x : Int => #[.int .i64 x]) (fun _ => rfl) xs
    (fun pre X => UJ 3 w (fun x : Int => x) pre X) (fun _ _ => True) (fun pre X o h _ => h.put (by have := HS0.out; omega)) (fun _ _ _ => trivial) (fun _ _ => trivial) ?_ ?_ ?_
  · intro R R' pre x X hJ hpre hR
    have HPL := hidMk (show pre.length < m from by have h1 := (pre_mem hpre).2; have h2 := HLN.out; omega)
    have HR := hidMk hR
    have HJ := hidMk hJ
    clear hpre hR hJ
    gi_wp2_with (rw [Oper.semAt_eq _ _ _ (fun c h => by cases h)]; go_simp; try go_bits)
    refine ⟨HJ.out, trivial, HR.out, ?_⟩
    have HY := hidMk (HJ.out.put (b := W0.heap.size + 1) (o := R') (by have := HS0.out; omega))
    have HRY := hidMk (show Recs W0.heap.size R' (X.putObj (W0.heap.size + 1) R') from ⟨World.putObj_heap_same ((Array.getElem?_eq_some_iff.1 HR.out.1).1), (World.putObj_heap_other (by omega)).trans HR.out.2⟩)
    generalize X.putObj (W0.heap.size + 1) R' = Y at *
    clear HJ HR
    obtain ⟨v, hv, ho⟩ := HY.out.bx
    have hpl : (pre.map fun x : Int => x).length = pre.length := by simp
    have HV := hidMk hv
    have HO := hidMk ho
    clear ho
    have hfz := HY.out.fz
    gi_wp2_with (first | (rw [Oper.semAt_eq _ _ _ (fun c h => by cases h)]; go_simp; try go_bits) | (gi_at_builtin; go_must (refine wpListIn_append_own _ rfl _ _ 40 rfl (w.heap.size + 3) 3 i0 (.int .i64 0) 1 8 Tryz.underlying40 HA.out HZ.out hz1 hz2 rfl (by decide) v (pre.map fun x : Int => x).length ((pre.map fun x : Int => x).map (Value.int .i64)) (by rfl) (World.ownsRow.alloc HO.out _) ⟨Y.heap.size, 0, none⟩ 1 1 [.int .i64 x] (by rfl) rfl (cell_one_new _ _ _) (by simp [Value.oneCell']) (by rw [hpl]; unfold maxLen; have := HPL.out; omega) (by rw [hpl]; have := HPL.out; omega) (by have := HY.out.sz; rw [World.size_alloc]; omega) ?_; intro v' w3 hown' hg3 hnil3; have ho3 : OwnI w3 (w.heap.size + 3) v' ((pre.map fun x : Int => x) ++ [x]) := (by unfold OwnI; simpa using hown'); obtain ⟨a3, c3, hv3, _⟩ := ho3.sl (by rw [List.length_append, hpl]; unfold maxLen; have := HPL.out; simp; omega); subst hv3; have HO3 := hidMk ho3; have HC3 := hidMk (show Chg (fun g => v.ownBlock = some g) (Y.alloc (.cells #[.int .i64 x] 3)) w3 from (Chg.refl _ _).grown hg3 (fun k hk => .inl hk)); have hcb3 := HC3.out.cellp (((Kept.refl Y).alloc _).cellp HV.out) (fun e => by have := (HO.out.lt w.heap.size e).1; omega); have hfb3 : w3.frozen? ⟨w.heap.size, 0, none⟩ = false := (HC3.out.frozen (p := ⟨w.heap.size, 0, none⟩) (cell_lt (((Kept.refl Y).alloc _).cellp HV.out)) (fun e => by have := (HO.out.lt w.heap.size e).1; omega)).trans ((((Kept.refl Y).alloc _).frozen (p := ⟨w.heap.size, 0, none⟩) (cell_lt HV.out)).trans HY.out.fz); clear ho3 hown' hg3 hnil3)))
    obtain ⟨u1, u2⟩ := HY.out.next (x := x) (by omega) ((Kept.refl Y).alloc _) HV.out HC3.out HO3.out
    rw [show ((pre.map fun x : Int => x) ++ [x]).length = pre.length + 1 from by simp] at u1 u2
    refine ⟨u1, ?_, ?_⟩
    · rw [u2.block _ ((Array.getElem?_eq_some_iff.1 HRY.out.1).1) (by have := HS0.out; omega)]; exact HRY.out.1
    · rw [u2.block _ ((Array.getElem?_eq_some_iff.1 HRY.out.2).1) (by have := HS0.out; omega)]; exact HRY.out.2
  · intro R hy
    have hsz := HS0.out
    refine (values_it xs _ (fun pre X => UJ 3 w (fun x : Int => x) pre X ∧ Recs W0.heap.size R X) HLN.out hm (fun pre X h => HVS.out X h.1.kp) (1 + 1) (fun pre x X h hpre => (hy pre x X h.1 h.2 hpre).mono fun e X' h' => ⟨h'.1, h'.2.1, h'.2.2.1⟩) ⟨?_, ?_, ?_⟩).mono ?_
    · exact HU0.out _ (((Kept.refl W0).alloc _).alloc _) (by simp; omega)
    · have := World.alloc_heap_new (W0.alloc (.deferred (some []))) R
      rw [World.size_alloc] at this
      exact this
    · have h1 := World.alloc_heap_new W0 (.deferred (some []))
      have h2 := ((Kept.refl (W0.alloc (.deferred (some [])))).alloc R).block W0.heap.size (by rw [World.size_alloc]; omega)
      exact h2.trans h1
    · rintro e X ⟨h1, h2, h3⟩
      exact ⟨h1, h2, h3⟩
  · intro X hJ hD
    obtain ⟨v, hv, ho⟩ := hJ.bx
    rw [show (xs.map fun x : Int => x) = xs from List.map_id' _] at ho
    obtain ⟨a3, c3, hv3, _⟩ := ho.sl (by have := HLN.out; unfold maxLen; omega)
    subst hv3
    have HO := hidMk ho
    have HKP := hidMk hJ.kp
    have HD := hidMk hD
    clear ho hJ hD
    gi_wp2
    have hsz := HS0.out
    refine ⟨by simp, .inl ⟨_, _, rfl, run_takeDeferred HD.out, ?_⟩⟩
    refine ⟨_, results_tmp rfl _ _ _, _, rfl, ?_, put_kept HKP.out (by omega)⟩
    have := HO.out.chg (chg_put X W0.heap.size (.deferred none)) (fun k hk e => by have := (HO.out.lt k hk).1; omega)
    exact this.base (by omega)
theorem slices_Collect {w : World} {vb : Nat} {va : Option Addr} {vc m : Nat} {xs : List Int} (hc : w.cell? ⟨vb, 0, none⟩ = some (.slice va m vc)) (hs : Sl .i64 w va m xs) (hm : m ≤ 1000) : Calls Tryz.prog 76 #[.func (.func 78) #[] #[.pointer (some ⟨vb, 0, none⟩)]] w (UndP w xs) := by
  have H := hidMk (slices_AppendSeq hc hs hm)
  clear hc hs
  go_enter Tryz.func76, Tryz.ntmps76
  go_wp2_with fail
  refine H.out.mono ?_
  rintro e w1 ⟨v, rfl, ho, k⟩
  have HO := hidMk ho
  have HK := hidMk k
  clear ho k
  go_wp2_with fail
  go_ret
  exact ⟨_, rfl, HO.out, HK.out⟩
/-- The numbers, rising. -/
def sortI (l : List Int) : List Int := l.mergeSort fun x y => decide (x ≤ y)
theorem sortI_len (l : List Int) : (sortI l).length = l.length := List.length_mergeSort _
theorem sortI_mem {l : List Int} {x : Int} : x ∈ sortI l ↔ x ∈ l := List.mem_mergeSort
theorem slices_SortI {w : World} {B : Nat} {v : Value} {xs : List Int} (h : OwnI w B v xs) (h1 : 1 ≤ xs.length) (hx : xs.length ≤ 1000) : Calls Tryz.prog 77 #[v] w fun e w' => e = .returned (.tuple #[]) ∧ OwnI w' B v (sortI xs) ∧ Chg (fun k => v.ownBlock = some k) w w' := by
  have h' := h
  obtain ⟨h0, ⟨rfl, hz⟩ | ⟨g, cap, cur, rfl, hb, hg, hc, hcm, hsz, htk⟩⟩ := h
  · exact absurd hz (by omega)
  · have hH : Go.Sort.Holds (Value.int .i64) w g 0 xs.toArray := holds_of_block_i hg (by simpa using htk)
    have hgl : g < w.heap.size := (Array.getElem?_eq_some_iff.1 hg).1
    refine (Any.slices_Sort_int Tryz.sortI g 0 cap xs w hH hgl (by omega)).mono ?_
    rintro e w' ⟨rfl, n, os, rfl⟩
    refine ⟨rfl, ?_, (Chg.refl _ w).grown (grownBy_sorted_i _) (fun k hk => .inl hk)⟩
    have := ownsRow_sorted_i (n := n) (os := os) (ts := sortI xs) (ss := xs) (sortI_len xs) hb hg hc hcm hsz
    unfold OwnI
    rw [sortI_len]
    exact this
theorem slices_Sorted {w : World} {vb : Nat} {va : Option Addr} {vc m : Nat} {xs : List Int} (hc : w.cell? ⟨vb, 0, none⟩ = some (.slice va m vc)) (hs : Sl .i64 w va m xs) (h1 : 1 ≤ m) (hm : m ≤ 1000) : Calls Tryz.prog 53 #[.func (.func 78) #[] #[.pointer (some ⟨vb, 0, none⟩)]] w (UndP w (sortI xs)) := by
  have H := hidMk (slices_Collect hc hs hm)
  have HL := hidMk (show 1 ≤ xs.length ∧ xs.length ≤ 1000 from by have := hs.len; omega)
  clear hc hs
  go_enter Tryz.func53, Tryz.ntmps53
  go_wp2_with fail
  refine H.out.mono ?_
  rintro e w1 ⟨v, rfl, ho, k⟩
  have HS := hidMk (slices_SortI ho HL.out.1 HL.out.2)
  have HK := hidMk k
  have HO := hidMk ho
  clear ho k
  go_wp2_with fail
  refine HS.out.mono ?_
  rintro e w2 ⟨rfl, ho2, c2⟩
  have HO2 := hidMk ho2
  have HK2 := hidMk (Chg.kept HK.out c2 (fun j e => (HO.out.lt j e).1))
  clear ho2 c2
  go_wp2_with fail
  go_ret
  exact ⟨_, rfl, HO2.out, HK2.out⟩
end Go.Proofs.YtmmdfpafkmhgcaaGreat
