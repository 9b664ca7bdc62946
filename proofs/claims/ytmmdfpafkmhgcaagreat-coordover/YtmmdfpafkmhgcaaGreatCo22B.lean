/- The library's slices.Sort at []int at this program, laid by the guide's own tool in plain words. · coord: slices.Values, AppendSeq, Collect, Sort, Sorted at numbers. · coord: slices.AppendSeq, Collect, Sort, Sorted at numbers. · coord: rows of cells that are made one by one; what a leaf is within. · coord: Over. -/
import Derived.Shelf.Sort.Plain
import Derived.Test.YtmmdfpafkmhgcaaGreatProg
import Derived.Test.YtmmdfpafkmhgcaaGreatCo18
import Derived.Lib.SlKeysI
import Derived.Deep.DeepMust
namespace Go.Proofs.YtmmdfpafkmhgcaaGreat
open Go.Shelf
def Tryz.sortI_ren : Go.Shelf.Ren := ⟨fun | 189 => 77 | 125 => 94 | 257 => 93 | 128 => 118 | 129 => 119 | 294 => 109 | 295 => 110 | 296 => 111 | 297 => 112 | 298 => 113 | 299 => 114 | 216 => 115 | 300 => 116 | 301 => 117 | 328 => 123 | 329 => 124 | 330 => 125 | 331 => 126 | 332 => 127 | 215 => 128 | 343 => 129 | n => n, fun | 28 => 40 | 3 => 3 | 46 => 137 | 0 => 0 | 51 => 154 | 53 => 156 | 4 => 4 | 183 => 147 | 182 => 146 | 131 => 151 | 5 => 5 | 9 => 9 | 218 => 158 | 222 => 162 | 228 => 164 | 229 => 90 | n => n, fun | n => n⟩
theorem Tryz.sortI : Go.Proofs.Lays.n189 Tryz.prog Tryz.sortI_ren := {
  mixed := by kernel_rfl
  f125 := Tryz.func94.trans (congrArg some (by kernel_rfl))
  f128 := Tryz.func118.trans (congrArg some (by kernel_rfl))
  f129 := Tryz.func119.trans (congrArg some (by kernel_rfl))
  f189 := Tryz.func77.trans (congrArg some (by kernel_rfl))
  f215 := Tryz.func128.trans (congrArg some (by kernel_rfl))
  f216 := Tryz.func115.trans (congrArg some (by kernel_rfl))
  f257 := Tryz.func93.trans (congrArg some (by kernel_rfl))
  f294 := Tryz.func109.trans (congrArg some (by kernel_rfl))
  f295 := Tryz.func110.trans (congrArg some (by kernel_rfl))
  f296 := Tryz.func111.trans (congrArg some (by kernel_rfl))
  f297 := Tryz.func112.trans (congrArg some (by kernel_rfl))
  f298 := Tryz.func113.trans (congrArg some (by kernel_rfl))
  f299 := Tryz.func114.trans (congrArg some (by kernel_rfl))
  f300 := Tryz.func116.trans (congrArg some (by kernel_rfl))
  f301 := Tryz.func117.trans (congrArg some (by kernel_rfl))
  f328 := Tryz.func123.trans (congrArg some (by kernel_rfl))
  f329 := Tryz.func124.trans (congrArg some (by kernel_rfl))
  f330 := Tryz.func125.trans (congrArg some (by kernel_rfl))
  f331 := Tryz.func126.trans (congrArg some (by kernel_rfl))
  f332 := Tryz.func127.trans (congrArg some (by kernel_rfl))
  f343 := Tryz.func129.trans (congrArg some (by kernel_rfl))
  t0 := Tryz.underlying0
  a0 := Tryz.isAgg0
  z0 := Tryz.sizeOf0
  v0 := Tryz.zeroValue0
  t3 := Tryz.underlying3
  a3 := Tryz.isAgg3
  z3 := Tryz.sizeOf3
  v3 := Tryz.zeroValue3
  t4 := Tryz.underlying4
  a4 := Tryz.isAgg4
  z4 := Tryz.sizeOf4
  v4 := Tryz.zeroValue4
  t5 := Tryz.underlying5
  a5 := Tryz.isAgg5
  z5 := Tryz.sizeOf5
  v5 := Tryz.zeroValue5
  t9 := Tryz.underlying9
  a9 := Tryz.isAgg9
  z9 := Tryz.sizeOf9
  v9 := Tryz.zeroValue9
  t28 := Tryz.underlying40
  a28 := Tryz.isAgg40
  z28 := Tryz.sizeOf40
  v28 := Tryz.zeroValue40
  t46 := Tryz.underlying137
  a46 := Tryz.isAgg137
  z46 := Tryz.sizeOf137
  v46 := Tryz.zeroValue137
  t51 := Tryz.underlying154
  a51 := Tryz.isAgg154
  z51 := Tryz.sizeOf154
  v51 := Tryz.zeroValue154
  t53 := Tryz.underlying156
  a53 := Tryz.isAgg156
  z53 := Tryz.sizeOf156
  v53 := Tryz.zeroValue156
  t131 := Tryz.underlying151
  a131 := Tryz.isAgg151
  z131 := Tryz.sizeOf151
  v131 := Tryz.zeroValue151
  t182 := Tryz.underlying146
  a182 := Tryz.isAgg146
  z182 := Tryz.sizeOf146
  v182 := Tryz.zeroValue146
  t183 := Tryz.underlying147
  a183 := Tryz.isAgg147
  z183 := Tryz.sizeOf147
  v183 := Tryz.zeroValue147
  t218 := Tryz.underlying158
  a218 := Tryz.isAgg158
  z218 := Tryz.sizeOf158
  v218 := Tryz.zeroValue158
  t222 := Tryz.underlying162
  a222 := Tryz.isAgg162
  z222 := Tryz.sizeOf162
  v222 := Tryz.zeroValue162
  t228 := Tryz.underlying164
  a228 := Tryz.isAgg164
  z228 := Tryz.sizeOf164
  v228 := Tryz.zeroValue164
  t229 := Tryz.underlying90
  a229 := Tryz.isAgg90
  z229 := Tryz.sizeOf90
  v229 := Tryz.zeroValue90 }
end Go.Proofs.YtmmdfpafkmhgcaaGreat
namespace Go.Proofs.YtmmdfpafkmhgcaaGreat
open Go.RowKit Go.Maps Go.Shelf
set_option linter.unusedSimpArgs false
set_option linter.unusedVariables false
attribute [local go_sem] Oper.semAt_some

theorem slices_Values (a : Option Addr) (n c : Nat) (w : World) : Calls Tryz.prog 54 #[.slice a n c] w fun e w' => e = .returned (.func (.func 78) #[] #[.pointer (some ⟨w.heap.size, 0, none⟩)]) ∧ w' = w.alloc (.cells #[.slice a n c] 40) := by
  go_enter Tryz.func54, Tryz.ntmps54
  go_wp2_with fail
  go_ret
  exact ⟨rfl, rfl⟩
set_option maxHeartbeats 4000000 in
set_option maxRecDepth 100000 in
theorem values_it {l vb : Nat} {va : Option Addr} {vc m : Nat} (xs : List Int) (W : World) (J : List Int → World → Prop) (hm : xs.length = m) (hlen : m ≤ 1000)
    (hJs : ∀ pre X, J pre X → X.cell? ⟨vb, 0, none⟩ = some (.slice va m vc) ∧ Sl .i64 X va m xs)
    (n : Nat) (hY : ∀ pre x X, J pre X → pre ++ [x] <+: xs → YieldAt Fence.wide (n - 1) Tryz.prog l #[.int .i64 x] X fun e X' => e = .returned (.bool true) ∧ J (pre ++ [x]) X')
    (h0 : J [] W) : CallsIn Fence.wide n Tryz.prog 78 #[.func (.yield l) #[] #[], .pointer (some ⟨vb, 0, none⟩)] W fun e X' => (∃ v, e = .returned v) ∧ J xs X' := by
  have HJS := hidMk hJs
  have HY := hidMk hY
  have c0 := (hJs _ _ h0).1
  have HJ0 := hidMk h0
  have HM := hidMk hm
  clear hJs hY h0 hm
  refine callsIn_of_wp Tryz.func78 rfl trivial ?_ rfl
  simp only [Tryz.ntmps78, List.size_toArray, List.length_cons, List.length_nil, Nat.reduceAdd, Nat.reduceSub, Array.replicate_succ, Array.replicate_zero, List.push_toArray, List.append_toArray, List.nil_append, List.cons_append]
  gi_wp2
  clear c0
  gi_loopw [7] (fun s wr => ∃ j : Nat, j ≤ m ∧ s = .int .i64 j ∧ Hid (J (xs.take j) wr)) (fun s _ => m - (intOf s).toNat)
  case atStart => exact ⟨0, by omega, rfl, HJ0⟩
  case round =>
    clear HJ0
    obtain ⟨j, hjm, rfl, HS⟩ := hrel
    by_cases hj : j < m
    · have hj' : (j : Int) < (m : Int) := by omega
      obtain ⟨b2, o2, hva2, _, hcc⟩ := (HJS.out _ _ HS.out).2.cells (by omega)
      have cv := hcc j hj
      obtain ⟨v, hvv⟩ : ∃ v, v = xs.getD j 0 := ⟨_, rfl⟩
      rw [← hvv] at cv
      subst hva2
      have htake : xs.take (j + 1) = xs.take j ++ [v] := by
        rw [List.take_add_one, List.getElem?_eq_getElem (by have := HM.out; omega), hvv, List.getD_eq_getElem?_getD, List.getElem?_eq_getElem (by have := HM.out; omega)]; rfl
      obtain ⟨fn, tmps, assign, body, hy, hR⟩ := HY.out _ v _ HS.out (by rw [← htake]; exact List.take_prefix _ _)
      rw [← htake] at hR
      have HR := hidMk hR
      clear hR hcc hvv htake HS
      gi_wp2
      refine ⟨fun e => (by cases e), ?_⟩
      refine HR.out.mono ?_
      rintro e X' ⟨rfl, hJ'⟩
      have HF := hidMk hJ'
      clear hJ' HR
      gi_wp2
      go_roundw
      case rel => exact ⟨j + 1, by omega, by go_num, HF⟩
      case measure => simp [intOf]; omega
    · have hje : j = m := by omega
      subst hje
      have hj' : ¬ ((j : Int) < (j : Int)) := by omega
      have HF := hidMk (show J xs wr from by have := HS.out; rw [List.take_of_length_le (by have := HM.out; omega)] at this; exact this)
      clear HS
      gi_wp2
      go_end0
      exact ⟨⟨_, rfl⟩, HF.out⟩
end Go.Proofs.YtmmdfpafkmhgcaaGreat
namespace Go.Proofs.YtmmdfpafkmhgcaaGreat
open Go.RowKit Go.Maps Go.Shelf
set_option linter.unusedSimpArgs false
set_option linter.unusedVariables false

set_option maxHeartbeats 4000000 in
set_option maxRecDepth 100000 in
theorem slices_AppendSeq {w : World} {vb : Nat} {va : Option Addr} {vc m : Nat} {xs : List Int} (hc : w.cell? ⟨vb, 0, none⟩ = some (.slice va m vc)) (hs : Sl .i64 w va m xs) (hm : m ≤ 1000) : Calls Tryz.prog 92 #[.slice none 0 0, .func (.func 78) #[] #[.pointer (some ⟨vb, 0, none⟩)]] w (UndP w xs) := by
  obtain ⟨i0, hi0, hz0, hz1, hz2⟩ := iinfo
  obtain ⟨W0, hW0⟩ : ∃ X, X = w.alloc (.cells #[.slice none 0 0] 40) := ⟨_, rfl⟩
  have HS0 := hidMk (show W0.heap.size = w.heap.size + 1 from by rw [hW0]; simp)
  have HU0 := hidMk (show ∀ Y, Kept W0 Y → w.heap.size + 3 ≤ Y.heap.size → UJ 3 w (fun x : Int => x) [] Y from fun Y kY hY => by
    have c : W0.cell? ⟨w.heap.size, 0, none⟩ = some (.slice none 0 0) := by rw [hW0]; exact new_cell _ _ _ _ 0 _ rfl rfl
    exact ⟨(show Kept w W0 from by rw [hW0]; exact (Kept.refl w).alloc _).trans kY, hY, ⟨_, kY.cellp c, ownI_nil _ _⟩, (kY.frozen (p := ⟨w.heap.size, 0, none⟩) (cell_lt c)).trans (by rw [hW0]; exact new_frozen _ _ _ rfl 0)⟩)
  have HLN := hidMk hs.len
  have HVS := hidMk (fun X (kX : Kept w X) => And.intro (kX.cellp hc) (hs.kept kX))
  have HA := hidMk hi0
  have HZ := hidMk hz0
  clear hi0 hz0 hs hc
  refine (callsIn_wide (n := 3)).1 ?_
  refine callsIn_of_wp_marks Tryz.func92 rfl trivial ?_ rfl
  simp only [Tryz.ntmps92, List.size_toArray, List.length_cons, List.length_nil, Nat.reduceAdd, Nat.reduceSub, Array.replicate_succ, Array.replicate_zero, List.push_toArray, List.append_toArray, List.nil_append, List.cons_append]
  gi_wp2
  rw [← hW0]
  clear hW0
  refine range_su (n := 1) (gf := 78) (lb := #[.pointer (some ⟨vb, 0, none⟩)]) (by rfl) (enters_of Tryz.func78 (by kernel_rfl) rfl) (encs := fun x : Int => #[.int .i64 x]) (fun _ => rfl) xs
    (fun pre X => UJ 3 w (fun x : Int => x) pre X) (fun _ _ => True) (fun pre X o h _ => h.put (by have := HS0.out; omega)) (fun _ _ _ => trivial) (fun _ _ => trivial) ?_ ?_ ?_
  · intro R R' pre x X hJ hpre hR
    have HPL := hidMk (show pre.length < m from by have h1 := (pre_mem hpre).2; have h2 := HLN.out; omega)
    have HR := hidMk hR
    have HJ := hidMk hJ
    clear hpre hR hJ
    gi_wp2_with (rw [Oper.semAt_eq _ _ _ (fun c h => by cases h)]; go_simp; try go_bits)
    refine ⟨HJ.out, trivial, HR.out, ?_⟩
    have HY := hidMk (HJ.out.put (b := W0.heap.size + 1) (o := R') (by have := HS0.out; omega))
    have HRY := hidMk (show Recs W0.heap.size R' (X.putObj (W0.heap.size + 1) R') from ⟨World.putObj_heap_same ((Array.getElem?_eq_some_iff.1 HR.out.1).1), (World.putObj_heap_other (by omega)).trans HR.out.2⟩)
    generalize X.putObj (W0.heap.size + 1) R' = Y at *
    clear HJ HR
    obtain ⟨v, hv, ho⟩ := HY.out.bx
    have hpl : (pre.map fun x : Int => x).length = pre.length := by simp
    have HV := hidMk hv
    have HO := hidMk ho
    clear ho
    have hfz := HY.out.fz
    gi_wp2_with (first | (rw [Oper.semAt_eq _ _ _ (fun c h => by cases h)]; go_simp; try go_bits) | (gi_at_builtin; go_must (refine wpListIn_append_own _ rfl _ _ 40 rfl (w.heap.size + 3) 3 i0 (.int .i64 0) 1 8 Tryz.underlying40 HA.out HZ.out hz1 hz2 rfl (by decide) v (pre.map fun x : Int => x).length ((pre.map fun x : Int => x).map (Value.int .i64)) (by rfl) (World.ownsRow.alloc HO.out _) ⟨Y.heap.size, 0, none⟩ 1 1 [.int .i64 x] (by rfl) rfl (cell_one_new _ _ _) (by simp [Value.oneCell']) (by rw [hpl]; unfold maxLen; have := HPL.out; omega) (by rw [hpl]; have := HPL.out; omega) (by have := HY.out.sz; rw [World.size_alloc]; omega) ?_; intro v' w3 hown' hg3 hnil3; have ho3 : OwnI w3 (w.heap.size + 3) v' ((pre.map fun x : Int => x) ++ [x]) := (by unfold OwnI; simpa using hown'); obtain ⟨a3, c3, hv3, _⟩ := ho3.sl (by rw [List.length_append, hpl]; unfold maxLen; have := HPL.out; simp; omega); subst hv3; have HO3 := hidMk ho3; have HC3 := hidMk (show Chg (fun g => v.ownBlock = some g) (Y.alloc (.cells #[.int .i64 x] 3)) w3 from (Chg.refl _ _).grown hg3 (fun k hk => .inl hk)); have hcb3 := HC3.out.cellp (((Kept.refl Y).alloc _).cellp HV.out) (fun e => by have := (HO.out.lt w.heap.size e).1; omega); have hfb3 : w3.frozen? ⟨w.heap.size, 0, none⟩ = false := (HC3.out.frozen (p := ⟨w.heap.size, 0, none⟩) (cell_lt (((Kept.refl Y).alloc _).cellp HV.out)) (fun e => by have := (HO.out.lt w.heap.size e).1; omega)).trans ((((Kept.refl Y).alloc _).frozen (p := ⟨w.heap.size, 0, none⟩) (cell_lt HV.out)).trans HY.out.fz); clear ho3 hown' hg3 hnil3)))
    obtain ⟨u1, u2⟩ := HY.out.next (x := x) (by omega) ((Kept.refl Y).alloc _) HV.out HC3.out HO3.out
    rw [show ((pre.map fun x : Int => x) ++ [x]).length = pre.length + 1 from by simp] at u1 u2
    refine ⟨u1, ?_, ?_⟩
    · rw [u2.block _ ((Array.getElem?_eq_some_iff.1 HRY.out.1).1) (by have := HS0.out; omega)]; exact HRY.out.1
    · rw [u2.block _ ((Array.getElem?_eq_some_iff.1 HRY.out.2).1) (by have := HS0.out; omega)]; exact HRY.out.2
  · intro R hy
    have hsz := HS0.out
    refine (values_it xs _ (fun pre X => UJ 3 w (fun x : Int => x) pre X ∧ Recs W0.heap.size R X) HLN.out hm (fun pre X h => HVS.out X h.1.kp) (1 + 1) (fun pre x X h hpre => (hy pre x X h.1 h.2 hpre).mono fun e X' h' => ⟨h'.1, h'.2.1, h'.2.2.1⟩) ⟨?_, ?_, ?_⟩).mono ?_
    · exact HU0.out _ (((Kept.refl W0).alloc _).alloc _) (by simp; omega)
    · have := World.alloc_heap_new (W0.alloc (.deferred (some []))) R
      rw [World.size_alloc] at this
      exact this
    · have h1 := World.alloc_heap_new W0 (.deferred (some []))
      have h2 := ((Kept.refl (W0.alloc (.deferred (some [])))).alloc R).block W0.heap.size (by rw [World.size_alloc]; omega)
      exact h2.trans h1
    · rintro e X ⟨h1, h2, h3⟩
      exact ⟨h1, h2, h3⟩
  · intro X hJ hD
    obtain ⟨v, hv, ho⟩ := hJ.bx
    rw [show (xs.map fun x : Int => x) = xs from List.map_id' _] at ho
    obtain ⟨a3, c3, hv3, _⟩ := ho.sl (by have := HLN.out; unfold maxLen; omega)
    subst hv3
    have HO := hidMk ho
    have HKP := hidMk hJ.kp
    have HD := hidMk hD
    clear ho hJ hD
    gi_wp2
    have hsz := HS0.out
    refine ⟨by simp, .inl ⟨_, _, rfl, run_takeDeferred HD.out, ?_⟩⟩
    refine ⟨_, results_tmp rfl _ _ _, _, rfl, ?_, put_kept HKP.out (by omega)⟩
    have := HO.out.chg (chg_put X W0.heap.size (.deferred none)) (fun k hk e => by have := (HO.out.lt k hk).1; omega)
    exact this.base (by omega)
theorem slices_Collect {w : World} {vb : Nat} {va : Option Addr} {vc m : Nat} {xs : List Int} (hc : w.cell? ⟨vb, 0, none⟩ = some (.slice va m vc)) (hs : Sl .i64 w va m xs) (hm : m ≤ 1000) : Calls Tryz.prog 76 #[.func (.func 78) #[] #[.pointer (some ⟨vb, 0, none⟩)]] w (UndP w xs) := by
  have H := hidMk (slices_AppendSeq hc hs hm)
  clear hc hs
  go_enter Tryz.func76, Tryz.ntmps76
  go_wp2_with fail
  refine H.out.mono ?_
  rintro e w1 ⟨v, rfl, ho, k⟩
  have HO := hidMk ho
  have HK := hidMk k
  clear ho k
  go_wp2_with fail
  go_ret
  exact ⟨_, rfl, HO.out, HK.out⟩
/-- The numbers, rising. -/
def sortI (l : List Int) : List Int := l.mergeSort fun x y => decide (x ≤ y)
theorem sortI_len (l : List Int) : (sortI l).length = l.length := List.length_mergeSort _
theorem sortI_mem {l : List Int} {x : Int} : x ∈ sortI l ↔ x ∈ l := List.mem_mergeSort
theorem slices_SortI {w : World} {B : Nat} {v : Value} {xs : List Int} (h : OwnI w B v xs) (h1 : 1 ≤ xs.length) (hx : xs.length ≤ 1000) : Calls Tryz.prog 77 #[v] w fun e w' => e = .returned (.tuple #[]) ∧ OwnI w' B v (sortI xs) ∧ Chg (fun k => v.ownBlock = some k) w w' := by
  have h' := h
  obtain ⟨h0, ⟨rfl, hz⟩ | ⟨g, cap, cur, rfl, hb, hg, hc, hcm, hsz, htk⟩⟩ := h
  · exact absurd hz (by omega)
  · have hH : Go.Sort.Holds (Value.int .i64) w g 0 xs.toArray := holds_of_block_i hg (by simpa using htk)
    have hgl : g < w.heap.size := (Array.getElem?_eq_some_iff.1 hg).1
    refine (Any.slices_Sort_int Tryz.sortI g 0 cap xs w hH hgl (by omega)).mono ?_
    rintro e w' ⟨rfl, n, os, rfl⟩
    refine ⟨rfl, ?_, (Chg.refl _ w).grown (grownBy_sorted_i _) (fun k hk => .inl hk)⟩
    have := ownsRow_sorted_i (n := n) (os := os) (ts := sortI xs) (ss := xs) (sortI_len xs) hb hg hc hcm hsz
    unfold OwnI
    rw [sortI_len]
    exact this
theorem slices_Sorted {w : World} {vb : Nat} {va : Option Addr} {vc m : Nat} {xs : List Int} (hc : w.cell? ⟨vb, 0, none⟩ = some (.slice va m vc)) (hs : Sl .i64 w va m xs) (h1 : 1 ≤ m) (hm : m ≤ 1000) : Calls Tryz.prog 53 #[.func (.func 78) #[] #[.pointer (some ⟨vb, 0, none⟩)]] w (UndP w (sortI xs)) := by
  have H := hidMk (slices_Collect hc hs hm)
  have HL := hidMk (show 1 ≤ xs.length ∧ xs.length ≤ 1000 from by have := hs.len; omega)
  clear hc hs
  go_enter Tryz.func53, Tryz.ntmps53
  go_wp2_with fail
  refine H.out.mono ?_
  rintro e w1 ⟨v, rfl, ho, k⟩
  have HS := hidMk (slices_SortI ho HL.out.1 HL.out.2)
  have HK := hidMk k
  have HO := hidMk ho
  clear ho k
  go_wp2_with fail
  refine HS.out.mono ?_
  rintro e w2 ⟨rfl, ho2, c2⟩
  have HO2 := hidMk ho2
  have HK2 := hidMk (Chg.kept HK.out c2 (fun j e => (HO.out.lt j e).1))
  clear ho2 c2
  go_wp2_with fail
  go_ret
  exact ⟨_, rfl, HO2.out, HK2.out⟩
end Go.Proofs.YtmmdfpafkmhgcaaGreat
namespace Go.Proofs.YtmmdfpafkmhgcaaGreat
open Go.RowKit Go.Maps Go.Shelf
set_option linter.unusedSimpArgs false
set_option linter.unusedVariables false

theorem cells_new (w : World) (vs : Array Value) (t : TypeId) : ∀ (j : Nat) u, vs.toList[j]? = some u → (w.alloc (.cells vs t)).cell? ((⟨w.heap.size, 0, none⟩ : Addr).add j) = some u := by
  intro j u hj
  rw [Addr.add_lit, Nat.zero_add]
  exact new_cell _ _ _ _ j _ rfl (by simpa using hj)
theorem ownsRow_base {w : World} {B B' : Nat} {e : TypeId} {sz : Nat} {v : Value} {n : Nat} {xs : List Value} (h : w.ownsRow B e sz v n xs) (hB : B' ≤ B) : w.ownsRow B' e sz v n xs := by
  obtain ⟨h0, h1 | ⟨g, cap, cur, hv, hb, r⟩⟩ := h
  · exact ⟨h0, .inl h1⟩
  · exact ⟨h0, .inr ⟨g, cap, cur, hv, Nat.le_trans hB hb, r⟩⟩
theorem ownsRow_form {w : World} {B : Nat} {e : TypeId} {sz : Nat} {v : Value} {n : Nat} {xs : List Value} (h : w.ownsRow B e sz v n xs) : ∃ a c, v = .slice a n c := by
  obtain ⟨_, ⟨h1, hz⟩ | ⟨g, cap, cur, h1, _⟩⟩ := h
  · exact ⟨none, 0, by rw [h1, hz]⟩
  · exact ⟨_, _, h1⟩
/-- Between two rounds of a range over a function: what there is so far, in a row of its own N blocks behind WA's. -/
structure UG {α : Type} (e : TypeId) (sz N : Nat) (WA : World) (enc : α → List Value) (pre : List α) (X : World) : Prop where
  kp : Kept WA X
  big : WA.heap.size + N ≤ X.heap.size
  bx : ∃ v, X.cell? ⟨WA.heap.size, 0, none⟩ = some v ∧ X.ownsRow (WA.heap.size + N) e sz v pre.length (pre.flatMap enc)
  fz : X.frozen? ⟨WA.heap.size, 0, none⟩ = false
section
variable {α : Type} {e : TypeId} {sz N : Nat} {WA X Y Z : World} {enc : α → List Value} {pre : List α}
theorem UG.chg {S : Nat → Prop} (h : UG e sz N WA enc pre X) (k : Chg S X Y) (hS : ∀ j, S j → WA.heap.size < j ∧ j < WA.heap.size + N) : UG e sz N WA enc pre Y := by
  obtain ⟨v, h1, h2⟩ := h.bx
  have n0 : ¬ S WA.heap.size := fun e => by have := hS _ e; omega
  exact ⟨Chg.kept h.kp k (fun j e => by have := hS j e; omega), Nat.le_trans h.big k.size, ⟨v, k.cellp h1 n0, ownsRow_chg h2 k (fun g hg e => by have h3 := hS g e; have h4 := (World.ownsRow.lt h2 g hg).1; omega)⟩, (k.frozen (p := ⟨WA.heap.size, 0, none⟩) (cell_lt h1) n0).trans h.fz⟩
theorem UG.keep (h : UG e sz N WA enc pre X) (k : Kept X Y) : UG e sz N WA enc pre Y := h.chg (S := fun _ => False) (Chg.of_kept k) (fun _ e => e.elim)
theorem UG.put {b : Nat} {o : Obj} (h : UG e sz N WA enc pre X) (hb : WA.heap.size < b ∧ b < WA.heap.size + N) : UG e sz N WA enc pre (X.putObj b o) := h.chg (chg_put X b o) (fun j e => by subst e; exact hb)
theorem UG.next (hN : 0 < N) {x : α} (h : UG e sz N WA enc pre X) (k : Kept X Y) {v : Value} (hv : X.cell? ⟨WA.heap.size, 0, none⟩ = some v) (hg : Chg (fun g => v.ownBlock = some g) Y Z) {v' : Value} (ho : Z.ownsRow (WA.heap.size + N) e sz v' (pre.length + 1) (pre.flatMap enc ++ enc x)) : UG e sz N WA enc (pre ++ [x]) (Z.setCell ⟨WA.heap.size, 0, none⟩ v') ∧ Chg (fun j => j = WA.heap.size ∨ WA.heap.size + N ≤ j) X (Z.setCell ⟨WA.heap.size, 0, none⟩ v') := by
  obtain ⟨v0, h1, h2⟩ := h.bx
  rw [h1] at hv
  obtain rfl : v0 = v := by simpa using hv
  have e0 := k.cellp h1
  have hb : ∀ g, v0.ownBlock = some g → WA.heap.size + N ≤ g := fun g e => (World.ownsRow.lt h2 g e).1
  have n0 : ¬ v0.ownBlock = some WA.heap.size := fun e => by have := hb _ e; omega
  have c1 : Chg (fun j => j = WA.heap.size ∨ WA.heap.size + N ≤ j) X Z := (Chg.of_kept k).trans (hg.mono (fun j hj e => .inr (hb j e)))
  have c2 : Chg (fun j => j = WA.heap.size ∨ WA.heap.size + N ≤ j) X (Z.setCell ⟨WA.heap.size, 0, none⟩ v') := c1.setCell (p := ⟨WA.heap.size, 0, none⟩) (.inl (.inl rfl)) _
  have z0 := hg.cellp e0 n0
  have f0 : Z.frozen? ⟨WA.heap.size, 0, none⟩ = false := ((hg.frozen (p := ⟨WA.heap.size, 0, none⟩) (cell_lt e0) n0).trans (k.frozen (p := ⟨WA.heap.size, 0, none⟩) (cell_lt h1))).trans h.fz
  refine ⟨⟨Chg.kept h.kp c2 (fun j e => by omega), Nat.le_trans h.big c2.size, ⟨v', World.cell?_setCell_same _ _ _ z0, ?_⟩, by rw [World.frozen?_setCell]; exact f0⟩, c2⟩
  rw [List.flatMap_append, List.flatMap_singleton, List.length_append, List.length_singleton]
  refine ownsRow_chg ho (S := fun j => j = WA.heap.size) (Chg.setCell (S := fun j => j = WA.heap.size) (Chg.refl _ Z) (p := ⟨WA.heap.size, 0, none⟩) (.inl rfl) _) (fun g hg' e => ?_)
  have := (World.ownsRow.lt ho g hg').1
  omega
end
/-- A cell's five cells. -/
def cfl (m : Int) (x : List Int) : List Value := [.int .i64 m, .int .i64 (at4 x 0), .int .i64 (at4 x 1), .int .i64 (at4 x 2), .int .i64 (at4 x 3)]
theorem cinfo : ∃ i0, Tryz.prog.info? 28 = some i0 ∧ i0.zero = some (cellV 0 (fun _ => 0)) ∧ i0.size = 5 ∧ i0.bytes = 40 := by
  have h : (Tryz.prog.info? 28).map (fun i => (i.zero, i.size, i.bytes)) = some (some (cellV 0 (fun _ => 0)), 5, 40) := by kernel_rfl
  exact info_parts h
/-- The members that a leaf's member is within, rising. -/
noncomputable def upL (ds : List Dm) (N : Int) (k : Nat) : List Int := sortI (abvA (dmL ds k) (lfF ds N ds.length k))
/-- The cells that a leaf is within. -/
noncomputable def ovL (ds : List Dm) (N : Int) : List (List Int) := prods (lsK (upL ds N) ds.length)
/-- A row of cells of one measure, from block B on. -/
def OwnC (w : World) (B : Nat) (v : Value) (m : Int) (l : List (List Int)) : Prop := w.ownsRow B 28 5 v l.length (l.flatMap (cfl m))
noncomputable def OvrP (w : World) (ms : List ByteArray) (ds : List Dm) (n : Int) (e : Ending) (w' : World) : Prop := (okC ms ds n → ∃ v, e = .returned v ∧ OwnC w' w.heap.size v (prQ (fun k => leas ds k) n 4) (ovL ds n)) ∧ (¬ okC ms ds n → e = .returned (.slice none 0 0)) ∧ Kept w w'
theorem abv_one {l : List Nd} (h : Tr l) {i : Int} (hi : isP l i) : 1 ≤ (abvA l i).length ∧ (abvA l i).length ≤ l.length := by
  have h1 := hl_up h.nl hi
  have h2 := (hl_ends h.nl i).2
  unfold hl at h1 h2
  omega
section
variable {w : World} {s p : Nat} {ds : List Dm} {ms : List ByteArray} {tp : Nat → Nat} {rv : Nat → Option Addr × Nat}
/-- A leaf's member is a leaf of its tree. -/
theorem lf_leaf (h : SW w s p ds ms tp rv) {n : Int} (hn : 0 ≤ n ∧ n < mulK (fun k => leas ds k) ms.length 4) {k : Nat} (hk : k < ds.length) : ∃ r : Nat, prA (fun k => leas ds k) n k = r ∧ r < (lvsN (dmL ds k)).length ∧ lfF ds n ds.length k = ((lvsN (dmL ds k)).getD r 0 : Nat) ∧ (lvsN (dmL ds k)).getD r 0 ∈ lvsN (dmL ds k) := by
  have hb0 := (mulK_bound (f := fun k => (leas ds k : Int)) (m := ms.length) (by have := h.m4; omega) (fun k => leas_bound h k)).2.2.2.2
  have hb := rem_bound (prQ_bound ⟨hn.1, (by omega : n ≤ 1000000000000000)⟩ (fun k => leas_pos h k) (3 - k)).1 (leas_pos h k)
  have e : leas ds k = (lvsN (dmL ds k)).length := if_pos hk
  have e1 : prA (fun k => leas ds k) n k = ((prA (fun k => leas ds k) n k).toNat : Int) := by unfold prA; dsimp only; omega
  have e2 : (prA (fun k => leas ds k) n k).toNat < (lvsN (dmL ds k)).length := by unfold prA; dsimp only; omega
  refine ⟨_, e1, e2, ?_, ?_⟩
  · unfold lfF
    rw [if_pos hk]
    generalize (prA (fun k => leas ds k) n k).toNat = r at e2 ⊢
    unfold ints
    rw [List.getD_eq_getElem?_getD, List.getD_eq_getElem?_getD, List.getElem?_map, List.getElem?_eq_getElem e2]
    rfl
  · rw [List.getD_eq_getElem?_getD, List.getElem?_eq_getElem e2]
    exact List.getElem_mem e2
theorem lf_isP (h : SW w s p ds ms tp rv) {n : Int} (hn : 0 ≤ n ∧ n < mulK (fun k => leas ds k) ms.length 4) {k : Nat} (hk : k < ds.length) : isP (dmL ds k) (lfF ds n ds.length k) := by
  obtain ⟨r, _, _, h3, h4⟩ := lf_leaf h hn hk
  rw [h3]
  exact isP_nat ((lvs_mem (h.whole hk).tr).1 h4).1
theorem up_len (h : SW w s p ds ms tp rv) {n : Int} (hn : 0 ≤ n ∧ n < mulK (fun k => leas ds k) ms.length 4) {k : Nat} (hk : k < ds.length) : 1 ≤ (abvA (dmL ds k) (lfF ds n ds.length k)).length ∧ (abvA (dmL ds k) (lfF ds n ds.length k)).length ≤ 60 := by
  have h1 := abv_one (h.whole hk).tr (lf_isP h hn hk)
  have h2 := (h.whole hk).big
  omega
end
end Go.Proofs.YtmmdfpafkmhgcaaGreat
namespace Go.Proofs.YtmmdfpafkmhgcaaGreat
open Go.RowKit Go.Maps Go.Shelf
set_option linter.unusedSimpArgs false
set_option linter.unusedVariables false

section
variable {w : World} {s p : Nat} {ds : List Dm} {ms : List ByteArray} {tp : Nat → Nat} {rv : Nat → Option Addr × Nat}
theorem sw_Over_no (h : SW w s p ds ms tp rv) (n : Int) (hn : ¬ okC ms ds n) : Calls Tryz.prog 29 #[.pointer (some ⟨s, 0, none⟩), .int .i64 n] w fun e w' => e = .returned (.slice none 0 0) ∧ Kept w w' := by
  have HLF := hidMk (callsIn_wide (n := 2).2 (sw_LeafOf h n))
  unfold okC at hn
  simp only [if_neg hn] at HLF
  unfold cellV at HLF
  clear h hn
  refine (callsIn_wide (n := 3)).1 ?_
  refine callsIn_of_wp_marks Tryz.func29 rfl trivial ?_ rfl
  simp only [Tryz.ntmps29, List.size_toArray, List.length_cons, List.length_nil, Nat.reduceAdd, Nat.reduceSub, Array.replicate_succ, Array.replicate_zero, List.push_toArray, List.append_toArray, List.nil_append, List.cons_append]
  gi_wp2
  refine ⟨trivial, ?_⟩
  refine HLF.out.mono ?_
  rintro e w1 ⟨rfl, k1⟩
  have HK := hidMk k1
  clear k1
  gi_wp2
  exact ⟨_, results_tmp rfl _ _ _, rfl, HK.out.alloc _⟩
set_option maxHeartbeats 8000000 in
set_option maxRecDepth 100000 in
theorem sw_Over_yes (h : SW w s p ds ms tp rv) (n : Int) (hn : okC ms ds n) : Calls Tryz.prog 29 #[.pointer (some ⟨s, 0, none⟩), .int .i64 n] w fun e w' => (∃ v, e = .returned v ∧ OwnC w' w.heap.size v (prQ (fun k => leas ds k) n 4) (ovL ds n)) ∧ Kept w w' := by
  obtain ⟨i0, hi0, hz0, hz1, hz2⟩ := cinfo
  unfold cellV at hz0
  have HA := hidMk hi0
  have HZ := hidMk hz0
  clear hi0 hz0
  have HLF := hidMk (callsIn_wide (n := 2).2 (sw_LeafOf h n))
  unfold okC at hn
  simp only [if_pos hn] at HLF
  have HLN := hidMk (show ∀ k, k < ds.length → 1 ≤ (abvA (dmL ds k) (lfF ds n ds.length k)).length ∧ (abvA (dmL ds k) (lfF ds n ds.length k)).length ≤ 60 from fun k hk => up_len h hn hk)
  have HC0 := hidMk (fun X (kX : Kept w X) => (h.keep kX).sp.c0)
  have HMN := hidMk (fun X (kX : Kept w X) => callsIn_wide (n := 2).2 (sw_Many (h.keep kX)))
  have HTR := hidMk (fun X (kX : Kept w X) k (hk : k < ds.length) => sw_Tree (h.keep kX) hk)
  have HAB := hidMk (fun X (kX : Kept w X) k (hk : k < ds.length) i => w_Above ((h.keep kX).whole hk) i)
  have HTG := hidMk (fun a n c w => callsIn_wide (n := 2).2 (coord_together a n c w))
  have H4 := hidMk h.d4
  have HLEN := hidMk (show ∀ l, l ∈ lsK (upL ds n) ds.length → l.length ≤ 60 from fun l hl => by
    simp only [lsK, List.mem_map, List.mem_range] at hl
    obtain ⟨k, hk, rfl⟩ := hl
    have h1 := HLN.out k hk
    unfold upL
    rw [sortI_len]
    omega)
  unfold cellV at HLF
  clear h hn
  generalize prQ (fun k => (leas ds k : Int)) n 4 = pm at *
  refine (callsIn_wide (n := 3)).1 ?_
  refine callsIn_of_wp_marks Tryz.func29 rfl trivial ?_ rfl
  simp only [Tryz.ntmps29, List.size_toArray, List.length_cons, List.length_nil, Nat.reduceAdd, Nat.reduceSub, Array.replicate_succ, Array.replicate_zero, List.push_toArray, List.append_toArray, List.nil_append, List.cons_append]
  gi_wp2
  refine ⟨trivial, ?_⟩
  refine HLF.out.mono ?_
  rintro e w1 ⟨rfl, k1⟩
  obtain ⟨cb, hcb⟩ : ∃ x, x = w1.heap.size := ⟨_, rfl⟩
  obtain ⟨W1, hW1⟩ : ∃ X, X = w1.alloc (.cells #[.int .i64 pm, .int .i64 (lfF ds n ds.length 0), .int .i64 (lfF ds n ds.length 1), .int .i64 (lfF ds n ds.length 2), .int .i64 (lfF ds n ds.length 3)] 28) := ⟨_, rfl⟩
  have HK1 := hidMk (show Kept w W1 from by rw [hW1]; exact k1.alloc _)
  have HCA := hidMk (show ∀ k, k < 4 → W1.cell? ⟨cb, 1 + k, none⟩ = some (.int .i64 (lfF ds n ds.length k)) from fun k hk => by
    rw [hW1]
    have : k = 0 ∨ k = 1 ∨ k = 2 ∨ k = 3 := by omega
    rcases this with rfl | rfl | rfl | rfl
    · exact new_cell _ _ _ _ 1 _ hcb rfl
    · exact new_cell _ _ _ _ 2 _ hcb rfl
    · exact new_cell _ _ _ _ 3 _ hcb rfl
    · exact new_cell _ _ _ _ 4 _ hcb rfl)
  have HCM := hidMk (show W1.cell? ⟨cb, 0, none⟩ = some (.int .i64 pm) from by rw [hW1]; exact new_cell _ _ _ _ 0 _ hcb rfl)
  have c0 : (w1.alloc (.cells #[.int .i64 pm, .int .i64 (lfF ds n ds.length 0), .int .i64 (lfF ds n ds.length 1), .int .i64 (lfF ds n ds.length 2), .int .i64 (lfF ds n ds.length 3)] 28)).cell? ⟨s, 0, none⟩ = some (.pointer (some ⟨p, 0, none⟩)) := HC0.out _ (k1.alloc _)
  clear k1 HLF
  gi_wp2
  refine ⟨trivial, ?_⟩
  rw [← hW1, ← hcb]
  clear hW1 hcb c0
  refine (HMN.out _ HK1.out).mono ?_
  rintro e w2 ⟨rfl, hw2⟩
  rw [hw2]
  clear hw2 w2
  gi_wp2
  refine block_only ?_
  refine wpIn_wide.2 ?_
  go_loopg [7, 24] (ds.length + 1) (fun gg sv x wr => ∃ (j : Nat) (nv : Nat → Option Addr × Nat), j + gg = ds.length + 1 ∧ j ≤ ds.length ∧ x = .int .i64 j ∧ Hid (OwnL wr W1.heap.size sv (upL ds n) j nv ∧ Kept W1 wr))
  case atStart => exact ⟨0, fun _ => (none, 0), by omega, by omega, rfl, hidMk ⟨ownL_nil _ _ _ _, Kept.refl _⟩⟩
  case round =>
    obtain ⟨j, nv, hjg, hjd, rfl, HS⟩ := hrel
    have HG := hidMk hjg
    clear hjg
    by_cases hj : j < ds.length
    · have hj' : (j : Int) < (ds.length : Int) := by omega
      have hj4 : (j : Int) < 4 := by have := H4.out; omega
      have hjn : j < 4 := by omega
      obtain ⟨ra, rc, hsv⟩ := HS.out.1.form
      subst hsv
      have HKD0 := hidMk HS.out.2.drew
      have HCJ := hidMk (HCA.out j hjn)
      have HC2 := hidMk (fun X (kX : Kept W1 X) => HC0.out X (HK1.out.trans kX))
      have HT2 := hidMk (fun X (kX : Kept W1 X) => HTR.out X (HK1.out.trans kX) j hj)
      have HA2 := hidMk (fun X (kX : Kept W1 X) => HAB.out X (HK1.out.trans kX) j hj (lfF ds n ds.length j))
      have HLA := hidMk (HLN.out j hj)
      have HUL := hidMk (show upL ds n j = sortI (abvA (dmL ds j) (lfF ds n ds.length j)) from rfl)
      have HLJ := hidMk (show (upL ds n j).length ≤ maxLen from by rw [HUL.out, sortI_len]; have := HLA.out; unfold maxLen; omega)
      generalize abvA (dmL ds j) (lfF ds n ds.length j) = al at *
      generalize lfF ds n ds.length j = lj at HCJ HA2
      go_upto_region 8 with fail
      refine wp_region_held_drew (S := (fun w' => Kept W1 w')) (by kernel_rfl) ?_ (fun hHeld => ?_)
      · exact HKD0.out
      refine wpAnyH_take (i := 0) (oi := { dst := some 27, op := _, type := _, pos := _, after := _, guard := _ }) (v := ?_) rfl (by kernel_rfl) (by kernel_rfl) (by kernel_rfl) (fun _ _ _ h => h) (Or.inl ⟨by rfl, ?_⟩) (by assumption) ?_
      rotate_left
      · (intro w9 hSw; have c0 := HC2.out w9 hSw; have cj := hSw.cellp HCJ.out; clear hSw; go_simp; (try with_reducible rfl))
      (try simp only [Act.put, List.setIfInBounds_toArray, List.set_cons_zero, List.set_cons_succ])
      refine wpAnyH_take (i := 1) (oi := { dst := some 28, op := _, type := _, pos := _, after := _, guard := _ }) (v := ?_) rfl (by kernel_rfl) (by kernel_rfl) (by kernel_rfl) (fun _ _ _ h => h) (Or.inl ⟨by rfl, ?_⟩) (by assumption) ?_
      rotate_left
      · (intro w9 hSw; have c0 := HC2.out w9 hSw; have cj := hSw.cellp HCJ.out; clear hSw; go_simp; (try with_reducible rfl))
      (try simp only [Act.put, List.setIfInBounds_toArray, List.set_cons_zero, List.set_cons_succ])
      refine wpAnyH_take (i := 2) (oi := { dst := some 29, op := _, type := _, pos := _, after := _, guard := _ }) (v := ?_) rfl (by kernel_rfl) (by kernel_rfl) (by kernel_rfl) (fun _ _ _ h => h) (Or.inl ⟨by rfl, ?_⟩) (by assumption) ?_
      rotate_left
      · (intro w9 hSw; have c0 := HC2.out w9 hSw; have cj := hSw.cellp HCJ.out; clear hSw; go_simp; (try with_reducible rfl))
      (try simp only [Act.put, List.setIfInBounds_toArray, List.set_cons_zero, List.set_cons_succ])
      refine wpAnyH_take (i := 3) (oi := { dst := some 30, op := _, type := _, pos := _, after := _, guard := _ }) (v := ?_) rfl (by kernel_rfl) (by kernel_rfl) (by kernel_rfl) (fun _ _ _ h => h) (Or.inl ⟨by rfl, ?_⟩) (by assumption) ?_
      rotate_left
      · (intro w9 hSw; have c0 := HC2.out w9 hSw; have cj := hSw.cellp HCJ.out; clear hSw; go_simp; (try with_reducible rfl))
      (try simp only [Act.put, List.setIfInBounds_toArray, List.set_cons_zero, List.set_cons_succ])
      refine wpAnyH_take (i := 4) (oi := { dst := some 31, op := _, type := _, pos := _, after := _, guard := _ }) (v := ?_) rfl (by kernel_rfl) (by kernel_rfl) (by kernel_rfl) (fun _ _ _ h => h) (Or.inl ⟨by rfl, ?_⟩) (by assumption) ?_
      rotate_left
      · (intro w9 hSw; have c0 := HC2.out w9 hSw; have cj := hSw.cellp HCJ.out; clear hSw; go_simp; (try with_reducible rfl))
      (try simp only [Act.put, List.setIfInBounds_toArray, List.set_cons_zero, List.set_cons_succ])
      refine wpAnyH_take (i := 5) (oi := { dst := some 32, op := _, type := _, pos := _, after := _, guard := _ }) (v := ?_) rfl (by kernel_rfl) (by kernel_rfl) (by kernel_rfl) (fun _ _ _ h => h) (Or.inl ⟨by rfl, ?_⟩) (by assumption) ?_
      rotate_left
      · (intro w9 hSw; have c0 := HC2.out w9 hSw; have cj := hSw.cellp HCJ.out; clear hSw; go_simp; (try with_reducible rfl))
      (try simp only [Act.put, List.setIfInBounds_toArray, List.set_cons_zero, List.set_cons_succ])
      refine wpAnyH_take (i := 7) (oi := { dst := some 34, op := _, type := _, pos := _, after := _, guard := _ }) (v := ?_) rfl (by kernel_rfl) (by kernel_rfl) (by kernel_rfl) (fun _ _ _ h => h) (Or.inl ⟨by rfl, ?_⟩) (by assumption) ?_
      rotate_left
      · (intro w9 hSw; have c0 := HC2.out w9 hSw; have cj := hSw.cellp HCJ.out; clear hSw; go_simp; (try with_reducible rfl))
      (try simp only [Act.put, List.setIfInBounds_toArray, List.set_cons_zero, List.set_cons_succ])
      refine wpAnyH_take (i := 8) (oi := { dst := some 35, op := _, type := _, pos := _, after := _, guard := _ }) (v := ?_) rfl (by kernel_rfl) (by kernel_rfl) (by kernel_rfl) (fun _ _ _ h => h) (Or.inl ⟨by rfl, ?_⟩) (by assumption) ?_
      rotate_left
      · (intro w9 hSw; have c0 := HC2.out w9 hSw; have cj := hSw.cellp HCJ.out; clear hSw; go_simp; (try with_reducible rfl))
      (try simp only [Act.put, List.setIfInBounds_toArray, List.set_cons_zero, List.set_cons_succ])
      refine wpAnyH_take (i := 9) (oi := { dst := some 36, op := _, type := _, pos := _, after := _, guard := _ }) (v := ?_) rfl (by kernel_rfl) (by kernel_rfl) (by kernel_rfl) (fun _ _ _ h => h) (Or.inl ⟨by rfl, ?_⟩) (by assumption) ?_
      rotate_left
      · (intro w9 hSw; have c0 := HC2.out w9 hSw; have cj := hSw.cellp HCJ.out; clear hSw; go_simp; (try with_reducible rfl))
      (try simp only [Act.put, List.setIfInBounds_toArray, List.set_cons_zero, List.set_cons_succ])
      refine wpAnyH_take (i := 10) (oi := { dst := some 37, op := _, type := _, pos := _, after := _, guard := _ }) (v := ?_) rfl (by kernel_rfl) (by kernel_rfl) (by kernel_rfl) (fun _ _ _ h => h) (Or.inl ⟨by rfl, ?_⟩) (by assumption) ?_
      rotate_left
      · (intro w9 hSw; have c0 := HC2.out w9 hSw; have cj := hSw.cellp HCJ.out; clear hSw; go_simp; (try with_reducible rfl))
      (try simp only [Act.put, List.setIfInBounds_toArray, List.set_cons_zero, List.set_cons_succ])
      refine wpAnyH_ready (rs := [6]) (by kernel_rfl) (by simp) ?_
      refine AllReadyH.cons (o := { dst := some 33, op := _, type := _, pos := _, after := _, guard := _ }) rfl (fun K hK => ?_) AllReadyH.nil
      go_simp
      refine (HT2.out _ HKD0.out).mono ?_
      rintro e w3 ⟨rfl, hw3⟩
      rw [hw3]
      clear hw3 w3
      (try go_wp2_with fail)
      refine hK.out _ _ ?_ (fun hHeld => ?_)
      · (first | exact HKP.out | exact HKN.out.alloc _ | exact HKN.out | exact HKV.out | exact HKA.out | exact HKD0.out)
      clear hK K
      (try simp only [Act.put, List.setIfInBounds_toArray, List.set_cons_zero, List.set_cons_succ])
      refine wpAnyH_ready (rs := [11]) (by kernel_rfl) (by simp) ?_
      refine AllReadyH.cons (o := { dst := some 38, op := _, type := _, pos := _, after := _, guard := _ }) rfl (fun K hK => ?_) AllReadyH.nil
      go_simp
      refine (HA2.out _ HKD0.out).mono ?_
      rintro e wA ⟨v, rfl, hoA, kA⟩
      obtain ⟨aa, ac, haa, has⟩ := hoA.sl (by have := HLA.out; unfold maxLen; omega)
      subst haa
      have HAS := hidMk has
      have HKA := hidMk (HKD0.out.trans kA)
      have HKA0 := hidMk kA
      clear kA hoA has
      (try go_wp2_with fail)
      refine hK.out _ _ ?_ (fun hHeld => ?_)
      · (first | exact HKP.out | exact HKN.out.alloc _ | exact HKN.out | exact HKV.out | exact HKA.out | exact HKD0.out)
      clear hK K
      (try simp only [Act.put, List.setIfInBounds_toArray, List.set_cons_zero, List.set_cons_succ])
      refine wpAnyH_ready (rs := [12]) (by kernel_rfl) (by simp) ?_
      refine AllReadyH.cons (o := { dst := some 39, op := _, type := _, pos := _, after := _, guard := _ }) rfl (fun K hK => ?_) AllReadyH.nil
      go_simp
      refine (slices_Values _ _ _ _).mono ?_
      rintro e wV ⟨rfl, hwV⟩
      have HKV0 := hidMk (show Kept wA wV from by rw [hwV]; exact (Kept.refl wA).alloc _)
      have HVC := hidMk (show wV.cell? ⟨wA.heap.size, 0, none⟩ = some (.slice aa al.length ac) from by rw [hwV]; exact new_cell _ _ _ _ 0 _ rfl rfl)
      have HKV := hidMk (HKA.out.trans HKV0.out)
      clear hwV
      (try go_wp2_with fail)
      refine hK.out _ _ ?_ (fun hHeld => ?_)
      · (first | exact HKP.out | exact HKN.out.alloc _ | exact HKN.out | exact HKV.out | exact HKA.out | exact HKD0.out)
      clear hK K
      (try simp only [Act.put, List.setIfInBounds_toArray, List.set_cons_zero, List.set_cons_succ])
      refine wpAnyH_ready (rs := [13]) (by kernel_rfl) (by simp) ?_
      refine AllReadyH.cons (o := { dst := some 40, op := _, type := _, pos := _, after := _, guard := _ }) rfl (fun K hK => ?_) AllReadyH.nil
      go_simp
      refine (slices_Sorted HVC.out (HAS.out.kept HKV0.out) HLA.out.1 (by have := HLA.out.2; omega)).mono ?_
      rintro e wN ⟨v, rfl, hoN, kN⟩
      rw [← HUL.out] at hoN
      obtain ⟨na, nc, hna, hns⟩ := hoN.sl HLJ.out
      subst hna
      have HNS := hidMk hns
      have HNF := hidMk (show ∀ ad, na = some ad → wV.heap.size ≤ ad.block ∧ ad.block < wN.heap.size from fun ad had => by subst had; exact hoN.lt ad.block (by first | rfl | exact ownB hoN))
      have HKN := hidMk (HKV.out.trans kN)
      have HKN0 := hidMk ((HKA0.out.trans HKV0.out).trans kN)
      clear hns hoN kN
      (try go_wp2_with fail)
      refine hK.out _ _ ?_ (fun hHeld => ?_)
      · (first | exact HKP.out | exact HKN.out.alloc _ | exact HKN.out | exact HKV.out | exact HKA.out | exact HKD0.out)
      clear hK K
      (try simp only [Act.put, List.setIfInBounds_toArray, List.set_cons_zero, List.set_cons_succ])
      refine wpAnyH_ready (rs := [14]) (by kernel_rfl) (by simp) ?_
      refine AllReadyH.cons (o := { dst := some 41, op := _, type := _, pos := _, after := _, guard := _ }) rfl (fun K hK => ?_) AllReadyH.nil
      go_simp
      refine hK.out _ _ ?_ (fun hHeld => ?_)
      · (first | exact HKP.out | exact HKN.out.alloc _ | exact HKN.out | exact HKV.out | exact HKA.out | exact HKD0.out)
      clear hK K
      (try simp only [Act.put, List.setIfInBounds_toArray, List.set_cons_zero, List.set_cons_succ])
      refine wpAnyH_ready (rs := [15]) (by kernel_rfl) (by simp) ?_
      refine AllReadyH.cons (o := { dst := some 42, op := _, type := _, pos := _, after := _, guard := _ }) rfl (fun K hK => ?_) AllReadyH.nil
      refine step_pushL _ (by rfl) _ _ (by rfl) W1.heap.size (.slice ra j rc) (upL ds n) j nv (by rfl) (HS.out.1.kept ((((Kept.refl wr).drew).trans HKN0.out).alloc _)) (by have := HKN.out.size; rw [World.size_alloc]; omega) wN.heap.size na nc (by rfl) (new_cell _ _ _ _ 0 _ rfl rfl) (HNS.out.kept ((Kept.refl wN).alloc _)) (fun ad had => ?_) (by omega) ?_
      · have h1 := HNF.out ad had
        have h2 := (HKA0.out.trans HKV0.out).size
        have h3 := HKV.out.size
        refine ⟨by omega, by rw [World.size_alloc]; omega, fun e => ?_⟩
        have h4 := (HS.out.1.lt _ e).2
        have h5 : wr.drew.heap.size = wr.heap.size := rfl
        omega
      intro g' cap wP hoP cP
      have HOP := hidMk hoP
      have HKP := hidMk (Chg.kept (HKN.out.alloc _) cP (fun k e => (HS.out.1.lt k e).1))
      clear hoP cP
      refine hK.out _ _ ?_ (fun hHeld => ?_)
      · (first | exact HKP.out | exact HKN.out.alloc _ | exact HKN.out | exact HKV.out | exact HKA.out | exact HKD0.out)
      clear hK K
      (try simp only [Act.put, List.setIfInBounds_toArray, List.set_cons_zero, List.set_cons_succ])
      refine wpAnyH_take (i := 16) (oi := { dst := some 7, op := _, type := _, pos := _, after := _, guard := _ }) (v := ?_) rfl (by kernel_rfl) (by kernel_rfl) (by kernel_rfl) (fun _ _ _ h => h) (Or.inl ⟨by rfl, ?_⟩) (by assumption) ?_
      rotate_left
      · (intro w9 hSw; have c0 := HC2.out w9 hSw; have cj := hSw.cellp HCJ.out; clear hSw; go_simp; (try with_reducible rfl))
      (try simp only [Act.put, List.setIfInBounds_toArray, List.set_cons_zero, List.set_cons_succ])
      refine wpAnyH_done (by kernel_rfl) ?_ _
      clear hHeld
      go_wp2_with fail
      go_roundg (gk - 1)
      case measure => have := HG.out; omega
      case rel => exact ⟨j + 1, _, by have := HG.out; omega, by omega, by go_num, hidMk ⟨HOP.out, HKP.out⟩⟩
    · have hje : j = ds.length := by omega
      subst hje
      obtain ⟨ra, rc, hsv⟩ := HS.out.1.form
      subst hsv
      go_wp2_with fail
      obtain ⟨bx, hbx⟩ : ∃ x, x = wr.heap.size := ⟨_, rfl⟩
      obtain ⟨W0, hW0⟩ : ∃ X, X = (wr.alloc (.cells #[.slice none 0 0] 45)).alloc (.cells #[.slice ra ds.length rc] 62) := ⟨_, rfl⟩
      have HS0 := hidMk (show W0.heap.size = bx + 2 from by rw [hW0, hbx]; simp)
      have HW0 := hidMk (show Kept wr W0 from by rw [hW0]; exact ((Kept.refl wr).alloc _).alloc _)
      have HBC := hidMk (show W0.cell? ⟨bx, 0, none⟩ = some (.slice none 0 0) ∧ W0.frozen? ⟨bx, 0, none⟩ = false ∧ W0.cell? ⟨bx + 1, 0, none⟩ = some (.slice ra ds.length rc) from by
        have c0 : (wr.alloc (.cells #[.slice none 0 0] 45)).cell? ⟨bx, 0, none⟩ = some (.slice none 0 0) := new_cell _ _ _ _ 0 _ hbx rfl
        rw [hW0]
        exact ⟨((Kept.refl _).alloc _).cellp c0, (((Kept.refl _).alloc _).frozen (p := ⟨bx, 0, none⟩) (cell_lt c0)).trans (new_frozen _ _ _ hbx 0), new_cell _ _ _ _ 0 _ (by rw [hbx, World.size_alloc]) rfl⟩)
      have HBW := hidMk hbx
      gi_wp2
      refine ⟨trivial, ?_⟩
      refine (HTG.out _ _ _ _).mono ?_
      rintro e w1 ⟨rfl, hw1⟩
      rw [← hW0] at hw1
      rw [hw1]
      clear hw1 w1 hW0
      rw [World.size_alloc]
      rw [← hbx]
      clear hbx
      have HU0 := hidMk (show ∀ Y, Kept W0 Y → wr.heap.size + 7 ≤ Y.heap.size → UG 28 5 7 wr (cfl pm) ([] : List (List Int)) Y from fun Y kY hY => by
        rw [HBW.out] at HBC
        exact ⟨HW0.out.trans kY, hY, ⟨_, kY.cellp HBC.out.1, World.ownsRow_nil _ _ _ _⟩, (kY.frozen (p := ⟨wr.heap.size, 0, none⟩) (cell_lt HBC.out.1)).trans HBC.out.2.1⟩)
      gi_wp2
      refine range_su (n := 1) (gf := 73) (lb := #[.pointer (some ⟨bx + 1, 0, none⟩)]) (by rfl) (enters_of Tryz.func73 (by kernel_rfl) rfl) (encs := fun x : List Int => #[.agg #[.int .i64 (at4 x 0), .int .i64 (at4 x 1), .int .i64 (at4 x 2), .int .i64 (at4 x 3)]]) (fun _ => rfl) (prods (lsK (upL ds n) ds.length))
        (fun pre X => UG 28 5 7 wr (cfl pm) pre X) (fun X Y => Chg (fun j => (j = wr.heap.size ∨ j = wr.heap.size + 3) ∨ wr.heap.size + 7 ≤ j) X Y) (fun pre X o h _ => h.put (by have := HS0.out; have := HBW.out; omega)) (fun X o _ => (chg_put X _ o).mono (fun j _ e => .inl (.inr (by have := HS0.out; have := HBW.out; omega)))) (fun h k => h.trans k) ?_ ?_ ?_
      · intro R R' pre x X hJ hpre hR
        have HPL := hidMk (show pre.length < 12960000 from by have h1 := (pre_mem hpre).2; have h2 := prods_small HLEN.out (by rw [lsK_len]; exact H4.out); omega)
        have HR := hidMk hR
        have HJ := hidMk hJ
        clear hpre hR hJ
        gi_wp2_with (rw [Oper.semAt_eq _ _ _ (fun c h => by cases h)]; go_simp; try go_bits)
        obtain ⟨ab, hab⟩ : ∃ x, x = X.heap.size := ⟨_, rfl⟩
        obtain ⟨X1, hX1⟩ : ∃ V, V = X.alloc (.cells #[.int .i64 (at4 x 0), .int .i64 (at4 x 1), .int .i64 (at4 x 2), .int .i64 (at4 x 3)] 26) := ⟨_, rfl⟩
        have HAT := hidMk (show X1.cell? ⟨ab, 0, none⟩ = some (.int .i64 (at4 x 0)) ∧ X1.cell? ⟨ab, 1, none⟩ = some (.int .i64 (at4 x 1)) ∧ X1.cell? ⟨ab, 2, none⟩ = some (.int .i64 (at4 x 2)) ∧ X1.cell? ⟨ab, 3, none⟩ = some (.int .i64 (at4 x 3)) from by
          rw [hX1]; exact ⟨new_cell _ _ _ _ 0 _ hab rfl, new_cell _ _ _ _ 1 _ hab rfl, new_cell _ _ _ _ 2 _ hab rfl, new_cell _ _ _ _ 3 _ hab rfl⟩)
        have HX1 := hidMk (show Kept X X1 from by rw [hX1]; exact (Kept.refl X).alloc _)
        rw [← hX1, ← hab]
        have HAB2 := hidMk hab
        clear hX1 hab
        refine ⟨HJ.out.keep HX1.out, Chg.of_kept HX1.out, ⟨(HX1.out.block _ ((Array.getElem?_eq_some_iff.1 HR.out.1).1)).trans HR.out.1, (HX1.out.block _ ((Array.getElem?_eq_some_iff.1 HR.out.2).1)).trans HR.out.2⟩, ?_⟩
        have HY := hidMk ((HJ.out.keep HX1.out).put (b := W0.heap.size + 1) (o := R') (by have := HS0.out; have := HBW.out; omega))
        have HRY := hidMk (show Recs W0.heap.size R' (X1.putObj (W0.heap.size + 1) R') from ⟨World.putObj_heap_same (by have h1 := (Array.getElem?_eq_some_iff.1 HR.out.1).1; have h2 := HX1.out.size; omega), (World.putObj_heap_other (by omega)).trans ((HX1.out.block _ ((Array.getElem?_eq_some_iff.1 HR.out.2).1)).trans HR.out.2)⟩)
        have HNE := hidMk (show ab ≠ W0.heap.size + 1 from by have h1 := (Array.getElem?_eq_some_iff.1 HR.out.1).1; have h2 := HAB2.out; omega)
        have HAY := hidMk (show (X1.putObj (W0.heap.size + 1) R').cell? ⟨ab, 0, none⟩ = some (.int .i64 (at4 x 0)) ∧ (X1.putObj (W0.heap.size + 1) R').cell? ⟨ab, 1, none⟩ = some (.int .i64 (at4 x 1)) ∧ (X1.putObj (W0.heap.size + 1) R').cell? ⟨ab, 2, none⟩ = some (.int .i64 (at4 x 2)) ∧ (X1.putObj (W0.heap.size + 1) R').cell? ⟨ab, 3, none⟩ = some (.int .i64 (at4 x 3)) from
          ⟨(put_cell HNE.out).trans HAT.out.1, (put_cell HNE.out).trans HAT.out.2.1, (put_cell HNE.out).trans HAT.out.2.2.1, (put_cell HNE.out).trans HAT.out.2.2.2⟩)
        generalize X1.putObj (W0.heap.size + 1) R' = Y at *
        obtain ⟨a0, a1, a2, a3⟩ := HAY.out
        obtain ⟨v, hv, ho⟩ := HY.out.bx
        have HV := hidMk hv
        have HO := hidMk ho
        have hfz := HY.out.fz
        have hcm := HY.out.kp.cellp (HS.out.2.cellp HCM.out)
        clear ho
        have hbw := HBW.out
        subst hbw
        gi_wp2_with (first | (rw [Oper.semAt_eq _ _ _ (fun c h => by cases h)]; go_simp; try go_bits) | (gi_at_builtin; go_must (refine wpListIn_append_own _ rfl _ _ 45 rfl (wr.heap.size + 7) 28 i0 _ 5 40 Tryz.underlying45 HA.out HZ.out hz1 hz2 rfl (by decide) v pre.length (pre.flatMap (cfl pm)) (by rfl) (World.ownsRow.alloc HO.out _) ⟨Y.heap.size, 0, none⟩ 1 1 (cfl pm x) (by rfl) rfl (cells_new _ _ _) (by simp [Value.oneCell', cfl]) (by unfold maxLen; have := HPL.out; omega) (by have := HPL.out; omega) (by have := HY.out.big; rw [World.size_alloc]; omega) ?_; intro v' w3 hown' hg3 hnil3; obtain ⟨a9, c9, hv3⟩ := ownsRow_form hown'; subst hv3; have HO3 := hidMk hown'; have HC3 := hidMk (show Chg (fun g => v.ownBlock = some g) (Y.alloc (.cells #[.int .i64 pm, .int .i64 (at4 x 0), .int .i64 (at4 x 1), .int .i64 (at4 x 2), .int .i64 (at4 x 3)] 28)) w3 from (Chg.refl _ _).grown hg3 (fun k hk => .inl hk)); have n1 : ¬ v.ownBlock = some wr.heap.size := (fun e => by have := (World.ownsRow.lt HO.out wr.heap.size e).1; omega); have hcb3 := HC3.out.cellp (((Kept.refl Y).alloc _).cellp HV.out) n1; have hfb3 : w3.frozen? ⟨wr.heap.size, 0, none⟩ = false := (HC3.out.frozen (p := ⟨wr.heap.size, 0, none⟩) (cell_lt (((Kept.refl Y).alloc _).cellp HV.out)) n1).trans ((((Kept.refl Y).alloc _).frozen (p := ⟨wr.heap.size, 0, none⟩) (cell_lt HV.out)).trans HY.out.fz); clear hown' hg3 hnil3)))
        obtain ⟨u1, u2⟩ := HY.out.next (x := x) (by omega) ((Kept.refl Y).alloc _) HV.out HC3.out HO3.out
        refine ⟨u1, u2.mono (fun j _ e => by omega), ?_, ?_⟩
        · rw [u2.block _ ((Array.getElem?_eq_some_iff.1 HRY.out.1).1) (by have := HS0.out; omega)]; exact HRY.out.1
        · rw [u2.block _ ((Array.getElem?_eq_some_iff.1 HRY.out.2).1) (by have := HS0.out; omega)]; exact HRY.out.2
      · intro R hy
        have hsz := HS0.out
        have hbw := HBW.out
        refine (together_it (C := fun j => j = wr.heap.size ∨ j = wr.heap.size + 3) (lbx := bx + 1) (l := W0.heap.size + 1) (la := ra) (lc := rc) (d := ds.length) (ls := lsK (upL ds n) ds.length) (nv := nv) ((W0.alloc (.deferred (some []))).alloc R) (fun pre X => UG 28 5 7 wr (cfl pm) pre X ∧ Recs W0.heap.size R X) ?_ ?_ ?_ ?_ ?_ ?_ ?_ ?_ ?_ ?_ (1 + 1)).mono ?_
        · intro pre X Y hJ hc
          have hs2 : ((W0.alloc (.deferred (some []))).alloc R).heap.size + 1 = wr.heap.size + 5 := by simp; omega
          rw [hs2] at hc
          exact ⟨hJ.1.chg hc (fun j e => by omega), ⟨(hc.block _ ((Array.getElem?_eq_some_iff.1 hJ.2.1).1) (by omega)).trans hJ.2.1, (hc.block _ ((Array.getElem?_eq_some_iff.1 hJ.2.2).1) (by omega)).trans hJ.2.2⟩⟩
        · intro m pre x X hJ hpre
          refine yield_any (m := 1) ((hy pre x X hJ.1 hJ.2 hpre).mono ?_)
          rintro e X' ⟨h1, h2, h3, h4⟩
          have hs2 : ((W0.alloc (.deferred (some []))).alloc R).heap.size = wr.heap.size + 4 := by simp; omega
          rw [hs2]
          exact ⟨h1, ⟨h2, h3⟩, h4.mono (fun j _ e => by omega)⟩
        · exact (((Kept.refl W0).alloc _).alloc _).cellp HBC.out.2.2
        · exact (HS.out.1.kept (HW0.out.trans (((Kept.refl W0).alloc _).alloc _))).lls H4.out
        · intro j e
          simp only [World.size_alloc]
          omega
        · omega
        · intro ad e
          subst e
          have h1 := HS.out.1.lt ad.block (by exact ownB HS.out.1)
          simp only [World.size_alloc]
          omega
        · intro k hk ad e
          have h1 := ((HS.out.1.2 k hk).2 ad e).2.1
          simp only [World.size_alloc]
          omega
        · intro i hi
          rw [lsK_get _ hi]
          have := HLEN.out _ (show upL ds n i ∈ lsK (upL ds n) ds.length from by simp only [lsK, List.mem_map, List.mem_range]; exact ⟨i, hi, rfl⟩)
          omega
        · intro Y kY hY
          have hs2 : ((W0.alloc (.deferred (some []))).alloc R).heap.size = wr.heap.size + 4 := by simp; omega
          refine ⟨HU0.out Y ((((Kept.refl W0).alloc _).alloc _).trans kY) (by omega), ?_, ?_⟩
          · have := World.alloc_heap_new (W0.alloc (.deferred (some []))) R
            rw [World.size_alloc] at this
            exact (kY.block _ (by omega)).trans this
          · have h1 := World.alloc_heap_new W0 (.deferred (some []))
            have h2 := ((Kept.refl (W0.alloc (.deferred (some [])))).alloc R).block W0.heap.size (by rw [World.size_alloc]; omega)
            exact (kY.block _ (by omega)).trans (h2.trans h1)
        · rintro e X ⟨h1, h2, h3⟩
          exact ⟨h1, h2, h3⟩
      · intro X hJ hD
        obtain ⟨v, hv, ho⟩ := hJ.bx
        obtain ⟨a3, c3, hv3⟩ := ownsRow_form ho
        subst hv3
        have HO := hidMk ho
        have HKP := hidMk (HK1.out.trans (HS.out.2.trans hJ.kp))
        have HD := hidMk hD
        have hbw := HBW.out
        subst hbw
        clear ho hJ hD
        gi_wp2
        have hsz := HS0.out
        have hk1 := HK1.out.size
        have hk2 := HS.out.2.size
        refine ⟨by simp, .inl ⟨_, _, rfl, run_takeDeferred HD.out, ?_⟩⟩
        refine ⟨_, results_tmp rfl _ _ _, ⟨_, rfl, ?_⟩, put_kept HKP.out (by omega)⟩
        have h9 := ownsRow_chg HO.out (chg_put X W0.heap.size (.deferred none)) (fun k hk e => by have := (World.ownsRow.lt HO.out k hk).1; omega)
        exact ownsRow_base h9 (show w.heap.size ≤ wr.heap.size + 7 by omega)
theorem sw_Over (h : SW w s p ds ms tp rv) (n : Int) : Calls Tryz.prog 29 #[.pointer (some ⟨s, 0, none⟩), .int .i64 n] w (OvrP w ms ds n) := by
  by_cases hn : okC ms ds n
  · exact (sw_Over_yes h n hn).mono fun e w' h => ⟨fun _ => h.1, fun e => absurd hn e, h.2⟩
  · exact (sw_Over_no h n hn).mono fun e w' h => ⟨fun e => absurd e hn, fun _ => h.1, h.2⟩
end
end Go.Proofs.YtmmdfpafkmhgcaaGreat
