/- Make. -/
import Derived.Test.YtjkbhaplngnniaaDoorAr9
namespace Go.Proofs.YtjkbhaplngnniaaDoor
open Go.RowKit
set_option linter.unusedSimpArgs false
set_option linter.unusedVariables false

theorem low_ex {n : Nat} {rf : Int → Nat} (h : RfOk n rf) : ∃ x, LowN rf x := by
  have aux : ∀ m, (∀ j : Nat, 1 ≤ j → j ≤ m → rf j ≠ 0) ∨ ∃ x, LowN rf x := by
    intro m
    induction m with
    | zero => exact .inl (fun j h1 h2 => by omega)
    | succ m ih =>
      rcases ih with ih | ih
      · by_cases c : rf (m + 1 : Nat) = 0
        · exact .inr ⟨m + 1, ⟨by omega, c, fun j h1 h2 => ih j h1 (by omega)⟩⟩
        · refine .inl (fun j h1 h2 => ?_)
          by_cases e : j = m + 1
          · subst e; exact c
          · exact ih j h1 (by omega)
      · exact .inr ih
  rcases aux (n + 1) with h1 | h1
  · exact absurd (h _ (by omega)) (h1 (n + 1) (by omega) (Nat.le_refl _))
  · exact h1
theorem low_inc {rf : Int → Nat} {l : List Int} {x : Nat} (h : LowN rf x) : LowN (incR rf l) x := ⟨h.one, (incR_zero rf l x).2 h.free, fun j h1 h2 e => h.ahead j h1 h2 ((incR_zero rf l j).1 e)⟩
theorem twentyfive {l : List Value} (h : l.length = 25) : ∃ a0 a1 a2 a3 a4 a5 a6 a7 a8 a9 b0 b1 b2 b3 b4 b5 b6 b7 b8 b9 c0 c1 c2 c3 c4, l = [a0, a1, a2, a3, a4, a5, a6, a7, a8, a9, b0, b1, b2, b3, b4, b5, b6, b7, b8, b9, c0, c1, c2, c3, c4] := by
  match l, h with
  | [a0, a1, a2, a3, a4, a5, a6, a7, a8, a9, b0, b1, b2, b3, b4, b5, b6, b7, b8, b9, c0, c1, c2, c3, c4], _ => exact ⟨_, _, _, _, _, _, _, _, _, _, _, _, _, _, _, _, _, _, _, _, _, _, _, _, _, rfl⟩
theorem buildPl {L : List Value} (hL : L.length = 25) (w : World) : (Instr.build 104 #[(0, .agg L.toArray), (1, .int .i64 1)]).run Tryd.prog w = .ok (.agg (L ++ [Value.int .i64 1]).toArray) w := by
  obtain ⟨a0, a1, a2, a3, a4, a5, a6, a7, a8, a9, b0, b1, b2, b3, b4, b5, b6, b7, b8, b9, c0, c1, c2, c3, c4, rfl⟩ := twentyfive hL
  kernel_rfl
theorem wpl_buildPl {ops : Array Oper} {rest : List Oper} {o : Oper} {a : Act} {w : World} {Q : Exit → Act → World → Prop} {L : List Value} (hL : L.length = 25) (hg : o.guard = none) {x y : Operand} (ho : o.op = .build 104 #[(0, x), (1, y)]) (hx : a.eval x = .agg L.toArray) (hy : a.eval y = .int .i64 1)
    (h : wpList Tryd.prog ops Q rest (a.put o.dst (.agg (L ++ [Value.int .i64 1]).toArray)) w) : wpList Tryd.prog ops Q (o :: rest) a w := by
  refine wpl_to hg _ _ ?_ h
  unfold execOp
  simp only [ho, List.map_toArray, List.map_cons, List.map_nil, hx, hy, Sem.run_bind, buildPl hL, Result.andThen_ok, Sem.run_pure]
theorem range_kids {w : World} {b : Nat} {x : ANd} (hk : x.kids.length = 8) (h : w.rangeAt b 0 (ndL x)) : w.rangeAt b 1 (kdV x.kids) := by
  intro j v hv
  have hj : j < 8 := by have := (List.getElem?_eq_some_iff.1 hv).1; unfold kdV at this; simp [hk] at this; exact this
  have e : (kdV x.kids)[j]? = (ndL x)[1 + j]? := by
    rw [ndL_kid x hk j hj]
    unfold kdV
    rw [List.getElem?_map, List.getElem?_eq_getElem (by omega), List.getD_eq_getElem?_getD, List.getElem?_eq_getElem (by omega)]
    rfl
  have := h (1 + j) v (by rw [← e]; exact hv)
  rw [Nat.zero_add] at this
  exact this
section
variable {w : World} {p B : Nat} {most : Int} {n : Nat} {rf q : Int → Nat} {nd : Int → ANd} {M : Nat} {wd : Nat → Nat} {v : Value} {xs : List Value}
def MakePost (w : World) (p B : Nat) (most : Int) (n : Nat) (rf : Int → Nat) (nd : Int → ANd) (M : Nat) (v : Value) (y : ANd) (e : Ending) (w' : World) : Prop :=
  (haveB rf y.kids = false ∧ e = .returned (.tuple #[.int .i64 0, .int .i64 10]) ∧ Kept w w') ∨
  (haveB rf y.kids = true ∧ most ≤ usd rf n ∧ e = .returned (.tuple #[.int .i64 0, .int .i64 14]) ∧ Kept w w') ∨
  (haveB rf y.kids = true ∧ (usd rf n : Int) < most ∧ ∃ x, LowN rf x ∧ e = .returned (.tuple #[.int .i64 (x : Nat), .int .i64 0]) ∧ (∃ n' wd' v' xs', n' = max n x ∧ AR w' p B most n' (setR (incR rf y.kids) x 1) (updN nd x y) (M + 9) wd' v' xs' ∧ (∀ g, v'.ownBlock = some g → v.ownBlock = some g ∨ w.heap.size ≤ g)) ∧ Chg (fun j => j = p ∨ v.ownBlock = some j) w w')
theorem AR.raise (h : AR w p B most n rf nd M wd v xs) {M' : Nat} (h1 : M ≤ M') (h2 : M' ≤ 4611686018427387904) : AR w p B most n rf nd M' wd v xs :=
  ⟨h.c0, h.c1, h.c2, h.c3, h.fz, h.own, h.refs, h.nodes, h.word, h.bit, h.ok, h.kok, h.pB, h.B1, h.m1, h.m2, h.nm, fun i => Nat.le_trans (h.rb i) h1, h2⟩
set_option maxHeartbeats 4000000 in
set_option maxRecDepth 100000 in
theorem arena_Make (h : AR w p B most n rf nd M wd v xs) (hV : Vars w) (h0 : 0 < p) (hv0 : v.ownBlock ≠ some 0) (hM : M + 9 ≤ 4611686018427387904) (x : ANd) (hx : x.kids.length = 8 ∧ x.vals.length = 8) :
    Calls Tryd.prog 53 #[.pointer (some ⟨p, 0, none⟩), ndV x] w (MakePost w p B most n rf nd M v (bareN x)) := by
  have hy := bareN_ok hx.1 hx.2
  have hlx := ndL_len x hx.1 hx.2
  have hly := ndL_len (bareN x) hy.1 hy.2
  have hox := ndL_one (bareN x)
  obtain ⟨W, hW⟩ : ∃ W, W = w.alloc (.cells (ndL x).toArray 91) := ⟨_, rfl⟩
  have kW : Kept w W := by rw [hW]; exact (Kept.refl w).alloc _
  have r1 : W.rangeAt w.heap.size 0 (ndL x) := by rw [hW]; exact new_range _ _ _
  have t1 : W.there w.heap.size 0 25 := by rw [hW]; exact new_there _ _ _ _ hlx
  have hsW : w.heap.size < W.heap.size := by rw [hW]; simp
  have HBR := hidMk (arena_bare x hx.1 hx.2 W)
  have HA := hidMk h
  have HV := hidMk hV
  have HW := hidMk (And.intro r1 (And.intro t1 hsW))
  have HKW := hidMk kW
  have HY := hidMk hy
  have HLY := hidMk (And.intro hly hox)
  have HLX := hidMk hlx
  have hlt := h.lt
  clear h hV hlx hly hox kW r1 t1 hsW hy
  unfold ndV at HBR ⊢
  generalize hbx : bareN x = y at *
  obtain ⟨LX, hLX⟩ : ∃ LX, ndL x = LX := ⟨_, rfl⟩
  obtain ⟨LY, hLY⟩ : ∃ LY, ndL y = LY := ⟨_, rfl⟩
  rw [hLX] at hW HW HLX HBR ⊢
  rw [hLY] at HLY HBR
  have HEY := hidMk hLY
  clear hLX hLY hbx
  go_enter Tryd.func53, Tryd.ntmps53
  go_wp2_with (first | (refine wpl_loadT nd_size nd_row rfl _ rfl _ _ rfl LX HLX.out (by rw [← hW]; exact HW.out.1) ?_))
  rw [← hW]
  clear hW
  refine HBR.out.mono ?_
  rintro e w1 ⟨rfl, k1⟩
  have K1 := hidMk (HKW.out.trans k1)
  have HT1 := hidMk (k1.there HW.out.2.2 HW.out.2.1)
  have hs1 : w.heap.size < w1.heap.size := Nat.lt_of_lt_of_le HW.out.2.2 k1.size
  clear k1 HBR
  obtain ⟨w2, hw2⟩ : ∃ w2, w2 = w1.setCells w.heap.size 0 LY := ⟨_, rfl⟩
  have hr2 : w2.rangeAt w.heap.size 0 LY := by rw [hw2]; exact World.rangeAt_setCells_same _ _ _ _ (by rw [HLY.out.1]; exact HT1.out)
  have K2 := hidMk (show Kept w w2 by rw [hw2]; exact kept_setCells (Nat.le_refl _) _ _ K1.out)
  have HR2 := hidMk hr2
  have HRK := hidMk (show w2.rangeAt w.heap.size 1 (kdV y.kids) from range_kids HY.out.1 (by rw [HEY.out]; exact hr2))
  have HKL := hidMk (show (kdV y.kids).length = 8 by unfold kdV; simp [HY.out.1])
  have hA2 := HA.out.kept K2.out
  have HHA := hidMk (arena_haveAll hA2 y.kids HY.out.1)
  have HA2 := hidMk hA2
  clear hr2 hA2
  generalize hkd : kdV y.kids = KV at *
  go_wp2_with (first | (refine wpl_storeT nd_size rfl _ _ rfl _ _ rfl LY HLY.out.1 rfl HLY.out.2 HT1.out ?_; rw [← hw2]; clear hw2) | (refine wpl_loadT k_size k_row rfl _ rfl _ _ rfl KV HKL.out HRK.out ?_))
  refine HHA.out.mono ?_
  rintro e w3 ⟨rfl, k3⟩
  have K3 := hidMk (K2.out.trans k3)
  have HA3 := hidMk (HA2.out.kept k3)
  have HRK3 := hidMk (k3.range HRK.out)
  have HR3 := hidMk (k3.range HR2.out)
  have HS3 := hidMk (Nat.lt_of_lt_of_le (show w.heap.size < w2.heap.size from cell_lt (p := ⟨w.heap.size, 0, none⟩) (by
    have := HR2.out 0 _ (List.getElem?_eq_getElem (show 0 < LY.length by rw [HLY.out.1]; omega))
    exact this)) k3.size)
  clear k3 HHA HA2 HRK HR2
  cases hhb : haveB rf y.kids with
  | false =>
    have HB := hidMk hhb
    clear hhb
    go_wp2_with fail
    go_ret2
    exact .inl ⟨HB.out, rfl, K3.out⟩
  | true =>
    have HB := hidMk hhb
    clear hhb
    have c0 := HA3.out.c0
    have c1 := HA3.out.c1
    by_cases hum : (usd rf n : Int) < most
    · have hum' : ¬ (most ≤ (usd rf n : Int)) := by omega
      have HLS := hidMk (show (y.kids).length = 8 from HY.out.1)
      have hG : ∀ k : Nat, k < 8 → ∀ W, (Instr.index 83 (.agg KV.toArray) (.int .i64 (k : Int))).run Tryd.prog W = .ok (.int .i64 (y.kids.getD k 0)) W := fun k hk W => index8 HKL.out hk (by rw [← hkd]; exact kdV_get (by rw [HLS.out]; exact hk)) W
      have HG := hidMk hG
      have HBB := hidMk (show ∀ k, k < 8 → y.kids.getD k 0 = 0 ∨ rf (y.kids.getD k 0) ≠ 0 from fun k hk => by
        have := HB.out
        unfold haveB at this
        rw [List.all_eq_true] at this
        have h2 := this (y.kids.getD k 0) (by
          rw [List.getD_eq_getElem?_getD, List.getElem?_eq_getElem (by rw [HLS.out]; exact hk)]
          exact List.getElem_mem _)
        simpa using h2)
      have HTK := hidMk (show ∀ k, k < 8 → y.kids.take (k + 1) = y.kids.take k ++ [y.kids.getD k 0] from fun k hk => by
        rw [List.take_succ_eq_append_getElem (by rw [HLS.out]; exact hk), List.getD_eq_getElem?_getD, List.getElem?_eq_getElem (by rw [HLS.out]; exact hk)]
        rfl)
      have hb : ∀ j, v.ownBlock = some j → j ≠ w.heap.size := fun j hj e => by
        have := (HA.out.apart hj).2.1
        omega
      have HBN := hidMk hb
      clear hG hb hkd
      go_wp2_with fail
      go_quiet (fail)
      go_wp2_with (first | (refine wpl_loadT k_size k_row rfl _ rfl _ _ rfl KV HKL.out (((Kept.refl w3).drewN _).range HRK3.out) ?_))
      go_loopg [28] 9 (fun g x wr => ∃ (k : Nat) (wd' : Nat → Nat) (xs' : List Value), k + g = 9 ∧ k ≤ 8 ∧ x = .int .i64 k ∧ Hid (AR wr p B most n (incR rf (y.kids.take k)) nd (M + k) wd' v xs') ∧ Hid (Chg (fun j => v.ownBlock = some j) w3 wr))
      case atStart => exact ⟨0, wd, xs, by omega, by omega, rfl, hidMk (by rw [List.take_zero, incR_nil]; exact HA3.out.kept ((Kept.refl w3).drewN _)), hidMk ((Chg.refl _ w3).drewN _)⟩
      case round =>
        obtain ⟨k, wd', xs', hkg, hk8, rfl, HAk, HCk⟩ := hrel
        have HKG := hidMk hkg
        by_cases hkl : k < 8
        · have hgk := HG.out k hkl
          have hk' : (k : Int) < 8 := by omega
          have hbb := HBB.out k hkl
          have htk := HTK.out k hkl
          have HE0 := hidMk (show y.kids.getD k 0 = 0 → incR rf (y.kids.take (k + 1)) = incR rf (y.kids.take k) from fun e => by
            rw [htk, e]; exact incR_none rf _ 0 (HA.out.ok 0 (by omega)))
          have HE1 := hidMk (show rf (y.kids.getD k 0) ≠ 0 → incR rf (y.kids.take (k + 1)) = setR (incR rf (y.kids.take k)) (y.kids.getD k 0) (incR rf (y.kids.take k) (y.kids.getD k 0) + 1) from fun e => by
            rw [htk]; exact incR_snoc rf _ _ e)
          have HKP := hidMk (arena_Keep HAk.out (by omega) (y.kids.getD k 0))
          have HIZ := hidMk (incR_zero rf (y.kids.take k) (y.kids.getD k 0))
          clear hkg htk
          generalize y.kids.getD k 0 = kd at *
          by_cases hx0 : kd = 0
          · have HE := hidMk (HE0.out hx0)
            subst hx0
            clear hbb HE0 HE1 HIZ
            go_wp2_with fail
            go_roundg (gk - 1)
            case measure => have := HKG.out; omega
            case rel => exact ⟨k + 1, wd', xs', by have := HKG.out; omega, by omega, by go_num, hidMk (by rw [HE.out]; exact HAk.out.raise (by omega) (by omega)), HCk⟩
          · have hxb : (kd != 0) = true := by simpa using hx0
            have hr : rf kd ≠ 0 := by rcases hbb with e | e; exact absurd e hx0; exact e
            have HE := hidMk (HE1.out hr)
            have HR := hidMk hr
            clear hbb HE0 HE1 hr hx0
            go_wp2_with fail
            refine HKP.out.mono ?_
            rintro e w5 (⟨hz, _⟩ | ⟨_, rfl, ⟨xs5, hA5⟩, hc5⟩)
            · exact absurd (HIZ.out.1 hz) HR.out
            · have HA5 := hidMk (show AR w5 p B most n (incR rf (y.kids.take (k + 1))) nd (M + (k + 1)) wd' v xs5 by rw [HE.out]; exact hA5)
              have HC5 := hidMk (HCk.out.trans hc5)
              clear hA5 hc5 HKP HIZ
              go_wp2_with fail
              go_roundg (gk - 1)
              case measure => have := HKG.out; omega
              case rel => exact ⟨k + 1, wd', xs5, by have := HKG.out; omega, by omega, by go_num, HA5, HC5⟩
        · have hk' : ¬ ((k : Int) < 8) := by omega
          have htk : y.kids.take k = y.kids := List.take_of_length_le (by rw [HLS.out]; omega)
          rw [htk] at HAk
          obtain ⟨x, hxl⟩ := low_ex HA.out.ok
          have huc : usd (incR rf y.kids) n = usd rf n := usd_congr n (fun i _ _ => incR_zero rf y.kids i)
          have HPT := hidMk (arena_put (HAk.out.raise (M' := M + 9) (by omega) hM) ((HV.out.kept K3.out).chg HCk.out (fun e => hv0 e)) (by omega) x (low_inc hxl) (by rw [huc]; exact hum) y HY.out)
          have HRB := hidMk (show wr.rangeAt w.heap.size 0 LY from fun j u hu => HCk.out.cellp (HR3.out j u hu) (fun e => HBN.out _ e rfl))
          have HXL := hidMk hxl
          have HPL := hidMk (show plL y 1 = LY ++ [Value.int .i64 1] by unfold plL; rw [HEY.out]; rfl)
          rw [HPL.out] at HPT
          have HUM := hidMk hum
          clear hkg htk hxl huc hum HPL
          go_wp2_with (first | (refine wpl_loadT nd_size nd_row rfl _ rfl _ _ rfl LY HLY.out.1 HRB.out ?_) | (refine wpl_buildPl HLY.out.1 rfl rfl rfl rfl ?_))
          refine HPT.out.mono ?_
          rintro e w6 ⟨rfl, ⟨n6, wd6, v6, xs6, hn6, hA6, hg6⟩, hc6⟩
          have HF := hidMk (show ∃ n' wd' v' xs', n' = max n x ∧ AR w6 p B most n' (setR (incR rf y.kids) x 1) (updN nd x y) (M + 9) wd' v' xs' ∧ (∀ g, v'.ownBlock = some g → v.ownBlock = some g ∨ w.heap.size ≤ g) from ⟨n6, wd6, v6, xs6, hn6, hA6, fun g hg => by
            rcases hg6 g hg with e | e
            · exact .inl e
            · exact .inr (Nat.le_trans (Nat.le_trans K3.out.size HCk.out.size) e)⟩)
          have HC6 := hidMk (((Chg.of_kept K3.out).trans (HCk.out.mono (fun j _ e => .inr e))).trans hc6)
          clear hA6 hc6 hn6 hg6 HPT
          go_wp2_with fail
          go_ret2
          exact .inr (.inr ⟨HB.out, HUM.out, x, HXL.out, rfl, HF.out, HC6.out⟩)
    · have hum' : most ≤ (usd rf n : Int) := by omega
      have HU := hidMk hum'
      go_wp2_with fail
      go_quiet (fail)
      go_wp2_with fail
      go_ret2
      exact .inr (.inl ⟨HB.out, HU.out, rfl, K3.out.drewN _⟩)
end
end Go.Proofs.YtjkbhaplngnniaaDoor
