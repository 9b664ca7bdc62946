/- block: Clone and Equal of blocks; Copy, Same. -/
import Derived.Test.YtapcmkhpbdphoaaBk4
import Derived.ChangeKeysEq
import Derived.Laws.StructEq
import Derived.Laws.OwnMore
namespace Go.Proofs.Ytapcmkhpbdphoaa
open Go.RowKit Go.Maps
set_option linter.unusedSimpArgs false
set_option linter.unusedVariables false

set_option maxRecDepth 100000 in
theorem items_eq (l m : List Int) (w : World) : ∀ is : List Nat, (∀ i ∈ is, i < l.length ∧ i < m.length) → (Op.eqItems 9999 5 1 (bv l).toArray (bv m).toArray is).run Try.prog w = .ok (decide (∀ i ∈ is, l.getD i 0 = m.getD i 0)) w
  | [], _ => by simp [Op.eqItems]
  | i :: is, h => by
    have ih := items_eq l m w is (fun j hj => h j (List.mem_cons_of_mem _ hj))
    obtain ⟨h1, h2⟩ := h i (List.mem_cons_self ..)
    have p1 := run_part_plain (P := Try.prog) w (e := 5) (by kernel_rfl) (xs := (bv l).toArray) (off := i * 1) (v := .int .u8 (l.getD i 0)) (by rw [Nat.mul_one, List.getElem?_toArray]; exact bv_get h1)
    have p2 := run_part_plain (P := Try.prog) w (e := 5) (by kernel_rfl) (xs := (bv m).toArray) (off := i * 1) (v := .int .u8 (m.getD i 0)) (by rw [Nat.mul_one, List.getElem?_toArray]; exact bv_get h2)
    have p3 := run_equalIn_int (P := Try.prog) w 9998 5 .u8 .u8 (l.getD i 0) (m.getD i 0) Try.underlying5
    simp only [Op.eqItems, Sem.run_bind, p1, p2, p3, Result.andThen_ok]
    by_cases e : l.getD i 0 = m.getD i 0
    · rw [show (l.getD i 0 == m.getD i 0) = true by simpa using e]
      simp only [Bool.not_true, Bool.false_eq_true, if_false]
      rw [ih]
      congr 1
      simp only [List.mem_cons, forall_eq_or_imp, e, true_and]
    · rw [show (l.getD i 0 == m.getD i 0) = false by simpa using e]
      simp only [Bool.not_false, if_true, Sem.run_pure]
      congr 1
      simp only [List.mem_cons, forall_eq_or_imp, e, false_and, decide_false]
set_option maxRecDepth 100000 in
theorem eqD (l m : List Int) (hl : l.length = 32) (hm : m.length = 32) (w : World) : (Op.equalIn 10000 90 (.agg (bv l).toArray) (.agg (bv m).toArray)).run Try.prog w = .ok (decide (l = m)) w := by
  obtain ⟨i0, hi0, _⟩ := u8info
  rw [run_equalIn_array w 9999 _ _ Try.underlying90 hi0, show Try.prog.cellsOf 5 = 1 by kernel_rfl, items_eq l m w _ (fun i hi => by rw [List.mem_range] at hi; omega)]
  congr 1
  rw [decide_eq_decide]
  constructor
  · intro h
    exact ext_getD (by omega) (fun j hj => h j (by rw [List.mem_range]; omega))
  · rintro rfl i _
    rfl
theorem own_dt {w : World} {B g n cap : Nat} {F : List Int} (h : w.ownsRow B 90 32 (.slice (some ⟨g, 0, none⟩) n cap) n (bv F)) (hF : F.length = n * 32) : Dt w g F := by
  refine .of ?_ (fun i hi => ?_) (fun i hi => h.frozenAt i)
  · rcases h.2 with ⟨e, _⟩ | ⟨g', cap', cur, e, _, hg, _⟩
    · cases e
    · cases e
      by_cases hlt : g < w.heap.size
      · exact hlt
      · rw [Array.getElem?_eq_none (by omega)] at hg; cases hg
  · rw [h.cellAt i (by omega)]
    exact bv_get hi
/-- All blocks of a file behind an own row of none. -/
theorem wpList_catD {ops : Array Oper} {rest : List Oper} {o : Oper} {a : Act} {Q : Exit → Act → World → Prop} (w : World) (hgd : o.guard = none) (s x : Operand)
    (ho : o.op = .call { callee := .builtin .append, args := #[s, x], argTypes := #[69, 69] })
    (B : Nat) (v : Value) (hs : a.eval s = v) (hv : w.ownsRow B 90 32 v 0 []) (hB : B ≤ w.heap.size) (d N K : Nat) (F : List Int) (hx : a.eval x = .slice (some ⟨d, 0, none⟩) N K) (hd : Dt w d F) (hF : F.length = N * 32) (hN : N ≤ 4096)
    (h : ∀ v' w', w'.ownsRow B 90 32 v' N (bv F) → w.grownBy w' v.ownBlock → wpList Try.prog ops Q rest (a.put o.dst v') w') : wpList Try.prog ops Q (o :: rest) a w := by
  obtain ⟨i0, hi0, hz0, hz1, hz2⟩ := dinfo
  refine wpList_append_own_wide w hgd s x 69 ho B 90 i0 (.agg zerosD) 32 32 Try.underlying69 hi0 hz0 hz1 hz2 rfl (by decide) v 0 [] hs hv ⟨d, 0, none⟩ N K (bv F) hx (by rw [bv_len, hF]) (fun j u hj => by rw [Addr.add_lit]; exact hd.at_ j u hj) (bv_one F) (by unfold maxLen; omega) (by omega) hB ?_
  intro v' w' h2 h3 _
  exact h v' w' (by simpa using h2) h3
set_option maxHeartbeats 400000 in
theorem slices_CloneD (d N K : Nat) (F : List Int) (w : World) (hd : Dt w d F) (hF : F.length = N * 32) (hN : N ≤ 4096) :
    Calls Try.prog 57 #[.slice (some ⟨d, 0, none⟩) N K] w fun e w' => ∃ v, e = .returned v ∧ w'.ownsRow w.heap.size 90 32 v N (bv F) ∧ Kept w w' := by
  have q : ∀ (w : World) (a : Option Addr) (n c n' c' : Nat), (binOp .eql 69 (.slice a n c) (.slice none n' c')).run Try.prog w = .ok (.bool a.isNone) w := fun w a n c n' c' => Lib.run_eql_slice_nil w _ _ a n c n' c' Try.underlying69
  have H := hidMk (hd.kept ((Kept.refl w).alloc (.cells #[] 90)))
  have HM := hidMk (World.ownsRow_made (e := 90) (size := 32) w #[] 0 (Nat.le_refl w.heap.size) (Nat.zero_le _) (by simp))
  have HF := hidMk hF
  clear hd hF
  go_enter Try.func57, Try.ntmps57
  go_wp2_with (at_builtin; go_loud (refine wpList_catD _ (by rfl) _ _ (by rfl) w.heap.size (.slice (some ⟨w.heap.size, 0, none⟩) 0 0) (by rfl) HM.out (by simp) d N K F (by rfl) H.out HF.out hN ?_; intro v' w1 o4 k4; have H4 := hidMk o4; have K4 := hidMk (show Kept w w1 from kept_grown ((Kept.refl w).alloc _) HM.out k4); clear o4 k4))
  go_ret
  exact ⟨_, rfl, H4.out, K4.out⟩
def capS (s : Bf) : Bf := s
set_option maxHeartbeats 1000000 in
theorem bk_Copy {w : World} {f d N : Nat} {s : Bf} (h : Fl w f d N s) (hN : 0 < N) : Calls Try.prog 45 #[.pointer (some ⟨f, 0, none⟩)] w fun e w' => ∃ f' d', e = .returned (.pointer (some ⟨f', 0, none⟩)) ∧ w.heap.size ≤ f' ∧ w.heap.size ≤ d' ∧ Fl w' f' d' N s ∧ Kept w w' := by
  have H := hidMk h
  obtain ⟨⟨K0, c0⟩, c1, c2, c3, c4, c5, fz, lt, _, _, _, _, _⟩ := h
  obtain ⟨F, off, wt, be, by_, wr⟩ := s
  dsimp only at c1 c2 c3 c4 c5
  clear fz
  go_enter Try.func45, Try.ntmps45
  go_wp2_with fail
  obtain ⟨W, hW⟩ : ∃ W, W = w.alloc (.cells #[.slice (some ⟨d, 0, none⟩) N K0, .bool off, .bool wt, .int .i64 be, .int .i64 by_, .int .i64 wr] 73) := ⟨_, rfl⟩
  have HK1 := hidMk (show Kept w W by rw [hW]; exact (Kept.refl w).alloc _)
  have HC := hidMk (show W.heap.size = w.heap.size + 1 ∧ W.cell? ⟨w.heap.size, 0, none⟩ = some (.slice (some ⟨d, 0, none⟩) N K0) ∧ W.cell? ⟨w.heap.size, 1, none⟩ = some (.bool off) ∧ W.cell? ⟨w.heap.size, 2, none⟩ = some (.bool wt) ∧ W.cell? ⟨w.heap.size, 3, none⟩ = some (.int .i64 be) ∧ W.cell? ⟨w.heap.size, 4, none⟩ = some (.int .i64 by_) ∧ W.cell? ⟨w.heap.size, 5, none⟩ = some (.int .i64 wr) ∧ ∀ i, i < 6 → W.frozen? ⟨w.heap.size, i, none⟩ = false by rw [hW]; simp)
  rw [← hW]
  clear hW
  refine (slices_CloneD d N K0 F W (H.out.dt.kept HK1.out) H.out.len H.out.big).mono ?_
  rintro e w2 ⟨v2, rfl, o2, k2⟩
  obtain ⟨g2, cap2, rfl, hg2a, hg2b⟩ : ∃ g cap, v2 = .slice (some ⟨g, 0, none⟩) N cap ∧ W.heap.size ≤ g ∧ g < w2.heap.size := by
    rcases o2.2 with ⟨_, e⟩ | ⟨g, cap, cur, e, hb, hg, _⟩
    · omega
    · exact ⟨g, cap, e, hb, by
        by_cases hlt : g < w2.heap.size
        · exact hlt
        · rw [Array.getElem?_eq_none (by omega)] at hg; cases hg⟩
  obtain ⟨z0, z1, z2, z3, z4, z5, z6, z7⟩ := HC.out
  have hlt0 : w.heap.size < W.heap.size := by omega
  have y1 := (k2.cell (p := ⟨w.heap.size, 0, none⟩) hlt0).trans z1
  have yf := (k2.frozen (p := ⟨w.heap.size, 0, none⟩) hlt0).trans (z7 0 (by omega))
  have HY := hidMk (show w2.cell? ⟨w.heap.size, 1, none⟩ = some (.bool off) ∧ w2.cell? ⟨w.heap.size, 2, none⟩ = some (.bool wt) ∧ w2.cell? ⟨w.heap.size, 3, none⟩ = some (.int .i64 be) ∧ w2.cell? ⟨w.heap.size, 4, none⟩ = some (.int .i64 by_) ∧ w2.cell? ⟨w.heap.size, 5, none⟩ = some (.int .i64 wr) ∧ ∀ i, i < 6 → w2.frozen? ⟨w.heap.size, i, none⟩ = false from ⟨(k2.cell (p := ⟨w.heap.size, 1, none⟩) hlt0).trans z2, (k2.cell (p := ⟨w.heap.size, 2, none⟩) hlt0).trans z3, (k2.cell (p := ⟨w.heap.size, 3, none⟩) hlt0).trans z4, (k2.cell (p := ⟨w.heap.size, 4, none⟩) hlt0).trans z5, (k2.cell (p := ⟨w.heap.size, 5, none⟩) hlt0).trans z6, fun i hi => (k2.frozen (p := ⟨w.heap.size, i, none⟩) hlt0).trans (z7 i hi)⟩)
  have HD2 := hidMk (own_dt o2 H.out.len)
  have HK2 := hidMk (HK1.out.trans k2)
  have hs2 := k2.size
  clear o2 k2 z1 z2 z3 z4 z5 z6 z7 HC
  go_wp2_with fail
  go_ret
  obtain ⟨z2, z3, z4, z5, z6, z7⟩ := HY.out
  refine ⟨w.heap.size, g2, rfl, Nat.le_refl _, by omega, ⟨⟨cap2, World.cell?_setCell_same _ _ _ y1⟩, so z2 (by simp), so z3 (by simp), so z4 (by simp), so z5 (by simp), so z6 (by simp), fun i hi => by rw [World.frozen?_setCell]; exact z7 i hi, by simp [World.setCell]; omega, ?_, by omega, H.out.len, H.out.big, H.out.isb⟩, HK2.out.setCell (Nat.le_refl _) _⟩
  exact HD2.out.chg (S := fun j => j = w.heap.size) ((Chg.refl _ _).own _ _) (by omega)

theorem Kept.cellp'' {w W : World} {p : Addr} {v : Value} (k : Kept w W) (h : w.cell? p = some v) : W.cell? p = some v := (k.cell (cell_lt h)).trans h
end Go.Proofs.Ytapcmkhpbdphoaa
