/- The definition's arena: Make. -/
import Derived.Test.YtjkbhaplngnniaaDoorRefAr5
import Derived.Deep.CutRange
import Derived.Deep.CutBlock
import Derived.Deep.RegionHeld3
namespace Go.Proofs.YtjkbhaplngnniaaDoor
open Go.RowKit Go.Maps
set_option linter.unusedSimpArgs false
set_option linter.unusedVariables false

def MkS (w : World) (B q : Nat) (most : Int) (n : Nat) (rf : Int → Nat) (nd : Int → ANd) (M bL bN cL cN : Nat) (xs : List Value) (b : Nat) (Y : ANd) (W : World) : Prop :=
  RQ W B q most n rf nd M bL bN cL cN xs ∧ W.rangeAt b 0 (ndL Y) ∧ Kept w W
theorem keep2 {W : World} {q b o g c : Nat} {x y u : Value} (h : W.cell? ⟨q, 2, none⟩ = some x ∧ W.cell? ⟨b, o, none⟩ = some y) (h1 : q ≠ g) (h2 : b ≠ g) : (W.setCell ⟨g, c, none⟩ u).cell? ⟨q, 2, none⟩ = some x ∧ (W.setCell ⟨g, c, none⟩ u).cell? ⟨b, o, none⟩ = some y :=
  ⟨by rw [World.cell?_setCell_other _ _ _ _ (by simp [h1])]; exact h.1, by rw [World.cell?_setCell_other _ _ _ _ (by simp [h2])]; exact h.2⟩
/-- The rest of what stays as it is. -/
structure MkR (w : World) (q bL bN b : Nat) (Y : ANd) (bL' bN' : Nat) (W : World) : Prop where
  rng : W.rangeAt b 0 (ndL Y)
  chg : Chg (fun j => j = q ∨ j = bL ∨ j = bN) w W
  aL : bL' = bL ∨ w.heap.size ≤ bL'
  aN : bN' = bN ∨ w.heap.size ≤ bN'
  nL : b ≠ bL'
  nN : b ≠ bN'
def MkG (w : World) (B q : Nat) (most : Int) (n : Nat) (rf : Int → Nat) (nd : Int → ANd) (M bL bN : Nat) (b k : Nat) (Y : ANd) (W : World) : Prop :=
  ∃ bL' bN' cL' cN' xs', RQ W B q most (max n k) rf nd M bL' bN' cL' cN' xs' ∧ MkR w q bL bN b Y bL' bN' W
/-- One more number behind those of a row, whose length is told. -/
theorem wpl_pushM {ops : Array Oper} {rest : List Oper} {o : Oper} {a : Act} {Q : Exit → Act → World → Prop} {w : World} {l : List Int} {m : Nat} (hm : l.length = m) (hgd : o.guard = none) (s x : Operand)
    (ho : o.op = .call { callee := .builtin .append, args := #[s, x], argTypes := #[54, 54] })
    (B : Nat) (v : Value) (hs : a.eval s = v) (hv : OwnI w B v l) (hB : B ≤ w.heap.size) (g : Nat) (y : Int) (hx : a.eval x = .slice (some ⟨g, 0, none⟩) 1 1) (hcell : w.cell? ⟨g, 0, none⟩ = some (.int .i64 y))
    (h47 : (m + 1) * 8 ≤ 140737488355328) (H : Nat) (hH : w.heap.size = H)
    (h : ∀ g' cap w', OwnI w' B (.slice (some ⟨g', 0, none⟩) (m + 1) cap) (l ++ [y]) → Chg (fun k => v.ownBlock = some k) w w' → (v.ownBlock = some g' ∨ g' = H) → g' < w'.heap.size → wpList Tryd.prog ops Q rest (a.put o.dst (.slice (some ⟨g', 0, none⟩) (m + 1) cap)) w') : wpList Tryd.prog ops Q (o :: rest) a w := by
  subst hm
  exact wpList_pushI w hgd s x ho B v l hs hv hB g y hx hcell h47 H hH h
section
variable {w : World} {B q : Nat} {most : Int} {n : Nat} {rf : Int → Nat} {nd : Int → ANd} {M bL bN cL cN : Nat} {xs : List Value}
theorem MkS.drewN {b : Nat} {Y : ANd} {W : World} (h : MkS w B q most n rf nd M bL bN cL cN xs b Y W) (k : Nat) : MkS w B q most n rf nd M bL bN cL cN xs b Y (W.drewN k) :=
  ⟨h.1.kept ((Kept.refl _).drewN k), ((Kept.refl W).drewN k).range h.2.1, h.2.2.drewN k⟩
theorem MkR.step {b k : Nat} {Y : ANd} {bL' bN' : Nat} {W W' : World} {S : Nat → Prop} (h : MkR w q bL bN b Y bL' bN' W) (c : Chg S W W') (hs : ∀ j, S j → j = bL' ∨ j = bN') : MkR w q bL bN b Y bL' bN' W' :=
  ⟨c.range h.rng (fun e => (hs _ e).elim h.nL h.nN), h.chg.thn c (fun j hj e => by
    rcases hs j e with e | e
    · rcases h.aL with a | a
      · exact .inr (.inl (e.trans a))
      · omega
    · rcases h.aN with a | a
      · exact .inr (.inr (e.trans a))
      · omega), h.aL, h.aN, h.nL, h.nN⟩
theorem MkS.same {b k : Nat} {Y : ANd} {W : World} (h : MkS w B q most n rf nd M bL bN cL cN xs b Y W) (hb : b = w.heap.size) (h0 : RQ w B q most n rf nd M bL bN cL cN xs) (hk : k ≤ n) : MkG w B q most n rf nd M bL bN b k Y W := by
  have l1 := (World.ownsRow.lt h0.ownL bL rfl).2
  have l2 := (h0.ownN.lt bN rfl).2
  exact ⟨bL, bN, cL, cN, xs, by rw [show max n k = n by omega]; exact h.1, ⟨h.2.1, Chg.of_kept h.2.2, .inl rfl, .inl rfl, by omega, by omega⟩⟩
theorem MkS.lt {b : Nat} {Y : ANd} {W : World} (h : MkS w B q most n rf nd M bL bN cL cN xs b Y W) : b < W.heap.size := cell_lt (h.2.1 0 (.bool Y.leaf) rfl)
theorem MkS.grew {b : Nat} {Y : ANd} {W W' : World} {g6 g8 c6 c8 : Nat} {xs' : List Value} (h : MkS w B q most n rf nd M bL bN cL cN xs b Y W) (hb : b = w.heap.size) (h0 : RQ w B q most n rf nd M bL bN cL cN xs) (hr : RQ W' B q most (n + 1) rf nd M g6 g8 c6 c8 xs') (c : Chg (fun j => j = q ∨ j = bL ∨ j = bN) W W') (a6 : g6 = bL ∨ W.heap.size + 1 ≤ g6) (a8 : g8 = bN ∨ W.heap.size + 1 ≤ g8) : MkG w B q most n rf nd M bL bN b (n + 1) Y W' := by
  have l1 := (World.ownsRow.lt h0.ownL bL rfl).2
  have l2 := (h0.ownN.lt bN rfl).2
  have l3 : q < w.heap.size := cell_lt h0.c0
  have l4 := h.lt
  have l5 := h.2.2.size
  refine ⟨g6, g8, c6, c8, xs', by rw [show max n (n + 1) = n + 1 by omega]; exact hr, ⟨c.range h.2.1 (fun e => by omega), (Chg.of_kept h.2.2).trans c, ?_, ?_, ?_, ?_⟩⟩
  · omega
  · omega
  · omega
  · omega
theorem RQ.thereL {W : World} {bL' bN' cL' cN' n' : Nat} {xs' : List Value} {nd' : Int → ANd} (h : RQ W B q most n' rf nd' M bL' bN' cL' cN' xs') {i : Nat} (hi : i ≤ n') : W.there bL' (i * 25) 25 := by
  have hlen : xs'.length = (n' + 1) * 25 := h.ownL.1
  obtain ⟨h0, ⟨h1, _⟩ | ⟨k, cap, cur, hv, hb', hh, r⟩⟩ := h.ownL
  · cases h1
  · cases hv
    intro j hj
    refine ⟨?_, by simp [World.frozen?, hh]⟩
    rw [h.ownL.cellAt (i * 25 + j) (by omega), List.getElem?_eq_getElem (by omega)]
    rfl
/-- The node is in its place. -/
def MkP (w : World) (B q : Nat) (most : Int) (n : Nat) (rf : Int → Nat) (nd : Int → ANd) (M bL bN : Nat) (b k : Nat) (Y : ANd) (bL' bN' cL' cN' : Nat) (xs' : List Value) (W : World) : Prop :=
  RQ W B q most (max n k) rf (updN nd (k : Nat) Y) M bL' bN' cL' cN' xs' ∧ (∀ j, j < 25 → xs'[25 * k + j]? = (ndL Y)[j]?) ∧ MkR w q bL bN b Y bL' bN' W
theorem mk_put {b k : Nat} {Y : ANd} {bL' bN' cL' cN' : Nat} {xs' : List Value} {W : World} (h : RQ W B q most (max n k) rf nd M bL' bN' cL' cN' xs') (hR : MkR w q bL bN b Y bL' bN' W) (hk : LowN rf k) (hY : Y.kids.length = 8 ∧ Y.vals.length = 8) : MkP w B q most n rf nd M bL bN b k Y bL' bN' cL' cN' (setL xs' (k * 25) (ndL Y)) (W.setCells bL' (k * 25) (ndL Y)) := by
  obtain ⟨a1, a2, a3⟩ := h.putL (i := k) hk.one (by omega) hk.free Y hY
  exact ⟨a1, a2, hR.step (k := k) a3 (fun j e => .inl e)⟩
/-- It is asked for, and so are the first i of its kids. -/
def MkK (w : World) (B q : Nat) (most : Int) (n : Nat) (rf : Int → Nat) (nd : Int → ANd) (M bL bN : Nat) (b k : Nat) (Y : ANd) (bL' bN' cL' cN' : Nat) (xs' : List Value) (i : Nat) (W : World) : Prop :=
  RQ W B q most (max n k) (setR (incR rf (Y.kids.take i)) (k : Nat) 1) (updN nd (k : Nat) Y) (M + 1 + i) bL' bN' cL' cN' xs' ∧ MkR w q bL bN b Y bL' bN' W
theorem mk_one {b k : Nat} {Y : ANd} {bL' bN' cL' cN' : Nat} {xs' : List Value} {W : World} (h : MkP w B q most n rf nd M bL bN b k Y bL' bN' cL' cN' xs' W) (hk : LowN rf k) (hM : M + 9 ≤ 4611686018427387904) : MkK w B q most n rf nd M bL bN b k Y bL' bN' cL' cN' xs' 0 (W.setCell ⟨bN', k, none⟩ (.int .i64 1)) := by
  obtain ⟨h1, h2, h3⟩ := h
  obtain ⟨s1, s2⟩ := h1.setOne (i := k) hk.one (by omega) 1 (by unfold updN; rw [if_pos rfl]; exact h2) (M' := M + 1) (by omega) (by omega) (by omega)
  refine ⟨?_, h3.step (k := k) s2 (fun j e => .inr e)⟩
  rw [List.take_zero, incR_nil]
  exact s1
theorem setR_comm (rf : Int → Nat) {x y : Int} (hxy : x ≠ y) (u v : Nat) : setR (setR rf x u) y v = setR (setR rf y v) x u := by
  funext i
  unfold setR
  by_cases h1 : i = x
  · subst h1; simp [hxy]
  · by_cases h2 : i = y
    · subst h2; simp [h1]
    · simp [h1, h2]
theorem take_snoc {l : List Int} {i : Nat} (hi : i < l.length) : l.take (i + 1) = l.take i ++ [l.getD i 0] := by
  rw [List.take_add_one, List.getElem?_eq_getElem hi, List.getD_eq_getElem?_getD, List.getElem?_eq_getElem hi]
  rfl
theorem mk_raise {b k : Nat} {Y : ANd} {bL' bN' cL' cN' : Nat} {xs' : List Value} {i : Nat} {W : World} (h : MkK w B q most n rf nd M bL bN b k Y bL' bN' cL' cN' xs' i W) (hi : i < 8) (hM : M + 9 ≤ 4611686018427387904) (hY : Y.kids.length = 8) (h0 : Y.kids.getD i 0 = 0) (hz : rf 0 = 0) : MkK w B q most n rf nd M bL bN b k Y bL' bN' cL' cN' xs' (i + 1) W := by
  obtain ⟨h, h3⟩ := h
  refine ⟨?_, h3⟩
  rw [take_snoc (by omega), h0, incR_none _ _ _ hz]
  exact ⟨h.c0, h.c1, h.c2, h.fz, h.ownL, h.ownN, h.nodes, h.ok, h.kok, h.low, h.nm, fun j => Nat.le_trans (h.rb j) (by omega), by omega, h.d1, h.d2, h.d3⟩
theorem mk_kid {b k : Nat} {Y : ANd} {bL' bN' cL' cN' : Nat} {xs' : List Value} {i : Nat} {W : World} (h : MkK w B q most n rf nd M bL bN b k Y bL' bN' cL' cN' xs' i W) (hi : i < 8) (hM : M + 9 ≤ 4611686018427387904) (hY : Y.kids.length = 8) (hk : LowN rf k) (hr : rf (Y.kids.getD i 0) ≠ 0) :
    ∃ c v : Nat, Y.kids.getD i 0 = (c : Int) ∧ 1 ≤ c ∧ c ≤ max n k ∧ W.cell? ⟨bN', c, none⟩ = some (.int .i64 v) ∧ W.frozen? ⟨bN', c, none⟩ = false ∧ v + 1 < 4611686018427387904 + 9 ∧ MkK w B q most n rf nd M bL bN b k Y bL' bN' cL' cN' xs' (i + 1) (W.setCell ⟨bN', c, none⟩ (.int .i64 ((v : Int) + 1))).drew := by
  obtain ⟨h, h3⟩ := h
  generalize hc : Y.kids.getD i 0 = c at *
  have hne : c ≠ (k : Int) := fun e => hr (by rw [e]; exact hk.free)
  have hcur : setR (incR rf (Y.kids.take i)) (k : Nat) 1 c ≠ 0 := by
    rw [setR_other _ _ hne]; exact fun e => hr ((incR_zero _ _ _).1 e)
  have hin : 1 ≤ c ∧ c ≤ ((max n k : Nat) : Int) := by
    by_cases e : 1 ≤ c ∧ c ≤ ((max n k : Nat) : Int)
    · exact e
    · exact absurd (h.ok c e) hcur
  obtain ⟨cn, rfl⟩ : ∃ cn : Nat, c = (cn : Int) := ⟨c.toNat, by omega⟩
  have hb := h.rb cn
  obtain ⟨s1, s2⟩ := h.setN (i := cn) (by omega) (by omega) (setR (incR rf (Y.kids.take i)) (k : Nat) 1 cn + 1) (fun _ => hcur) (M' := M + 1 + (i + 1)) (by omega) (by omega) (by omega)
  refine ⟨cn, _, rfl, by omega, by omega, h.count (i := cn) (by omega), h.froz cn, by omega, ?_, ?_⟩
  · have e : setR (setR (incR rf (Y.kids.take i)) (k : Nat) 1) (cn : Nat) (setR (incR rf (Y.kids.take i)) (k : Nat) 1 cn + 1) = setR (incR rf (Y.kids.take (i + 1))) (k : Nat) 1 := by
      rw [take_snoc (by omega), hc, incR_snoc _ _ _ hr, setR_comm _ (Ne.symm hne), setR_other _ _ hne]
    rw [← e]
    exact s1.drew
  · exact (h3.step (k := k) s2 (fun j e => .inr e)).step (k := k) (S := fun _ => False) (Chg.refl _ _).drew (fun j e => e.elim)
set_option maxHeartbeats 4000000 in
set_option maxRecDepth 100000 in
theorem r9_Make (h : RQ w B q most n rf nd M bL bN cL cN xs) (hM : M + 9 ≤ 4611686018427387904) (hm20 : most ≤ 20000) (hBw : B ≤ w.heap.size) (x : ANd) (hk : x.kids.length = 8) (hv : x.vals.length = 8) : Calls Tryd.prog 47 #[.pointer (some ⟨q, 0, none⟩), ndV x] w (RMk w B q most n rf nd M bL bN (bareN x)) := by
  have hlen := ndL_len x hk hv
  have hy0 := bareN_ok hk hv
  obtain ⟨Z1, hZ1⟩ : ∃ Z, zK = Z := ⟨_, rfl⟩
  obtain ⟨Z2, hZ2⟩ : ∃ Z, zV = Z := ⟨_, rfl⟩
  have HO := hidMk (show Z1.length = 8 ∧ Z2.length = 16 ∧ (∀ u ∈ Z1, u.oneCell' = true) ∧ ∀ u ∈ Z2, u.oneCell' = true from by rw [← hZ1, ← hZ2]; exact ⟨rfl, rfl, zK_run, zV_run⟩)
  obtain ⟨W, hW⟩ : ∃ W, W = w.alloc (.cells (ndL x).toArray 86) := ⟨_, rfl⟩
  have kW : Kept w W := by rw [hW]; exact (Kept.refl w).alloc _
  have r1 : W.rangeAt w.heap.size 0 (ndL x) := by rw [hW]; exact new_range _ _ _
  have t1 : W.there w.heap.size 0 25 := by rw [hW]; exact new_there _ _ _ _ hlen
  have c0 : W.cell? ⟨w.heap.size, 0, none⟩ = some (.bool x.leaf) := by
    have := r1 0 (.bool x.leaf) rfl
    simpa using this
  have HE := hidMk (show (x.leaf = true → setL (ndL x) 1 Z1 = ndL (bareN x)) ∧ (x.leaf = false → setL (ndL x) 9 Z2 = ndL (bareN x)) from ⟨fun e => by rw [← hZ1]; exact bare_leaf hk hv e, fun e => by rw [← hZ2]; exact bare_node hk hv e⟩)
  have HLF := hidMk (show x.leaf = true → (bareN x).kids = [0, 0, 0, 0, 0, 0, 0, 0] from fun e => by unfold bareN; rw [if_pos e]; rfl)
  have HX := hidMk (And.intro r1 (And.intro t1 hlen))
  have HZ1 := hidMk hZ1
  have HZ2 := hidMk hZ2
  have HH := hidMk h
  have HKW := hidMk kW
  have HK8 := hidMk hy0
  obtain ⟨b, hb⟩ : ∃ b, b = w.heap.size := ⟨_, rfl⟩
  have HBW := hidMk (show w.heap.size ≤ b from Nat.le_of_eq hb.symm)
  have HBE := hidMk hb
  rw [← hb] at c0 HX
  unfold ndV
  generalize hLX : ndL x = LX at *
  generalize hY : bareN x = Y at *
  generalize hlf : x.leaf = lf at *
  clear hlen hZ1 hZ2 kW r1 t1 hLX hY hlf h hy0
  go_enter Tryd.func47, Tryd.ntmps47
  go_upto_if 10 with (first | (refine wpl_boxR rfl rfl rfl ?_; rw [← hW, ← hb]; clear hW hb))
  go_cut [] from 6 (fun W' => Hid (MkS w B q most n rf nd M bL bN cL cN xs b Y W') ∧ Hid (haveB rf Y.kids = true))
  case first =>
    cases lf with
    | true =>
      obtain ⟨W2, hW2⟩ : ∃ W2, W2 = W.setCells b 1 Z1 := ⟨_, rfl⟩
      have HK2 := hidMk (show Kept w W2 from by rw [hW2]; exact kept_setCells HBW.out _ _ HKW.out)
      have HR := hidMk (show MkS w B q most n rf nd M bL bN cL cN xs b Y W2 from ⟨HH.out.kept HK2.out, by rw [hW2, ← HE.out.1 rfl]; exact range_setL HX.out.1 Z1 (by rw [HO.out.1, HX.out.2.2]; omega), HK2.out⟩)
      have HBV := hidMk (show haveB rf Y.kids = true from by rw [HLF.out rfl]; unfold haveB; simp)
      go_wp2_with (first | (refine wpl_buildK HZ1.out rfl rfl ?_) | (refine wpl_storeT k_size rfl _ _ rfl _ _ rfl Z1 HO.out.1 rfl HO.out.2.2.1 (there_sub HX.out.2.1 (by omega) (by omega)) ?_; rw [← hW2]; clear hW2))
      go_meet
      exact ⟨HR, HBV⟩
    | false =>
      obtain ⟨W2, hW2⟩ : ∃ W2, W2 = W.setCells b 9 Z2 := ⟨_, rfl⟩
      have HK2 := hidMk (show Kept w W2 from by rw [hW2]; exact kept_setCells HBW.out _ _ HKW.out)
      have HR := hidMk (show MkS w B q most n rf nd M bL bN cL cN xs b Y W2 from ⟨HH.out.kept HK2.out, by rw [hW2, ← HE.out.2 rfl]; exact range_setL HX.out.1 Z2 (by rw [HO.out.2.1, HX.out.2.2]; omega), HK2.out⟩)
      go_wp2_with (first | (refine wpl_buildV HZ2.out rfl rfl ?_) | (refine wpl_storeT v_size rfl _ _ rfl _ _ rfl Z2 HO.out.2.1 rfl HO.out.2.2.2 (there_sub HX.out.2.1 (by omega) (by omega)) ?_; rw [← hW2]; clear hW2))
      have HKC := hidMk (show ∀ j, j < 8 → W2.cell? ⟨b, 1 + j, none⟩ = some (.int .i64 (Y.kids.getD j 0)) from fun j hj => by
        have := HR.out.2.1 (1 + j) _ (ndL_kid Y HK8.out.1 j hj)
        rwa [Nat.zero_add] at this)
      clear HO HX HE HLF HH HKW HZ1 HZ2
      go_loopg [6] 9 (fun g s wr => ∃ k : Nat, k + g = 9 ∧ k ≤ 8 ∧ s = .int .i64 k ∧ wr = W2 ∧ Hid (∀ j, j < k → Y.kids.getD j 0 = 0 ∨ rf (Y.kids.getD j 0) ≠ 0))
      case atStart => exact ⟨0, by omega, by omega, rfl, rfl, hidMk fun j hj => absurd hj (by omega)⟩
      case round =>
        obtain ⟨k, hkg, hk8, rfl, hwr, HF⟩ := hrel
        subst hwr
        have HKG := hidMk hkg
        by_cases hkl : k < 8
        · have hk' : (k : Int) < 8 := by omega
          have hkc := HKC.out k hkl
          have HNX := hidMk (show (Y.kids.getD k 0 = 0 ∨ rf (Y.kids.getD k 0) ≠ 0) → ∀ j, j < k + 1 → Y.kids.getD j 0 = 0 ∨ rf (Y.kids.getD j 0) ≠ 0 from fun e j hj => by
            by_cases e' : j = k
            · subst e'; exact e
            · exact HF.out j (by omega))
          have HBD := hidMk (show ¬ (Y.kids.getD k 0 = 0 ∨ rf (Y.kids.getD k 0) ≠ 0) → haveB rf Y.kids = false from fun e => by
            have hl := HK8.out.1
            unfold haveB
            rw [List.all_eq_false]
            refine ⟨Y.kids.getD k 0, ?_, by simpa using e⟩
            rw [List.getD_eq_getElem?_getD, List.getElem?_eq_getElem (by omega)]
            exact List.getElem_mem _)
          generalize Y.kids.getD k 0 = x at *
          have HIs := hidMk (r9_Is HR.out.1 x)
          clear hkg
          by_cases hx0 : x = 0
          · have HN0 := hidMk (HNX.out (.inl hx0))
            subst hx0
            clear HNX HBD HIs
            go_wp2_with fail
            go_roundg (gk - 1)
            case measure => have := HKG.out; omega
            case rel => exact ⟨k + 1, by have := HKG.out; omega, by omega, by go_num, rfl, HN0⟩
          · have hxb : (x == 0) = false := by simpa using hx0
            by_cases hr : rf x = 0
            · have hd : decide (rf x ≠ 0) = false := by simp [hr]
              rw [hd] at HIs
              have HB := hidMk (HBD.out (by rintro (e | e); exact hx0 e; exact e hr))
              clear hr hd
              go_wp2_with fail
              refine HIs.out.mono ?_
              rintro e w2 ⟨rfl, hw2⟩
              rw [hw2]
              go_wp2_with fail
              go_ret2
              exact .inl ⟨HB.out, rfl, HR.out.2.2⟩
            · have hd : decide (rf x ≠ 0) = true := by simp [hr]
              rw [hd] at HIs
              have HN2 := hidMk (HNX.out (.inr hr))
              clear hr hd
              go_wp2_with fail
              refine HIs.out.mono ?_
              rintro e w2 ⟨rfl, hw2⟩
              rw [hw2]
              go_wp2_with fail
              go_roundg (gk - 1)
              case measure => have := HKG.out; omega
              case rel => exact ⟨k + 1, by have := HKG.out; omega, by omega, by go_num, rfl, HN2⟩
        · have hk' : ¬ ((k : Int) < 8) := by omega
          have HT := hidMk (show haveB rf Y.kids = true from by
            unfold haveB
            rw [List.all_eq_true]
            intro y hy
            obtain ⟨j, hj, rfl⟩ := List.getElem_of_mem hy
            have hl := HK8.out.1
            have := HF.out j (by omega)
            rw [List.getD_eq_getElem?_getD, List.getElem?_eq_getElem hj] at this
            simpa using this)
          clear hkg
          go_wp2_with fail
          go_meet
          exact ⟨HR, HT⟩
  case rest =>
    clear c0 HX HE HLF HKW HZ1 HZ2 HO
    obtain ⟨HS, HBV⟩ := hcut
    have q0 := HS.out.1.c0
    have hnm := HS.out.1.nm
    have q0' := fun k => ((Kept.refl wc).drewN k).cellp q0
    have HUS := hidMk (fun (k : Nat) => r9_Used (HS.out.drewN k).1)
    have hus := usd_le rf n
    generalize hUU : usd rf n = U at *
    by_cases hfull : most ≤ (U : Int)
    · go_wp2_with fail
      go_quiet ((go_at_call 19; exact Calls.quiet_of_same (HUS.out _)))
      go_wp2_with fail
      go_ret2
      exact .inr (.inl ⟨HBV.out, by rw [hUU]; exact hfull, rfl, HS.out.2.2.drewN _⟩)
    · go_upto_region 9 with fail
      go_cut [39] from 33 to 38 (fun s W' => s = .bool false ∧ Hid (MkS w B q most n rf nd M bL bN cL cN xs b Y W'))
      case first =>
        go_quiet ((go_at_call 19; exact Calls.quiet_of_same (HUS.out _)))
        go_wp2_with fail
        go_meet
        exact ⟨rfl, hidMk (HS.out.drewN _)⟩
      case rest =>
        clear HS q0 q0' HUS
        obtain ⟨rfl, HS⟩ := hcut
        go_upto_block 2 with fail
        go_cut [7] from 40 to 44 (fun s W' => ∃ k : Nat, s = .int .i64 k ∧ Hid (LowN rf k) ∧ k ≤ n + 1 ∧ Hid (MkS w B q most n rf nd M bL bN cL cN xs b Y W'))
        case first =>
          go_wp2_with fail
          go_loopg [7] (n + 2) (fun g s wr => ∃ k : Nat, k + g = n + 3 ∧ 1 ≤ k ∧ k ≤ n + 1 ∧ s = .int .i64 k ∧ Hid (MkS w B q most n rf nd M bL bN cL cN xs b Y wr) ∧ Hid (∀ j : Nat, 1 ≤ j → j < k → rf j ≠ 0))
          case atStart => exact ⟨1, by omega, by omega, by omega, rfl, HS, hidMk (fun j h1 h2 => by omega)⟩
          case round =>
            clear HS
            obtain ⟨k, hkg, hk1, hkn, rfl, HQ, HAl⟩ := hrel
            have HKG := hidMk hkg
            have HIs := hidMk (r9_Is HQ.out.1 k)
            by_cases hz : rf k = 0
            · have hd : decide (rf k ≠ 0) = false := by simp [hz]
              rw [hd] at HIs
              have HLow := hidMk (show LowN rf k from ⟨hk1, hz, HAl.out⟩)
              clear hd hkg
              go_wp2_with fail
              refine HIs.out.mono ?_
              rintro e w5 ⟨rfl, hw5⟩
              rw [hw5]
              go_wp2_with fail
              go_meet
              exact ⟨k, rfl, HLow, hkn, HQ⟩
            · have hd : decide (rf k ≠ 0) = true := by simp [hz]
              rw [hd] at HIs
              have hkn2 : k ≤ n := by
                by_cases e : k ≤ n
                · exact e
                · exact absurd (HQ.out.1.ok k (by omega)) hz
              have HAl2 := hidMk (show ∀ j : Nat, 1 ≤ j → j < k + 1 → rf j ≠ 0 from fun j g1 g2 => by
                by_cases e : j = k
                · subst e; exact hz
                · exact HAl.out j g1 (by omega))
              clear hd hkg
              go_wp2_with fail
              refine HIs.out.mono ?_
              rintro e w5 ⟨rfl, hw5⟩
              rw [hw5]
              go_wp2_with fail
              go_roundg (gk - 1)
              case measure => have := HKG.out; omega
              case rel => exact ⟨k + 1, by have := HKG.out; omega, by omega, by omega, by go_num, HQ, HAl2⟩
        case rest =>
          clear HS
          obtain ⟨k, rfl, HLow, hkn, HS⟩ := hcut
          have c1 := HS.out.1.c1
          have HN20 := hidMk hnm
          go_upto_if 51 with fail
          go_cut [] from 45 to 70 (fun W' => Hid (MkG w B q most n rf nd M bL bN b k Y W'))
          case first =>
            by_cases hkl : k = n + 1
            · have hkl' : (k : Int) = (n : Int) + 1 := by omega
              subst hkl
              obtain ⟨Z, hZ⟩ : ∃ Z, ndL zNd = Z := ⟨_, rfl⟩
              have HZ := hidMk hZ
              have HZL := hidMk (show Z.length = 25 ∧ ∀ u ∈ Z, u.oneCell' = true from by rw [← hZ]; exact ⟨rfl, ndL_one zNd⟩)
              have HOL := hidMk (show (wc.alloc (.cells Z.toArray 86)).ownsRow B 86 25 (.slice (some ⟨bL, 0, none⟩) (n + 1) cL) (n + 1) xs from (HS.out.1.kept ((Kept.refl _).alloc _)).ownL)
              have HSZ := hidMk (show B ≤ wc.heap.size + 1 from by have := HS.out.2.2.size; omega)
              have HN21 := hidMk (show n < 20000 from by
                have := usd_full (rf := rf) n (fun j g1 g2 => HLow.out.ahead j g1 (by omega))
                omega)
              obtain ⟨NL, HNL⟩ : ∃ NL, Hid (NL.length = n + 1 ∧ NL = nL rf n) := ⟨_, hidMk ⟨nL_len rf n, rfl⟩⟩
              clear hZ
              go_upto_region 16 with (first | (refine wpl_buildRZ HZ.out rfl rfl ?_) | (refine wpl_buildSZ HZ.out rfl rfl rfl ?_) | (at_builtin; refine wpl_pushR _ rfl _ _ rfl B (.slice (some ⟨bL, 0, none⟩) (n + 1) cL) (n + 1) xs rfl HOL.out (by have := HSZ.out; simp; omega) wc.heap.size Z HZL.out.1 HZL.out.2 rfl (new_range _ _ _) (by have := HN20.out; omega) (wc.heap.size + 1) (by simp) ?_; intro g6 cap6 w6 o6 k6 a6 l6; have H6 := hidMk (And.intro o6 (And.intro (show g6 = bL ∨ wc.heap.size + 1 ≤ g6 from by simp [Value.ownBlock] at a6; omega) l6)); have C6 := hidMk (RQ.afterL k6); obtain ⟨e0, e1, e2, ef⟩ := HS.out.1.cells3 C6.out HS.out.1.d1; clear o6 k6 a6 l6 c1))
              obtain ⟨W7, hW7⟩ : ∃ W, W = w6.setCell ⟨q, 1, none⟩ (.slice (some ⟨g6, 0, none⟩) (n + 1 + 1) cap6) := ⟨_, rfl⟩
              have HON := hidMk (show OwnI (W7.alloc (.cells #[.int .i64 0] 3)) B _ NL from by rw [HNL.out.2, hW7]; exact HS.out.1.ownN_after C6.out (.slice (some ⟨g6, 0, none⟩) (n + 1 + 1) cap6) (.cells #[.int .i64 0] 3))
              have HS6 := hidMk (show B ≤ W7.heap.size + 1 ∧ W7.heap.size = w6.heap.size from by have := HS.out.2.2.size; have := C6.out.size; rw [hW7]; simp [World.setCell]; omega)
              have f2 : W7.cell? ⟨q, 2, none⟩ = some (.slice (some ⟨bN, 0, none⟩) (n + 1) cN) := by rw [hW7, World.cell?_setCell_other _ _ _ _ (by simp)]; exact e2
              have HW7 := hidMk hW7
              rw [← hW7]
              clear hW7 e0 e1 e2 ef HOL HSZ HZL
              have HFR := hidMk (show Kept w wc from HS.out.2.2)
              go_wp2_with (at_builtin; refine wpl_pushM (m := n + 1) HNL.out.1 rfl _ _ rfl B (.slice (some ⟨bN, 0, none⟩) (n + 1) cN) rfl HON.out (by have := HS6.out.1; simpa using this) W7.heap.size 0 rfl (by simp) (by have := HN20.out; omega) (W7.heap.size + 1) (by simp) ?_; intro g8 cap8 w8 o8 k8 a8 l8; have HG8 := hidMk (HS.out.1.grown (o := .cells #[.int .i64 0] 3) (o' := .cells #[.int .i64 0] 3) HZ.out HN21.out C6.out H6.out.1 (H6.out.2.1.imp id (fun e => by omega)) H6.out.2.2 (by rw [← HW7.out]; exact k8.mono (fun j _ e => by simp [Value.ownBlock] at e; exact e.symm)) (by rw [← HNL.out.2]; exact o8) (by simp [Value.ownBlock] at a8; have := HS6.out.2; omega)); have e8 := HG8.out.2.2.1; have f8 := HG8.out.2.2.2; have HA8 := hidMk (show g8 = bN ∨ wc.heap.size + 1 ≤ g8 from by have := HS6.out.2; have := C6.out.size; simp [Value.ownBlock] at a8; omega); clear o8 k8 a8 l8)
              go_meet
              exact hidMk (HS.out.grew HBE.out HH.out HG8.out.1 HG8.out.2.1 H6.out.2.1 HA8.out)
            · have hkl' : ¬ ((k : Int) = (n : Int) + 1) := by omega
              go_wp2_with fail
              go_meet
              exact hidMk (HS.out.same HBE.out HH.out (by omega))
          case rest =>
            clear HS c1
            obtain ⟨bL', bN', cL', cN', xs', hq, hR⟩ := hcut.out
            have HPT := hidMk (mk_put (hq.drew) (hR.step (k := k) (S := fun _ => False) (Chg.refl _ _).drew (fun j e => e.elim)) HLow.out HK8.out)
            have c1 := hq.c1
            obtain ⟨d38, hu38, hd38⟩ := rd_row
            have HLL := hidMk (ndL_len Y HK8.out.1 HK8.out.2)
            have HLO := hidMk (ndL_one Y)
            have HRD := hidMk (((Kept.refl wc).drew).range hR.rng)
            have HSZ := hidMk (show (Tryd.prog.info? 86).map (·.size) = some (ndL Y).length by rw [HLL.out]; exact rd_size)
            have HSY := hidMk (show (Tryd.prog.info? 86).map (·.size) = some (ndL Y).toArray.size by simp only [List.size_toArray]; exact HSZ.out)
            have HTD := hidMk (show wc.drew.there bL' (k * 25) (ndL Y).toArray.size from by
              simp only [List.size_toArray, HLL.out]
              exact ((Kept.refl wc).drew).there (World.ownsRow.lt hq.ownL bL' rfl).2 (hq.thereL (by omega)))
            clear hq hR hcut
            generalize hLY : ndL Y = LY at *
            have hkn' : (k : Int) < ((max n k : Nat) : Int) + 1 := by omega
            go_upto_region 17 with fail
            go_cut [] from 71 to 77 (fun W' => Hid (MkP w B q most n rf nd M bL bN b k Y bL' bN' cL' cN' (setL xs' (k * 25) LY) W'))
            case first =>
              refine wp_region_any (by kernel_rfl) ?_
              (try (change wpAny _ _ _ _ _ _ _ (World.drew _)))
              refine wpAny_take (i := 0) (oi := { dst := some 71, op := _, type := _, pos := _, after := _, guard := _ }) (v := ?_) rfl (by kernel_rfl) (by kernel_rfl) (by kernel_rfl) (fun _ _ _ h => h) (Or.inl ⟨by rfl, ?_⟩) ?_
              rotate_left
              · (intro w; go_simp; (try with_reducible rfl))
              (try simp only [Act.put, List.setIfInBounds_toArray, List.set_cons_zero, List.set_cons_succ])
              refine wpAny_take (i := 1) (oi := { dst := some 72, op := _, type := _, pos := _, after := _, guard := _ }) (v := ?_) rfl (by kernel_rfl) (by kernel_rfl) (by kernel_rfl) (fun _ _ _ h => h) (Or.inl ⟨by rfl, ?_⟩) ?_
              rotate_left
              · (intro w; go_simp; (try with_reducible rfl))
              (try simp only [Act.put, List.setIfInBounds_toArray, List.set_cons_zero, List.set_cons_succ])
              refine wpAny_take (i := 2) (oi := { dst := some 73, op := _, type := _, pos := _, after := _, guard := _ }) (v := ?_) rfl (by kernel_rfl) (by kernel_rfl) (by kernel_rfl) (fun _ _ _ h => h) (Or.inl ⟨by rfl, ?_⟩) ?_
              rotate_left
              · (intro w; go_simp; (try with_reducible rfl))
              (try simp only [Act.put, List.setIfInBounds_toArray, List.set_cons_zero, List.set_cons_succ])
              refine wpAny_take (i := 4) (oi := { dst := some 75, op := _, type := _, pos := _, after := _, guard := _ }) (v := ?_) rfl (by kernel_rfl) (by kernel_rfl) (by kernel_rfl) (fun _ _ _ h => h) (Or.inl ⟨by rfl, ?_⟩) ?_
              rotate_left
              · (intro w; go_simp; (try with_reducible rfl))
              (try simp only [Act.put, List.setIfInBounds_toArray, List.set_cons_zero, List.set_cons_succ])
              refine wpAny_ready (rs := [3, 5]) (by kernel_rfl) (by simp) ?_
              refine AllReady.cons (o := { dst := some 74, op := _, type := _, pos := _, after := _, guard := _ }) rfl (fun K hK => ?_) ?_
              · go_simp
                refine hK _ _ ?_
                clear hK K
                (try simp only [Act.put, List.setIfInBounds_toArray, List.set_cons_zero, List.set_cons_succ])
                refine wpAny_ready (rs := [5]) (by kernel_rfl) (by simp) ?_
                refine AllReady.cons (o := { dst := some 76, op := _, type := _, pos := _, after := _, guard := _ }) rfl (fun K hK => ?_) ?_
                · rw [if_pos (by rfl)]
                  refine wp_load_mid _ _ rfl _ _ rfl LY d38 HRD.out hu38 hd38 HSZ.out ?_
                  refine hK _ _ ?_
                  clear hK K
                  (try simp only [Act.put, List.setIfInBounds_toArray, List.set_cons_zero, List.set_cons_succ])
                  refine wpAny_take (i := 6) (oi := { dst := some 77, op := _, type := _, pos := _, after := _, guard := _ }) (v := ?_) rfl (by kernel_rfl) (by kernel_rfl) (by kernel_rfl) (fun _ _ _ h => h) (Or.inl ⟨by rfl, ?_⟩) ?_
                  rotate_left
                  · (intro w; go_simp; (try with_reducible rfl))
                  (try simp only [Act.put, List.setIfInBounds_toArray, List.set_cons_zero, List.set_cons_succ])
                  refine wpAny_ready (rs := [7]) (by kernel_rfl) (by simp) ?_
                  refine AllReady.cons (o := { dst := none, op := _, type := _, pos := _, after := _, guard := _ }) rfl (fun K hK => ?_) ?_
                  · rw [if_pos (by rfl)]
                    refine wp_store_mid _ _ _ rfl _ _ LY.toArray rfl rfl HTD.out HSY.out (all_oneCell_toArray HLO.out) ?_
                    refine hK _ _ ?_
                    clear hK K
                    (try simp only [Act.put, List.setIfInBounds_toArray, List.set_cons_zero, List.set_cons_succ])
                    refine wpAny_done (by kernel_rfl) ?_ _
                    go_wp2_with fail
                    go_meet
                    exact HPT
                  exact AllReady.nil
                exact AllReady.nil
              refine AllReady.cons (o := { dst := some 76, op := _, type := _, pos := _, after := _, guard := _ }) rfl (fun K hK => ?_) ?_
              · rw [if_pos (by rfl)]
                refine wp_load_mid _ _ rfl _ _ rfl LY d38 HRD.out hu38 hd38 HSZ.out ?_
                refine hK _ _ ?_
                clear hK K
                (try simp only [Act.put, List.setIfInBounds_toArray, List.set_cons_zero, List.set_cons_succ])
                refine wpAny_ready (rs := [3]) (by kernel_rfl) (by simp) ?_
                refine AllReady.cons (o := { dst := some 74, op := _, type := _, pos := _, after := _, guard := _ }) rfl (fun K hK => ?_) ?_
                · go_simp
                  refine hK _ _ ?_
                  clear hK K
                  (try simp only [Act.put, List.setIfInBounds_toArray, List.set_cons_zero, List.set_cons_succ])
                  refine wpAny_take (i := 6) (oi := { dst := some 77, op := _, type := _, pos := _, after := _, guard := _ }) (v := ?_) rfl (by kernel_rfl) (by kernel_rfl) (by kernel_rfl) (fun _ _ _ h => h) (Or.inl ⟨by rfl, ?_⟩) ?_
                  rotate_left
                  · (intro w; go_simp; (try with_reducible rfl))
                  (try simp only [Act.put, List.setIfInBounds_toArray, List.set_cons_zero, List.set_cons_succ])
                  refine wpAny_ready (rs := [7]) (by kernel_rfl) (by simp) ?_
                  refine AllReady.cons (o := { dst := none, op := _, type := _, pos := _, after := _, guard := _ }) rfl (fun K hK => ?_) ?_
                  · rw [if_pos (by rfl)]
                    refine wp_store_mid _ _ _ rfl _ _ LY.toArray rfl rfl HTD.out HSY.out (all_oneCell_toArray HLO.out) ?_
                    refine hK _ _ ?_
                    clear hK K
                    (try simp only [Act.put, List.setIfInBounds_toArray, List.set_cons_zero, List.set_cons_succ])
                    refine wpAny_done (by kernel_rfl) ?_ _
                    go_wp2_with fail
                    go_meet
                    exact HPT
                  exact AllReady.nil
                exact AllReady.nil
              exact AllReady.nil
            case rest =>
              clear HPT HRD HSZ HSY HTD c1
              have HP := hcut
              clear hcut
              have c2 := HP.out.1.c2
              have hpc := HP.out.1.count (i := k) (by omega)
              have hpf := HP.out.1.froz k
              have HK0 := hidMk (mk_one HP.out HLow.out hM)
              go_upto_region 19 with fail
              obtain ⟨W8, hW8⟩ : ∃ W, W = wc.setCell ⟨bN', k, none⟩ (.int .i64 1) := ⟨_, rfl⟩
              rw [← hW8] at HK0 ⊢
              have HZ0 := hidMk (show rf 0 = 0 from by
                by_cases e : rf 0 = 0
                · exact e
                · exact absurd (HH.out.ok 0 (by omega)) e)
              clear hW8 HP c2 hpc hpf hkn'
              rw [← hLY] at HK0
              generalize setL xs' (k * 25) (ndL Y) = xs'' at HK0
              clear hLY HLL HLO hd38 hu38
              go_wp2_with fail
              go_loopg [8] 9 (fun g s wr => ∃ i : Nat, i + g = 9 ∧ i ≤ 8 ∧ s = .int .i64 i ∧ Hid (MkK w B q most n rf nd M bL bN b k Y bL' bN' cL' cN' xs'' i wr))
              case atStart => exact ⟨0, by omega, by omega, rfl, HK0⟩
              case round =>
                clear HK0
                obtain ⟨i, hig, hi8, rfl, HK⟩ := hrel
                have HIG := hidMk hig
                by_cases hi : i < 8
                · have hi' : (i : Int) < 8 := by omega
                  have hkc : wr.cell? ⟨b, 1 + i, none⟩ = some (.int .i64 (Y.kids.getD i 0)) := by
                    have := HK.out.2.rng (1 + i) _ (ndL_kid Y HK8.out.1 i hi)
                    rwa [Nat.zero_add] at this
                  by_cases h0 : Y.kids.getD i 0 = 0
                  · have HK2 := hidMk (mk_raise HK.out hi hM HK8.out.1 h0 HZ0.out)
                    rw [h0] at hkc
                    clear hig h0 HK
                    go_wp2_with fail
                    go_roundg (gk - 1)
                    case measure => have := HIG.out; omega
                    case rel => exact ⟨i + 1, by have := HIG.out; omega, by omega, by go_num, HK2⟩
                  · have hr : rf (Y.kids.getD i 0) ≠ 0 := by
                      have hall := HBV.out
                      unfold haveB at hall
                      rw [List.all_eq_true] at hall
                      have hm : Y.kids.getD i 0 ∈ Y.kids := by
                        have := HK8.out.1
                        rw [List.getD_eq_getElem?_getD, List.getElem?_eq_getElem (by omega)]
                        exact List.getElem_mem _
                      have := hall _ hm
                      simp only [decide_eq_true_eq] at this
                      exact this.resolve_left h0
                    obtain ⟨c, v, hc, hc1, hcn, hcc, hcf, hv9, hK2⟩ := mk_kid HK.out hi hM HK8.out.1 HLow.out hr
                    have HK2 := hidMk hK2
                    have c2 := HK.out.1.c2
                    have hnm2 := HK.out.1.nm
                    rw [hc] at hkc h0
                    have hcb : ((c : Int) == 0) = false := by simpa using h0
                    have hw : wrap64 ((v : Int) + 1) = (v : Int) + 1 := by unfold wrap64; omega
                    have hcl : (c : Int) < ((max n k : Nat) : Int) + 1 := by omega
                    generalize hmx : max n k = mx at *
                    have HNQ := hidMk (show q ≠ bN' ∧ b ≠ bN' from ⟨Ne.symm HK.out.1.d2, HK.out.2.nN⟩)
                    clear hig hr hc HK hK2
                    go_wp2_with fail
                    refine wp_region_held_drew (S := (fun w' => w'.cell? ⟨q, 2, none⟩ = some (.slice (some ⟨bN', 0, none⟩) (mx + 1) cN') ∧ w'.cell? ⟨b, 1 + i, none⟩ = some (.int .i64 (c : Int)))) (by kernel_rfl) ?_ (fun hHeld => ?_)
                    · exact ⟨((Kept.refl wr).drew).cellp c2, ((Kept.refl wr).drew).cellp hkc⟩
                    refine wpAnyH_take (i := 0) (oi := { dst := some 93, op := _, type := _, pos := _, after := _, guard := _ }) (v := ?_) rfl (by kernel_rfl) (by kernel_rfl) (by kernel_rfl) (fun _ _ _ h => h) (Or.inl ⟨by rfl, ?_⟩) (by assumption) ?_
                    rotate_left
                    · (intro w hSw; (try dsimp only at hSw); (try obtain ⟨hSw1, hSw2⟩ := hSw); go_simp; (try with_reducible rfl))
                    (try simp only [Act.put, List.setIfInBounds_toArray, List.set_cons_zero, List.set_cons_succ])
                    refine wpAnyH_take (i := 1) (oi := { dst := some 94, op := _, type := _, pos := _, after := _, guard := _ }) (v := ?_) rfl (by kernel_rfl) (by kernel_rfl) (by kernel_rfl) (fun _ _ _ h => h) (Or.inl ⟨by rfl, ?_⟩) (by assumption) ?_
                    rotate_left
                    · (intro w hSw; (try dsimp only at hSw); (try obtain ⟨hSw1, hSw2⟩ := hSw); go_simp; (try with_reducible rfl))
                    (try simp only [Act.put, List.setIfInBounds_toArray, List.set_cons_zero, List.set_cons_succ])
                    refine wpAnyH_take (i := 2) (oi := { dst := some 95, op := _, type := _, pos := _, after := _, guard := _ }) (v := ?_) rfl (by kernel_rfl) (by kernel_rfl) (by kernel_rfl) (fun _ _ _ h => h) (Or.inl ⟨by rfl, ?_⟩) (by assumption) ?_
                    rotate_left
                    · (intro w hSw; (try dsimp only at hSw); (try obtain ⟨hSw1, hSw2⟩ := hSw); go_simp; (try with_reducible rfl))
                    (try simp only [Act.put, List.setIfInBounds_toArray, List.set_cons_zero, List.set_cons_succ])
                    refine wpAnyH_take (i := 3) (oi := { dst := some 96, op := _, type := _, pos := _, after := _, guard := _ }) (v := ?_) rfl (by kernel_rfl) (by kernel_rfl) (by kernel_rfl) (fun _ _ _ h => h) (Or.inl ⟨by rfl, ?_⟩) (by assumption) ?_
                    rotate_left
                    · (intro w hSw; (try dsimp only at hSw); (try obtain ⟨hSw1, hSw2⟩ := hSw); go_simp; (try with_reducible rfl))
                    (try simp only [Act.put, List.setIfInBounds_toArray, List.set_cons_zero, List.set_cons_succ])
                    refine wpAnyH_take (i := 4) (oi := { dst := some 97, op := _, type := _, pos := _, after := _, guard := _ }) (v := ?_) rfl (by kernel_rfl) (by kernel_rfl) (by kernel_rfl) (fun _ _ _ h => h) (Or.inl ⟨by rfl, ?_⟩) (by assumption) ?_
                    rotate_left
                    · (intro w hSw; (try dsimp only at hSw); (try obtain ⟨hSw1, hSw2⟩ := hSw); go_simp; (try with_reducible rfl))
                    (try simp only [Act.put, List.setIfInBounds_toArray, List.set_cons_zero, List.set_cons_succ])
                    refine wpAnyH_take (i := 5) (oi := { dst := some 98, op := _, type := _, pos := _, after := _, guard := _ }) (v := ?_) rfl (by kernel_rfl) (by kernel_rfl) (by kernel_rfl) (fun _ _ _ h => h) (Or.inl ⟨by rfl, ?_⟩) (by assumption) ?_
                    rotate_left
                    · (intro w hSw; (try dsimp only at hSw); (try obtain ⟨hSw1, hSw2⟩ := hSw); go_simp; (try with_reducible rfl))
                    (try simp only [Act.put, List.setIfInBounds_toArray, List.set_cons_zero, List.set_cons_succ])
                    refine wpAnyH_take (i := 6) (oi := { dst := some 99, op := _, type := _, pos := _, after := _, guard := _ }) (v := ?_) rfl (by kernel_rfl) (by kernel_rfl) (by kernel_rfl) (fun _ _ _ h => h) (Or.inl ⟨by rfl, ?_⟩) (by assumption) ?_
                    rotate_left
                    · (intro w hSw; (try dsimp only at hSw); (try obtain ⟨hSw1, hSw2⟩ := hSw); go_simp; (try with_reducible rfl))
                    (try simp only [Act.put, List.setIfInBounds_toArray, List.set_cons_zero, List.set_cons_succ])
                    refine wpAnyH_take (i := 7) (oi := { dst := some 100, op := _, type := _, pos := _, after := _, guard := _ }) (v := ?_) rfl (by kernel_rfl) (by kernel_rfl) (by kernel_rfl) (fun _ _ _ h => h) (Or.inl ⟨by rfl, ?_⟩) (by assumption) ?_
                    rotate_left
                    · (intro w hSw; (try dsimp only at hSw); (try obtain ⟨hSw1, hSw2⟩ := hSw); go_simp; (try with_reducible rfl))
                    (try simp only [Act.put, List.setIfInBounds_toArray, List.set_cons_zero, List.set_cons_succ])
                    refine wpAnyH_take (i := 8) (oi := { dst := some 101, op := _, type := _, pos := _, after := _, guard := _ }) (v := ?_) rfl (by kernel_rfl) (by kernel_rfl) (by kernel_rfl) (fun _ _ _ h => h) (Or.inl ⟨by rfl, ?_⟩) (by assumption) ?_
                    rotate_left
                    · (intro w hSw; (try dsimp only at hSw); (try obtain ⟨hSw1, hSw2⟩ := hSw); go_simp; (try with_reducible rfl))
                    (try simp only [Act.put, List.setIfInBounds_toArray, List.set_cons_zero, List.set_cons_succ])
                    refine wpAnyH_take (i := 9) (oi := { dst := some 102, op := _, type := _, pos := _, after := _, guard := _ }) (v := ?_) rfl (by kernel_rfl) (by kernel_rfl) (by kernel_rfl) (fun _ _ _ h => h) (Or.inl ⟨by rfl, ?_⟩) (by assumption) ?_
                    rotate_left
                    · (intro w hSw; (try dsimp only at hSw); (try obtain ⟨hSw1, hSw2⟩ := hSw); go_simp; (try with_reducible rfl))
                    (try simp only [Act.put, List.setIfInBounds_toArray, List.set_cons_zero, List.set_cons_succ])
                    refine wpAnyH_take (i := 10) (oi := { dst := some 103, op := _, type := _, pos := _, after := _, guard := _ }) (v := ?_) rfl (by kernel_rfl) (by kernel_rfl) (by kernel_rfl) (fun _ _ _ h => h) (Or.inl ⟨by rfl, ?_⟩) (by assumption) ?_
                    rotate_left
                    · (intro w hSw; (try dsimp only at hSw); (try obtain ⟨hSw1, hSw2⟩ := hSw); go_simp; (try with_reducible rfl))
                    (try simp only [Act.put, List.setIfInBounds_toArray, List.set_cons_zero, List.set_cons_succ])
                    refine wpAnyH_take (i := 11) (oi := { dst := some 104, op := _, type := _, pos := _, after := _, guard := _ }) (v := ?_) rfl (by kernel_rfl) (by kernel_rfl) (by kernel_rfl) (fun _ _ _ h => h) (Or.inl ⟨by rfl, ?_⟩) (by assumption) ?_
                    rotate_left
                    · (intro w hSw; (try dsimp only at hSw); (try obtain ⟨hSw1, hSw2⟩ := hSw); go_simp; (try with_reducible rfl))
                    (try simp only [Act.put, List.setIfInBounds_toArray, List.set_cons_zero, List.set_cons_succ])
                    refine wpAnyH_take (i := 12) (oi := { dst := some 105, op := _, type := _, pos := _, after := _, guard := _ }) (v := ?_) rfl (by kernel_rfl) (by kernel_rfl) (by kernel_rfl) (fun _ _ _ h => h) (Or.inl ⟨by rfl, ?_⟩) (by assumption) ?_
                    rotate_left
                    · (intro w hSw; (try dsimp only at hSw); (try obtain ⟨hSw1, hSw2⟩ := hSw); go_simp; (try with_reducible rfl))
                    (try simp only [Act.put, List.setIfInBounds_toArray, List.set_cons_zero, List.set_cons_succ])
                    refine wpAnyH_take (i := 13) (oi := { dst := some 106, op := _, type := _, pos := _, after := _, guard := _ }) (v := ?_) rfl (by kernel_rfl) (by kernel_rfl) (by kernel_rfl) (fun _ _ _ h => h) (Or.inl ⟨by rfl, ?_⟩) (by assumption) ?_
                    rotate_left
                    · (intro w hSw; (try dsimp only at hSw); (try obtain ⟨hSw1, hSw2⟩ := hSw); go_simp; (try with_reducible rfl))
                    (try simp only [Act.put, List.setIfInBounds_toArray, List.set_cons_zero, List.set_cons_succ])
                    refine wpAnyH_take (i := 14) (oi := { dst := some 107, op := _, type := _, pos := _, after := _, guard := _ }) (v := ?_) rfl (by kernel_rfl) (by kernel_rfl) (by kernel_rfl) (fun _ _ _ h => h) (Or.inl ⟨by rfl, ?_⟩) (by assumption) ?_
                    rotate_left
                    · (intro w hSw; (try dsimp only at hSw); (try obtain ⟨hSw1, hSw2⟩ := hSw); go_simp; (try with_reducible rfl))
                    (try simp only [Act.put, List.setIfInBounds_toArray, List.set_cons_zero, List.set_cons_succ])
                    refine wpAnyH_take (i := 15) (oi := { dst := some 108, op := _, type := _, pos := _, after := _, guard := _ }) (v := ?_) rfl (by kernel_rfl) (by kernel_rfl) (by kernel_rfl) (fun _ _ _ h => h) (Or.inl ⟨by rfl, ?_⟩) (by assumption) ?_
                    rotate_left
                    · (intro w hSw; (try dsimp only at hSw); (try obtain ⟨hSw1, hSw2⟩ := hSw); go_simp; (try with_reducible rfl))
                    (try simp only [Act.put, List.setIfInBounds_toArray, List.set_cons_zero, List.set_cons_succ])
                    refine wpAnyH_take (i := 16) (oi := { dst := some 109, op := _, type := _, pos := _, after := _, guard := _ }) (v := ?_) rfl (by kernel_rfl) (by kernel_rfl) (by kernel_rfl) (fun _ _ _ h => h) (Or.inl ⟨by rfl, ?_⟩) (by assumption) ?_
                    rotate_left
                    · (intro w hSw; (try dsimp only at hSw); (try obtain ⟨hSw1, hSw2⟩ := hSw); go_simp; (try with_reducible rfl))
                    (try simp only [Act.put, List.setIfInBounds_toArray, List.set_cons_zero, List.set_cons_succ])
                    refine wpAnyH_ready (rs := [17]) (by kernel_rfl) (by simp) ?_
                    refine AllReadyH.cons (o := { dst := some 110, op := _, type := _, pos := _, after := _, guard := _ }) rfl (fun K hK => ?_) AllReadyH.nil
                    go_simp
                    refine hK.out _ _ ?_ (fun hHeld => ?_)
                    · (first | assumption | exact keep2 hHeld HNQ.out.1 HNQ.out.2)
                    clear hK K
                    (try simp only [Act.put, List.setIfInBounds_toArray, List.set_cons_zero, List.set_cons_succ])
                    refine wpAnyH_take (i := 18) (oi := { dst := some 111, op := _, type := _, pos := _, after := _, guard := _ }) (v := ?_) rfl (by kernel_rfl) (by kernel_rfl) (by kernel_rfl) (fun _ _ _ h => h) (Or.inl ⟨by rfl, ?_⟩) (by assumption) ?_
                    rotate_left
                    · (intro w hSw; (try dsimp only at hSw); (try obtain ⟨hSw1, hSw2⟩ := hSw); go_simp; (try with_reducible rfl))
                    (try simp only [Act.put, List.setIfInBounds_toArray, List.set_cons_zero, List.set_cons_succ])
                    refine wpAnyH_take (i := 19) (oi := { dst := some 112, op := _, type := _, pos := _, after := _, guard := _ }) (v := ?_) rfl (by kernel_rfl) (by kernel_rfl) (by kernel_rfl) (fun _ _ _ h => h) (Or.inl ⟨by rfl, ?_⟩) (by assumption) ?_
                    rotate_left
                    · (intro w hSw; (try dsimp only at hSw); (try obtain ⟨hSw1, hSw2⟩ := hSw); go_simp; (try with_reducible rfl))
                    (try simp only [Act.put, List.setIfInBounds_toArray, List.set_cons_zero, List.set_cons_succ])
                    refine wpAnyH_ready (rs := [20]) (by kernel_rfl) (by simp) ?_
                    refine AllReadyH.cons (o := { dst := none, op := _, type := _, pos := _, after := _, guard := _ }) rfl (fun K hK => ?_) AllReadyH.nil
                    go_simp
                    refine hK.out _ _ ?_ (fun hHeld => ?_)
                    · (first | assumption | exact keep2 hHeld HNQ.out.1 HNQ.out.2)
                    clear hK K
                    (try simp only [Act.put, List.setIfInBounds_toArray, List.set_cons_zero, List.set_cons_succ])
                    refine wpAnyH_done (by kernel_rfl) ?_ _
                    go_wp2_with fail
                    go_roundg (gk - 1)
                    case measure => have := HIG.out; omega
                    case rel => exact ⟨i + 1, by have := HIG.out; omega, by omega, by go_num, by rw [hw]; exact HK2⟩
                · have hi' : ¬ ((i : Int) < 8) := by omega
                  have HE := hidMk (show i = 8 by omega)
                  clear hig hi
                  go_wp2_with fail
                  go_ret2
                  have hf := HK.out
                  rw [HE.out] at hf
                  refine .inr (.inr ⟨HBV.out, by rw [hUU]; omega, k, HLow.out, rfl, ⟨bL', bN', cL', cN', xs'', ?_, hf.2.aL, hf.2.aN⟩, hf.2.chg⟩)
                  have e8 : Y.kids.take 8 = Y.kids := List.take_of_length_le (by have := HK8.out.1; omega)
                  have := hf.1
                  rw [e8] at this
                  exact this
end
end Go.Proofs.YtjkbhaplngnniaaDoor
