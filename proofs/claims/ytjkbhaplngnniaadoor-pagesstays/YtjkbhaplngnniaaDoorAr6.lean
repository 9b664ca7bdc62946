/- What is written into an arena: Keep, clear. · A node that is gone: clear. · Drop. -/
import Derived.Test.YtjkbhaplngnniaaDoorAr3
import Derived.Laws.OwnMore
namespace Go.Proofs.YtjkbhaplngnniaaDoor
open Go.RowKit
set_option linter.unusedSimpArgs false
set_option linter.unusedVariables false

/-- A row some of whose cells are written anew. -/
def setL (xs : List Value) (o : Nat) : List Value → List Value
  | [] => xs
  | v :: r => setL (xs.set o v) (o + 1) r
theorem setL_len (L : List Value) : ∀ (xs : List Value) (o : Nat), (setL xs o L).length = xs.length := by
  induction L with
  | nil => intro xs o; rfl
  | cons v r ih => intro xs o; unfold setL; rw [ih]; simp
theorem setL_out (L : List Value) : ∀ (xs : List Value) (o j : Nat), (j < o ∨ o + L.length ≤ j) → (setL xs o L)[j]? = xs[j]? := by
  induction L with
  | nil => intro xs o j _; rfl
  | cons v r ih =>
    intro xs o j h
    simp only [List.length_cons] at h
    unfold setL
    rw [ih _ _ _ (by omega), List.getElem?_set_ne (by omega)]
theorem setL_in (L : List Value) : ∀ (xs : List Value) (o j : Nat), j < L.length → o + j < xs.length → (setL xs o L)[o + j]? = L[j]? := by
  induction L with
  | nil => intro xs o j h; simp at h
  | cons v r ih =>
    intro xs o j h g
    simp only [List.length_cons] at h
    unfold setL
    cases j with
    | zero =>
      rw [setL_out r _ _ _ (by omega)]
      rw [Nat.add_zero, List.getElem?_set_self (by omega)]
      rfl
    | succ j =>
      rw [show o + (j + 1) = o + 1 + j by omega, ih _ _ _ (by omega) (by simp; omega)]
      rfl
theorem own_setL {base e size g n cap : Nat} (L : List Value) : ∀ {w : World} {xs : List Value} (o : Nat), w.ownsRow base e size (.slice (some ⟨g, 0, none⟩) n cap) n xs → (w.setCells g o L).ownsRow base e size (.slice (some ⟨g, 0, none⟩) n cap) n (setL xs o L) := by
  induction L with
  | nil => intro w xs o h; exact h
  | cons v r ih => intro w xs o h; exact ih (o + 1) (h.stored o v).1
theorem setCells_size (g : Nat) (L : List Value) : ∀ (w : World) (o : Nat), (w.setCells g o L).heap.size = w.heap.size := by
  induction L with
  | nil => intro w o; rfl
  | cons v r ih => intro w o; unfold World.setCells; rw [ih]; simp [World.setCell]
section
variable {w : World} {p B : Nat} {most : Int} {n : Nat} {rf q : Int → Nat} {nd : Int → ANd} {M : Nat} {wd : Nat → Nat} {v : Value} {xs : List Value}
/-- Cells of the places are written: what is left to show is what they say. -/
theorem ARq.cells (h : ARq w p B most n rf q nd M wd v xs) {g : Nat} (hg : v.ownBlock = some g) (o : Nat) (L : List Value) (q' : Int → Nat) (nd' : Int → ANd)
    (h1 : ∀ i, i < n → (setL xs o L)[26 * i + 25]? = some (.int .i64 (q' (i + 1 : Nat)))) (h2 : ∀ i, i < n → rf (i + 1 : Nat) ≠ 0 → ∀ j, j < 25 → (setL xs o L)[26 * i + j]? = (ndL (nd' (i + 1 : Nat)))[j]?) (h3 : ∀ i, (nd' i).kids.length = 8 ∧ (nd' i).vals.length = 8) :
    ARq (w.setCells g o L) p B most n rf q' nd' M wd v (setL xs o L) ∧ Chg (fun j => v.ownBlock = some j) w (w.setCells g o L) := by
  obtain ⟨_, _, hne⟩ := h.apart hg
  have c := chg_setCells (S := fun j => j = g) rfl L o (Chg.refl (fun j => j = g) w)
  have ne : ¬ (p = g) := fun e => hne e.symm
  have lp := h.lt
  refine ⟨⟨c.cellp h.c0 ne, c.cellp h.c1 ne, c.cellp h.c2 ne, fun j hj => c.cellp (h.c3 j hj) ne, fun j => (c.frozen (p := ⟨p, j, none⟩) lp ne).trans (h.fz j), ?_, h1, h2, h.word, h.bit, h.ok, h3, h.pB, by rw [setCells_size]; exact h.B1, h.m1, h.m2, h.nm, h.rb, h.Mb⟩, c.mono (fun j _ e => by rw [hg, e])⟩
  obtain ⟨a, cp, hv, _⟩ := h.rows
  obtain ⟨_, ⟨hv', hz⟩ | ⟨g', cap, cur, hv', _⟩⟩ := h.own
  · rw [hv'] at hg; cases hg
  · have hv2 := hv'
    rw [hv'] at hg
    cases hg
    rw [hv2]
    exact own_setL L o (hv2 ▸ h.own)
/-- How often each is asked for is what the cells say. -/
theorem ARq.settle (h : ARq w p B most n rf q nd M wd v xs) (hq : ∀ i, q i = 0 ↔ rf i = 0) {M' : Nat} (hM : ∀ i, q i ≤ M') (hM' : M' ≤ 4611686018427387904) : AR w p B most n q nd M' wd v xs := by
  have hu : usd q n = usd rf n := usd_congr n (fun i _ _ => hq i)
  refine ⟨h.c0, by rw [hu]; exact h.c1, h.c2, h.c3, h.fz, h.own, h.refs, fun i hi hne => h.nodes i hi (fun e => hne ((hq _).2 e)), h.word, fun j hj b hb => ?_, fun i hi => (hq i).2 (h.ok i hi), h.kok, h.pB, h.B1, h.m1, h.m2, h.nm, hM, hM'⟩
  rw [h.bit j hj b hb]
  congr 1
  exact propext (not_congr (hq _).symm)
/-- One more, or less. -/
theorem ARq.setRef (h : ARq w p B most n rf q nd M wd v xs) {g i : Nat} (hi : i < n) (hg : v.ownBlock = some g) (r : Nat) : ARq (w.setCell ⟨g, i * 26 + 25, none⟩ (.int .i64 r)) p B most n rf (setR q (i + 1 : Nat) r) nd M wd v (setL xs (i * 26 + 25) [.int .i64 r]) ∧ Chg (fun j => v.ownBlock = some j) w (w.setCell ⟨g, i * 26 + 25, none⟩ (.int .i64 r)) := by
  have hl : xs.length = n * 26 := h.own.1
  refine h.cells hg (i * 26 + 25) [.int .i64 r] _ nd (fun k hk => ?_) (fun k hk hne j hj => ?_) h.kok
  · by_cases e : k = i
    · subst e
      rw [setR_same, show 26 * k + 25 = k * 26 + 25 + 0 by omega, setL_in _ _ _ _ (by simp) (by omega)]
      rfl
    · rw [setR_other _ _ (by omega), setL_out _ _ _ _ (by simp; omega)]
      exact h.refs k hk
  · rw [setL_out _ _ _ _ (by simp; omega)]
    exact h.nodes k hk hne j hj
theorem arena_Keep (h : AR w p B most n rf nd M wd v xs) (hM : M + 1 ≤ 4611686018427387904) (i : Int) : Calls Tryd.prog 43 #[.pointer (some ⟨p, 0, none⟩), .int .i64 i] w fun e w' => (rf i = 0 ∧ e = .returned (.int .i64 10) ∧ w' = w) ∨ (rf i ≠ 0 ∧ e = .returned (.int .i64 0) ∧ (∃ xs', AR w' p B most n (setR rf i (rf i + 1)) nd (M + 1) wd v xs') ∧ Chg (fun j => v.ownBlock = some j) w w') := by
  by_cases hi : rf i = 0
  · have H := hidMk (arena_findNone h i hi)
    have HI := hidMk hi
    clear h hi
    go_enter Tryd.func43, Tryd.ntmps43
    go_wp2_with fail
    refine H.out.mono ?_
    rintro e w1 ⟨rfl, rfl⟩
    go_wp2_with fail
    go_ret
    exact .inl ⟨HI.out, rfl, rfl⟩
  · have hn : 1 ≤ i ∧ i ≤ (n : Int) := by
      by_cases c : 1 ≤ i ∧ i ≤ (n : Int)
      · exact c
      · exact absurd (h.ok i c) hi
    obtain ⟨k, rfl⟩ : ∃ k : Nat, i = ((k + 1 : Nat) : Int) := ⟨(i - 1).toNat, by omega⟩
    obtain ⟨g, c, hv, hg, hc, hf, _⟩ := h.refCell (i := k) (by omega)
    have H := hidMk (arena_find h k (by omega) hi hg)
    have hb := h.rb ((k + 1 : Nat) : Int)
    have HS := h.setRef (i := k) (by omega) hg (rf ((k + 1 : Nat) : Int) + 1)
    have HF := hidMk (show rf ((k + 1 : Nat) : Int) ≠ 0 ∧ AR _ p B most n (setR rf ((k + 1 : Nat) : Int) (rf ((k + 1 : Nat) : Int) + 1)) nd (M + 1) wd v _ ∧ _ from ⟨hi, HS.1.settle (fun j => by
      unfold setR; split
      · subst j; omega
      · exact Iff.rfl) (fun j => by
      have := h.rb j
      unfold setR; split
      · subst j; omega
      · omega) hM, HS.2⟩)
    clear h hi hv hg HS
    generalize rf ((k + 1 : Nat) : Int) = r at *
    generalize ((k + 1 : Nat) : Int) = K at *
    have e1 : wrap64 ((r : Int) + 1) = ((r + 1 : Nat) : Int) := by unfold wrap64; omega
    go_enter Tryd.func43, Tryd.ntmps43
    go_wp2_with fail
    refine H.out.mono ?_
    rintro e w1 ⟨rfl, rfl⟩
    go_wp2_with fail
    go_ret
    exact .inr ⟨HF.out.1, rfl, ⟨_, HF.out.2.1⟩, HF.out.2.2⟩
theorem pl_size : (Tryd.prog.info? 104).map (·.size) = some 26 := by kernel_rfl
theorem pl_row : ∃ d, Tryd.prog.underlying 104 = some d ∧ d.isRow = true := ⟨_, Tryd.underlying104, rfl⟩
/-- A place's 26 cells. -/
def plL (x : ANd) (r : Nat) : List Value := ndL x ++ [.int .i64 r]
theorem plL_len (x : ANd) (r : Nat) (h : x.kids.length = 8) (h' : x.vals.length = 8) : (plL x r).length = 26 := by unfold plL; rw [List.length_append, ndL_len x h h']; rfl
theorem plL_one (x : ANd) (r : Nat) : ∀ u ∈ plL x r, u.oneCell' = true := by
  intro u hu
  unfold plL at hu
  rcases List.mem_append.1 hu with hu | hu
  · exact ndL_one x u hu
  · simp at hu; subst hu; rfl
theorem plL_ref (x : ANd) (r : Nat) (h : x.kids.length = 8) (h' : x.vals.length = 8) : (plL x r)[25]? = some (.int .i64 r) := by
  unfold plL
  rw [List.getElem?_append_right (by rw [ndL_len x h h']; exact Nat.le_refl _), ndL_len x h h']
  rfl
theorem plL_nd (x : ANd) (r : Nat) (h : x.kids.length = 8) (h' : x.vals.length = 8) (j : Nat) (hj : j < 25) : (plL x r)[j]? = (ndL x)[j]? := by
  unfold plL
  rw [List.getElem?_append_left (by rw [ndL_len x h h']; exact hj)]
theorem wpl_buildZP {ops : Array Oper} {rest : List Oper} {o : Oper} {a : Act} {w : World} {Q : Exit → Act → World → Prop} (hg : o.guard = none) (ho : o.op = .build 104 #[])
    (h : wpList Tryd.prog ops Q rest (a.put o.dst (.agg (plL zNd 0).toArray)) w) : wpList Tryd.prog ops Q (o :: rest) a w := by
  refine wpl_to hg _ _ ?_ h
  unfold execOp
  simp only [ho, List.map_toArray, List.map_nil]
  exact (show ∀ w : World, Sem.run Tryd.prog (do let x ← Instr.build 104 #[]; pure (Next.value x)) w = .ok (.value (.agg (plL zNd 0).toArray)) w from fun w => by kernel_rfl) w
theorem wpl_buildZQ {ops : Array Oper} {rest : List Oper} {o : Oper} {a : Act} {w : World} {Q : Exit → Act → World → Prop} {Z : List Value} (hZ : plL zNd 0 = Z) (hg : o.guard = none) (ho : o.op = .build 104 #[])
    (h : wpList Tryd.prog ops Q rest (a.put o.dst (.agg Z.toArray)) w) : wpList Tryd.prog ops Q (o :: rest) a w := by
  subst hZ
  exact wpl_buildZP hg ho h
theorem wpl_storeP {ops : Array Oper} {rest : List Oper} {o : Oper} {a : Act} {w : World} {Q : Exit → Act → World → Prop} (hg : o.guard = none) (x y : Operand) (ho : o.op = .store 104 x y) (b f : Nat) (hx : a.eval x = .pointer (some ⟨b, f, none⟩)) (L : List Value) (hL : L.length = 26) (hy : a.eval y = .agg L.toArray) (h1 : ∀ u ∈ L, u.oneCell' = true) (ht : w.there b f 26)
    (h : wpList Tryd.prog ops Q rest (a.put o.dst undef) (w.setCells b f L)) : wpList Tryd.prog ops Q (o :: rest) a w := by
  refine wpList_store_mid hg _ x y ho b f L.toArray hx hy (by simpa [hL] using ht) (by rw [pl_size]; simp [hL]) (all_oneCell_toArray h1) ?_
  simpa using h
theorem ARq.there (h : ARq w p B most n rf q nd M wd v xs) {g : Nat} (hg : v.ownBlock = some g) {i : Nat} (hi : i < n) : w.there g (i * 26) 26 := by
  obtain ⟨a, c, hv, hr⟩ := h.rows
  obtain ⟨g', _, hg', hc, hf⟩ := hr (by omega)
  rw [hg] at hg'
  cases hg'
  intro j hj
  refine ⟨?_, hf _⟩
  rw [hc _ (by omega), List.getElem?_eq_getElem (by have := h.own.1; omega)]
  rfl
/-- The marks and the count, once a place has got, or lost, its node. -/
theorem xor_bit (u b c : Nat) : (u ^^^ 2 ^ c).testBit b = (u.testBit b ^^ decide (c = b)) := by
  rw [Nat.testBit_xor, Nat.testBit_two_pow]
theorem ARq.marks (h : ARq w p B most n rf q nd M wd v xs) {w1 w2 : World} {i : Nat} (hi : i < n) {rf' : Int → Nat} (hr : ∀ j : Int, j ≠ (i + 1 : Nat) → (rf' j = 0 ↔ rf j = 0)) (hx : rf' (i + 1 : Nat) = 0 ↔ rf (i + 1 : Nat) ≠ 0)
    (h1 : OneSet w w1 p (3 + i / 64) (.int .u64 (wd (i / 64) ^^^ 2 ^ (i % 64) : Nat))) (h2 : OneSet w1 w2 p 1 (.int .i64 (usd rf' n))) (hq : ∀ j, rf' j ≠ 0 → rf j ≠ 0 ∨ j = (i + 1 : Nat)) (hok : RfOk n rf') (hrb : ∀ j, rf' j ≤ M)
    (hnd : rf' (i + 1 : Nat) ≠ 0 → ∀ j, j < 25 → xs[26 * i + j]? = (ndL (nd (i + 1 : Nat)))[j]?) :
    ARq w2 p B most n rf' q nd M (fun j => if j = i / 64 then wd (i / 64) ^^^ 2 ^ (i % 64) else wd j) v xs ∧ Chg (fun j => j = p) w w2 := by
  have hn := h.n_le
  have c := h1.chg.trans h2.chg
  have oth : ∀ j, j ≠ 1 → j ≠ 3 + i / 64 → w2.cell? ⟨p, j, none⟩ = w.cell? ⟨p, j, none⟩ := fun j a b => (h2.other j a).trans (h1.other j b)
  refine ⟨⟨(oth 0 (by omega) (by omega)).trans h.c0, h2.cell, (oth 2 (by omega) (by omega)).trans h.c2, fun j hj => ?_, fun j => (h2.fz j).trans ((h1.fz j).trans (h.fz j)), ?_, h.refs, fun k hk hne j hj => ?_, fun j hj => ?_, fun j hj b hb => ?_, hok, h.kok, h.pB, by rw [h2.size, h1.size]; exact h.B1, h.m1, h.m2, h.nm, hrb, h.Mb⟩, c⟩
  · by_cases e : j = i / 64
    · subst e
      rw [if_pos rfl, h2.other _ (by omega)]
      exact h1.cell
    · rw [if_neg e, oth _ (by omega) (by omega)]
      exact h.c3 j hj
  · have hlt := World.ownsRow.lt h.own
    have hpB := h.pB
    obtain ⟨h0, h1' | ⟨k, cap, cur, hv', hb', hh, r⟩⟩ := h.own
    · exact ⟨h0, .inl h1'⟩
    · subst hv'
      refine ⟨h0, .inr ⟨k, cap, cur, rfl, hb', ?_, r⟩⟩
      rw [c.block k (hlt k rfl).2 (by omega)]
      exact hh
  · by_cases e : k = i
    · subst e; exact hnd hne j hj
    · refine h.nodes k hk ?_ j hj
      rcases hq _ hne with hh | hh
      · exact hh
      · omega
  · split
    · have ha := h.word (i / 64) (by omega)
      have hb : 2 ^ (i % 64) < 2 ^ 64 := Nat.pow_lt_pow_right (by omega) (Nat.mod_lt _ (by omega))
      have := Nat.xor_lt_two_pow (n := 64) (x := wd (i / 64)) (y := 2 ^ (i % 64)) (by omega) hb
      omega
    · exact h.word j hj
  · by_cases e : j = i / 64
    · subst e
      rw [if_pos rfl, xor_bit, h.bit _ hj b hb]
      by_cases e2 : i % 64 = b
      · subst e2
        rw [show 64 * (i / 64) + i % 64 + 1 = i + 1 by omega]
        by_cases c1 : rf (i + 1 : Nat) = 0
        · have : rf' (i + 1 : Nat) ≠ 0 := fun e => (hx.1 e) c1
          rw [decide_eq_false (fun h => h c1), decide_eq_true this, decide_eq_true rfl]; rfl
        · have : rf' (i + 1 : Nat) = 0 := hx.2 c1
          have e1 : decide (rf (i + 1 : Nat) ≠ 0) = true := decide_eq_true c1
          have e2 : decide (rf' (i + 1 : Nat) ≠ 0) = false := decide_eq_false (fun h => h this)
          rw [e1, e2, decide_eq_true rfl]; rfl
      · have h3 := hr ((64 * (i / 64) + b + 1 : Nat) : Int) (by omega)
        simp only [e2, decide_false, Bool.xor_false]
        congr 1
        exact propext (not_congr h3.symm)
    · rw [if_neg e, h.bit j hj b hb]
      have h3 := hr ((64 * j + b + 1 : Nat) : Int) (by omega)
      congr 1
      exact propext (not_congr h3.symm)
end
end Go.Proofs.YtjkbhaplngnniaaDoor
namespace Go.Proofs.YtjkbhaplngnniaaDoor
open Go.RowKit
set_option linter.unusedSimpArgs false
set_option linter.unusedVariables false
section
variable {w : World} {p B : Nat} {most : Int} {n : Nat} {rf q : Int → Nat} {nd : Int → ANd} {M : Nat} {wd : Nat → Nat} {v : Value} {xs : List Value}
set_option maxHeartbeats 2000000 in
set_option maxRecDepth 100000 in
theorem arena_clear {k : Nat} (h : ARq w p B most n rf (stR rf (k + 1 : Nat)) nd M wd v xs) (hk : k < n) (h1 : rf (k + 1 : Nat) = 1) : Calls Tryd.prog 52 #[.pointer (some ⟨p, 0, none⟩), .int .i64 (k + 1 : Nat)] w fun e w' => e = .returned (.tuple #[]) ∧ (∃ wd' xs', AR w' p B most n (stR rf (k + 1 : Nat)) nd M wd' v xs') ∧ Chg (fun j => j = p ∨ v.ownBlock = some j) w w' := by
  have hn := h.n_le
  have hl : xs.length = n * 26 := h.own.1
  obtain ⟨g, c, hv, hg, hc, hf, _⟩ := h.refCell (i := k) hk
  have h2 := h.c2
  have ht := hidMk (h.there hg hk)
  -- the place with nothing
  have hz8 : zNd.kids.length = 8 ∧ zNd.vals.length = 8 := ⟨rfl, rfl⟩
  obtain ⟨Z, hZ⟩ : ∃ Z, plL zNd 0 = Z := ⟨_, rfl⟩
  have hzl : Z.length = 26 := by rw [← hZ]; exact plL_len zNd 0 hz8.1 hz8.2
  have hzr : Z[25]? = some (.int .i64 ((0 : Nat) : Int)) := by rw [← hZ]; exact plL_ref zNd 0 hz8.1 hz8.2
  have hzn : ∀ j, j < 25 → Z[j]? = (ndL zNd)[j]? := by rw [← hZ]; exact plL_nd zNd 0 hz8.1 hz8.2
  have HZO := hidMk (show ∀ u ∈ Z, u.oneCell' = true by rw [← hZ]; exact plL_one zNd 0)
  have HZ := hidMk hZ
  clear hZ
  obtain ⟨hA, hC⟩ := h.cells hg (k * 26) Z (stR rf (k + 1 : Nat)) (fun i => if i = (k + 1 : Nat) then zNd else nd i) (fun i hi => by
    by_cases e : i = k
    · subst e
      rw [show 26 * i + 25 = i * 26 + 25 by omega, setL_in _ _ _ _ (by omega) (by omega), hzr, stR_same, h1]
    · rw [setL_out _ _ _ _ (by omega)]
      exact h.refs i hi) (fun i hi hne j hj => by
    by_cases e : i = k
    · subst e
      rw [if_pos rfl, show 26 * i + j = i * 26 + j by omega, setL_in _ _ _ _ (by omega) (by omega)]
      exact hzn j hj
    · rw [if_neg (by omega), setL_out _ _ _ _ (by omega)]
      exact h.nodes i hi hne j hj) (fun i => by
    by_cases e : i = (k + 1 : Nat)
    · rw [if_pos e]; exact hz8
    · rw [if_neg e]; exact h.kok i)
  have hus : usd rf n = usd (stR rf (k + 1 : Nat)) n + 1 := usd_set (k + 1) n (by omega) (by omega) (by rw [stR_same, h1]) (by rw [h1]; omega) (fun i hi => by rw [stR_other rf (by omega)])
  have hul := usd_le rf n
  have HA := hidMk hA
  have HC := hidMk hC
  have HW := hidMk (hA.word (k / 64) (by omega))
  have hc3 := hA.c3 (k / 64) (by omega)
  have hfz := hA.fz (3 + k / 64)
  have HFL := hidMk (arena_flip k (by omega) (wd (k / 64)) HW.out hc3 hfz)
  have c1 := hA.c1
  have f1 := hA.fz 1
  have HMK := hidMk (show ∀ w1, OneSet (w.setCells g (k * 26) Z) w1 p (3 + k / 64) (.int .u64 (wd (k / 64) ^^^ 2 ^ (k % 64) : Nat)) → (w1.cell? ⟨p, 1, none⟩ = some (.int .i64 (usd rf n)) ∧ w1.frozen? ⟨p, 1, none⟩ = false ∧ ((∃ wd' xs', AR (w1.setCell ⟨p, 1, none⟩ (.int .i64 (usd (stR rf (k + 1 : Nat)) n))) p B most n (stR rf (k + 1 : Nat)) nd M wd' v xs') ∧ Chg (fun j => j = p ∨ v.ownBlock = some j) w (w1.setCell ⟨p, 1, none⟩ (.int .i64 (usd (stR rf (k + 1 : Nat)) n))))) from fun w1 hw1 => by
    have q1 := (hw1.other 1 (by omega)).trans c1
    refine ⟨q1, (hw1.fz 1).trans f1, ?_⟩
    obtain ⟨m1, m2⟩ := hA.marks hk (rf' := stR rf (k + 1 : Nat)) (fun j hj => by rw [stR_other rf hj]) (by rw [stR_same, h1]; simp) hw1 (oneSet q1) (fun j hj => by
      by_cases e : j = (k + 1 : Nat)
      · exact .inr e
      · rw [stR_other rf e] at hj; exact .inl hj) (stR_ok h.ok _) (fun j => by have := h.rb j; unfold stR; split <;> omega) (fun hne => absurd (by rw [stR_same, h1]) hne)
    have m3 := fun i hi hne j hj => m1.nodes i hi hne j hj
    have m4 : ∀ i, i < n → stR rf (k + 1 : Nat) (i + 1 : Nat) ≠ 0 → ∀ j, j < 25 → (setL xs (k * 26) Z)[26 * i + j]? = (ndL (nd (i + 1 : Nat)))[j]? := fun i hi hne j hj => by
      have := m1.nodes i hi hne j hj
      rw [if_neg (fun e => by rw [e, stR_same, h1] at hne; exact hne rfl)] at this
      exact this
    exact ⟨⟨_, _, ⟨m1.c0, m1.c1, m1.c2, m1.c3, m1.fz, m1.own, m1.refs, m4, m1.word, m1.bit, m1.ok, h.kok, m1.pB, m1.B1, m1.m1, m1.m2, m1.nm, m1.rb, m1.Mb⟩⟩, (hC.mono (fun j _ e => .inr e)).trans (m2.mono (fun j _ e => .inl e))⟩)
  have HZL := hidMk hzl
  clear h hA hC hl hf hc hg c1 f1 hc3 hfz h1 hul hzl hzr hzn hz8
  subst hv
  rw [show ((k + 1 : Nat) : Int) = (k : Int) + 1 by omega]
  have hk1 : (k : Int) < n := by omega
  have e1 : wrap64 ((k : Int) + 1 - 1) = k := by unfold wrap64; omega
  obtain ⟨u1, hu1⟩ : ∃ u1, usd (stR rf (k + 1 : Nat)) n = u1 := ⟨_, rfl⟩
  have hun := usd_le (stR rf (k + 1 : Nat)) n
  rw [hu1] at hus HMK hun
  rw [hus] at HMK
  have e2 : wrap64 (((u1 + 1 : Nat) : Int) - 1) = u1 := by unfold wrap64; omega
  have e3 : wrap64 ((u1 : Int) + 1 - 1) = u1 := by unfold wrap64; omega
  clear hu1 hus HA HC HW
  go_enter Tryd.func52, Tryd.ntmps52
  go_wp2_with (first | (refine wpl_buildZQ HZ.out rfl rfl ?_) | (refine wpl_storeP rfl _ _ rfl _ _ rfl Z HZL.out rfl HZO.out ht.out ?_))
  refine HFL.out.mono ?_
  rintro e w1 ⟨rfl, hw1⟩
  obtain ⟨q1, f1, hfin⟩ := HMK.out w1 hw1
  have HF := hidMk hfin
  clear hfin hw1 HMK HFL
  go_wp2_with fail
  go_end0
  exact ⟨rfl, HF.out⟩
end
end Go.Proofs.YtjkbhaplngnniaaDoor
namespace Go.Proofs.YtjkbhaplngnniaaDoor
open Go.RowKit Go.Maps
set_option linter.unusedSimpArgs false
set_option linter.unusedVariables false

def kdA (nd : Int → ANd) : Int → List Int := fun i => (nd i).kids
/-- Some places behind an own row. -/
theorem wpl_pushN {ops : Array Oper} {rest : List Oper} {o : Oper} {a : Act} {Q : Exit → Act → World → Prop} (w : World) (hgd : o.guard = none) (s x : Operand)
    (ho : o.op = .call { callee := .builtin .append, args := #[s, x], argTypes := #[54, 54] })
    (B : Nat) (v : Value) (l : List Int) (hs : a.eval s = v) (hv : OwnI w B v l) (hB : B ≤ w.heap.size) (g f m : Nat) (ys : List Int) (hm : ys.length = m) (hm0 : 0 < m) (hx : a.eval x = .slice (some ⟨g, f, none⟩) m m) (hcell : ∀ j, j < m → w.cell? ⟨g, f + j, none⟩ = some (.int .i64 (ys.getD j 0)))
    (h47 : (l.length + m) * 8 ≤ 140737488355328) (H : Nat) (hH : w.heap.size = H)
    (h : ∀ g' cap w', OwnI w' B (.slice (some ⟨g', 0, none⟩) (l.length + m) cap) (l ++ ys) → Chg (fun k => v.ownBlock = some k) w w' → (v.ownBlock = some g' ∨ g' = H) → g' < w'.heap.size → wpList Tryd.prog ops Q rest (a.put o.dst (.slice (some ⟨g', 0, none⟩) (l.length + m) cap)) w') : wpList Tryd.prog ops Q (o :: rest) a w := by
  obtain ⟨i0, hi0, hz0, hz1, hz2⟩ := iinfo
  refine wpList_append_lies w hgd s x 54 ho B 3 i0 (.int .i64 0) 1 8 Tryd.underlying54 hi0 hz0 hz1 hz2 rfl (by decide) v _ _ hs hv ⟨g, f, none⟩ m m (ys.map (Value.int .i64)) hx (by simp [hm]) (fun j u hu => ?_) (ints_one ys) hm0 (by unfold maxLen; omega) (by omega) hB H hH ?_
  · have hj : j < ys.length := by have := (List.getElem?_eq_some_iff.1 hu).1; simpa using this
    rw [Addr.add_lit, hcell j (by omega), ← hu, List.getElem?_map, List.getElem?_eq_getElem hj]
    simp [List.getD, List.getElem?_eq_getElem hj]
  · intro g' cap w' h2 h3 h4 h5
    refine h g' cap w' ?_ ((Chg.refl _ w).grown h3 (fun k hk => .inl hk)) h4 h5
    unfold OwnI
    rw [List.map_append, List.length_append, hm]
    exact h2
theorem OwnI.pop {w : World} {B g c : Nat} {l : List Int} {x : Int} (h : OwnI w B (.slice (some ⟨g, 0, none⟩) (l.length + 1) c) (l ++ [x])) : OwnI w B (.slice (some ⟨g, 0, none⟩) l.length c) l := by
  unfold OwnI at h ⊢
  rw [List.map_append, List.length_append] at h
  obtain ⟨h0, ⟨h1, _⟩ | ⟨k, cap, cur, hv, hb, hh, h2, h3, h4, h5⟩⟩ := h
  · cases h1
  · simp only [Value.slice.injEq, Option.some.injEq, Addr.mk.injEq, and_true, true_and] at hv
    obtain ⟨rfl, _, rfl⟩ := hv
    simp only [List.length_cons, List.length_nil, List.length_map] at h0 h2 h5
    refine ⟨by simp, .inr ⟨g, c, cur, rfl, hb, hh, by omega, h3, h4, ?_⟩⟩
    have := congrArg (List.take l.length) h5
    rw [List.take_take, show min l.length ((l.length + (0 + 1)) * 1) = l.length by omega] at this
    rw [Nat.mul_one, this]
    simp
theorem World.heap_new (w : World) (o : Obj) : (w.alloc o).heap[w.heap.size]? = some o := by
  unfold World.alloc
  exact Array.getElem?_push_size
theorem ownI_new (w : World) (x : Int) : OwnI (w.alloc (.cells #[.int .i64 x] 3)) w.heap.size (.slice (some ⟨w.heap.size, 0, none⟩) 1 1) [x] := by
  refine ⟨rfl, .inr ⟨w.heap.size, 1, #[.int .i64 x], rfl, Nat.le_refl _, World.heap_new _ _, by simp, by unfold maxLen; omega, rfl, rfl⟩⟩
theorem OwnI.last {w : World} {B : Nat} {v : Value} {l : List Int} {x : Int} (h : OwnI w B v (l ++ [x])) (hl : l.length ≤ 200000) : ∃ g c, v = .slice (some ⟨g, 0, none⟩) (l.length + 1) c ∧ w.cell? ⟨g, l.length, none⟩ = some (.int .i64 x) ∧ l.length + 1 ≤ c ∧ c ≤ maxLen := by
  have h' := h
  unfold OwnI at h'
  rw [List.length_append, List.length_singleton] at h'
  obtain ⟨h0, ⟨_, h1⟩ | ⟨k, cap, cur, rfl, hb, hh, h2, h3, h4, h5⟩⟩ := h'
  · omega
  · refine ⟨k, cap, rfl, ?_, h2, h3⟩
    obtain ⟨a, c, e, hs⟩ := h.sl (by rw [List.length_append]; simp; unfold maxLen; omega)
    rw [List.length_append, List.length_singleton] at e
    cases e
    rw [List.length_append, List.length_singleton] at hs
    obtain ⟨b, o, e1, _, e3⟩ := hs.cells (by omega)
    cases e1
    have := e3 l.length (by omega)
    rw [Nat.zero_add] at this
    rw [this]
    simp [List.getD]
section
variable {w : World} {p B : Nat} {most : Int} {n : Nat} {rf q : Int → Nat} {nd : Int → ANd} {M : Nat} {wd : Nat → Nat} {v : Value} {xs : List Value}
theorem arena_DropNone (h : AR w p B most n rf nd M wd v xs) (i : Int) (hi : rf i = 0) : Calls Tryd.prog 39 #[.pointer (some ⟨p, 0, none⟩), .int .i64 i] w fun e w' => e = .returned (.int .i64 10) ∧ w' = w := by
  have H := hidMk (arena_findNone h i hi)
  clear h hi
  go_enter Tryd.func39, Tryd.ntmps39
  go_wp2_with fail
  refine H.out.mono ?_
  rintro e w1 ⟨rfl, rfl⟩
  go_wp2_with fail
  go_ret
  exact ⟨rfl, rfl⟩
def DropPost (w : World) (p B : Nat) (most : Int) (n : Nat) (nd : Int → ANd) (M : Nat) (v : Value) (r : Int → Nat) (e : Ending) (w' : World) : Prop :=
  e = .returned (.int .i64 0) ∧ (∃ wd' xs', AR w' p B most n r nd M wd' v xs') ∧ Chg (fun j => j = p ∨ v.ownBlock = some j) w w'
set_option maxHeartbeats 4000000 in
set_option maxRecDepth 100000 in
theorem arena_Drop (h : AR w p B most n rf nd M wd v xs) (i : Int) (hi : rf i ≠ 0) (K : Nat) (r : Int → Nat) (hK : DropsN (kdA nd) K rf [i] r) : Calls Tryd.prog 39 #[.pointer (some ⟨p, 0, none⟩), .int .i64 i] w (DropPost w p B most n nd M v r) := by
  have hn1 : 1 ≤ i ∧ i ≤ (n : Int) := by
    by_cases c : 1 ≤ i ∧ i ≤ (n : Int)
    · exact c
    · exact absurd (h.ok i c) hi
  have hn := h.n_le
  have H := hidMk (show Calls Tryd.prog 51 #[.pointer (some ⟨p, 0, none⟩), .int .i64 i] w fun e w' => (∃ pt, e = .returned (.tuple #[.pointer pt, .int .i64 0])) ∧ w' = w from by
    obtain ⟨k, rfl⟩ : ∃ k : Nat, i = ((k + 1 : Nat) : Int) := ⟨(i - 1).toNat, by omega⟩
    obtain ⟨g, c, hv, hg, _⟩ := h.refCell (i := k) (by omega)
    refine (arena_find h k (by omega) hi hg).mono ?_
    rintro e w' ⟨rfl, rfl⟩
    exact ⟨⟨_, rfl⟩, rfl⟩)
  have HH := hidMk h
  have HK := hidMk hK
  have hus := usd_le rf n
  clear h hK hi hn1
  go_enter Tryd.func39, Tryd.ntmps39
  go_wp2_with fail
  refine H.out.mono ?_
  rintro e w1 ⟨⟨pt, rfl⟩, rfl⟩
  go_wp2_with fail
  go_loopg [7] K (fun g s wr => ∃ (rf' : Int → Nat) (L : List Int) (wd' : Nat → Nat) (xs' : List Value), Hid (DropsN (kdA nd) g rf' L.reverse r) ∧ Hid (OwnI wr w1.heap.size s L) ∧ Hid (AR wr p B most n rf' nd M wd' v xs') ∧ Hid (Chg (fun j => j = p ∨ v.ownBlock = some j) w1 wr) ∧ L.length + 8 * usd rf' n ≤ 160001)
  case atStart => exact ⟨rf, [i], wd, xs, HK, hidMk (ownI_new w1 i), hidMk (HH.out.kept ((Kept.refl w1).alloc _)), hidMk (Chg.of_kept ((Kept.refl w1).alloc _)), by simp; omega⟩
  case round =>
    obtain ⟨rf', L, wd', xs', HD, HO, HA, HC, hlen⟩ := hrel
    rcases (show L = [] ∨ ∃ L0 x, L = L0 ++ [x] from by rcases List.eq_nil_or_concat L with h | ⟨a, b, h⟩; exact .inl h; exact .inr ⟨a, b, by simpa using h⟩) with rfl | ⟨L0, x, rfl⟩
    · obtain ⟨a0, c0, rfl, _⟩ := HO.out.sl (by unfold maxLen; simp)
      have HR := hidMk (drops_nil HD.out).2
      go_wp2_with fail
      go_ret
      exact ⟨rfl, ⟨_, _, by rw [HR.out]; exact HA.out⟩, HC.out⟩
    · rw [List.length_append, List.length_singleton] at hlen
      obtain ⟨g7, c7, rfl, cx, hc1, hc2⟩ := HO.out.last (by omega)
      rw [List.reverse_append, List.reverse_singleton, List.singleton_append] at HD
      obtain ⟨K', hK', hD'⟩ := drops_pos HD.out
      subst hK'
      have HP := hidMk HO.out.pop
      have HO7 := hidMk (HO.out.lt g7 rfl)
      have l1 : (0 : Int) < ((L0.length + 1 : Nat) : Int) := by omega
      have l2 : wrap64 (((L0.length + 1 : Nat) : Int) - 1) = L0.length := by unfold wrap64; omega
      have l3 : wrap64 ((L0.length : Int) + 1 - 1) = L0.length := by unfold wrap64; omega
      have l4 : (L0.length : Int) < ((L0.length + 1 : Nat) : Int) := by omega
      have hnx := HA.out.n_le
      unfold maxLen at hc2
      by_cases hx : rf' x = 0
      · have HF := hidMk (arena_findNone HA.out x hx)
        have HFK := hidMk (show ∀ k, Calls Tryd.prog 51 #[.pointer (some ⟨p, 0, none⟩), .int .i64 x] (wr.drewN k) fun e w' => e = .returned (.tuple #[.pointer none, .int .i64 10]) ∧ w' = wr.drewN k from fun k => arena_findNone (HA.out.kept ((Kept.refl wr).drewN k)) x hx)
        have HN := hidMk (show DropsN (kdA nd) K' rf' L0.reverse r by
          rw [stR_none hx] at hD'
          have : stK (kdA nd) rf' x = [] := by unfold stK; rw [if_neg (by omega)]
          rw [this] at hD'
          exact hD')
        clear hD' HD hx HF
        go_wp2_with fail
        go_quiet (fail)
        go_wp2_with fail
        refine (HFK.out _).mono ?_
        rintro e w2 ⟨rfl, rfl⟩
        go_wp2_with fail
        go_roundg K'
        case measure => omega
        case rel => exact ⟨rf', L0, wd', xs', HN, hidMk (HP.out.chg (S := fun _ => False) (Chg.of_kept ((Kept.refl wr).drewN _)) (fun _ _ e => e)), hidMk (HA.out.kept ((Kept.refl wr).drewN _)), hidMk (HC.out.drewN _), by omega⟩
      · have hnx1 : 1 ≤ x ∧ x ≤ (n : Int) := by
          by_cases c : 1 ≤ x ∧ x ≤ (n : Int)
          · exact c
          · exact absurd (HA.out.ok x c) hx
        obtain ⟨k, rfl⟩ : ∃ k : Nat, x = ((k + 1 : Nat) : Int) := ⟨(x - 1).toNat, by omega⟩
        have hkn : k < n := by omega
        obtain ⟨g, cg, hvg, hg, _⟩ := HA.out.refCell (i := k) hkn
        have hgB := HA.out.apart hg
        have hrb := HA.out.rb ((k + 1 : Nat) : Int)
        have hMb := HA.out.Mb
        have hltw : g < w1.heap.size ∧ p < w1.heap.size := ⟨(HH.out.apart hg).2.1, HH.out.lt⟩
        have HFK := hidMk (show ∀ m, Calls Tryd.prog 51 #[.pointer (some ⟨p, 0, none⟩), .int .i64 ((k + 1 : Nat) : Int)] (wr.drewN m) fun e w' => e = .returned (.tuple #[.pointer (some ⟨g, k * 26, none⟩), .int .i64 0]) ∧ AR w' p B most n rf' nd M wd' v xs' ∧ OwnI w' w1.heap.size (.slice (some ⟨g7, 0, none⟩) L0.length c7) L0 ∧ Chg (fun j => j = p ∨ v.ownBlock = some j) w1 w' from fun m => by
          refine (arena_find (HA.out.kept ((Kept.refl wr).drewN m)) k hkn hx hg).mono ?_
          rintro e w' ⟨rfl, rfl⟩
          exact ⟨rfl, HA.out.kept ((Kept.refl wr).drewN m), HP.out.chg (S := fun _ => False) (Chg.of_kept ((Kept.refl wr).drewN m)) (fun _ _ e => e), HC.out.drewN m⟩)
        have HG7 := hidMk (show g7 ≠ g ∧ g7 ≠ p by have := HO7.out; omega)
        have HHG := hidMk hg
        clear HA HP HC HO HD hvg
        generalize hX : ((k + 1 : Nat) : Int) = X at *
        go_wp2_with fail
        go_quiet (fail)
        go_wp2_with fail
        refine (HFK.out _).mono ?_
        rintro e w2 ⟨rfl, hA2, hP2, hC2⟩
        obtain ⟨g', cg', hv', hg', c25, f25, hrg⟩ := hA2.refCell (i := k) hkn
        rw [hX] at c25 hrg
        have : g' = g := by rw [HHG.out] at hg'; cases hg'; rfl
        subst this
        obtain ⟨z, hz⟩ : ∃ z, rf' X = z + 1 := ⟨rf' X - 1, by omega⟩
        have hsz : stR rf' X = setR rf' X z := by
          funext j; unfold setR stR; split
          · subst j; omega
          · rfl
        have HSR := hA2.setRef (i := k) hkn HHG.out z
        rw [hX] at HSR
        rw [hz] at c25
        rw [← hsz] at HSR
        have HP3 := hP2.chg HSR.2 (fun j hj e => by cases hj; rw [HHG.out] at e; cases e; exact HG7.out.1 rfl)
        have HC3 := hC2.trans (HSR.2.mono (fun j _ e => .inr e))
        by_cases hx1 : z = 0
        · subst hx1
          have hus2 : usd rf' n = usd (stR rf' X) n + 1 := by
            rw [← hX]
            exact usd_set (k + 1) n (by omega) (by omega) (by rw [stR_same, hX, hz]) (by rw [hX, hz]; omega) (fun i hi => by rw [stR_other rf' (by omega)])
          have HQ := hidMk HSR.1
          have HP4 := hidMk HP3
          have HC4 := hidMk HC3
          obtain ⟨g2, cg2, _, hg2, _, _, hrg2⟩ := HSR.1.refCell (i := k) hkn
          have : g2 = g' := by rw [HHG.out] at hg2; cases hg2; rfl
          subst this
          rw [hX] at hrg2
          have hkids : (nd X).kids.length = 8 := (HSR.1.kok X).1
          have HKC := hidMk (show ∀ j, j < 8 → (w2.setCell ⟨g2, k * 26 + 25, none⟩ (.int .i64 (0 : Nat))).cell? ⟨g2, k * 26 + 1 + j, none⟩ = some (.int .i64 ((nd X).kids.getD j 0)) from fun j hj => by
            have := hrg2 (by rw [hz]; omega) (1 + j) _ (ndL_kid (nd X) hkids j hj)
            rw [show k * 26 + 1 + j = k * 26 + (1 + j) by omega]
            exact this)
          have HDP := hidMk (show DropsN (kdA nd) K' (stR rf' X) (L0 ++ (nd X).kids).reverse r from by
            have : stK (kdA nd) rf' X = (nd X).kids := by unfold stK; rw [if_pos (by rw [hz])]; rfl
            rw [this] at hD'
            refine drops_perm _ _ _ _ _ _ ?_ hD'
            rw [List.reverse_append]
            exact List.Perm.append_right _ (List.reverse_perm _).symm)
          have HW2 := hidMk (show w1.heap.size ≤ (w2.setCell ⟨g2, k * 26 + 25, none⟩ (.int .i64 (0 : Nat))).heap.size from HC3.size)
          have HZ1 := hidMk (show rf' X = 1 by rw [hz])
          have HKL := hidMk hkids
          clear HSR hA2 hP2 hC2 hD' hrg hrg2 hv' hg' HP3 HC3 hg2
          go_wp2_with (at_builtin; refine wpl_pushN _ rfl _ _ rfl w1.heap.size (.slice (some ⟨g7, 0, none⟩) L0.length c7) L0 rfl HP4.out HW2.out g2 (k * 26 + 1) 8 (nd X).kids HKL.out (by omega) rfl HKC.out (by omega) _ rfl ?_)
          intro g8 cap8 w4 ho4 hc4 ha4 hl4
          have hb4 : ∀ j, (Value.slice (some ⟨g7, 0, none⟩) L0.length c7).ownBlock = some j → j = g7 := fun j e => by cases e; rfl
          have hQ4 := HQ.out.chg hc4 (fun e => HG7.out.2 (hb4 _ e).symm) (fun j hj e => by rw [HHG.out] at hj; cases hj; exact HG7.out.1 (hb4 _ e).symm)
          have hC4 := HC4.out.thn hc4 (fun j hj e => by have := hb4 j e; have := HO7.out; omega)
          have h8 : g8 ≠ g2 ∧ g8 ≠ p := by
            have := (ho4.lt g8 rfl).1
            omega
          rw [← hX] at hQ4
          have HCL := hidMk (arena_clear hQ4 hkn (by rw [hX]; exact HZ1.out))
          rw [hX] at HCL
          have HO4 := hidMk ho4
          have HC5 := hidMk hC4
          clear ho4 hc4 ha4 hl4 hQ4 hC4 HQ HC4 HP4 HKC
          go_wp2_with fail
          refine HCL.out.mono ?_
          rintro e w5 ⟨rfl, ⟨wd5, xs5, hA5⟩, hc5⟩
          have HO5 := hidMk (HO4.out.chg hc5 (fun j hj e => by
            cases hj
            rcases e with e | e
            · exact h8.2 e
            · rw [HHG.out] at e; cases e; exact h8.1 rfl))
          have HC6 := hidMk (HC5.out.trans hc5)
          have HA5 := hidMk hA5
          clear hc5 hA5 HCL HO4 HC5
          go_wp2_with fail
          go_roundg K'
          case measure => omega
          case rel => exact ⟨stR rf' X, L0 ++ (nd X).kids, wd5, xs5, HDP, HO5, HA5, HC6, by rw [List.length_append, HKL.out]; omega⟩
        · have HFIN := hidMk (show AR _ p B most n (stR rf' X) nd M wd' v _ ∧ OwnI (w2.setCell ⟨g', k * 26 + 25, none⟩ (.int .i64 z)) w1.heap.size (.slice (some ⟨g7, 0, none⟩) L0.length c7) L0 ∧ Chg (fun j => j = p ∨ v.ownBlock = some j) w1 (w2.setCell ⟨g', k * 26 + 25, none⟩ (.int .i64 z)) ∧ DropsN (kdA nd) K' (stR rf' X) L0.reverse r ∧ usd (stR rf' X) n = usd rf' n from by
            have hzz : ∀ j, stR rf' X j = 0 ↔ rf' j = 0 := fun j => by
              unfold stR; split
              · subst j; omega
              · exact Iff.rfl
            refine ⟨HSR.1.settle hzz (fun j => by have := hA2.rb j; unfold stR; split <;> omega) hMb, HP3, HC3, ?_, usd_congr n (fun j _ _ => hzz j)⟩
            have : stK (kdA nd) rf' X = [] := by unfold stK; rw [if_neg (by omega)]
            rw [this] at hD'
            exact hD')
          have hz0 : ((z : Int) == 0) = false := by simpa using hx1
          have hzb : z + 1 ≤ M := by omega
          clear HSR hA2 hP2 hC2 hD' hrg hv' hg' HP3 HC3 hsz
          go_wp2_with fail
          go_roundg K'
          case measure => omega
          case rel => exact ⟨stR rf' X, L0, wd', _, hidMk HFIN.out.2.2.2.1, hidMk HFIN.out.2.1, hidMk HFIN.out.1, hidMk HFIN.out.2.2.1, by rw [HFIN.out.2.2.2.2]; omega⟩
end
end Go.Proofs.YtjkbhaplngnniaaDoor
