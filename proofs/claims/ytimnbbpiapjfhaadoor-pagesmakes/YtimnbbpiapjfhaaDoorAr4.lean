/- What is written into an arena: Keep, clear. -/
import Derived.Test.YtimnbbpiapjfhaaDoorAr3
import Derived.Laws.OwnMore
namespace Go.Proofs.YtimnbbpiapjfhaaDoor
open Go.RowKit
set_option linter.unusedSimpArgs false
set_option linter.unusedVariables false

/-- A row some of whose cells are written anew. -/
def setL (xs : List Value) (o : Nat) : List Value → List Value
  | [] => xs
  | v :: r => setL (xs.set o v) (o + 1) r
theorem setL_len (L : List Value) : ∀ (xs : List Value) (o : Nat), (setL xs o L).length = xs.length := by
  induction L with
  | nil => intro xs o; rfl
  | cons v r ih => intro xs o; unfold setL; rw [ih]; simp
theorem setL_out (L : List Value) : ∀ (xs : List Value) (o j : Nat), (j < o ∨ o + L.length ≤ j) → (setL xs o L)[j]? = xs[j]? := by
  induction L with
  | nil => intro xs o j _; rfl
  | cons v r ih =>
    intro xs o j h
    simp only [List.length_cons] at h
    unfold setL
    rw [ih _ _ _ (by omega), List.getElem?_set_ne (by omega)]
theorem setL_in (L : List Value) : ∀ (xs : List Value) (o j : Nat), j < L.length → o + j < xs.length → (setL xs o L)[o + j]? = L[j]? := by
  induction L with
  | nil => intro xs o j h; simp at h
  | cons v r ih =>
    intro xs o j h g
    simp only [List.length_cons] at h
    unfold setL
    cases j with
    | zero =>
      rw [setL_out r _ _ _ (by omega)]
      rw [Nat.add_zero, List.getElem?_set_self (by omega)]
      rfl
    | succ j =>
      rw [show o + (j + 1) = o + 1 + j by omega, ih _ _ _ (by omega) (by simp; omega)]
      rfl
theorem own_setL {base e size g n cap : Nat} (L : List Value) : ∀ {w : World} {xs : List Value} (o : Nat), w.ownsRow base e size (.slice (some ⟨g, 0, none⟩) n cap) n xs → (w.setCells g o L).ownsRow base e size (.slice (some ⟨g, 0, none⟩) n cap) n (setL xs o L) := by
  induction L with
  | nil => intro w xs o h; exact h
  | cons v r ih => intro w xs o h; exact ih (o + 1) (h.stored o v).1
theorem setCells_size (g : Nat) (L : List Value) : ∀ (w : World) (o : Nat), (w.setCells g o L).heap.size = w.heap.size := by
  induction L with
  | nil => intro w o; rfl
  | cons v r ih => intro w o; unfold World.setCells; rw [ih]; simp [World.setCell]
section
variable {w : World} {p B : Nat} {most : Int} {n : Nat} {rf q : Int → Nat} {nd : Int → ANd} {M : Nat} {wd : Nat → Nat} {v : Value} {xs : List Value}
/-- Cells of the places are written: what is left to show is what they say. -/
theorem ARq.cells (h : ARq w p B most n rf q nd M wd v xs) {g : Nat} (hg : v.ownBlock = some g) (o : Nat) (L : List Value) (q' : Int → Nat) (nd' : Int → ANd)
    (h1 : ∀ i, i < n → (setL xs o L)[26 * i + 25]? = some (.int .i64 (q' (i + 1 : Nat)))) (h2 : ∀ i, i < n → rf (i + 1 : Nat) ≠ 0 → ∀ j, j < 25 → (setL xs o L)[26 * i + j]? = (ndL (nd' (i + 1 : Nat)))[j]?) (h3 : ∀ i, (nd' i).kids.length = 8 ∧ (nd' i).vals.length = 8) :
    ARq (w.setCells g o L) p B most n rf q' nd' M wd v (setL xs o L) ∧ Chg (fun j => v.ownBlock = some j) w (w.setCells g o L) := by
  obtain ⟨_, _, hne⟩ := h.apart hg
  have c := chg_setCells (S := fun j => j = g) rfl L o (Chg.refl (fun j => j = g) w)
  have ne : ¬ (p = g) := fun e => hne e.symm
  have lp := h.lt
  refine ⟨⟨c.cellp h.c0 ne, c.cellp h.c1 ne, c.cellp h.c2 ne, fun j hj => c.cellp (h.c3 j hj) ne, fun j => (c.frozen (p := ⟨p, j, none⟩) lp ne).trans (h.fz j), ?_, h1, h2, h.word, h.bit, h.ok, h3, h.pB, by rw [setCells_size]; exact h.B1, h.m1, h.m2, h.nm, h.rb, h.Mb⟩, c.mono (fun j _ e => by rw [hg, e])⟩
  obtain ⟨a, cp, hv, _⟩ := h.rows
  obtain ⟨_, ⟨hv', hz⟩ | ⟨g', cap, cur, hv', _⟩⟩ := h.own
  · rw [hv'] at hg; cases hg
  · have hv2 := hv'
    rw [hv'] at hg
    cases hg
    rw [hv2]
    exact own_setL L o (hv2 ▸ h.own)
/-- How often each is asked for is what the cells say. -/
theorem ARq.settle (h : ARq w p B most n rf q nd M wd v xs) (hq : ∀ i, q i = 0 ↔ rf i = 0) {M' : Nat} (hM : ∀ i, q i ≤ M') (hM' : M' ≤ 4611686018427387904) : AR w p B most n q nd M' wd v xs := by
  have hu : usd q n = usd rf n := usd_congr n (fun i _ _ => hq i)
  refine ⟨h.c0, by rw [hu]; exact h.c1, h.c2, h.c3, h.fz, h.own, h.refs, fun i hi hne => h.nodes i hi (fun e => hne ((hq _).2 e)), h.word, fun j hj b hb => ?_, fun i hi => (hq i).2 (h.ok i hi), h.kok, h.pB, h.B1, h.m1, h.m2, h.nm, hM, hM'⟩
  rw [h.bit j hj b hb]
  congr 1
  exact propext (not_congr (hq _).symm)
/-- One more, or less. -/
theorem ARq.setRef (h : ARq w p B most n rf q nd M wd v xs) {g i : Nat} (hi : i < n) (hg : v.ownBlock = some g) (r : Nat) : ARq (w.setCell ⟨g, i * 26 + 25, none⟩ (.int .i64 r)) p B most n rf (setR q (i + 1 : Nat) r) nd M wd v (setL xs (i * 26 + 25) [.int .i64 r]) ∧ Chg (fun j => v.ownBlock = some j) w (w.setCell ⟨g, i * 26 + 25, none⟩ (.int .i64 r)) := by
  have hl : xs.length = n * 26 := h.own.1
  refine h.cells hg (i * 26 + 25) [.int .i64 r] _ nd (fun k hk => ?_) (fun k hk hne j hj => ?_) h.kok
  · by_cases e : k = i
    · subst e
      rw [setR_same, show 26 * k + 25 = k * 26 + 25 + 0 by omega, setL_in _ _ _ _ (by simp) (by omega)]
      rfl
    · rw [setR_other _ _ (by omega), setL_out _ _ _ _ (by simp; omega)]
      exact h.refs k hk
  · rw [setL_out _ _ _ _ (by simp; omega)]
    exact h.nodes k hk hne j hj
theorem arena_Keep (h : AR w p B most n rf nd M wd v xs) (hM : M + 1 ≤ 4611686018427387904) (i : Int) : Calls Tryd.prog 43 #[.pointer (some ⟨p, 0, none⟩), .int .i64 i] w fun e w' => (rf i = 0 ∧ e = .returned (.int .i64 10) ∧ w' = w) ∨ (rf i ≠ 0 ∧ e = .returned (.int .i64 0) ∧ (∃ xs', AR w' p B most n (setR rf i (rf i + 1)) nd (M + 1) wd v xs') ∧ Chg (fun j => v.ownBlock = some j) w w') := by
  by_cases hi : rf i = 0
  · have H := hidMk (arena_findNone h i hi)
    have HI := hidMk hi
    clear h hi
    go_enter Tryd.func43, Tryd.ntmps43
    go_wp2_with fail
    refine H.out.mono ?_
    rintro e w1 ⟨rfl, rfl⟩
    go_wp2_with fail
    go_ret
    exact .inl ⟨HI.out, rfl, rfl⟩
  · have hn : 1 ≤ i ∧ i ≤ (n : Int) := by
      by_cases c : 1 ≤ i ∧ i ≤ (n : Int)
      · exact c
      · exact absurd (h.ok i c) hi
    obtain ⟨k, rfl⟩ : ∃ k : Nat, i = ((k + 1 : Nat) : Int) := ⟨(i - 1).toNat, by omega⟩
    obtain ⟨g, c, hv, hg, hc, hf, _⟩ := h.refCell (i := k) (by omega)
    have H := hidMk (arena_find h k (by omega) hi hg)
    have hb := h.rb ((k + 1 : Nat) : Int)
    have HS := h.setRef (i := k) (by omega) hg (rf ((k + 1 : Nat) : Int) + 1)
    have HF := hidMk (show rf ((k + 1 : Nat) : Int) ≠ 0 ∧ AR _ p B most n (setR rf ((k + 1 : Nat) : Int) (rf ((k + 1 : Nat) : Int) + 1)) nd (M + 1) wd v _ ∧ _ from ⟨hi, HS.1.settle (fun j => by
      unfold setR; split
      · subst j; omega
      · exact Iff.rfl) (fun j => by
      have := h.rb j
      unfold setR; split
      · subst j; omega
      · omega) hM, HS.2⟩)
    clear h hi hv hg HS
    generalize rf ((k + 1 : Nat) : Int) = r at *
    generalize ((k + 1 : Nat) : Int) = K at *
    have e1 : wrap64 ((r : Int) + 1) = ((r + 1 : Nat) : Int) := by unfold wrap64; omega
    go_enter Tryd.func43, Tryd.ntmps43
    go_wp2_with fail
    refine H.out.mono ?_
    rintro e w1 ⟨rfl, rfl⟩
    go_wp2_with fail
    go_ret
    exact .inr ⟨HF.out.1, rfl, ⟨_, HF.out.2.1⟩, HF.out.2.2⟩
theorem pl_size : (Tryd.prog.info? 104).map (·.size) = some 26 := by kernel_rfl
theorem pl_row : ∃ d, Tryd.prog.underlying 104 = some d ∧ d.isRow = true := ⟨_, Tryd.underlying104, rfl⟩
/-- A place's 26 cells. -/
def plL (x : ANd) (r : Nat) : List Value := ndL x ++ [.int .i64 r]
theorem plL_len (x : ANd) (r : Nat) (h : x.kids.length = 8) (h' : x.vals.length = 8) : (plL x r).length = 26 := by unfold plL; rw [List.length_append, ndL_len x h h']; rfl
theorem plL_one (x : ANd) (r : Nat) : ∀ u ∈ plL x r, u.oneCell' = true := by
  intro u hu
  unfold plL at hu
  rcases List.mem_append.1 hu with hu | hu
  · exact ndL_one x u hu
  · simp at hu; subst hu; rfl
theorem plL_ref (x : ANd) (r : Nat) (h : x.kids.length = 8) (h' : x.vals.length = 8) : (plL x r)[25]? = some (.int .i64 r) := by
  unfold plL
  rw [List.getElem?_append_right (by rw [ndL_len x h h']; exact Nat.le_refl _), ndL_len x h h']
  rfl
theorem plL_nd (x : ANd) (r : Nat) (h : x.kids.length = 8) (h' : x.vals.length = 8) (j : Nat) (hj : j < 25) : (plL x r)[j]? = (ndL x)[j]? := by
  unfold plL
  rw [List.getElem?_append_left (by rw [ndL_len x h h']; exact hj)]
theorem wpl_buildZP {ops : Array Oper} {rest : List Oper} {o : Oper} {a : Act} {w : World} {Q : Exit → Act → World → Prop} (hg : o.guard = none) (ho : o.op = .build 104 #[])
    (h : wpList Tryd.prog ops Q rest (a.put o.dst (.agg (plL zNd 0).toArray)) w) : wpList Tryd.prog ops Q (o :: rest) a w := by
  refine wpl_to hg _ _ ?_ h
  unfold execOp
  simp only [ho, List.map_toArray, List.map_nil]
  exact (show ∀ w : World, Sem.run Tryd.prog (do let x ← Instr.build 104 #[]; pure (Next.value x)) w = .ok (.value (.agg (plL zNd 0).toArray)) w from fun w => by kernel_rfl) w
theorem wpl_buildZQ {ops : Array Oper} {rest : List Oper} {o : Oper} {a : Act} {w : World} {Q : Exit → Act → World → Prop} {Z : List Value} (hZ : plL zNd 0 = Z) (hg : o.guard = none) (ho : o.op = .build 104 #[])
    (h : wpList Tryd.prog ops Q rest (a.put o.dst (.agg Z.toArray)) w) : wpList Tryd.prog ops Q (o :: rest) a w := by
  subst hZ
  exact wpl_buildZP hg ho h
theorem wpl_storeP {ops : Array Oper} {rest : List Oper} {o : Oper} {a : Act} {w : World} {Q : Exit → Act → World → Prop} (hg : o.guard = none) (x y : Operand) (ho : o.op = .store 104 x y) (b f : Nat) (hx : a.eval x = .pointer (some ⟨b, f, none⟩)) (L : List Value) (hL : L.length = 26) (hy : a.eval y = .agg L.toArray) (h1 : ∀ u ∈ L, u.oneCell' = true) (ht : w.there b f 26)
    (h : wpList Tryd.prog ops Q rest (a.put o.dst undef) (w.setCells b f L)) : wpList Tryd.prog ops Q (o :: rest) a w := by
  refine wpList_store_mid hg _ x y ho b f L.toArray hx hy (by simpa [hL] using ht) (by rw [pl_size]; simp [hL]) (all_oneCell_toArray h1) ?_
  simpa using h
theorem ARq.there (h : ARq w p B most n rf q nd M wd v xs) {g : Nat} (hg : v.ownBlock = some g) {i : Nat} (hi : i < n) : w.there g (i * 26) 26 := by
  obtain ⟨a, c, hv, hr⟩ := h.rows
  obtain ⟨g', _, hg', hc, hf⟩ := hr (by omega)
  rw [hg] at hg'
  cases hg'
  intro j hj
  refine ⟨?_, hf _⟩
  rw [hc _ (by omega), List.getElem?_eq_getElem (by have := h.own.1; omega)]
  rfl
/-- The marks and the count, once a place has got, or lost, its node. -/
theorem xor_bit (u b c : Nat) : (u ^^^ 2 ^ c).testBit b = (u.testBit b ^^ decide (c = b)) := by
  rw [Nat.testBit_xor, Nat.testBit_two_pow]
theorem ARq.marks (h : ARq w p B most n rf q nd M wd v xs) {w1 w2 : World} {i : Nat} (hi : i < n) {rf' : Int → Nat} (hr : ∀ j : Int, j ≠ (i + 1 : Nat) → (rf' j = 0 ↔ rf j = 0)) (hx : rf' (i + 1 : Nat) = 0 ↔ rf (i + 1 : Nat) ≠ 0)
    (h1 : OneSet w w1 p (3 + i / 64) (.int .u64 (wd (i / 64) ^^^ 2 ^ (i % 64) : Nat))) (h2 : OneSet w1 w2 p 1 (.int .i64 (usd rf' n))) (hq : ∀ j, rf' j ≠ 0 → rf j ≠ 0 ∨ j = (i + 1 : Nat)) (hok : RfOk n rf') (hrb : ∀ j, rf' j ≤ M)
    (hnd : rf' (i + 1 : Nat) ≠ 0 → ∀ j, j < 25 → xs[26 * i + j]? = (ndL (nd (i + 1 : Nat)))[j]?) :
    ARq w2 p B most n rf' q nd M (fun j => if j = i / 64 then wd (i / 64) ^^^ 2 ^ (i % 64) else wd j) v xs ∧ Chg (fun j => j = p) w w2 := by
  have hn := h.n_le
  have c := h1.chg.trans h2.chg
  have oth : ∀ j, j ≠ 1 → j ≠ 3 + i / 64 → w2.cell? ⟨p, j, none⟩ = w.cell? ⟨p, j, none⟩ := fun j a b => (h2.other j a).trans (h1.other j b)
  refine ⟨⟨(oth 0 (by omega) (by omega)).trans h.c0, h2.cell, (oth 2 (by omega) (by omega)).trans h.c2, fun j hj => ?_, fun j => (h2.fz j).trans ((h1.fz j).trans (h.fz j)), ?_, h.refs, fun k hk hne j hj => ?_, fun j hj => ?_, fun j hj b hb => ?_, hok, h.kok, h.pB, by rw [h2.size, h1.size]; exact h.B1, h.m1, h.m2, h.nm, hrb, h.Mb⟩, c⟩
  · by_cases e : j = i / 64
    · subst e
      rw [if_pos rfl, h2.other _ (by omega)]
      exact h1.cell
    · rw [if_neg e, oth _ (by omega) (by omega)]
      exact h.c3 j hj
  · have hlt := World.ownsRow.lt h.own
    have hpB := h.pB
    obtain ⟨h0, h1' | ⟨k, cap, cur, hv', hb', hh, r⟩⟩ := h.own
    · exact ⟨h0, .inl h1'⟩
    · subst hv'
      refine ⟨h0, .inr ⟨k, cap, cur, rfl, hb', ?_, r⟩⟩
      rw [c.block k (hlt k rfl).2 (by omega)]
      exact hh
  · by_cases e : k = i
    · subst e; exact hnd hne j hj
    · refine h.nodes k hk ?_ j hj
      rcases hq _ hne with hh | hh
      · exact hh
      · omega
  · split
    · have ha := h.word (i / 64) (by omega)
      have hb : 2 ^ (i % 64) < 2 ^ 64 := Nat.pow_lt_pow_right (by omega) (Nat.mod_lt _ (by omega))
      have := Nat.xor_lt_two_pow (n := 64) (x := wd (i / 64)) (y := 2 ^ (i % 64)) (by omega) hb
      omega
    · exact h.word j hj
  · by_cases e : j = i / 64
    · subst e
      rw [if_pos rfl, xor_bit, h.bit _ hj b hb]
      by_cases e2 : i % 64 = b
      · subst e2
        rw [show 64 * (i / 64) + i % 64 + 1 = i + 1 by omega]
        by_cases c1 : rf (i + 1 : Nat) = 0
        · have : rf' (i + 1 : Nat) ≠ 0 := fun e => (hx.1 e) c1
          rw [decide_eq_false (fun h => h c1), decide_eq_true this, decide_eq_true rfl]; rfl
        · have : rf' (i + 1 : Nat) = 0 := hx.2 c1
          have e1 : decide (rf (i + 1 : Nat) ≠ 0) = true := decide_eq_true c1
          have e2 : decide (rf' (i + 1 : Nat) ≠ 0) = false := decide_eq_false (fun h => h this)
          rw [e1, e2, decide_eq_true rfl]; rfl
      · have h3 := hr ((64 * (i / 64) + b + 1 : Nat) : Int) (by omega)
        simp only [e2, decide_false, Bool.xor_false]
        congr 1
        exact propext (not_congr h3.symm)
    · rw [if_neg e, h.bit j hj b hb]
      have h3 := hr ((64 * j + b + 1 : Nat) : Int) (by omega)
      congr 1
      exact propext (not_congr h3.symm)
end
end Go.Proofs.YtimnbbpiapjfhaaDoor
