/- How often a node is asked for: once for each time it was told, and once for each place below another. · When each number that was told is dropped as often, there are no nodes. -/
import Derived.Test.YtjkbhaplngnniaaDoorAr11
namespace Go.Proofs.YtjkbhaplngnniaaDoor
open Go.RowKit
set_option linter.unusedSimpArgs false
set_option linter.unusedVariables false

/-- How often x stands below a node. -/
def cntK (kd : Int → List Int) (rf : Int → Nat) (x : Int) : Nat → Nat
  | 0 => 0
  | n + 1 => cntK kd rf x n + if rf (n + 1 : Nat) = 0 then 0 else (kd (n + 1 : Nat)).count x
theorem cntK_congr {kd kd' : Int → List Int} {rf rf' : Int → Nat} {x : Int} : ∀ n, (∀ i : Nat, 1 ≤ i → i ≤ n → (rf i = 0 ↔ rf' i = 0) ∧ (rf i ≠ 0 → kd i = kd' i)) → cntK kd rf x n = cntK kd' rf' x n := by
  intro n
  induction n with
  | zero => intro _; rfl
  | succ n ih =>
    intro h
    unfold cntK
    rw [ih fun i h1 h2 => h i h1 (by omega)]
    have := h (n + 1) (by omega) (Nat.le_refl _)
    by_cases c : rf (n + 1 : Nat) = 0
    · rw [if_pos c, if_pos (this.1.1 c)]
    · rw [if_neg c, if_neg (fun e => c (this.1.2 e)), this.2 c]
theorem cntK_ext {kd : Int → List Int} {rf : Int → Nat} {x : Int} {n : Nat} (h : RfOk n rf) : ∀ m, n ≤ m → cntK kd rf x m = cntK kd rf x n := by
  intro m
  induction m with
  | zero => intro hm; rw [show n = 0 by omega]
  | succ m ih =>
    intro hm
    by_cases e : n = m + 1
    · rw [e]
    · have := ih (by omega)
      have e2 : cntK kd rf x (m + 1) = cntK kd rf x m + if rf (m + 1 : Nat) = 0 then 0 else (kd (m + 1 : Nat)).count x := rfl
      rw [e2, if_pos (h _ (by omega)), this, Nat.add_zero]
/-- One that comes to be, or is gone. -/
theorem cntK_one {kd kd' : Int → List Int} {rf rf' : Int → Nat} {x : Int} (y : Nat) : ∀ n, 1 ≤ y → y ≤ n → rf y = 0 → rf' y ≠ 0 → (∀ i : Nat, i ≠ y → (rf i = 0 ↔ rf' i = 0) ∧ (rf i ≠ 0 → kd i = kd' i)) → cntK kd' rf' x n = cntK kd rf x n + (kd' y).count x := by
  intro n
  induction n with
  | zero => intro h1 h2; omega
  | succ n ih =>
    intro h1 h2 h3 h4 h5
    by_cases e : y = n + 1
    · subst e
      unfold cntK
      rw [if_pos h3, if_neg h4, cntK_congr (kd := kd) (kd' := kd') (rf := rf) (rf' := rf') n (fun i g1 g2 => h5 i (by omega))]
      omega
    · unfold cntK
      rw [ih h1 (by omega) h3 h4 h5]
      have := h5 (n + 1) (fun e' => e e'.symm)
      by_cases c : rf (n + 1 : Nat) = 0
      · rw [if_pos c, if_pos (this.1.1 c)]; omega
      · rw [if_neg c, if_neg (fun e => c (this.1.2 e)), this.2 c]; omega
theorem drops_cnt {kd : Int → List Int} {n : Nat} {x : Int} {a : Nat} : ∀ (k : Nat) {rf r : Int → Nat} {l : List Int}, DropsN kd k rf l r → RfOk n rf → rf x = a + cntK kd rf x n + l.count x → r x = a + cntK kd r x n := by
  intro k
  induction k with
  | zero =>
    intro rf r l h _ g
    rw [h.2, g, h.1]
    simp
  | succ k ih =>
    intro rf r l h ho g
    obtain ⟨y, t, rfl, h1⟩ := h
    refine ih h1 (stR_ok ho y) ?_
    by_cases h0 : rf y = 0
    · have hk0 : stK kd rf y = [] := by unfold stK; rw [if_neg (by omega)]
      rw [stR_none h0, hk0, List.nil_append, g]
      by_cases e : y = x
      · subst e; rw [List.count_cons_self] at g; omega
      · rw [List.count_cons_of_ne e]
    · have hy : 1 ≤ y ∧ y ≤ n := by
        by_cases c : 1 ≤ y ∧ y ≤ n
        · exact c
        · exact absurd (ho y c) h0
      obtain ⟨z, rfl⟩ : ∃ z : Nat, y = z := ⟨y.toNat, by omega⟩
      by_cases h2 : rf z = 1
      · have hk1 : stK kd rf z = kd z := by unfold stK; rw [if_pos h2]
        have hc : cntK kd rf x n = cntK kd (stR rf z) x n + (kd z).count x := cntK_one (kd := kd) (kd' := kd) (rf := stR rf z) (rf' := rf) z n (by omega) (by omega) (by rw [stR_same]; omega) h0 (fun i hi => by
          rw [stR_other rf (by omega)]; exact ⟨Iff.rfl, fun _ => rfl⟩)
        rw [hk1, List.count_append]
        by_cases e : (z : Int) = x
        · subst e; rw [List.count_cons_self] at g; rw [stR_same]; omega
        · rw [List.count_cons_of_ne e] at g; rw [stR_other rf (fun e' => e e'.symm)]; omega
      · have hk1 : stK kd rf z = [] := by unfold stK; rw [if_neg h2]
        have hc : cntK kd rf x n = cntK kd (stR rf z) x n := cntK_congr n (fun i _ _ => by
          by_cases e : i = z
          · subst e; rw [stR_same]; exact ⟨by omega, fun _ => rfl⟩
          · rw [stR_other rf (by omega)]; exact ⟨Iff.rfl, fun _ => rfl⟩)
        rw [hk1, List.nil_append, ← hc]
        by_cases e : (z : Int) = x
        · subst e; rw [List.count_cons_self] at g; rw [stR_same]; omega
        · rw [List.count_cons_of_ne e] at g; rw [stR_other rf (fun e' => e e'.symm)]; omega
/-- A node more. -/
theorem make_cnt {nd : Int → ANd} {n : Nat} {rf : Int → Nat} {z : ANd} {y : Nat} (ho : RfOk n rf) (hy : LowN rf y) (x : Int) :
    cntK (kdA (updN nd y z)) (setR (incR rf z.kids) y 1) x (max n y) = cntK (kdA nd) rf x n + z.kids.count x := by
  have h1 := cntK_one (kd := kdA nd) (kd' := kdA (updN nd y z)) (rf := rf) (rf' := setR (incR rf z.kids) y 1) (x := x) y (max n y) hy.one (Nat.le_max_right ..) hy.free (by rw [setR_same]; omega) (fun i hi => by
    rw [setR_other _ _ (by omega), incR_zero]
    refine ⟨Iff.rfl, fun _ => ?_⟩
    unfold kdA updN
    rw [if_neg (by omega)])
  rw [h1, cntK_ext ho _ (Nat.le_max_left ..)]
  congr 2
  unfold kdA updN
  rw [if_pos rfl]
theorem make_rf {rf : Int → Nat} {l : List Int} {y : Nat} {x : Int} (hx : rf x ≠ 0) (hy : LowN rf y) : setR (incR rf l) y 1 x = rf x + l.count x ∧ x ≠ y := by
  have e : x ≠ y := fun e => hx (by rw [e]; exact hy.free)
  refine ⟨?_, e⟩
  rw [setR_other _ _ e]
  unfold incR
  rw [if_neg hx]

/-- The first node stays: an arena of 60 in block p after k acts, what it was in block bw. -/
def StI (w0 wr : World) (p bw : Nat) (LW : List Value) (k : Nat) : Prop :=
  ∃ ow n rf nd M, AS w0 wr p ow 60 n rf nd M ∧ M ≤ 9 * (k + 1) ∧ rf 1 = 1 + cntK (kdA nd) rf 1 n ∧ ndL (nd 1) = LW ∧ wr.rangeAt bw 0 LW ∧ bw < wr.heap.size ∧ w0.heap.size ≤ bw ∧ bw ≠ p ∧ ow ≠ some bw
section
variable {w0 wr : World} {p bw : Nat} {LW : List Value} {k : Nat}
theorem StI.keep (h : StI w0 wr p bw LW k) {y : World} (hk : Kept wr y) : StI w0 y p bw LW k := by
  obtain ⟨ow, n, rf, nd, M, h1, h2, h3, h4, h5, h6, h7⟩ := h
  exact ⟨ow, n, rf, nd, M, h1.keep hk, h2, h3, h4, hk.range h5, Nat.lt_of_lt_of_le h6 hk.size, h7⟩
theorem StI.kept (h : StI w0 wr p bw LW k) : Kept w0 wr := by
  obtain ⟨ow, n, rf, nd, M, h1, _⟩ := h
  exact h1.1
theorem StI.raise (h : StI w0 wr p bw LW k) {k' : Nat} (hk : k ≤ k') : StI w0 wr p bw LW k' := by
  obtain ⟨ow, n, rf, nd, M, h1, h2, h3⟩ := h
  exact ⟨ow, n, rf, nd, M, h1, by omega, h3⟩
theorem Chg.range {S : Nat → Prop} {x y : World} (h : Chg S x y) {b o : Nat} {L : List Value} (hr : x.rangeAt b o L) (hb : ¬ S b) : y.rangeAt b o L := fun j v hv => h.cellp (hr j v hv) hb
theorem sti_At (h : StI w0 wr p bw LW k) : Calls Tryd.prog 54 #[.pointer (some ⟨p, 0, none⟩), .int .i64 1] wr fun e w' => e = .returned (.tuple #[.agg LW.toArray, .int .i64 0]) ∧ Kept wr w' := by
  obtain ⟨ow, n, rf, nd, M, h1, h2, h3, h4, h5, h6, h7⟩ := h
  refine (as_At h1 1).mono ?_
  rintro e w' ⟨rfl, hk⟩
  unfold atV atE
  rw [if_neg (by omega), if_neg (by omega)]
  unfold ndV
  rw [h4]
  exact ⟨rfl, hk⟩
theorem sti_Drop (h : StI w0 wr p bw LW k) (i : Int) (hi : i ≠ 1) : Calls Tryd.prog 39 #[.pointer (some ⟨p, 0, none⟩), .int .i64 i] wr fun e w' => (∃ v, e = .returned (.int .i64 v)) ∧ StI w0 w' p bw LW (k + 1) := by
  obtain ⟨ow, n, rf, nd, M, h1, h2, h3, h4, h5, h6, h7, h8, h9⟩ := h
  obtain ⟨K, r, hd⟩ := drops_ex (kdA nd) (fun i => (h1.ok.2.1 i).1) n _ rf [i] h1.ok.1 (Nat.le_refl _)
  refine (as_Drop h1 i K r hd).mono ?_
  rintro e w' ⟨rfl, ⟨ow', h10, h11⟩, h12⟩
  have hr := drops_cnt (x := 1) (a := 1) K hd h1.ok.1 (by rw [h3, List.count_cons_of_ne hi]; simp)
  refine ⟨⟨_, rfl⟩, ow', n, r, nd, M, h10, by omega, hr, h4, h12.range h5 (fun e => e.elim h8 h9), Nat.lt_of_lt_of_le h6 h12.size, h7, h8, fun e => ?_⟩
  rcases h11 bw e with e' | e'
  · exact h9 e'
  · omega
theorem sti_Make (h : StI w0 wr p bw LW k) (hV : Vars w0) (hk : k ≤ 1000) (x : ANd) (hx : x.kids.length = 8 ∧ x.vals.length = 8) : Calls Tryd.prog 53 #[.pointer (some ⟨p, 0, none⟩), ndV x] wr fun e w' => (∃ a b, e = .returned (.tuple #[.int .i64 a, .int .i64 b])) ∧ StI w0 w' p bw LW (k + 1) := by
  have hh := h
  obtain ⟨ow, n, rf, nd, M, h1, h2, h3, h4, h5, h6, h7, h8, h9⟩ := h
  refine (as_Make h1 hV (by omega) x hx).mono ?_
  rintro e w' (⟨_, rfl, hk⟩ | ⟨_, _, rfl, hk⟩ | ⟨_, _, y, hy, rfl, ⟨ow', h10, h11⟩, h12⟩)
  · exact ⟨⟨_, _, rfl⟩, (hh.keep hk).raise (by omega)⟩
  · exact ⟨⟨_, _, rfl⟩, (hh.keep hk).raise (by omega)⟩
  · obtain ⟨hr, hne⟩ := make_rf (l := (bareN x).kids) (x := 1) (by omega) hy
    refine ⟨⟨_, _, rfl⟩, ow', _, _, _, _, h10, by omega, ?_, ?_, h12.range h5 (fun e => e.elim h8 h9), Nat.lt_of_lt_of_le h6 h12.size, h7, h8, fun e => ?_⟩
    · rw [hr, make_cnt h1.ok.1 hy 1, h3]; omega
    · unfold updN
      rw [if_neg hne]
      exact h4
    · rcases h11 bw e with e' | e'
      · exact h9 e'
      · omega
end
end Go.Proofs.YtjkbhaplngnniaaDoor
namespace Go.Proofs.YtjkbhaplngnniaaDoor
open Go.RowKit
set_option linter.unusedSimpArgs false
set_option linter.unusedVariables false

theorem cntK_zero {kd : Int → List Int} {rf : Int → Nat} {x : Int} : ∀ n, (∀ j : Nat, 1 ≤ j → j ≤ n → rf j ≠ 0 → (kd j).count x = 0) → cntK kd rf x n = 0 := by
  intro n
  induction n with
  | zero => intro _; rfl
  | succ n ih =>
    intro h
    unfold cntK
    rw [ih fun j h1 h2 => h j h1 (by omega)]
    split
    · rfl
    · rename_i c; rw [h (n + 1) (by omega) (Nat.le_refl _) c]
/-- Nodes stand above those below them. -/
def Acy (rf : Int → Nat) (nd : Int → ANd) : Prop := ∀ j : Int, rf j ≠ 0 → ∀ c ∈ (nd j).kids, c ≠ 0 → c < j
theorem acy_end {rf : Int → Nat} {nd : Int → ANd} {n : Nat} (ho : RfOk n rf) (ha : Acy rf nd) (h : ∀ x, x ≠ 0 → rf x = cntK (kdA nd) rf x n) : ∀ (m i : Nat), 1 ≤ i → n < i + m → rf i = 0 := by
  intro m
  induction m with
  | zero => intro i h1 h2; exact ho _ (by omega)
  | succ m ih =>
    intro i h1 h2
    rw [h i (by omega)]
    refine cntK_zero n (fun j g1 g2 g3 => ?_)
    by_cases c : i < j
    · exact absurd (ih j g1 (by omega)) g3
    · rw [List.count_eq_zero]
      intro hm
      have := ha j g3 i hm (by omega)
      omega
theorem acy_used {rf : Int → Nat} {nd : Int → ANd} {n : Nat} (ho : RfOk n rf) (ha : Acy rf nd) (h : ∀ x, x ≠ 0 → rf x = cntK (kdA nd) rf x n) : usd rf n = 0 := by
  have hz : usd (fun _ => 0) n = 0 := by
    induction n with
    | zero => rfl
    | succ n _ =>
      have : ∀ m, usd (fun _ => 0) m = 0 := by
        intro m
        induction m with
        | zero => rfl
        | succ m im => unfold usd; rw [im]; rfl
      exact this _
  rw [← hz]
  exact usd_congr n (fun i h1 h2 => ⟨fun _ => rfl, fun _ => acy_end ho ha h n i h1 (by omega)⟩)
/-- An arena of 100 in block p after k acts; numbers that were told, in a row tv; tl: those that are still to be dropped; ph: none was dropped yet. -/
def EdI (ph : Prop) (w0 wr : World) (p : Nat) (tv : Value) (told tl : List Int) (k : Nat) : Prop :=
  ∃ ow n rf nd M, AS w0 wr p ow 100 n rf nd M ∧ M ≤ 9 * (k + 1) ∧ n ≤ k ∧ told.length ≤ k ∧ (ph → ∀ i : Nat, 1 ≤ i → i ≤ n → rf i ≠ 0) ∧ (∀ x, x ≠ 0 → rf x = tl.count x + cntK (kdA nd) rf x n) ∧ (∀ t ∈ tl, t ≠ 0) ∧ Acy rf nd ∧
    OwnI wr w0.heap.size tv told ∧ ∀ g, tv.ownBlock = some g → g ≠ p ∧ ow ≠ some g
section
variable {ph : Prop} {w0 wr : World} {p : Nat} {tv : Value} {told tl : List Int} {k : Nat}
theorem OwnI.kept {w w' : World} {B : Nat} {v : Value} {l : List Int} (h : OwnI w B v l) (g : Kept w w') : OwnI w' B v l := h.chg (S := fun _ => False) (Chg.of_kept g) (fun _ _ e => e)
theorem EdI.keep (h : EdI ph w0 wr p tv told tl k) {y : World} (hk : Kept wr y) : EdI ph w0 y p tv told tl k := by
  obtain ⟨ow, n, rf, nd, M, h1, h2, h3, h4, h5, h6, h7, h8, h9, h10⟩ := h
  exact ⟨ow, n, rf, nd, M, h1.keep hk, h2, h3, h4, h5, h6, h7, h8, h9.kept hk, h10⟩
theorem EdI.kept (h : EdI ph w0 wr p tv told tl k) : Kept w0 wr := by
  obtain ⟨ow, n, rf, nd, M, h1, _⟩ := h
  exact h1.1
theorem EdI.raise (h : EdI ph w0 wr p tv told tl k) {k' : Nat} (hk : k ≤ k') : EdI ph w0 wr p tv told tl k' := by
  obtain ⟨ow, n, rf, nd, M, h1, h2, h3, h4, h5⟩ := h
  exact ⟨ow, n, rf, nd, M, h1, by omega, by omega, by omega, h5⟩
theorem EdI.own (h : EdI ph w0 wr p tv told tl k) : OwnI wr w0.heap.size tv told ∧ told.length ≤ k := by
  obtain ⟨ow, n, rf, nd, M, h1, h2, h3, h4, h5, h6, h7, h8, h9, h10⟩ := h
  exact ⟨h9, h4⟩
theorem EdI.later (h : EdI ph w0 wr p tv told tl k) : EdI False w0 wr p tv told tl k := by
  obtain ⟨ow, n, rf, nd, M, h1, h2, h3, h4, h5, h6⟩ := h
  exact ⟨ow, n, rf, nd, M, h1, h2, h3, h4, fun e => e.elim, h6⟩
theorem edi_new {W W1 : World} (h : NewA W W1 100) (hk : Kept w0 W) : EdI True w0 W1 W.heap.size (.slice none 0 0) [] [] 0 := by
  refine ⟨none, 0, fun _ => 0, fun _ => zNd, 0, as_new h hk (by omega) (by omega), by omega, Nat.le_refl _, Nat.le_refl _, fun _ i h1 h2 => by omega, fun x _ => rfl, fun t ht => ?_, fun j hj => absurd rfl hj, ownI_nil _ _, fun g hg => ?_⟩
  · cases ht
  · cases hg
/-- A number that was told goes into the row. -/
theorem EdI.pushed (h : EdI ph w0 wr p tv told tl k) {y : Int} {w' : World} {tv' : Value} {g' : Nat} (ho : OwnI w' w0.heap.size tv' (told ++ [y])) (hc : Chg (fun k => tv.ownBlock = some k) wr w') (hg : tv'.ownBlock = some g') (hg' : tv.ownBlock = some g' ∨ g' = wr.heap.size) (hl : told.length + 1 ≤ k) : EdI ph w0 w' p tv' (told ++ [y]) tl k := by
  obtain ⟨ow, n, rf, nd, M, h1, h2, h3, h4, h5, h6, h7, h8, h9, h10⟩ := h
  refine ⟨ow, n, rf, nd, M, h1.chg hc (fun j hj => (h9.lt j hj).1) (fun e => (h10 p e).1 rfl) (fun g e e' => (h10 g e').2 e), by omega, by omega, by simp; omega, h5, h6, h7, h8, ho, fun g e => ?_⟩
  rw [hg] at e
  cases e
  rcases hg' with e | e
  · exact h10 _ e
  · subst e
    exact ⟨fun e => by have := h1.ok.2.2.2.2.2.2.1; omega, fun e => by have := (h1.ok.2.2.2.2.2.2.2 _ e).1; omega⟩
theorem ed_Keep (h : EdI ph w0 wr p tv told tl k) (hk : k ≤ 1000) (t : Int) (ht : t ∈ tl) : Calls Tryd.prog 43 #[.pointer (some ⟨p, 0, none⟩), .int .i64 t] wr fun e w' => e = .returned (.int .i64 0) ∧ EdI ph w0 w' p tv told (tl ++ [t]) (k + 1) := by
  obtain ⟨ow, n, rf, nd, M, h1, h2, h3, h4, h5, h6, h7, h8, h9, h10⟩ := h
  have ht0 := h7 t ht
  have hr : rf t ≠ 0 := by
    have h6' := h6 t ht0
    have : 0 < tl.count t := List.count_pos_iff.2 ht
    omega
  refine (as_Keep h1 (by omega) t).mono ?_
  rintro e w' ⟨rfl, ⟨ow', h11, h12⟩, h13⟩
  unfold atE KeepR at *
  rw [if_neg hr] at *
  have hal : ∀ i, setR rf t (rf t + 1) i = 0 ↔ rf i = 0 := fun i => by
    unfold setR; split
    · rename_i e; subst e; omega
    · exact Iff.rfl
  refine ⟨rfl, ow', n, _, nd, _, h11, by omega, by omega, by omega, fun e i g1 g2 => fun e' => h5 e i g1 g2 ((hal _).1 e'), fun x hx => ?_, fun y hy => ?_, fun j hj => h8 j (fun e => hj ((hal j).2 e)), h9.chg h13 (fun g e => ?_), fun g e => ⟨(h10 g e).1, fun e' => ?_⟩⟩
  · have hc : cntK (kdA nd) (setR rf t (rf t + 1)) x n = cntK (kdA nd) rf x n := cntK_congr n (fun i _ _ => ⟨hal _, fun _ => rfl⟩)
    rw [hc, List.count_append]
    by_cases e : x = t
    · subst e; rw [setR_same, h6 x hx]; simp; omega
    · rw [setR_other _ _ e, h6 x hx, List.count_cons_of_ne (fun e' => e e'.symm)]; simp
  · rcases List.mem_append.1 hy with hy | hy
    · exact h7 y hy
    · simp at hy; subst hy; exact ht0
  · exact fun e' => e'.elim (h10 g e).1 (h10 g e).2
  · rcases h12 g e' with e'' | e''
    · exact (h10 g e).2 e''
    · have := (h9.lt g e).2; omega
theorem ed_Make (h : EdI True w0 wr p tv told told k) (hV : Vars w0) (hk : k ≤ 90) (x : ANd) (hx : x.kids.length = 8 ∧ x.vals.length = 8) (hkid : ∀ c ∈ x.kids, c = 0 ∨ c ∈ told) : Calls Tryd.prog 53 #[.pointer (some ⟨p, 0, none⟩), ndV x] wr fun e w' => ∃ y : Int, e = .returned (.tuple #[.int .i64 y, .int .i64 0]) ∧ EdI True w0 w' p tv told (told ++ [y]) (k + 1) := by
  obtain ⟨ow, n, rf, nd, M, h1, h2, h3, h4, h5, h6, h7, h8, h9, h10⟩ := h
  have hbk : ∀ c ∈ (bareN x).kids, c = 0 ∨ c ∈ told := by
    intro c hc
    unfold bareN at hc
    split at hc
    · left; simp [zNd] at hc; exact hc
    · exact hkid c hc
  have hal : ∀ c ∈ (bareN x).kids, c = 0 ∨ rf c ≠ 0 := fun c hc => by
    rcases hbk c hc with e | e
    · exact .inl e
    · refine .inr ?_
      have h6' := h6 c (h7 c e)
      have : 0 < told.count c := List.count_pos_iff.2 e
      omega
  have hb : haveB rf (bareN x).kids = true := by
    unfold haveB
    rw [List.all_eq_true]
    intro c hc
    simpa using hal c hc
  refine (as_Make h1 hV (by omega) x hx).mono ?_
  rintro e w' (⟨g, _⟩ | ⟨_, g, _⟩ | ⟨_, _, y, hy, rfl, ⟨ow', h11, h12⟩, h13⟩)
  · rw [hb] at g; cases g
  · have := usd_le rf n; omega
  · have hyn : y = n + 1 := hy.one' ⟨by omega, h1.ok.1 _ (by omega), fun j g1 g2 => h5 trivial j g1 (by omega)⟩
    have hz : ∀ c : Int, c ≠ 0 → rf c = 0 → (bareN x).kids.count c = 0 := fun c h0 hr => by
      rw [List.count_eq_zero]
      intro hm
      rcases hal c hm with e | e
      · exact h0 e
      · exact e hr
    have hy0 : ((y : Nat) : Int) ≠ 0 := by have := hy.one; omega
    refine ⟨y, rfl, ow', _, _, _, _, h11, by omega, ?_, by omega, fun _ i g1 g2 => ?_, fun c hc => ?_, fun t ht => ?_, fun j hj c hc h0 => ?_, h9.chg h13 (fun g e => ?_), fun g e => ⟨(h10 g e).1, fun e' => ?_⟩⟩
    · rw [hyn]; omega
    · by_cases e : i = y
      · subst e; rw [setR_same]; omega
      · rw [setR_other _ _ (by omega)]
        exact fun e' => h5 trivial i g1 (by omega) ((incR_zero _ _ _).1 e')
    · rw [make_cnt h1.ok.1 hy c, List.count_append]
      have h6' := h6 c hc
      by_cases e : c = y
      · subst e
        have h0 := hy.free
        rw [setR_same, hz _ hc h0]
        simp; omega
      · rw [setR_other _ _ e, List.count_cons_of_ne (fun e' => e e'.symm)]
        unfold incR
        by_cases hr : rf c = 0
        · rw [if_pos hr, hz c hc hr]; simp; omega
        · rw [if_neg hr]; simp; omega
    · rcases List.mem_append.1 ht with ht | ht
      · exact h7 t ht
      · simp at ht; subst ht; exact hy0
    · unfold updN at hc
      by_cases e : j = y
      · subst e
        rw [if_pos rfl] at hc
        rcases hal c hc with e' | e'
        · exact absurd e' h0
        · have : 1 ≤ c ∧ c ≤ n := by
            by_cases q : 1 ≤ c ∧ c ≤ n
            · exact q
            · exact absurd (h1.ok.1 c q) e'
          omega
      · rw [if_neg e] at hc
        rw [setR_other _ _ e] at hj
        exact h8 j (fun e' => hj ((incR_zero _ _ _).2 e')) c hc h0
    · exact fun e' => e'.elim (h10 g e).1 (h10 g e).2
    · rcases h12 g e' with e'' | e''
      · exact (h10 g e).2 e''
      · have := (h9.lt g e).2; omega
theorem ed_Drop {t : Int} (h : EdI False w0 wr p tv told (t :: tl) k) : Calls Tryd.prog 39 #[.pointer (some ⟨p, 0, none⟩), .int .i64 t] wr fun e w' => e = .returned (.int .i64 0) ∧ EdI False w0 w' p tv told tl k := by
  obtain ⟨ow, n, rf, nd, M, h1, h2, h3, h4, h5, h6, h7, h8, h9, h10⟩ := h
  have ht0 := h7 t (List.mem_cons_self ..)
  have hr : rf t ≠ 0 := by
    have h6' := h6 t ht0
    rw [List.count_cons_self] at h6'
    omega
  obtain ⟨K, r, hd⟩ := drops_ex (kdA nd) (fun i => (h1.ok.2.1 i).1) n _ rf [t] h1.ok.1 (Nat.le_refl _)
  refine (as_Drop h1 t K r hd).mono ?_
  rintro e w' ⟨rfl, ⟨ow', h11, h12⟩, h13⟩
  unfold atE
  rw [if_neg hr]
  refine ⟨rfl, ow', n, r, nd, M, h11, h2, h3, h4, fun e => e.elim, fun x hx => ?_, fun y hy => h7 y (List.mem_cons_of_mem _ hy), fun j hj => h8 j (fun e => hj (by have := drops_le K hd j; omega)), h9.chg h13 (fun g e => ?_), fun g e => ⟨(h10 g e).1, fun e' => ?_⟩⟩
  · refine drops_cnt (a := tl.count x) K hd h1.ok.1 ?_
    rw [h6 x hx]
    simp only [List.count_cons, List.count_nil]
    omega
  · exact fun e' => e'.elim (h10 g e).1 (h10 g e).2
  · rcases h12 g e' with e'' | e''
    · exact (h10 g e).2 e''
    · have := (h9.lt g e).2; omega
theorem ed_Used (h : EdI ph w0 wr p tv told [] k) : Calls Tryd.prog 18 #[.pointer (some ⟨p, 0, none⟩)] wr fun e w' => e = .returned (.int .i64 0) ∧ w' = wr := by
  obtain ⟨ow, n, rf, nd, M, h1, h2, h3, h4, h5, h6, h7, h8, h9, h10⟩ := h
  refine (as_Used h1).mono ?_
  rintro e w' ⟨rfl, rfl⟩
  rw [acy_used h1.ok.1 h8 (fun x hx => by rw [h6 x hx]; simp)]
  exact ⟨rfl, rfl⟩
end
end Go.Proofs.YtjkbhaplngnniaaDoor
