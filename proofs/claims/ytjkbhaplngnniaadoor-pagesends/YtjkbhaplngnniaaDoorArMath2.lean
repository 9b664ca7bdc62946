/- How often a node is asked for: once for each time it was told, and once for each place below another. -/
import Derived.Test.YtjkbhaplngnniaaDoorAr11
namespace Go.Proofs.YtjkbhaplngnniaaDoor
open Go.RowKit
set_option linter.unusedSimpArgs false
set_option linter.unusedVariables false

/-- How often x stands below a node. -/
def cntK (kd : Int → List Int) (rf : Int → Nat) (x : Int) : Nat → Nat
  | 0 => 0
  | n + 1 => cntK kd rf x n + if rf (n + 1 : Nat) = 0 then 0 else (kd (n + 1 : Nat)).count x
theorem cntK_congr {kd kd' : Int → List Int} {rf rf' : Int → Nat} {x : Int} : ∀ n, (∀ i : Nat, 1 ≤ i → i ≤ n → (rf i = 0 ↔ rf' i = 0) ∧ (rf i ≠ 0 → kd i = kd' i)) → cntK kd rf x n = cntK kd' rf' x n := by
  intro n
  induction n with
  | zero => intro _; rfl
  | succ n ih =>
    intro h
    unfold cntK
    rw [ih fun i h1 h2 => h i h1 (by omega)]
    have := h (n + 1) (by omega) (Nat.le_refl _)
    by_cases c : rf (n + 1 : Nat) = 0
    · rw [if_pos c, if_pos (this.1.1 c)]
    · rw [if_neg c, if_neg (fun e => c (this.1.2 e)), this.2 c]
theorem cntK_ext {kd : Int → List Int} {rf : Int → Nat} {x : Int} {n : Nat} (h : RfOk n rf) : ∀ m, n ≤ m → cntK kd rf x m = cntK kd rf x n := by
  intro m
  induction m with
  | zero => intro hm; rw [show n = 0 by omega]
  | succ m ih =>
    intro hm
    by_cases e : n = m + 1
    · rw [e]
    · have := ih (by omega)
      have e2 : cntK kd rf x (m + 1) = cntK kd rf x m + if rf (m + 1 : Nat) = 0 then 0 else (kd (m + 1 : Nat)).count x := rfl
      rw [e2, if_pos (h _ (by omega)), this, Nat.add_zero]
/-- One that comes to be, or is gone. -/
theorem cntK_one {kd kd' : Int → List Int} {rf rf' : Int → Nat} {x : Int} (y : Nat) : ∀ n, 1 ≤ y → y ≤ n → rf y = 0 → rf' y ≠ 0 → (∀ i : Nat, i ≠ y → (rf i = 0 ↔ rf' i = 0) ∧ (rf i ≠ 0 → kd i = kd' i)) → cntK kd' rf' x n = cntK kd rf x n + (kd' y).count x := by
  intro n
  induction n with
  | zero => intro h1 h2; omega
  | succ n ih =>
    intro h1 h2 h3 h4 h5
    by_cases e : y = n + 1
    · subst e
      unfold cntK
      rw [if_pos h3, if_neg h4, cntK_congr (kd := kd) (kd' := kd') (rf := rf) (rf' := rf') n (fun i g1 g2 => h5 i (by omega))]
      omega
    · unfold cntK
      rw [ih h1 (by omega) h3 h4 h5]
      have := h5 (n + 1) (fun e' => e e'.symm)
      by_cases c : rf (n + 1 : Nat) = 0
      · rw [if_pos c, if_pos (this.1.1 c)]; omega
      · rw [if_neg c, if_neg (fun e => c (this.1.2 e)), this.2 c]; omega
theorem drops_cnt {kd : Int → List Int} {n : Nat} {x : Int} {a : Nat} : ∀ (k : Nat) {rf r : Int → Nat} {l : List Int}, DropsN kd k rf l r → RfOk n rf → rf x = a + cntK kd rf x n + l.count x → r x = a + cntK kd r x n := by
  intro k
  induction k with
  | zero =>
    intro rf r l h _ g
    rw [h.2, g, h.1]
    simp
  | succ k ih =>
    intro rf r l h ho g
    obtain ⟨y, t, rfl, h1⟩ := h
    refine ih h1 (stR_ok ho y) ?_
    by_cases h0 : rf y = 0
    · have hk0 : stK kd rf y = [] := by unfold stK; rw [if_neg (by omega)]
      rw [stR_none h0, hk0, List.nil_append, g]
      by_cases e : y = x
      · subst e; rw [List.count_cons_self] at g; omega
      · rw [List.count_cons_of_ne e]
    · have hy : 1 ≤ y ∧ y ≤ n := by
        by_cases c : 1 ≤ y ∧ y ≤ n
        · exact c
        · exact absurd (ho y c) h0
      obtain ⟨z, rfl⟩ : ∃ z : Nat, y = z := ⟨y.toNat, by omega⟩
      by_cases h2 : rf z = 1
      · have hk1 : stK kd rf z = kd z := by unfold stK; rw [if_pos h2]
        have hc : cntK kd rf x n = cntK kd (stR rf z) x n + (kd z).count x := cntK_one (kd := kd) (kd' := kd) (rf := stR rf z) (rf' := rf) z n (by omega) (by omega) (by rw [stR_same]; omega) h0 (fun i hi => by
          rw [stR_other rf (by omega)]; exact ⟨Iff.rfl, fun _ => rfl⟩)
        rw [hk1, List.count_append]
        by_cases e : (z : Int) = x
        · subst e; rw [List.count_cons_self] at g; rw [stR_same]; omega
        · rw [List.count_cons_of_ne e] at g; rw [stR_other rf (fun e' => e e'.symm)]; omega
      · have hk1 : stK kd rf z = [] := by unfold stK; rw [if_neg h2]
        have hc : cntK kd rf x n = cntK kd (stR rf z) x n := cntK_congr n (fun i _ _ => by
          by_cases e : i = z
          · subst e; rw [stR_same]; exact ⟨by omega, fun _ => rfl⟩
          · rw [stR_other rf (by omega)]; exact ⟨Iff.rfl, fun _ => rfl⟩)
        rw [hk1, List.nil_append, ← hc]
        by_cases e : (z : Int) = x
        · subst e; rw [List.count_cons_self] at g; rw [stR_same]; omega
        · rw [List.count_cons_of_ne e] at g; rw [stR_other rf (fun e' => e e'.symm)]; omega
/-- A node more. -/
theorem make_cnt {nd : Int → ANd} {n : Nat} {rf : Int → Nat} {z : ANd} {y : Nat} (ho : RfOk n rf) (hy : LowN rf y) (x : Int) :
    cntK (kdA (updN nd y z)) (setR (incR rf z.kids) y 1) x (max n y) = cntK (kdA nd) rf x n + z.kids.count x := by
  have h1 := cntK_one (kd := kdA nd) (kd' := kdA (updN nd y z)) (rf := rf) (rf' := setR (incR rf z.kids) y 1) (x := x) y (max n y) hy.one (Nat.le_max_right ..) hy.free (by rw [setR_same]; omega) (fun i hi => by
    rw [setR_other _ _ (by omega), incR_zero]
    refine ⟨Iff.rfl, fun _ => ?_⟩
    unfold kdA updN
    rw [if_neg (by omega)])
  rw [h1, cntK_ext ho _ (Nat.le_max_left ..)]
  congr 2
  unfold kdA updN
  rw [if_pos rfl]
theorem make_rf {rf : Int → Nat} {l : List Int} {y : Nat} {x : Int} (hx : rf x ≠ 0) (hy : LowN rf y) : setR (incR rf l) y 1 x = rf x + l.count x ∧ x ≠ y := by
  have e : x ≠ y := fun e => hx (by rw [e]; exact hy.free)
  refine ⟨?_, e⟩
  rw [setR_other _ _ e]
  unfold incR
  rw [if_neg hx]

/-- The first node stays: an arena of 60 in block p after k acts, what it was in block bw. -/
def StI (w0 wr : World) (p bw : Nat) (LW : List Value) (k : Nat) : Prop :=
  ∃ ow n rf nd M, AS w0 wr p ow 60 n rf nd M ∧ M ≤ 9 * (k + 1) ∧ rf 1 = 1 + cntK (kdA nd) rf 1 n ∧ ndL (nd 1) = LW ∧ wr.rangeAt bw 0 LW ∧ bw < wr.heap.size ∧ w0.heap.size ≤ bw ∧ bw ≠ p ∧ ow ≠ some bw
section
variable {w0 wr : World} {p bw : Nat} {LW : List Value} {k : Nat}
theorem StI.keep (h : StI w0 wr p bw LW k) {y : World} (hk : Kept wr y) : StI w0 y p bw LW k := by
  obtain ⟨ow, n, rf, nd, M, h1, h2, h3, h4, h5, h6, h7⟩ := h
  exact ⟨ow, n, rf, nd, M, h1.keep hk, h2, h3, h4, hk.range h5, Nat.lt_of_lt_of_le h6 hk.size, h7⟩
theorem StI.kept (h : StI w0 wr p bw LW k) : Kept w0 wr := by
  obtain ⟨ow, n, rf, nd, M, h1, _⟩ := h
  exact h1.1
theorem StI.raise (h : StI w0 wr p bw LW k) {k' : Nat} (hk : k ≤ k') : StI w0 wr p bw LW k' := by
  obtain ⟨ow, n, rf, nd, M, h1, h2, h3⟩ := h
  exact ⟨ow, n, rf, nd, M, h1, by omega, h3⟩
theorem Chg.range {S : Nat → Prop} {x y : World} (h : Chg S x y) {b o : Nat} {L : List Value} (hr : x.rangeAt b o L) (hb : ¬ S b) : y.rangeAt b o L := fun j v hv => h.cellp (hr j v hv) hb
theorem sti_At (h : StI w0 wr p bw LW k) : Calls Tryd.prog 54 #[.pointer (some ⟨p, 0, none⟩), .int .i64 1] wr fun e w' => e = .returned (.tuple #[.agg LW.toArray, .int .i64 0]) ∧ Kept wr w' := by
  obtain ⟨ow, n, rf, nd, M, h1, h2, h3, h4, h5, h6, h7⟩ := h
  refine (as_At h1 1).mono ?_
  rintro e w' ⟨rfl, hk⟩
  unfold atV atE
  rw [if_neg (by omega), if_neg (by omega)]
  unfold ndV
  rw [h4]
  exact ⟨rfl, hk⟩
theorem sti_Drop (h : StI w0 wr p bw LW k) (i : Int) (hi : i ≠ 1) : Calls Tryd.prog 39 #[.pointer (some ⟨p, 0, none⟩), .int .i64 i] wr fun e w' => (∃ v, e = .returned (.int .i64 v)) ∧ StI w0 w' p bw LW (k + 1) := by
  obtain ⟨ow, n, rf, nd, M, h1, h2, h3, h4, h5, h6, h7, h8, h9⟩ := h
  obtain ⟨K, r, hd⟩ := drops_ex (kdA nd) (fun i => (h1.ok.2.1 i).1) n _ rf [i] h1.ok.1 (Nat.le_refl _)
  refine (as_Drop h1 i K r hd).mono ?_
  rintro e w' ⟨rfl, ⟨ow', h10, h11⟩, h12⟩
  have hr := drops_cnt (x := 1) (a := 1) K hd h1.ok.1 (by rw [h3, List.count_cons_of_ne hi]; simp)
  refine ⟨⟨_, rfl⟩, ow', n, r, nd, M, h10, by omega, hr, h4, h12.range h5 (fun e => e.elim h8 h9), Nat.lt_of_lt_of_le h6 h12.size, h7, h8, fun e => ?_⟩
  rcases h11 bw e with e' | e'
  · exact h9 e'
  · omega
theorem sti_Make (h : StI w0 wr p bw LW k) (hV : Vars w0) (hk : k ≤ 1000) (x : ANd) (hx : x.kids.length = 8 ∧ x.vals.length = 8) : Calls Tryd.prog 53 #[.pointer (some ⟨p, 0, none⟩), ndV x] wr fun e w' => (∃ a b, e = .returned (.tuple #[.int .i64 a, .int .i64 b])) ∧ StI w0 w' p bw LW (k + 1) := by
  have hh := h
  obtain ⟨ow, n, rf, nd, M, h1, h2, h3, h4, h5, h6, h7, h8, h9⟩ := h
  refine (as_Make h1 hV (by omega) x hx).mono ?_
  rintro e w' (⟨_, rfl, hk⟩ | ⟨_, _, rfl, hk⟩ | ⟨_, _, y, hy, rfl, ⟨ow', h10, h11⟩, h12⟩)
  · exact ⟨⟨_, _, rfl⟩, (hh.keep hk).raise (by omega)⟩
  · exact ⟨⟨_, _, rfl⟩, (hh.keep hk).raise (by omega)⟩
  · obtain ⟨hr, hne⟩ := make_rf (l := (bareN x).kids) (x := 1) (by omega) hy
    refine ⟨⟨_, _, rfl⟩, ow', _, _, _, _, h10, by omega, ?_, ?_, h12.range h5 (fun e => e.elim h8 h9), Nat.lt_of_lt_of_le h6 h12.size, h7, h8, fun e => ?_⟩
    · rw [hr, make_cnt h1.ok.1 hy 1, h3]; omega
    · unfold updN
      rw [if_neg hne]
      exact h4
    · rcases h11 bw e with e' | e'
      · exact h9 e'
      · omega
end
end Go.Proofs.YtjkbhaplngnniaaDoor
