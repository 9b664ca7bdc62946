/- Nodes that are asked for: what is left when some are asked for once less, whatever the order. No program is named here. -/
import Derived.Test.YtjkbhaplngnniaaDoorMathNum
namespace Go.Proofs.YtjkbhaplngnniaaDoor
set_option linter.unusedSimpArgs false
set_option linter.unusedVariables false

/-- A node: of leaves or of others, its eight kids, its eight entries. -/
structure ANd where
  leaf : Bool
  kids : List Int
  vals : List (Int × Bool)

/-- How often each is asked for, once x is asked for once less; and what is then asked for once less too. -/
def stR (rf : Int → Nat) (x : Int) : Int → Nat := fun i => if i = x then rf i - 1 else rf i
def stK (kd : Int → List Int) (rf : Int → Nat) (x : Int) : List Int := if rf x = 1 then kd x else []
theorem stR_same (rf : Int → Nat) (x : Int) : stR rf x x = rf x - 1 := by simp [stR]
theorem stR_other (rf : Int → Nat) {x i : Int} (h : i ≠ x) : stR rf x i = rf i := by simp [stR, h]
theorem stR_none {rf : Int → Nat} {x : Int} (h : rf x = 0) : stR rf x = rf := by
  funext i; unfold stR; split
  · subst i; omega
  · rfl
theorem stR_comm (rf : Int → Nat) (x y : Int) : stR (stR rf x) y = stR (stR rf y) x := by
  funext i
  unfold stR
  by_cases hx : i = x <;> by_cases hy : i = y <;> simp only [hx, hy, if_true, if_false] <;> (try split) <;> simp_all
theorem stK_other (kd : Int → List Int) (rf : Int → Nat) {x y : Int} (h : x ≠ y) : stK kd (stR rf y) x = stK kd rf x := by
  unfold stK; rw [stR_other rf h]

/-- All of l are asked for once less, in k steps: then it is r. -/
def DropsN (kd : Int → List Int) : Nat → (Int → Nat) → List Int → (Int → Nat) → Prop
  | 0, rf, l, r => l = [] ∧ r = rf
  | k + 1, rf, l, r => ∃ x t, l = x :: t ∧ DropsN kd k (stR rf x) (stK kd rf x ++ t) r

theorem drops_cons {kd : Int → List Int} {k : Nat} {rf r : Int → Nat} {x : Int} {t : List Int} : DropsN kd (k + 1) rf (x :: t) r ↔ DropsN kd k (stR rf x) (stK kd rf x ++ t) r := by
  constructor
  · rintro ⟨x', t', h, g⟩
    simp only [List.cons.injEq] at h
    obtain ⟨rfl, rfl⟩ := h
    exact g
  · intro g
    exact ⟨x, t, rfl, g⟩
theorem drops_pos {kd : Int → List Int} {k : Nat} {rf r : Int → Nat} {x : Int} {t : List Int} (h : DropsN kd k rf (x :: t) r) : ∃ k', k = k' + 1 ∧ DropsN kd k' (stR rf x) (stK kd rf x ++ t) r := by
  cases k with
  | zero => exact absurd h.1 (by simp)
  | succ k => exact ⟨k, rfl, drops_cons.1 h⟩
theorem drops_nil {kd : Int → List Int} {k : Nat} {rf r : Int → Nat} (h : DropsN kd k rf [] r) : k = 0 ∧ r = rf := by
  cases k with
  | zero => exact ⟨rfl, h.2⟩
  | succ k => obtain ⟨x, t, h, _⟩ := h; cases h
/-- The order does not matter. -/
theorem drops_perm (kd : Int → List Int) : ∀ (k : Nat) (rf : Int → Nat) (l l' : List Int) (r : Int → Nat), l.Perm l' → DropsN kd k rf l r → DropsN kd k rf l' r := by
  intro k
  induction k using Nat.strongRecOn with
  | ind k ih =>
    intro rf l l' r hp h
    cases l with
    | nil =>
      have : l' = [] := List.Perm.nil_eq hp |>.symm
      subst this; exact h
    | cons x t =>
      obtain ⟨k1, rfl, h1⟩ := drops_pos h
      cases l' with
      | nil => exact absurd hp.length_eq (by simp)
      | cons y t' =>
        by_cases hxy : y = x
        · subst hxy
          refine drops_cons.2 (ih k1 (by omega) _ _ _ _ ?_ h1)
          exact List.Perm.append_left _ (List.Perm.cons_inv hp)
        · have hy : y ∈ t := by
            have : y ∈ x :: t := hp.symm.subset (List.mem_cons_self ..)
            rcases List.mem_cons.1 this with e | e
            · exact absurd e hxy
            · exact e
          have ht : t.Perm (y :: t.erase y) := List.perm_cons_erase hy
          have ht' : t'.Perm (x :: t.erase y) := by
            have h2 : (y :: t').Perm (y :: x :: t.erase y) := hp.symm.trans ((ht.cons x).trans (List.Perm.swap _ _ _))
            exact List.Perm.cons_inv h2
          have h3 : DropsN kd k1 (stR rf x) (y :: (stK kd rf x ++ t.erase y)) r := by
            refine ih k1 (by omega) _ _ _ _ ?_ h1
            exact (List.Perm.append_left _ ht).trans List.perm_middle
          obtain ⟨k2, rfl, h4⟩ := drops_pos h3
          rw [stK_other kd rf hxy, stR_comm] at h4
          refine drops_cons.2 ?_
          have h5 : DropsN kd (k2 + 1) (stR rf y) (x :: (stK kd rf y ++ t.erase y)) r := by
            refine drops_cons.2 ?_
            rw [stK_other kd rf (fun e => hxy e.symm)]
            refine ih k2 (by omega) _ _ _ _ ?_ h4
            rw [← List.append_assoc, ← List.append_assoc]
            exact List.Perm.append_right _ List.perm_append_comm
          refine ih (k2 + 1) (by omega) _ _ _ _ ?_ h5
          exact (List.perm_middle.symm).trans (List.Perm.append_left _ ht'.symm)
theorem drops_app {kd : Int → List Int} : ∀ (k : Nat) {rf r : Int → Nat} (l l2 : List Int), DropsN kd k rf (l ++ l2) r → ∃ k1 k2 r1, DropsN kd k1 rf l r1 ∧ DropsN kd k2 r1 l2 r ∧ k1 + k2 = k := by
  intro k
  induction k with
  | zero =>
    intro rf r l l2 h
    obtain ⟨h1, h2⟩ := h
    simp only [List.append_eq_nil_iff] at h1
    exact ⟨0, 0, rf, ⟨h1.1, rfl⟩, ⟨h1.2, h2⟩, rfl⟩
  | succ k ih =>
    intro rf r l l2 h
    cases l with
    | nil => exact ⟨0, k + 1, rf, ⟨rfl, rfl⟩, h, by omega⟩
    | cons x t =>
      have h1 : DropsN kd k (stR rf x) (stK kd rf x ++ (t ++ l2)) r := drops_cons.1 h
      rw [← List.append_assoc] at h1
      obtain ⟨k1, k2, r1, g1, g2, g3⟩ := ih _ _ h1
      exact ⟨k1 + 1, k2, r1, drops_cons.2 g1, g2, by omega⟩
/-- In parts. -/
theorem drops_seq {kd : Int → List Int} : ∀ (k1 : Nat) {k2 : Nat} {rf r1 r : Int → Nat} {l l2 : List Int}, DropsN kd k1 rf l r1 → DropsN kd k2 r1 l2 r → DropsN kd (k1 + k2) rf (l ++ l2) r := by
  intro k1
  induction k1 with
  | zero =>
    intro k2 rf r1 r l l2 h g
    obtain ⟨rfl, rfl⟩ := h
    simpa using g
  | succ k ih =>
    intro k2 rf r1 r l l2 h g
    obtain ⟨x, t, rfl, h1⟩ := h
    have := ih h1 g
    rw [List.append_assoc] at this
    rw [show k + 1 + k2 = k + k2 + 1 by omega]
    exact drops_cons.2 this
theorem drops_one {kd : Int → List Int} : ∀ (k : Nat) {k' : Nat} {rf r r' : Int → Nat} {l : List Int}, DropsN kd k rf l r → DropsN kd k' rf l r' → k = k' ∧ r = r' := by
  intro k
  induction k with
  | zero =>
    intro k' rf r r' l h g
    obtain ⟨rfl, rfl⟩ := h
    obtain ⟨rfl, rfl⟩ := drops_nil g
    exact ⟨rfl, rfl⟩
  | succ k ih =>
    intro k' rf r r' l h g
    obtain ⟨x, t, rfl, h1⟩ := h
    obtain ⟨k2, rfl, g1⟩ := drops_pos g
    obtain ⟨rfl, e⟩ := ih h1 g1
    exact ⟨rfl, e⟩

/-- Nodes have numbers from 1 to n. -/
def RfOk (n : Nat) (rf : Int → Nat) : Prop := ∀ i : Int, ¬ (1 ≤ i ∧ i ≤ (n : Int)) → rf i = 0
def totR (rf : Int → Nat) : Nat → Nat
  | 0 => 0
  | n + 1 => totR rf n + rf (n + 1 : Nat)
theorem totR_st (rf : Int → Nat) (x : Nat) : ∀ n, 1 ≤ x → x ≤ n → 0 < rf x → totR (stR rf x) n + 1 = totR rf n := by
  intro n
  induction n with
  | zero => intro h1 h2; omega
  | succ n ih =>
    intro h1 h2 h3
    by_cases e : x = n + 1
    · subst e
      have hlt : ∀ m, m ≤ n → totR (stR rf ((n + 1 : Nat) : Int)) m = totR rf m := by
        intro m
        induction m with
        | zero => intro _; rfl
        | succ m im =>
          intro hm
          unfold totR
          rw [im (by omega), stR_other rf (by omega)]
      unfold totR
      rw [hlt n (Nat.le_refl _), stR_same]
      omega
    · have := ih h1 (by omega) h3
      unfold totR
      rw [stR_other rf (by omega)]
      omega
theorem stR_ok {n : Nat} {rf : Int → Nat} (h : RfOk n rf) (x : Int) : RfOk n (stR rf x) := by
  intro i hi
  have := h i hi
  unfold stR; split <;> omega
theorem drops_ok {kd : Int → List Int} {n : Nat} : ∀ (k : Nat) {rf r : Int → Nat} {l : List Int}, DropsN kd k rf l r → RfOk n rf → RfOk n r := by
  intro k
  induction k with
  | zero => intro rf r l h g; rw [h.2]; exact g
  | succ k ih =>
    intro rf r l h g
    obtain ⟨x, t, _, h1⟩ := h
    exact ih h1 (stR_ok g x)
theorem drops_le {kd : Int → List Int} : ∀ (k : Nat) {rf r : Int → Nat} {l : List Int}, DropsN kd k rf l r → ∀ i, r i ≤ rf i := by
  intro k
  induction k with
  | zero => intro rf r l h i; rw [h.2]; exact Nat.le_refl _
  | succ k ih =>
    intro rf r l h i
    obtain ⟨x, t, _, h1⟩ := h
    have := ih h1 i
    have h2 : stR rf x i ≤ rf i := by unfold stR; split <;> omega
    omega
/-- It ends. -/
theorem drops_ex (kd : Int → List Int) (hk : ∀ i, (kd i).length = 8) (n : Nat) : ∀ (m : Nat) (rf : Int → Nat) (l : List Int), RfOk n rf → 9 * totR rf n + l.length ≤ m → ∃ k r, DropsN kd k rf l r := by
  intro m
  induction m with
  | zero =>
    intro rf l _ h
    have : l = [] := List.length_eq_zero_iff.1 (by omega)
    exact ⟨0, rf, this, rfl⟩
  | succ m ih =>
    intro rf l ho h
    cases l with
    | nil => exact ⟨0, rf, rfl, rfl⟩
    | cons x t =>
      simp only [List.length_cons] at h
      by_cases h0 : rf x = 0
      · have hk0 : stK kd rf x = [] := by unfold stK; rw [if_neg (by omega)]
        obtain ⟨k, r, g⟩ := ih rf t ho (by omega)
        refine ⟨k + 1, r, drops_cons.2 ?_⟩
        rw [stR_none h0, hk0]
        exact g
      · have hx : 1 ≤ x ∧ x ≤ n := by
          by_cases c : 1 ≤ x ∧ x ≤ n
          · exact c
          · exact absurd (ho x c) h0
        obtain ⟨y, rfl⟩ : ∃ y : Nat, x = y := ⟨x.toNat, by omega⟩
        have ht := totR_st rf y n (by omega) (by omega) (by omega)
        have hl : (stK kd rf y).length ≤ 8 := by
          unfold stK; split
          · rw [hk]; omega
          · simp
        obtain ⟨k, r, g⟩ := ih (stR rf y) (stK kd rf y ++ t) (stR_ok ho y) (by rw [List.length_append]; omega)
        exact ⟨k + 1, r, drops_cons.2 g⟩

/-- How many nodes there are. -/
def usd (rf : Int → Nat) : Nat → Nat
  | 0 => 0
  | n + 1 => usd rf n + if rf (n + 1 : Nat) = 0 then 0 else 1
theorem usd_le (rf : Int → Nat) : ∀ n, usd rf n ≤ n := by
  intro n
  induction n with
  | zero => exact Nat.le_refl _
  | succ n ih => unfold usd; split <;> omega
theorem usd_congr {rf rf' : Int → Nat} : ∀ n, (∀ i : Nat, 1 ≤ i → i ≤ n → (rf i = 0 ↔ rf' i = 0)) → usd rf n = usd rf' n := by
  intro n
  induction n with
  | zero => intro _; rfl
  | succ n ih =>
    intro h
    unfold usd
    rw [ih fun i h1 h2 => h i h1 (by omega)]
    have := h (n + 1) (by omega) (Nat.le_refl _)
    by_cases c : rf (n + 1 : Nat) = 0
    · rw [if_pos c, if_pos (this.1 c)]
    · rw [if_neg c, if_neg (fun e => c (this.2 e))]
/-- One that comes to be, or is gone. -/
theorem usd_set {rf rf' : Int → Nat} (x : Nat) : ∀ n, 1 ≤ x → x ≤ n → rf x = 0 → rf' x ≠ 0 → (∀ i : Nat, i ≠ x → (rf i = 0 ↔ rf' i = 0)) → usd rf' n = usd rf n + 1 := by
  intro n
  induction n with
  | zero => intro h1 h2; omega
  | succ n ih =>
    intro h1 h2 h3 h4 h5
    by_cases e : x = n + 1
    · subst e
      unfold usd
      rw [if_pos h3, if_neg h4, usd_congr n (fun i g1 g2 => (h5 i (by omega)).symm)]
    · unfold usd
      rw [ih h1 (by omega) h3 h4 h5]
      have := h5 (n + 1) (fun e' => e e'.symm)
      by_cases c : rf (n + 1 : Nat) = 0
      · rw [if_pos c, if_pos (this.1 c)]
      · rw [if_neg c, if_neg (fun e => c (this.2 e))]; try omega
/-- The lowest number that none has. -/
structure LowN (rf : Int → Nat) (x : Nat) : Prop where
  one : 1 ≤ x
  free : rf x = 0
  ahead : ∀ j : Nat, 1 ≤ j → j < x → rf j ≠ 0
theorem LowN.one' {rf : Int → Nat} {x y : Nat} (h : LowN rf x) (g : LowN rf y) : x = y := by
  rcases Nat.lt_trichotomy x y with c | c | c
  · exact absurd h.free (g.ahead x h.one c)
  · exact c
  · exact absurd g.free (h.ahead y g.one c)
theorem usd_full {rf : Int → Nat} : ∀ n, (∀ j : Nat, 1 ≤ j → j ≤ n → rf j ≠ 0) → usd rf n = n := by
  intro n
  induction n with
  | zero => intro _; rfl
  | succ n ih =>
    intro h
    unfold usd
    rw [ih fun j h1 h2 => h j h1 (by omega), if_neg (h (n + 1) (by omega) (Nat.le_refl _))]
theorem usd_split {rf : Int → Nat} (m : Nat) : ∀ n, m ≤ n → (∀ j : Nat, 1 ≤ j → j ≤ m → rf j ≠ 0) → m ≤ usd rf n := by
  intro n
  induction n with
  | zero => intro h _; omega
  | succ n ih =>
    intro h g
    by_cases e : m = n + 1
    · subst e; rw [usd_full _ g]; omega
    · have := ih (by omega) g
      unfold usd; omega
theorem LowN.le_used {rf : Int → Nat} {n x : Nat} (ho : RfOk n rf) (h : LowN rf x) : x ≤ usd rf n + 1 ∧ x ≤ n + 1 := by
  have h1 := h.one
  have hn : x ≤ n + 1 := by
    by_cases c : x ≤ n + 1
    · exact c
    · exact absurd (ho ((n + 1 : Nat) : Int) (by omega)) (h.ahead (n + 1) (by omega) (by omega))
  have := usd_split (rf := rf) (x - 1) n (by omega) (fun j g1 g2 => h.ahead j g1 (by omega))
  omega
/-- Each of l is asked for once more, for each place. -/
def incR (rf : Int → Nat) (l : List Int) : Int → Nat := fun i => if rf i = 0 then 0 else rf i + l.count i
def setR (rf : Int → Nat) (x : Int) (v : Nat) : Int → Nat := fun i => if i = x then v else rf i
theorem setR_same (rf : Int → Nat) (x : Int) (v : Nat) : setR rf x v x = v := by simp [setR]
theorem setR_other (rf : Int → Nat) {x i : Int} (v : Nat) (h : i ≠ x) : setR rf x v i = rf i := by simp [setR, h]
theorem incR_nil (rf : Int → Nat) : incR rf [] = rf := by
  funext i; unfold incR; split
  · omega
  · simp
theorem incR_zero (rf : Int → Nat) (l : List Int) (i : Int) : incR rf l i = 0 ↔ rf i = 0 := by
  unfold incR; split <;> omega
theorem incR_snoc (rf : Int → Nat) (l : List Int) (x : Int) (hx : rf x ≠ 0) : incR rf (l ++ [x]) = setR (incR rf l) x (incR rf l x + 1) := by
  funext i
  unfold setR incR
  by_cases c : i = x
  · subst c; rw [if_neg hx, if_pos rfl, if_neg hx]; simp [List.count_append]; omega
  · rw [if_neg c]
    split
    · rfl
    · simp [List.count_append, List.count_cons, Ne.symm c]
theorem incR_none (rf : Int → Nat) (l : List Int) (x : Int) (hx : rf x = 0) : incR rf (l ++ [x]) = incR rf l := by
  funext i
  unfold incR
  by_cases c : i = x
  · subst c; rw [if_pos hx, if_pos hx]
  · split
    · rfl
    · simp [List.count_append, List.count_cons, Ne.symm c]
theorem incR_ok {n : Nat} {rf : Int → Nat} (h : RfOk n rf) (l : List Int) : RfOk n (incR rf l) := by
  intro i hi
  exact (incR_zero rf l i).2 (h i hi)
end Go.Proofs.YtjkbhaplngnniaaDoor
