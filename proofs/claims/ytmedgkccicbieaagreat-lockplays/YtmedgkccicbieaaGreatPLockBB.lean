/- Rows of locks, and of locks with their numbers. · lock: List, Same, find, ask, Within, Owner. -/
import Derived.Test.YtmedgkccicbieaaGreatPTk
import Derived.Test.YtmedgkccicbieaaGreatPHoldCB
namespace Go.Proofs.YtmedgkccicbieaaGreat
open Go.RowKit Go.Maps
set_option linter.unusedSimpArgs false
set_option linter.unusedVariables false

abbrev Lk := Cl × ByteArray
abbrev Pk := Cl × ByteArray × Int
def lkF (x : Lk) : List Value := [.int .i64 x.1.1, .int .i64 x.1.2.1, .int .i64 x.1.2.2.1, .int .i64 x.1.2.2.2.1, .int .i64 x.1.2.2.2.2, .string x.2]
def lkV (x : Lk) : Value := .agg #[.int .i64 x.1.1, .int .i64 x.1.2.1, .int .i64 x.1.2.2.1, .int .i64 x.1.2.2.2.1, .int .i64 x.1.2.2.2.2, .string x.2]
def lkA (l : List Lk) (i : Nat) : Lk := l.getD i ((0, 0, 0, 0, 0), ByteArray.empty)
theorem lkA_get {l : List Lk} {i : Nat} (h : i < l.length) : lkA l i = l[i] := by simp [lkA, List.getD, h]
theorem lk_ext {l m : List Lk} (h : l.length = m.length) (g : ∀ j, j < l.length → lkA l j = lkA m j) : l = m := by
  apply List.ext_getElem h
  intro i h1 h2
  have := g i h1
  rwa [lkA_get h1, lkA_get h2] at this
def flatLk (l : List Lk) : List Value := l.flatMap lkF
theorem flatLk_len (l : List Lk) : (flatLk l).length = l.length * 6 := by
  induction l with
  | nil => rfl
  | cons x t ih =>
    have : (flatLk (x :: t)).length = (lkF x).length + (flatLk t).length := by simp [flatLk]
    rw [this, ih]
    show 6 + t.length * 6 = (t.length + 1) * 6
    omega
theorem flatLk_app (l m : List Lk) : flatLk (l ++ m) = flatLk l ++ flatLk m := by simp [flatLk]
theorem flatLk_one (l : List Lk) : ∀ u ∈ flatLk l, u.oneCell' = true := by
  intro u hu
  obtain ⟨x, _, h⟩ := List.mem_flatMap.1 hu
  simp [lkF] at h
  rcases h with rfl | rfl | rfl | rfl | rfl | rfl <;> rfl
theorem flatLk_get : ∀ (l : List Lk) (i t : Nat), i < l.length → t < 6 → (flatLk l)[i * 6 + t]? = (lkF (lkA l i))[t]? := by
  intro l
  induction l with
  | nil => intro i t hi; simp at hi
  | cons x r ih =>
    intro i t hi ht
    have e : flatLk (x :: r) = lkF x ++ flatLk r := by simp [flatLk]
    have hl : (lkF x).length = 6 := rfl
    rw [e]
    cases i with
    | zero => rw [List.getElem?_append_left (by omega), Nat.zero_mul, Nat.zero_add]; rfl
    | succ i =>
      rw [List.getElem?_append_right (by omega), hl, show (i + 1) * 6 + t - 6 = i * 6 + t by omega, ih i t (by simpa using hi) ht]
      rfl
structure Lq (w : World) (a : Option Addr) (l : List Lk) : Prop where
  cells : 0 < l.length → ∃ b o, a = some ⟨b, o, none⟩ ∧ b < w.heap.size ∧ ∀ i, i < l.length → ∀ t, t < 6 → ∀ u, (lkF (lkA l i))[t]? = some u → w.cell? ⟨b, o + i * 6 + t, none⟩ = some u
theorem Lq.chg {S : Nat → Prop} {w w' : World} {a : Option Addr} {l : List Lk} (h : Lq w a l) (g : Chg S w w') (hb : 0 < l.length → ∀ ad, a = some ad → ¬ S ad.block) : Lq w' a l :=
  ⟨fun hp => by
    obtain ⟨c, o, h1, h2, h3⟩ := h.cells hp
    have hne : ¬ S c := hb hp ⟨c, o, none⟩ h1
    exact ⟨c, o, h1, Nat.lt_of_lt_of_le h2 g.size, fun i hi t ht u hu => g.cellp (h3 i hi t ht u hu) hne⟩⟩
theorem Lq.kept {w w' : World} {a : Option Addr} {l : List Lk} (h : Lq w a l) (g : Kept w w') : Lq w' a l := h.chg (S := fun _ => False) (Chg.of_kept g) (fun _ _ _ e => e)
theorem Lq.at {w : World} {b o : Nat} {l : List Lk} (h : Lq w (some ⟨b, o, none⟩) l) {i : Nat} (hi : i < l.length) : w.cell? ⟨b, o + i * 6, none⟩ = some (.int .i64 (lkA l i).1.1) ∧ w.cell? ⟨b, o + i * 6 + 1, none⟩ = some (.int .i64 (lkA l i).1.2.1) ∧ w.cell? ⟨b, o + i * 6 + 2, none⟩ = some (.int .i64 (lkA l i).1.2.2.1) ∧ w.cell? ⟨b, o + i * 6 + 3, none⟩ = some (.int .i64 (lkA l i).1.2.2.2.1) ∧ w.cell? ⟨b, o + i * 6 + 4, none⟩ = some (.int .i64 (lkA l i).1.2.2.2.2) ∧ w.cell? ⟨b, o + i * 6 + 5, none⟩ = some (.string (lkA l i).2) := by
  obtain ⟨b', o', e, _, h3⟩ := h.cells (by omega)
  cases e
  exact ⟨h3 i hi 0 (by omega) _ rfl, h3 i hi 1 (by omega) _ rfl, h3 i hi 2 (by omega) _ rfl, h3 i hi 3 (by omega) _ rfl, h3 i hi 4 (by omega) _ rfl, h3 i hi 5 (by omega) _ rfl⟩
theorem Lq.form {w : World} {a : Option Addr} {l : List Lk} (h : Lq w a l) (hp : 0 < l.length) : ∃ b o, a = some ⟨b, o, none⟩ := by
  obtain ⟨b, o, e, _⟩ := h.cells hp
  exact ⟨b, o, e⟩
def OwnLk (w : World) (B : Nat) (v : Value) (l : List Lk) : Prop := w.ownsRow B 87 6 v l.length (flatLk l)
theorem ownLk_nil (w : World) (B : Nat) : OwnLk w B (.slice none 0 0) [] := World.ownsRow_nil _ _ _ _
theorem OwnLk.form {w : World} {B : Nat} {v : Value} {l : List Lk} (h : OwnLk w B v l) : ∃ a c, v = .slice a l.length c ∧ Lq w a l ∧ (a = none → l = [] ∧ c = 0) := by
  obtain ⟨h0, ⟨h1, hz⟩ | ⟨g, cap, cur, h1, h2⟩⟩ := h
  · have hl : l = [] := List.length_eq_zero_iff.1 hz
    subst hl
    exact ⟨none, 0, h1, ⟨fun hp => absurd hp (by simp)⟩, fun _ => ⟨rfl, rfl⟩⟩
  · have ho : w.ownsRow B 87 6 v l.length (flatLk l) := ⟨h0, .inr ⟨g, cap, cur, h1, h2⟩⟩
    refine ⟨_, _, h1, ⟨fun hp => ?_⟩, fun e => by cases e⟩
    subst h1
    obtain ⟨g', cap', e, _, hl⟩ := World.ownsRow.form ho hp
    cases e
    exact ⟨g, 0, rfl, hl, fun i hi t ht u hu => by rw [Nat.zero_add, World.ownsRow.cellAt ho (i * 6 + t) (by omega), flatLk_get l i t hi ht]; exact hu⟩
theorem boxLk_at (w : World) (x : Lk) (t : TypeId) {g : Nat} (hg : g = w.heap.size) (Y : World) (k : Kept (w.alloc (.cells #[.int .i64 x.1.1, .int .i64 x.1.2.1, .int .i64 x.1.2.2.1, .int .i64 x.1.2.2.2.1, .int .i64 x.1.2.2.2.2, .string x.2] t)) Y) : Y.cell? ⟨g, 0, none⟩ = some (.int .i64 x.1.1) ∧ Y.cell? ⟨g, 1, none⟩ = some (.int .i64 x.1.2.1) ∧ Y.cell? ⟨g, 2, none⟩ = some (.int .i64 x.1.2.2.1) ∧ Y.cell? ⟨g, 3, none⟩ = some (.int .i64 x.1.2.2.2.1) ∧ Y.cell? ⟨g, 4, none⟩ = some (.int .i64 x.1.2.2.2.2) ∧ Y.cell? ⟨g, 5, none⟩ = some (.string x.2) :=
  ⟨k.cellp (new_cell _ _ _ _ 0 _ hg rfl), k.cellp (new_cell _ _ _ _ 1 _ hg rfl), k.cellp (new_cell _ _ _ _ 2 _ hg rfl), k.cellp (new_cell _ _ _ _ 3 _ hg rfl), k.cellp (new_cell _ _ _ _ 4 _ hg rfl), k.cellp (new_cell _ _ _ _ 5 _ hg rfl)⟩
theorem cinfoLk : ∃ i0, Tryz.prog.info? 87 = some i0 ∧ i0.zero = some (.agg #[.int .i64 0, .int .i64 0, .int .i64 0, .int .i64 0, .int .i64 0, .string ByteArray.empty]) ∧ i0.size = 6 ∧ i0.bytes = 56 := by
  have h : (Tryz.prog.info? 87).map (fun i => (i.zero, i.size, i.bytes)) = some (some (.agg #[.int .i64 0, .int .i64 0, .int .i64 0, .int .i64 0, .int .i64 0, .string ByteArray.empty]), 6, 56) := by kernel_rfl
  exact info_parts h
theorem lq_news {w : World} {ad : Addr} {l : List Lk} (h : Lq w (some ad) l) : ∀ (j : Nat) u, (flatLk l)[j]? = some u → w.cell? (ad.add j) = some u := by
  intro j u hj
  have hjn : j < l.length * 6 := by
    have := (List.getElem?_eq_some_iff.1 hj).1
    rw [flatLk_len] at this
    exact this
  obtain ⟨bb, oo, e, _, hcs⟩ := h.cells (by omega)
  cases e
  have hd : j / 6 * 6 + j % 6 = j := by omega
  have h1 := hcs (j / 6) (by omega) (j % 6) (by omega) u (by rw [← flatLk_get l (j / 6) (j % 6) (by omega) (by omega), hd]; exact hj)
  rw [Addr.add_lit]
  rw [Nat.add_assoc, hd] at h1
  exact h1
theorem wpList_catLk {ops : Array Oper} {rest : List Oper} {o : Oper} {a : Act} {Q : Exit → Act → World → Prop} (w : World) (hgd : o.guard = none) (s x : Operand)
    (ho : o.op = .call { callee := .builtin .append, args := #[s, x], argTypes := #[67, 67] })
    (B : Nat) (v : Value) (l t : List Lk) (hs : a.eval s = v) (hv : OwnLk w B v l) (hB : B ≤ w.heap.size) (b : Option Addr) (c : Nat) (hx : a.eval x = .slice b t.length c) (hR : Lq w b t) (hbn : b = none → t = [] ∧ c = 0)
    (h47 : l.length + t.length ≤ 200000)
    (h : ∀ v' w', OwnLk w' B v' (l ++ t) → Chg (fun k => v.ownBlock = some k) w w' → wpList Tryz.prog ops Q rest (a.put o.dst v') w') : wpList Tryz.prog ops Q (o :: rest) a w := by
  obtain ⟨i0, hi0, hz0, hz1, hz2⟩ := cinfoLk
  cases b with
  | none =>
    obtain ⟨rfl, rfl⟩ := hbn rfl
    refine wpList_append_own_none hgd s x 67 ho B 87 i0 6 Tryz.underlying67 hi0 v _ _ hs hv hx (h v w (by simpa using hv) (Chg.refl _ _))
  | some ad =>
    refine wpList_append_own_wide w hgd s x 67 ho B 87 i0 _ 6 56 Tryz.underlying67 hi0 hz0 hz1 hz2 rfl (by decide) v _ _ hs hv ad t.length c (flatLk t) hx (flatLk_len t) (lq_news hR) (flatLk_one t) (by unfold maxLen; omega) (by omega) hB ?_
    intro v' w' h2 h3 _
    refine h v' w' ?_ ((Chg.refl _ w).grown h3 (fun k hk => .inl hk))
    unfold OwnLk
    rw [flatLk_app, List.length_append]
    exact h2
theorem OwnLk.le {w : World} {B : Nat} {a : Option Addr} {n c : Nat} {l : List Lk} (h : OwnLk w B (.slice a n c) l) : l.length ≤ c := by
  obtain ⟨_, ⟨h1, hz⟩ | ⟨g, cap, cur, h1, hb, hheap, hc, _⟩⟩ := h
  · rw [hz]; exact Nat.zero_le _
  · cases h1; exact hc
theorem OwnLk.sp {w : World} {B : Nat} {a : Option Addr} {n c : Nat} {l : List Lk} (h : OwnLk w B (.slice a n c) l) : ∀ ad, a = some ad → ad.spot = none := by
  obtain ⟨_, ⟨h1, hz⟩ | ⟨g, cap, cur, h1, _⟩⟩ := h
  · cases h1; intro ad e; cases e
  · cases h1; intro ad e; cases e; rfl
theorem OwnLk.fr {w : World} {B : Nat} {a : Option Addr} {n c : Nat} {l : List Lk} (h : OwnLk w B (.slice a n c) l) : ∀ ad, a = some ad → B ≤ ad.block := by
  obtain ⟨_, ⟨h1, hz⟩ | ⟨g, cap, cur, h1, hb, _⟩⟩ := h
  · cases h1; intro ad e; cases e
  · cases h1; intro ad e; cases e; exact hb
theorem lq_box (w : World) (x : Lk) (T : TypeId) {g : Nat} (hg : g = w.heap.size) : Lq (w.alloc (.cells #[.int .i64 x.1.1, .int .i64 x.1.2.1, .int .i64 x.1.2.2.1, .int .i64 x.1.2.2.2.1, .int .i64 x.1.2.2.2.2, .string x.2] T)) (some ⟨g, 0, none⟩) [x] :=
  ⟨fun _ => ⟨g, 0, rfl, by rw [hg]; simp, fun i hi t ht u hu => by
    have : i = 0 := by simpa using hi
    subst this
    rw [show 0 + 0 * 6 + t = t by omega]
    exact new_cell _ _ _ _ t _ hg (by simpa [lkF, lkA] using hu)⟩⟩
theorem OwnLk.kept {w w' : World} {B : Nat} {v : Value} {l : List Lk} (h : OwnLk w B v l) (k : Kept w w') : OwnLk w' B v l := ownsRow_kept h k
theorem OwnLk.lt {w : World} {B : Nat} {v : Value} {l : List Lk} (h : OwnLk w B v l) : ∀ g, v.ownBlock = some g → B ≤ g ∧ g < w.heap.size := World.ownsRow.lt h
theorem OwnLk.base {w : World} {B B' : Nat} {v : Value} {l : List Lk} (h : OwnLk w B v l) (hB : B' ≤ B) : OwnLk w B' v l := by
  obtain ⟨h0, h1 | ⟨g, cap, cur, hv, hb, r⟩⟩ := h
  · exact ⟨h0, .inl h1⟩
  · exact ⟨h0, .inr ⟨g, cap, cur, hv, Nat.le_trans hB hb, r⟩⟩
theorem take_nextLk {l : List Lk} {k : Nat} (hk : k < l.length) : l.take (k + 1) = l.take k ++ [lkA l k] := by
  rw [List.take_add_one, List.getElem?_eq_getElem hk, lkA_get hk]; rfl
theorem Lq.none (w : World) (a : Option Addr) : Lq w a [] := ⟨fun hp => absurd hp (by simp)⟩
def pkF (x : Pk) : List Value := [.int .i64 x.1.1, .int .i64 x.1.2.1, .int .i64 x.1.2.2.1, .int .i64 x.1.2.2.2.1, .int .i64 x.1.2.2.2.2, .string x.2.1, .int .i64 x.2.2]
def pkV (x : Pk) : Value := .agg #[.int .i64 x.1.1, .int .i64 x.1.2.1, .int .i64 x.1.2.2.1, .int .i64 x.1.2.2.2.1, .int .i64 x.1.2.2.2.2, .string x.2.1, .int .i64 x.2.2]
def pkA (l : List Pk) (i : Nat) : Pk := l.getD i ((0, 0, 0, 0, 0), ByteArray.empty, 0)
theorem pkA_get {l : List Pk} {i : Nat} (h : i < l.length) : pkA l i = l[i] := by simp [pkA, List.getD, h]
def flatPk (l : List Pk) : List Value := l.flatMap pkF
theorem flatPk_len (l : List Pk) : (flatPk l).length = l.length * 7 := by
  induction l with
  | nil => rfl
  | cons x t ih =>
    have : (flatPk (x :: t)).length = (pkF x).length + (flatPk t).length := by simp [flatPk]
    rw [this, ih]
    show 7 + t.length * 7 = (t.length + 1) * 7
    omega
theorem flatPk_app (l m : List Pk) : flatPk (l ++ m) = flatPk l ++ flatPk m := by simp [flatPk]
theorem flatPk_one (l : List Pk) : ∀ u ∈ flatPk l, u.oneCell' = true := by
  intro u hu
  obtain ⟨x, _, h⟩ := List.mem_flatMap.1 hu
  simp [pkF] at h
  rcases h with rfl | rfl | rfl | rfl | rfl | rfl | rfl <;> rfl
theorem flatPk_get : ∀ (l : List Pk) (i t : Nat), i < l.length → t < 7 → (flatPk l)[i * 7 + t]? = (pkF (pkA l i))[t]? := by
  intro l
  induction l with
  | nil => intro i t hi; simp at hi
  | cons x r ih =>
    intro i t hi ht
    have e : flatPk (x :: r) = pkF x ++ flatPk r := by simp [flatPk]
    have hl : (pkF x).length = 7 := rfl
    rw [e]
    cases i with
    | zero => rw [List.getElem?_append_left (by omega), Nat.zero_mul, Nat.zero_add]; rfl
    | succ i =>
      rw [List.getElem?_append_right (by omega), hl, show (i + 1) * 7 + t - 7 = i * 7 + t by omega, ih i t (by simpa using hi) ht]
      rfl
structure Pq (w : World) (a : Option Addr) (l : List Pk) : Prop where
  cells : 0 < l.length → ∃ b o, a = some ⟨b, o, none⟩ ∧ b < w.heap.size ∧ ∀ i, i < l.length → ∀ t, t < 7 → ∀ u, (pkF (pkA l i))[t]? = some u → w.cell? ⟨b, o + i * 7 + t, none⟩ = some u
theorem Pq.chg {S : Nat → Prop} {w w' : World} {a : Option Addr} {l : List Pk} (h : Pq w a l) (g : Chg S w w') (hb : 0 < l.length → ∀ ad, a = some ad → ¬ S ad.block) : Pq w' a l :=
  ⟨fun hp => by
    obtain ⟨c, o, h1, h2, h3⟩ := h.cells hp
    have hne : ¬ S c := hb hp ⟨c, o, none⟩ h1
    exact ⟨c, o, h1, Nat.lt_of_lt_of_le h2 g.size, fun i hi t ht u hu => g.cellp (h3 i hi t ht u hu) hne⟩⟩
theorem Pq.kept {w w' : World} {a : Option Addr} {l : List Pk} (h : Pq w a l) (g : Kept w w') : Pq w' a l := h.chg (S := fun _ => False) (Chg.of_kept g) (fun _ _ _ e => e)
theorem Pq.at {w : World} {b o : Nat} {l : List Pk} (h : Pq w (some ⟨b, o, none⟩) l) {i : Nat} (hi : i < l.length) : w.cell? ⟨b, o + i * 7, none⟩ = some (.int .i64 (pkA l i).1.1) ∧ w.cell? ⟨b, o + i * 7 + 1, none⟩ = some (.int .i64 (pkA l i).1.2.1) ∧ w.cell? ⟨b, o + i * 7 + 2, none⟩ = some (.int .i64 (pkA l i).1.2.2.1) ∧ w.cell? ⟨b, o + i * 7 + 3, none⟩ = some (.int .i64 (pkA l i).1.2.2.2.1) ∧ w.cell? ⟨b, o + i * 7 + 4, none⟩ = some (.int .i64 (pkA l i).1.2.2.2.2) ∧ w.cell? ⟨b, o + i * 7 + 5, none⟩ = some (.string (pkA l i).2.1) ∧ w.cell? ⟨b, o + i * 7 + 6, none⟩ = some (.int .i64 (pkA l i).2.2) := by
  obtain ⟨b', o', e, _, h3⟩ := h.cells (by omega)
  cases e
  exact ⟨h3 i hi 0 (by omega) _ rfl, h3 i hi 1 (by omega) _ rfl, h3 i hi 2 (by omega) _ rfl, h3 i hi 3 (by omega) _ rfl, h3 i hi 4 (by omega) _ rfl, h3 i hi 5 (by omega) _ rfl, h3 i hi 6 (by omega) _ rfl⟩
theorem Pq.form {w : World} {a : Option Addr} {l : List Pk} (h : Pq w a l) (hp : 0 < l.length) : ∃ b o, a = some ⟨b, o, none⟩ := by
  obtain ⟨b, o, e, _⟩ := h.cells hp
  exact ⟨b, o, e⟩
def OwnPk (w : World) (B : Nat) (v : Value) (l : List Pk) : Prop := w.ownsRow B 130 7 v l.length (flatPk l)
theorem ownPk_nil (w : World) (B : Nat) : OwnPk w B (.slice none 0 0) [] := World.ownsRow_nil _ _ _ _
theorem OwnPk.form {w : World} {B : Nat} {v : Value} {l : List Pk} (h : OwnPk w B v l) : ∃ a c, v = .slice a l.length c ∧ Pq w a l ∧ (a = none → l = [] ∧ c = 0) := by
  obtain ⟨h0, ⟨h1, hz⟩ | ⟨g, cap, cur, h1, h2⟩⟩ := h
  · have hl : l = [] := List.length_eq_zero_iff.1 hz
    subst hl
    exact ⟨none, 0, h1, ⟨fun hp => absurd hp (by simp)⟩, fun _ => ⟨rfl, rfl⟩⟩
  · have ho : w.ownsRow B 130 7 v l.length (flatPk l) := ⟨h0, .inr ⟨g, cap, cur, h1, h2⟩⟩
    refine ⟨_, _, h1, ⟨fun hp => ?_⟩, fun e => by cases e⟩
    subst h1
    obtain ⟨g', cap', e, _, hl⟩ := World.ownsRow.form ho hp
    cases e
    exact ⟨g, 0, rfl, hl, fun i hi t ht u hu => by rw [Nat.zero_add, World.ownsRow.cellAt ho (i * 7 + t) (by omega), flatPk_get l i t hi ht]; exact hu⟩
theorem boxPk_at (w : World) (x : Pk) (t : TypeId) {g : Nat} (hg : g = w.heap.size) (Y : World) (k : Kept (w.alloc (.cells #[.int .i64 x.1.1, .int .i64 x.1.2.1, .int .i64 x.1.2.2.1, .int .i64 x.1.2.2.2.1, .int .i64 x.1.2.2.2.2, .string x.2.1, .int .i64 x.2.2] t)) Y) : Y.cell? ⟨g, 0, none⟩ = some (.int .i64 x.1.1) ∧ Y.cell? ⟨g, 1, none⟩ = some (.int .i64 x.1.2.1) ∧ Y.cell? ⟨g, 2, none⟩ = some (.int .i64 x.1.2.2.1) ∧ Y.cell? ⟨g, 3, none⟩ = some (.int .i64 x.1.2.2.2.1) ∧ Y.cell? ⟨g, 4, none⟩ = some (.int .i64 x.1.2.2.2.2) ∧ Y.cell? ⟨g, 5, none⟩ = some (.string x.2.1) ∧ Y.cell? ⟨g, 6, none⟩ = some (.int .i64 x.2.2) :=
  ⟨k.cellp (new_cell _ _ _ _ 0 _ hg rfl), k.cellp (new_cell _ _ _ _ 1 _ hg rfl), k.cellp (new_cell _ _ _ _ 2 _ hg rfl), k.cellp (new_cell _ _ _ _ 3 _ hg rfl), k.cellp (new_cell _ _ _ _ 4 _ hg rfl), k.cellp (new_cell _ _ _ _ 5 _ hg rfl), k.cellp (new_cell _ _ _ _ 6 _ hg rfl)⟩
theorem cinfoPk : ∃ i0, Tryz.prog.info? 130 = some i0 ∧ i0.zero = some (.agg #[.int .i64 0, .int .i64 0, .int .i64 0, .int .i64 0, .int .i64 0, .string ByteArray.empty, .int .i64 0]) ∧ i0.size = 7 ∧ i0.bytes = 64 := by
  have h : (Tryz.prog.info? 130).map (fun i => (i.zero, i.size, i.bytes)) = some (some (.agg #[.int .i64 0, .int .i64 0, .int .i64 0, .int .i64 0, .int .i64 0, .string ByteArray.empty, .int .i64 0]), 7, 64) := by kernel_rfl
  exact info_parts h
theorem pq_news {w : World} {ad : Addr} {l : List Pk} (h : Pq w (some ad) l) : ∀ (j : Nat) u, (flatPk l)[j]? = some u → w.cell? (ad.add j) = some u := by
  intro j u hj
  have hjn : j < l.length * 7 := by
    have := (List.getElem?_eq_some_iff.1 hj).1
    rw [flatPk_len] at this
    exact this
  obtain ⟨bb, oo, e, _, hcs⟩ := h.cells (by omega)
  cases e
  have hd : j / 7 * 7 + j % 7 = j := by omega
  have h1 := hcs (j / 7) (by omega) (j % 7) (by omega) u (by rw [← flatPk_get l (j / 7) (j % 7) (by omega) (by omega), hd]; exact hj)
  rw [Addr.add_lit]
  rw [Nat.add_assoc, hd] at h1
  exact h1
theorem wpList_catPk {ops : Array Oper} {rest : List Oper} {o : Oper} {a : Act} {Q : Exit → Act → World → Prop} (w : World) (hgd : o.guard = none) (s x : Operand)
    (ho : o.op = .call { callee := .builtin .append, args := #[s, x], argTypes := #[64, 64] })
    (B : Nat) (v : Value) (l t : List Pk) (hs : a.eval s = v) (hv : OwnPk w B v l) (hB : B ≤ w.heap.size) (b : Option Addr) (c : Nat) (hx : a.eval x = .slice b t.length c) (hR : Pq w b t) (hbn : b = none → t = [] ∧ c = 0)
    (h47 : l.length + t.length ≤ 200000)
    (h : ∀ v' w', OwnPk w' B v' (l ++ t) → Chg (fun k => v.ownBlock = some k) w w' → wpList Tryz.prog ops Q rest (a.put o.dst v') w') : wpList Tryz.prog ops Q (o :: rest) a w := by
  obtain ⟨i0, hi0, hz0, hz1, hz2⟩ := cinfoPk
  cases b with
  | none =>
    obtain ⟨rfl, rfl⟩ := hbn rfl
    refine wpList_append_own_none hgd s x 64 ho B 130 i0 7 Tryz.underlying64 hi0 v _ _ hs hv hx (h v w (by simpa using hv) (Chg.refl _ _))
  | some ad =>
    refine wpList_append_own_wide w hgd s x 64 ho B 130 i0 _ 7 64 Tryz.underlying64 hi0 hz0 hz1 hz2 rfl (by decide) v _ _ hs hv ad t.length c (flatPk t) hx (flatPk_len t) (pq_news hR) (flatPk_one t) (by unfold maxLen; omega) (by omega) hB ?_
    intro v' w' h2 h3 _
    refine h v' w' ?_ ((Chg.refl _ w).grown h3 (fun k hk => .inl hk))
    unfold OwnPk
    rw [flatPk_app, List.length_append]
    exact h2
theorem OwnPk.le {w : World} {B : Nat} {a : Option Addr} {n c : Nat} {l : List Pk} (h : OwnPk w B (.slice a n c) l) : l.length ≤ c := by
  obtain ⟨_, ⟨h1, hz⟩ | ⟨g, cap, cur, h1, hb, hheap, hc, _⟩⟩ := h
  · rw [hz]; exact Nat.zero_le _
  · cases h1; exact hc
theorem OwnPk.sp {w : World} {B : Nat} {a : Option Addr} {n c : Nat} {l : List Pk} (h : OwnPk w B (.slice a n c) l) : ∀ ad, a = some ad → ad.spot = none := by
  obtain ⟨_, ⟨h1, hz⟩ | ⟨g, cap, cur, h1, _⟩⟩ := h
  · cases h1; intro ad e; cases e
  · cases h1; intro ad e; cases e; rfl
theorem OwnPk.fr {w : World} {B : Nat} {a : Option Addr} {n c : Nat} {l : List Pk} (h : OwnPk w B (.slice a n c) l) : ∀ ad, a = some ad → B ≤ ad.block := by
  obtain ⟨_, ⟨h1, hz⟩ | ⟨g, cap, cur, h1, hb, _⟩⟩ := h
  · cases h1; intro ad e; cases e
  · cases h1; intro ad e; cases e; exact hb
theorem OwnPk.kept {w w' : World} {B : Nat} {v : Value} {l : List Pk} (h : OwnPk w B v l) (k : Kept w w') : OwnPk w' B v l := ownsRow_kept h k
theorem OwnPk.lt {w : World} {B : Nat} {v : Value} {l : List Pk} (h : OwnPk w B v l) : ∀ g, v.ownBlock = some g → B ≤ g ∧ g < w.heap.size := World.ownsRow.lt h
theorem OwnPk.base {w : World} {B B' : Nat} {v : Value} {l : List Pk} (h : OwnPk w B v l) (hB : B' ≤ B) : OwnPk w B' v l := by
  obtain ⟨h0, h1 | ⟨g, cap, cur, hv, hb, r⟩⟩ := h
  · exact ⟨h0, .inl h1⟩
  · exact ⟨h0, .inr ⟨g, cap, cur, hv, Nat.le_trans hB hb, r⟩⟩
theorem take_nextPk {l : List Pk} {k : Nat} (hk : k < l.length) : l.take (k + 1) = l.take k ++ [pkA l k] := by
  rw [List.take_add_one, List.getElem?_eq_getElem hk, pkA_get hk]; rfl
theorem Pq.take {w : World} {a : Option Addr} {l : List Pk} (h : Pq w a l) (i : Nat) : Pq w a (l.take i) := by
  refine ⟨fun hp => ?_⟩
  have hl : 0 < l.length := by rw [List.length_take] at hp; omega
  obtain ⟨b, o, h1, h2, h3⟩ := h.cells hl
  refine ⟨b, o, h1, h2, fun j hj t ht u hu => h3 j (by rw [List.length_take] at hj; omega) t ht u ?_⟩
  have e : pkA (l.take i) j = pkA l j := by rw [pkA_get hj, pkA_get (by rw [List.length_take] at hj; omega), List.getElem_take]
  rw [← e]; exact hu
theorem Pq.drop {w : World} {b o : Nat} {l : List Pk} (h : Pq w (some ⟨b, o, none⟩) l) (i : Nat) : Pq w (some ⟨b, o + i * 7, none⟩) (l.drop i) := by
  refine ⟨fun hp => ?_⟩
  rw [List.length_drop] at hp
  obtain ⟨b', o', h1, h2, h3⟩ := h.cells (by omega)
  cases h1
  refine ⟨b, o + i * 7, rfl, h2, fun j hj t ht u hu => ?_⟩
  rw [List.length_drop] at hj
  have e : pkA (l.drop i) j = pkA l (i + j) := by rw [pkA_get (by rw [List.length_drop]; omega), pkA_get (by omega), List.getElem_drop]
  rw [e] at hu
  have := h3 (i + j) (by omega) t ht u hu
  rw [show o + (i + j) * 7 + t = o + i * 7 + j * 7 + t by omega] at this
  exact this
theorem Pq.none (w : World) (a : Option Addr) : Pq w a [] := ⟨fun hp => absurd hp (by simp)⟩
theorem eq_arrH (a b c d a' b' c' d' : Int) (w : World) : (Op.equalIn 9998 27 (.agg #[.int .i64 a, .int .i64 b, .int .i64 c, .int .i64 d]) (.agg #[.int .i64 a', .int .i64 b', .int .i64 c', .int .i64 d'])).run Tryz.prog w = .ok (decide (a = a' ∧ b = b' ∧ c = c' ∧ d = d')) w := by
  have u3 := Tryz.underlying3
  have a3 := Tryz.isAgg3
  have z3 := Tryz.sizeOf3
  rw [show (9998 : Nat) = 9997 + 1 from rfl, Op.equalIn]
  simp only [Sem.run_bind, run_underlying Tryz.underlying27, Result.andThen_ok]
  simp only [Std.Legacy.Range.forIn_eq_forIn_range', Std.Legacy.Range.size, Nat.sub_zero, Nat.add_sub_cancel, Nat.div_one, List.range'_succ, List.range'_zero, List.forIn_cons, List.forIn_nil]
  by_cases h1 : a = a'
  · subst h1
    by_cases h2 : b = b'
    · subst h2
      by_cases h3 : c = c'
      · subst h3
        by_cases h4 : d = d'
        · subst h4; go_simp; try simp
        · have e4 : (d == d') = false := by simpa using h4
          have e5 : decide (a = a ∧ b = b ∧ c = c ∧ d = d') = false := by simp [h4]
          rw [e5]; clear e5; go_simp
      · have e4 : (c == c') = false := by simpa using h3
        have e5 : decide (a = a ∧ b = b ∧ c = c' ∧ d = d') = false := by simp [h3]
        rw [e5]; clear e5; go_simp
    · have e4 : (b == b') = false := by simpa using h2
      have e5 : decide (a = a ∧ b = b' ∧ c = c' ∧ d = d') = false := by simp [h2]
      rw [e5]; clear e5; go_simp
  · have e4 : (a == a') = false := by simpa using h1
    have e5 : decide (a = a' ∧ b = b' ∧ c = c' ∧ d = d') = false := by simp [h1]
    rw [e5]; clear e5; go_simp
theorem eq_clH (x y : Cl) (w : World) : (Op.equalIn 9999 29 (clV x) (clV y)).run Tryz.prog w = .ok (decide (x = y)) w := by
  obtain ⟨x0, x1, x2, x3, x4⟩ := x
  obtain ⟨y0, y1, y2, y3, y4⟩ := y
  have u3 := Tryz.underlying3
  have a3 := Tryz.isAgg3
  have z3 := Tryz.sizeOf3
  have hS : Tryz.prog.underlying 29 = some (.struct (Tryz.prog.fieldsOf 29)) := by kernel_rfl
  have hp : Tryz.prog.stoodInHeld 29 = false := by kernel_rfl
  have qa := eq_arrH x1 x2 x3 x4 y1 y2 y3 y4
  have e9 : decide (((x0, x1, x2, x3, x4) : Cl) = (y0, y1, y2, y3, y4)) = (decide (x0 = y0) && decide (x1 = y1 ∧ x2 = y2 ∧ x3 = y3 ∧ x4 = y4)) := by
    rw [← Bool.decide_and, decide_eq_decide]
    simp only [Prod.mk.injEq]
  rw [e9]
  unfold clV
  rw [show (9999 : Nat) = 9998 + 1 from rfl, run_equalIn_agg w 9998 29 _ _ hS hp]
  simp only [Program.fieldsOf, Tryz.underlying29]
  generalize decide (x1 = y1 ∧ x2 = y2 ∧ x3 = y3 ∧ x4 = y4) = dd at *
  by_cases h0 : x0 = y0
  · subst h0
    cases dd <;> (go_simp; try simp)
  · have e0 : (x0 == y0) = false := by simpa using h0
    have e1 : decide (x0 = y0) = false := by simpa using h0
    rw [e1]
    clear e1 e9 h0
    go_simp
    try simp
theorem neqLk (x y : Lk) (w : World) : (binOp .neq 87 (lkV x) (lkV y)).run Tryz.prog w = .ok (.bool (!decide (x = y))) w := by
  obtain ⟨⟨x0, x1, x2, x3, x4⟩, x5⟩ := x
  obtain ⟨⟨y0, y1, y2, y3, y4⟩, y5⟩ := y
  have u9 := Tryz.underlying9
  have a9 := Tryz.isAgg9
  have z9 := Tryz.sizeOf9
  have aC := Tryz.isAgg29
  have zC := Tryz.sizeOf29
  have hS : Tryz.prog.underlying 87 = some (.struct (Tryz.prog.fieldsOf 87)) := by kernel_rfl
  have hp : Tryz.prog.stoodInHeld 87 = false := by kernel_rfl
  have qa := eq_clH (x0, x1, x2, x3, x4) (y0, y1, y2, y3, y4)
  unfold clV at qa
  simp only at qa
  have e9 : decide ((((x0, x1, x2, x3, x4), x5) : Lk) = ((y0, y1, y2, y3, y4), y5)) = (decide (((x0, x1, x2, x3, x4) : Cl) = (y0, y1, y2, y3, y4)) && decide (x5 = y5)) := by
    rw [← Bool.decide_and, decide_eq_decide]
    simp only [Prod.mk.injEq]
  rw [e9]
  unfold lkV
  rw [run_neq_struct, show (10000 : Nat) = 9999 + 1 from rfl, run_equalIn_agg w 9999 87 _ _ hS hp]
  simp only [Program.fieldsOf, Tryz.underlying87]
  generalize decide (((x0, x1, x2, x3, x4) : Cl) = (y0, y1, y2, y3, y4)) = dd at *
  by_cases h0 : x5 = y5
  · subst h0
    cases dd <;> (go_simp; try simp)
  · have e0 := bytes_neD h0
    have e1 : decide (x5 = y5) = false := by simpa using h0
    rw [e1]
    clear e1 e9 h0
    cases dd <;> (go_simp; try simp)

set_option maxHeartbeats 2000000 in
set_option maxRecDepth 100000 in
theorem slices_EqualLk (a b : Option Addr) (c d : Nat) (l m : List Lk) (w : World) (hl : Lq w a l) (hm : Lq w b m) (h5 : l.length ≤ 100000) :
    Calls Tryz.prog 82 #[.slice a l.length c, .slice b m.length d] w fun e w' => e = .returned (.bool (decide (l = m))) ∧ Kept w w' := by
  obtain ⟨r, hr⟩ : ∃ r, decide (l = m) = r := ⟨_, rfl⟩
  rw [hr]
  have HR := hidMk hr
  have HL := hidMk hl
  have HM := hidMk hm
  clear hr hl hm
  by_cases hlen : l.length = m.length
  · have hne : (((l.length : Int)) != (m.length : Int)) = false := by simp [hlen]
    go_enter Tryz.func82, Tryz.ntmps82
    have HLEN := hidMk hlen
    clear hlen
    go_wp2_with fail
    go_loopg [13] l.length (fun g x wr => ∃ (k q : Nat), k + g = l.length ∧ x = .int .i64 k ∧ wr = w.drewN q ∧ Hid (∀ j, j < k → lkA l j = lkA m j))
    case atStart => exact ⟨0, 0, by omega, rfl, rfl, hidMk fun j hj => absurd hj (by omega)⟩
    case round =>
      obtain ⟨k, q, hkg, rfl, hwr, HJ⟩ := hrel
      have HKG := hidMk hkg
      subst hwr
      by_cases hkn : k < l.length
      · obtain ⟨b1, o1, rfl⟩ := HL.out.form (by omega)
        obtain ⟨b2, o2, rfl⟩ := HM.out.form (by have := HLEN.out; omega)
        obtain ⟨e0, e1, e2, e3, e4, e5⟩ := HL.out.at hkn
        obtain ⟨f0, f1, f2, f3, f4, f5⟩ := HM.out.at (i := k) (by have := HLEN.out; omega)
        have hn2 : (k : Int) < (m.length : Int) := by have := HLEN.out; omega
        have hq := neqLk (lkA l k) (lkA m k)
        unfold lkV at hq
        clear hkg
        by_cases he : lkA l k = lkA m k
        · have HJ2 := hidMk (show ∀ j, j < k + 1 → lkA l j = lkA m j from fun j hj => by
            by_cases e : j = k
            · subst e; exact he
            · exact HJ.out j (by omega))
          rw [show decide (lkA l k = lkA m k) = true from decide_eq_true he] at hq
          clear he
          generalize lkA l k = x at *
          generalize lkA m k = y at *
          go_wp2_with fail
          go_quiet (fail)
          go_wp2_with fail
          go_roundg (gk - 1)
          case measure => have := HKG.out; omega
          case rel => exact ⟨k + 1, q + nq, by have := HKG.out; omega, by go_num, by first | rfl | simp, HJ2⟩
        · have HF := hidMk (show r = false by rw [← HR.out]; exact decide_eq_false fun e => he (by rw [e]))
          rw [show decide (lkA l k = lkA m k) = false from decide_eq_false he] at hq
          clear he
          generalize lkA l k = x at *
          generalize lkA m k = y at *
          go_wp2_with fail
          go_quiet (fail)
          go_wp2_with fail
          go_ret
          exact ⟨by rw [HF.out]; rfl, (((Kept.refl w).drewN q).drewN nq)⟩
      · have HF := hidMk (show r = true by rw [← HR.out]; exact decide_eq_true (lk_ext HLEN.out fun j hj => HJ.out j (by omega)))
        have hkk : ¬ ((k : Int) < (l.length : Int)) := by omega
        go_wp2_with fail
        go_ret
        exact ⟨by rw [HF.out]; rfl, ((Kept.refl w).drewN _)⟩
  · have HF := hidMk (show r = false by rw [← HR.out]; exact decide_eq_false fun e => hlen (by rw [e]))
    have hne : (((l.length : Int)) != (m.length : Int)) = true := by simp; omega
    clear hlen
    go_enter Tryz.func82, Tryz.ntmps82
    go_wp2_with fail
    go_ret
    exact ⟨by rw [HF.out]; rfl, Kept.refl _⟩
set_option maxHeartbeats 2000000 in
set_option maxRecDepth 100000 in
theorem ref14_Same (a b : Option Addr) (c d : Nat) (l m : List Lk) (w : World) (hl : Lq w a l) (hm : Lq w b m) (h5 : l.length ≤ 100000) :
    Calls Tryz.prog 31 #[.slice a l.length c, .slice b m.length d] w fun e w' => e = .returned (.bool (decide (l = m))) ∧ Kept w w' := by
  obtain ⟨r, hr⟩ : ∃ r, decide (l = m) = r := ⟨_, rfl⟩
  rw [hr]
  have HR := hidMk hr
  have HL := hidMk hl
  have HM := hidMk hm
  clear hr hl hm
  by_cases hlen : l.length = m.length
  · have hne : (((l.length : Int)) != (m.length : Int)) = false := by simp [hlen]
    go_enter Tryz.func31, Tryz.ntmps31
    have HLEN := hidMk hlen
    clear hlen
    go_wp2_with fail
    go_loopg [5] l.length (fun g x wr => ∃ (k q : Nat), k + g = l.length ∧ x = .int .i64 k ∧ wr = w.drewN q ∧ Hid (∀ j, j < k → lkA l j = lkA m j))
    case atStart => exact ⟨0, 0, by omega, rfl, rfl, hidMk fun j hj => absurd hj (by omega)⟩
    case round =>
      obtain ⟨k, q, hkg, rfl, hwr, HJ⟩ := hrel
      have HKG := hidMk hkg
      subst hwr
      by_cases hkn : k < l.length
      · obtain ⟨b1, o1, rfl⟩ := HL.out.form (by omega)
        obtain ⟨b2, o2, rfl⟩ := HM.out.form (by have := HLEN.out; omega)
        obtain ⟨e0, e1, e2, e3, e4, e5⟩ := HL.out.at hkn
        obtain ⟨f0, f1, f2, f3, f4, f5⟩ := HM.out.at (i := k) (by have := HLEN.out; omega)
        have hn2 : (k : Int) < (m.length : Int) := by have := HLEN.out; omega
        have hq := neqLk (lkA l k) (lkA m k)
        unfold lkV at hq
        clear hkg
        by_cases he : lkA l k = lkA m k
        · have HJ2 := hidMk (show ∀ j, j < k + 1 → lkA l j = lkA m j from fun j hj => by
            by_cases e : j = k
            · subst e; exact he
            · exact HJ.out j (by omega))
          rw [show decide (lkA l k = lkA m k) = true from decide_eq_true he] at hq
          clear he
          generalize lkA l k = x at *
          generalize lkA m k = y at *
          go_wp2_with fail
          go_quiet (fail)
          go_wp2_with fail
          go_roundg (gk - 1)
          case measure => have := HKG.out; omega
          case rel => exact ⟨k + 1, q + nq, by have := HKG.out; omega, by go_num, by first | rfl | simp, HJ2⟩
        · have HF := hidMk (show r = false by rw [← HR.out]; exact decide_eq_false fun e => he (by rw [e]))
          rw [show decide (lkA l k = lkA m k) = false from decide_eq_false he] at hq
          clear he
          generalize lkA l k = x at *
          generalize lkA m k = y at *
          go_wp2_with fail
          go_quiet (fail)
          go_wp2_with fail
          go_ret
          exact ⟨by rw [HF.out]; rfl, (((Kept.refl w).drewN q).drewN nq)⟩
      · have HF := hidMk (show r = true by rw [← HR.out]; exact decide_eq_true (lk_ext HLEN.out fun j hj => HJ.out j (by omega)))
        have hkk : ¬ ((k : Int) < (l.length : Int)) := by omega
        go_wp2_with fail
        go_ret
        exact ⟨by rw [HF.out]; rfl, ((Kept.refl w).drewN _)⟩
  · have HF := hidMk (show r = false by rw [← HR.out]; exact decide_eq_false fun e => hlen (by rw [e]))
    have hne : (((l.length : Int)) != (m.length : Int)) = true := by simp; omega
    clear hlen
    go_enter Tryz.func31, Tryz.ntmps31
    go_wp2_with fail
    go_ret
    exact ⟨by rw [HF.out]; rfl, Kept.refl _⟩
def lkOf (x : Pk) : Lk := (x.1, x.2.1)
theorem lkOf_take {l : List Pk} {k : Nat} (hk : k < l.length) : (l.take (k + 1)).map lkOf = (l.take k).map lkOf ++ [lkOf (pkA l k)] := by
  rw [take_nextPk hk, List.map_append]; rfl
set_option maxHeartbeats 2000000 in
set_option maxRecDepth 100000 in
theorem lock_List (a : Option Addr) (c : Nat) (l : List Pk) (w : World) (hs : Pq w a l) (hl : l.length ≤ 1000) : Calls Tryz.prog 32 #[hdV a l.length c] w fun e w' => ∃ v, e = .returned v ∧ OwnLk w' w.heap.size v (l.map lkOf) ∧ Kept w w' := by
  obtain ⟨W1, hW1⟩ : ∃ V, V = w.alloc (.cells #[.slice a l.length c] 66) := ⟨_, rfl⟩
  have k1 : Kept w W1 := by rw [hW1]; exact (Kept.refl w).alloc _
  have hs1 : W1.heap.size = w.heap.size + 1 := by rw [hW1]; simp
  have HS1 := hidMk hs1
  have HK1 := hidMk k1
  have hc := new_cell w #[.slice a l.length c] 66 _ 0 _ rfl rfl
  have HL := hidMk (hs.kept k1)
  clear hs k1 hs1
  unfold hdV
  go_enter Tryz.func32, Tryz.ntmps32
  go_wp2_with fail
  rw [← hW1]
  clear hW1 hc
  go_loopg [3, 9] l.length (fun g v i wr => ∃ k : Nat, k + g = l.length ∧ i = .int .i64 k ∧ Hid (OwnLk wr W1.heap.size v ((l.take k).map lkOf) ∧ Kept W1 wr))
  case atStart => exact ⟨0, by omega, rfl, hidMk ⟨by simpa using ownLk_nil _ _, Kept.refl _⟩⟩
  case round =>
    obtain ⟨k, hkg, rfl, HS⟩ := hrel
    have HKG := hidMk hkg
    by_cases hk : k < l.length
    · have hk' : (k : Int) < (l.length : Int) := by omega
      obtain ⟨b, o, rfl⟩ := HL.out.form (by omega)
      obtain ⟨e0, e1, e2, e3, e4, e5, e6⟩ := (HL.out.kept HS.out.2).at hk
      have HT := hidMk (lkOf_take hk)
      have hlk : ((l.take k).map lkOf).length ≤ 1000 := by simp; omega
      have hwr : W1.heap.size ≤ wr.heap.size := HS.out.2.size
      have HK := hidMk HS.out
      clear HS hkg
      generalize pkA l k = y at *
      generalize (l.take k).map lkOf = acc at *
      obtain ⟨y0, y1, y2, y3, y4, y5, y6⟩ := boxPk_at wr y 130 rfl _ (Kept.refl _)
      go_wp2_with (at_builtin; refine wpList_catLk _ rfl _ _ rfl W1.heap.size _ acc [lkOf y] rfl (HK.out.1.kept (((Kept.refl wr).alloc _).alloc _)) (by simp; omega) (some ⟨wr.heap.size + 1, 0, none⟩) 1 rfl (lq_box (wr.alloc (.cells #[.int .i64 y.1.1, .int .i64 y.1.2.1, .int .i64 y.1.2.2.1, .int .i64 y.1.2.2.2.1, .int .i64 y.1.2.2.2.2, .string y.2.1, .int .i64 y.2.2] 130)) (lkOf y) _ (by simp)) (fun e => (by cases e)) (by simp; omega) ?_)
      intro v5 w5 o5 k5
      have HO5 := hidMk o5
      have HK5 := hidMk (show Kept W1 w5 from k5.kept ((HK.out.2.alloc _).alloc _) (fun j hj => (HK.out.1.lt j hj).1))
      clear o5 k5
      go_wp2_with fail
      go_roundg (gk - 1)
      case measure => have := HKG.out; omega
      case rel => exact ⟨k + 1, by have := HKG.out; omega, by go_num, hidMk ⟨by rw [HT.out]; first | exact HO5.out | (rw [HS1.out]; exact HO5.out), HK5.out⟩⟩
    · have hk' : ¬ ((k : Int) < (l.length : Int)) := by omega
      rw [List.take_of_length_le (by omega)] at HS
      go_wp2_with fail
      go_ret
      exact ⟨_, rfl, HS.out.1.base (by have := HS1.out; omega), HK1.out.trans HS.out.2⟩
set_option maxHeartbeats 4000000 in
set_option maxRecDepth 100000 in
theorem lock_Same (a b : Option Addr) (c d : Nat) (l m : List Pk) (w : World) (hl : Pq w a l) (hm : Pq w b m) (h5 : l.length ≤ 1000) (h6 : m.length ≤ 1000) : Calls Tryz.prog 40 #[hdV a l.length c, hdV b m.length d] w fun e w' => e = .returned (.bool (decide (l.map lkOf = m.map lkOf))) ∧ Kept w w' := by
  obtain ⟨WA, hWA⟩ : ∃ V, V = w.alloc (.cells #[.slice a l.length c] 66) := ⟨_, rfl⟩
  obtain ⟨W1, hW1⟩ : ∃ V, V = WA.alloc (.cells #[.slice b m.length d] 66) := ⟨_, rfl⟩
  have kA : Kept w WA := by rw [hWA]; exact (Kept.refl _).alloc _
  have kB : Kept WA W1 := by rw [hW1]; exact (Kept.refl _).alloc _
  have zA : WA.heap.size = w.heap.size + 1 := by rw [hWA, World.size_alloc]
  have k1 := kA.trans kB
  have HK1 := hidMk k1
  have HY0 := hidMk (show ∀ Y, Kept W1 Y → Y.cell? ⟨w.heap.size, 0, none⟩ = some (.slice a l.length c) from fun Y k => k.cellp (kB.cellp (by rw [hWA]; exact new_cell _ _ _ _ 0 _ rfl rfl)))
  have HY1 := hidMk (show ∀ Y, Kept W1 Y → Y.cell? ⟨w.heap.size + 1, 0, none⟩ = some (.slice b m.length d) from fun Y k => k.cellp (by rw [hW1]; exact new_cell _ _ _ _ 0 _ zA.symm rfl))
  have HLA := hidMk (show ∀ Y, Kept W1 Y → _ from fun Y k => lock_List a c l Y (hl.kept (k1.trans k)) h5)
  have HLB := hidMk (show ∀ Y, Kept W1 Y → _ from fun Y k => lock_List b d m Y (hm.kept (k1.trans k)) h6)
  have HEQ := hidMk (show ∀ (Y : World) a' b' c' d', Lq Y a' (l.map lkOf) → Lq Y b' (m.map lkOf) → _ from fun Y a' b' c' d' h1 h2 => slices_EqualLk a' b' c' d' (l.map lkOf) (m.map lkOf) Y h1 h2 (by simp; omega))
  generalize decide (l.map lkOf = m.map lkOf) = z at *
  generalize l.map lkOf = L at *
  generalize m.map lkOf = M at *
  rw [hWA] at hW1
  clear hl hm k1 kA kB zA hWA
  unfold hdV at *
  go_enter Tryz.func40, Tryz.ntmps40
  go_upto_region 1 with fail
  rw [← hW1]
  clear hW1
  refine wp_region_held_drew (S := (fun w' => Kept W1 w')) (by kernel_rfl) ?_ (fun hHeld => ?_)
  · exact (Kept.refl W1).drew
  refine tkL 0 5 (v := ?_) rfl ?_ ?_
  rotate_left
  · (intro w9 hSw; have c0 := HY0.out w9 hSw; clear hSw; go_simp; (try with_reducible rfl))
  (try simp only [tkS])
  refine tkL 2 7 (v := ?_) rfl ?_ ?_
  rotate_left
  · (intro w9 hSw; have c0 := HY1.out w9 hSw; clear hSw; go_simp; (try with_reducible rfl))
  (try simp only [tkS])
  refine wpAnyH_ready (rs := [1]) (by kernel_rfl) (by simp) ?_
  refine AllReadyH.cons (o := ⟨some 6, _, _, _, _, _⟩) rfl (fun K hK => ?_) AllReadyH.nil
  go_simp
  refine (HLA.out _ hHeld).mono ?_
  rintro e wA ⟨v1, rfl, ho, kA⟩
  obtain ⟨a1, c1, hv, hq, _⟩ := ho.form
  subst hv
  have HQ1 := hidMk hq
  have HAA := hidMk (hHeld.trans kA)
  clear ho hq kA
  (try go_wp2_with fail)
  refine hK.out _ _ ?_ (fun hHeld => ?_)
  · exact HAA.out
  clear hK K
  (try simp only [tkS])
  refine wpAnyH_ready (rs := [3]) (by kernel_rfl) (by simp) ?_
  refine AllReadyH.cons (o := ⟨some 8, _, _, _, _, _⟩) rfl (fun K hK => ?_) AllReadyH.nil
  go_simp
  refine (HLB.out _ hHeld).mono ?_
  rintro e wA ⟨v2, rfl, ho, kA⟩
  obtain ⟨a2, c2, hv, hq, _⟩ := ho.form
  subst hv
  have HQ2 := hidMk hq
  have HAA := hidMk (hHeld.trans kA)
  have HR1 := hidMk kA
  clear ho hq kA
  (try go_wp2_with fail)
  refine hK.out _ _ ?_ (fun hHeld => ?_)
  · exact HAA.out
  clear hK K
  (try simp only [tkS])
  refine wpAnyH_ready (rs := [4]) (by kernel_rfl) (by simp) ?_
  refine AllReadyH.cons (o := ⟨some 9, _, _, _, _, _⟩) rfl (fun K hK => ?_) AllReadyH.nil
  go_simp
  refine (HEQ.out _ a1 a2 c1 c2 (HQ1.out.kept HR1.out) HQ2.out).mono ?_
  rintro e wA ⟨rfl, kA⟩
  have HAA := hidMk (hHeld.trans kA)
  clear kA
  (try go_wp2_with fail)
  refine hK.out _ _ ?_ (fun hHeld => ?_)
  · exact HAA.out
  clear hK K
  (try simp only [tkS])
  refine tkL 5 4 (v := ?_) rfl ?_ ?_
  rotate_left
  · (intro w9 hSw; clear hSw; go_simp; (try with_reducible rfl))
  (try simp only [tkS])
  refine wpAnyH_done (by kernel_rfl) ?_ _
  have HKF := hidMk hHeld
  clear hHeld
  go_wp2_with fail
  go_ret
  exact ⟨rfl, HK1.out.trans HKF.out⟩
def IfPk (w : World) (g : Pk → Bool) (l : List Pk) (e : Ending) (w' : World) : Prop := ∃ z : Int, e = .returned (.int .i64 z) ∧ ((∃ k : Nat, z = k ∧ k < l.length ∧ g (pkA l k) = true ∧ ∀ t, t < k → g (pkA l t) = false) ∨ (z = -1 ∧ ∀ t, t < l.length → g (pkA l t) = false)) ∧ Kept w w'
set_option maxHeartbeats 4000000 in
set_option maxRecDepth 100000 in
theorem slices_IfFind (a : Option Addr) (c : Nat) (l : List Pk) (g : Pk → Bool) (cb : Nat) (w : World) (hs : Pq w a l) (hl : l.length ≤ 100000)
    (hf : ∀ Y, Kept w Y → ∀ y, Calls Tryz.prog 112 #[pkV y, .pointer (some ⟨cb, 0, none⟩)] Y fun e w' => e = .returned (.bool (g y)) ∧ Kept Y w') :
    Calls Tryz.prog 111 #[.slice a l.length c, .func (.func 112) #[] #[.pointer (some ⟨cb, 0, none⟩)]] w (IfPk w g l) := by
  have HL := hidMk hs
  have HF := hidMk hf
  clear hs hf
  unfold pkV at *
  go_enter Tryz.func111, Tryz.ntmps111
  go_wp2_with fail
  go_loopg [8] (l.length + 1) (fun gg i wr => ∃ k : Nat, k + gg = l.length + 1 ∧ k ≤ l.length ∧ i = .int .i64 k ∧ Hid (Kept w wr ∧ ∀ t, t < k → g (pkA l t) = false))
  case atStart => exact ⟨0, by omega, by omega, rfl, hidMk ⟨Kept.refl _, fun t ht => absurd ht (by omega)⟩⟩
  case round =>
    obtain ⟨k, hkg, hkl, rfl, HS⟩ := hrel
    have HKG := hidMk hkg
    clear hkg
    by_cases hk : k < l.length
    · have hk' : (k : Int) < (l.length : Int) := by omega
      obtain ⟨b, o, rfl⟩ := HL.out.form (by omega)
      obtain ⟨e0, e1, e2, e3, e4, e5, e6⟩ := (HL.out.kept HS.out.1).at hk
      have HFF := hidMk (HF.out wr HS.out.1 (pkA l k))
      cases hgk : g (pkA l k) with
      | true =>
        rw [hgk] at HFF
        have HG := hidMk hgk
        clear hgk
        obtain ⟨y, hy⟩ : ∃ y, pkA l k = y := ⟨_, rfl⟩
        rw [hy] at e0 e1 e2 e3 e4 e5 e6 HFF
        clear hy
        go_wp2_with fail
        refine HFF.out.mono ?_
        rintro e w2 ⟨rfl, k2⟩
        have HK2 := hidMk k2
        clear k2
        go_wp2_with fail
        go_ret
        exact ⟨(k : Int), rfl, .inl ⟨k, rfl, hk, HG.out, HS.out.2⟩, HS.out.1.trans HK2.out⟩
      | false =>
        rw [hgk] at HFF
        have HJ := hidMk (show ∀ t, t < k + 1 → g (pkA l t) = false from fun t ht => by
          by_cases e : t = k
          · subst e; exact hgk
          · exact HS.out.2 t (by omega))
        have HK := hidMk HS.out.1
        clear hgk HS
        obtain ⟨y, hy⟩ : ∃ y, pkA l k = y := ⟨_, rfl⟩
        rw [hy] at e0 e1 e2 e3 e4 e5 e6 HFF
        clear hy
        go_wp2_with fail
        refine HFF.out.mono ?_
        rintro e w2 ⟨rfl, k2⟩
        have HK2 := hidMk k2
        clear k2 e0 e1 e2 e3 e4 e5 e6
        go_wp2_with fail
        go_roundg (gk - 1)
        case measure => have := HKG.out; omega
        case rel => exact ⟨k + 1, by have := HKG.out; omega, by omega, by go_num, hidMk ⟨HK.out.trans HK2.out, HJ.out⟩⟩
    · have hke : k = l.length := by omega
      have hk' : ¬ ((k : Int) < (l.length : Int)) := by omega
      go_wp2_with fail
      go_ret
      exact ⟨-1, rfl, .inr ⟨rfl, fun t ht => HS.out.2 t (by omega)⟩, HS.out.1⟩
set_option maxHeartbeats 4000000 in
set_option maxRecDepth 100000 in
theorem slices_IfWithin (a : Option Addr) (c : Nat) (l : List Pk) (g : Pk → Bool) (ub sb cb : Nat) (w : World) (hs : Pq w a l) (hl : l.length ≤ 100000)
    (hf : ∀ Y, Kept w Y → ∀ y, Calls Tryz.prog 81 #[pkV y, .pointer (some ⟨ub, 0, none⟩), .pointer (some ⟨sb, 0, none⟩), .pointer (some ⟨cb, 0, none⟩)] Y fun e w' => e = .returned (.bool (g y)) ∧ Kept Y w') :
    Calls Tryz.prog 111 #[.slice a l.length c, .func (.func 81) #[] #[.pointer (some ⟨ub, 0, none⟩), .pointer (some ⟨sb, 0, none⟩), .pointer (some ⟨cb, 0, none⟩)]] w (IfPk w g l) := by
  have HL := hidMk hs
  have HF := hidMk hf
  clear hs hf
  unfold pkV at *
  go_enter Tryz.func111, Tryz.ntmps111
  go_wp2_with fail
  go_loopg [8] (l.length + 1) (fun gg i wr => ∃ k : Nat, k + gg = l.length + 1 ∧ k ≤ l.length ∧ i = .int .i64 k ∧ Hid (Kept w wr ∧ ∀ t, t < k → g (pkA l t) = false))
  case atStart => exact ⟨0, by omega, by omega, rfl, hidMk ⟨Kept.refl _, fun t ht => absurd ht (by omega)⟩⟩
  case round =>
    obtain ⟨k, hkg, hkl, rfl, HS⟩ := hrel
    have HKG := hidMk hkg
    clear hkg
    by_cases hk : k < l.length
    · have hk' : (k : Int) < (l.length : Int) := by omega
      obtain ⟨b, o, rfl⟩ := HL.out.form (by omega)
      obtain ⟨e0, e1, e2, e3, e4, e5, e6⟩ := (HL.out.kept HS.out.1).at hk
      have HFF := hidMk (HF.out wr HS.out.1 (pkA l k))
      cases hgk : g (pkA l k) with
      | true =>
        rw [hgk] at HFF
        have HG := hidMk hgk
        clear hgk
        obtain ⟨y, hy⟩ : ∃ y, pkA l k = y := ⟨_, rfl⟩
        rw [hy] at e0 e1 e2 e3 e4 e5 e6 HFF
        clear hy
        go_wp2_with fail
        refine HFF.out.mono ?_
        rintro e w2 ⟨rfl, k2⟩
        have HK2 := hidMk k2
        clear k2
        go_wp2_with fail
        go_ret
        exact ⟨(k : Int), rfl, .inl ⟨k, rfl, hk, HG.out, HS.out.2⟩, HS.out.1.trans HK2.out⟩
      | false =>
        rw [hgk] at HFF
        have HJ := hidMk (show ∀ t, t < k + 1 → g (pkA l t) = false from fun t ht => by
          by_cases e : t = k
          · subst e; exact hgk
          · exact HS.out.2 t (by omega))
        have HK := hidMk HS.out.1
        clear hgk HS
        obtain ⟨y, hy⟩ : ∃ y, pkA l k = y := ⟨_, rfl⟩
        rw [hy] at e0 e1 e2 e3 e4 e5 e6 HFF
        clear hy
        go_wp2_with fail
        refine HFF.out.mono ?_
        rintro e w2 ⟨rfl, k2⟩
        have HK2 := hidMk k2
        clear k2 e0 e1 e2 e3 e4 e5 e6
        go_wp2_with fail
        go_roundg (gk - 1)
        case measure => have := HKG.out; omega
        case rel => exact ⟨k + 1, by have := HKG.out; omega, by omega, by go_num, hidMk ⟨HK.out.trans HK2.out, HJ.out⟩⟩
    · have hke : k = l.length := by omega
      have hk' : ¬ ((k : Int) < (l.length : Int)) := by omega
      go_wp2_with fail
      go_ret
      exact ⟨-1, rfl, .inr ⟨rfl, fun t ht => HS.out.2 t (by omega)⟩, HS.out.1⟩
theorem lfind_fn (x : Cl) (y : Pk) (cb : Nat) (w : World) (h0 : w.cell? ⟨cb, 0, none⟩ = some (.int .i64 x.1) ∧ w.cell? ⟨cb, 1, none⟩ = some (.int .i64 x.2.1) ∧ w.cell? ⟨cb, 2, none⟩ = some (.int .i64 x.2.2.1) ∧ w.cell? ⟨cb, 3, none⟩ = some (.int .i64 x.2.2.2.1) ∧ w.cell? ⟨cb, 4, none⟩ = some (.int .i64 x.2.2.2.2)) :
    Calls Tryz.prog 112 #[pkV y, .pointer (some ⟨cb, 0, none⟩)] w fun e w' => e = .returned (.bool (decide (y.1 = x))) ∧ Kept w w' := by
  obtain ⟨y0, y1, y2, y3, y4, y5, y6⟩ := boxPk_at w y 130 rfl _ (Kept.refl _)
  have kk := (Kept.refl w).alloc (.cells #[.int .i64 y.1.1, .int .i64 y.1.2.1, .int .i64 y.1.2.2.1, .int .i64 y.1.2.2.2.1, .int .i64 y.1.2.2.2.2, .string y.2.1, .int .i64 y.2.2] 130)
  have e0 := kk.cellp h0.1
  have e1 := kk.cellp h0.2.1
  have e2 := kk.cellp h0.2.2.1
  have e3 := kk.cellp h0.2.2.2.1
  have e4 := kk.cellp h0.2.2.2.2
  have hq := eqlC y.1 x
  have HK := hidMk kk
  generalize decide (y.1 = x) = z at *
  clear h0 kk
  unfold clV at hq
  unfold pkV
  go_enter Tryz.func112, Tryz.ntmps112
  go_wp2_with fail
  go_ret
  exact ⟨rfl, HK.out⟩
set_option maxHeartbeats 1000000 in
theorem lock_find (a : Option Addr) (c : Nat) (l : List Pk) (x : Cl) (w : World) (hs : Pq w a l) (hl : l.length ≤ 100000) : Calls Tryz.prog 69 #[hdV a l.length c, clV x] w (IfPk w (fun p => decide (p.1 = x)) l) := by
  obtain ⟨WA, hWA⟩ : ∃ V, V = w.alloc (.cells #[.slice a l.length c] 66) := ⟨_, rfl⟩
  obtain ⟨W1, hW1⟩ : ∃ V, V = WA.alloc (.cells #[.int .i64 x.1, .int .i64 x.2.1, .int .i64 x.2.2.1, .int .i64 x.2.2.2.1, .int .i64 x.2.2.2.2] 29) := ⟨_, rfl⟩
  have kA : Kept w WA := by rw [hWA]; exact (Kept.refl _).alloc _
  have kB : Kept WA W1 := by rw [hW1]; exact (Kept.refl _).alloc _
  have zA : WA.heap.size = w.heap.size + 1 := by rw [hWA, World.size_alloc]
  have k1 := kA.trans kB
  have HK1 := hidMk k1
  have y0 : W1.cell? ⟨w.heap.size, 0, none⟩ = some (.slice a l.length c) := kB.cellp (by rw [hWA]; exact new_cell _ _ _ _ 0 _ rfl rfl)
  have HI := hidMk (slices_IfFind a c l (fun p => decide (p.1 = x)) (w.heap.size + 1) W1 (hs.kept k1) hl (fun Y k y => lfind_fn x y _ Y (boxC_at WA x 29 zA.symm Y (by rw [← hW1]; exact k))))
  rw [hWA] at hW1
  rw [hW1] at y0
  clear hs k1 kA kB zA hWA
  unfold hdV clV at *
  go_enter Tryz.func69, Tryz.ntmps69
  go_wp2_with fail
  rw [← hW1]
  clear hW1 y0
  refine HI.out.mono ?_
  rintro e w2 ⟨z, rfl, hz, k2⟩
  have HK2 := hidMk k2
  have HZ := hidMk hz
  clear k2 hz
  go_wp2_with fail
  go_ret
  exact ⟨z, rfl, HZ.out, HK1.out.trans HK2.out⟩
def askE (ms : List ByteArray) (ds : List Dm) (x : Cl) (u : ByteArray) : Int := if nameB u = false then 3 else if ixC ms ds x < 0 then 17 else 0
section
variable {w : World} {s p : Nat} {ds : List Dm} {ms : List ByteArray} {tp : Nat → Nat} {rv : Nat → Option Addr × Nat}
set_option maxHeartbeats 1000000 in
theorem lsw_ask (h : SW w s p ds ms tp rv) (x : Cl) (u : ByteArray) (hu : u.size ≤ maxLen) : Calls Tryz.prog 68 #[.pointer (some ⟨s, 0, none⟩), clV x, .string u] w fun e w' => e = .returned (.int .i64 (askE ms ds x u)) ∧ Kept w w' := by
  obtain ⟨W1, hW1⟩ : ∃ V, V = w.alloc (.cells #[.int .i64 x.1, .int .i64 x.2.1, .int .i64 x.2.2.1, .int .i64 x.2.2.2.1, .int .i64 x.2.2.2.2] 29) := ⟨_, rfl⟩
  have k1 : Kept w W1 := by rw [hW1]; exact (Kept.refl w).alloc _
  have HK1 := hidMk k1
  obtain ⟨x0, x1, x2, x3, x4⟩ := boxC_at w x 29 rfl W1 (by rw [← hW1]; exact Kept.refl _)
  have HN := hidMk (text_Name u hu W1)
  have HI := hidMk (sw_IndexC (h.keep k1) x)
  unfold askE
  generalize ixC ms ds x = z at *
  obtain ⟨B, hB⟩ : ∃ B, nameB u = B := ⟨_, rfl⟩
  rw [hB] at HN ⊢
  clear h k1 hB
  unfold clV at *
  cases B with
  | false =>
    simp only [if_true]
    go_enter Tryz.func68, Tryz.ntmps68
    go_wp2_with fail
    rw [← hW1]
    clear hW1
    refine HN.out.mono ?_
    rintro e w2 ⟨rfl, hw2⟩
    rw [hw2]
    clear hw2
    go_wp2_with fail
    go_ret
    exact ⟨rfl, HK1.out⟩
  | true =>
    by_cases hz : z < 0
    · simp only [if_pos hz, Bool.true_eq_false, if_false]
      go_enter Tryz.func68, Tryz.ntmps68
      go_wp2_with fail
      rw [← hW1]
      clear hW1
      refine HN.out.mono ?_
      rintro e w2 ⟨rfl, hw2⟩
      rw [hw2]
      clear hw2
      go_wp2_with fail
      refine HI.out.mono ?_
      rintro e w2 ⟨rfl, k2⟩
      have HK2 := hidMk k2
      clear k2
      go_wp2_with fail
      go_ret
      exact ⟨rfl, HK1.out.trans HK2.out⟩
    · simp only [if_neg hz, Bool.true_eq_false, if_false]
      go_enter Tryz.func68, Tryz.ntmps68
      go_wp2_with fail
      rw [← hW1]
      clear hW1
      refine HN.out.mono ?_
      rintro e w2 ⟨rfl, hw2⟩
      rw [hw2]
      clear hw2
      go_wp2_with fail
      refine HI.out.mono ?_
      rintro e w2 ⟨rfl, k2⟩
      have HK2 := hidMk k2
      clear k2
      go_wp2_with fail
      go_ret
      exact ⟨rfl, HK1.out.trans HK2.out⟩
noncomputable def wiP (ms : List ByteArray) (ds : List Dm) (x : Cl) (u : ByteArray) (y : Lk) : Bool := (!decide (y.2 = u)) && wiC ms ds x y.1
set_option maxHeartbeats 2000000 in
theorem lock_wfn (h : SW w s p ds ms tp rv) (x : Cl) (u : ByteArray) (y : Pk) (ub sb cb : Nat) (hub : w.cell? ⟨ub, 0, none⟩ = some (.string u)) (hsb : w.cell? ⟨sb, 0, none⟩ = some (.pointer (some ⟨s, 0, none⟩)))
    (h0 : w.cell? ⟨cb, 0, none⟩ = some (.int .i64 x.1) ∧ w.cell? ⟨cb, 1, none⟩ = some (.int .i64 x.2.1) ∧ w.cell? ⟨cb, 2, none⟩ = some (.int .i64 x.2.2.1) ∧ w.cell? ⟨cb, 3, none⟩ = some (.int .i64 x.2.2.2.1) ∧ w.cell? ⟨cb, 4, none⟩ = some (.int .i64 x.2.2.2.2)) :
    Calls Tryz.prog 81 #[pkV y, .pointer (some ⟨ub, 0, none⟩), .pointer (some ⟨sb, 0, none⟩), .pointer (some ⟨cb, 0, none⟩)] w fun e w' => e = .returned (.bool (wiP ms ds x u (lkOf y))) ∧ Kept w w' := by
  obtain ⟨W1, hW1⟩ : ∃ V, V = w.alloc (.cells #[.int .i64 y.1.1, .int .i64 y.1.2.1, .int .i64 y.1.2.2.1, .int .i64 y.1.2.2.2.1, .int .i64 y.1.2.2.2.2, .string y.2.1, .int .i64 y.2.2] 130) := ⟨_, rfl⟩
  have k1 : Kept w W1 := by rw [hW1]; exact (Kept.refl w).alloc _
  have HK1 := hidMk k1
  obtain ⟨y0, y1, y2, y3, y4, y5, y6⟩ := boxPk_at w y 130 rfl W1 (by rw [← hW1]; exact Kept.refl _)
  have e0 := k1.cellp h0.1
  have e1 := k1.cellp h0.2.1
  have e2 := k1.cellp h0.2.2.1
  have e3 := k1.cellp h0.2.2.2.1
  have e4 := k1.cellp h0.2.2.2.2
  have e5 := k1.cellp hsb
  have e6 := k1.cellp hub
  have HI := hidMk (sw_WithinC (h.keep k1) x y.1)
  have hz : wiP ms ds x u (lkOf y) = ((!decide (y.2.1 = u)) && wiC ms ds x y.1) := rfl
  rw [hz]
  clear hz
  generalize wiC ms ds x y.1 = z at *
  clear h k1 h0 hsb hub
  unfold clV at *
  unfold pkV
  by_cases hu : y.2.1 = u
  · have hd : (!decide (y.2.1 = u)) = false := by simp [hu]
    have hn : (y.2.1.toList == u.toList) = true := by simp [hu]
    rw [hd]
    generalize y.2.1 = yu at *
    clear hu hd
    go_enter Tryz.func81, Tryz.ntmps81
    go_upto_region 1 with fail
    rw [← hW1]
    clear hW1
    go_wp2_with fail
    go_ret
    exact ⟨rfl, HK1.out⟩
  · have hd : (!decide (y.2.1 = u)) = true := by simp [hu]
    have hn := bytes_neD hu
    rw [hd, Bool.true_and]
    generalize y.2.1 = yu at *
    clear hu hd
    go_enter Tryz.func81, Tryz.ntmps81
    go_upto_region 1 with fail
    rw [← hW1]
    clear hW1
    go_wp2_with fail
    refine HI.out.mono ?_
    rintro e w2 ⟨rfl, k2⟩
    have HK2 := hidMk k2
    clear k2
    go_wp2_with fail
    go_ret
    exact ⟨rfl, HK1.out.trans HK2.out⟩
end
end Go.Proofs.YtmedgkccicbieaaGreat
