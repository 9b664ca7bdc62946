/- Rows of numbers that a history has: slices at any place of their blocks, all their cells there, none of them frozen; append, and slices.Insert ahead of all. -/
import Derived.Test.YtbikelbobanfbaaChgI
import Derived.Test.YtbikelbobanfbaaIntIns
import Derived.Deep.Upon
namespace Go.Proofs.Ytbikelbobanfbaa
open Go.RowKit Go.Maps
set_option linter.unusedSimpArgs false
set_option linter.unusedVariables false

/-- The block of a slice that has cells. -/
def Bk (a : Option Addr) (c : Nat) (b : Nat) : Prop := 0 < c ∧ ∃ ad, a = some ad ∧ ad.block = b
structure Ro (w : World) (a : Option Addr) (c : Nat) (l : List Int) : Prop where
  le : l.length ≤ c
  max : c ≤ maxLen
  cells : 0 < c → ∃ g o, a = some ⟨g, o, none⟩ ∧ g < w.heap.size ∧ (∀ j, j < l.length → w.cell? ⟨g, o + j, none⟩ = some (.int .i64 (l.getD j 0))) ∧ (∀ j, j < c → (w.cell? ⟨g, o + j, none⟩).isSome = true ∧ w.frozen? ⟨g, o + j, none⟩ = false)
theorem Ro.sl {w : World} {a : Option Addr} {c : Nat} {l : List Int} (h : Ro w a c l) : Sl .i64 w a l.length l :=
  ⟨rfl, Nat.le_trans h.le h.max, fun hp => by
    obtain ⟨g, o, h1, h2, h3, _⟩ := h.cells (Nat.lt_of_lt_of_le hp h.le)
    exact ⟨g, o, h1, h2, h3⟩⟩
theorem Ro.lt {w : World} {a : Option Addr} {c : Nat} {l : List Int} (h : Ro w a c l) : ∀ b, Bk a c b → b < w.heap.size := by
  rintro b ⟨hc, ad, rfl, rfl⟩
  obtain ⟨g, o, h1, h2, _⟩ := h.cells hc
  cases h1
  exact h2
theorem Ro.chg {S : Nat → Prop} {w w' : World} {a : Option Addr} {c : Nat} {l : List Int} (h : Ro w a c l) (k : Chg S w w') (hb : ∀ b, Bk a c b → ¬ S b) : Ro w' a c l :=
  ⟨h.le, h.max, fun hc => by
    obtain ⟨g, o, h1, h2, h3, h4⟩ := h.cells hc
    have hg : ¬ S g := hb g ⟨hc, _, h1, rfl⟩
    refine ⟨g, o, h1, Nat.lt_of_lt_of_le h2 k.size, fun j hj => ?_, fun j hj => ?_⟩
    · rw [k.cell (p := ⟨g, o + j, none⟩) h2 hg]; exact h3 j hj
    · rw [k.cell (p := ⟨g, o + j, none⟩) h2 hg, k.frozen (p := ⟨g, o + j, none⟩) h2 hg]; exact h4 j hj⟩
theorem Ro.kept {w w' : World} {a : Option Addr} {c : Nat} {l : List Int} (h : Ro w a c l) (k : Kept w w') : Ro w' a c l := h.chg (Chg.of_kept (S := fun _ => False) k) (fun _ _ e => e)
theorem ro_nil (w : World) : Ro w none 0 [] := ⟨Nat.le_refl _, Nat.zero_le _, fun h => absurd h (by omega)⟩
theorem ro_none (w : World) (a : Option Addr) : Ro w a 0 [] := ⟨Nat.le_refl _, Nat.zero_le _, fun h => absurd h (by omega)⟩
theorem not_bk_none (a : Option Addr) (b : Nat) : ¬ Bk a 0 b := fun h => absurd h.1 (by omega)
theorem not_bk_nil (c b : Nat) : ¬ Bk none c b := fun h => by obtain ⟨_, ad, h1, _⟩ := h; cases h1
/-- A part of a row, from k on, m of them, with no room behind. -/
theorem Ro.cut {w : World} {g o c : Nat} {l : List Int} (h : Ro w (some ⟨g, o, none⟩) c l) (k m : Nat) (hk : k + m ≤ l.length) : Ro w (some ⟨g, o + k, none⟩) m ((l.drop k).take m) := by
  have hle := h.le
  have hmx := h.max
  have hlen : ((l.drop k).take m).length = m := by simp; omega
  refine ⟨by omega, by omega, fun hm => ?_⟩
  obtain ⟨g', o', h1, h2, h3, h4⟩ := h.cells (by omega)
  cases h1
  refine ⟨g, o + k, rfl, h2, fun j hj => ?_, fun j hj => ?_⟩
  · rw [Nat.add_assoc, h3 (k + j) (by omega)]
    simp only [List.getD_eq_getElem?_getD]
    rw [List.getElem?_take_of_lt (by omega), List.getElem?_drop]
  · rw [Nat.add_assoc]; exact h4 (k + j) (by omega)
theorem Chg.setCells {S : Nat → Prop} {x : World} {g : Nat} (hg : S g ∨ x.heap.size ≤ g) : ∀ (vs : List Value) (o : Nat) {y : World}, Chg S x y → Chg S x (y.setCells g o vs)
  | [], _, _, h => h
  | v :: r, o, y, h => Chg.setCells hg r (o + 1) (h.setCell (p := ⟨g, o, none⟩) hg v)
theorem size_setCells (g : Nat) : ∀ (vs : List Value) (o : Nat) (w : World), (w.setCells g o vs).heap.size = w.heap.size
  | [], _, _ => rfl
  | v :: r, o, w => by rw [World.setCells, size_setCells g r (o + 1)]; simp [World.setCell]
theorem mapInt_get {l : List Int} {j : Nat} {v : Value} (h : (l.map (Value.int .i64))[j]? = some v) : j < l.length ∧ v = .int .i64 (l.getD j 0) := by
  have hj : j < l.length := by
    have := (List.getElem?_eq_some_iff.1 h).1
    simpa using this
  refine ⟨hj, ?_⟩
  rw [List.getElem?_map, List.getElem?_eq_getElem hj] at h
  simp at h
  rw [← h]
  simp [List.getD, List.getElem?_eq_getElem hj]
theorem mapInt_at {l : List Int} {j : Nat} (hj : j < l.length) : (l.map (Value.int .i64))[j]? = some (.int .i64 (l.getD j 0)) := by
  rw [List.getElem?_map, List.getElem?_eq_getElem hj]
  simp [List.getD, List.getElem?_eq_getElem hj]
/-- A new row: its numbers, then zeros. -/
theorem ro_new (w : World) (l : List Int) (k : Nat) (T : TypeId) (z : Array Value) (hz : z.size = k) (hm : l.length + k ≤ maxLen) : Ro (w.alloc (.cells ((l.map (Value.int .i64)).toArray ++ z) T)) (some ⟨w.heap.size, 0, none⟩) (l.length + k) l := by
  refine ⟨by omega, hm, fun _ => ⟨w.heap.size, 0, rfl, by simp, fun j hj => ?_, fun j hj => ?_⟩⟩
  · rw [Nat.zero_add, World.cell?_alloc_new, Array.getElem?_append_left (by simpa using hj)]
    simpa using mapInt_at hj
  · rw [Nat.zero_add, World.cell?_alloc_new, World.frozen?_alloc_new]
    refine ⟨?_, rfl⟩
    rw [Array.getElem?_eq_getElem (by simp; omega)]
    rfl
theorem zero_size (k : Nat) : (Builtin.zeroCells (Value.int .i64 0).cells k).size = k := by
  rw [size_zeroCells]
  show k * 1 = k
  omega
/-- A row with numbers put into its cells from place k on. -/
theorem Ro.put {w : World} {g o c : Nat} {l : List Int} (h : Ro w (some ⟨g, o, none⟩) c l) (k : Nat) (ys r : List Int) (hk : k + ys.length ≤ c) (hr : r.length ≤ c)
    (hget : ∀ j, j < r.length → (k ≤ j ∧ j < k + ys.length ∧ r.getD j 0 = ys.getD (j - k) 0) ∨ ((j < k ∨ k + ys.length ≤ j) ∧ j < l.length ∧ r.getD j 0 = l.getD j 0)) : Ro (w.setCells g (o + k) (ys.map (Value.int .i64))) (some ⟨g, o, none⟩) c r := by
  refine ⟨hr, h.max, fun hc => ?_⟩
  obtain ⟨g', o', h1, h2, h3, h4⟩ := h.cells hc
  cases h1
  have hin : ∀ j, j < (ys.map (Value.int .i64)).length → (w.cell? ⟨g, o + k + j, none⟩).isSome = true := fun j hj => by
    rw [Nat.add_assoc]; exact (h4 (k + j) (by simp at hj; omega)).1
  have hins : ∀ j, k ≤ j → j < k + ys.length → (w.setCells g (o + k) (ys.map (Value.int .i64))).cell? ⟨g, o + j, none⟩ = some (.int .i64 (ys.getD (j - k) 0)) := fun j h5 h6 => by
    have h7 := World.cell?_setCells_in g _ _ _ hin (j - k) (by simp; omega)
    rw [show o + k + (j - k) = o + j by omega] at h7
    rw [h7, List.getElem_map]
    simp [List.getD, List.getElem?_eq_getElem (show j - k < ys.length by omega)]
  have hout : ∀ j, (j < k ∨ k + ys.length ≤ j) → (w.setCells g (o + k) (ys.map (Value.int .i64))).cell? ⟨g, o + j, none⟩ = w.cell? ⟨g, o + j, none⟩ := fun j h5 =>
    World.cell?_setCells_out g _ _ _ _ (fun _ _ => by show o + j < o + k ∨ o + k + _ ≤ o + j; simp; omega)
  refine ⟨g, o, rfl, by rw [size_setCells]; exact h2, fun j hj => ?_, fun j hj => ?_⟩
  · rcases hget j hj with ⟨h5, h6, h7⟩ | ⟨h5, h6, h7⟩
    · rw [hins j h5 h6, h7]
    · rw [hout j h5, h3 j h6, h7]
  · rw [World.frozen?_setCells]
    refine ⟨?_, (h4 j hj).2⟩
    by_cases h5 : k ≤ j ∧ j < k + ys.length
    · rw [hins j h5.1 h5.2]; rfl
    · rw [hout j (by omega)]; exact (h4 j hj).1
theorem getD_app (l m : List Int) (j : Nat) : (l ++ m).getD j 0 = if j < l.length then l.getD j 0 else m.getD (j - l.length) 0 := by
  simp only [List.getD_eq_getElem?_getD]
  split
  · rw [List.getElem?_append_left (by assumption)]
  · rw [List.getElem?_append_right (by omega)]
theorem src_sl {w : World} {a : Option Addr} {c : Nat} {l : List Int} (h : Sl .i64 w a l.length l) : Src Try.prog 1 31 (.slice a l.length c) l.length (l.map (Value.int .i64)) w := by
  cases a with
  | some ad => exact Src.ofSlice w Try.underlying31 ad l.length c _ (by simp) (sl_newsI h rfl) (ints_one l)
  | none =>
    have hn : l = [] := by
      by_cases hp : 0 < l.length
      · obtain ⟨b, o, e, _⟩ := h.cells hp
        cases e
      · exact List.eq_nil_of_length_eq_zero (by omega)
    subst hn
    exact Src.ofNil w Try.underlying31 c
/-- Numbers behind a row. -/
theorem run_pushRo (w : World) (ty : TypeId) (a : Option Addr) (c : Nat) (l : List Int) (h : Ro w a c l) (xv : Value) (ys : List Int) (hs : Src Try.prog 1 31 xv ys.length (ys.map (Value.int .i64)) w)
    (hbig : (l.length + ys.length) * 8 ≤ 140737488355328) : ∃ a' c' w', (Builtin.append_ #[31, 31] ty #[.slice a l.length c, xv]).run Try.prog w = .ok (.slice a' (l.length + ys.length) c') w' ∧ Ro w' a' c' (l ++ ys) ∧ Chg (Bk a c) w w' ∧ (∀ b, Bk a' c' b → Bk a c b ∨ w.heap.size ≤ b) := by
  obtain ⟨i0, hi0, hz0, hz1, hz2⟩ := iinfo
  have hle := h.le
  rw [← hz1] at hs
  by_cases hm : ys = []
  · subst hm
    refine ⟨a, c, w, run_append_nothing w 31 31 ty 3 i0 Try.underlying31 hi0 a l.length c hle xv hs, by simpa using h, Chg.refl _ _, fun b hb => .inl hb⟩
  by_cases hr : l.length + ys.length ≤ c
  · have hyl : 0 < ys.length := by
      rcases Nat.eq_zero_or_pos ys.length with e | e
      · exact absurd (List.eq_nil_of_length_eq_zero e) hm
      · exact e
    obtain ⟨g, o, rfl, hg, hcs, hsp⟩ := h.cells (by omega)
    have hrun := run_append_room_src (P := Try.prog) w 31 31 ty 3 i0 Try.underlying31 hi0 g o l.length c xv ys.length (ys.map (Value.int .i64)) hs hr
      (fun j hj => by rw [hz1, Nat.mul_one, Nat.add_assoc]; exact (hsp _ (by simp at hj; omega)).1) (fun j hj => by rw [hz1, Nat.mul_one, Nat.add_assoc]; exact (hsp _ (by simp at hj; omega)).2)
    rw [hz1, Nat.mul_one] at hrun
    refine ⟨_, _, _, hrun, h.put l.length ys _ hr (by simp; omega) (fun j hj => ?_), (Chg.refl _ w).setCells (.inl ⟨by omega, _, rfl, rfl⟩) _ _, fun b hb => .inl hb⟩
    rw [getD_app]
    simp at hj
    by_cases hjl : j < l.length
    · rw [if_pos hjl]; exact .inr ⟨.inl hjl, hjl, rfl⟩
    · rw [if_neg hjl]; exact .inl ⟨by omega, hj, rfl⟩
  · have hold : (Builtin.firstCells i0.size l.length (.slice a l.length c)).run Try.prog w.drew = .ok (l.map (Value.int .i64)).toArray w.drew := by
      rw [hz1]
      have hsl := src_sl (c := c) h.sl
      exact hsl.cellsD
    have hrun := run_append_grow_src (P := Try.prog) w 31 31 ty 3 i0 (.int .i64 0) Try.underlying31 hi0 hz0 a l.length c _ hold xv ys.length _ hs (by omega) (by omega) (by rw [hz2]; exact growslice_fits (by omega) hbig)
    rw [← List.map_append] at hrun
    have hge := grownCap_ge w (l.length + ys.length) c 3
    have hmx := grownCap_le_maxLen w (l.length + ys.length) c 3 (by unfold maxLen; omega)
    have hro := ro_new w.drew (l ++ ys) (grownCap w (l.length + ys.length) c 3 - (l.length + ys.length)) 3 _ (zero_size _) (by simp; omega)
    rw [show (l ++ ys).length + (grownCap w (l.length + ys.length) c 3 - (l.length + ys.length)) = grownCap w (l.length + ys.length) c 3 by simp; omega] at hro
    refine ⟨_, _, _, hrun, hro, ((Chg.refl _ w).drew).alloc _, ?_⟩
    rintro b ⟨_, ad, h1, rfl⟩
    cases h1
    exact .inr (Nat.le_refl _)
theorem step_pushRo {ops : Array Oper} {o : Oper} {a : Act} {K : Act → World → Prop} {Q : Exit → Act → World → Prop} {E : Prop} (w : World) (hgd : o.guard = none) (s x : Operand)
    (ho : o.op = .call { callee := .builtin .append, args := #[s, x], argTypes := #[31, 31] })
    (pa : Option Addr) (c : Nat) (l : List Int) (hs : a.eval s = .slice pa l.length c) (h : Ro w pa c l) (g : Nat) (y : Int) (hx : a.eval x = .slice (some ⟨g, 0, none⟩) 1 1) (hcell : w.cell? ⟨g, 0, none⟩ = some (.int .i64 y))
    (hbig : (l.length + 1) * 8 ≤ 140737488355328)
    (hK : ∀ a' c' w', Ro w' a' c' (l ++ [y]) → Chg (Bk pa c) w w' → (∀ b, Bk a' c' b → Bk pa c b ∨ w.heap.size ≤ b) → K (a.put o.dst (.slice a' (l.length + 1) c')) w') :
    if Region.wanted o (yielded ops a.tmps) = true then Oper.wp Try.prog o a w K Q else E := by
  have hsrc : Src Try.prog 1 31 (.slice (some ⟨g, 0, none⟩) 1 1) [y].length ([y].map (Value.int .i64)) w := Src.ofSlice w Try.underlying31 ⟨g, 0, none⟩ 1 1 _ (by simp) (cell_news hcell) (ints_one [y])
  obtain ⟨a', c', w', hrun, h1, h2, h3⟩ := run_pushRo w o.type pa c l h _ [y] hsrc (by simpa using hbig)
  have hw : Region.wanted o (yielded ops a.tmps) = true := by simp [Region.wanted, hgd]
  rw [if_pos hw]
  unfold Oper.wp
  simp only [List.length_singleton] at hrun
  simp [execOp, ho, resolve, invoke, builtin, hs, hx, hrun, Result.andThen]
  exact hK a' c' w' h1 h2 h3
theorem wpList_pushRo {ops : Array Oper} {rest : List Oper} {o : Oper} {a : Act} {Q : Exit → Act → World → Prop} (w : World) (hgd : o.guard = none) (s x : Operand)
    (ho : o.op = .call { callee := .builtin .append, args := #[s, x], argTypes := #[31, 31] })
    (pa : Option Addr) (c : Nat) (l : List Int) (hs : a.eval s = .slice pa l.length c) (h : Ro w pa c l) (xv : Value) (ys : List Int) (hx : a.eval x = xv) (hsrc : Src Try.prog 1 31 xv ys.length (ys.map (Value.int .i64)) w)
    (hbig : (l.length + ys.length) * 8 ≤ 140737488355328)
    (hK : ∀ a' c' w', Ro w' a' c' (l ++ ys) → Chg (Bk pa c) w w' → (∀ b, Bk a' c' b → Bk pa c b ∨ w.heap.size ≤ b) → wpList Try.prog ops Q rest (a.put o.dst (.slice a' (l.length + ys.length) c')) w') : wpList Try.prog ops Q (o :: rest) a w := by
  obtain ⟨a', c', w', hrun, h1, h2, h3⟩ := run_pushRo w o.type pa c l h _ ys hsrc hbig
  refine wpList_plain hgd fun K hK' => ?_
  unfold Oper.wp
  simp [execOp, ho, resolve, invoke, builtin, hs, hx, hrun, Result.andThen]
  exact hK' _ _ (hK a' c' w' h1 h2 h3)
theorem src_one {w : World} {g : Nat} {y : Int} (hcell : w.cell? ⟨g, 0, none⟩ = some (.int .i64 y)) : Src Try.prog 1 31 (.slice (some ⟨g, 0, none⟩) 1 1) [y].length ([y].map (Value.int .i64)) w :=
  Src.ofSlice w Try.underlying31 ⟨g, 0, none⟩ 1 1 _ (by simp) (cell_news hcell) (ints_one [y])
/-- What slices.Insert of one number ahead of a row gives. -/
def InsP (w : World) (a : Option Addr) (c : Nat) (l : List Int) (y : Int) (e : Ending) (w' : World) : Prop :=
  ∃ a' c', e = .returned (.slice a' (l.length + 1) c') ∧ Ro w' a' c' (y :: l) ∧ Chg (Bk a c) w w' ∧ (∀ b, Bk a' c' b → Bk a c b ∨ w.heap.size ≤ b)
theorem one_get {g : Nat} {w : World} {y : Int} (hy : w.cell? ⟨g, 0, none⟩ = some (.int .i64 y)) : ∀ j v, [Value.int .i64 y][j]? = some v → w.cell? ⟨g, 0 + j, none⟩ = some v := fun j v hj => by
  have := cell_news hy j v hj
  rwa [Addr.add_lit] at this
theorem one_one (y : Int) : ∀ v ∈ [Value.int .i64 y], v.oneCell' = true := by intro v hv; simp at hv; subst hv; rfl
theorem slices_Ins0 (a : Option Addr) (c : Nat) (l : List Int) (vb : Nat) (y : Int) (w : World) (h : Ro w a c l) (hy : w.cell? ⟨vb, 0, none⟩ = some (.int .i64 y)) (hap : ¬ Bk a c vb) (hsh : w.shape? vb = some (3, 1)) (hf : ∀ j, w.frozen? ⟨vb, j, none⟩ = false) (hl : l.length ≤ 1000) :
    Calls Try.prog 26 #[.slice a l.length c, .int .i64 0, .slice (some ⟨vb, 0, none⟩) 1 1] w (InsP w a c l y) := by
  have hle := h.le
  have hmx := h.max
  by_cases hl0 : l = []
  · subst hl0
    by_cases hc : 0 < c
    · obtain ⟨g, o, rfl, hg, hcs, hsp⟩ := h.cells hc
      refine (Any2.slices_Insert_int_end_room Try.insI g o 0 c vb 0 1 1 [.int .i64 y] w (by omega) (by omega) (by unfold maxLen at hmx; omega) rfl (fun j hj => (hsp j (by omega)).1) (fun j hj => (hsp j (by omega)).2) (one_get hy) (one_one y)).mono ?_
      rintro e w' ⟨rfl, rfl⟩
      refine ⟨_, _, rfl, ?_, (Chg.refl _ w).setCells (.inl ⟨hc, _, rfl, rfl⟩) _ _, fun b hb => .inl hb⟩
      exact h.put 0 [y] [y] (by simp; omega) (by simp; omega) (fun j hj => .inl ⟨by omega, by simpa using hj, rfl⟩)
    · have hc0 : c = 0 := by omega
      subst hc0
      refine (Any2.slices_Insert_int_end_grow Try.insI a 0 0 vb 0 1 1 [] [.int .i64 y] w (by omega) (by omega) (by omega) (by omega) rfl rfl (fun _ => rfl) (fun _ _ j v hj => by simp at hj) (one_get hy) (one_one y)).mono ?_
      rintro e w' ⟨rfl, rfl⟩
      have hge := grownCap_ge w 1 0 3
      have hm2 := grownCap_le_maxLen w 1 0 3 (by unfold maxLen; omega)
      have hro := ro_new w.drew [y] (grownCap w 1 0 3 - 1) 3 _ (zero_size _) (by simp; omega)
      rw [show [y].length + (grownCap w 1 0 3 - 1) = grownCap w 1 0 3 by simp; omega] at hro
      refine ⟨_, _, rfl, hro, ((Chg.refl _ w).drew).alloc _, ?_⟩
      rintro b ⟨_, ad, h1, rfl⟩
      cases h1
      exact .inr (Nat.le_refl _)
  · have hlp : 0 < l.length := by
      rcases Nat.eq_zero_or_pos l.length with e | e
      · exact absurd (List.eq_nil_of_length_eq_zero e) hl0
      · exact e
    obtain ⟨g, o, rfl, hg, hcs, hsp⟩ := h.cells (by omega)
    have hcs' : ∀ j v, (l.map (Value.int .i64))[j]? = some v → w.cell? ⟨g, o + j, none⟩ = some v := fun j v hj => by
      obtain ⟨h1, rfl⟩ := mapInt_get hj
      exact hcs j h1
    have hvg : vb ≠ g := fun e => hap ⟨by omega, _, rfl, e.symm⟩
    have hget : ∀ j, j < (y :: l).length → (y :: l).getD j 0 = if j = 0 then y else l.getD (j - 1) 0 := fun j hj => by cases j <;> simp
    by_cases hr : l.length + 1 ≤ c
    · obtain ⟨tB, kB, hsb, hoff, _⟩ := World.shape?_of_cell? (hcs 0 hlp)
      refine (Any2.slices_Insert_int_shift Try.insI g o l.length c 0 vb 0 1 1 (l.map (Value.int .i64)) [.int .i64 y] w hlp (by omega) hr (by unfold maxLen at hmx; omega) hvg (by simp) rfl hcs' (fun j hj => (hsp j (by omega)).1) (fun j hj => (hsp j (by omega)).2) (one_get hy) (ints_one l) (one_one y) 3 tB 1 kB hsh hsb (by omega) (hf _) (hf _)).mono ?_
      rintro e w' ⟨rfl, rfl⟩
      refine ⟨_, _, rfl, ?_, ((((Chg.refl _ w).drew).setCells (.inl ⟨by omega, _, rfl, rfl⟩) _ _)).setCells (.inl ⟨by omega, _, rfl, rfl⟩) _ _, fun b hb => .inl hb⟩
      have p1 := (h.kept ((Kept.refl w).drew)).put 1 l (l.getD 0 0 :: l) (by omega) (by simp; omega) (fun j hj => by
        by_cases hj0 : j = 0
        · subst hj0; exact .inr ⟨.inl (by omega), hlp, rfl⟩
        · simp at hj
          refine .inl ⟨by omega, by omega, ?_⟩
          cases j with
          | zero => exact absurd rfl hj0
          | succ j => simp)
      exact p1.put 0 [y] (y :: l) (by simp; omega) (by simp; omega) (fun j hj => by
        simp at hj
        by_cases hj0 : j = 0
        · subst hj0; exact .inl ⟨by omega, by simp, rfl⟩
        · refine .inr ⟨.inr (by simp; omega), by simp; omega, ?_⟩
          cases j with
          | zero => exact absurd rfl hj0
          | succ j => simp)
    · refine (Any2.slices_Insert_int_grow Try.insI g o l.length c 0 vb 0 1 1 (l.map (Value.int .i64)) [.int .i64 y] w hlp (by omega) hle (by omega) (by omega) (by simp) rfl hcs' (one_get hy) (ints_one l) (one_one y)).mono ?_
      rintro e w' ⟨rfl, rfl⟩
      have hge := grownCap_ge w (l.length + 1) c 3
      have hm2 := grownCap_le_maxLen w (l.length + 1) c 3 (by unfold maxLen; omega)
      refine ⟨_, _, rfl, ?_, ((((((Chg.refl _ w).alloc _).drew).setCells (.inr (Nat.le_refl _)) _ _)).drew).setCells (.inr (Nat.le_refl _)) _ _, ?_⟩
      · have p0 : Ro (w.alloc (.cells (((l.map (Value.int .i64)).take 0).toArray ++ Builtin.zeroCells (Value.int .i64 0).cells (l.length + 1 - 0) ++ Builtin.zeroCells (Value.int .i64 0).cells (grownCap w (l.length + 1) c 3 - (l.length + 1))) 3)) (some ⟨w.heap.size, 0, none⟩) (grownCap w (l.length + 1) c 3) [] := by
          have q := ro_new w [] (grownCap w (l.length + 1) c 3) 3 (Builtin.zeroCells (Value.int .i64 0).cells (l.length + 1 - 0) ++ Builtin.zeroCells (Value.int .i64 0).cells (grownCap w (l.length + 1) c 3 - (l.length + 1))) (by rw [Array.size_append, zero_size, zero_size]; omega) (by simp; omega)
          simpa [← Array.append_assoc] using q
        have p1 := (p0.kept ((Kept.refl _).drew)).put 0 [y] [y] (by simp; omega) (by simp; omega) (fun j hj => .inl ⟨by omega, by simpa using hj, rfl⟩)
        have p2 := (p1.kept ((Kept.refl _).drew)).put 1 l (y :: l) (by omega) (by simp; omega) (fun j hj => by
          simp at hj
          by_cases hj0 : j = 0
          · subst hj0; exact .inr ⟨.inl (by omega), by simp, rfl⟩
          · refine .inl ⟨by omega, by omega, ?_⟩
            cases j with
            | zero => exact absurd rfl hj0
            | succ j => simp)
        simpa [show Try.insI_ren.t 3 = 3 from rfl] using p2
      · rintro b ⟨_, ad, h1, rfl⟩
        cases h1
        exact .inr (Nat.le_refl _)
end Go.Proofs.Ytbikelbobanfbaa
