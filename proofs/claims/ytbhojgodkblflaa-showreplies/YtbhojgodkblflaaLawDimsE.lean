/- Facts of catalogues that can be. · For DimsMakes: each name of a catalogue that can be leads to its place. · '==' of two cells. -/
import Derived.Test.YtbhojgodkblflaaLawDims2
namespace Go.Proofs.Ytbhojgodkblflaa
open Go.RowKit Go.Maps
set_option linter.unusedSimpArgs false
set_option linter.unusedVariables false

theorem add_one {ds : List Dm} {k : Nat} {e e' : Int} (h : AddOk ds k e) (h' : AddOk ds k e') : e = e' := by
  rcases h with ⟨h1, h2⟩ | ⟨h1, h2, h3⟩ | ⟨h1, h2, a, h3⟩ <;> rcases h' with ⟨g1, g2⟩ | ⟨g1, g2, g3⟩ | ⟨g1, g2, a', g3⟩
  · omega
  · rw [h1] at g1; cases g1
  · rw [h1] at g1; cases g1
  · rw [h1] at g1; cases g1
  · omega
  · exact absurd g2 h2
  · rw [h1] at g1; cases g1
  · exact absurd h2 g2
  · exact (newIs_one h3 g3).2
theorem check_one {ms : List ByteArray} {ds : List Dm} {lv sc e e' : Int} (h : CheckIs ms ds lv sc e) (h' : CheckIs ms ds lv sc e') : e = e' := by
  rcases h with ⟨i, h1, h2, h3, h4⟩ | ⟨h1, h2⟩ <;> rcases h' with ⟨i', g1, g2, g3, g4⟩ | ⟨g1, g2⟩
  · have : i = i' := by
      rcases Nat.lt_trichotomy i i' with c | c | c
      · exact absurd (g3 i c) h2
      · exact c
      · exact absurd (h3 i' c) g2
    subst this
    omega
  · exact absurd (g1 i h1) h2
  · exact absurd (h1 i' g1) g2
  · omega
theorem cat_one {ds : List Dm} {ms : List ByteArray} {lv sc a e a' e' : Int} (h : CatIs ds ms lv sc a e) (h' : CatIs ds ms lv sc a' e') : a = a' ∧ e = e' := by
  rcases h with ⟨h1, h2, h3⟩ | ⟨h1, ⟨k, k1, k2, k3, k4, k5⟩ | ⟨l1, l2, l3⟩⟩ <;> rcases h' with ⟨g1, g2, g3⟩ | ⟨g1, ⟨k', q1, q2, q3, q4, q5⟩ | ⟨m1, m2, m3⟩⟩
  · omega
  · exact absurd g1 h1
  · exact absurd g1 h1
  · exact absurd h1 g1
  · have : k = k' := by
      rcases Nat.lt_trichotomy k k' with c | c | c
      · exact absurd (add_one k2 (q4 k c)) k3
      · exact c
      · exact absurd (add_one q2 (k4 k' c)) q3
    subst this
    exact ⟨by omega, add_one k2 q2⟩
  · exact absurd (add_one k2 (m1 k k1)) k3
  · exact absurd h1 g1
  · exact absurd (add_one q2 (l1 k' q1)) q3
  · have := check_one l2 m2
    subst this
    exact ⟨by rw [l3, m3], rfl⟩
theorem cell_one {ms : List ByteArray} {ds : List Dm} {s : ByteArray} {xs : List ByteArray} {r r' : Value} {e e' : Int} (h : CellIs ms ds s xs r e) (h' : CellIs ms ds s xs r' e') : r = r' ∧ e = e' := by
  rcases h with ⟨h1, h2, h3⟩ | ⟨h1, h2, h3, h4⟩ | ⟨h1, h2, ⟨k, h3, h4⟩, h5, h6⟩ | ⟨h1, h2, h3, h4, h5⟩ <;> rcases h' with ⟨g1, g2, g3⟩ | ⟨g1, g2, g3, g4⟩ | ⟨g1, g2, ⟨k', g3, g4⟩, g5, g6⟩ | ⟨g1, g2, g3, g4, g5⟩ <;> (first | (subst_vars; exact ⟨rfl, rfl⟩) | exact absurd h1 g1 | exact absurd g1 h1 | exact absurd h2 g2 | exact absurd g2 h2 | exact absurd h4 (g3 _ h3) | exact absurd g4 (h3 _ g3))
/-- A catalogue that can be. -/
structure CatOk (ds : List Dm) (ms : List ByteArray) : Prop where
  d1 : 1 ≤ ds.length
  d4 : ds.length ≤ 4
  m1 : 1 ≤ ms.length
  m4 : ms.length ≤ 4
  add : ∀ j, j < ds.length → AddOk ds j 0
  meas : ∀ j, j < ms.length → measE ms j = 0
theorem cat_ok {ds : List Dm} {ms : List ByteArray} {lv sc a : Int} (h : CatIs ds ms lv sc a 0) : CatOk ds ms := by
  rcases h with ⟨_, _, h3⟩ | ⟨h1, ⟨k, k1, k2, k3, k4, k5⟩ | ⟨l1, ⟨i, _, l2, _, l3⟩ | ⟨l2, _⟩, l3⟩⟩
  · omega
  · exact absurd rfl k3
  · exact absurd l3.symm l2
  · exact ⟨h1.1, h1.2.1, h1.2.2.1, h1.2.2.2, l1, l2⟩
theorem name_12 {s : ByteArray} (h : nameB s = true) : s.size ≤ 12 := by
  unfold nameB at h
  simp only [Bool.and_eq_true, decide_eq_true_eq] at h
  exact h.1.1.2
theorem meas_name {ms : List ByteArray} {i : Nat} (h : measE ms i = 0) : nameB (msA ms i) = true ∧ (i : Int) ≤ idxI ms (msA ms i) := by
  unfold measE at h
  by_cases c : nameB (msA ms i) = true
  · rw [if_pos c] at h
    refine ⟨c, ?_⟩
    by_cases d : idxI ms (msA ms i) < i
    · rw [if_pos d] at h; omega
    · omega
  · rw [if_neg c] at h; omega
theorem CatOk.mname {ds : List Dm} {ms : List ByteArray} (h : CatOk ds ms) (i : Nat) : (msA ms i).size ≤ 12 := by
  by_cases c : i < ms.length
  · exact name_12 (meas_name (h.meas i c)).1
  · have : msA ms i = ByteArray.empty := by unfold msA; rw [List.getD_eq_getElem?_getD, List.getElem?_eq_none (by omega)]; rfl
    rw [this]; decide
theorem CatOk.midx {ds : List Dm} {ms : List ByteArray} (h : CatOk ds ms) {i : Nat} (hi : i < ms.length) : idxI ms (msA ms i) = i := by
  have h1 := (meas_name (h.meas i hi)).2
  have h2 : idxS ms (msA ms i) ≤ i := idxS_le hi rfl
  have e1 : idxI ms (msA ms i) = idxS ms (msA ms i) := if_pos (by omega)
  omega
theorem good_name {l : List Nd} (h : Good l) (i : Nat) (hi : i < l.length) : nameB (nmA l i) = true ∧ fstN l (nmA l i) = i := by
  have h0 := h 0 (by omega) i hi
  have h1 := h 1 (by omega) i hi
  rw [chk_0] at h0
  rw [chk_1] at h1
  constructor
  · by_cases c : nameB (nmA l i) = true
    · exact c
    · rw [if_neg c] at h0; omega
  · by_cases c : fstN l (nmA l i) = i
    · exact c
    · rw [if_neg c] at h1; omega
theorem good_nmI {l : List Nd} (h : Good l) (i : Int) : (nmI l i).size ≤ 12 := by
  unfold nmI
  by_cases c : isP l i
  · rw [if_pos c]
    exact name_12 (good_name h _ (by unfold isP at c; omega)).1
  · rw [if_neg c]; decide
theorem CatOk.nmk {ds : List Dm} {ms : List ByteArray} (h : CatOk ds ms) (at_ : Nat → Int) (k : Nat) (hk : k < ds.length) : (nmK ds at_ k).size ≤ 12 := good_nmI (add_good (h.add k hk)).1 _
theorem CatOk.show_le {ds : List Dm} {ms : List ByteArray} (h : CatOk ds ms) (cm : Int) (at_ : Nat → Int) (k : Nat) (hk : k ≤ ds.length) : ∀ x, x ∈ showL ms ds cm at_ k → x.size ≤ 12 := by
  intro x hx
  unfold showL at hx
  rcases List.mem_cons.1 hx with rfl | hx
  · exact h.mname _
  · obtain ⟨j, hj, rfl⟩ := List.mem_map.1 hx
    exact h.nmk at_ j (by have := List.mem_range.1 hj; omega)
theorem inter_le (sep : List UInt8) : ∀ xs : List ByteArray, (∀ x, x ∈ xs → x.size ≤ 12) → (sep.intercalate (datas xs)).length ≤ xs.length * (12 + sep.length) := by
  intro xs
  induction xs with
  | nil => intro _; simp [datas, List.intercalate]
  | cons x r ih =>
    intro h
    have hx := h x (List.mem_cons_self ..)
    have hr := ih fun y hy => h y (List.mem_cons_of_mem _ hy)
    have hxl : x.data.toList.length ≤ 12 := by rw [Array.length_toList]; exact hx
    cases r with
    | nil => simp [datas, List.intercalate, List.intersperse] at hxl ⊢; omega
    | cons y s =>
      have e : sep.intercalate (datas (x :: y :: s)) = x.data.toList ++ (sep ++ sep.intercalate (datas (y :: s))) := by
        simp [datas, List.intercalate, List.intersperse]
      rw [e, List.length_append, List.length_append, show (x :: y :: s).length = (y :: s).length + 1 from rfl, Nat.add_mul]
      omega
theorem CatOk.join_le {ds : List Dm} {ms : List ByteArray} (h : CatOk ds ms) (cm : Int) (at_ : Nat → Int) (k : Nat) (hk : k ≤ ds.length) : (slash.data.toList.intercalate (datas (showL ms ds cm at_ k))).length ≤ 65 := by
  have h1 := inter_le slash.data.toList (showL ms ds cm at_ k) (h.show_le cm at_ k hk)
  rw [showL_len, show slash.data.toList.length = 1 from rfl] at h1
  have := h.d4
  omega
/-- Names lead back. -/
theorem cell_back {ds : List Dm} {ms : List ByteArray} {cm : Int} {at_ : Nat → Int} {r : Value} {er : Int} (h : CatOk ds ms) (hr : rightB ms ds cm at_ = true) (hc : CellIs ms ds (msA ms cm.toNat) ((List.range ds.length).map (nmK ds at_)) r er) : r = cellV cm at_ ∧ er = 0 := by
  unfold rightB placeB at hr
  simp only [Bool.and_eq_true, decide_eq_true_eq] at hr
  obtain ⟨r0, ra, rb, rc, rd⟩ := hr
  have hall : ∀ k, k < 4 → 0 ≤ at_ k ∧ at_ k < many ds k := fun k hk => by
    have : k = 0 ∨ k = 1 ∨ k = 2 ∨ k = 3 := by omega
    rcases this with rfl | rfl | rfl | rfl <;> assumption
  have hd4 := h.d4
  have hi : idxI ms (msA ms cm.toNat) = cm := by rw [h.midx (by omega)]; omega
  have hfd : ∀ k, k < ds.length → fdK ds ((List.range ds.length).map (nmK ds at_)) k = at_ k := fun k hk => by
    have hg := (add_good (h.add k hk)).1
    have hm := hall k (by omega)
    unfold many at hm
    rw [if_pos hk] at hm
    have e : msA ((List.range ds.length).map (nmK ds at_)) k = nmK ds at_ k := by
      unfold msA
      rw [List.getD_eq_getElem?_getD, List.getElem?_map, List.getElem?_range hk]
      rfl
    unfold fdK
    rw [e]
    unfold nmK nmI
    rw [if_pos (show isP (dmL ds k) (at_ k) from by unfold isP; omega)]
    have := (good_name hg (at_ k).toNat (by omega)).2
    unfold findI
    rw [this, if_pos (by omega)]
    omega
  rcases hc with ⟨g1, g2, g3⟩ | ⟨g1, g2, g3, g4⟩ | ⟨g1, g2, ⟨k', g3, g4⟩, g5, g6⟩ | ⟨g1, g2, g3, g4, g5⟩
  · omega
  · simp at g2
  · have := hall k' (by omega)
    rw [hfd k' g3] at g4
    omega
  · refine ⟨?_, g5⟩
    rw [g4, hi]
    have : ∀ k, k < 4 → atK ds ((List.range ds.length).map (nmK ds at_)) ds.length k = at_ k := fun k hk => by
      unfold atK
      by_cases c : k < ds.length
      · rw [if_pos c]; exact hfd k c
      · rw [if_neg c]
        have := hall k hk
        unfold many at this
        rw [if_neg c] at this
        omega
    unfold cellV
    rw [this 0 (by omega), this 1 (by omega), this 2 (by omega), this 3 (by omega)]
end Go.Proofs.Ytbhojgodkblflaa
namespace Go.Proofs.Ytbhojgodkblflaa
open Go.RowKit Go.Maps
theorem CatOk.place {ds : List Dm} {ms : List ByteArray} (h : CatOk ds ms) {k : Nat} (hk : k < ds.length) : idxI (lbl ds) (dmN ds k) = k := by
  have hl : (lbl ds).length = ds.length := lbl_len ds
  have h1 : idxS (lbl ds) (dmN ds k) ≤ k := idxS_le (by omega) (lbl_get ds k hk)
  have e1 : idxI (lbl ds) (dmN ds k) = idxS (lbl ds) (dmN ds k) := if_pos (by omega)
  have hi := idx_ahead hk
  rcases h.add k hk with ⟨_, e⟩ | ⟨_, _, e⟩ | ⟨_, g, _⟩
  · omega
  · omega
  · have := hi.1 g
    omega
end Go.Proofs.Ytbhojgodkblflaa
namespace Go.Proofs.Ytbhojgodkblflaa
open Go.RowKit Go.Maps
set_option linter.unusedSimpArgs false
set_option linter.unusedVariables false
theorem eq_arr (a b c d : Int) (w : World) : (Op.equalIn 9999 26 (.agg #[.int .i64 a, .int .i64 b, .int .i64 c, .int .i64 d]) (.agg #[.int .i64 a, .int .i64 b, .int .i64 c, .int .i64 d])).run Try.prog w = .ok true w := by
  have u3 := Try.underlying3
  have a3 := Try.isAgg3
  have z3 := Try.sizeOf3
  rw [show (9999 : Nat) = 9998 + 1 from rfl, Op.equalIn]
  simp only [Sem.run_bind, run_underlying Try.underlying26, Result.andThen_ok]
  simp only [Std.Legacy.Range.forIn_eq_forIn_range', Std.Legacy.Range.size, Nat.sub_zero, Nat.add_sub_cancel, Nat.div_one, List.range'_succ, List.range'_zero, List.forIn_cons, List.forIn_nil]
  go_simp
end Go.Proofs.Ytbhojgodkblflaa
