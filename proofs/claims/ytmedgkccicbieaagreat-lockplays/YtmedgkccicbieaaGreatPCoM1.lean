/- moietylaw07.small, open. · coord: '==' of any two cells; slices of cells; ref07.Same of two that hold the same. · coord: numbers and their parts; rising lists; which leaves are within a cell. -/
import Derived.Test.YtmedgkccicbieaaGreatPCo22B
import Derived.Test.YtmedgkccicbieaaGreatPLawDimsE
import Derived.Deep.QuietTactic
namespace Go.Proofs.YtmedgkccicbieaaGreat
open Go.RowKit Go.Maps
set_option linter.unusedSimpArgs false
set_option linter.unusedVariables false

theorem catok_nodes {ds : List Dm} {ms : List ByteArray} {w : World} {a : Option Addr} {n : Nat} {na : Nat → Option Addr × Nat × Nat} (h : CatOk ds ms) (hs : Dss w a n ds na) (hn : n = ds.length) : ∀ k, k < ds.length → 1 ≤ (dmL ds k).length ∧ (dmL ds k).length ≤ 60 ∧ (∀ i, i < (dmL ds k).length → (nmA (dmL ds k) i).size ≤ maxLen) ∧ (∀ i, i < (dmL ds k).length → isI (upA (dmL ds k) i)) := by
  intro k hk
  have hg := add_good (h.add k hk)
  have hns := hs.nds k (by omega)
  have h2 := hg.2
  exact ⟨by omega, by omega, hns.nmb, hns.upb⟩
theorem sw_made {w0 w : World} {s p : Nat} {ds : List Dm} {ms : List ByteArray} {tp : Nat → Nat} {rv : Nat → Option Addr × Nat} {ma : Option Addr} {mc : Nat} {lv sc : Int} {dv : Value} (h : CatOk ds ms) (hd : DP w0 w p ds tp ma mc ms lv sc dv) (hsp : SPi w s p ds ms.length ds.length rv) : SW w s p ds ms tp rv := by
  have hl : ∀ k, k < ds.length → 1 ≤ (dmL ds k).length ∧ (dmL ds k).length ≤ 32 ∧ Tr (dmL ds k) := fun k hk => by
    have hg := add_good (h.add k hk)
    exact ⟨by omega, by omega, tr_of hg.1⟩
  exact ⟨⟨w0, ma, mc, lv, sc, dv, hd⟩, hsp, h.d1, h.d4, h.m4, fun k hk => by
    obtain ⟨h1, h2, h3⟩ := hl k hk
    have := lvs_len h3
    exact ⟨h1, by omega, by omega⟩, fun k hk => lvs_ne (hl k hk).2.2 (hl k hk).1⟩

theorem eq_arrG (a b c d a' b' c' d' : Int) (w : World) : (Op.equalIn 9999 27 (.agg #[.int .i64 a, .int .i64 b, .int .i64 c, .int .i64 d]) (.agg #[.int .i64 a', .int .i64 b', .int .i64 c', .int .i64 d'])).run Tryz.prog w = .ok (decide (a = a' ∧ b = b' ∧ c = c' ∧ d = d')) w := by
  have u3 := Tryz.underlying3
  have a3 := Tryz.isAgg3
  have z3 := Tryz.sizeOf3
  rw [show (9999 : Nat) = 9998 + 1 from rfl, Op.equalIn]
  simp only [Sem.run_bind, run_underlying Tryz.underlying27, Result.andThen_ok]
  simp only [Std.Legacy.Range.forIn_eq_forIn_range', Std.Legacy.Range.size, Nat.sub_zero, Nat.add_sub_cancel, Nat.div_one, List.range'_succ, List.range'_zero, List.forIn_cons, List.forIn_nil]
  by_cases h1 : a = a'
  · subst h1
    by_cases h2 : b = b'
    · subst h2
      by_cases h3 : c = c'
      · subst h3
        by_cases h4 : d = d'
        · subst h4; go_simp; try simp
        · have e4 : (d == d') = false := by simpa using h4
          have e5 : decide (a = a ∧ b = b ∧ c = c ∧ d = d') = false := by simp [h4]
          rw [e5]; clear e5; go_simp
      · have e4 : (c == c') = false := by simpa using h3
        have e5 : decide (a = a ∧ b = b ∧ c = c' ∧ d = d') = false := by simp [h3]
        rw [e5]; clear e5; go_simp
    · have e4 : (b == b') = false := by simpa using h2
      have e5 : decide (a = a ∧ b = b' ∧ c = c' ∧ d = d') = false := by simp [h2]
      rw [e5]; clear e5; go_simp
  · have e4 : (a == a') = false := by simpa using h1
    have e5 : decide (a = a' ∧ b = b' ∧ c = c' ∧ d = d') = false := by simp [h1]
    rw [e5]; clear e5; go_simp
structure Cs (w : World) (a : Option Addr) (n : Nat) (f : Nat → Nat → Int) : Prop where
  big : n ≤ maxLen
  cells : 0 < n → ∃ b o, a = some ⟨b, o, none⟩ ∧ b < w.heap.size ∧ ∀ i, i < n → ∀ t, t < 5 → w.cell? ⟨b, o + i * 5 + t, none⟩ = some (.int .i64 (f i t))
theorem Cs.kept {w w' : World} {a : Option Addr} {n : Nat} {f : Nat → Nat → Int} (h : Cs w a n f) (g : Kept w w') : Cs w' a n f :=
  ⟨h.big, fun hp => by
    obtain ⟨b, o, h1, h2, h3⟩ := h.cells hp
    exact ⟨b, o, h1, Nat.lt_of_lt_of_le h2 g.size, fun i hi t ht => g.cellp (h3 i hi t ht)⟩⟩

def Rise (l : List Int) : Prop := l.Pairwise (· < ·)
theorem rise_ext : ∀ {l m : List Int}, Rise l → Rise m → (∀ x, x ∈ l ↔ x ∈ m) → l = m := by
  intro l
  induction l with
  | nil =>
    intro m _ _ h
    cases m with
    | nil => rfl
    | cons s u => exact absurd ((h s).2 (List.mem_cons_self ..)) (by simp)
  | cons r t ih =>
    intro m hl hm h
    cases m with
    | nil => exact absurd ((h r).1 (List.mem_cons_self ..)) (by simp)
    | cons s u =>
      obtain ⟨l1, l2⟩ := List.pairwise_cons.1 hl
      obtain ⟨m1, m2⟩ := List.pairwise_cons.1 hm
      have e : r = s := by
        rcases List.mem_cons.1 ((h r).1 (List.mem_cons_self ..)) with e | a
        · exact e
        · rcases List.mem_cons.1 ((h s).2 (List.mem_cons_self ..)) with e | b
          · exact e.symm
          · have := m1 r a; have := l1 s b; omega
      subst e
      have : t = u := ih l2 m2 fun x => by
        constructor
        · intro hx
          have g := l1 x hx
          rcases List.mem_cons.1 ((h x).1 (List.mem_cons_of_mem _ hx)) with k | k
          · omega
          · exact k
        · intro hx
          have g := m1 x hx
          rcases List.mem_cons.1 ((h x).2 (List.mem_cons_of_mem _ hx)) with k | k
          · omega
          · exact k
      rw [this]
theorem num_parts (f : Nat → Int) (N : Int) : numK f (prA f N) (prQ f N 4) 4 = N := by
  have st : ∀ i, prQ f N (i + 1) * f (3 - i) + (prQ f N i).tmod (f (3 - i)) = prQ f N i := fun i => by
    show (prQ f N i).tdiv (f (3 - i)) * f (3 - i) + _ = _
    rw [Int.mul_comm]
    exact Int.mul_tdiv_add_tmod _ _
  have e1 : numK f (prA f N) (prQ f N 4) 1 = prQ f N 3 := st 3
  have e2 : numK f (prA f N) (prQ f N 4) 2 = prQ f N 2 := by
    show numK f (prA f N) (prQ f N 4) 1 * f 1 + prA f N 1 = _
    rw [e1]; exact st 2
  have e3 : numK f (prA f N) (prQ f N 4) 3 = prQ f N 1 := by
    show numK f (prA f N) (prQ f N 4) 2 * f 2 + prA f N 2 = _
    rw [e2]; exact st 1
  show numK f (prA f N) (prQ f N 4) 3 * f 3 + prA f N 3 = _
  rw [e3]; exact st 0
theorem div_one {m f a : Int} (hm : 0 ≤ m) (ha : 0 ≤ a ∧ a < f) : (m * f + a).tdiv f = m ∧ (m * f + a).tmod f = a := by
  have h0 : 0 ≤ m * f + a := by have := Int.mul_nonneg hm (by omega : 0 ≤ f); omega
  rw [Int.tdiv_eq_ediv_of_nonneg h0, Int.tmod_eq_emod_of_nonneg h0]
  constructor
  · rw [Int.add_comm, Int.add_mul_ediv_right _ _ (by omega), Int.ediv_eq_zero_of_lt ha.1 ha.2]; omega
  · rw [Int.add_comm, Int.add_mul_emod_self_right, Int.emod_eq_of_lt ha.1 ha.2]
theorem num_nonneg {f a : Nat → Int} {m : Int} (hm : 0 ≤ m) (hf : ∀ k, 0 ≤ f k) (ha : ∀ k, 0 ≤ a k) : ∀ k, 0 ≤ numK f a m k := by
  intro k
  induction k with
  | zero => exact hm
  | succ k ih => show 0 ≤ numK f a m k * f k + a k; have := Int.mul_nonneg ih (hf k); have := ha k; omega
theorem parts_num {f a : Nat → Int} {m : Int} (hm : 0 ≤ m) (ha : ∀ k, 0 ≤ a k ∧ a k < f k) : prQ f (numK f a m 4) 4 = m ∧ ∀ k, k < 4 → prA f (numK f a m 4) k = a k := by
  have hn := num_nonneg (f := f) (a := a) hm (fun k => by have := ha k; omega) (fun k => (ha k).1)
  have q0 : prQ f (numK f a m 4) 0 = numK f a m 4 := rfl
  have st : ∀ k, (numK f a m (k + 1)).tdiv (f k) = numK f a m k ∧ (numK f a m (k + 1)).tmod (f k) = a k := fun k => div_one (hn k) (ha k)
  have q1 : prQ f (numK f a m 4) 1 = numK f a m 3 := (st 3).1
  have q2 : prQ f (numK f a m 4) 2 = numK f a m 2 := by show (prQ f (numK f a m 4) 1).tdiv (f 2) = _; rw [q1]; exact (st 2).1
  have q3 : prQ f (numK f a m 4) 3 = numK f a m 1 := by show (prQ f (numK f a m 4) 2).tdiv (f 1) = _; rw [q2]; exact (st 1).1
  refine ⟨by show (prQ f (numK f a m 4) 3).tdiv (f 0) = _; rw [q3]; exact (st 0).1, fun k hk => ?_⟩
  have : k = 0 ∨ k = 1 ∨ k = 2 ∨ k = 3 := by omega
  rcases this with rfl | rfl | rfl | rfl
  · show (prQ f (numK f a m 4) 3).tmod (f 0) = _; rw [q3]; exact (st 0).2
  · show (prQ f (numK f a m 4) 2).tmod (f 1) = _; rw [q2]; exact (st 1).2
  · show (prQ f (numK f a m 4) 1).tmod (f 2) = _; rw [q1]; exact (st 2).2
  · show (prQ f (numK f a m 4) 0).tmod (f 3) = _; rw [q0]; exact (st 3).2
theorem num_lt_mul {f a : Nat → Int} {m M : Int} (hm : m < M) (ha : ∀ k, 0 ≤ a k ∧ a k < f k) : ∀ k, numK f a m k < mulK f M k := by
  intro k
  induction k with
  | zero => exact hm
  | succ k ih =>
    show numK f a m k * f k + a k < mulK f M k * f k
    have h1 := ha k
    have h2 : (numK f a m k + 1) * f k ≤ mulK f M k * f k := Int.mul_le_mul_of_nonneg_right (by omega) (by omega)
    rw [Int.add_mul] at h2
    omega
theorem part_ok {f : Nat → Int} {N M : Int} (hf : ∀ k, 1 ≤ f k) (hN : 0 ≤ N ∧ N < mulK f M 4) : (0 ≤ prQ f N 4 ∧ prQ f N 4 < M) ∧ ∀ k, k < 4 → 0 ≤ prA f N k ∧ prA f N k < f k := by
  have hq : ∀ i, 0 ≤ prQ f N i := fun i => by
    induction i with
    | zero => exact hN.1
    | succ i ih => show 0 ≤ (prQ f N i).tdiv _; rw [Int.tdiv_eq_ediv_of_nonneg ih]; exact Int.ediv_nonneg ih (by have := hf (3 - i); omega)
  have hA : ∀ k, k < 4 → 0 ≤ prA f N k ∧ prA f N k < f k := fun k hk => by
    unfold prA
    rw [Int.tmod_eq_emod_of_nonneg (hq _)]
    have := hf k
    exact ⟨Int.emod_nonneg _ (by omega), Int.emod_lt_of_pos _ (by omega)⟩
  refine ⟨⟨hq 4, ?_⟩, hA⟩
  by_cases c : prQ f N 4 < M
  · exact c
  · exfalso
    have h1 : ∀ k, k ≤ 4 → mulK f M k ≤ numK f (prA f N) (prQ f N 4) k := fun k => by
      induction k with
      | zero => intro _; show M ≤ prQ f N 4; omega
      | succ k ih =>
        intro hk
        show mulK f M k * f k ≤ numK f (prA f N) (prQ f N 4) k * f k + prA f N k
        have h2 := ih (by omega)
        have h3 := hf k
        have h4 : mulK f M k * f k ≤ numK f (prA f N) (prQ f N 4) k * f k := Int.mul_le_mul_of_nonneg_right h2 (by omega)
        have := (hA k (by omega)).1
        omega
    have h2 := h1 4 (by omega)
    rw [num_parts] at h2
    omega
theorem num_congr {f a b : Nat → Int} {m : Int} : ∀ k, (∀ j, j < k → a j = b j) → numK f a m k = numK f b m k := by
  intro k
  induction k with
  | zero => intro _; rfl
  | succ k ih => intro h; show numK f a m k * f k + a k = numK f b m k * f k + b k; rw [ih (fun j hj => h j (by omega)), h k (by omega)]
def Lex (x y : List Int) : Prop := ∃ j, j < x.length ∧ (∀ i, i < j → at4 x i = at4 y i) ∧ at4 x j < at4 y j
theorem num_lex {f : Nat → Int} {m : Int} {x y : List Int} (hx : ∀ k, 0 ≤ at4 x k ∧ at4 x k < f k) (hy : ∀ k, 0 ≤ at4 y k ∧ at4 y k < f k) (hl : x.length ≤ 4) (h : Lex x y) : numK f (at4 x) m 4 < numK f (at4 y) m 4 := by
  obtain ⟨j, hj, h1, h2⟩ := h
  have e := num_congr (f := f) (m := m) j h1
  have st : ∀ k, j < k → numK f (at4 x) m k < numK f (at4 y) m k := fun k => by
    induction k with
    | zero => intro h; omega
    | succ k ih =>
      intro hk
      show numK f (at4 x) m k * f k + at4 x k < numK f (at4 y) m k * f k + at4 y k
      by_cases c : k = j
      · subst c; rw [e]; omega
      · have h3 := ih (by omega)
        have h4 := hx k
        have h5 := hy k
        have h6 : (numK f (at4 x) m k + 1) * f k ≤ numK f (at4 y) m k * f k := Int.mul_le_mul_of_nonneg_right (by omega) (by omega)
        rw [Int.add_mul] at h6
        omega
  exact st 4 (by omega)
theorem prods_lex : ∀ (ls : List (List Int)), (∀ l, l ∈ ls → Rise l) → (prods ls).Pairwise Lex := by
  intro ls
  induction ls with
  | nil => intro _; simp [prods]
  | cons l r ih =>
    intro h
    simp only [prods]
    rw [List.pairwise_flatMap]
    refine ⟨fun v hv => ?_, ?_⟩
    · rw [List.pairwise_map]
      refine (ih (fun x hx => h x (by simp [hx]))).imp ?_
      rintro x y ⟨j, h1, h2, h3⟩
      refine ⟨j + 1, by simpa using h1, fun i hi => ?_, by simpa [at4] using h3⟩
      cases i with
      | zero => rfl
      | succ i => have := h2 i (by omega); simpa [at4] using this
    · refine (h l (by simp)).imp ?_
      intro v1 v2 hv x hx y hy
      rw [List.mem_map] at hx hy
      obtain ⟨t1, _, rfl⟩ := hx
      obtain ⟨t2, _, rfl⟩ := hy
      exact ⟨0, by simp, fun i hi => absurd hi (by omega), by simpa [at4] using hv⟩
theorem rngI_rise (f : Int) (m : Nat) : Rise (rngI f m) := by
  unfold Rise rngI
  rw [List.pairwise_map]
  refine List.Pairwise.imp ?_ List.pairwise_lt_range
  intro a b h
  omega
def Spans (l : List Nd) : Prop := ∀ i : Nat, i < l.length → ∃ A C, lvsN l = A ++ lvS l i ++ C
structure Ct (ds : List Dm) (ms : List ByteArray) : Prop where
  d1 : 1 ≤ ds.length
  d4 : ds.length ≤ 4
  m4 : ms.length ≤ 4
  tr : ∀ k, k < ds.length → Tr (dmL ds k)
  sp : ∀ k, k < ds.length → Spans (dmL ds k)
  one : ∀ k, k < ds.length → 1 ≤ (dmL ds k).length
  le : ∀ k, k < ds.length → (dmL ds k).length ≤ 60
theorem SW.ct {w : World} {s p : Nat} {ds : List Dm} {ms : List ByteArray} {tp : Nat → Nat} {rv : Nat → Option Addr × Nat} (h : SW w s p ds ms tp rv) : Ct ds ms :=
  ⟨h.d1, h.d4, h.m4, fun k hk => (h.whole hk).tr, fun k hk i hi => by
    obtain ⟨mb, pb, kv, rk, fr, tu, ov, lv, _, _, _, _, hsp, _⟩ := (h.whole hk).ex
    obtain ⟨A, C, e, _⟩ := hsp i hi
    exact ⟨A, C, e⟩, fun k hk => (h.whole hk).one, fun k hk => (h.whole hk).big⟩
section
variable {ds : List Dm} {ms : List ByteArray}
theorem Ct.leas (h : Ct ds ms) (k : Nat) : 1 ≤ (leas ds k : Int) := by
  unfold Go.Proofs.YtmedgkccicbieaaGreat.leas; split
  · next e => have := lvs_ne (h.tr k e) (h.one k e); omega
  · omega
theorem Ct.many (h : Ct ds ms) (k : Nat) : 1 ≤ (many ds k : Int) := by
  unfold Go.Proofs.YtmedgkccicbieaaGreat.many; split
  · next e => have := h.one k e; omega
  · omega
theorem place_iff {x : Int} {n : Nat} : placeB x n = true ↔ 0 ≤ x ∧ x < n := by unfold placeB; simp
theorem right_iff {cm : Int} {at_ : Nat → Int} : rightB ms ds cm at_ = true ↔ (0 ≤ cm ∧ cm < ms.length) ∧ ∀ k, k < 4 → 0 ≤ at_ k ∧ at_ k < many ds k := by
  unfold rightB
  simp only [Bool.and_eq_true, place_iff]
  constructor
  · rintro ⟨h0, h1, h2, h3, h4⟩
    refine ⟨h0, fun k hk => ?_⟩
    have : k = 0 ∨ k = 1 ∨ k = 2 ∨ k = 3 := by omega
    rcases this with rfl | rfl | rfl | rfl <;> assumption
  · rintro ⟨h0, h1⟩
    exact ⟨h0, h1 0 (by omega), h1 1 (by omega), h1 2 (by omega), h1 3 (by omega)⟩
theorem leas_in {k : Nat} (hk : k < ds.length) : leas ds k = (lvsN (dmL ds k)).length := if_pos hk
theorem leas_out {k : Nat} (hk : ¬ k < ds.length) : leas ds k = 1 := if_neg hk
theorem many_in {k : Nat} (hk : k < ds.length) : many ds k = (dmL ds k).length := if_pos hk
theorem many_out {k : Nat} (hk : ¬ k < ds.length) : many ds k = 1 := if_neg hk
theorem lf_at (h : Ct ds ms) {n : Int} (hn : okC ms ds n) {k : Nat} (hk : k < ds.length) : ∃ (r : Nat) (hr : r < (lvsN (dmL ds k)).length), prA (fun k => leas ds k) n k = r ∧ lfF ds n ds.length k = ((lvsN (dmL ds k))[r] : Nat) ∧ (lvsN (dmL ds k))[r] < (dmL ds k).length ∧ leafB (dmL ds k) (lvsN (dmL ds k))[r] = true := by
  have hp := (part_ok (fun k => h.leas k) hn).2 k (by have := h.d4; omega)
  rw [leas_in hk] at hp
  have e1 : prA (fun k => leas ds k) n k = ((prA (fun k => leas ds k) n k).toNat : Int) := by omega
  have e2 : (prA (fun k => leas ds k) n k).toNat < (lvsN (dmL ds k)).length := by omega
  have hm := (lvs_mem (h.tr k hk)).1 (List.getElem_mem e2)
  refine ⟨_, e2, e1, ?_, hm.1, hm.2⟩
  unfold lfF
  rw [if_pos hk]
  unfold ints
  rw [List.getD_eq_getElem?_getD, List.getElem?_map, List.getElem?_eq_getElem e2]
  rfl
theorem lf_out {n : Int} {k : Nat} (hk : ¬ k < ds.length) : lfF ds n ds.length k = 0 := if_neg hk
theorem lf_right (h : Ct ds ms) {n : Int} (hn : okC ms ds n) : rightB ms ds (prQ (fun k => leas ds k) n 4) (lfF ds n ds.length) = true := by
  refine right_iff.2 ⟨(part_ok (fun k => h.leas k) hn).1, fun k hk => ?_⟩
  by_cases c : k < ds.length
  · obtain ⟨r, hr, _, e, h1, _⟩ := lf_at h hn c
    rw [e, many_in c]
    omega
  · rw [lf_out c, many_out c]; omega
theorem in_span (h : Ct ds ms) {k : Nat} (hk : k < ds.length) {i : Int} (hi : 0 ≤ i ∧ i < (dmL ds k).length) {r : Nat} (hr : r < (lvsN (dmL ds k)).length) : i ∈ abvA (dmL ds k) ((lvsN (dmL ds k))[r] : Nat) ↔ fromI (dmL ds k) i ≤ r ∧ r < toI (dmL ds k) i := by
  obtain ⟨j, rfl⟩ : ∃ j : Nat, i = j := ⟨i.toNat, by omega⟩
  have hj : j < (dmL ds k).length := by omega
  obtain ⟨A, C, e⟩ := h.sp k hk j hj
  have hs := span_in (h.tr k hk) hj e r hr
  unfold fromI toI
  rw [if_pos (isP_nat hj), if_pos (isP_nat hj)]
  unfold inB at hs
  rw [decide_eq_decide] at hs
  rw [hs]
  omega
theorem mem_und (h : Ct ds ms) {cm : Int} {at_ : Nat → Int} {n : Int} : n ∈ undL ms ds cm at_ ↔ okC ms ds n ∧ inC ms ds (prQ (fun k => leas ds k) n 4) (lfF ds n ds.length) cm at_ := by
  unfold undL
  by_cases hr : rightB ms ds cm at_ = true
  · rw [if_pos hr, List.mem_map]
    obtain ⟨hcm, hat⟩ := right_iff.1 hr
    constructor
    · rintro ⟨x, hx, rfl⟩
      obtain ⟨p1, p2⟩ := prods_at hx
      have hb : ∀ k, 0 ≤ at4 x k ∧ at4 x k < leas ds k := fun k => by
        by_cases c : k < ds.length
        · have h1 := spanL_mem.1 (p1 k c)
          have h2 := span_bound (dmL ds k) (at_ k)
          rw [leas_in c]
          omega
        · rw [p2 k (by omega), leas_out c]; omega
      have hok : okC ms ds (numK (fun k => leas ds k) (at4 x) cm 4) := ⟨num_nonneg hcm.1 (fun k => by have := h.leas k; omega) (fun k => (hb k).1) 4, num_lt_mul hcm.2 hb 4⟩
      obtain ⟨q1, q2⟩ := parts_num (f := fun k => (leas ds k : Int)) hcm.1 hb
      refine ⟨hok, lf_right h hok, hr, q1, fun k hk => ?_⟩
      obtain ⟨r, hrr, e1, e2, _, _⟩ := lf_at h hok hk
      rw [e2]
      have h4 := h.d4
      rw [q2 k (by omega)] at e1
      have h1 := spanL_mem.1 (p1 k hk)
      rw [e1] at h1
      have h5 := hat k (by omega)
      rw [many_in hk] at h5
      exact (in_span h hk h5 hrr).2 h1
    · rintro ⟨hok, _, _, e, hin⟩
      refine ⟨(List.range ds.length).map fun k => prA (fun k => leas ds k) n k, ?_, ?_⟩
      · rw [prods_mem, lsK_len]
        refine ⟨by simp, fun k hk => ?_⟩
        rw [lsK_get _ hk]
        have e1 : ((List.range ds.length).map fun k => prA (fun k => leas ds k) n k).getD k 0 = prA (fun k => leas ds k) n k := by simp [List.getD, hk]
        rw [e1]
        obtain ⟨r, hrr, e1, e2, _, _⟩ := lf_at h hok hk
        rw [e1]
        have h1 := hin k hk
        rw [e2] at h1
        have h4 := h.d4
        have h5 := hat k (by omega)
        rw [many_in hk] at h5
        exact spanL_mem.2 ((in_span h hk h5 hrr).1 h1)
      · rw [← e]
        conv => rhs; rw [← num_parts (fun k => (leas ds k : Int)) n]
        refine num_congr 4 (fun j hj => ?_)
        unfold at4
        by_cases c : j < ds.length
        · simp [List.getD, c]
        · have hp := (part_ok (fun k => h.leas k) hok).2 j hj
          rw [leas_out c] at hp
          rw [List.getD_eq_getElem?_getD, List.getElem?_eq_none (by simp; omega)]
          show (0 : Int) = _
          omega
  · rw [if_neg hr]
    constructor
    · intro h; cases h
    · rintro ⟨_, _, h2, _⟩; exact absurd h2 hr
theorem und_rise (h : Ct ds ms) (cm : Int) (at_ : Nat → Int) : Rise (undL ms ds cm at_) := by
  unfold undL
  by_cases hr : rightB ms ds cm at_ = true
  · rw [if_pos hr]
    unfold Rise
    rw [List.pairwise_map]
    refine List.Pairwise.imp_of_mem ?_ (prods_lex (lsK (spanL ds at_) ds.length) (fun l hl => by
      simp only [lsK, List.mem_map] at hl
      obtain ⟨k, _, rfl⟩ := hl
      exact rngI_rise _ _))
    intro x y hx hy hxy
    have hb : ∀ x, x ∈ prods (lsK (spanL ds at_) ds.length) → ∀ k, 0 ≤ at4 x k ∧ at4 x k < leas ds k := fun x hx k => by
      obtain ⟨p1, p2⟩ := prods_at hx
      by_cases c : k < ds.length
      · have h1 := spanL_mem.1 (p1 k c)
        have h2 := span_bound (dmL ds k) (at_ k)
        rw [leas_in c]
        omega
      · rw [p2 k (by omega), leas_out c]; omega
    refine num_lex (f := fun k => (leas ds k : Int)) (hb x hx) (hb y hy) ?_ hxy
    rw [prods_len _ _ hx, lsK_len]
    exact h.d4
  · rw [if_neg hr]; exact List.Pairwise.nil
end
end Go.Proofs.YtmedgkccicbieaaGreat
