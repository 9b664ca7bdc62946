/- moietylaw07.small, open. · coord: '==' of any two cells; slices of cells; ref07.Same of two that hold the same. · coord: numbers and their parts; rising lists; which leaves are within a cell. -/
import Derived.Test.YtmmdfpafkmhgcaaGreatCo22B
import Derived.Test.YtmmdfpafkmhgcaaGreatLawDimsE
import Derived.Deep.QuietTactic
namespace Go.Proofs.YtmmdfpafkmhgcaaGreat
open Go.RowKit Go.Maps
set_option linter.unusedSimpArgs false
set_option linter.unusedVariables false

def SmallC7 (ds : List Dm) (m : Nat) : Prop := ds.length ≤ 5 ∧ m ≤ 5 ∧ ∀ k, k < ds.length → (dmL ds k).length ≤ 33
def SmallPost7 (w : World) (ds : List Dm) (m : Nat) (e : Ending) (w' : World) : Prop := ∃ r, e = .returned (.bool r) ∧ (r = true ↔ SmallC7 ds m) ∧ Kept w w'
set_option maxHeartbeats 1000000 in
theorem law7_small (a : Option Addr) (n c : Nat) (ds : List Dm) (na : Nat → Option Addr × Nat × Nat) (b : Option Addr) (m d : Nat) (lv sc : Int) (w : World) (hs : Dss w a n ds na) (hm : m ≤ maxLen) :
    Calls Tryz.prog 36 #[.agg #[.slice a n c, .slice b m d, .int .i64 lv, .int .i64 sc]] w (SmallPost7 w ds m) := by
  have HS := hidMk hs
  have hlen := hs.len
  have hbig := hs.big
  unfold maxLen at hbig hm
  clear hs
  by_cases h1 : n ≤ 5 ∧ m ≤ 5
  · have h1' : ¬ ((5 : Int) < n) := by omega
    have h2' : ¬ ((5 : Int) < m) := by omega
    obtain ⟨hn, hm2⟩ := h1
    go_enter Tryz.func36, Tryz.ntmps36
    go_wp2_with fail
    refine gen_world (f := fun W => Code.wp _ _ _ _ W) (fun W => Kept w W ∧ W.cell? ⟨w.heap.size, 0, none⟩ = some (.slice a n c)) ⟨(Kept.refl w).alloc _, by simp⟩ ?_
    rintro W ⟨kW, cW⟩
    have HKW := hidMk kW
    clear kW
    go_loopg [3] n (fun g x wr => ∃ k : Nat, k + g = n ∧ x = .int .i64 k ∧ wr = W ∧ Hid (∀ j, j < k → (dmL ds j).length ≤ 33))
    case atStart => exact ⟨0, by omega, rfl, rfl, hidMk fun j hj => absurd hj (by omega)⟩
    case round =>
      obtain ⟨k, hkg, rfl, rfl, HJ⟩ := hrel
      have HKG := hidMk hkg
      by_cases hkn : k < n
      · obtain ⟨bb, oo, rfl, hb, hcs⟩ := HS.out.cells (by omega)
        have c1 := HKW.out.cellp (hcs k hkn).2
        have hl := (HS.out.nds k hkn).len
        have hl2 := (HS.out.nds k hkn).big
        unfold maxLen at hl2
        have hk1 : (k : Int) < n := by omega
        have HYES := hidMk (show (dmL ds k).length ≤ 33 → ∀ j, j < k + 1 → (dmL ds j).length ≤ 33 from fun e j hj => by
          by_cases e' : j = k
          · subst e'; exact e
          · exact HJ.out j (by omega))
        have HNO := hidMk (show ¬ (dmL ds k).length ≤ 33 → ¬ SmallC7 ds m from fun e h => e (h.2.2 k (by omega)))
        rw [hl] at HYES HNO
        unfold slv at c1
        clear hcs hkg hl
        generalize na k = q at *
        obtain ⟨q1, q2, q3⟩ := q
        by_cases hq : q2 ≤ 33
        · have HY2 := hidMk (HYES.out hq)
          have hq' : ¬ ((33 : Int) < q2) := by omega
          simp only at c1 hl2
          go_wp2_with fail
          go_roundg (gk - 1)
          case measure => have := HKG.out; omega
          case rel => exact ⟨k + 1, by have := HKG.out; omega, by go_num, rfl, HY2⟩
        · have HN2 := hidMk (HNO.out hq)
          have hq' : (33 : Int) < q2 := by omega
          simp only at c1 hl2
          go_wp2_with fail
          go_ret
          exact ⟨false, rfl, ⟨fun e => (by cases e), fun e => absurd e HN2.out⟩, HKW.out⟩
      · have HT := hidMk (show SmallC7 ds m from ⟨by omega, hm2, fun k hk => HJ.out k (by omega)⟩)
        clear hkg
        have hkk : ¬ ((k : Int) < (n : Int)) := by omega
        go_wp2_with fail
        go_ret
        exact ⟨true, rfl, ⟨fun _ => HT.out, fun _ => rfl⟩, HKW.out⟩
  · have HF := hidMk (show ¬ SmallC7 ds m from fun h => h1 ⟨by have := h.1; omega, h.2.1⟩)
    by_cases hn : 5 < n
    · have h1' : (5 : Int) < n := by omega
      go_enter Tryz.func36, Tryz.ntmps36
      go_wp2_with fail
      go_ret
      exact ⟨false, rfl, ⟨fun e => (by cases e), fun e => absurd e HF.out⟩, (Kept.refl w).alloc _⟩
    · have h1' : ¬ ((5 : Int) < n) := by omega
      have h2' : (5 : Int) < m := by omega
      go_enter Tryz.func36, Tryz.ntmps36
      go_wp2_with fail
      go_ret
      exact ⟨false, rfl, ⟨fun e => (by cases e), fun e => absurd e HF.out⟩, (Kept.refl w).alloc _⟩
theorem catok_nodes {ds : List Dm} {ms : List ByteArray} {w : World} {a : Option Addr} {n : Nat} {na : Nat → Option Addr × Nat × Nat} (h : CatOk ds ms) (hs : Dss w a n ds na) (hn : n = ds.length) : ∀ k, k < ds.length → 1 ≤ (dmL ds k).length ∧ (dmL ds k).length ≤ 60 ∧ (∀ i, i < (dmL ds k).length → (nmA (dmL ds k) i).size ≤ maxLen) ∧ (∀ i, i < (dmL ds k).length → isI (upA (dmL ds k) i)) := by
  intro k hk
  have hg := add_good (h.add k hk)
  have hns := hs.nds k (by omega)
  have h2 := hg.2
  exact ⟨by omega, by omega, hns.nmb, hns.upb⟩
theorem sw_made {w0 w : World} {s p : Nat} {ds : List Dm} {ms : List ByteArray} {tp : Nat → Nat} {rv : Nat → Option Addr × Nat} {ma : Option Addr} {mc : Nat} {lv sc : Int} {dv : Value} (h : CatOk ds ms) (hd : DP w0 w p ds tp ma mc ms lv sc dv) (hsp : SPi w s p ds ms.length ds.length rv) : SW w s p ds ms tp rv := by
  have hl : ∀ k, k < ds.length → 1 ≤ (dmL ds k).length ∧ (dmL ds k).length ≤ 32 ∧ Tr (dmL ds k) := fun k hk => by
    have hg := add_good (h.add k hk)
    exact ⟨by omega, by omega, tr_of hg.1⟩
  exact ⟨⟨w0, ma, mc, lv, sc, dv, hd⟩, hsp, h.d1, h.d4, h.m4, fun k hk => by
    obtain ⟨h1, h2, h3⟩ := hl k hk
    have := lvs_len h3
    exact ⟨h1, by omega, by omega⟩, fun k hk => lvs_ne (hl k hk).2.2 (hl k hk).1⟩
/-- What open answers. -/
def OpenP (w : World) (ds : List Dm) (ms : List ByteArray) (lv sc : Int) (e : Ending) (w' : World) : Prop :=
  (∃ W0 s p tp rv q rt, e = .returned (.tuple #[.pointer (some ⟨s, 0, none⟩), .pointer (some ⟨W0.heap.size, 0, none⟩), .bool true]) ∧ SmallC7 ds ms.length ∧ CatIs ds ms lv sc 0 0 ∧ SW W0 s p ds ms tp rv ∧ RDm W0 q ds rt ms ∧ Kept w W0 ∧ w' = W0.alloc (.cells #[.pointer (some ⟨q, 0, none⟩), .slice none 0 0, .slice none 0 0, .slice none 0 0, .slice none 0 0, .slice none 0 0] 66)) ∨
  (∃ v1 v2, e = .returned (.tuple #[v1, v2, .bool false]) ∧ ¬ (SmallC7 ds ms.length ∧ CatIs ds ms lv sc 0 0) ∧ Kept w w')
set_option maxHeartbeats 4000000 in
set_option maxRecDepth 100000 in
theorem law7_open (a : Option Addr) (n c : Nat) (ds : List Dm) (na : Nat → Option Addr × Nat × Nat) (b : Option Addr) (m d : Nat) (ms : List ByteArray) (lv sc : Int) (w : World) (hs : Dss w a n ds na) (hm : Ss w b m ms) (hmz : ∀ i, i < ms.length → (msA ms i).size ≤ maxLen) :
    Calls Tryz.prog 8 #[.agg #[.slice a n c, .slice b m d, .int .i64 lv, .int .i64 sc]] w (OpenP w ds ms lv sc) := by
  have hln := hs.len
  have hlm := hm.len
  subst hln
  subst hlm
  have hbm := hm.big
  have HSM := hidMk (show ∀ y, Kept w y → _ from fun y hy => law7_small a ds.length c ds na b ms.length d lv sc y (hs.kept hy) hbm)
  have HN1 := hidMk (show ∀ y, Kept w y → _ from fun y hy => dims_New a ds.length c ds na b ms.length d ms lv sc y (hs.kept hy) (hm.kept hy) hmz)
  have HN2 := hidMk (show ∀ y, Kept w y → _ from fun y hy => ref6_New a ds.length c ds na b ms.length d ms lv sc y (hs.kept hy) (hm.kept hy) hmz)
  have HCN := hidMk (fun (hc : CatOk ds ms) => catok_nodes hc hs rfl)
  have HNB := hidMk hs.nmb
  clear hs hm hmz hbm
  go_enter Tryz.func8, Tryz.ntmps8
  go_wp2_with fail
  refine (HSM.out _ ((Kept.refl w).alloc _)).mono ?_
  rintro e w1 ⟨r1, rfl, hsm, k1⟩
  have HK1 := hidMk (show Kept w w1 from ((Kept.refl w).alloc _).trans k1)
  have y0 : w1.cell? ⟨w.heap.size, 0, none⟩ = some (.slice a ds.length c) := k1.cellp (by simp)
  have y1 : w1.cell? ⟨w.heap.size, 1, none⟩ = some (.slice b ms.length d) := k1.cellp (by simp)
  have y2 : w1.cell? ⟨w.heap.size, 2, none⟩ = some (.int .i64 lv) := k1.cellp (by simp)
  have y3 : w1.cell? ⟨w.heap.size, 3, none⟩ = some (.int .i64 sc) := k1.cellp (by simp)
  have HSC := hidMk hsm
  clear hsm k1
  cases r1 with
  | false =>
    go_wp2_with fail
    go_ret3
    exact .inr ⟨_, _, rfl, fun h => (by have := HSC.out.2 h.1; cases this), HK1.out⟩
  | true =>
    have HYS := hidMk (show SmallC7 ds ms.length from HSC.out.1 rfl)
    go_wp2_with fail
    refine (HN1.out _ HK1.out).mono ?_
    rintro e w2 (⟨w0, p, tp, ma, mc, dv, rfl, hc, hD, hk⟩ | ⟨at_, er, rfl, her, hc, hk⟩)
    · have HC := hidMk hc
      have HD := hidMk hD
      have HK2 := hidMk (HK1.out.trans hk)
      have z0 := hk.cellp y0
      have z1 := hk.cellp y1
      have z2 := hk.cellp y2
      have z3 := hk.cellp y3
      clear hc hD hk y0 y1 y2 y3
      go_wp2_with fail
      refine (HN2.out _ HK2.out).mono ?_
      rintro e w3 (⟨q, rt, rfl, hc2, hR, hk3⟩ | ⟨at_, er, rfl, her, hc2, hk3⟩)
      · have HR := hidMk hR
        have HK3 := hidMk (HK2.out.trans hk3)
        have HD3 := hidMk (HD.out.kept hk3)
        have HOK := hidMk (cat_ok HC.out)
        have HNW := hidMk (coord_New HD3.out HOK.out.d4 (HCN.out HOK.out) HNB.out HOK.out.m4)
        clear hR hk3 hc2 z0 z1 z2 z3
        go_wp2_with fail
        refine HNW.out.mono ?_
        rintro e w4 ⟨s, rv, rfl, hsp, hsl, hk4⟩
        have HSW := hidMk (sw_made HOK.out (HD3.out.kept hk4) hsp)
        have HR4 := hidMk (HR.out.kept hk4)
        have HK4 := hidMk (HK3.out.trans hk4)
        clear hsp hsl hk4 HNW
        go_wp2_with fail
        go_ret3
        exact .inl ⟨w4, s, p, tp, rv, q, rt, rfl, HYS.out, HC.out, HSW.out, HR4.out, HK4.out, rfl⟩
      · exact absurd (cat_one HC.out hc2).2.symm her
    · have HC := hidMk hc
      have HE := hidMk her
      have HK2 := hidMk (HK1.out.trans hk)
      have z0 := hk.cellp y0
      have z1 := hk.cellp y1
      have z2 := hk.cellp y2
      have z3 := hk.cellp y3
      clear hc hk y0 y1 y2 y3
      go_wp2_with fail
      refine (HN2.out _ HK2.out).mono ?_
      rintro e w3 (⟨q, rt, rfl, hc2, hR, hk3⟩ | ⟨at2, er2, rfl, her2, hc2, hk3⟩)
      · exact absurd (cat_one HC.out hc2).2 HE.out
      · have HK3 := hidMk (HK2.out.trans hk3)
        clear hk3 hc2 z0 z1 z2 z3
        go_wp2_with fail
        refine (n_New _).mono ?_
        rintro e w4 ⟨rfl, hw4⟩
        rw [hw4]
        clear hw4 w4
        go_wp2_with fail
        go_ret3
        exact .inr ⟨_, _, rfl, fun h => HE.out (cat_one HC.out h.2).2, HK3.out.alloc _⟩
end Go.Proofs.YtmmdfpafkmhgcaaGreat
namespace Go.Proofs.YtmmdfpafkmhgcaaGreat
open Go.RowKit Go.Maps
set_option linter.unusedSimpArgs false
set_option linter.unusedVariables false

theorem eq_arrG (a b c d a' b' c' d' : Int) (w : World) : (Op.equalIn 9999 26 (.agg #[.int .i64 a, .int .i64 b, .int .i64 c, .int .i64 d]) (.agg #[.int .i64 a', .int .i64 b', .int .i64 c', .int .i64 d'])).run Tryz.prog w = .ok (decide (a = a' ∧ b = b' ∧ c = c' ∧ d = d')) w := by
  have u3 := Tryz.underlying3
  have a3 := Tryz.isAgg3
  have z3 := Tryz.sizeOf3
  rw [show (9999 : Nat) = 9998 + 1 from rfl, Op.equalIn]
  simp only [Sem.run_bind, run_underlying Tryz.underlying26, Result.andThen_ok]
  simp only [Std.Legacy.Range.forIn_eq_forIn_range', Std.Legacy.Range.size, Nat.sub_zero, Nat.add_sub_cancel, Nat.div_one, List.range'_succ, List.range'_zero, List.forIn_cons, List.forIn_nil]
  by_cases h1 : a = a'
  · subst h1
    by_cases h2 : b = b'
    · subst h2
      by_cases h3 : c = c'
      · subst h3
        by_cases h4 : d = d'
        · subst h4; go_simp; try simp
        · have e4 : (d == d') = false := by simpa using h4
          have e5 : decide (a = a ∧ b = b ∧ c = c ∧ d = d') = false := by simp [h4]
          rw [e5]; clear e5; go_simp
      · have e4 : (c == c') = false := by simpa using h3
        have e5 : decide (a = a ∧ b = b ∧ c = c' ∧ d = d') = false := by simp [h3]
        rw [e5]; clear e5; go_simp
    · have e4 : (b == b') = false := by simpa using h2
      have e5 : decide (a = a ∧ b = b' ∧ c = c' ∧ d = d') = false := by simp [h2]
      rw [e5]; clear e5; go_simp
  · have e4 : (a == a') = false := by simpa using h1
    have e5 : decide (a = a' ∧ b = b' ∧ c = c' ∧ d = d') = false := by simp [h1]
    rw [e5]; clear e5; go_simp
/-- A slice of cells; f i t: what its i-th cell holds at t. -/
structure Cs (w : World) (a : Option Addr) (n : Nat) (f : Nat → Nat → Int) : Prop where
  big : n ≤ maxLen
  cells : 0 < n → ∃ b o, a = some ⟨b, o, none⟩ ∧ b < w.heap.size ∧ ∀ i, i < n → ∀ t, t < 5 → w.cell? ⟨b, o + i * 5 + t, none⟩ = some (.int .i64 (f i t))
theorem Cs.kept {w w' : World} {a : Option Addr} {n : Nat} {f : Nat → Nat → Int} (h : Cs w a n f) (g : Kept w w') : Cs w' a n f :=
  ⟨h.big, fun hp => by
    obtain ⟨b, o, h1, h2, h3⟩ := h.cells hp
    exact ⟨b, o, h1, Nat.lt_of_lt_of_le h2 g.size, fun i hi t ht => g.cellp (h3 i hi t ht)⟩⟩
set_option maxHeartbeats 2000000 in
set_option maxRecDepth 100000 in
theorem ref7_Same (a b : Option Addr) (n c d : Nat) (f : Nat → Nat → Int) (w : World) (ha : Cs w a n f) (hb : Cs w b n f) : Calls Tryz.prog 30 #[.slice a n c, .slice b n d] w fun e w' => e = .returned (.bool true) ∧ Kept w w' := by
  have hbig := ha.big
  unfold maxLen at hbig
  have HA := hidMk ha
  have HB := hidMk hb
  clear ha hb
  go_enter Tryz.func30, Tryz.ntmps30
  go_wp2_with fail
  go_loopg [5] n (fun g x wr => ∃ k : Nat, k + g = n ∧ x = .int .i64 k ∧ Hid (Kept w wr))
  case atStart => exact ⟨0, by omega, rfl, hidMk (Kept.refl w)⟩
  case round =>
    obtain ⟨k, hkg, rfl, HK⟩ := hrel
    have HKG := hidMk hkg
    by_cases hkn : k < n
    · have hk1 : (k : Int) < n := by omega
      obtain ⟨ba, oa, ea, _, ca⟩ := (HA.out.kept HK.out).cells (by omega)
      obtain ⟨bb, ob, eb, _, cb⟩ := (HB.out.kept HK.out).cells (by omega)
      subst ea eb
      have x0 := ca k hkn 0 (by omega)
      have x1 := ca k hkn 1 (by omega)
      have x2 := ca k hkn 2 (by omega)
      have x3 := ca k hkn 3 (by omega)
      have x4 := ca k hkn 4 (by omega)
      have y0 := cb k hkn 0 (by omega)
      have y1 := cb k hkn 1 (by omega)
      have y2 := cb k hkn 2 (by omega)
      have y3 := cb k hkn 3 (by omega)
      have y4 := cb k hkn 4 (by omega)
      have qa := eq_arr (f k 1) (f k 2) (f k 3) (f k 4)
      rw [Nat.add_zero] at x0 y0
      generalize f k 0 = f0 at *
      generalize f k 1 = f1 at *
      generalize f k 2 = f2 at *
      generalize f k 3 = f3 at *
      generalize f k 4 = f4 at *
      clear ca cb hkg
      have HKD := hidMk (HK.out.drew)
      go_wp2_with fail
      go_quiet (fail)
      go_wp2_with fail
      go_roundg (gk - 1)
      case measure => have := HKG.out; omega
      case rel => exact ⟨k + 1, by have := HKG.out; omega, by go_num, hidMk (HK.out.drewN _)⟩
    · have hkk : ¬ ((k : Int) < (n : Int)) := by omega
      clear hkg
      go_wp2_with fail
      go_ret
      exact ⟨rfl, HK.out⟩
end Go.Proofs.YtmmdfpafkmhgcaaGreat
namespace Go.Proofs.YtmmdfpafkmhgcaaGreat
open Go.RowKit Go.Maps
set_option linter.unusedSimpArgs false
set_option linter.unusedVariables false

def Rise (l : List Int) : Prop := l.Pairwise (· < ·)
theorem rise_ext : ∀ {l m : List Int}, Rise l → Rise m → (∀ x, x ∈ l ↔ x ∈ m) → l = m := by
  intro l
  induction l with
  | nil =>
    intro m _ _ h
    cases m with
    | nil => rfl
    | cons s u => exact absurd ((h s).2 (List.mem_cons_self ..)) (by simp)
  | cons r t ih =>
    intro m hl hm h
    cases m with
    | nil => exact absurd ((h r).1 (List.mem_cons_self ..)) (by simp)
    | cons s u =>
      obtain ⟨l1, l2⟩ := List.pairwise_cons.1 hl
      obtain ⟨m1, m2⟩ := List.pairwise_cons.1 hm
      have e : r = s := by
        rcases List.mem_cons.1 ((h r).1 (List.mem_cons_self ..)) with e | a
        · exact e
        · rcases List.mem_cons.1 ((h s).2 (List.mem_cons_self ..)) with e | b
          · exact e.symm
          · have := m1 r a; have := l1 s b; omega
      subst e
      have : t = u := ih l2 m2 fun x => by
        constructor
        · intro hx
          have g := l1 x hx
          rcases List.mem_cons.1 ((h x).1 (List.mem_cons_of_mem _ hx)) with k | k
          · omega
          · exact k
        · intro hx
          have g := m1 x hx
          rcases List.mem_cons.1 ((h x).2 (List.mem_cons_of_mem _ hx)) with k | k
          · omega
          · exact k
      rw [this]
theorem sort_rise {l : List Int} (h : l.Nodup) : Rise (sortI l) := by
  have h1 : (sortI l).Pairwise (fun a b => decide (a ≤ b) = true) := List.pairwise_mergeSort (fun a b c h1 h2 => by simp at *; omega) (fun a b => by simp; omega) l
  have h2 : (sortI l).Nodup := (List.mergeSort_perm l _).nodup_iff.2 h
  unfold Rise
  refine (h1.and h2).imp ?_
  rintro a b ⟨h3, h4⟩
  simp at h3
  omega
theorem abv_nodup {l : List Nd} (h : Tr l) (i : Int) : (abvA l i).Nodup := by
  obtain ⟨h1, h2⟩ := hl_ends h.nl i
  rw [abvA_ends h1 h2]
  unfold List.Nodup
  rw [List.pairwise_map]
  refine List.Pairwise.imp_of_mem ?_ List.pairwise_lt_range
  intro a b ha hb hab e
  rw [List.mem_range] at ha hb
  have e1 := hl_upN h.nl (t := a) (x := i) (fun j hj => h1.2 j (by omega))
  have e2 := hl_upN h.nl (t := b) (x := i) (fun j hj => h1.2 j (by omega))
  rw [e] at e1
  omega
/-- A number is what its parts make. -/
theorem num_parts (f : Nat → Int) (N : Int) : numK f (prA f N) (prQ f N 4) 4 = N := by
  have st : ∀ i, prQ f N (i + 1) * f (3 - i) + (prQ f N i).tmod (f (3 - i)) = prQ f N i := fun i => by
    show (prQ f N i).tdiv (f (3 - i)) * f (3 - i) + _ = _
    rw [Int.mul_comm]
    exact Int.mul_tdiv_add_tmod _ _
  have e1 : numK f (prA f N) (prQ f N 4) 1 = prQ f N 3 := st 3
  have e2 : numK f (prA f N) (prQ f N 4) 2 = prQ f N 2 := by
    show numK f (prA f N) (prQ f N 4) 1 * f 1 + prA f N 1 = _
    rw [e1]; exact st 2
  have e3 : numK f (prA f N) (prQ f N 4) 3 = prQ f N 1 := by
    show numK f (prA f N) (prQ f N 4) 2 * f 2 + prA f N 2 = _
    rw [e2]; exact st 1
  show numK f (prA f N) (prQ f N 4) 3 * f 3 + prA f N 3 = _
  rw [e3]; exact st 0
theorem div_one {m f a : Int} (hm : 0 ≤ m) (ha : 0 ≤ a ∧ a < f) : (m * f + a).tdiv f = m ∧ (m * f + a).tmod f = a := by
  have h0 : 0 ≤ m * f + a := by have := Int.mul_nonneg hm (by omega : 0 ≤ f); omega
  rw [Int.tdiv_eq_ediv_of_nonneg h0, Int.tmod_eq_emod_of_nonneg h0]
  constructor
  · rw [Int.add_comm, Int.add_mul_ediv_right _ _ (by omega), Int.ediv_eq_zero_of_lt ha.1 ha.2]; omega
  · rw [Int.add_comm, Int.add_mul_emod_self_right, Int.emod_eq_of_lt ha.1 ha.2]
theorem num_nonneg {f a : Nat → Int} {m : Int} (hm : 0 ≤ m) (hf : ∀ k, 0 ≤ f k) (ha : ∀ k, 0 ≤ a k) : ∀ k, 0 ≤ numK f a m k := by
  intro k
  induction k with
  | zero => exact hm
  | succ k ih => show 0 ≤ numK f a m k * f k + a k; have := Int.mul_nonneg ih (hf k); have := ha k; omega
/-- The parts of a number that was made. -/
theorem parts_num {f a : Nat → Int} {m : Int} (hm : 0 ≤ m) (ha : ∀ k, 0 ≤ a k ∧ a k < f k) : prQ f (numK f a m 4) 4 = m ∧ ∀ k, k < 4 → prA f (numK f a m 4) k = a k := by
  have hn := num_nonneg (f := f) (a := a) hm (fun k => by have := ha k; omega) (fun k => (ha k).1)
  have q0 : prQ f (numK f a m 4) 0 = numK f a m 4 := rfl
  have st : ∀ k, (numK f a m (k + 1)).tdiv (f k) = numK f a m k ∧ (numK f a m (k + 1)).tmod (f k) = a k := fun k => div_one (hn k) (ha k)
  have q1 : prQ f (numK f a m 4) 1 = numK f a m 3 := (st 3).1
  have q2 : prQ f (numK f a m 4) 2 = numK f a m 2 := by show (prQ f (numK f a m 4) 1).tdiv (f 2) = _; rw [q1]; exact (st 2).1
  have q3 : prQ f (numK f a m 4) 3 = numK f a m 1 := by show (prQ f (numK f a m 4) 2).tdiv (f 1) = _; rw [q2]; exact (st 1).1
  refine ⟨by show (prQ f (numK f a m 4) 3).tdiv (f 0) = _; rw [q3]; exact (st 0).1, fun k hk => ?_⟩
  have : k = 0 ∨ k = 1 ∨ k = 2 ∨ k = 3 := by omega
  rcases this with rfl | rfl | rfl | rfl
  · show (prQ f (numK f a m 4) 3).tmod (f 0) = _; rw [q3]; exact (st 0).2
  · show (prQ f (numK f a m 4) 2).tmod (f 1) = _; rw [q2]; exact (st 1).2
  · show (prQ f (numK f a m 4) 1).tmod (f 2) = _; rw [q1]; exact (st 2).2
  · show (prQ f (numK f a m 4) 0).tmod (f 3) = _; rw [q0]; exact (st 3).2
theorem num_lt_mul {f a : Nat → Int} {m M : Int} (hm : m < M) (ha : ∀ k, 0 ≤ a k ∧ a k < f k) : ∀ k, numK f a m k < mulK f M k := by
  intro k
  induction k with
  | zero => exact hm
  | succ k ih =>
    show numK f a m k * f k + a k < mulK f M k * f k
    have h1 := ha k
    have h2 : (numK f a m k + 1) * f k ≤ mulK f M k * f k := Int.mul_le_mul_of_nonneg_right (by omega) (by omega)
    rw [Int.add_mul] at h2
    omega
theorem part_ok {f : Nat → Int} {N M : Int} (hf : ∀ k, 1 ≤ f k) (hN : 0 ≤ N ∧ N < mulK f M 4) : (0 ≤ prQ f N 4 ∧ prQ f N 4 < M) ∧ ∀ k, k < 4 → 0 ≤ prA f N k ∧ prA f N k < f k := by
  have hq : ∀ i, 0 ≤ prQ f N i := fun i => by
    induction i with
    | zero => exact hN.1
    | succ i ih => show 0 ≤ (prQ f N i).tdiv _; rw [Int.tdiv_eq_ediv_of_nonneg ih]; exact Int.ediv_nonneg ih (by have := hf (3 - i); omega)
  have hA : ∀ k, k < 4 → 0 ≤ prA f N k ∧ prA f N k < f k := fun k hk => by
    unfold prA
    rw [Int.tmod_eq_emod_of_nonneg (hq _)]
    have := hf k
    exact ⟨Int.emod_nonneg _ (by omega), Int.emod_lt_of_pos _ (by omega)⟩
  refine ⟨⟨hq 4, ?_⟩, hA⟩
  by_cases c : prQ f N 4 < M
  · exact c
  · exfalso
    have h1 : ∀ k, k ≤ 4 → mulK f M k ≤ numK f (prA f N) (prQ f N 4) k := fun k => by
      induction k with
      | zero => intro _; show M ≤ prQ f N 4; omega
      | succ k ih =>
        intro hk
        show mulK f M k * f k ≤ numK f (prA f N) (prQ f N 4) k * f k + prA f N k
        have h2 := ih (by omega)
        have h3 := hf k
        have h4 : mulK f M k * f k ≤ numK f (prA f N) (prQ f N 4) k * f k := Int.mul_le_mul_of_nonneg_right h2 (by omega)
        have := (hA k (by omega)).1
        omega
    have h2 := h1 4 (by omega)
    rw [num_parts] at h2
    omega
theorem num_congr {f a b : Nat → Int} {m : Int} : ∀ k, (∀ j, j < k → a j = b j) → numK f a m k = numK f b m k := by
  intro k
  induction k with
  | zero => intro _; rfl
  | succ k ih => intro h; show numK f a m k * f k + a k = numK f b m k * f k + b k; rw [ih (fun j hj => h j (by omega)), h k (by omega)]
def Lex (x y : List Int) : Prop := ∃ j, j < x.length ∧ (∀ i, i < j → at4 x i = at4 y i) ∧ at4 x j < at4 y j
theorem num_lex {f : Nat → Int} {m : Int} {x y : List Int} (hx : ∀ k, 0 ≤ at4 x k ∧ at4 x k < f k) (hy : ∀ k, 0 ≤ at4 y k ∧ at4 y k < f k) (hl : x.length ≤ 4) (h : Lex x y) : numK f (at4 x) m 4 < numK f (at4 y) m 4 := by
  obtain ⟨j, hj, h1, h2⟩ := h
  have e := num_congr (f := f) (m := m) j h1
  have st : ∀ k, j < k → numK f (at4 x) m k < numK f (at4 y) m k := fun k => by
    induction k with
    | zero => intro h; omega
    | succ k ih =>
      intro hk
      show numK f (at4 x) m k * f k + at4 x k < numK f (at4 y) m k * f k + at4 y k
      by_cases c : k = j
      · subst c; rw [e]; omega
      · have h3 := ih (by omega)
        have h4 := hx k
        have h5 := hy k
        have h6 : (numK f (at4 x) m k + 1) * f k ≤ numK f (at4 y) m k * f k := Int.mul_le_mul_of_nonneg_right (by omega) (by omega)
        rw [Int.add_mul] at h6
        omega
  exact st 4 (by omega)
theorem prods_lex : ∀ (ls : List (List Int)), (∀ l, l ∈ ls → Rise l) → (prods ls).Pairwise Lex := by
  intro ls
  induction ls with
  | nil => intro _; simp [prods]
  | cons l r ih =>
    intro h
    simp only [prods]
    rw [List.pairwise_flatMap]
    refine ⟨fun v hv => ?_, ?_⟩
    · rw [List.pairwise_map]
      refine (ih (fun x hx => h x (by simp [hx]))).imp ?_
      rintro x y ⟨j, h1, h2, h3⟩
      refine ⟨j + 1, by simpa using h1, fun i hi => ?_, by simpa [at4] using h3⟩
      cases i with
      | zero => rfl
      | succ i => have := h2 i (by omega); simpa [at4] using this
    · refine (h l (by simp)).imp ?_
      intro v1 v2 hv x hx y hy
      rw [List.mem_map] at hx hy
      obtain ⟨t1, _, rfl⟩ := hx
      obtain ⟨t2, _, rfl⟩ := hy
      exact ⟨0, by simp, fun i hi => absurd hi (by omega), by simpa [at4] using hv⟩
theorem rngI_rise (f : Int) (m : Nat) : Rise (rngI f m) := by
  unfold Rise rngI
  rw [List.pairwise_map]
  refine List.Pairwise.imp ?_ List.pairwise_lt_range
  intro a b h
  omega
/-- What is known of a catalogue that can be. -/
def Spans (l : List Nd) : Prop := ∀ i : Nat, i < l.length → ∃ A C, lvsN l = A ++ lvS l i ++ C
structure Ct (ds : List Dm) (ms : List ByteArray) : Prop where
  d1 : 1 ≤ ds.length
  d4 : ds.length ≤ 4
  m4 : ms.length ≤ 4
  tr : ∀ k, k < ds.length → Tr (dmL ds k)
  sp : ∀ k, k < ds.length → Spans (dmL ds k)
  one : ∀ k, k < ds.length → 1 ≤ (dmL ds k).length
  le : ∀ k, k < ds.length → (dmL ds k).length ≤ 60
theorem SW.ct {w : World} {s p : Nat} {ds : List Dm} {ms : List ByteArray} {tp : Nat → Nat} {rv : Nat → Option Addr × Nat} (h : SW w s p ds ms tp rv) : Ct ds ms :=
  ⟨h.d1, h.d4, h.m4, fun k hk => (h.whole hk).tr, fun k hk i hi => by
    obtain ⟨mb, pb, kv, rk, fr, tu, ov, lv, _, _, _, _, hsp, _⟩ := (h.whole hk).ex
    obtain ⟨A, C, e, _⟩ := hsp i hi
    exact ⟨A, C, e⟩, fun k hk => (h.whole hk).one, fun k hk => (h.whole hk).big⟩
section
variable {ds : List Dm} {ms : List ByteArray}
theorem Ct.leas (h : Ct ds ms) (k : Nat) : 1 ≤ (leas ds k : Int) := by
  unfold Go.Proofs.YtmmdfpafkmhgcaaGreat.leas; split
  · next e => have := lvs_ne (h.tr k e) (h.one k e); omega
  · omega
theorem Ct.many (h : Ct ds ms) (k : Nat) : 1 ≤ (many ds k : Int) := by
  unfold Go.Proofs.YtmmdfpafkmhgcaaGreat.many; split
  · next e => have := h.one k e; omega
  · omega
theorem place_iff {x : Int} {n : Nat} : placeB x n = true ↔ 0 ≤ x ∧ x < n := by unfold placeB; simp
theorem right_iff {cm : Int} {at_ : Nat → Int} : rightB ms ds cm at_ = true ↔ (0 ≤ cm ∧ cm < ms.length) ∧ ∀ k, k < 4 → 0 ≤ at_ k ∧ at_ k < many ds k := by
  unfold rightB
  simp only [Bool.and_eq_true, place_iff]
  constructor
  · rintro ⟨h0, h1, h2, h3, h4⟩
    refine ⟨h0, fun k hk => ?_⟩
    have : k = 0 ∨ k = 1 ∨ k = 2 ∨ k = 3 := by omega
    rcases this with rfl | rfl | rfl | rfl <;> assumption
  · rintro ⟨h0, h1⟩
    exact ⟨h0, h1 0 (by omega), h1 1 (by omega), h1 2 (by omega), h1 3 (by omega)⟩
theorem leas_in {k : Nat} (hk : k < ds.length) : leas ds k = (lvsN (dmL ds k)).length := if_pos hk
theorem leas_out {k : Nat} (hk : ¬ k < ds.length) : leas ds k = 1 := if_neg hk
theorem many_in {k : Nat} (hk : k < ds.length) : many ds k = (dmL ds k).length := if_pos hk
theorem many_out {k : Nat} (hk : ¬ k < ds.length) : many ds k = 1 := if_neg hk
/-- The leaf of a code: its members are leaves. -/
theorem lf_at (h : Ct ds ms) {n : Int} (hn : okC ms ds n) {k : Nat} (hk : k < ds.length) : ∃ (r : Nat) (hr : r < (lvsN (dmL ds k)).length), prA (fun k => leas ds k) n k = r ∧ lfF ds n ds.length k = ((lvsN (dmL ds k))[r] : Nat) ∧ (lvsN (dmL ds k))[r] < (dmL ds k).length ∧ leafB (dmL ds k) (lvsN (dmL ds k))[r] = true := by
  have hp := (part_ok (fun k => h.leas k) hn).2 k (by have := h.d4; omega)
  rw [leas_in hk] at hp
  have e1 : prA (fun k => leas ds k) n k = ((prA (fun k => leas ds k) n k).toNat : Int) := by omega
  have e2 : (prA (fun k => leas ds k) n k).toNat < (lvsN (dmL ds k)).length := by omega
  have hm := (lvs_mem (h.tr k hk)).1 (List.getElem_mem e2)
  refine ⟨_, e2, e1, ?_, hm.1, hm.2⟩
  unfold lfF
  rw [if_pos hk]
  unfold ints
  rw [List.getD_eq_getElem?_getD, List.getElem?_map, List.getElem?_eq_getElem e2]
  rfl
theorem lf_out {n : Int} {k : Nat} (hk : ¬ k < ds.length) : lfF ds n ds.length k = 0 := if_neg hk
theorem lf_right (h : Ct ds ms) {n : Int} (hn : okC ms ds n) : rightB ms ds (prQ (fun k => leas ds k) n 4) (lfF ds n ds.length) = true := by
  refine right_iff.2 ⟨(part_ok (fun k => h.leas k) hn).1, fun k hk => ?_⟩
  by_cases c : k < ds.length
  · obtain ⟨r, hr, _, e, h1, _⟩ := lf_at h hn c
    rw [e, many_in c]
    omega
  · rw [lf_out c, many_out c]; omega
theorem lf_leaves (h : Ct ds ms) {n : Int} (hn : okC ms ds n) : leavesB ds (lfF ds n ds.length) ds.length := fun k hk => by
  obtain ⟨r, hr, _, e, h1, h2⟩ := lf_at h hn hk
  rw [e]
  unfold leafI
  rw [decide_eq_true (isP_nat h1)]
  simpa using h2
/-- Where a leaf stands tells whether it is within a member. -/
theorem in_span (h : Ct ds ms) {k : Nat} (hk : k < ds.length) {i : Int} (hi : 0 ≤ i ∧ i < (dmL ds k).length) {r : Nat} (hr : r < (lvsN (dmL ds k)).length) : i ∈ abvA (dmL ds k) ((lvsN (dmL ds k))[r] : Nat) ↔ fromI (dmL ds k) i ≤ r ∧ r < toI (dmL ds k) i := by
  obtain ⟨j, rfl⟩ : ∃ j : Nat, i = j := ⟨i.toNat, by omega⟩
  have hj : j < (dmL ds k).length := by omega
  obtain ⟨A, C, e⟩ := h.sp k hk j hj
  have hs := span_in (h.tr k hk) hj e r hr
  unfold fromI toI
  rw [if_pos (isP_nat hj), if_pos (isP_nat hj)]
  unfold inB at hs
  rw [decide_eq_decide] at hs
  rw [hs]
  omega
/-- The leaves within a cell. -/
theorem mem_und (h : Ct ds ms) {cm : Int} {at_ : Nat → Int} {n : Int} : n ∈ undL ms ds cm at_ ↔ okC ms ds n ∧ inC ms ds (prQ (fun k => leas ds k) n 4) (lfF ds n ds.length) cm at_ := by
  unfold undL
  by_cases hr : rightB ms ds cm at_ = true
  · rw [if_pos hr, List.mem_map]
    obtain ⟨hcm, hat⟩ := right_iff.1 hr
    constructor
    · rintro ⟨x, hx, rfl⟩
      obtain ⟨p1, p2⟩ := prods_at hx
      have hb : ∀ k, 0 ≤ at4 x k ∧ at4 x k < leas ds k := fun k => by
        by_cases c : k < ds.length
        · have h1 := spanL_mem.1 (p1 k c)
          have h2 := span_bound (dmL ds k) (at_ k)
          rw [leas_in c]
          omega
        · rw [p2 k (by omega), leas_out c]; omega
      have hok : okC ms ds (numK (fun k => leas ds k) (at4 x) cm 4) := ⟨num_nonneg hcm.1 (fun k => by have := h.leas k; omega) (fun k => (hb k).1) 4, num_lt_mul hcm.2 hb 4⟩
      obtain ⟨q1, q2⟩ := parts_num (f := fun k => (leas ds k : Int)) hcm.1 hb
      refine ⟨hok, lf_right h hok, hr, q1, fun k hk => ?_⟩
      obtain ⟨r, hrr, e1, e2, _, _⟩ := lf_at h hok hk
      rw [e2]
      have h4 := h.d4
      rw [q2 k (by omega)] at e1
      have h1 := spanL_mem.1 (p1 k hk)
      rw [e1] at h1
      have h5 := hat k (by omega)
      rw [many_in hk] at h5
      exact (in_span h hk h5 hrr).2 h1
    · rintro ⟨hok, _, _, e, hin⟩
      refine ⟨(List.range ds.length).map fun k => prA (fun k => leas ds k) n k, ?_, ?_⟩
      · rw [prods_mem, lsK_len]
        refine ⟨by simp, fun k hk => ?_⟩
        rw [lsK_get _ hk]
        have e1 : ((List.range ds.length).map fun k => prA (fun k => leas ds k) n k).getD k 0 = prA (fun k => leas ds k) n k := by simp [List.getD, hk]
        rw [e1]
        obtain ⟨r, hrr, e1, e2, _, _⟩ := lf_at h hok hk
        rw [e1]
        have h1 := hin k hk
        rw [e2] at h1
        have h4 := h.d4
        have h5 := hat k (by omega)
        rw [many_in hk] at h5
        exact spanL_mem.2 ((in_span h hk h5 hrr).1 h1)
      · rw [← e]
        conv => rhs; rw [← num_parts (fun k => (leas ds k : Int)) n]
        refine num_congr 4 (fun j hj => ?_)
        unfold at4
        by_cases c : j < ds.length
        · simp [List.getD, c]
        · have hp := (part_ok (fun k => h.leas k) hok).2 j hj
          rw [leas_out c] at hp
          rw [List.getD_eq_getElem?_getD, List.getElem?_eq_none (by simp; omega)]
          show (0 : Int) = _
          omega
  · rw [if_neg hr]
    constructor
    · intro h; cases h
    · rintro ⟨_, _, h2, _⟩; exact absurd h2 hr
theorem und_rise (h : Ct ds ms) (cm : Int) (at_ : Nat → Int) : Rise (undL ms ds cm at_) := by
  unfold undL
  by_cases hr : rightB ms ds cm at_ = true
  · rw [if_pos hr]
    unfold Rise
    rw [List.pairwise_map]
    refine List.Pairwise.imp_of_mem ?_ (prods_lex (lsK (spanL ds at_) ds.length) (fun l hl => by
      simp only [lsK, List.mem_map] at hl
      obtain ⟨k, _, rfl⟩ := hl
      exact rngI_rise _ _))
    intro x y hx hy hxy
    have hb : ∀ x, x ∈ prods (lsK (spanL ds at_) ds.length) → ∀ k, 0 ≤ at4 x k ∧ at4 x k < leas ds k := fun x hx k => by
      obtain ⟨p1, p2⟩ := prods_at hx
      by_cases c : k < ds.length
      · have h1 := spanL_mem.1 (p1 k c)
        have h2 := span_bound (dmL ds k) (at_ k)
        rw [leas_in c]
        omega
      · rw [p2 k (by omega), leas_out c]; omega
    refine num_lex (f := fun k => (leas ds k : Int)) (hb x hx) (hb y hy) ?_ hxy
    rw [prods_len _ _ hx, lsK_len]
    exact h.d4
  · rw [if_neg hr]; exact List.Pairwise.nil
end
end Go.Proofs.YtmmdfpafkmhgcaaGreat
