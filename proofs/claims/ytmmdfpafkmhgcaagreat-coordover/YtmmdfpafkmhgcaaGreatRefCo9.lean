/- The definition's space: Over. -/
import Derived.Test.YtmmdfpafkmhgcaaGreatRefCo8
namespace Go.Proofs.YtmmdfpafkmhgcaaGreat
open Go.RowKit Go.Maps
set_option linter.unusedSimpArgs false
set_option linter.unusedVariables false

theorem abv_isP {l : List Nd} (h : Tr l) {x y : Int} (hy : y ∈ abvA l x) : isP l y := by
  obtain ⟨t, ht, e⟩ := (abvA_mem h.nl).1 hy
  rw [← e]
  exact (hl_ends h.nl x).1.2 t ht
section
variable {ds : List Dm} {ms : List ByteArray}
theorem ov_at (h : Ct ds ms) {n : Int} {x : List Int} (hx : x ∈ ovL ds n) : (∀ k, k < ds.length → at4 x k ∈ abvA (dmL ds k) (lfF ds n ds.length k)) ∧ (∀ k, ds.length ≤ k → at4 x k = 0) ∧ (∀ k, 0 ≤ at4 x k ∧ at4 x k < many ds k) ∧ x.length = ds.length := by
  obtain ⟨p1, p2⟩ := prods_at hx
  have p3 : ∀ k, k < ds.length → at4 x k ∈ abvA (dmL ds k) (lfF ds n ds.length k) := fun k hk => sortI_mem.1 (p1 k hk)
  refine ⟨p3, p2, fun k => ?_, by rw [prods_len _ _ hx, lsK_len]⟩
  by_cases c : k < ds.length
  · have h1 := abv_isP (h.tr k c) (p3 k c)
    rw [many_in c]
    exact ⟨h1.1, h1.2⟩
  · rw [p2 k (by omega), many_out c]; omega
/-- The cells that a leaf is within. -/
theorem mem_ov (h : Ct ds ms) {n : Int} (hn : okC ms ds n) {cm : Int} {at_ : Nat → Int} : (cm = prQ (fun k => leas ds k) n 4 ∧ ∃ x, x ∈ ovL ds n ∧ ∀ k, k < 4 → at4 x k = at_ k) ↔ inC ms ds (prQ (fun k => leas ds k) n 4) (lfF ds n ds.length) cm at_ := by
  have hr := lf_right h hn
  have h4 := h.d4
  constructor
  · rintro ⟨rfl, x, hx, he⟩
    obtain ⟨p1, p2, p3, p4⟩ := ov_at h hx
    refine ⟨hr, right_iff.2 ⟨(right_iff.1 hr).1, fun k hk => by rw [← he k hk]; exact p3 k⟩, rfl, fun k hk => ?_⟩
    rw [← he k (by omega)]
    exact p1 k hk
  · rintro ⟨_, h2, h3, h5⟩
    refine ⟨h3.symm, (List.range ds.length).map at_, ?_, fun k hk => ?_⟩
    · unfold ovL
      rw [prods_mem, lsK_len]
      refine ⟨by simp, fun k hk => ?_⟩
      rw [lsK_get _ hk]
      have e1 : ((List.range ds.length).map at_).getD k 0 = at_ k := by simp [List.getD, hk]
      rw [e1]
      exact sortI_mem.2 (h5 k hk)
    · unfold at4
      by_cases c : k < ds.length
      · simp [List.getD, c]
      · have hp := (right_iff.1 h2).2 k hk
        rw [many_out c] at hp
        rw [List.getD_eq_getElem?_getD, List.getElem?_eq_none (by simp; omega)]
        show (0 : Int) = _
        omega
/-- Their numbers. -/
noncomputable def ovN (ds : List Dm) (n : Int) : List Int := (ovL ds n).map fun x => numK (fun k => many ds k) (at4 x) (prQ (fun k => leas ds k) n 4) 4
theorem ovN_rise (h : Ct ds ms) {n : Int} : Rise (ovN ds n) := by
  unfold ovN Rise
  rw [List.pairwise_map]
  refine List.Pairwise.imp_of_mem ?_ (prods_lex (lsK (upL ds n) ds.length) (fun l hl => by
    simp only [lsK, List.mem_map, List.mem_range] at hl
    obtain ⟨k, hk, rfl⟩ := hl
    exact sort_rise (abv_nodup (h.tr k hk) _)))
  intro x y hx hy hxy
  refine num_lex (f := fun k => (many ds k : Int)) (ov_at h hx).2.2.1 (ov_at h hy).2.2.1 ?_ hxy
  rw [(ov_at h hx).2.2.2]
  exact h.d4
/-- A cell's members by its number. -/
def xsC (ds : List Dm) (i : Int) : List Int := (List.range ds.length).map fun k => prA (fun k => many ds k) i k
theorem xsC_at (h : Ct ds ms) (i : Int) {k : Nat} (hk : k < 4) : at4 (xsC ds i) k = prA (fun k => many ds k) i k := by
  unfold at4 xsC
  by_cases c : k < ds.length
  · simp [List.getD, c]
  · rw [List.getD_eq_getElem?_getD, List.getElem?_eq_none (by simp; omega)]
    exact (prA_out (d := ds.length) (fun k hk => by rw [many_out (by omega)]; rfl) (by omega)).symm
theorem xsC_num (h : Ct ds ms) {n : Int} (hn : okC ms ds n) {x : List Int} (hx : x ∈ ovL ds n) : xsC ds (numK (fun k => many ds k) (at4 x) (prQ (fun k => leas ds k) n 4) 4) = x := by
  obtain ⟨p1, p2, p3, p4⟩ := ov_at h hx
  have hm := (part_ok (fun k => h.leas k) hn).1
  have hd4 := h.d4
  obtain ⟨q1, q2⟩ := parts_num (f := fun k => (many ds k : Int)) hm.1 p3
  refine List.ext_getElem (by simp [xsC, p4]) (fun k h1 h2 => ?_)
  have hk : k < 4 := by omega
  simp only [xsC, List.getElem_map, List.getElem_range]
  rw [q2 k hk]
  unfold at4
  rw [List.getD_eq_getElem?_getD, List.getElem?_eq_getElem h2]
  rfl
/-- The cells that a leaf is within, of the first i. -/
noncomputable def ovF (ds : List Dm) (n : Int) (i : Nat) : List (List Int) := ((rngI 0 i).filter fun t => decide (t ∈ ovN ds n)).map (xsC ds)
theorem ovF_len (n : Int) (i : Nat) : (ovF ds n i).length ≤ i := by
  unfold ovF
  rw [List.length_map]
  have := List.length_filter_le (fun t => decide (t ∈ ovN ds n)) (rngI 0 i)
  rw [rngI_len] at this
  exact this
theorem ovF_yes {n : Int} {i : Nat} (h : (i : Int) ∈ ovN ds n) : ovF ds n (i + 1) = ovF ds n i ++ [xsC ds i] := by
  unfold ovF
  rw [rngI_succ, List.filter_append, Int.zero_add, List.map_append]
  simp [h]
theorem ovF_no {n : Int} {i : Nat} (h : ¬ (i : Int) ∈ ovN ds n) : ovF ds n (i + 1) = ovF ds n i := by
  unfold ovF
  rw [rngI_succ, List.filter_append, Int.zero_add, List.map_append]
  simp [h]
theorem ovN_lt (h : Ct ds ms) {n : Int} (hn : okC ms ds n) {t : Int} (ht : t ∈ ovN ds n) : 0 ≤ t ∧ t < mulK (fun k => many ds k) ms.length 4 := by
  unfold ovN at ht
  rw [List.mem_map] at ht
  obtain ⟨x, hx, rfl⟩ := ht
  have hm := (part_ok (fun k => h.leas k) hn).1
  have p3 := (ov_at h hx).2.2.1
  exact ⟨num_nonneg hm.1 (fun k => by have := h.many k; omega) (fun k => (p3 k).1) 4, num_lt_mul hm.2 p3 4⟩
theorem ovF_all (h : Ct ds ms) {n : Int} (hn : okC ms ds n) {M : Nat} (hM : mulK (fun k => many ds k) ms.length 4 = M) : ovF ds n M = ovL ds n := by
  have e : ((rngI 0 M).filter fun t => decide (t ∈ ovN ds n)) = ovN ds n := by
    refine rise_ext (List.Pairwise.filter _ ?_) (ovN_rise h) (fun x => ?_)
    · unfold rngI
      rw [List.pairwise_map]
      exact List.Pairwise.imp (fun h => by omega) List.pairwise_lt_range
    · rw [List.mem_filter]
      simp only [decide_eq_true_eq]
      refine ⟨fun h => h.2, fun hx => ⟨?_, hx⟩⟩
      have h1 := ovN_lt h hn hx
      rw [hM] at h1
      unfold rngI
      rw [List.mem_map]
      exact ⟨x.toNat, List.mem_range.2 (by omega), by omega⟩
  unfold ovF
  rw [e]
  unfold ovN
  rw [List.map_map]
  conv => rhs; rw [← List.map_id (ovL ds n)]
  refine List.map_congr_left (fun x hx => ?_)
  exact xsC_num h hn hx
theorem mem_ovN (h : Ct ds ms) {n : Int} (hn : okC ms ds n) {t : Int} (ht : 0 ≤ t ∧ t < mulK (fun k => many ds k) ms.length 4) : inC ms ds (prQ (fun k => leas ds k) n 4) (lfF ds n ds.length) (prQ (fun k => many ds k) t 4) (prA (fun k => many ds k) t) ↔ t ∈ ovN ds n := by
  rw [← mem_ov h hn]
  unfold ovN
  rw [List.mem_map]
  constructor
  · rintro ⟨e, x, hx, he⟩
    refine ⟨x, hx, ?_⟩
    rw [← e]
    conv => rhs; rw [← num_parts (fun k => (many ds k : Int)) t]
    exact num_congr 4 (fun j hj => he j hj)
  · rintro ⟨x, hx, rfl⟩
    have hm := (part_ok (fun k => h.leas k) hn).1
    obtain ⟨q1, q2⟩ := parts_num (f := fun k => (many ds k : Int)) hm.1 (ov_at h hx).2.2.1
    exact ⟨q1, x, hx, fun k hk => (q2 k hk).symm⟩
end
theorem C5.eqv {cb : Nat} {cm em : Int} {at_ et : Nat → Int} {X : World} (h : C5 cb cm at_ X) (e : em = cm) (k : ∀ j, j < 4 → et j = at_ j) : C5 cb em et X := by
  unfold C5
  rw [e, k 0 (by omega), k 1 (by omega), k 2 (by omega), k 3 (by omega)]
  exact h
theorem C5.news {g : Nat} {m : Int} {y : List Int} {w : World} (h : C5 g m (at4 y) w) : ∀ (j : Nat) u, (cfl m y)[j]? = some u → w.cell? ((⟨g, 0, none⟩ : Addr).add j) = some u := by
  obtain ⟨h0, h1, h2, h3, h4⟩ := h
  intro j u hj
  rw [Addr.add_lit, Nat.zero_add]
  have hl : j < 5 := by have := (List.getElem?_eq_some_iff.1 hj).1; simpa [cfl] using this
  have : j = 0 ∨ j = 1 ∨ j = 2 ∨ j = 3 ∨ j = 4 := by omega
  rcases this with rfl | rfl | rfl | rfl | rfl <;> (simp [cfl] at hj; subst hj; assumption)
/-- One more cell behind an own row. -/
theorem wpList_pushC5 {ops : Array Oper} {rest : List Oper} {o : Oper} {a : Act} {Q : Exit → Act → World → Prop} (w : World) (hgd : o.guard = none) (s x : Operand)
    (ho : o.op = .call { callee := .builtin .append, args := #[s, x], argTypes := #[45, 45] })
    (B : Nat) (v : Value) (m : Int) (l : List (List Int)) (hs : a.eval s = v) (hv : OwnC w B v m l) (hB : B ≤ w.heap.size) (g : Nat) (y : List Int) (hx : a.eval x = .slice (some ⟨g, 0, none⟩) 1 1) (hcell : C5 g m (at4 y) w)
    (h47 : (l.length + 1) * 40 ≤ 140737488355328) (H : Nat) (hH : w.heap.size = H)
    (h : ∀ g' cap w', OwnC w' B (.slice (some ⟨g', 0, none⟩) (l.length + 1) cap) m (l ++ [y]) → Chg (fun k => v.ownBlock = some k) w w' → (v.ownBlock = some g' ∨ g' = H) → g' < w'.heap.size → wpList Tryz.prog ops Q rest (a.put o.dst (.slice (some ⟨g', 0, none⟩) (l.length + 1) cap)) w') : wpList Tryz.prog ops Q (o :: rest) a w := by
  obtain ⟨i0, hi0, hz0, hz1, hz2⟩ := cinfo
  refine wpList_append_lies w hgd s x 45 ho B 28 i0 _ 5 40 Tryz.underlying45 hi0 hz0 hz1 hz2 rfl (by decide) v _ _ hs hv ⟨g, 0, none⟩ 1 1 (cfl m y) hx rfl hcell.news (by intro u hu; simp [cfl] at hu; rcases hu with rfl | rfl | rfl | rfl | rfl <;> rfl) (by omega) (by unfold maxLen; omega) (by omega) hB H hH ?_
  intro g' cap w' h2 h3 h4 h5
  refine h g' cap w' ?_ ((Chg.refl _ w).grown h3 (fun k hk => .inl hk)) h4 h5
  unfold OwnC
  rw [List.flatMap_append, List.flatMap_singleton, List.length_append, List.length_singleton]
  exact h2
theorem ownC_form {w : World} {B : Nat} {v : Value} {m : Int} {l : List (List Int)} (h : OwnC w B v m l) : ∃ a c, v = .slice a l.length c := by
  obtain ⟨_, ⟨h1, hz⟩ | ⟨g, cap, cur, h1, _⟩⟩ := h
  · exact ⟨none, 0, by rw [h1, hz]⟩
  · exact ⟨_, _, h1⟩
section
variable {W0 X Y Z : World} {r q : Nat} {ds : List Dm} {ms : List ByteArray} {rt : Nat → Nat} {y4 y5 : Value} {pp : Option (Nat × Nat)} {B H : Nat}
/-- What the definition's Over answers. -/
def OvR (W0 : World) (r q : Nat) (ds : List Dm) (ms : List ByteArray) (n : Int) (X : World) (e : Ending) (w' : World) : Prop := (okC ms ds n → ∃ v, e = .returned v ∧ OwnC w' X.heap.size v (prQ (fun k => leas ds k) n 4) (ovL ds n)) ∧ (¬ okC ms ds n → e = .returned (.slice none 0 0)) ∧ (∃ y4 y5 pp, RQ W0 r q ds y4 y5 pp w') ∧ Chg (fun j => j = r) X w'
/-- The row lies beside the tables. -/
def Bsd (pp : Option (Nat × Nat)) (v : Value) : Prop := ∀ B H, pp = some (B, H) → ∀ g, v.ownBlock = some g → ¬ (B ≤ g ∧ g < H)
set_option maxHeartbeats 8000000 in
set_option maxRecDepth 100000 in
theorem r7_Over (hE : RE W0 r q ds ms rt) (h : RQ W0 r q ds y4 y5 pp X) (n : Int) : Calls Tryz.prog 31 #[.pointer (some ⟨r, 0, none⟩), .int .i64 n] X (OvR W0 r q ds ms n X) := by
  have HE := hidMk hE
  have HLF := hidMk (r7_Leaf hE h n)
  have HRX := hidMk h.lt
  obtain ⟨M, hM⟩ : ∃ M : Nat, mulK (fun k => many ds k) ms.length 4 = M := ⟨(mulK (fun k => many ds k) ms.length 4).toNat, by have := (mulK_le (f := fun k => many ds k) (m := ms.length) (by have := hE.ct.m4; omega) (fun k => many60 hE.ct k)).1; omega⟩
  have hM5 : M ≤ 51840000 := by have := (mulK_le (f := fun k => many ds k) (m := ms.length) (by have := hE.ct.m4; omega) (fun k => many60 hE.ct k)).2; omega
  have HCE := hidMk (show ∀ Y p, RQ W0 r q ds y4 y5 p Y → _ from fun Y p hq => r7_Cells hE hq)
  simp only [hM] at HCE
  have HRR := hidMk hE.rr
  unfold cellV at *
  by_cases hn : okC ms ds n
  · have hn' := hn
    unfold okC at hn'
    simp only [if_pos hn'] at HLF
    have HCL := hidMk (show ∀ Y p, RQ W0 r q ds y4 y5 p Y → ∀ i : Nat, i < M → _ from fun Y p hq i hi => by
      have := r7_Cell hE hq (i : Int)
      simp only [hM, if_pos (show (0 : Int) ≤ i ∧ (i : Int) < (M : Int) by omega)] at this
      exact this)
    have HMO := hidMk (show ∀ i : Nat, i < M → (_ ↔ (i : Int) ∈ ovN ds n) from fun i hi => mem_ovN hE.ct hn (t := (i : Int)) (by rw [hM]; omega))
    have HAL := hidMk (ovF_all hE.ct hn hM)
    have HXS := hidMk (show ∀ (i : Int) (k : Nat), k < 4 → at4 (xsC ds i) k = prA (fun k => many ds k) i k from fun i k hk => xsC_at hE.ct i hk)
    have HMQ := hidMk (show ∀ i : Nat, (i : Int) ∈ ovN ds n → i < M → prQ (fun k => leas ds k) n 4 = prQ (fun k => many ds k) (i : Int) 4 from fun i hi hiM => (((mem_ovN hE.ct hn (t := (i : Int)) (by rw [hM]; omega)).2 hi).2.2.1))
    have HWI := hidMk (show ∀ Y p, RQ W0 r q ds y4 y5 p Y → ∀ cm at_, _ from fun Y p hq cm at_ => r7_Within hE hq (prQ (fun k => leas ds k) n 4) (lfF ds n ds.length) cm at_)
    obtain ⟨xm, hxm⟩ : ∃ x, x = prQ (fun k => leas ds k) n 4 := ⟨_, rfl⟩
    obtain ⟨xt, hxt⟩ : ∃ x, x = lfF ds n ds.length := ⟨_, rfl⟩
    have HXM := hidMk hxm
    rw [← hxm, ← hxt] at HLF HMO HWI
    rw [← hxm] at HMQ
    unfold cellV at HCL HWI
    clear hE h hM hn' hxm hxt
    go_enter Tryz.func31, Tryz.ntmps31
    go_wp2_with fail
    refine HLF.out.mono ?_
    rintro e w2 ⟨rfl, ⟨p2, hq2, hnx2⟩, hc2⟩
    obtain ⟨xb, hxb⟩ : ∃ x, x = w2.heap.size := ⟨_, rfl⟩
    obtain ⟨X2, hX2⟩ : ∃ V, V = w2.alloc (.cells #[.int .i64 xm, .int .i64 (xt 0), .int .i64 (xt 1), .int .i64 (xt 2), .int .i64 (xt 3)] 28) := ⟨_, rfl⟩
    have k2 : Kept w2 X2 := by rw [hX2]; exact (Kept.refl _).alloc _
    have HQ2 := hidMk (hq2.keep k2)
    have HX2 := hidMk (show C5 xb xm xt X2 from by rw [hX2, hxb]; exact C5.new _ _ _ _)
    have HNX := hidMk (show xb ≠ r from by have := hq2.lt; omega)
    have HC2 := hidMk (hc2.trans (Chg.of_kept k2))
    clear hq2 hnx2 hc2 k2 HLF
    go_wp2_with fail
    rw [← hX2, ← hxb]
    clear hX2 hxb
    refine (HCE.out _ _ HQ2.out).mono ?_
    rintro e w3 ⟨rfl, k3⟩
    have HQ3 := hidMk (HQ2.out.keep k3)
    have HX3 := hidMk (HX2.out.kept k3)
    have HC3 := hidMk (HC2.out.trans (Chg.of_kept k3))
    clear k3 HQ2 HX2 HC2 HCE
    go_wp2_with fail
    go_loopg [5, 9] (M + 1) (fun gg sv x wr => ∃ i : Nat, i + gg = M + 1 ∧ i ≤ M ∧ x = .int .i64 i ∧ Hid (OwnC wr w3.heap.size sv xm (ovF ds n i) ∧ (∃ p, RQ W0 r q ds y4 y5 p wr ∧ Bsd p sv) ∧ Chg (fun j => j = r) w3 wr))
    case atStart => exact ⟨0, by omega, by omega, rfl, hidMk ⟨World.ownsRow_nil _ _ _ _, ⟨_, HQ3.out, fun B H e g hg => by simp [Value.ownBlock] at hg⟩, Chg.refl _ _⟩⟩
    case round =>
      obtain ⟨i, hig, hiM, rfl, HS⟩ := hrel
      have HG := hidMk hig
      clear hig
      obtain ⟨lf, hlf⟩ : ∃ x, x = ovF ds n i := ⟨_, rfl⟩
      have hfl : lf.length ≤ i := by rw [hlf]; exact ovF_len n i
      rw [← hlf] at HS
      have HLF := hidMk hlf
      clear hlf
      obtain ⟨sa, sc, hsv⟩ := ownC_form HS.out.1
      subst hsv
      by_cases hi : i < M
      · have hi' : (i : Int) < (M : Int) := by omega
        obtain ⟨p, hq, hbs⟩ := HS.out.2.1
        have HBS := hidMk hbs
        have HQ := hidMk hq
        have HCC := hidMk (HCL.out _ _ hq i hi)
        have hmo := HMO.out i hi
        have hmq : (i : Int) ∈ ovN ds n → xm = prQ (fun k => many ds k) (i : Int) 4 := fun e => HMQ.out i e hi
        have hxs := HXS.out (i : Int)
        obtain ⟨zm, hzm⟩ : ∃ x, x = prQ (fun k => many ds k) (i : Int) 4 := ⟨_, rfl⟩
        obtain ⟨zt, hzt⟩ : ∃ x, x = prA (fun k => many ds k) (i : Int) := ⟨_, rfl⟩
        rw [← hzm, ← hzt] at HCC hmo
        rw [← hzm] at hmq
        rw [← hzt] at hxs
        have HMOi := hidMk hmo
        have HMQi := hidMk hmq
        have HXSi := hidMk hxs
        clear hzm hzt hq hbs hmo hmq hxs
        go_wp2_with fail
        refine HCC.out.mono ?_
        rintro e w4 ⟨rfl, k4⟩
        have HK4 := hidMk k4
        have HX4 := hidMk ((HX3.out.chg HS.out.2.2 HNX.out).kept (k4.alloc (.cells #[.int .i64 zm, .int .i64 (zt 0), .int .i64 (zt 1), .int .i64 (zt 2), .int .i64 (zt 3)] 28)))
        have HZ4 := hidMk (C5.new w4 zm zt 28)
        have HWW := hidMk (HWI.out _ _ (HQ.out.keep (k4.alloc (.cells #[.int .i64 zm, .int .i64 (zt 0), .int .i64 (zt 1), .int .i64 (zt 2), .int .i64 (zt 3)] 28))) zm zt)
        have HGR := hidMk (show w4.heap.size ≠ r from by have h1 := HQ.out.lt; have h2 := k4.size; omega)
        obtain ⟨x0, x1, x2, x3, x4⟩ := HX4.out
        obtain ⟨z0, z1, z2, z3, z4⟩ := HZ4.out
        clear k4 HCC
        go_wp2_with fail
        clear x0 x1 x2 x3 x4 z0 z1 z2 z3 z4
        refine HWW.out.mono ?_
        rintro e w5 ⟨bb, rfl, hb, ⟨p5, hq5, hnx5⟩, hc5⟩
        have hown : ∀ g, (Value.slice sa lf.length sc).ownBlock = some g → (w3.heap.size ≤ g ∧ g < wr.heap.size) ∧ g ≠ r := fun g hg => ⟨World.ownsRow.lt HS.out.1 g hg, by have h1 := (World.ownsRow.lt HS.out.1 g hg).1; have h2 := HQ3.out.lt; omega⟩
        have hc0 : Chg (fun j => j = r) wr w5 := (Chg.of_kept (HK4.out.alloc _)).trans hc5
        have HO5 := hidMk (show OwnC w5 w3.heap.size (.slice sa lf.length sc) xm lf from ownsRow_chg HS.out.1 hc0 (fun g hg => (hown g hg).2))
        have HOW := hidMk hown
        have HQ5 := hidMk hq5
        have HBS5 := hidMk (show Bsd p5 (.slice sa lf.length sc) from fun B H e g hg hh => by
          rcases hnx5.get e with e1 | e1
          · exact HBS.out B H e1 g hg hh
          · have h1 := (hown g hg).1; have h2 := (HK4.out.alloc (.cells #[.int .i64 zm, .int .i64 (zt 0), .int .i64 (zt 1), .int .i64 (zt 2), .int .i64 (zt 3)] 28)).size; omega)
        have HX5 := hidMk (HS.out.2.2.trans hc0)
        have HB := hidMk (hb.trans HMOi.out)
        have HZ5 := hidMk (HZ4.out.chg hc5 HGR.out)
        clear hb hq5 hnx5 hc5 HWW HS hown hc0 HZ4 HX4 HQ HBS HMOi
        cases bb with
        | false =>
          go_wp2_with fail
          go_roundg (gk - 1)
          case measure => have := HG.out; omega
          case rel => exact ⟨i + 1, by have := HG.out; omega, by omega, by go_num, hidMk ⟨by
            rw [ovF_no (fun e => by have := HB.out.2 e; cases this), ← HLF.out]; exact HO5.out, ⟨p5, HQ5.out, HBS5.out⟩, HX5.out⟩⟩
        | true =>
          have hin : (i : Int) ∈ ovN ds n := by have h9 := HB.out; simpa using h9
          have HIN := hidMk hin
          have HS5 := hidMk HX5.out.size
          have HC5 := hidMk (show C5 w5.heap.size xm (at4 (xsC ds (i : Int))) (w5.alloc (.cells #[.int .i64 zm, .int .i64 (zt 0), .int .i64 (zt 1), .int .i64 (zt 2), .int .i64 (zt 3)] 28)) from (C5.new w5 zm zt _).eqv (HMQi.out hin) HXSi.out)
          obtain ⟨z0, z1, z2, z3, z4⟩ := HZ5.out
          clear hin
          go_wp2_with (at_builtin; refine wpList_pushC5 _ (by rfl) _ _ (by rfl) w3.heap.size (.slice sa lf.length sc) xm lf (by rfl) (ownsRow_chg HO5.out (S := fun _ => False) (Chg.of_kept ((Kept.refl _).alloc _)) (fun _ _ e => e)) (by have := HS5.out; simp; omega) w5.heap.size (xsC ds (i : Int)) (by rfl) HC5.out (by omega) (w5.heap.size + 1) (by simp) ?_; intro g6 cap6 w6 o6 k6 a6 l6; have H6 := hidMk o6; have K6 := hidMk k6; have A6 := hidMk a6; clear o6 k6 a6 l6)
          go_roundg (gk - 1)
          case measure => have := HG.out; omega
          case rel =>
            have hq6 : RQ W0 r q ds y4 y5 p5 (w5.alloc (.cells #[.int .i64 zm, .int .i64 (zt 0), .int .i64 (zt 1), .int .i64 (zt 2), .int .i64 (zt 3)] 28)) := HQ5.out.keep ((Kept.refl _).alloc _)
            refine ⟨i + 1, by have := HG.out; omega, by omega, by go_num, hidMk ⟨?_, ⟨p5, ?_, ?_⟩, ?_⟩⟩
            · rw [ovF_yes HIN.out, ← HLF.out]; exact H6.out
            · refine hq6.chg K6.out (fun j e => ?_) (fun B' H' e j e2 hh => HBS5.out B' H' e j e2 hh)
              have h1 := HOW.out j e; have h2 := HQ3.out.lt; have h3 := HRR.out; omega
            · intro B' H' e g hg hh
              have hg' : g = g6 := by simpa [Value.ownBlock] using hg.symm
              subst hg'
              rcases A6.out with e1 | e1
              · exact HBS5.out B' H' e g e1 hh
              · have h1 := (HQ5.out.hole e).2; omega
            · exact (HX5.out.alloc _).thn2 K6.out (fun j hj e => by have h1 := HOW.out j e; omega)
      · have hie : i = M := by omega
        subst hie
        have hi' : ¬ ((i : Int) < (i : Int)) := by omega
        go_wp2_with fail
        go_ret
        obtain ⟨p, hq, _⟩ := HS.out.2.1
        refine ⟨fun _ => ⟨_, rfl, ?_⟩, fun e => absurd hn e, ⟨_, _, _, hq⟩, HC3.out.trans HS.out.2.2⟩
        rw [← HXM.out, ← HAL.out, ← HLF.out]
        exact ownsRow_base HS.out.1 HC3.out.size
  · have hn' := hn
    unfold okC at hn'
    simp only [if_neg hn'] at HLF
    clear hE h hM hn'
    go_enter Tryz.func31, Tryz.ntmps31
    go_wp2_with fail
    refine HLF.out.mono ?_
    rintro e w2 ⟨rfl, ⟨p2, hq2, hnx2⟩, hc2⟩
    obtain ⟨X2, hX2⟩ : ∃ V, V = w2.alloc (.cells #[.int .i64 0, .int .i64 0, .int .i64 0, .int .i64 0, .int .i64 0] 28) := ⟨_, rfl⟩
    have k2 : Kept w2 X2 := by rw [hX2]; exact (Kept.refl _).alloc _
    have HQ2 := hidMk (hq2.keep k2)
    have HC2 := hidMk (hc2.trans (Chg.of_kept k2))
    clear hq2 hnx2 hc2 k2 HLF
    go_wp2_with fail
    rw [← hX2]
    clear hX2
    refine (HCE.out _ _ HQ2.out).mono ?_
    rintro e w3 ⟨rfl, k3⟩
    have HQ3 := hidMk (HQ2.out.keep k3)
    have HC3 := hidMk (HC2.out.trans (Chg.of_kept k3))
    clear k3 HQ2 HC2 HCE
    go_wp2_with fail
    go_loopg [5, 9] 1 (fun gg sv x wr => gg = 1 ∧ sv = .slice none 0 0 ∧ x = .int .i64 0 ∧ wr = w3)
    case atStart => exact ⟨rfl, rfl, rfl, rfl⟩
    case round =>
      obtain ⟨rfl, rfl, rfl, rfl⟩ := hrel
      by_cases h0 : (0 : Int) < (M : Int)
      · go_wp2_with fail
        go_ret
        exact ⟨fun e => absurd e hn, fun _ => rfl, ⟨_, _, _, HQ3.out⟩, HC3.out⟩
      · go_wp2_with fail
        go_ret
        exact ⟨fun e => absurd e hn, fun _ => rfl, ⟨_, _, _, HQ3.out⟩, HC3.out⟩
end
end Go.Proofs.YtmmdfpafkmhgcaaGreat
