/- Regions beside coord: the sort, joined, Of. -/
import Derived.Test.YtpkepkemjcjplaaGreatRegJ1
import Derived.Test.YtpkepkemjcjplaaGreatSortShelf
import Derived.Deep.CutRange
import Derived.Laws.AppendOwnNone
namespace Go.Proofs.YtpkepkemjcjplaaGreat
open Go.RowKit Go.Maps
open Go.Sort (SWO PermIn SortedIn HoldsK grow putRowK)
set_option linter.unusedSimpArgs false
set_option linter.unusedVariables false

def encR (x : Rn) : List Value := [.int .i64 x.1, .int .i64 x.2]
theorem cmp_Compare (x y : Int) (w : World) : Calls Tryz.prog 36 #[.int .i64 x, .int .i64 y] w fun e w' => e = .returned (.int .i64 (if x < y then -1 else if y < x then 1 else 0)) ∧ w' = w := by
  have hN : ∀ (x : Int) (w : World), Calls Tryz.prog 70 #[.int .i64 x] w fun e w' => e = .returned (.bool false) ∧ w' = w := by
    intro x w
    go_enter Tryz.func70, Tryz.ntmps70
    go_wp2_with fail
    go_ret
    first | exact ⟨rfl, rfl⟩ | exact ⟨by simp, rfl⟩
  by_cases h1 : x < y
  · rw [if_pos h1]
    go_enter Tryz.func36, Tryz.ntmps36
    go_wp2_with (go_at_call 70; refine (hN _ _).mono ?_; rintro e w1 ⟨rfl, rfl⟩)
    go_ret
    exact ⟨rfl, rfl⟩
  · rw [if_neg h1]
    have h1' : y ≤ x := by omega
    by_cases h2 : y < x
    · rw [if_pos h2]
      go_enter Tryz.func36, Tryz.ntmps36
      go_wp2_with (go_at_call 70; refine (hN _ _).mono ?_; rintro e w1 ⟨rfl, rfl⟩)
      go_ret
      exact ⟨rfl, rfl⟩
    · rw [if_neg h2]
      have h2' : x ≤ y := by omega
      go_enter Tryz.func36, Tryz.ntmps36
      go_wp2_with (go_at_call 70; refine (hN _ _).mono ?_; rintro e w1 ⟨rfl, rfl⟩)
      go_ret
      exact ⟨rfl, rfl⟩
def cfR (x y : Rn) : Int := if x.1 < y.1 then -1 else if y.1 < x.1 then 1 else 0
theorem ltR (x y : Rn) : ltOf cfR x y = decide (x.1 < y.1) := by
  unfold ltOf cfR
  by_cases h1 : x.1 < y.1
  · simp [h1]
  · by_cases h2 : y.1 < x.1 <;> simp [h1, h2]
theorem swoR : SWO (ltOf cfR) where
  irrefl x := by rw [ltR]; simp
  trans x y z h1 h2 := by rw [ltR] at *; simp at *; omega
  ntrans x y z h1 h2 := by rw [ltR] at *; simp at *; omega
theorem closureR (x y : Rn) (W : World) : Calls Tryz.prog 100 #[.agg #[.int .i64 x.1, .int .i64 x.2], .agg #[.int .i64 y.1, .int .i64 y.2]] W fun e w' => e = .returned (.int .i64 (cfR x y)) ∧ ∃ q os', w' = grow (W.drewN q) os' := by
  have hcon := fun W' => cmp_Compare x.1 y.1 W'
  have HC := hidMk hcon
  have e : cfR x y = if x.1 < y.1 then -1 else if y.1 < x.1 then 1 else 0 := rfl
  rw [← e] at HC
  clear hcon e
  generalize cfR x y = r at *
  go_enter Tryz.func100, Tryz.ntmps100
  go_wp2_with (go_at_call 36; refine (HC.out _).mono ?_; rintro e w' ⟨rfl, rfl⟩)
  go_ret
  exact ⟨rfl, 0, _, by rw [Go.Sort.alloc_eq_grow, Go.Sort.alloc_eq_grow, Go.Sort.grow_grow]; rfl⟩
theorem cmpLaysR (blk off size : Nat) (w : World) : CmpLays Tryz.prog 100 #[] encR 2 cfR blk off size w :=
  fun _ _ _ _ x y => closureR x y _
theorem slices_SortR {w : World} {g off cap : Nat} {d : Array Rn} (hH : HoldsK encR 2 w g off d) (hb : g < w.heap.size) (hsz : d.size ≤ 100000) :
    Calls Tryz.prog 99 #[.slice (some ⟨g, off, none⟩) d.size cap, .func (.func 100) #[] #[]] w fun e w' => e = .returned (.tuple #[]) ∧ ∃ d' n os, PermIn 0 d.size d d' ∧ SortedIn (ltOf cfR) 0 d.size d' ∧ w' = sortWorldK encR 2 w g off n d' os := by
  have eg : ∀ args w, (callFunc 100 args).run Tryz.prog w = .ok (.enter 100 args) w := enters_of Tryz.func100 (by kernel_rfl) rfl
  have hcon := AnyQ.slices_SortFunc Tryz.sortR 2 Tryz.isAgg102 Tryz.sizeOf102 encR (fun _ => rfl) (fun x v hv => by simp [encR] at hv; rcases hv with rfl | rfl <;> rfl) cfR swoR 100 #[] g off cap d w eg (cmpLaysR g off d.size w) hH hb (by omega)
  exact hcon
end Go.Proofs.YtpkepkemjcjplaaGreat
namespace Go.Proofs.YtpkepkemjcjplaaGreat
open Go.RowKit Go.Maps
open Go.Sort (SWO PermIn SortedIn HoldsK grow putRowK)
set_option linter.unusedSimpArgs false
set_option linter.unusedVariables false

theorem ownR_holds {w : World} {B g cap : Nat} {l : List Rn} (h : OwnR w B (.slice (some ⟨g, 0, none⟩) l.length cap) l) : HoldsK encR 2 w g 0 l.toArray := by
  intro t ht
  rw [Go.Sort.size_flatK] at ht
  rw [Go.Sort.get_flatK _ _ _ _ ht]
  have hsz : l.toArray.size = l.length := by simp
  rw [hsz] at ht
  refine ⟨?_, World.ownsRow.frozenAt h _⟩
  rw [Nat.zero_add, World.ownsRow.cellAt h t (by omega)]
  have hi : t / 2 < l.length := by omega
  have hg := flatR_get l (t / 2) hi
  have he : l.toArray[t / 2]! = rnA l (t / 2) := by simp [rnA, List.getD, List.getElem?_eq_getElem hi, hi]
  rw [he]
  rcases Nat.mod_two_eq_zero_or_one t with h0 | h1
  · rw [show t = t / 2 * 2 by omega, hg.1, show t / 2 * 2 % 2 = 0 by omega]
    simp [encR, show t / 2 * 2 / 2 = t / 2 by omega]
  · rw [show t = t / 2 * 2 + 1 by omega, hg.2, show (t / 2 * 2 + 1) % 2 = 1 by omega]
    simp [encR, show (t / 2 * 2 + 1) / 2 = t / 2 by omega]
theorem holds_rs {w : World} {g : Nat} {d : Array Rn} (h : HoldsK encR 2 w g 0 d) (hb : g < w.heap.size) : Rs w (some ⟨g, 0, none⟩) d.toList :=
  ⟨fun hp => ⟨g, 0, rfl, hb, fun i hi => by
    have hi' : i < d.size := by simpa using hi
    have h1 := (h.cell hi' (c := 0) (by omega)).1
    have h2 := (h.cell hi' (c := 1) (by omega)).1
    have e : d[i]! = rnA d.toList i := by simp [rnA, List.getD, hi']
    rw [e] at h1 h2
    exact ⟨h1, h2⟩⟩⟩
theorem chg_sort (w : World) (g n : Nat) (d : Array Rn) (os : Array Obj) : Chg (· = g) w (sortWorldK encR 2 w g 0 n d os) := by
  refine ⟨rfl, rfl, rfl, size_sortWorldK_c _ _ _ _ _ _ _ _, fun j hj hne => ?_⟩
  unfold sortWorldK putRowK
  rw [Go.Sort.heap_grow_old _ _ (by rw [show (Go.Sort.putRow id (Go.Sort.ahead w n) g 0 (Go.Sort.flatK encR 2 d)).heap.size = w.heap.size by simp [Go.Sort.putRow, Go.Sort.mapBlock, Go.Sort.ahead]]; exact hj)]
  simp [Go.Sort.putRow, Go.Sort.mapBlock, Go.Sort.ahead, Array.getElem?_modify, Ne.symm hne]
theorem sorted_list {d : Array Rn} (h : SortedIn (ltOf cfR) 0 d.size d) : d.toList.Pairwise fun r s => r.1 ≤ s.1 := by
  rw [List.pairwise_iff_getElem]
  intro i j hi hj hij
  have hi' : i < d.size := by simpa using hi
  have hj' : j < d.size := by simpa using hj
  have := h i j (Nat.zero_le _) hij hj'
  rw [ltR, decide_eq_false_iff_not] at this
  simp [hi', hj'] at this
  simpa using this
theorem perm_list {d d' : Array Rn} (h : PermIn 0 d.size d d') : d'.toList.Perm d.toList := by
  obtain ⟨h1, _, h3⟩ := h
  have e1 : d.extract 0 d.size = d := by simp
  have e2 : d'.extract 0 d.size = d' := by rw [← h1]; simp
  rw [e1, e2] at h3
  exact h3
theorem inR_perm {l m : List Rn} (h : l.Perm m) (x : Int) : inRg l x ↔ inRg m x := ⟨fun ⟨r, h1, h2⟩ => ⟨r, h.mem_iff.1 h1, h2⟩, fun ⟨r, h1, h2⟩ => ⟨r, h.mem_iff.2 h1, h2⟩⟩
theorem Rs.empty' {w : World} {a : Option Addr} {x : List Rn} (h : x.length = 0) : Rs w a x := ⟨fun hp => absurd hp (by omega)⟩
/-- slices.SortFunc of an own row of runs. -/
theorem slices_Sort_any {w : World} {B : Nat} {a : Option Addr} {c : Nat} {l : List Rn} (h : OwnR w B (.slice a l.length c) l) (hl : l.length ≤ 100000) :
    Calls Tryz.prog 99 #[.slice a l.length c, .func (.func 100) #[] #[]] w fun e w' => e = .returned (.tuple #[]) ∧ ∃ m, m.length = l.length ∧ m.Perm l ∧ m.Pairwise (fun r s => r.1 ≤ s.1) ∧ Rs w' a m ∧ Chg (fun k => (Value.slice a l.length c).ownBlock = some k) w w' := by
  have h' := h
  obtain ⟨_, ⟨hv, hz⟩ | ⟨g, cap, cur, hv, hb, hheap, hc, hcm, hsz, htk⟩⟩ := h
  · obtain ⟨rfl, _, rfl⟩ := Value.slice.inj hv
    have hl0 : l = [] := List.eq_nil_of_length_eq_zero hz
    subst hl0
    have hI : ∀ (fv : Value) (w : World), Calls Tryz.prog 124 #[.slice none 0 0, .int .i64 0, .int .i64 0, fv] w fun e w' => e = .returned (.tuple #[]) ∧ w' = w := by
      intro fv w
      go_enter Tryz.func124, Tryz.ntmps124
      go_wp2_with fail
      refine wp_loop_rounds 1 ?_
      rw [rounds_succ]
      go_wp2_with fail
      go_end0
      exact ⟨rfl, rfl⟩
    have hP : ∀ (fv : Value) (lim : Int) (w : World), Calls Tryz.prog 119 #[.slice none 0 0, .int .i64 0, .int .i64 0, .int .i64 lim, fv] w fun e w' => e = .returned (.tuple #[]) ∧ w' = w := by
      intro fv lim w
      go_enter Tryz.func119, Tryz.ntmps119
      go_wp2_with fail
      refine wp_loop_rounds 1 ?_
      rw [rounds_succ]
      go_wp2_with (go_at_call 124; refine (hI _ _).mono ?_; rintro e w' ⟨rfl, rfl⟩)
      (try simp only [Exit.inBlock, Exit.then]); refine bodyPost_ret (results_none rfl _ _ _) rfl ?_
      exact ⟨rfl, rfl⟩
    have hL : ∀ w, Calls Tryz.prog 120 #[.int .u64 0] w fun e w' => e = .returned (.int .i64 (Lib.bitLen (0 : Int).toNat)) ∧ w' = w := fun w => Any.bits_Len (SlLaysF0.n15.bits (P := Tryz.prog) (ρ := Tryz.sortR_ren) { Tryz.sortR with }) 0 w (by omega) (by omega)
    have HL := hidMk hL
    have HP := hidMk hP
    clear hL hP hI h'
    generalize (Lib.bitLen (0 : Int).toNat : Int) = z at *
    go_enter Tryz.func99, Tryz.ntmps99
    go_wp2_with fail
    refine (HL.out _).mono ?_
    rintro e w1 ⟨rfl, rfl⟩
    go_wp2_with fail
    refine (HP.out _ _ _).mono ?_
    rintro e w1 ⟨rfl, rfl⟩
    go_wp2_with fail
    go_end0
    exact ⟨rfl, [], rfl, List.Perm.refl _, List.Pairwise.nil, Rs.empty' rfl, Chg.refl _ _⟩
  · obtain ⟨rfl, _, rfl⟩ := Value.slice.inj hv
    have hg : g < w.heap.size := (h'.lt g rfl).2
    have hs := slices_SortR (cap := c) (ownR_holds h') hg (by simpa using hl)
    have e : l.toArray.size = l.length := by simp
    rw [e] at hs
    refine hs.mono fun e w' ⟨he, d', n, os, hp, hsd, hw⟩ => ⟨he, d'.toList, ?_, ?_, ?_, ?_, ?_⟩
    · have := hp.1; simpa using this
    · have := perm_list (d := l.toArray) (by simpa using hp); simpa using this
    · have : d'.size = l.length := by have := hp.1; simpa using this
      exact sorted_list (by rw [this]; exact hsd)
    · have hs' : d'.size = l.toArray.size := hp.1
      have h1 := holdsK_sortWorldK_c encR 2 w g 0 l.toArray d' n os (ownR_holds h') hg hs'
      rw [hw]
      exact holds_rs h1 (Nat.lt_of_lt_of_le hg (size_sortWorldK_c _ _ _ _ _ _ _ _))
    · rw [hw]
      exact (chg_sort w g n d' os).mono fun j _ e => by subst e; rfl
end Go.Proofs.YtpkepkemjcjplaaGreat
namespace Go.Proofs.YtpkepkemjcjplaaGreat
open Go.RowKit Go.Maps
set_option linter.unusedSimpArgs false
set_option linter.unusedVariables false

def JPost (w : World) (v : Value) (l : List Rn) (e : Ending) (w' : World) : Prop := ∃ a c m, e = .returned (.agg #[.slice a m.length c]) ∧ Rs w' a m ∧ m.length ≤ c ∧ (a = none → m = [] ∧ c = 0) ∧ (∀ ad, a = some ad → w.heap.size ≤ ad.block) ∧ Norm m ∧ (∀ x, inRg m x ↔ inRg l x) ∧ m.length ≤ l.length ∧ Chg (fun k => v.ownBlock = some k) w w'
theorem OwnR.row {w : World} {B : Nat} {v : Value} {l : List Rn} (h : OwnR w B v l) (hp : 0 < l.length) : ∃ g cap, v = .slice (some ⟨g, 0, none⟩) l.length cap ∧ l.length ≤ cap ∧ (∀ i, i < l.length → w.cell? ⟨g, i * 2, none⟩ = some (.int .i64 (rnA l i).1) ∧ w.cell? ⟨g, i * 2 + 1, none⟩ = some (.int .i64 (rnA l i).2)) ∧ (∀ j, w.frozen? ⟨g, j, none⟩ = false) ∧ B ≤ g ∧ g < w.heap.size := by
  have h' := h
  have hlt := h.lt
  obtain ⟨_, ⟨rfl, hz⟩ | ⟨g, cap, cur, rfl, hb, hheap, hc, hcm, hsz, htk⟩⟩ := h
  · omega
  · refine ⟨g, cap, rfl, hc, fun i hi => ?_, fun j => World.ownsRow.frozenAt h' j, hlt g rfl⟩
    have h1 := World.ownsRow.cellAt h' (i * 2) (by omega)
    have h2 := World.ownsRow.cellAt h' (i * 2 + 1) (by omega)
    rw [h1, h2]
    exact flatR_get l i hi
theorem two_new {W : World} {N : Nat} (h : W.heap.size = N) (u v : Value) (t : TypeId) : (W.alloc (.cells #[u, v] t)).cell? ⟨N, 0, none⟩ = some u ∧ (W.alloc (.cells #[u, v] t)).cell? ⟨N, 1, none⟩ = some v := by subst h; exact ⟨by simp, by simp⟩
theorem jn_take_len {l : List Rn} (k : Nat) (hk : k ≤ l.length) : (jn (l.take k)).length ≤ k := by
  have := jn_len (l.take k) []
  simp only [List.length_nil, List.length_take, Nat.zero_add] at this
  unfold jn
  omega
theorem rnA_jn {l : List Rn} {k : Nat} (h : k < l.length) : jn (l.take (k + 1)) = jstep (jn (l.take k)) (rnA l k) := jn_take h
/-- The last run of a set's own row, made longer. -/
theorem SB.last {w0 w : World} {rs s B g cap : Nat} {l : List Rn} (h : SB w0 w rs s B (.slice (some ⟨g, 0, none⟩) l.length cap) l) (i : Nat) (hi : i < l.length) (x : Int) :
    SB w0 (w.setCell ⟨g, i * 2 + 1, none⟩ (.int .i64 x)) rs s B (.slice (some ⟨g, 0, none⟩) l.length cap) (l.set i ((rnA l i).1, x)) := by
  obtain ⟨o1, o2⟩ := World.ownsRow.stored h.own (i * 2 + 1) (.int .i64 x)
  have hg := h.own.lt g rfl
  have hlt := h.lt
  have c2 : Chg (· = g) w (w.setCell ⟨g, i * 2 + 1, none⟩ (.int .i64 x)) := (Chg.refl (· = g) w).setCell (p := ⟨g, i * 2 + 1, none⟩) (.inl rfl) _
  obtain ⟨u, hu⟩ := h.rc
  have l1 : s < w.heap.size := cell_lt h.c
  refine ⟨c2.cellp h.c (by omega), (c2.frozen (p := ⟨s, 0, none⟩) l1 (show ¬ s = g by omega)).trans h.f, ⟨u, c2.cellp hu (by omega)⟩, (c2.frozen (p := ⟨rs, 0, none⟩) (show rs < w.heap.size by omega) (show ¬ rs = g by omega)).trans h.rf, ?_, hlt, ?_, h.kept.setCell (p := ⟨g, i * 2 + 1, none⟩) (show w0.heap.size ≤ g by have := h.h0; omega) _, h.h0⟩
  · unfold OwnR
    rw [List.length_set, ← flatR_set1 l i x hi]
    exact o1
  · have := h.hB; simp; omega
theorem SB.retC {w0 w : World} {rs s B : Nat} {v : Value} {l : List Rn} (h : SB w0 w rs s B v l) : (w.setCell ⟨rs, 0, none⟩ v).cell? ⟨rs, 0, none⟩ = some v ∧ (∃ a c, v = .slice a l.length c ∧ Rs (w.setCell ⟨rs, 0, none⟩ v) a l ∧ l.length ≤ c ∧ (a = none → l = [] ∧ c = 0) ∧ (∀ ad, a = some ad → B ≤ ad.block)) ∧ Chg (· = rs) w0 (w.setCell ⟨rs, 0, none⟩ v) := by
  obtain ⟨u, hu⟩ := h.rc
  have c2 : Chg (· = rs) w (w.setCell ⟨rs, 0, none⟩ v) := (Chg.refl (· = rs) w).setCell (p := ⟨rs, 0, none⟩) (.inl rfl) _
  have hlt := h.lt
  have ho : OwnR (w.setCell ⟨rs, 0, none⟩ v) B v l := h.own.chg c2 (fun k hk e => by have := (h.own.lt k hk).1; omega)
  obtain ⟨a, c, rfl, h1, h2, h3⟩ := ho.rs
  exact ⟨World.cell?_setCell_same _ _ _ hu, ⟨a, c, rfl, h1, h2, h3, fun ad e => (ho.lt ad.block (by rw [e]; rfl)).1⟩, (Chg.of_kept h.kept).trans c2⟩
theorem jstep_in {acc : List Rn} {r : Rn} (h : 0 < acc.length) (hr : r.1 - 1 ≤ (rnA acc (acc.length - 1)).2) : jstep acc r = acc.set (acc.length - 1) ((rnA acc (acc.length - 1)).1, max (rnA acc (acc.length - 1)).2 r.2) := if_pos ⟨h, hr⟩
theorem jstep_out {acc : List Rn} {r : Rn} (h : ¬ (0 < acc.length ∧ r.1 - 1 ≤ (rnA acc (acc.length - 1)).2)) : jstep acc r = acc ++ [r] := if_neg h
set_option maxHeartbeats 4000000 in
set_option maxRecDepth 100000 in
theorem region_joined {w : World} {B : Nat} {v : Value} {l : List Rn} (h : OwnR w B v l) (hok : ∀ r, r ∈ l → okR r) (hl : l.length ≤ 90000) :
    Calls Tryz.prog 77 #[v] w (JPost w v l) := by
  obtain ⟨a, c, rfl, h1, h2, h3⟩ := h.rs
  have HO := hidMk h
  have HK := hidMk hok
  have HSO := hidMk (slices_Sort_any (h.kept ((Kept.refl w).alloc (.cells #[.slice none 0 0] 55))) (by omega))
  clear h hok h1 h3
  go_enter Tryz.func77, Tryz.ntmps77
  go_wp2_with fail
  refine HSO.out.mono ?_
  rintro e w2 ⟨rfl, m, hml, hmp, hms, hrs, hch⟩
  have hN := jn_norm (l := m) (fun r hr => HK.out r (hmp.mem_iff.1 hr)) hms
  have HN := hidMk hN
  have HJ := hidMk (show ∀ k, k < m.length → okR (rnA m k) from fun k hk => HK.out _ (hmp.mem_iff.1 (rnA_mem hk)))
  have HNK := hidMk (show ∀ k, ∀ r, r ∈ jn (m.take k) → okR r from fun k r hr => (jn_norm (l := m.take k) (fun r hr => HK.out r (hmp.mem_iff.1 (List.mem_of_mem_take hr))) (hms.sublist (List.take_sublist _ _))).1.ok r hr)
  have HIN := hidMk (show ∀ x, inRg (jn m) x ↔ inRg l x from fun x => (hN.2 x).trans (inR_perm hmp x))
  have HR := hidMk hrs
  have HML := hidMk hml
  have HC := hidMk (show Chg (fun k => (Value.slice a l.length c).ownBlock = some k) w w2 from (Chg.of_kept ((Kept.refl w).alloc _)).trans hch)
  have rc := hch.cellp (b := w.heap.size) (o := 0) (v := .slice none 0 0) (by simp) (fun e => by have := (HO.out.lt _ e).2; omega)
  have rf := (hch.frozen (p := ⟨w.heap.size, 0, none⟩) (by simp) (fun (e : (Value.slice a l.length c).ownBlock = some w.heap.size) => by have := (HO.out.lt _ e).2; omega)).trans (show (w.alloc (.cells #[.slice none 0 0] 55)).frozen? ⟨w.heap.size, 0, none⟩ = false by simp)
  have hw2 : w.heap.size < w2.heap.size := cell_lt rc
  clear hrs hch hmp hms hN hml
  have HSB := hidMk (show SB w2 (w2.alloc (.cells #[.slice none 0 0] 55)) w.heap.size w2.heap.size (w2.heap.size + 1) (.slice none 0 0) [] from sb_new (((Kept.refl w2).alloc _).cellp rc) (by simp) ((((Kept.refl w2).alloc _).frozen (p := ⟨w.heap.size, 0, none⟩) hw2).trans rf) (by simp) hw2 (by omega) (by simp) ((Kept.refl w2).alloc _) (by omega))
  go_wp2_with fail
  go_loopg [11] l.length (fun g x wr => ∃ (k : Nat) (vv : Value), k + g = l.length ∧ x = .int .i64 k ∧ SB w2 wr w.heap.size w2.heap.size (w2.heap.size + 1) vv (jn (m.take k)))
  case atStart => exact ⟨0, .slice none 0 0, by omega, rfl, HSB.out⟩
  case round =>
    obtain ⟨k, vv, hkg, rfl, hS⟩ := hrel
    have HKG := hidMk hkg
    have hjl := jn_take_len (l := m) k (by have := HML.out; omega)
    by_cases hkn : k < l.length
    · have HT := hidMk (rnA_jn (l := m) (k := k) (by have := HML.out; omega))
      obtain ⟨b, o, rfl, hb, hcs⟩ := HR.out.cells (by have := HML.out; omega)
      obtain ⟨c1, c2⟩ := hcs k (by have := HML.out; omega)
      have hr := HJ.out k (by have := HML.out; omega)
      have hnk := HNK.out k
      have d1 := hS.kept.cellp c1
      have d2 := hS.kept.cellp c2
      clear hcs c1 c2
      generalize rnA m k = r at *
      generalize jn (m.take k) = acc at *
      obtain ⟨x, y⟩ := r
      unfold okR top at hr
      simp only at d1 d2 hr
      have hsz := hS.hB
      have hww : w2.heap.size ≤ wr.heap.size := hS.kept.size
      have hb' : b < wr.heap.size := by omega
      have hxx : IntKind.i64.wrap (x - 1) = x - 1 := by rw [IntKind.wrap_i64]; omega
      have kn' : (k : Int) < (l.length : Int) := by omega
      by_cases hC : 0 < acc.length ∧ x - 1 ≤ (rnA acc (acc.length - 1)).2
      · have HE := hidMk (jstep_in (r := (x, y)) hC.1 hC.2)
        obtain ⟨hC1, hC2⟩ := hC
        obtain ⟨g, dc, rfl, hdc, hec, hfz, hg1, hg2⟩ := hS.own.row hC1
        have HS := hidMk hS
        have s0 := hS.c
        have sf := hS.f
        have s0' := fun o => ((Kept.refl wr).alloc o).cellp s0
        clear hS hkg
        obtain ⟨e1, e2⟩ := hec (acc.length - 1) (by omega)
        have ef := hfz ((acc.length - 1) * 2 + 1)
        have hq := hnk _ (rnA_mem (l := acc) (k := acc.length - 1) (by omega))
        unfold okR top at hq
        clear hec hnk hfz
        generalize hrq : rnA acc (acc.length - 1) = q at *
        have HRQ := hidMk hrq
        clear hrq
        obtain ⟨q1, q2⟩ := q
        simp only at e1 e2 hC2 hq HE
        have hwa : IntKind.i64.wrap ((acc.length : Int) - 1) = ((acc.length - 1 : Nat) : Int) := by rw [IntKind.wrap_i64]; omega
        have hz : (0 : Int) ≤ ((acc.length - 1 : Nat) : Int) := by omega
        have hz2 : ((acc.length - 1 : Nat) : Int) < (acc.length : Int) := by omega
        have hd1 : decide ((0 : Int) ≤ ((acc.length - 1 : Nat) : Int)) = true := decide_eq_true hz
        have hd2 : decide (x - 1 ≤ q2) = true := decide_eq_true hC2
        have e2' := fun o => ((Kept.refl wr).alloc o).cellp e2
        go_upto_region 7 with fail
        refine gen_world (f := fun W => Code.wp _ _ _ _ W) (fun W => SB w2 W w.heap.size w2.heap.size (w2.heap.size + 1) (.slice (some ⟨g, 0, none⟩) acc.length dc) acc ∧ W.cell? ⟨wr.heap.size, 0, none⟩ = some (.int .i64 x) ∧ W.cell? ⟨wr.heap.size, 1, none⟩ = some (.int .i64 y) ∧ W.cell? ⟨g, (acc.length - 1) * 2 + 1, none⟩ = some (.int .i64 q2) ∧ W.frozen? ⟨g, (acc.length - 1) * 2 + 1, none⟩ = false) ⟨HS.out.keep ((Kept.refl wr).alloc _), by simp, by simp, e2' _, (((Kept.refl wr).alloc _).frozen (p := ⟨g, (acc.length - 1) * 2 + 1, none⟩) hg2).trans ef⟩ ?_
        rintro W ⟨hS2, n0, n1, n2, n3⟩
        have HS2 := hidMk hS2
        have s1 := hS2.c
        clear hS2 s0 s0' sf e1 e2 e2' d1 d2
        go_quiet (fail)
        go_wp2_with fail
        go_region
        all_goals (try go_wp2_with fail)
        all_goals
          go_roundg (gk - 1)
          case measure => have := HKG.out; omega
          case rel =>
            refine ⟨k + 1, .slice (some ⟨g, 0, none⟩) acc.length dc, by have := HKG.out; omega, by go_num, ?_⟩
            rw [HT.out, HE.out]
            have hq2 := HRQ.out
            have h9 := (HS2.out.keep ((Kept.refl W).drewN (nq + 1))).last (acc.length - 1) (by omega) (max q2 y)
            rw [hq2] at h9
            exact h9
      · have HE := hidMk (jstep_out (acc := acc) (r := (x, y)) hC)
        by_cases hC1 : 0 < acc.length
        · have hC2 : (rnA acc (acc.length - 1)).2 < x - 1 := by omega
          obtain ⟨g, dc, rfl, hdc, hec, hfz, hg1, hg2⟩ := hS.own.row hC1
          have HS := hidMk hS
          have s0 := hS.c
          have s0' := fun o => ((Kept.refl wr).alloc o).cellp s0
          obtain ⟨e1, e2⟩ := hec (acc.length - 1) (by omega)
          have hq := hnk _ (rnA_mem (l := acc) (k := acc.length - 1) (by omega))
          unfold okR top at hq
          clear hec hnk hfz hS hkg hC
          generalize rnA acc (acc.length - 1) = q at *
          obtain ⟨q1, q2⟩ := q
          simp only at e1 e2 hC2 hq
          have hwa : IntKind.i64.wrap ((acc.length : Int) - 1) = ((acc.length - 1 : Nat) : Int) := by rw [IntKind.wrap_i64]; omega
          have hz : (0 : Int) ≤ ((acc.length - 1 : Nat) : Int) := by omega
          have hz2 : ((acc.length - 1 : Nat) : Int) < (acc.length : Int) := by omega
          have hd1 : decide ((0 : Int) ≤ ((acc.length - 1 : Nat) : Int)) = true := decide_eq_true hz
          have hd2 : decide (x - 1 ≤ q2) = false := decide_eq_false (by omega)
          have e2' := fun o => ((Kept.refl wr).alloc o).cellp e2
          go_upto_region 7 with fail
          refine gen_world (f := fun W => Code.wp _ _ _ _ W) (fun W => SB w2 W w.heap.size w2.heap.size (w2.heap.size + 1) (.slice (some ⟨g, 0, none⟩) acc.length dc) acc ∧ W.cell? ⟨wr.heap.size, 0, none⟩ = some (.int .i64 x) ∧ W.cell? ⟨wr.heap.size, 1, none⟩ = some (.int .i64 y) ∧ W.cell? ⟨g, (acc.length - 1) * 2 + 1, none⟩ = some (.int .i64 q2)) ⟨HS.out.keep ((Kept.refl wr).alloc _), by simp, by simp, e2' _⟩ ?_
          rintro W ⟨hS2, n0, n1, n2⟩
          have HS2 := hidMk hS2
          have s1 := hS2.c
          have s2 := hS2.f
          have hsz2 := hS2.hB
          clear hS2 s0 s0' e1 e2 e2' d1 d2
          go_quiet (fail)
          have HP := hidMk (show ∀ (Y : World) (v' : Value) (m : List Rn), OwnR Y (w2.heap.size + 1) v' m → Chg (fun k => ((Value.slice (some ⟨g, 0, none⟩) acc.length dc)).ownBlock = some k) ((W.drewN nq).alloc (.cells #[.int .i64 x, .int .i64 y] 102)) Y → _ from fun Y v' m ho hc => HS2.out.pushK (((Kept.refl W).drewN nq).alloc _) ho hc)
          go_wp2_with (at_builtin; refine wpList_pushRn _ (by rfl) _ _ (by rfl) (w2.heap.size + 1) ((.slice (some ⟨g, 0, none⟩) acc.length dc)) acc (by rfl) (HS2.out.own.kept (((Kept.refl _).drewN nq).alloc _)) (by simp; omega) W.heap.size (x, y) (by rfl) (two_new rfl _ _ _).1 (two_new rfl _ _ _).2 (by omega) (W.heap.size + 1) (by simp) ?_; intro g4 cap4 w4 o4 k4 a4 l4; obtain ⟨z1, z2, ⟨z3, z4⟩, z5, z6, z7, z8⟩ := HP.out _ _ _ o4 k4; have H4 := hidMk z8; clear o4 k4 a4 l4 z6 z7 z8)
          go_roundg (gk - 1)
          case measure => have := HKG.out; omega
          case rel =>
            refine ⟨k + 1, .slice (some ⟨g4, 0, none⟩) (acc.length + 1) cap4, by have := HKG.out; omega, by go_num, ?_⟩
            rw [HT.out, HE.out]
            exact H4.out
        · have hl0 : acc.length = 0 := by omega
          obtain ⟨da, dc, rfl, hdr, _⟩ := hS.own.rs
          have HS := hidMk hS
          have s0 := hS.c
          have s0' := fun o => ((Kept.refl wr).alloc o).cellp s0
          clear hS hkg hC hnk
          have hwa : IntKind.i64.wrap ((acc.length : Int) - 1) = -1 := by rw [IntKind.wrap_i64]; omega
          have hd1 : decide ((0 : Int) ≤ -1) = false := by decide
          go_upto_region 7 with fail
          refine gen_world (f := fun W => Code.wp _ _ _ _ W) (fun W => SB w2 W w.heap.size w2.heap.size (w2.heap.size + 1) (.slice da acc.length dc) acc ∧ W.cell? ⟨wr.heap.size, 0, none⟩ = some (.int .i64 x) ∧ W.cell? ⟨wr.heap.size, 1, none⟩ = some (.int .i64 y)) ⟨HS.out.keep ((Kept.refl wr).alloc _), by simp, by simp⟩ ?_
          rintro W ⟨hS2, n0, n1⟩
          have HS2 := hidMk hS2
          have s1 := hS2.c
          have s2 := hS2.f
          have hsz2 := hS2.hB
          have HL0 := hidMk hl0
          clear hS2 s0 s0' d1 d2 hl0
          go_quiet (fail)
          have HP := hidMk (show ∀ (Y : World) (v' : Value) (m : List Rn), OwnR Y (w2.heap.size + 1) v' m → Chg (fun k => ((Value.slice da acc.length dc)).ownBlock = some k) ((W.drewN nq).alloc (.cells #[.int .i64 x, .int .i64 y] 102)) Y → _ from fun Y v' m ho hc => HS2.out.pushK (((Kept.refl W).drewN nq).alloc _) ho hc)
          go_wp2_with (at_builtin; refine wpList_pushRn _ (by rfl) _ _ (by rfl) (w2.heap.size + 1) ((.slice da acc.length dc)) acc (by rfl) (HS2.out.own.kept (((Kept.refl _).drewN nq).alloc _)) (by simp; omega) W.heap.size (x, y) (by rfl) (two_new rfl _ _ _).1 (two_new rfl _ _ _).2 (by omega) (W.heap.size + 1) (by simp) ?_; intro g4 cap4 w4 o4 k4 a4 l4; obtain ⟨z1, z2, ⟨z3, z4⟩, z5, z6, z7, z8⟩ := HP.out _ _ _ o4 k4; have H4 := hidMk z8; clear o4 k4 a4 l4 z6 z7 z8)
          go_roundg (gk - 1)
          case measure => have := HKG.out; omega
          case rel =>
            refine ⟨k + 1, .slice (some ⟨g4, 0, none⟩) (acc.length + 1) cap4, by have := HKG.out; omega, by go_num, ?_⟩
            rw [HT.out, HE.out]
            exact H4.out
    · have hk : m.take k = m := List.take_of_length_le (by have := HML.out; omega)
      rw [hk] at hS
      have HS := hidMk hS
      obtain ⟨da, dc, rfl, _⟩ := hS.own.rs
      have s0 := hS.c
      obtain ⟨ru, hru⟩ := hS.rc
      have hrf := hS.rf
      have hkk : ¬ ((k : Int) < (l.length : Int)) := by omega
      have hjl2 := jn_take_len (l := m) m.length (Nat.le_refl _)
      rw [List.take_length] at hjl2
      have HLE := hidMk (show (jn m).length ≤ l.length by have := HML.out; omega)
      clear hS hkg hk hjl hjl2
      go_wp2_with fail
      obtain ⟨t1, ⟨a9, c9, hv9, t4, t5, t6, t7⟩, t3⟩ := HS.out.retC
      exact set_ret rfl w.heap.size _ rfl rfl t1 ⟨a9, c9, jn m, by rw [hv9], t4, t5, t6, fun ad e => by have := t7 ad e; omega, HN.out.1, HIN.out, HLE.out, HC.out.thn t3 (fun j hj e => by omega)⟩
end Go.Proofs.YtpkepkemjcjplaaGreat
namespace Go.Proofs.YtpkepkemjcjplaaGreat
open Go.RowKit Go.Maps
set_option linter.unusedSimpArgs false
set_option linter.unusedVariables false

theorem chg_set (w : World) (g j : Nat) (v : Value) : Chg (· = g) w (w.setCell ⟨g, j, none⟩ v) := (Chg.refl (· = g) w).setCell (p := ⟨g, j, none⟩) (.inl rfl) _
theorem rs_news {w : World} {ad : Addr} {l : List Rn} (h : Rs w (some ad) l) : ∀ (j : Nat) u, (flatR l)[j]? = some u → w.cell? (ad.add j) = some u := by
  intro j u hj
  have hjn : j < l.length * 2 := by
    have := (List.getElem?_eq_some_iff.1 hj).1
    rw [flatR_len] at this
    exact this
  obtain ⟨bb, oo, e, _, hcs⟩ := h.cells (by omega)
  cases e
  obtain ⟨c1, c2⟩ := hcs (j / 2) (by omega)
  obtain ⟨g1, g2⟩ := flatR_get l (j / 2) (by omega)
  rw [Addr.add_lit]
  rcases Nat.mod_two_eq_zero_or_one j with h0 | h0
  · have e : j / 2 * 2 = j := by omega
    rw [e] at c1 g1
    rw [c1, ← hj, g1]
  · have e : j / 2 * 2 + 1 = j := by omega
    rw [Nat.add_assoc, e] at c2
    rw [e] at g2
    rw [c2, ← hj, g2]
/-- All runs of a set behind an own row. -/
theorem wpList_catR {ops : Array Oper} {rest : List Oper} {o : Oper} {a : Act} {Q : Exit → Act → World → Prop} (w : World) (hgd : o.guard = none) (s x : Operand)
    (ho : o.op = .call { callee := .builtin .append, args := #[s, x], argTypes := #[53, 53] })
    (B : Nat) (v : Value) (l t : List Rn) (hs : a.eval s = v) (hv : OwnR w B v l) (hB : B ≤ w.heap.size) (b : Option Addr) (c : Nat) (hx : a.eval x = .slice b t.length c) (hR : Rs w b t) (hbn : b = none → t = [] ∧ c = 0)
    (h47 : l.length + t.length ≤ 200000)
    (h : ∀ v' w', OwnR w' B v' (l ++ t) → Chg (fun k => v.ownBlock = some k) w w' → wpList Tryz.prog ops Q rest (a.put o.dst v') w') : wpList Tryz.prog ops Q (o :: rest) a w := by
  obtain ⟨i0, hi0, hz0, hz1, hz2⟩ := rinfo
  cases b with
  | none =>
    obtain ⟨rfl, rfl⟩ := hbn rfl
    refine wpList_append_own_none hgd s x 53 ho B 102 i0 2 Tryz.underlying53 hi0 v _ _ hs hv hx (h v w (by simpa using hv) (Chg.refl _ _))
  | some ad =>
    refine wpList_append_own_wide w hgd s x 53 ho B 102 i0 _ 2 16 Tryz.underlying53 hi0 hz0 hz1 hz2 rfl (by decide) v _ _ hs hv ad t.length c (flatR t) hx (flatR_len t) (rs_news hR) (flatR_one t) (by unfold maxLen; omega) (by omega) hB ?_
    intro v' w' h2 h3 _
    refine h v' w' ?_ ((Chg.refl _ w).grown h3 (fun k hk => .inl hk))
    unfold OwnR
    rw [flatR_app, List.length_append]
    exact h2
theorem slices_CloneR (a : Option Addr) (c : Nat) (l : List Rn) (w : World) (hs : Rs w a l) (hn : a = none → l = [] ∧ c = 0) (hl : l.length ≤ 100000) :
    Calls Tryz.prog 81 #[.slice a l.length c] w fun e w' => ∃ v, e = .returned v ∧ OwnR w' w.heap.size v l ∧ Kept w w' := by
  have q : ∀ (w : World) (a : Option Addr) (n c n' c' : Nat), (binOp .eql 53 (.slice a n c) (.slice none n' c')).run Tryz.prog w = .ok (.bool a.isNone) w := fun w a n c n' c' => Lib.run_eql_slice_nil w _ _ a n c n' c' Tryz.underlying53
  cases a with
  | none =>
    obtain ⟨rfl, rfl⟩ := hn rfl
    clear hs
    go_enter Tryz.func81, Tryz.ntmps81
    go_wp2
    go_ret
    exact ⟨_, rfl, ownR_nil _ _, Kept.refl _⟩
  | some ad =>
    have H := hidMk hs
    clear hs hn
    go_enter Tryz.func81, Tryz.ntmps81
    go_wp2_with (at_builtin; refine wpList_catR _ (by rfl) _ _ (by rfl) w.heap.size (.slice (some ⟨w.heap.size, 0, none⟩) 0 0) [] l (by rfl) (World.ownsRow_made w #[] 0 (Nat.le_refl _) (Nat.zero_le _) (by simp)) (by simp) (some ad) c (by rfl) (H.out.kept ((Kept.refl w).alloc _)) (fun e => by cases e) (by simp; omega) ?_; intro v' w1 o4 k4; have H4 := hidMk o4; have K4 := hidMk (show Kept w w1 from Chg.kept ((Kept.refl w).alloc _) k4 (fun j hj => by simp [Value.ownBlock] at hj; omega)); clear o4 k4)
    go_wp2
    go_ret
    exact ⟨_, rfl, by simpa using H4.out, K4.out⟩
def ofR (l : List Int) : List Rn := (l.filter fun x => decide (0 ≤ x)).map fun x => (x, x)
theorem ofR_take {l : List Int} {k : Nat} (h : k < l.length) : ofR (l.take (k + 1)) = if 0 ≤ l.getD k 0 then ofR (l.take k) ++ [(l.getD k 0, l.getD k 0)] else ofR (l.take k) := by
  unfold ofR
  rw [List.take_succ_eq_append_getElem h, List.filter_append, List.map_append]
  have e : l.getD k 0 = l[k] := by simp [List.getD, List.getElem?_eq_getElem h]
  rw [e]
  by_cases c : 0 ≤ l[k]
  · simp [c]
  · simp [c]
theorem ofR_len (l : List Int) : (ofR l).length ≤ l.length := by unfold ofR; rw [List.length_map]; exact List.length_filter_le _ _
theorem inR_ofR (l : List Int) (x : Int) : inRg (ofR l) x ↔ x ∈ l ∧ 0 ≤ x := by
  unfold inRg ofR
  constructor
  · rintro ⟨r, hr, h1, h2⟩
    rw [List.mem_map] at hr
    obtain ⟨y, hy, rfl⟩ := hr
    rw [List.mem_filter] at hy
    simp only at h1 h2
    have : x = y := by omega
    subst this
    simpa using hy
  · rintro ⟨h1, h2⟩
    exact ⟨(x, x), List.mem_map.2 ⟨x, List.mem_filter.2 ⟨h1, by simpa using h2⟩, rfl⟩, Int.le_refl _, Int.le_refl _⟩
theorem ofR_ok {l : List Int} (h : ∀ x, x ∈ l → isI x) : ∀ r, r ∈ ofR l → okR r := by
  intro r hr
  unfold ofR at hr
  rw [List.mem_map] at hr
  obtain ⟨y, hy, rfl⟩ := hr
  rw [List.mem_filter] at hy
  have := h y hy.1
  have h2 := hy.2
  simp at h2
  unfold isI at this
  unfold okR top
  simp only
  omega
/-- A set by which numbers are in it. -/
def SetPost (w : World) (P : Int → Prop) (n : Nat) (e : Ending) (w' : World) : Prop := ∃ v' m, e = .returned v' ∧ SetIs w' v' m ∧ Norm m ∧ (∀ x, inRg m x ↔ P x) ∧ m.length ≤ n ∧ Kept w w' ∧ ∀ ad k c, v' = .agg #[.slice (some ad) k c] → w.heap.size ≤ ad.block
theorem set_ret1 {R : Ending → World → Prop} {fn : Func} {p : Tmp} (hfn : fn.results = #[.cell p 55]) {a : Act} {w : World} (g : Nat) (v u : Value) (hp : a.tmps.getD p undef = .pointer (some ⟨g, 0, none⟩)) (hd : a.defers = [])
    (c0 : w.cell? ⟨g, 0, none⟩ = some u) (h : R (.returned (.agg #[v])) (w.setCell ⟨g, 0, none⟩ v)) : bodyPost Tryz.prog fn R .ret a (w.setCell ⟨g, 0, none⟩ v) :=
  set_ret hfn g v hp hd (World.cell?_setCell_same _ _ _ c0) h
set_option maxHeartbeats 2000000 in
theorem region_Of (a : Option Addr) (n c : Nat) (l : List Int) (w : World) (hs : Sl .i64 w a n l) (hI : ∀ x, x ∈ l → isI x) (hn : n ≤ 1000) :
    Calls Tryz.prog 46 #[.slice a n c] w (SetPost w (fun x => x ∈ l ∧ 0 ≤ x) n) := by
  have HS := hidMk hs
  have HI := hidMk hI
  have hlen := hs.len
  clear hs hI
  go_enter Tryz.func46, Tryz.ntmps46
  go_wp2_with fail
  go_loopg [3, 8] n (fun g v x wr => ∃ k : Nat, k + g = n ∧ x = .int .i64 k ∧ OwnR wr (w.heap.size + 1) v (ofR (l.take k)) ∧ Kept (w.alloc (.cells #[.slice none 0 0] 55)) wr)
  case atStart => exact ⟨0, by omega, rfl, ownR_nil _ _, Kept.refl _⟩
  case round =>
    obtain ⟨k, hkg, rfl, hO, hk⟩ := hrel
    have HKG := hidMk hkg
    have HK := hidMk hk
    have HO := hidMk hO
    have hsz : w.heap.size + 1 ≤ wr.heap.size := by have := hk.size; simpa using this
    have hol := ofR_len (l.take k)
    rw [List.length_take] at hol
    by_cases hkn : k < n
    · obtain ⟨b, o, rfl, hb, hcs⟩ := HS.out.cells (by omega)
      have hc := hk.cellp (((Kept.refl w).alloc _).cellp (hcs k hkn))
      have HT := hidMk (ofR_take (l := l) (k := k) (by omega))
      obtain ⟨da, dc, rfl, _⟩ := hO.rs
      clear hcs hk hO hkg
      generalize l.getD k 0 = x at *
      generalize ofR (l.take k) = acc at *
      by_cases hx : 0 ≤ x
      · rw [if_pos hx] at HT
        go_wp2_with (at_builtin; refine wpList_pushRn _ (by rfl) _ _ (by rfl) (w.heap.size + 1) (.slice da acc.length dc) acc (by rfl) (HO.out.kept ((Kept.refl _).alloc _)) (by simp; omega) wr.heap.size (x, x) (by rfl) (by simp) (by simp) (by omega) (wr.heap.size + 1) (by simp) ?_; intro g4 cap4 w4 o4 k4 a4 l4; have H4 := hidMk o4; have K4 := hidMk (Chg.kept (HK.out.alloc _) k4 (fun j hj => by have := (HO.out.lt j hj).1; simp; omega)); clear o4 k4 a4 l4)
        go_roundg (gk - 1)
        case measure => have := HKG.out; omega
        case rel => exact ⟨k + 1, by have := HKG.out; omega, by go_num, by rw [HT.out]; exact H4.out, K4.out⟩
      · rw [if_neg hx] at HT
        go_wp2_with fail
        go_roundg (gk - 1)
        case measure => have := HKG.out; omega
        case rel => exact ⟨k + 1, by have := HKG.out; omega, by go_num, by rw [HT.out]; exact HO.out, HK.out⟩
    · have htk : l.take k = l := List.take_of_length_le (by omega)
      rw [htk] at HO hO
      obtain ⟨da, dc, rfl, _⟩ := hO.rs
      have hkk : ¬ ((k : Int) < (n : Int)) := by omega
      have hJ := region_joined hO (ofR_ok HI.out) (by have := ofR_len l; omega)
      have HJ := hidMk hJ
      have rc := hk.cellp (b := w.heap.size) (o := 0) (v := .slice none 0 0) (by simp)
      have rf := (hk.frozen (p := ⟨w.heap.size, 0, none⟩) (by simp)).trans (show (w.alloc (.cells #[.slice none 0 0] 55)).frozen? ⟨w.heap.size, 0, none⟩ = false by simp)
      have HIN := hidMk (inR_ofR l)
      have HOL := hidMk (ofR_len l)
      clear hO hJ hk hkg hol htk
      generalize ofR l = acc at *
      go_wp2_with fail
      refine HJ.out.mono ?_
      rintro e w5 ⟨a5, c5, m5, rfl, hs5, hc5, hn5, hb5, hN5, hm5, hl5, hc⟩
      have r1 := hc.cellp rc (fun e => by have := (HO.out.lt _ e).1; omega)
      have r2 := (hc.frozen (p := ⟨w.heap.size, 0, none⟩) (cell_lt rc) (fun (e : (Value.slice da acc.length dc).ownBlock = some w.heap.size) => by have := (HO.out.lt _ e).1; omega)).trans rf
      have HK5 := hidMk (show Kept w w5 from Chg.kept (((Kept.refl w).alloc _).trans HK.out) hc (fun j hj => by have := (HO.out.lt j hj).1; omega))
      have H5 := hidMk hs5
      have HB5 := hidMk hb5
      have HNN := hidMk hn5
      have HN5 := hidMk hN5
      have HM5 := hidMk hm5
      clear hs5 hN5 hm5 hc rc rf hb5 hn5
      go_wp2_with fail
      have c2 : Chg (· = w.heap.size) w5 (w5.setCell ⟨w.heap.size, 0, none⟩ (.slice a5 m5.length c5)) := chg_set _ _ _ _
      exact set_ret1 rfl w.heap.size (.slice a5 m5.length c5) _ rfl rfl r1 ⟨_, m5, rfl, ⟨a5, c5, rfl, H5.out.chg c2 (fun _ ad e => by have := HB5.out ad e; omega), hc5, HNN.out⟩, HN5.out, fun x => (HM5.out x).trans (HIN.out x), by have := HOL.out; omega, HK5.out.setCell (p := ⟨w.heap.size, 0, none⟩) (Nat.le_refl _) _, fun ad n c e => by simp at e; have := HB5.out ad e.1; omega⟩
end Go.Proofs.YtpkepkemjcjplaaGreat
