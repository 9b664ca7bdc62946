/- region: joined. -/
import Derived.Test.YthbogpnkdlbilaaReg5
import Derived.Deep.CutRange
namespace Go.Proofs.Ythbogpnkdlbilaa
open Go.RowKit Go.Maps
set_option linter.unusedSimpArgs false
set_option linter.unusedVariables false

def JPost (w : World) (v : Value) (l : List Rn) (e : Ending) (w' : World) : Prop := ∃ a c m, e = .returned (.agg #[.slice a m.length c]) ∧ Rs w' a m ∧ m.length ≤ c ∧ (a = none → m = [] ∧ c = 0) ∧ (∀ ad, a = some ad → w.heap.size ≤ ad.block) ∧ Norm m ∧ (∀ x, inR m x ↔ inR l x) ∧ m.length ≤ l.length ∧ Chg (fun k => v.ownBlock = some k) w w'
theorem OwnR.row {w : World} {B : Nat} {v : Value} {l : List Rn} (h : OwnR w B v l) (hp : 0 < l.length) : ∃ g cap, v = .slice (some ⟨g, 0, none⟩) l.length cap ∧ l.length ≤ cap ∧ (∀ i, i < l.length → w.cell? ⟨g, i * 2, none⟩ = some (.int .i64 (rnA l i).1) ∧ w.cell? ⟨g, i * 2 + 1, none⟩ = some (.int .i64 (rnA l i).2)) ∧ (∀ j, w.frozen? ⟨g, j, none⟩ = false) ∧ B ≤ g ∧ g < w.heap.size := by
  have h' := h
  have hlt := h.lt
  obtain ⟨_, ⟨rfl, hz⟩ | ⟨g, cap, cur, rfl, hb, hheap, hc, hcm, hsz, htk⟩⟩ := h
  · omega
  · refine ⟨g, cap, rfl, hc, fun i hi => ?_, fun j => World.ownsRow.frozenAt h' j, hlt g rfl⟩
    have h1 := World.ownsRow.cellAt h' (i * 2) (by omega)
    have h2 := World.ownsRow.cellAt h' (i * 2 + 1) (by omega)
    rw [h1, h2]
    exact flatR_get l i hi
theorem two_new {W : World} {N : Nat} (h : W.heap.size = N) (u v : Value) (t : TypeId) : (W.alloc (.cells #[u, v] t)).cell? ⟨N, 0, none⟩ = some u ∧ (W.alloc (.cells #[u, v] t)).cell? ⟨N, 1, none⟩ = some v := by subst h; exact ⟨by simp, by simp⟩
theorem jn_take_len {l : List Rn} (k : Nat) (hk : k ≤ l.length) : (jn (l.take k)).length ≤ k := by
  have := jn_len (l.take k) []
  simp only [List.length_nil, List.length_take, Nat.zero_add] at this
  unfold jn
  omega
theorem rnA_jn {l : List Rn} {k : Nat} (h : k < l.length) : jn (l.take (k + 1)) = jstep (jn (l.take k)) (rnA l k) := jn_take h
/-- The last run of a set's own row, made longer. -/
theorem SB.last {w0 w : World} {rs s B g cap : Nat} {l : List Rn} (h : SB w0 w rs s B (.slice (some ⟨g, 0, none⟩) l.length cap) l) (i : Nat) (hi : i < l.length) (x : Int) :
    SB w0 (w.setCell ⟨g, i * 2 + 1, none⟩ (.int .i64 x)) rs s B (.slice (some ⟨g, 0, none⟩) l.length cap) (l.set i ((rnA l i).1, x)) := by
  obtain ⟨o1, o2⟩ := World.ownsRow.stored h.own (i * 2 + 1) (.int .i64 x)
  have hg := h.own.lt g rfl
  have hlt := h.lt
  have c2 : Chg (· = g) w (w.setCell ⟨g, i * 2 + 1, none⟩ (.int .i64 x)) := (Chg.refl (· = g) w).setCell (p := ⟨g, i * 2 + 1, none⟩) (.inl rfl) _
  obtain ⟨u, hu⟩ := h.rc
  have l1 : s < w.heap.size := cell_lt h.c
  refine ⟨c2.cellp h.c (by omega), (c2.frozen (p := ⟨s, 0, none⟩) l1 (show ¬ s = g by omega)).trans h.f, ⟨u, c2.cellp hu (by omega)⟩, (c2.frozen (p := ⟨rs, 0, none⟩) (show rs < w.heap.size by omega) (show ¬ rs = g by omega)).trans h.rf, ?_, hlt, ?_, h.kept.setCell (p := ⟨g, i * 2 + 1, none⟩) (show w0.heap.size ≤ g by have := h.h0; omega) _, h.h0⟩
  · unfold OwnR
    rw [List.length_set, ← flatR_set1 l i x hi]
    exact o1
  · have := h.hB; simp; omega
theorem SB.retC {w0 w : World} {rs s B : Nat} {v : Value} {l : List Rn} (h : SB w0 w rs s B v l) : (w.setCell ⟨rs, 0, none⟩ v).cell? ⟨rs, 0, none⟩ = some v ∧ (∃ a c, v = .slice a l.length c ∧ Rs (w.setCell ⟨rs, 0, none⟩ v) a l ∧ l.length ≤ c ∧ (a = none → l = [] ∧ c = 0) ∧ (∀ ad, a = some ad → B ≤ ad.block)) ∧ Chg (· = rs) w0 (w.setCell ⟨rs, 0, none⟩ v) := by
  obtain ⟨u, hu⟩ := h.rc
  have c2 : Chg (· = rs) w (w.setCell ⟨rs, 0, none⟩ v) := (Chg.refl (· = rs) w).setCell (p := ⟨rs, 0, none⟩) (.inl rfl) _
  have hlt := h.lt
  have ho : OwnR (w.setCell ⟨rs, 0, none⟩ v) B v l := h.own.chg c2 (fun k hk e => by have := (h.own.lt k hk).1; omega)
  obtain ⟨a, c, rfl, h1, h2, h3⟩ := ho.rs
  exact ⟨World.cell?_setCell_same _ _ _ hu, ⟨a, c, rfl, h1, h2, h3, fun ad e => (ho.lt ad.block (by rw [e]; rfl)).1⟩, (Chg.of_kept h.kept).trans c2⟩
theorem jstep_in {acc : List Rn} {r : Rn} (h : 0 < acc.length) (hr : r.1 - 1 ≤ (rnA acc (acc.length - 1)).2) : jstep acc r = acc.set (acc.length - 1) ((rnA acc (acc.length - 1)).1, max (rnA acc (acc.length - 1)).2 r.2) := if_pos ⟨h, hr⟩
theorem jstep_out {acc : List Rn} {r : Rn} (h : ¬ (0 < acc.length ∧ r.1 - 1 ≤ (rnA acc (acc.length - 1)).2)) : jstep acc r = acc ++ [r] := if_neg h
set_option maxHeartbeats 4000000 in
set_option maxRecDepth 100000 in
theorem region_joined {w : World} {B : Nat} {v : Value} {l : List Rn} (h : OwnR w B v l) (hok : ∀ r, r ∈ l → okR r) (hl : l.length ≤ 90000) :
    Calls Try.prog 28 #[v] w (JPost w v l) := by
  obtain ⟨a, c, rfl, h1, h2, h3⟩ := h.rs
  have HO := hidMk h
  have HK := hidMk hok
  have HSO := hidMk (slices_Sort_any (h.kept ((Kept.refl w).alloc (.cells #[.slice none 0 0] 28))) (by omega))
  clear h hok h1 h3
  go_enter Try.func28, Try.ntmps28
  go_wp2_with fail
  refine HSO.out.mono ?_
  rintro e w2 ⟨rfl, m, hml, hmp, hms, hrs, hch⟩
  have hN := jn_norm (l := m) (fun r hr => HK.out r (hmp.mem_iff.1 hr)) hms
  have HN := hidMk hN
  have HJ := hidMk (show ∀ k, k < m.length → okR (rnA m k) from fun k hk => HK.out _ (hmp.mem_iff.1 (rnA_mem hk)))
  have HNK := hidMk (show ∀ k, ∀ r, r ∈ jn (m.take k) → okR r from fun k r hr => (jn_norm (l := m.take k) (fun r hr => HK.out r (hmp.mem_iff.1 (List.mem_of_mem_take hr))) (hms.sublist (List.take_sublist _ _))).1.ok r hr)
  have HIN := hidMk (show ∀ x, inR (jn m) x ↔ inR l x from fun x => (hN.2 x).trans (inR_perm hmp x))
  have HR := hidMk hrs
  have HML := hidMk hml
  have HC := hidMk (show Chg (fun k => (Value.slice a l.length c).ownBlock = some k) w w2 from (Chg.of_kept ((Kept.refl w).alloc _)).trans hch)
  have rc := hch.cellp (b := w.heap.size) (o := 0) (v := .slice none 0 0) (by simp) (fun e => by have := (HO.out.lt _ e).2; omega)
  have rf := (hch.frozen (p := ⟨w.heap.size, 0, none⟩) (by simp) (fun (e : (Value.slice a l.length c).ownBlock = some w.heap.size) => by have := (HO.out.lt _ e).2; omega)).trans (show (w.alloc (.cells #[.slice none 0 0] 28)).frozen? ⟨w.heap.size, 0, none⟩ = false by simp)
  have hw2 : w.heap.size < w2.heap.size := cell_lt rc
  clear hrs hch hmp hms hN hml
  have HSB := hidMk (show SB w2 (w2.alloc (.cells #[.slice none 0 0] 28)) w.heap.size w2.heap.size (w2.heap.size + 1) (.slice none 0 0) [] from sb_new (((Kept.refl w2).alloc _).cellp rc) (by simp) ((((Kept.refl w2).alloc _).frozen (p := ⟨w.heap.size, 0, none⟩) hw2).trans rf) (by simp) hw2 (by omega) (by simp) ((Kept.refl w2).alloc _) (by omega))
  go_wp2_with fail
  go_loopg [11] l.length (fun g x wr => ∃ (k : Nat) (vv : Value), k + g = l.length ∧ x = .int .i64 k ∧ SB w2 wr w.heap.size w2.heap.size (w2.heap.size + 1) vv (jn (m.take k)))
  case atStart => exact ⟨0, .slice none 0 0, by omega, rfl, HSB.out⟩
  case round =>
    obtain ⟨k, vv, hkg, rfl, hS⟩ := hrel
    have HKG := hidMk hkg
    have hjl := jn_take_len (l := m) k (by have := HML.out; omega)
    by_cases hkn : k < l.length
    · have HT := hidMk (rnA_jn (l := m) (k := k) (by have := HML.out; omega))
      obtain ⟨b, o, rfl, hb, hcs⟩ := HR.out.cells (by have := HML.out; omega)
      obtain ⟨c1, c2⟩ := hcs k (by have := HML.out; omega)
      have hr := HJ.out k (by have := HML.out; omega)
      have hnk := HNK.out k
      have d1 := hS.kept.cellp c1
      have d2 := hS.kept.cellp c2
      clear hcs c1 c2
      generalize rnA m k = r at *
      generalize jn (m.take k) = acc at *
      obtain ⟨x, y⟩ := r
      unfold okR top at hr
      simp only at d1 d2 hr
      have hsz := hS.hB
      have hww : w2.heap.size ≤ wr.heap.size := hS.kept.size
      have hb' : b < wr.heap.size := by omega
      have hxx : IntKind.i64.wrap (x - 1) = x - 1 := by rw [IntKind.wrap_i64]; omega
      have kn' : (k : Int) < (l.length : Int) := by omega
      by_cases hC : 0 < acc.length ∧ x - 1 ≤ (rnA acc (acc.length - 1)).2
      · have HE := hidMk (jstep_in (r := (x, y)) hC.1 hC.2)
        obtain ⟨hC1, hC2⟩ := hC
        obtain ⟨g, dc, rfl, hdc, hec, hfz, hg1, hg2⟩ := hS.own.row hC1
        have HS := hidMk hS
        have s0 := hS.c
        have sf := hS.f
        have s0' := fun o => ((Kept.refl wr).alloc o).cellp s0
        clear hS hkg
        obtain ⟨e1, e2⟩ := hec (acc.length - 1) (by omega)
        have ef := hfz ((acc.length - 1) * 2 + 1)
        have hq := hnk _ (rnA_mem (l := acc) (k := acc.length - 1) (by omega))
        unfold okR top at hq
        clear hec hnk hfz
        generalize hrq : rnA acc (acc.length - 1) = q at *
        have HRQ := hidMk hrq
        clear hrq
        obtain ⟨q1, q2⟩ := q
        simp only at e1 e2 hC2 hq HE
        have hwa : IntKind.i64.wrap ((acc.length : Int) - 1) = ((acc.length - 1 : Nat) : Int) := by rw [IntKind.wrap_i64]; omega
        have hz : (0 : Int) ≤ ((acc.length - 1 : Nat) : Int) := by omega
        have hz2 : ((acc.length - 1 : Nat) : Int) < (acc.length : Int) := by omega
        have hd1 : decide ((0 : Int) ≤ ((acc.length - 1 : Nat) : Int)) = true := decide_eq_true hz
        have hd2 : decide (x - 1 ≤ q2) = true := decide_eq_true hC2
        have e2' := fun o => ((Kept.refl wr).alloc o).cellp e2
        go_upto_region 7 with fail
        refine gen_world (f := fun W => Code.wp _ _ _ _ W) (fun W => SB w2 W w.heap.size w2.heap.size (w2.heap.size + 1) (.slice (some ⟨g, 0, none⟩) acc.length dc) acc ∧ W.cell? ⟨wr.heap.size, 0, none⟩ = some (.int .i64 x) ∧ W.cell? ⟨wr.heap.size, 1, none⟩ = some (.int .i64 y) ∧ W.cell? ⟨g, (acc.length - 1) * 2 + 1, none⟩ = some (.int .i64 q2) ∧ W.frozen? ⟨g, (acc.length - 1) * 2 + 1, none⟩ = false) ⟨HS.out.keep ((Kept.refl wr).alloc _), by simp, by simp, e2' _, (((Kept.refl wr).alloc _).frozen (p := ⟨g, (acc.length - 1) * 2 + 1, none⟩) hg2).trans ef⟩ ?_
        rintro W ⟨hS2, n0, n1, n2, n3⟩
        have HS2 := hidMk hS2
        have s1 := hS2.c
        clear hS2 s0 s0' sf e1 e2 e2' d1 d2
        go_quiet (fail)
        go_wp2_with fail
        go_region
        all_goals (try go_wp2_with fail)
        all_goals
          go_roundg (gk - 1)
          case measure => have := HKG.out; omega
          case rel =>
            refine ⟨k + 1, .slice (some ⟨g, 0, none⟩) acc.length dc, by have := HKG.out; omega, by go_num, ?_⟩
            rw [HT.out, HE.out]
            have hq2 := HRQ.out
            have h9 := (HS2.out.keep ((Kept.refl W).drewN (nq + 1))).last (acc.length - 1) (by omega) (max q2 y)
            rw [hq2] at h9
            exact h9
      · have HE := hidMk (jstep_out (acc := acc) (r := (x, y)) hC)
        by_cases hC1 : 0 < acc.length
        · have hC2 : (rnA acc (acc.length - 1)).2 < x - 1 := by omega
          obtain ⟨g, dc, rfl, hdc, hec, hfz, hg1, hg2⟩ := hS.own.row hC1
          have HS := hidMk hS
          have s0 := hS.c
          have s0' := fun o => ((Kept.refl wr).alloc o).cellp s0
          obtain ⟨e1, e2⟩ := hec (acc.length - 1) (by omega)
          have hq := hnk _ (rnA_mem (l := acc) (k := acc.length - 1) (by omega))
          unfold okR top at hq
          clear hec hnk hfz hS hkg hC
          generalize rnA acc (acc.length - 1) = q at *
          obtain ⟨q1, q2⟩ := q
          simp only at e1 e2 hC2 hq
          have hwa : IntKind.i64.wrap ((acc.length : Int) - 1) = ((acc.length - 1 : Nat) : Int) := by rw [IntKind.wrap_i64]; omega
          have hz : (0 : Int) ≤ ((acc.length - 1 : Nat) : Int) := by omega
          have hz2 : ((acc.length - 1 : Nat) : Int) < (acc.length : Int) := by omega
          have hd1 : decide ((0 : Int) ≤ ((acc.length - 1 : Nat) : Int)) = true := decide_eq_true hz
          have hd2 : decide (x - 1 ≤ q2) = false := decide_eq_false (by omega)
          have e2' := fun o => ((Kept.refl wr).alloc o).cellp e2
          go_upto_region 7 with fail
          refine gen_world (f := fun W => Code.wp _ _ _ _ W) (fun W => SB w2 W w.heap.size w2.heap.size (w2.heap.size + 1) (.slice (some ⟨g, 0, none⟩) acc.length dc) acc ∧ W.cell? ⟨wr.heap.size, 0, none⟩ = some (.int .i64 x) ∧ W.cell? ⟨wr.heap.size, 1, none⟩ = some (.int .i64 y) ∧ W.cell? ⟨g, (acc.length - 1) * 2 + 1, none⟩ = some (.int .i64 q2)) ⟨HS.out.keep ((Kept.refl wr).alloc _), by simp, by simp, e2' _⟩ ?_
          rintro W ⟨hS2, n0, n1, n2⟩
          have HS2 := hidMk hS2
          have s1 := hS2.c
          have s2 := hS2.f
          have hsz2 := hS2.hB
          clear hS2 s0 s0' e1 e2 e2' d1 d2
          go_quiet (fail)
          have HP := hidMk (show ∀ (Y : World) (v' : Value) (m : List Rn), OwnR Y (w2.heap.size + 1) v' m → Chg (fun k => ((Value.slice (some ⟨g, 0, none⟩) acc.length dc)).ownBlock = some k) ((W.drewN nq).alloc (.cells #[.int .i64 x, .int .i64 y] 47)) Y → _ from fun Y v' m ho hc => HS2.out.pushK (((Kept.refl W).drewN nq).alloc _) ho hc)
          go_wp2_with (at_builtin; refine wpList_pushR _ (by rfl) _ _ (by rfl) (w2.heap.size + 1) ((.slice (some ⟨g, 0, none⟩) acc.length dc)) acc (by rfl) (HS2.out.own.kept (((Kept.refl _).drewN nq).alloc _)) (by simp; omega) W.heap.size (x, y) (by rfl) (two_new rfl _ _ _).1 (two_new rfl _ _ _).2 (by omega) (W.heap.size + 1) (by simp) ?_; intro g4 cap4 w4 o4 k4 a4 l4; obtain ⟨z1, z2, ⟨z3, z4⟩, z5, z6, z7, z8⟩ := HP.out _ _ _ o4 k4; have H4 := hidMk z8; clear o4 k4 a4 l4 z6 z7 z8)
          go_roundg (gk - 1)
          case measure => have := HKG.out; omega
          case rel =>
            refine ⟨k + 1, .slice (some ⟨g4, 0, none⟩) (acc.length + 1) cap4, by have := HKG.out; omega, by go_num, ?_⟩
            rw [HT.out, HE.out]
            exact H4.out
        · have hl0 : acc.length = 0 := by omega
          obtain ⟨da, dc, rfl, hdr, _⟩ := hS.own.rs
          have HS := hidMk hS
          have s0 := hS.c
          have s0' := fun o => ((Kept.refl wr).alloc o).cellp s0
          clear hS hkg hC hnk
          have hwa : IntKind.i64.wrap ((acc.length : Int) - 1) = -1 := by rw [IntKind.wrap_i64]; omega
          have hd1 : decide ((0 : Int) ≤ -1) = false := by decide
          go_upto_region 7 with fail
          refine gen_world (f := fun W => Code.wp _ _ _ _ W) (fun W => SB w2 W w.heap.size w2.heap.size (w2.heap.size + 1) (.slice da acc.length dc) acc ∧ W.cell? ⟨wr.heap.size, 0, none⟩ = some (.int .i64 x) ∧ W.cell? ⟨wr.heap.size, 1, none⟩ = some (.int .i64 y)) ⟨HS.out.keep ((Kept.refl wr).alloc _), by simp, by simp⟩ ?_
          rintro W ⟨hS2, n0, n1⟩
          have HS2 := hidMk hS2
          have s1 := hS2.c
          have s2 := hS2.f
          have hsz2 := hS2.hB
          have HL0 := hidMk hl0
          clear hS2 s0 s0' d1 d2 hl0
          go_quiet (fail)
          have HP := hidMk (show ∀ (Y : World) (v' : Value) (m : List Rn), OwnR Y (w2.heap.size + 1) v' m → Chg (fun k => ((Value.slice da acc.length dc)).ownBlock = some k) ((W.drewN nq).alloc (.cells #[.int .i64 x, .int .i64 y] 47)) Y → _ from fun Y v' m ho hc => HS2.out.pushK (((Kept.refl W).drewN nq).alloc _) ho hc)
          go_wp2_with (at_builtin; refine wpList_pushR _ (by rfl) _ _ (by rfl) (w2.heap.size + 1) ((.slice da acc.length dc)) acc (by rfl) (HS2.out.own.kept (((Kept.refl _).drewN nq).alloc _)) (by simp; omega) W.heap.size (x, y) (by rfl) (two_new rfl _ _ _).1 (two_new rfl _ _ _).2 (by omega) (W.heap.size + 1) (by simp) ?_; intro g4 cap4 w4 o4 k4 a4 l4; obtain ⟨z1, z2, ⟨z3, z4⟩, z5, z6, z7, z8⟩ := HP.out _ _ _ o4 k4; have H4 := hidMk z8; clear o4 k4 a4 l4 z6 z7 z8)
          go_roundg (gk - 1)
          case measure => have := HKG.out; omega
          case rel =>
            refine ⟨k + 1, .slice (some ⟨g4, 0, none⟩) (acc.length + 1) cap4, by have := HKG.out; omega, by go_num, ?_⟩
            rw [HT.out, HE.out]
            exact H4.out
    · have hk : m.take k = m := List.take_of_length_le (by have := HML.out; omega)
      rw [hk] at hS
      have HS := hidMk hS
      obtain ⟨da, dc, rfl, _⟩ := hS.own.rs
      have s0 := hS.c
      obtain ⟨ru, hru⟩ := hS.rc
      have hrf := hS.rf
      have hkk : ¬ ((k : Int) < (l.length : Int)) := by omega
      have hjl2 := jn_take_len (l := m) m.length (Nat.le_refl _)
      rw [List.take_length] at hjl2
      have HLE := hidMk (show (jn m).length ≤ l.length by have := HML.out; omega)
      clear hS hkg hk hjl hjl2
      go_wp2_with fail
      obtain ⟨t1, ⟨a9, c9, hv9, t4, t5, t6, t7⟩, t3⟩ := HS.out.retC
      exact set_ret rfl w.heap.size _ rfl rfl t1 ⟨a9, c9, jn m, by rw [hv9], t4, t5, t6, fun ad e => by have := t7 ad e; omega, HN.out.1, HIN.out, HLE.out, HC.out.thn t3 (fun j hj e => by omega)⟩
end Go.Proofs.Ythbogpnkdlbilaa
