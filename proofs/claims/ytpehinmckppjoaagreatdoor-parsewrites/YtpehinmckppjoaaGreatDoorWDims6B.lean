/- dims.add. · dims.check: measures, how many cells and leaves there are, limits. · dims.New. -/
import Derived.Test.YtpehinmckppjoaaGreatDoorWDims3B
import Derived.Test.YtpehinmckppjoaaGreatDoorWLex2B
import Derived.Test.YtpehinmckppjoaaGreatDoorWTree12B
namespace Go.Proofs.YtpehinmckppjoaaGreatDoor
open Go.RowKit Go.Maps
set_option linter.unusedSimpArgs false
set_option linter.unusedVariables false

theorem DP.push {w0 x y : World} {p : Nat} {ds : List Dm} {tp : Nat → Nat} {ma : Option Addr} {mc : Nat} {ms : List ByteArray} {lv sc : Int} {dv : Value} (h : DP w0 x p ds tp ma mc ms lv sc dv) (nm : ByteArray) (nd : List Nd) (q : Nat) {g cap : Nat}
    (ho : y.ownsRow w0.heap.size 145 2 (.slice (some ⟨g, 0, none⟩) (ds.length + 1) cap) (ds.length + 1) (dimVs ds tp ++ [.string nm, .pointer (some ⟨q, 0, none⟩)])) (hc : Chg (fun t => dv.ownBlock = some t) x y) (hg : dv.ownBlock = some g ∨ g = x.heap.size)
    {lo hi : Nat} (hsol : Solid lo hi q nd x) (hpl : p < lo) (hrow : ∀ t, dv.ownBlock = some t → t < lo) :
    y.cell? ⟨p, 0, none⟩ = some dv ∧ y.frozen? ⟨p, 0, none⟩ = false ∧ DP w0 (y.setCell ⟨p, 0, none⟩ (.slice (some ⟨g, 0, none⟩) (ds.length + 1) cap)) p (ds ++ [(nm, nd)]) (fun k => if k = ds.length then q else tp k) ma mc ms lv sc (.slice (some ⟨g, 0, none⟩) (ds.length + 1) cap) := by
  have hlt := h.lt
  have hB : ∀ t, dv.ownBlock = some t → w0.heap.size ≤ t ∧ t < x.heap.size := World.ownsRow.lt h.own
  have n1 : ¬ dv.ownBlock = some p := fun e => by have := hB p e; omega
  have gB : w0.heap.size ≤ g := (World.ownsRow.lt ho g rfl).1
  have lp : p < x.heap.size := cell_lt h.c0
  have q0 := hc.cellp h.c0 n1
  have c2 : Chg (· = p) y (y.setCell ⟨p, 0, none⟩ (.slice (some ⟨g, 0, none⟩) (ds.length + 1) cap)) := (Chg.refl (· = p) y).setCell (p := ⟨p, 0, none⟩) (.inl rfl) _
  have oth : ∀ j v, j ≠ 0 → y.cell? ⟨p, j, none⟩ = some v → (y.setCell ⟨p, 0, none⟩ (.slice (some ⟨g, 0, none⟩) (ds.length + 1) cap)).cell? ⟨p, j, none⟩ = some v := fun j v hj e => (World.cell?_setCell_other _ _ _ _ (by intro e; simp only [Addr.mk.injEq] at e; omega)).trans e
  refine ⟨q0, (hc.frozen (p := ⟨p, 0, none⟩) lp n1).trans (h.fz 0), (h.chg.thn hc (fun j hj e => by have := hB j e; omega)).trans c2, World.cell?_setCell_same _ _ _ q0, oth 1 _ (by omega) (hc.cellp h.c1 n1), oth 2 _ (by omega) (hc.cellp h.c2 n1), oth 3 _ (by omega) (hc.cellp h.c3 n1), fun j => by simpa using (hc.frozen (p := ⟨p, j, none⟩) lp n1).trans (h.fz j), ?_, fun k hk => ?_, ?_, h.mb, hlt⟩
  · rw [dimVs_app, List.length_append, List.length_singleton]
    obtain ⟨h0, h1 | ⟨k, cap', cur, hv, hb', hh, r⟩⟩ := ho
    · exact ⟨h0, .inl h1⟩
    · refine ⟨h0, .inr ⟨k, cap', cur, hv, hb', ?_, r⟩⟩
      have hk : k < y.heap.size := by
        by_cases hlt : k < y.heap.size
        · exact hlt
        · rw [Array.getElem?_eq_none (by omega)] at hh; cases hh
      rw [c2.block k hk (by omega)]
      exact hh
  · rw [List.length_append, List.length_singleton] at hk
    by_cases e : k = ds.length
    · subst e
      rw [dmL_app2]
      simp only [if_true]
      refine ⟨lo, hi, (hsol.chg hc (fun j h1 h2 e => by have := hrow j e; omega)).chg c2 (fun j h1 h2 e => by omega), hpl, fun g' e ⟨e1, e2⟩ => ?_⟩
      simp only [Value.ownBlock, Option.some.injEq] at e
      subst e
      rcases hg with hg | hg
      · have := hrow g hg; omega
      · have := hsol.hi_le; omega
    · rw [dmL_app1 (by omega)]
      simp only [e, if_false]
      obtain ⟨lo', hi', h1, h2, h3⟩ := h.tr k (by omega)
      refine ⟨lo', hi', (h1.chg hc (fun j a b e => h3 j e ⟨a, b⟩)).chg c2 (fun j a b e => by omega), h2, fun g' e ⟨e1, e2⟩ => ?_⟩
      simp only [Value.ownBlock, Option.some.injEq] at e
      subst e
      rcases hg with hg | hg
      · exact h3 g hg ⟨e1, e2⟩
      · have := h1.hi_le; omega
  · exact (h.mss.chg hc (fun hp ad had e => by have := hB _ e; have := (h.mb hp ad had).2; omega)).chg c2 (fun hp ad had e => (h.mb hp ad had).1 e)
/-- What add answers. -/
def AddIs (ds : List Dm) (nm : ByteArray) (nd : List Nd) (er : Int) : Prop :=
  (nameB nm = false ∧ er = 3) ∨ (nameB nm = true ∧ idxI (lbl ds) nm ≠ -1 ∧ er = 4) ∨ (nameB nm = true ∧ idxI (lbl ds) nm = -1 ∧ ∃ at_, NewIs nd at_ er)
def AddPost (w0 w : World) (p : Nat) (ds : List Dm) (ma : Option Addr) (mc : Nat) (ms : List ByteArray) (lv sc : Int) (nm : ByteArray) (nd : List Nd) (e : Ending) (w' : World) : Prop :=
  ∃ er, e = .returned (.int .i64 er) ∧ AddIs ds nm nd er ∧ ((er = 0 ∧ ∃ tp' dv', DP w0 w' p (ds ++ [(nm, nd)]) tp' ma mc ms lv sc dv') ∨ (er ≠ 0 ∧ Kept w w'))
set_option maxHeartbeats 4000000 in
set_option maxRecDepth 100000 in
theorem dims_add {w0 w : World} {p : Nat} {ds : List Dm} {tp : Nat → Nat} {ma : Option Addr} {mc : Nat} {ms : List ByteArray} {lv sc : Int} {dv : Value} (h : DP w0 w p ds tp ma mc ms lv sc dv) (hm : ds.length ≤ 50) (nm : ByteArray) (hnm : nm.size ≤ maxLen) (a : Option Addr) (n c : Nat) (nd : List Nd) (hs : Ns w a n nd) :
    Calls Tryz.prog 39 #[.pointer (some ⟨p, 0, none⟩), .agg #[.string nm, .slice a n c]] w (AddPost w0 w p ds ma mc ms lv sc nm nd) := by
  have HD := hidMk h
  have HS := hidMk hs
  have HN := hidMk (text_Name nm hnm)
  clear hs
  cases hb : nameB nm with
  | false =>
    rw [hb] at HN
    have HB := hidMk hb
    clear hb h
    go_enter Tryz.func39, Tryz.ntmps39
    go_wp2_with (go_at_call 63; refine (HN.out _).mono ?_; rintro e w1 ⟨rfl, rfl⟩)
    go_ret
    exact ⟨3, rfl, .inl ⟨HB.out, rfl⟩, .inr ⟨by omega, (Kept.refl w).alloc _⟩⟩
  | true =>
    rw [hb] at HN
    have HB := hidMk hb
    clear hb h
    have HF := hidMk (show ∀ y, Kept w y → _ from fun y hy => dims_Find (HD.out.kept hy) (by omega) nm)
    by_cases hf : idxI (lbl ds) nm = -1
    · rw [hf] at HF
      have HFF := hidMk hf
      clear hf
      have hpw : p < w.heap.size := cell_lt HD.out.c0
      go_enter Tryz.func39, Tryz.ntmps39
      have HBX := hidMk (show ∀ t, (w.alloc (.cells #[.string nm, .slice a n c] t)).cell? ⟨w.heap.size, 0, none⟩ = some (.string nm) ∧ (w.alloc (.cells #[.string nm, .slice a n c] t)).cell? ⟨w.heap.size, 1, none⟩ = some (.slice a n c) from fun t => ⟨by simp, by simp⟩)
      go_wp2_with (go_at_call 63; refine (HN.out _).mono ?_; rintro e w1 ⟨rfl, rfl⟩)
      refine (HF.out _ ((Kept.refl w).alloc _)).mono ?_
      rintro e w2 ⟨rfl, k2⟩
      have b1 := k2.cellp (HBX.out _).1
      have b2 := k2.cellp (HBX.out _).2
      have K2 := hidMk (((Kept.refl w).alloc _).trans k2)
      clear k2
      have HT := hidMk (tree_New a n c nd w2 (HS.out.kept K2.out))
      have hmm : (((-1 : Int)) != (-1 : Int)) = false := by decide
      go_wp2_with fail
      refine HT.out.mono ?_
      rintro e w3 (⟨q, ⟨hq, hsol⟩, rfl, hni, _, k3⟩ | ⟨at_, er, rfl, her, hni, k3⟩)
      · have b1' := k3.cellp b1
        have K3 := hidMk (K2.out.trans k3)
        have D3 := HD.out.kept K3.out
        have D2 := HD.out.kept K2.out
        have hw2 : w2.heap.size ≤ w3.heap.size := k3.size
        have HRB := hidMk (show ∀ t, dv.ownBlock = some t → t < w2.heap.size from fun t ht => (World.ownsRow.lt D2.own t ht).2)
        have hpl : p < w2.heap.size := Nat.lt_of_lt_of_le hpw K2.out.size
        obtain ⟨da, dc, rfl, _⟩ := D3.rows (by omega)
        have HSOL := hidMk hsol
        have HNI := hidMk hni
        have HD3 := hidMk D3
        have t0 := D3.c0
        have t0' := fun o => (((Kept.refl w3).alloc o).drew).cellp t0
        have b1'' := fun o => (((Kept.refl w3).alloc o).drew).cellp b1'
        have hsz := D3.chg.size
        have HOV := hidMk (show ∀ y, Kept w3 y → y.ownsRow w0.heap.size 145 2 (.slice da ds.length dc) ds.length (dimVs ds tp) from fun y hy => (D3.kept hy).own)
        have HPU := hidMk (show ∀ (y z : World) (g cap : Nat), Kept w3 y → z.ownsRow w0.heap.size 145 2 (.slice (some ⟨g, 0, none⟩) (ds.length + 1) cap) (ds.length + 1) (dimVs ds tp ++ [.string nm, .pointer (some ⟨q, 0, none⟩)]) → Chg (fun t => (Value.slice da ds.length dc).ownBlock = some t) y z → ((Value.slice da ds.length dc).ownBlock = some g ∨ g = y.heap.size) → _ from fun y z g cap hy ho hc hg => (D3.kept hy).push nm nd q ho hc hg (HSOL.out.kept hy) hpl HRB.out)
        clear D3 D2 hsol hni k3 HD HS HF HN HT b1 b2
        go_upto_region 7 with fail
        go_cut [] from 8 to 40 (fun w' => ∃ tp' dv', DP w0 w' p (ds ++ [(nm, nd)]) tp' ma mc ms lv sc dv')
        case first =>
          go_region_law ((refine step_pushD _ (by rfl) _ _ (by rfl) w0.heap.size (.slice da ds.length dc) ds tp (by rfl) (HOV.out _ (((Kept.refl _).alloc _).drew)) (by simp; omega) w3.heap.size nm q (by rfl) (by simp) (by simp) (by omega) (w3.heap.size + 1) (by simp) ?_; intro g4 cap4 w4 o4 k4 a4 l4; obtain ⟨q4, f4, d4⟩ := HPU.out _ w4 g4 cap4 (((Kept.refl _).alloc _).drew) o4 k4 (by simpa using a4); have H4 := hidMk d4; clear o4 k4 a4 l4 d4))
          all_goals (try go_wp2_with fail)
          all_goals go_meet
          all_goals exact ⟨_, _, H4.out⟩
        case rest =>
          obtain ⟨tp', dv', h9⟩ := hcut
          have H9 := hidMk h9
          clear h9
          go_wp2_with fail
          go_ret
          exact ⟨0, rfl, .inr (.inr ⟨HB.out, HFF.out, 0, HNI.out⟩), .inl ⟨rfl, tp', dv', H9.out⟩⟩
      · have K3 := hidMk (K2.out.trans k3)
        have HNI := hidMk hni
        have HER := hidMk her
        have her' : (er == 0) = false := by simpa using her
        clear k3 hni her
        go_wp2_with fail
        go_ret
        exact ⟨er, rfl, .inr (.inr ⟨HB.out, HFF.out, at_, HNI.out⟩), .inr ⟨HER.out, K3.out⟩⟩
    · have HFF := hidMk (show AddIs ds nm nd 4 from .inr (.inl ⟨HB.out, hf, rfl⟩))
      generalize idxI (lbl ds) nm = ix at *
      have hix : (ix != -1) = true := by simpa using hf
      clear hf
      go_enter Tryz.func39, Tryz.ntmps39
      go_wp2_with (first | (go_at_call 63; refine (HN.out _).mono ?_; rintro e w1 ⟨rfl, rfl⟩) | (go_at_call 64; refine (HF.out _ ((Kept.refl w).alloc _)).mono ?_; rintro e w2 ⟨rfl, k2⟩; have K2 := hidMk (((Kept.refl w).alloc _).trans k2); clear k2))
      go_ret
      exact ⟨4, rfl, HFF.out, .inr ⟨by omega, K2.out⟩⟩
end Go.Proofs.YtpehinmckppjoaaGreatDoor
namespace Go.Proofs.YtpehinmckppjoaaGreatDoor
open Go.RowKit Go.Maps
set_option linter.unusedSimpArgs false
set_option linter.unusedVariables false

def msA (ms : List ByteArray) (i : Nat) : ByteArray := ms.getD i ByteArray.empty
def measE (ms : List ByteArray) (i : Nat) : Int := if nameB (msA ms i) then (if idxI ms (msA ms i) < i then 4 else 0) else 3
def cellsN (m : Nat) (ds : List Dm) : Nat := ds.foldl (fun c d => c * d.2.length) m
def leavesN (m : Nat) (ds : List Dm) : Nat := ds.foldl (fun c d => c * (lvsN d.2).length) m
def tailE (m : Nat) (ds : List Dm) (lv sc : Int) : Int := if 4096 < cellsN m ds ∨ 1024 < leavesN m ds then 5 else if fromB lv 1024 && fromB sc 8 then 0 else 17
def CheckIs (ms : List ByteArray) (ds : List Dm) (lv sc er : Int) : Prop :=
  (∃ i, i < ms.length ∧ measE ms i ≠ 0 ∧ (∀ j, j < i → measE ms j = 0) ∧ er = measE ms i) ∨ ((∀ j, j < ms.length → measE ms j = 0) ∧ er = tailE ms.length ds lv sc)
theorem cells_le {m : Nat} {ds : List Dm} (h : ∀ d, d ∈ ds → d.2.length ≤ 60 ∧ (lvsN d.2).length ≤ 60) : cellsN m ds ≤ m * 60 ^ ds.length ∧ leavesN m ds ≤ m * 60 ^ ds.length := by
  induction ds generalizing m with
  | nil => simp [cellsN, leavesN]
  | cons d r ih =>
    obtain ⟨h1, h2⟩ := h d (List.mem_cons_self ..)
    have h3 := fun x hx => h x (List.mem_cons_of_mem _ hx)
    have e1 := (ih (m := m * d.2.length) h3).1
    have e2 := (ih (m := m * (lvsN d.2).length) h3).2
    have f1 : m * d.2.length * 60 ^ r.length ≤ m * 60 ^ (r.length + 1) := by
      rw [Nat.pow_succ, Nat.mul_comm (60 ^ r.length) 60, ← Nat.mul_assoc]
      exact Nat.mul_le_mul_right _ (Nat.mul_le_mul_left _ h1)
    have f2 : m * (lvsN d.2).length * 60 ^ r.length ≤ m * 60 ^ (r.length + 1) := by
      rw [Nat.pow_succ, Nat.mul_comm (60 ^ r.length) 60, ← Nat.mul_assoc]
      exact Nat.mul_le_mul_right _ (Nat.mul_le_mul_left _ h2)
    exact ⟨Nat.le_trans e1 f1, Nat.le_trans e2 f2⟩
theorem cells_take {m : Nat} {ds : List Dm} {k : Nat} (h : k < ds.length) : cellsN m (ds.take (k + 1)) = cellsN m (ds.take k) * (dmL ds k).length ∧ leavesN m (ds.take (k + 1)) = leavesN m (ds.take k) * (lvsN (dmL ds k)).length := by
  have e : dmL ds k = ds[k].2 := by simp [dmL, List.getD, List.getElem?_eq_getElem h]
  rw [List.take_succ_eq_append_getElem h, e]
  unfold cellsN leavesN
  rw [List.foldl_append, List.foldl_append]
  exact ⟨rfl, rfl⟩
theorem wrap_small (n : Nat) (h : n ≤ 51840000) : wrap64 (n : Int) = n ∧ IntKind.i64.wrap (n : Int) = n := by
  have e : IntKind.i64.wrap (n : Int) = n := by rw [IntKind.wrap_i64]; omega
  exact ⟨by unfold wrap64; omega, e⟩
theorem pow_le4 {m k : Nat} (hm : m ≤ 4) (hk : k ≤ 4) : m * 60 ^ k ≤ 51840000 := by
  have h1 : 60 ^ k ≤ 60 ^ 4 := Nat.pow_le_pow_right (by omega) hk
  have h2 : m * 60 ^ k ≤ 4 * 60 ^ 4 := Nat.mul_le_mul hm h1
  omega
set_option maxHeartbeats 4000000 in
set_option maxRecDepth 100000 in
theorem dims_check {w0 w : World} {p : Nat} {ds : List Dm} {tp : Nat → Nat} {ma : Option Addr} {mc : Nat} {ms : List ByteArray} {lv sc : Int} {dv : Value} (h : DP w0 w p ds tp ma mc ms lv sc dv) (hm : ds.length ≤ 4) (hms : ms.length ≤ 4) (hsz : ∀ i, i < ms.length → (msA ms i).size ≤ maxLen) :
    Calls Tryz.prog 40 #[.pointer (some ⟨p, 0, none⟩)] w fun e w' => ∃ er, e = .returned (.int .i64 er) ∧ CheckIs ms ds lv sc er ∧ Kept w w' := by
  have HD := hidMk h
  have HSZ := hidMk hsz
  have t1 := h.c1
  have hlw : ∀ k, k < ds.length → Whole w (tp k) (dmL ds k) := fun k hk => by obtain ⟨lo, hi, h1, _⟩ := h.tr k hk; exact h1.whole
  have HWW := hidMk hlw
  obtain ⟨da, dc, rfl, hrows⟩ := h.rows (by omega)
  have HRW := hidMk hrows
  clear h hsz hlw hrows
  go_enter Tryz.func40, Tryz.ntmps40
  go_wp2_with fail
  go_loopg [14] ms.length (fun g x wr => ∃ k : Nat, k + g = ms.length ∧ x = .int .i64 k ∧ wr = w ∧ Hid (∀ j, j < k → measE ms j = 0))
  case atStart => exact ⟨0, by omega, rfl, rfl, hidMk fun j hj => absurd hj (by omega)⟩
  case round =>
    obtain ⟨k, hkg, rfl, hwr, HJ⟩ := hrel
    have HKG := hidMk hkg
    subst hwr
    by_cases hkn : k < ms.length
    · obtain ⟨b, o, rfl, _, hcs⟩ := HD.out.mss.cells (by omega)
      have hc : wr.cell? ⟨b, o + k, none⟩ = some (.string (msA ms k)) := hcs k hkn
      have hnm := text_Name (msA ms k) (HSZ.out k hkn)
      have hme := dims_Meas HD.out (msA ms k)
      have hE : measE ms k = if nameB (msA ms k) then (if idxI ms (msA ms k) < k then 4 else 0) else 3 := rfl
      clear hcs hkg
      generalize idxI ms (msA ms k) = ix at *
      generalize msA ms k = s at *
      cases hb : nameB s with
      | false =>
        rw [hb] at hnm hE
        simp only [Bool.false_eq_true, if_false] at hE
        have HN := hidMk hnm
        have HF := hidMk (show CheckIs ms ds lv sc 3 from .inl ⟨k, hkn, by rw [hE]; decide, HJ.out, hE.symm⟩)
        clear hnm hme hE hb
        go_wp2_with (go_at_call 63; refine (HN.out _).mono ?_; rintro e w1 ⟨rfl, rfl⟩)
        go_ret
        exact ⟨3, rfl, HF.out, Kept.refl _⟩
      | true =>
        rw [hb] at hnm hE
        simp only [if_true] at hE
        have HN := hidMk hnm
        have HM := hidMk hme
        by_cases hix : ix < k
        · rw [if_pos hix] at hE
          have HF := hidMk (show CheckIs ms ds lv sc 4 from .inl ⟨k, hkn, by rw [hE]; decide, HJ.out, hE.symm⟩)
          clear hnm hme hE hb
          go_wp2_with (first | (go_at_call 63; refine (HN.out _).mono ?_; rintro e w1 ⟨rfl, rfl⟩) | (go_at_call 66; refine HM.out.mono ?_; rintro e w1 ⟨rfl, rfl⟩))
          go_ret
          exact ⟨4, rfl, HF.out, Kept.refl _⟩
        · rw [if_neg hix] at hE
          have HJ2 := hidMk (show ∀ j, j < k + 1 → measE ms j = 0 from fun j hj => by
            by_cases e : j = k
            · subst e; exact hE
            · exact HJ.out j (by omega))
          clear hnm hme hE hb
          have hix' : (k : Int) ≤ ix := by omega
          go_wp2_with (first | (go_at_call 63; refine (HN.out _).mono ?_; rintro e w1 ⟨rfl, rfl⟩) | (go_at_call 66; refine HM.out.mono ?_; rintro e w1 ⟨rfl, rfl⟩))
          go_roundg (gk - 1)
          case measure => have := HKG.out; omega
          case rel => exact ⟨k + 1, by have := HKG.out; omega, by go_num, rfl, HJ2⟩
    · obtain ⟨wA, hwA⟩ : ∃ wA, wA = wr := ⟨_, rfl⟩
      subst hwA
      have HAL := hidMk (show ∀ j, j < ms.length → measE ms j = 0 from fun j hj => HJ.out j (by omega))
      have hkk : ¬ ((k : Int) < (ms.length : Int)) := by omega
      have t0 := HD.out.c0
      have t1' := fun q => ((Kept.refl wA).drewN q).cellp t1
      have t0' := fun q => ((Kept.refl wA).drewN q).cellp t0
      clear HJ hkg HKG
      go_wp2_with fail
      go_quiet (fail)
      go_wp2_with fail
      go_loopg [5, 6, 43] ds.length (fun g x y z wq => ∃ j : Nat, j + g = ds.length ∧ z = .int .i64 j ∧ x = .int .i64 (cellsN ms.length (ds.take j)) ∧ y = .int .i64 (leavesN ms.length (ds.take j)) ∧ Kept wA wq)
      case atStart => exact ⟨0, by omega, rfl, rfl, rfl, (Kept.refl _).drewN _⟩
      case round =>
        obtain ⟨j, hjg, rfl, rfl, rfl, hk⟩ := hrel
        have HJG := hidMk hjg
        have HK := hidMk hk
        by_cases hjn : j < ds.length
        · obtain ⟨b, rfl, hb⟩ := HRW.out (by omega)
          obtain ⟨c1, c2⟩ := hb j hjn
          have d1 := hk.cellp c1
          have d2 := hk.cellp c2
          have hW := (HWW.out j hjn).kept hk
          have hLl := lvs_len hW.tr
          have hL60 := hW.big
          obtain ⟨e1, e2⟩ := cells_take (m := ms.length) hjn
          have hall : ∀ d, d ∈ ds.take (j + 1) → d.2.length ≤ 60 ∧ (lvsN d.2).length ≤ 60 := fun d hd => by
            obtain ⟨t, ht, e⟩ := List.getElem_of_mem (List.mem_of_mem_take hd)
            have hWt := HWW.out t ht
            have : dmL ds t = d.2 := by simp [dmL, List.getD, List.getElem?_eq_getElem ht, e]
            rw [this] at hWt
            exact ⟨hWt.big, Nat.le_trans (lvs_len hWt.tr) hWt.big⟩
          obtain ⟨b1, b2⟩ := cells_le (m := ms.length) hall
          have hp4 := pow_le4 (m := ms.length) (k := (ds.take (j + 1)).length) hms (by rw [List.length_take]; omega)
          rw [e1] at b1
          rw [e2] at b2
          have HE1 := hidMk e1
          have HE2 := hidMk e2
          have HLE := hidMk (show ∀ y, Kept wA y → _ from fun y hy => w_Len ((HWW.out j hjn).kept hy))
          have HLV := hidMk (show ∀ y, Kept wA y → _ from fun y hy => w_Leaves ((HWW.out j hjn).kept hy))
          clear hb c1 c2 hall e1 e2 hW hjg hk
          generalize cellsN ms.length (ds.take j) = X at *
          generalize leavesN ms.length (ds.take j) = Y at *
          generalize (dmL ds j).length = L at *
          generalize tp j = q at *
          generalize dmN ds j = nmj at *
          have hLV : (lvsN (dmL ds j)).length ≤ 60 := by omega
          have g1 : ((X : Int) * (L : Int)) = ((X * L : Nat) : Int) := by simp
          have g2 : ((Y : Int) * ((lvsN (dmL ds j)).length : Int)) = ((Y * (lvsN (dmL ds j)).length : Nat) : Int) := by simp
          have g3 : X * L ≤ 51840000 := by omega
          have g4 : Y * (lvsN (dmL ds j)).length ≤ 51840000 := by omega
          generalize lvsN (dmL ds j) = LV at *
          generalize hXL : X * L = XL at *
          generalize hYL : Y * LV.length = YL at *
          have m1 : wrap64 ((X : Int) * (L : Int)) = XL := by rw [g1]; exact (wrap_small XL g3).1
          have m2 : wrap64 ((Y : Int) * (LV.length : Int)) = YL := by rw [g2]; exact (wrap_small YL g4).1
          have m3 : IntKind.i64.wrap ((X : Int) * (L : Int)) = XL := by rw [g1]; exact (wrap_small XL g3).2
          have m4 : IntKind.i64.wrap ((Y : Int) * (LV.length : Int)) = YL := by rw [g2]; exact (wrap_small YL g4).2
          have HXL := hidMk hXL
          have HYL := hidMk hYL
          clear hXL hYL g1 g2 b1 b2 hp4
          have jn' : (j : Int) < ds.length := by omega
          go_wp2_with fail
          refine (HLE.out _ (HK.out.alloc _)).mono ?_
          rintro e w5 ⟨rfl, rfl⟩
          go_wp2_with fail
          refine (HLV.out _ (HK.out.alloc _)).mono ?_
          rintro e w6 ⟨v6, rfl, o6, k6⟩
          obtain ⟨a6, c6, rfl, _⟩ := o6.sl (by rw [ints_len]; unfold maxLen; omega)
          rw [ints_len]
          have K6 := hidMk ((HK.out.alloc _).trans k6)
          clear o6 k6
          go_wp2_with fail
          go_roundg (gk - 1)
          case measure => have := HJG.out; omega
          case rel =>
            refine ⟨j + 1, by have := HJG.out; omega, by go_num, ?_, ?_, K6.out⟩
            · rw [HE1.out]
            · rw [HE2.out]
        · have hjj : ¬ ((j : Int) < (ds.length : Int)) := by omega
          have htk : ds.take j = ds := List.take_of_length_le (by omega)
          rw [htk]
          have HT := hidMk (show tailE ms.length ds lv sc = if 4096 < cellsN ms.length ds ∨ 1024 < leavesN ms.length ds then 5 else if fromB lv 1024 && fromB sc 8 then 0 else 17 from rfl)
          have HFT := hidMk (show ∀ er, er = tailE ms.length ds lv sc → CheckIs ms ds lv sc er from fun er e => .inr ⟨HAL.out, e⟩)
          have u2 := hk.cellp HD.out.c2
          have u3 := hk.cellp HD.out.c3
          generalize tailE ms.length ds lv sc = te at *
          generalize cellsN ms.length ds = X at *
          generalize leavesN ms.length ds = Y at *
          have HF1 := hidMk (dims_from1 lv 1024)
          have HF2 := hidMk (dims_from1 sc 8)
          generalize fromB lv 1024 = f1 at *
          generalize fromB sc 8 = f2 at *
          clear hk hjg htk
          by_cases hX : 4096 < X
          · have HTT := hidMk (show (5 : Int) = te by rw [HT.out, if_pos (.inl hX)])
            have hX' : (4096 : Int) < X := by omega
            go_wp2_with fail
            go_ret
            exact ⟨5, rfl, HFT.out 5 HTT.out, HK.out⟩
          · have hX' : (X : Int) ≤ 4096 := by omega
            by_cases hY : 1024 < Y
            · have HTT := hidMk (show (5 : Int) = te by rw [HT.out, if_pos (.inr hY)])
              have hY' : (1024 : Int) < Y := by omega
              go_wp2_with fail
              go_ret
              exact ⟨5, rfl, HFT.out 5 HTT.out, HK.out⟩
            · have hY' : (Y : Int) ≤ 1024 := by omega
              have HT3 := hidMk (show te = if f1 && f2 then 0 else 17 by rw [HT.out, if_neg (by omega)])
              cases f1 with
              | false =>
                go_wp2_with (go_at_call 37; refine (HF1.out _).mono ?_; rintro e w7 ⟨rfl, rfl⟩)
                go_ret
                exact ⟨17, rfl, HFT.out 17 (by rw [HT3.out]; rfl), HK.out⟩
              | true =>
                cases f2 with
                | false =>
                  go_wp2_with fail
                  refine (HF1.out _).mono ?_
                  rintro e w7 ⟨rfl, rfl⟩
                  go_wp2_with fail
                  refine (HF2.out _).mono ?_
                  rintro e w8 ⟨rfl, rfl⟩
                  go_wp2_with fail
                  go_ret
                  exact ⟨17, rfl, HFT.out 17 (by rw [HT3.out]; rfl), HK.out⟩
                | true =>
                  go_wp2_with fail
                  refine (HF1.out _).mono ?_
                  rintro e w7 ⟨rfl, rfl⟩
                  go_wp2_with fail
                  refine (HF2.out _).mono ?_
                  rintro e w8 ⟨rfl, rfl⟩
                  go_wp2_with fail
                  go_ret
                  exact ⟨0, rfl, HFT.out 0 (by rw [HT3.out]; rfl), HK.out⟩
end Go.Proofs.YtpehinmckppjoaaGreatDoor
namespace Go.Proofs.YtpehinmckppjoaaGreatDoor
open Go.RowKit Go.Maps
set_option linter.unusedSimpArgs false
set_option linter.unusedVariables false

/-- Dimensions that came in. -/
structure Dss (w : World) (a : Option Addr) (n : Nat) (ds : List Dm) (na : Nat → Option Addr × Nat × Nat) : Prop where
  len : ds.length = n
  big : n ≤ maxLen
  nmb : ∀ k, k < n → (dmN ds k).size ≤ maxLen
  nds : ∀ k, k < n → Ns w (na k).1 (na k).2.1 (dmL ds k)
  cells : 0 < n → ∃ b o, a = some ⟨b, o, none⟩ ∧ b < w.heap.size ∧ ∀ k, k < n → w.cell? ⟨b, o + k * 2, none⟩ = some (.string (dmN ds k)) ∧ w.cell? ⟨b, o + k * 2 + 1, none⟩ = some (slv (na k))
theorem Dss.kept {w w' : World} {a : Option Addr} {n : Nat} {ds : List Dm} {na : Nat → Option Addr × Nat × Nat} (h : Dss w a n ds na) (g : Kept w w') : Dss w' a n ds na :=
  ⟨h.len, h.big, h.nmb, fun k hk => (h.nds k hk).kept g, fun hp => by
    obtain ⟨b, o, h1, h2, h3⟩ := h.cells hp
    exact ⟨b, o, h1, Nat.lt_of_lt_of_le h2 g.size, fun k hk => ⟨g.cellp (h3 k hk).1, g.cellp (h3 k hk).2⟩⟩⟩
def AddOk (ds : List Dm) (k : Nat) (er : Int) : Prop := AddIs (ds.take k) (dmN ds k) (dmL ds k) er
/-- What dims.New answers: where, and why. -/
def CatIs (ds : List Dm) (ms : List ByteArray) (lv sc at_ er : Int) : Prop :=
  (¬ (1 ≤ ds.length ∧ ds.length ≤ 4 ∧ 1 ≤ ms.length ∧ ms.length ≤ 4) ∧ at_ = -1 ∧ er = 5) ∨
  (1 ≤ ds.length ∧ ds.length ≤ 4 ∧ 1 ≤ ms.length ∧ ms.length ≤ 4) ∧ ((∃ k, k < ds.length ∧ AddOk ds k er ∧ er ≠ 0 ∧ (∀ j, j < k → AddOk ds j 0) ∧ at_ = (k : Nat)) ∨ ((∀ j, j < ds.length → AddOk ds j 0) ∧ CheckIs ms ds lv sc er ∧ at_ = if er = 0 then 0 else -1))
def DNewPost (w : World) (ds : List Dm) (ms : List ByteArray) (lv sc : Int) (e : Ending) (w' : World) : Prop :=
  (∃ w0 p tp ma mc dv, e = .returned (.tuple #[.pointer (some ⟨p, 0, none⟩), .int .i64 0, .int .i64 0]) ∧ CatIs ds ms lv sc 0 0 ∧ DP w0 w' p ds tp ma mc ms lv sc dv ∧ Kept w w') ∨
  ∃ at_ er, e = .returned (.tuple #[.pointer none, .int .i64 at_, .int .i64 er]) ∧ er ≠ 0 ∧ CatIs ds ms lv sc at_ er ∧ Kept w w'
theorem take_dm {ds : List Dm} {k : Nat} (h : k < ds.length) : ds.take (k + 1) = ds.take k ++ [(dmN ds k, dmL ds k)] := by
  have e : (dmN ds k, dmL ds k) = ds[k] := by simp [dmN, dmL, List.getD, List.getElem?_eq_getElem h]
  rw [e]
  exact List.take_succ_eq_append_getElem h
theorem fromB_nat (n : Nat) : fromB n 4 = decide (1 ≤ n ∧ n ≤ 4) := by
  unfold fromB
  by_cases h : 1 ≤ n ∧ n ≤ 4
  · rw [decide_eq_true h, decide_eq_true (by omega)]
  · rw [decide_eq_false h, decide_eq_false (by omega)]
set_option maxHeartbeats 4000000 in
set_option maxRecDepth 100000 in
theorem dims_New (a : Option Addr) (n c : Nat) (ds : List Dm) (na : Nat → Option Addr × Nat × Nat) (b : Option Addr) (m d : Nat) (ms : List ByteArray) (lv sc : Int) (w : World) (hs : Dss w a n ds na) (hm : Ss w b m ms) (hmz : ∀ i, i < ms.length → (msA ms i).size ≤ maxLen) :
    Calls Tryz.prog 20 #[.agg #[.slice a n c, .slice b m d, .int .i64 lv, .int .i64 sc]] w (DNewPost w ds ms lv sc) := by
  have hln := hs.len
  have hlm := hm.len
  have HS := hidMk hs
  have HM := hidMk hm
  have HMZ := hidMk hmz
  have HF := hidMk dims_from1
  have f1 := fromB_nat n
  have f2 := fromB_nat m
  clear hs hm hmz
  by_cases h1 : 1 ≤ n ∧ n ≤ 4
  · rw [decide_eq_true h1] at f1
    by_cases h2 : 1 ≤ m ∧ m ≤ 4
    · rw [decide_eq_true h2] at f2
      have F1 := hidMk (show ∀ y, Calls Tryz.prog 37 #[.int .i64 n, .int .i64 4] y fun e w' => e = .returned (.bool true) ∧ w' = y from fun y => by have := HF.out n 4 y; rw [f1] at this; exact this)
      have F2 := hidMk (show ∀ y, Calls Tryz.prog 37 #[.int .i64 m, .int .i64 4] y fun e w' => e = .returned (.bool true) ∧ w' = y from fun y => by have := HF.out m 4 y; rw [f2] at this; exact this)
      go_enter Tryz.func20, Tryz.ntmps20
      go_wp2_with fail
      refine (F1.out _).mono ?_
      rintro e w1 ⟨rfl, rfl⟩
      go_wp2_with fail
      refine (F2.out _).mono ?_
      rintro e w2 ⟨rfl, rfl⟩
      have HCL := hidMk (slices_CloneS b m d ms _ (HM.out.kept (((Kept.refl w).alloc (.cells #[.slice a n c, .slice b m d, .int .i64 lv, .int .i64 sc] 25)).drew)) (by omega))
      have y0 : (w.alloc (.cells #[.slice a n c, .slice b m d, .int .i64 lv, .int .i64 sc] 25)).drew.cell? ⟨w.heap.size, 0, none⟩ = some (.slice a n c) := by simp
      have y1 : (w.alloc (.cells #[.slice a n c, .slice b m d, .int .i64 lv, .int .i64 sc] 25)).drew.cell? ⟨w.heap.size, 1, none⟩ = some (.slice b m d) := by simp
      have y2 : (w.alloc (.cells #[.slice a n c, .slice b m d, .int .i64 lv, .int .i64 sc] 25)).drew.cell? ⟨w.heap.size, 2, none⟩ = some (.int .i64 lv) := by simp
      have y3 : (w.alloc (.cells #[.slice a n c, .slice b m d, .int .i64 lv, .int .i64 sc] 25)).drew.cell? ⟨w.heap.size, 3, none⟩ = some (.int .i64 sc) := by simp
      have Y := hidMk (And.intro y0 (And.intro y1 (And.intro y2 y3)))
      have HK0 := hidMk (((Kept.refl w).alloc (.cells #[.slice a n c, .slice b m d, .int .i64 lv, .int .i64 sc] 25)).drew)
      clear y0 y1 y2 y3
      go_wp2_with fail
      go_region_held3 (fun w' => w'.cell? ⟨w.heap.size, 1, none⟩ = some (.slice b m d) ∧ w'.cell? ⟨w.heap.size, 2, none⟩ = some (.int .i64 lv) ∧ w'.cell? ⟨w.heap.size, 3, none⟩ = some (.int .i64 sc)) (first | go_keep | (refine ⟨?_, ?_, ?_⟩ <;> assumption))
        ((go_at_call 38; refine HCL.out.mono ?_; rintro e w3 ⟨mb, mc, rfl, s3, b3, k3⟩; have x0 := k3.cellp Y.out.1; have x1 := k3.cellp Y.out.2.1; have x2 := k3.cellp Y.out.2.2.1; have x3 := k3.cellp Y.out.2.2.2; have S3 := hidMk s3; have B3 := hidMk b3; have K3 := hidMk (HK0.out.trans k3); have z0 := fun o => ((Kept.refl w3).alloc o).cellp x0; have z1 := fun o => ((Kept.refl w3).alloc o).cellp x1; have z2 := fun o => ((Kept.refl w3).alloc o).cellp x2; have z3 := fun o => ((Kept.refl w3).alloc o).cellp x3; clear s3 b3 k3))
      refine gen_world (f := fun W => Exit.then _ _ _ _ W) (fun W => DP W W w3.heap.size [] (fun _ => 0) mb mc ms lv sc (.slice none 0 0) ∧ Kept w W ∧ W.cell? ⟨w.heap.size, 0, none⟩ = some (.slice a n c)) ⟨⟨Chg.refl _ _, by simp, by rw [hlm]; simp, by simp, by simp, fun j => by simp, World.ownsRow_nil _ _ _ _, fun k hk => absurd hk (by simp), by rw [hlm]; exact S3.out.kept ((Kept.refl w3).alloc _), fun hp ad had => by
        have hp' : 0 < m := by omega
        obtain ⟨bb, oo, e1, e2, _⟩ := S3.out.cells hp'
        rw [had] at e1
        cases e1
        simp
        omega, by simp⟩, K3.out.alloc _, z0 _⟩ ?_
      rintro w0 ⟨hD0, hK0, hx0⟩
      have HD0 := hidMk hD0
      have HKW := hidMk hK0
      have hpw : w.heap.size ≤ w3.heap.size := K3.out.size
      generalize w3.heap.size = p at *
      clear hD0 hK0 x0 x1 x2 x3 z0 z1 z2 z3 Y HK0 K3 S3 B3 HCL F1 F2 HM f1 f2 HF
      go_wp2_with fail
      go_loopg [34] n (fun g x wr => ∃ (k : Nat) (tp : Nat → Nat) (dv : Value), k + g = n ∧ x = .int .i64 k ∧ DP w0 wr p (ds.take k) tp mb mc ms lv sc dv ∧ Hid (∀ j, j < k → AddOk ds j 0))
      case atStart => exact ⟨0, _, _, by omega, rfl, HD0.out, hidMk fun j hj => absurd hj (by omega)⟩
      case round =>
        obtain ⟨k, tp, dv, hkg, rfl, hD, HJ⟩ := hrel
        have HKG := hidMk hkg
        have HD := hidMk hD
        have HKR := hidMk (show Kept w wr from hD.chg.kept HKW.out (fun j e => by omega))
        by_cases hkn : k < n
        · obtain ⟨bb, oo, rfl, _, hcs⟩ := (HS.out.kept HKR.out).cells (by omega)
          obtain ⟨c1, c2⟩ := hcs k hkn
          have hnd := (HS.out.kept HKR.out).nds k hkn
          have hnm := HS.out.nmb k hkn
          have htk := take_dm (ds := ds) (k := k) (by omega)
          have hAO : ∀ er, AddOk ds k er ↔ AddIs (ds.take k) (dmN ds k) (dmL ds k) er := fun er => Iff.rfl
          have HAO := hidMk hAO
          have HTK := hidMk htk
          have hlk : (ds.take k).length ≤ 50 := by rw [List.length_take]; omega
          clear hcs hkg hD htk hAO
          generalize hna : na k = nk at *
          obtain ⟨n1, n2, n3⟩ := nk
          simp only [slv] at c2 hnd
          have HADD := hidMk (show ∀ y, Kept wr y → _ from fun y hy => dims_add (HD.out.kept hy) hlk (dmN ds k) hnm n1 n2 n3 (dmL ds k) (hnd.kept hy))
          clear hnd hnm hna
          generalize dmN ds k = nm at *
          generalize dmL ds k = nd at *
          have kn' : (k : Int) < n := by omega
          go_wp2_with fail
          refine (HADD.out _ ((Kept.refl _).alloc _)).mono ?_
          rintro e w5 ⟨er, rfl, hai, ⟨rfl, tp', dv', h5⟩ | ⟨her, k5⟩⟩
          · have H5 := hidMk h5
            have HAI := hidMk hai
            have HJ2 := hidMk (show ∀ j, j < k + 1 → AddOk ds j 0 from fun j hj => by
              by_cases e : j = k
              · subst e; exact (HAO.out 0).2 hai
              · exact HJ.out j (by omega))
            clear h5 hai
            go_wp2_with fail
            go_roundg (gk - 1)
            case measure => have := HKG.out; omega
            case rel => exact ⟨k + 1, tp', dv', by have := HKG.out; omega, by go_num, by rw [HTK.out]; exact H5.out, HJ2⟩
          · have K5 := hidMk (((Kept.refl wr).alloc _).trans k5)
            have HBD := hidMk (show CatIs ds ms lv sc (k : Nat) er from .inr ⟨by omega, .inl ⟨k, by omega, (HAO.out er).2 hai, her, HJ.out, rfl⟩⟩)
            have HER := hidMk her
            have her' : (er != 0) = true := by simpa using her
            clear k5 hai her
            go_wp2_with fail
            go_ret3
            exact .inr ⟨k, er, rfl, HER.out, HBD.out, HKR.out.trans K5.out⟩
        · have hk : k = n := by omega
          have htk : ds.take k = ds := List.take_of_length_le (by omega)
          rw [htk] at HD
          have HCK := hidMk (dims_check HD.out (by omega) (by omega) HMZ.out)
          have HAL := hidMk (show ∀ j, j < ds.length → AddOk ds j 0 from fun j hj => HJ.out j (by omega))
          have kn' : ¬ ((k : Int) < n) := by omega
          clear hD hkg htk
          go_wp2_with fail
          refine HCK.out.mono ?_
          rintro e w6 ⟨er, rfl, hci, k6⟩
          have K6 := hidMk k6
          have HCI := hidMk hci
          clear k6 hci
          by_cases her : er = 0
          · subst her
            have HFIN := hidMk (show CatIs ds ms lv sc 0 0 from .inr ⟨by omega, .inr ⟨HAL.out, HCI.out, rfl⟩⟩)
            go_wp2_with fail
            go_ret3
            exact .inl ⟨w0, p, tp, mb, mc, dv, rfl, HFIN.out, HD.out.kept K6.out, HKR.out.trans K6.out⟩
          · have HFIN := hidMk (show CatIs ds ms lv sc (-1) er from .inr ⟨by omega, .inr ⟨HAL.out, HCI.out, by rw [if_neg her]⟩⟩)
            have HER := hidMk her
            have her' : (er != 0) = true := by simpa using her
            clear her
            go_wp2_with fail
            go_ret3
            exact .inr ⟨-1, er, rfl, HER.out, HFIN.out, HKR.out.trans K6.out⟩
    · rw [decide_eq_false h2] at f2
      have F1 := hidMk (show ∀ y, Calls Tryz.prog 37 #[.int .i64 n, .int .i64 4] y fun e w' => e = .returned (.bool true) ∧ w' = y from fun y => by have := HF.out n 4 y; rw [f1] at this; exact this)
      have F2 := hidMk (show ∀ y, Calls Tryz.prog 37 #[.int .i64 m, .int .i64 4] y fun e w' => e = .returned (.bool false) ∧ w' = y from fun y => by have := HF.out m 4 y; rw [f2] at this; exact this)
      clear f1 f2 HF
      go_enter Tryz.func20, Tryz.ntmps20
      go_wp2_with fail
      refine (F1.out _).mono ?_
      rintro e w1 ⟨rfl, rfl⟩
      go_wp2_with fail
      refine (F2.out _).mono ?_
      rintro e w2 ⟨rfl, rfl⟩
      go_wp2_with fail
      go_ret3
      exact .inr ⟨-1, 5, rfl, by omega, .inl ⟨by omega, rfl, rfl⟩, (Kept.refl w).alloc _⟩
  · rw [decide_eq_false h1] at f1
    have F1 := hidMk (show ∀ y, Calls Tryz.prog 37 #[.int .i64 n, .int .i64 4] y fun e w' => e = .returned (.bool false) ∧ w' = y from fun y => by have := HF.out n 4 y; rw [f1] at this; exact this)
    clear f1 f2 HF
    go_enter Tryz.func20, Tryz.ntmps20
    go_wp2_with fail
    refine (F1.out _).mono ?_
    rintro e w1 ⟨rfl, rfl⟩
    go_wp2_with fail
    go_ret3
    exact .inr ⟨-1, 5, rfl, by omega, .inl ⟨by omega, rfl, rfl⟩, (Kept.refl w).alloc _⟩
end Go.Proofs.YtpehinmckppjoaaGreatDoor
