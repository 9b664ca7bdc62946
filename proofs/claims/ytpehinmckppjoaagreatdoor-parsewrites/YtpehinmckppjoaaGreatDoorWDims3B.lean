/- Small things of dims: limits, places, texts in a row. · A catalogue in memory while it is made: dims.Find, Many, Meas, add. · dims.Find and dims.add. -/
import Derived.Test.YtpehinmckppjoaaGreatDoorWTree12B
import Derived.Test.YtpehinmckppjoaaGreatDoorWStrsB
import Derived.Test.YtpehinmckppjoaaGreatDoorWNodes
import Derived.Deep.RegionLaw
import Derived.Deep.CutRange
namespace Go.Proofs.YtpehinmckppjoaaGreatDoor
open Go.RowKit Go.Maps
set_option linter.unusedSimpArgs false
set_option linter.unusedVariables false

def fromB (n most : Int) : Bool := decide (1 ≤ n ∧ n ≤ most)
theorem dims_from1 (n most : Int) (w : World) : Calls Tryz.prog 37 #[.int .i64 n, .int .i64 most] w fun e w' => e = .returned (.bool (fromB n most)) ∧ w' = w := by
  by_cases h1 : 1 ≤ n
  · by_cases h2 : n ≤ most
    · rw [show fromB n most = true from decide_eq_true ⟨h1, h2⟩]
      go_enter Tryz.func37, Tryz.ntmps37
      go_wp2_with fail
      go_ret
      exact ⟨rfl, rfl⟩
    · rw [show fromB n most = false from decide_eq_false (fun h => h2 h.2)]
      have h2' : most < n := by omega
      go_enter Tryz.func37, Tryz.ntmps37
      go_wp2_with fail
      go_ret
      first | exact ⟨rfl, rfl⟩ | exact ⟨by simp, rfl⟩ | exact ⟨by simp; omega, rfl⟩
  · rw [show fromB n most = false from decide_eq_false (fun h => h1 h.1)]
    have h1' : n < 1 := by omega
    go_enter Tryz.func37, Tryz.ntmps37
    go_wp2_with fail
    go_ret
    exact ⟨rfl, rfl⟩
theorem ss_news {w : World} {ad : Addr} {n : Nat} {l : List ByteArray} (h : Ss w (some ad) n l) : ∀ (j : Nat) u, (l.map Value.string)[j]? = some u → w.cell? (ad.add j) = some u := by
  intro j u hj
  have hl := h.len
  have hjn : j < n := by
    have := (List.getElem?_eq_some_iff.1 hj).1
    simp at this; omega
  obtain ⟨bb, oo, e, _, hcs⟩ := h.cells (by omega)
  cases e
  rw [Addr.add_lit, hcs j hjn, ← hj, List.getElem?_map, List.getElem?_eq_getElem (by omega)]
  simp [List.getD, List.getElem?_eq_getElem (show j < l.length by omega)]
theorem strs_one (l : List ByteArray) : ∀ u ∈ l.map Value.string, u.oneCell' = true := by
  intro u hu
  obtain ⟨x, _, rfl⟩ := List.mem_map.1 hu
  rfl
theorem sinfo : ∃ i0, Tryz.prog.info? 9 = some i0 ∧ i0.zero = some (.string ⟨#[]⟩) ∧ i0.size = 1 ∧ i0.bytes = 16 := by
  have h : (Tryz.prog.info? 9).map (fun i => (i.zero, i.size, i.bytes)) = some (some (.string ⟨#[]⟩), 1, 16) := by kernel_rfl
  exact info_parts h
theorem own_ss {w : World} {B : Nat} {v : Value} {l : List ByteArray} (hm : l.length ≤ maxLen) (h : w.ownsRow B 9 1 v l.length (l.map Value.string)) : ∃ a c, v = .slice a l.length c ∧ Ss w a l.length l ∧ ∀ ad, a = some ad → B ≤ ad.block := by
  have h' := h
  have hlt := World.ownsRow.lt h
  obtain ⟨_, ⟨rfl, hz⟩ | ⟨g, cap, cur, rfl, hb, hheap, hc, hcm, hsz, htk⟩⟩ := h
  · exact ⟨none, 0, by rw [hz], ⟨rfl, hm, fun hp => absurd hp (by omega)⟩, fun ad had => by cases had⟩
  · refine ⟨_, _, rfl, ⟨rfl, hm, fun hp => ⟨g, 0, rfl, (hlt g rfl).2, fun i hi => ?_⟩⟩, fun ad had => by cases had; exact hb⟩
    rw [Nat.zero_add, h'.cellAt i (by omega)]
    simp [List.getElem?_map, List.getElem?_eq_getElem hi, List.getD]
set_option maxHeartbeats 400000 in
theorem slices_CloneS (a : Option Addr) (n c : Nat) (l : List ByteArray) (w : World) (hs : Ss w a n l) (hl : n ≤ 1000) :
    Calls Tryz.prog 38 #[.slice a n c] w fun e w' => ∃ a' c', e = .returned (.slice a' n c') ∧ Ss w' a' n l ∧ (∀ ad, a' = some ad → w.heap.size ≤ ad.block) ∧ Kept w w' := by
  obtain ⟨i0, hi0, hz0, hz1, hz2⟩ := sinfo
  have q : ∀ (w : World) (a : Option Addr) (n c n' c' : Nat), (binOp .eql 23 (.slice a n c) (.slice none n' c')).run Tryz.prog w = .ok (.bool a.isNone) w := fun w a n c n' c' => Lib.run_eql_slice_nil w _ _ a n c n' c' Tryz.underlying23
  have H := hidMk hs
  have HA := hidMk hi0
  have HZ := hidMk hz0
  have hlen := hs.len
  have hbig := hs.big
  clear hs hi0 hz0
  cases a with
  | none =>
    have hn : n = 0 := by
      by_cases hn : 0 < n
      · obtain ⟨b, o, e, _⟩ := H.out.cells hn
        cases e
      · omega
    subst hn
    go_enter Tryz.func38, Tryz.ntmps38
    go_wp2
    go_ret
    exact ⟨none, 0, rfl, H.out, fun ad had => (by cases had), Kept.refl _⟩
  | some ad =>
    go_enter Tryz.func38, Tryz.ntmps38
    go_wp2_with (at_builtin; refine wpList_append_own_wide _ rfl _ _ 23 rfl w.heap.size 9 i0 (.string ⟨#[]⟩) 1 16 Tryz.underlying23 HA.out HZ.out hz1 hz2 rfl (by decide) _ _ _ rfl (World.ownsRow_made w #[] 0 (Nat.le_refl _) (Nat.zero_le _) (by simp)) ad n c (l.map Value.string) rfl ?c1 ?c2 ?c3 ?c4 ?c5 ?c6 ?_)
    case c1 => simpa using hlen
    case c2 => exact ss_news (H.out.kept ((Kept.refl w).alloc _))
    case c3 => exact strs_one l
    case c4 => rw [Nat.zero_add]; exact hbig
    case c5 => rw [Nat.zero_add]; omega
    case c6 => simp
    intro v' w1 hown hgrow hnil
    have H4 := hidMk hown
    have H5 := hidMk (show Kept w w1 from ((Below.refl _ w).alloc (Nat.le_refl _) _).grown hgrow (by simp) (by intro k hk; simp [Value.ownBlock] at hk; omega))
    clear hown hgrow hnil
    go_wp2
    go_ret
    have h2 : w1.ownsRow w.heap.size 9 1 v' l.length (l.map Value.string) := by rw [hlen]; simpa using H4.out
    obtain ⟨a', c', rfl, g1, g2⟩ := own_ss (by omega) h2
    rw [hlen] at g1
    exact ⟨a', c', by rw [hlen]; rfl, g1, g2, H5.out⟩
/-- The first place of a text. -/
def idxS (l : List ByteArray) (s : ByteArray) : Nat := l.findIdx fun x => decide (x = s)
def idxI (l : List ByteArray) (s : ByteArray) : Int := if idxS l s < l.length then idxS l s else -1
theorem idxS_at {l : List ByteArray} {s : ByteArray} {k : Nat} (hk : k < l.length) (he : l.getD k ByteArray.empty = s) (h : ∀ j, j < k → l.getD j ByteArray.empty ≠ s) : idxI l s = k := by
  have e : idxS l s = k := by
    unfold idxS
    rw [List.findIdx_eq hk]
    have e0 : l.getD k ByteArray.empty = l[k] := by simp [List.getD, List.getElem?_eq_getElem hk]
    refine ⟨decide_eq_true (e0.symm.trans he), fun j hj => ?_⟩
    have := h j hj
    have hjl : j < l.length := by omega
    simp [List.getD, List.getElem?_eq_getElem hjl] at this
    simpa using this
  unfold idxI
  rw [e, if_pos hk]
theorem idxS_no {l : List ByteArray} {s : ByteArray} (h : ∀ j, j < l.length → l.getD j ByteArray.empty ≠ s) : idxI l s = -1 := by
  have e : idxS l s = l.length := by
    unfold idxS
    rw [List.findIdx_eq_length]
    intro x hx
    obtain ⟨j, hj, rfl⟩ := List.getElem_of_mem hx
    have := h j hj
    simp [List.getD, List.getElem?_eq_getElem hj] at this
    simpa using this
  unfold idxI
  rw [e, if_neg (by omega)]
theorem bytes_neD {a b : ByteArray} (h : a ≠ b) : (a.toList == b.toList) = false := by
  rw [beq_eq_false_iff_ne]
  intro e
  apply h
  apply ByteArray.ext
  rw [ByteArray.toList_eq, ByteArray.toList_eq] at e
  exact Array.toList_inj.1 e
theorem slices_IndexS (a : Option Addr) (n c : Nat) (l : List ByteArray) (s : ByteArray) (w : World) (hs : Ss w a n l) : Calls Tryz.prog 95 #[.slice a n c, .string s] w fun e w' => e = .returned (.int .i64 (idxI l s)) ∧ w' = w := by
  obtain ⟨r, hr⟩ : ∃ r, idxI l s = r := ⟨_, rfl⟩
  rw [hr]
  have HR := hidMk hr
  have HS := hidMk hs
  have hlen := hs.len
  have hbig := hs.big
  unfold maxLen at hbig
  clear hr hs
  go_enter Tryz.func95, Tryz.ntmps95
  go_wp2_with fail
  go_loopw [5, 8] (fun _ i wr => ∃ k : Nat, k ≤ n ∧ i = .int .i64 k ∧ wr = w ∧ Hid (∀ j, j < k → l.getD j ByteArray.empty ≠ s)) (fun _ i _ => n - (intOf i).toNat)
  case atStart => exact ⟨0, Nat.zero_le _, rfl, rfl, hidMk fun j hj => absurd hj (by omega)⟩
  case round =>
    obtain ⟨k, hk, rfl, rfl, HJ⟩ := hrel
    by_cases hkn : k < n
    · obtain ⟨b, o, rfl, hb, hcs⟩ := HS.out.cells (by omega)
      have hc := hcs k hkn
      clear hcs
      by_cases he : l.getD k ByteArray.empty = s
      · have HF := hidMk (show r = k from by rw [← HR.out]; exact idxS_at (by omega) he HJ.out)
        rw [he] at hc
        clear he
        go_wp2_with fail
        go_ret
        exact ⟨by rw [HF.out]; rfl, rfl⟩
      · have HS2 := hidMk (show ∀ j, j < k + 1 → l.getD j ByteArray.empty ≠ s from fun j hj => by
          by_cases e : j = k
          · subst e; exact he
          · exact HJ.out j (by omega))
        have he' := bytes_neD (fun x => he x.symm : s ≠ _)
        clear he
        generalize l.getD k ByteArray.empty = x at *
        go_wp2_with fail
        exact ⟨⟨k + 1, by omega, by go_num, trivial, HS2⟩, by simp [intOf]; omega⟩
    · have HF := hidMk (show r = -1 from by rw [← HR.out]; exact idxS_no (fun j hj => HJ.out j (by omega)))
      have hkk : ¬ ((k : Int) < (n : Int)) := by omega
      go_wp2_with fail
      go_ret
      exact ⟨by rw [HF.out]; rfl, rfl⟩
end Go.Proofs.YtpehinmckppjoaaGreatDoor
namespace Go.Proofs.YtpehinmckppjoaaGreatDoor
open Go.RowKit Go.Maps
set_option linter.unusedSimpArgs false
set_option linter.unusedVariables false

/-- A dimension: its name, and its members. -/
abbrev Dm := ByteArray × List Nd
def dmN (ds : List Dm) (k : Nat) : ByteArray := (ds.getD k (ByteArray.empty, [])).1
def dmL (ds : List Dm) (k : Nat) : List Nd := (ds.getD k (ByteArray.empty, [])).2
def lbl (ds : List Dm) : List ByteArray := ds.map (·.1)
theorem lbl_get (ds : List Dm) (k : Nat) (h : k < ds.length) : (lbl ds).getD k ByteArray.empty = dmN ds k := by
  simp [lbl, dmN, List.getD, List.getElem?_map, List.getElem?_eq_getElem h]
theorem dmN_app1 {ds : List Dm} {x : Dm} {k : Nat} (h : k < ds.length) : dmN (ds ++ [x]) k = dmN ds k := by
  simp [dmN, List.getD, List.getElem?_append_left h]
theorem dmL_app1 {ds : List Dm} {x : Dm} {k : Nat} (h : k < ds.length) : dmL (ds ++ [x]) k = dmL ds k := by
  simp [dmL, List.getD, List.getElem?_append_left h]
theorem dmN_app2 {ds : List Dm} {x : Dm} : dmN (ds ++ [x]) ds.length = x.1 := by simp [dmN, List.getD]
theorem dmL_app2 {ds : List Dm} {x : Dm} : dmL (ds ++ [x]) ds.length = x.2 := by simp [dmL, List.getD]
def dimV (ds : List Dm) (tp : Nat → Nat) (j : Nat) : Value := if j % 2 = 0 then .string (dmN ds (j / 2)) else .pointer (some ⟨tp (j / 2), 0, none⟩)
def dimVs (ds : List Dm) (tp : Nat → Nat) : List Value := (List.range (ds.length * 2)).map (dimV ds tp)
theorem dimVs_app (ds : List Dm) (tp : Nat → Nat) (x : Dm) (q : Nat) : dimVs (ds ++ [x]) (fun k => if k = ds.length then q else tp k) = dimVs ds tp ++ [.string x.1, .pointer (some ⟨q, 0, none⟩)] := by
  unfold dimVs
  rw [List.length_append, List.length_singleton, show (ds.length + 1) * 2 = ds.length * 2 + 1 + 1 by omega, List.range_succ, List.range_succ, List.map_append, List.map_append, List.append_assoc]
  congr 1
  · apply List.map_congr_left
    intro j hj
    simp only [List.mem_range] at hj
    unfold dimV
    have h1 : j / 2 < ds.length := by omega
    rw [dmN_app1 h1]
    have h2 : ¬ (j / 2 = ds.length) := by omega
    simp [h2]
  · have e1 : dimV (ds ++ [x]) (fun k => if k = ds.length then q else tp k) (ds.length * 2) = .string x.1 := by
      unfold dimV
      rw [if_pos (by omega), show ds.length * 2 / 2 = ds.length by omega, dmN_app2]
    have e2 : dimV (ds ++ [x]) (fun k => if k = ds.length then q else tp k) (ds.length * 2 + 1) = .pointer (some ⟨q, 0, none⟩) := by
      unfold dimV
      rw [if_neg (by omega), show (ds.length * 2 + 1) / 2 = ds.length by omega]
      simp
    simp only [List.map_cons, List.map_nil, List.singleton_append]
    rw [e1, e2]
/-- A catalogue's dimensions in memory. -/
structure DP (w0 w : World) (p : Nat) (ds : List Dm) (tp : Nat → Nat) (ma : Option Addr) (mc : Nat) (ms : List ByteArray) (lv sc : Int) (dv : Value) : Prop where
  chg : Chg (· = p) w0 w
  c0 : w.cell? ⟨p, 0, none⟩ = some dv
  c1 : w.cell? ⟨p, 1, none⟩ = some (.slice ma ms.length mc)
  c2 : w.cell? ⟨p, 2, none⟩ = some (.int .i64 lv)
  c3 : w.cell? ⟨p, 3, none⟩ = some (.int .i64 sc)
  fz : ∀ j, w.frozen? ⟨p, j, none⟩ = false
  own : w.ownsRow w0.heap.size 145 2 dv ds.length (dimVs ds tp)
  tr : ∀ k, k < ds.length → ∃ lo hi, Solid lo hi (tp k) (dmL ds k) w ∧ p < lo ∧ ∀ g, dv.ownBlock = some g → ¬ (lo ≤ g ∧ g < hi)
  mss : Ss w ma ms.length ms
  mb : 0 < ms.length → ∀ ad, ma = some ad → ad.block ≠ p ∧ ad.block < w0.heap.size
  lt : p < w0.heap.size
section
variable {w0 w : World} {p : Nat} {ds : List Dm} {tp : Nat → Nat} {ma : Option Addr} {mc : Nat} {ms : List ByteArray} {lv sc : Int} {dv : Value}
theorem DP.kept {y : World} (h : DP w0 w p ds tp ma mc ms lv sc dv) (g : Kept w y) : DP w0 y p ds tp ma mc ms lv sc dv := by
  have lp : p < w.heap.size := cell_lt h.c0
  refine ⟨h.chg.trans (Chg.of_kept g), g.cellp h.c0, g.cellp h.c1, g.cellp h.c2, g.cellp h.c3, fun j => (g.frozen (p := ⟨p, j, none⟩) lp).trans (h.fz j), ?_, fun k hk => ?_, h.mss.kept g, h.mb, h.lt⟩
  · obtain ⟨h0, h1 | ⟨k, cap, cur, hv, hb', hh, r⟩⟩ := h.own
    · exact ⟨h0, .inl h1⟩
    · refine ⟨h0, .inr ⟨k, cap, cur, hv, hb', ?_, r⟩⟩
      have hk : k < w.heap.size := by
        by_cases hlt : k < w.heap.size
        · exact hlt
        · rw [Array.getElem?_eq_none (by omega)] at hh; cases hh
      rw [g.block k hk]
      exact hh
  · obtain ⟨lo, hi, h1, h2, h3⟩ := h.tr k hk
    exact ⟨lo, hi, h1.kept g, h2, h3⟩
/-- The dimensions' slice, and each one's cells. -/
theorem DP.rows (h : DP w0 w p ds tp ma mc ms lv sc dv) (hm : ds.length ≤ 60) : ∃ a c, dv = .slice a ds.length c ∧ (0 < ds.length → ∃ b, a = some ⟨b, 0, none⟩ ∧ ∀ k, k < ds.length → w.cell? ⟨b, k * 2, none⟩ = some (.string (dmN ds k)) ∧ w.cell? ⟨b, k * 2 + 1, none⟩ = some (.pointer (some ⟨tp k, 0, none⟩))) := by
  have h' := h.own
  obtain ⟨_, ⟨hv, hz⟩ | ⟨g, cap, cur, hv, hb, hheap, hc, hcm, hsz, htk⟩⟩ := h.own
  · exact ⟨none, 0, by rw [hv, hz], fun hp => absurd hp (by omega)⟩
  · refine ⟨_, _, hv, fun hp => ⟨g, rfl, fun k hk => ?_⟩⟩
    subst hv
    have e1 := h'.cellAt (k * 2) (by omega)
    have e2 := h'.cellAt (k * 2 + 1) (by omega)
    rw [e1, e2]
    constructor
    · simp only [dimVs, List.getElem?_map]
      rw [List.getElem?_range (by omega)]
      simp only [Option.map_some, dimV]
      rw [if_pos (by omega), show k * 2 / 2 = k by omega]
    · simp only [dimVs, List.getElem?_map]
      rw [List.getElem?_range (by omega)]
      simp only [Option.map_some, dimV]
      rw [if_neg (by omega), show (k * 2 + 1) / 2 = k by omega]
end
theorem dims_Many {w0 w : World} {p : Nat} {ds : List Dm} {tp : Nat → Nat} {ma : Option Addr} {mc : Nat} {ms : List ByteArray} {lv sc : Int} {dv : Value} (h : DP w0 w p ds tp ma mc ms lv sc dv) (hm : ds.length ≤ 60) :
    Calls Tryz.prog 169 #[.pointer (some ⟨p, 0, none⟩)] w fun e w' => e = .returned (.int .i64 ds.length) ∧ w' = w := by
  obtain ⟨a, c, rfl, _⟩ := h.rows hm
  have h0 := h.c0
  clear h
  go_enter Tryz.func169, Tryz.ntmps169
  go_wp2_with fail
  go_ret
  exact ⟨rfl, rfl⟩
theorem dims_Meas {w0 w : World} {p : Nat} {ds : List Dm} {tp : Nat → Nat} {ma : Option Addr} {mc : Nat} {ms : List ByteArray} {lv sc : Int} {dv : Value} (h : DP w0 w p ds tp ma mc ms lv sc dv) (s : ByteArray) :
    Calls Tryz.prog 66 #[.pointer (some ⟨p, 0, none⟩), .string s] w fun e w' => e = .returned (.int .i64 (idxI ms s)) ∧ w' = w := by
  have h1 := h.c1
  have HI := hidMk (slices_IndexS ma ms.length mc ms s w h.mss)
  clear h
  go_enter Tryz.func66, Tryz.ntmps66
  go_wp2_with (go_at_call 95; refine HI.out.mono ?_; rintro e w1 ⟨rfl, rfl⟩)
  go_ret
  exact ⟨rfl, rfl⟩
theorem find_fn (s x : ByteArray) (q : Value) (g : Nat) (w : World) (hq : ∃ t, q = .pointer (some ⟨t, 0, none⟩)) (hc : w.cell? ⟨g, 0, none⟩ = some (.string s)) : Calls Tryz.prog 91 #[.agg #[.string x, q], .pointer (some ⟨g, 0, none⟩)] w fun e w' => e = .returned (.bool (decide (x = s))) ∧ Kept w w' := by
  obtain ⟨t, rfl⟩ := hq
  have hc' := fun o => ((Kept.refl w).alloc o).cellp hc
  by_cases e : x = s
  · subst e
    rw [decide_eq_true rfl]
    go_enter Tryz.func91, Tryz.ntmps91
    go_wp2_with fail
    go_ret
    first | exact ⟨rfl, (Kept.refl w).alloc _⟩ | exact ⟨by simp, (Kept.refl w).alloc _⟩
  · rw [decide_eq_false e]
    have he := bytes_neD e
    clear e
    go_enter Tryz.func91, Tryz.ntmps91
    go_wp2_with fail
    go_ret
    first | exact ⟨rfl, (Kept.refl w).alloc _⟩ | exact ⟨by rw [← he], (Kept.refl w).alloc _⟩ | exact ⟨by simp [he], (Kept.refl w).alloc _⟩
end Go.Proofs.YtpehinmckppjoaaGreatDoor
namespace Go.Proofs.YtpehinmckppjoaaGreatDoor
open Go.RowKit Go.Maps
set_option linter.unusedSimpArgs false
set_option linter.unusedVariables false

theorem lbl_len (ds : List Dm) : (lbl ds).length = ds.length := by simp [lbl]
set_option maxHeartbeats 800000 in
theorem slices_IndexD (a : Option Addr) (c : Nat) (ds : List Dm) (tp : Nat → Nat) (s : ByteArray) (g : Nat) (w : World) (hm : ds.length ≤ 60)
    (hr : 0 < ds.length → ∃ b, a = some ⟨b, 0, none⟩ ∧ ∀ k, k < ds.length → w.cell? ⟨b, k * 2, none⟩ = some (.string (dmN ds k)) ∧ w.cell? ⟨b, k * 2 + 1, none⟩ = some (.pointer (some ⟨tp k, 0, none⟩)))
    (hg : w.cell? ⟨g, 0, none⟩ = some (.string s)) :
    Calls Tryz.prog 90 #[.slice a ds.length c, .func (.func 91) #[] #[.pointer (some ⟨g, 0, none⟩)]] w fun e w' => e = .returned (.int .i64 (idxI (lbl ds) s)) ∧ Kept w w' := by
  obtain ⟨r, hrr⟩ : ∃ r, idxI (lbl ds) s = r := ⟨_, rfl⟩
  rw [hrr]
  have HR := hidMk hrr
  have HC := hidMk hr
  have HG := hidMk hg
  clear hrr hr hg
  go_enter Tryz.func90, Tryz.ntmps90
  go_wp2_with fail
  go_loopg [8] ds.length (fun gg i wr => ∃ k : Nat, k + gg = ds.length ∧ i = .int .i64 k ∧ Kept w wr ∧ Hid (∀ j, j < k → (lbl ds).getD j ByteArray.empty ≠ s))
  case atStart => exact ⟨0, by omega, rfl, Kept.refl _, hidMk fun j hj => absurd hj (by omega)⟩
  case round =>
    obtain ⟨k, hkg, rfl, hk, HJ⟩ := hrel
    have HKG := hidMk hkg
    have HK := hidMk hk
    by_cases hkn : k < ds.length
    · obtain ⟨b, rfl, hcs⟩ := HC.out (by omega)
      obtain ⟨c1, c2⟩ := hcs k hkn
      have d1 := hk.cellp c1
      have d2 := hk.cellp c2
      have hf := find_fn s (dmN ds k) (.pointer (some ⟨tp k, 0, none⟩)) g wr ⟨_, rfl⟩ (hk.cellp HG.out)
      have hlg := lbl_get ds k hkn
      clear hcs c1 c2 hk hkg
      by_cases he : dmN ds k = s
      · have HF := hidMk (show r = k from by rw [← HR.out]; exact idxS_at (by rw [lbl_len]; exact hkn) (by rw [hlg]; exact he) HJ.out)
        rw [decide_eq_true he] at hf
        have HFN := hidMk hf
        clear hf he hlg
        generalize dmN ds k = x at *
        generalize tp k = q at *
        go_wp2_with (go_at_call 91; refine HFN.out.mono ?_; rintro e w2 ⟨rfl, k2⟩; have K2 := hidMk k2; clear k2)
        go_ret
        exact ⟨by rw [HF.out]; rfl, HK.out.trans K2.out⟩
      · have HS2 := hidMk (show ∀ j, j < k + 1 → (lbl ds).getD j ByteArray.empty ≠ s from fun j hj => by
          by_cases e : j = k
          · subst e; rw [hlg]; exact he
          · exact HJ.out j (by omega))
        rw [decide_eq_false he] at hf
        have HFN := hidMk hf
        clear hf he hlg
        generalize dmN ds k = x at *
        generalize tp k = q at *
        go_wp2_with (go_at_call 91; refine HFN.out.mono ?_; rintro e w2 ⟨rfl, k2⟩; have K2 := hidMk k2; clear k2)
        go_roundg (gk - 1)
        case measure => have := HKG.out; omega
        case rel => exact ⟨k + 1, by have := HKG.out; omega, by go_num, HK.out.trans K2.out, HS2⟩
    · have HF := hidMk (show r = -1 from by rw [← HR.out]; exact idxS_no (fun j hj => by rw [lbl_len] at hj; exact HJ.out j (by omega)))
      have hkk : ¬ ((k : Int) < (ds.length : Int)) := by omega
      clear hk hkg
      go_wp2_with fail
      go_ret
      exact ⟨by rw [HF.out]; rfl, HK.out⟩
theorem dims_Find {w0 w : World} {p : Nat} {ds : List Dm} {tp : Nat → Nat} {ma : Option Addr} {mc : Nat} {ms : List ByteArray} {lv sc : Int} {dv : Value} (h : DP w0 w p ds tp ma mc ms lv sc dv) (hm : ds.length ≤ 60) (s : ByteArray) :
    Calls Tryz.prog 64 #[.pointer (some ⟨p, 0, none⟩), .string s] w fun e w' => e = .returned (.int .i64 (idxI (lbl ds) s)) ∧ Kept w w' := by
  obtain ⟨a, c, rfl, hr⟩ := h.rows hm
  have h0 := ((Kept.refl w).alloc (.cells #[.string s] 9)).cellp h.c0
  have HI := hidMk (slices_IndexD a c ds tp s w.heap.size (w.alloc (.cells #[.string s] 9)) hm (fun hp => by
    obtain ⟨b, e, hb⟩ := hr hp
    exact ⟨b, e, fun k hk => ⟨((Kept.refl w).alloc _).cellp (hb k hk).1, ((Kept.refl w).alloc _).cellp (hb k hk).2⟩⟩) (by simp))
  clear h hr
  go_enter Tryz.func64, Tryz.ntmps64
  go_wp2_with (go_at_call 90; refine HI.out.mono ?_; rintro e w1 ⟨rfl, k1⟩; have K1 := hidMk k1; clear k1)
  go_ret
  exact ⟨rfl, ((Kept.refl w).alloc _).trans K1.out⟩
theorem dinfo : ∃ i0, Tryz.prog.info? 145 = some i0 ∧ i0.zero = some (.agg #[.string ⟨#[]⟩, .pointer none]) ∧ i0.size = 2 ∧ i0.bytes = 24 := by
  have h : (Tryz.prog.info? 145).map (fun i => (i.zero, i.size, i.bytes)) = some (some (.agg #[.string ⟨#[]⟩, .pointer none]), 2, 24) := by kernel_rfl
  exact info_parts h
theorem step_pushD {ops : Array Oper} {o : Oper} {a : Act} {K : Act → World → Prop} {Q : Exit → Act → World → Prop} {E : Prop} (w : World) (hgd : o.guard = none) (s x : Operand)
    (ho : o.op = .call { callee := .builtin .append, args := #[s, x], argTypes := #[92, 92] })
    (B : Nat) (v : Value) (ds : List Dm) (tp : Nat → Nat) (hs : a.eval s = v) (hv : w.ownsRow B 145 2 v ds.length (dimVs ds tp)) (hB : B ≤ w.heap.size) (g : Nat) (nm : ByteArray) (q : Nat) (hx : a.eval x = .slice (some ⟨g, 0, none⟩) 1 1)
    (hc0 : w.cell? ⟨g, 0, none⟩ = some (.string nm)) (hc1 : w.cell? ⟨g, 1, none⟩ = some (.pointer (some ⟨q, 0, none⟩))) (h47 : ds.length ≤ 60) (H : Nat) (hH : w.heap.size = H)
    (h : ∀ g' cap w', w'.ownsRow B 145 2 (.slice (some ⟨g', 0, none⟩) (ds.length + 1) cap) (ds.length + 1) (dimVs ds tp ++ [.string nm, .pointer (some ⟨q, 0, none⟩)]) → Chg (fun k => v.ownBlock = some k) w w' → (v.ownBlock = some g' ∨ g' = H) → g' < w'.heap.size → K (a.put o.dst (.slice (some ⟨g', 0, none⟩) (ds.length + 1) cap)) w') :
    if Region.wanted o (yielded ops a.tmps) = true then Oper.wp Tryz.prog o a w K Q else E := by
  obtain ⟨i0, hi0, hz0, hz1, hz2⟩ := dinfo
  refine step_append_lies w hgd s x 92 ho B 145 i0 _ 2 24 Tryz.underlying92 hi0 hz0 hz1 hz2 rfl (by decide) v _ _ hs hv ⟨g, 0, none⟩ 1 1 [.string nm, .pointer (some ⟨q, 0, none⟩)] hx rfl ?_ (by intro u hu; simp at hu; rcases hu with rfl | rfl <;> rfl) (by omega) (by unfold maxLen; omega) (by omega) hB H hH ?_
  · intro j u hj
    have : j = 0 ∨ j = 1 ∨ 2 ≤ j := by omega
    rcases this with rfl | rfl | hj2
    · simp at hj; subst hj; simpa [Addr.add] using hc0
    · simp at hj; subst hj; simpa [Addr.add] using hc1
    · rw [List.getElem?_eq_none (by simpa using hj2)] at hj; cases hj
  · intro g' cap w' h2 h3 h4 h5
    exact h g' cap w' h2 ((Chg.refl _ w).grown h3 (fun k hk => .inl hk)) h4 h5
end Go.Proofs.YtpehinmckppjoaaGreatDoor
