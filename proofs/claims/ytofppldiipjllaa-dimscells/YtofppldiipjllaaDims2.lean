/- A catalogue in memory while it is made: dims.Find, Many, Meas, add. -/
import Derived.Test.YtofppldiipjllaaDims1
import Derived.Test.YtofppldiipjllaaNodes
namespace Go.Proofs.Ytofppldiipjllaa
open Go.RowKit Go.Maps
set_option linter.unusedSimpArgs false
set_option linter.unusedVariables false

/-- A dimension: its name, and its members. -/
abbrev Dm := ByteArray × List Nd
def dmN (ds : List Dm) (k : Nat) : ByteArray := (ds.getD k (ByteArray.empty, [])).1
def dmL (ds : List Dm) (k : Nat) : List Nd := (ds.getD k (ByteArray.empty, [])).2
def lbl (ds : List Dm) : List ByteArray := ds.map (·.1)
theorem lbl_get (ds : List Dm) (k : Nat) (h : k < ds.length) : (lbl ds).getD k ByteArray.empty = dmN ds k := by
  simp [lbl, dmN, List.getD, List.getElem?_map, List.getElem?_eq_getElem h]
theorem dmN_app1 {ds : List Dm} {x : Dm} {k : Nat} (h : k < ds.length) : dmN (ds ++ [x]) k = dmN ds k := by
  simp [dmN, List.getD, List.getElem?_append_left h]
theorem dmL_app1 {ds : List Dm} {x : Dm} {k : Nat} (h : k < ds.length) : dmL (ds ++ [x]) k = dmL ds k := by
  simp [dmL, List.getD, List.getElem?_append_left h]
theorem dmN_app2 {ds : List Dm} {x : Dm} : dmN (ds ++ [x]) ds.length = x.1 := by simp [dmN, List.getD]
theorem dmL_app2 {ds : List Dm} {x : Dm} : dmL (ds ++ [x]) ds.length = x.2 := by simp [dmL, List.getD]
def dimV (ds : List Dm) (tp : Nat → Nat) (j : Nat) : Value := if j % 2 = 0 then .string (dmN ds (j / 2)) else .pointer (some ⟨tp (j / 2), 0, none⟩)
def dimVs (ds : List Dm) (tp : Nat → Nat) : List Value := (List.range (ds.length * 2)).map (dimV ds tp)
theorem dimVs_len (ds : List Dm) (tp : Nat → Nat) : (dimVs ds tp).length = ds.length * 2 := by simp [dimVs]
theorem dimVs_app (ds : List Dm) (tp : Nat → Nat) (x : Dm) (q : Nat) : dimVs (ds ++ [x]) (fun k => if k = ds.length then q else tp k) = dimVs ds tp ++ [.string x.1, .pointer (some ⟨q, 0, none⟩)] := by
  unfold dimVs
  rw [List.length_append, List.length_singleton, show (ds.length + 1) * 2 = ds.length * 2 + 1 + 1 by omega, List.range_succ, List.range_succ, List.map_append, List.map_append, List.append_assoc]
  congr 1
  · apply List.map_congr_left
    intro j hj
    simp only [List.mem_range] at hj
    unfold dimV
    have h1 : j / 2 < ds.length := by omega
    rw [dmN_app1 h1]
    have h2 : ¬ (j / 2 = ds.length) := by omega
    simp [h2]
  · have e1 : dimV (ds ++ [x]) (fun k => if k = ds.length then q else tp k) (ds.length * 2) = .string x.1 := by
      unfold dimV
      rw [if_pos (by omega), show ds.length * 2 / 2 = ds.length by omega, dmN_app2]
    have e2 : dimV (ds ++ [x]) (fun k => if k = ds.length then q else tp k) (ds.length * 2 + 1) = .pointer (some ⟨q, 0, none⟩) := by
      unfold dimV
      rw [if_neg (by omega), show (ds.length * 2 + 1) / 2 = ds.length by omega]
      simp
    simp only [List.map_cons, List.map_nil, List.singleton_append]
    rw [e1, e2]
/-- A catalogue's dimensions in memory. -/
structure DP (w0 w : World) (p : Nat) (ds : List Dm) (tp : Nat → Nat) (ma : Option Addr) (mc : Nat) (ms : List ByteArray) (lv sc : Int) (dv : Value) : Prop where
  chg : Chg (· = p) w0 w
  c0 : w.cell? ⟨p, 0, none⟩ = some dv
  c1 : w.cell? ⟨p, 1, none⟩ = some (.slice ma ms.length mc)
  c2 : w.cell? ⟨p, 2, none⟩ = some (.int .i64 lv)
  c3 : w.cell? ⟨p, 3, none⟩ = some (.int .i64 sc)
  fz : ∀ j, w.frozen? ⟨p, j, none⟩ = false
  own : w.ownsRow w0.heap.size 80 2 dv ds.length (dimVs ds tp)
  tr : ∀ k, k < ds.length → ∃ lo hi, Solid lo hi (tp k) (dmL ds k) w ∧ p < lo ∧ ∀ g, dv.ownBlock = some g → ¬ (lo ≤ g ∧ g < hi)
  mss : Ss w ma ms.length ms
  mb : 0 < ms.length → ∀ ad, ma = some ad → ad.block ≠ p ∧ ad.block < w0.heap.size
  lt : p < w0.heap.size
section
variable {w0 w : World} {p : Nat} {ds : List Dm} {tp : Nat → Nat} {ma : Option Addr} {mc : Nat} {ms : List ByteArray} {lv sc : Int} {dv : Value}
theorem DP.kept {y : World} (h : DP w0 w p ds tp ma mc ms lv sc dv) (g : Kept w y) : DP w0 y p ds tp ma mc ms lv sc dv := by
  have lp : p < w.heap.size := cell_lt h.c0
  refine ⟨h.chg.trans (Chg.of_kept g), g.cellp h.c0, g.cellp h.c1, g.cellp h.c2, g.cellp h.c3, fun j => (g.frozen (p := ⟨p, j, none⟩) lp).trans (h.fz j), ?_, fun k hk => ?_, h.mss.kept g, h.mb, h.lt⟩
  · obtain ⟨h0, h1 | ⟨k, cap, cur, hv, hb', hh, r⟩⟩ := h.own
    · exact ⟨h0, .inl h1⟩
    · refine ⟨h0, .inr ⟨k, cap, cur, hv, hb', ?_, r⟩⟩
      have hk : k < w.heap.size := by
        by_cases hlt : k < w.heap.size
        · exact hlt
        · rw [Array.getElem?_eq_none (by omega)] at hh; cases hh
      rw [g.block k hk]
      exact hh
  · obtain ⟨lo, hi, h1, h2, h3⟩ := h.tr k hk
    exact ⟨lo, hi, h1.kept g, h2, h3⟩
/-- The dimensions' slice, and each one's cells. -/
theorem DP.rows (h : DP w0 w p ds tp ma mc ms lv sc dv) (hm : ds.length ≤ 60) : ∃ a c, dv = .slice a ds.length c ∧ (0 < ds.length → ∃ b, a = some ⟨b, 0, none⟩ ∧ ∀ k, k < ds.length → w.cell? ⟨b, k * 2, none⟩ = some (.string (dmN ds k)) ∧ w.cell? ⟨b, k * 2 + 1, none⟩ = some (.pointer (some ⟨tp k, 0, none⟩))) := by
  have h' := h.own
  obtain ⟨_, ⟨hv, hz⟩ | ⟨g, cap, cur, hv, hb, hheap, hc, hcm, hsz, htk⟩⟩ := h.own
  · exact ⟨none, 0, by rw [hv, hz], fun hp => absurd hp (by omega)⟩
  · refine ⟨_, _, hv, fun hp => ⟨g, rfl, fun k hk => ?_⟩⟩
    subst hv
    have e1 := h'.cellAt (k * 2) (by omega)
    have e2 := h'.cellAt (k * 2 + 1) (by omega)
    rw [e1, e2]
    constructor
    · simp only [dimVs, List.getElem?_map]
      rw [List.getElem?_range (by omega)]
      simp only [Option.map_some, dimV]
      rw [if_pos (by omega), show k * 2 / 2 = k by omega]
    · simp only [dimVs, List.getElem?_map]
      rw [List.getElem?_range (by omega)]
      simp only [Option.map_some, dimV]
      rw [if_neg (by omega), show (k * 2 + 1) / 2 = k by omega]
end
theorem dims_Many {w0 w : World} {p : Nat} {ds : List Dm} {tp : Nat → Nat} {ma : Option Addr} {mc : Nat} {ms : List ByteArray} {lv sc : Int} {dv : Value} (h : DP w0 w p ds tp ma mc ms lv sc dv) (hm : ds.length ≤ 60) :
    Calls Try.prog 9 #[.pointer (some ⟨p, 0, none⟩)] w fun e w' => e = .returned (.int .i64 ds.length) ∧ w' = w := by
  obtain ⟨a, c, rfl, _⟩ := h.rows hm
  have h0 := h.c0
  clear h
  go_enter Try.func9, Try.ntmps9
  go_wp2_with fail
  go_ret
  exact ⟨rfl, rfl⟩
theorem dims_Meas {w0 w : World} {p : Nat} {ds : List Dm} {tp : Nat → Nat} {ma : Option Addr} {mc : Nat} {ms : List ByteArray} {lv sc : Int} {dv : Value} (h : DP w0 w p ds tp ma mc ms lv sc dv) (s : ByteArray) :
    Calls Try.prog 13 #[.pointer (some ⟨p, 0, none⟩), .string s] w fun e w' => e = .returned (.int .i64 (idxI ms s)) ∧ w' = w := by
  have h1 := h.c1
  have HI := hidMk (slices_IndexS ma ms.length mc ms s w h.mss)
  clear h
  go_enter Try.func13, Try.ntmps13
  go_wp2_with (go_at_call 38; refine HI.out.mono ?_; rintro e w1 ⟨rfl, rfl⟩)
  go_ret
  exact ⟨rfl, rfl⟩
theorem find_fn (s x : ByteArray) (q : Value) (g : Nat) (w : World) (hq : ∃ t, q = .pointer (some ⟨t, 0, none⟩)) (hc : w.cell? ⟨g, 0, none⟩ = some (.string s)) : Calls Try.prog 37 #[.agg #[.string x, q], .pointer (some ⟨g, 0, none⟩)] w fun e w' => e = .returned (.bool (decide (x = s))) ∧ Kept w w' := by
  obtain ⟨t, rfl⟩ := hq
  have hc' := fun o => ((Kept.refl w).alloc o).cellp hc
  by_cases e : x = s
  · subst e
    rw [decide_eq_true rfl]
    go_enter Try.func37, Try.ntmps37
    go_wp2_with fail
    go_ret
    first | exact ⟨rfl, (Kept.refl w).alloc _⟩ | exact ⟨by simp, (Kept.refl w).alloc _⟩
  · rw [decide_eq_false e]
    have he := bytes_neD e
    clear e
    go_enter Try.func37, Try.ntmps37
    go_wp2_with fail
    go_ret
    first | exact ⟨rfl, (Kept.refl w).alloc _⟩ | exact ⟨by rw [← he], (Kept.refl w).alloc _⟩ | exact ⟨by simp [he], (Kept.refl w).alloc _⟩
end Go.Proofs.Ytofppldiipjllaa
