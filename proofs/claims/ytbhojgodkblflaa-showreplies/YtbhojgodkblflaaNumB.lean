/- text.Num: digits from behind. -/
import Derived.Test.YtbhojgodkblflaaNumA
namespace Go.Proofs.Ytbhojgodkblflaa
open Go.RowKit
set_option linter.unusedSimpArgs false
set_option linter.unusedVariables false

structure Arr (w : World) (B n : Nat) (d : Nat → Int) : Prop where
  lt : B < w.heap.size
  cell : ∀ i, i < n → w.cell? ⟨B, i, none⟩ = some (.int .u8 (d i))
  fr : ∀ i, i < n → w.frozen? ⟨B, i, none⟩ = false
theorem Arr.set {w : World} {B n : Nat} {d : Nat → Int} (h : Arr w B n d) (p : Nat) (hp : p < n) (x : Int) : Arr (w.setCell ⟨B, p, none⟩ (.int .u8 x)) B n (fun i => if i = p then x else d i) := by
  refine ⟨by simpa [World.setCell] using h.lt, fun i hi => ?_, fun i hi => by simpa using h.fr i hi⟩
  by_cases e : i = p
  · subst e
    rw [if_pos rfl]
    exact World.cell?_setCell_same _ _ _ (h.cell i hi)
  · rw [if_neg e]
    exact (World.cell?_setCell_other _ _ _ _ (by intro e'; simp only [Addr.mk.injEq] at e'; omega)).trans (h.cell i hi)
/-- What stands from place q on. -/
def sq (d : Nat → Int) (q : Nat) : List Int := (List.range (20 - q)).map fun i => d (q + i)
theorem sq_len (d : Nat → Int) (q : Nat) : (sq d q).length = 20 - q := by simp [sq]
theorem sq_cons (d : Nat → Int) (q : Nat) (h : q < 20) : sq d q = d q :: sq d (q + 1) := by
  unfold sq
  rw [show 20 - q = (20 - (q + 1)) + 1 by omega, List.range_succ_eq_map, List.map_cons, List.map_map]
  refine List.cons_eq_cons.2 ⟨by simp, List.map_congr_left fun i _ => ?_⟩
  show d (q + (i + 1)) = d (q + 1 + i)
  congr 1; omega
theorem sq_set (d : Nat → Int) (p q : Nat) (x : Int) (h : p < q) : sq (fun i => if i = p then x else d i) q = sq d q := by
  unfold sq
  refine List.map_congr_left fun i _ => ?_
  show (if q + i = p then x else d (q + i)) = d (q + i)
  rw [if_neg (by omega)]
theorem sq_sl {w : World} {B : Nat} {d : Nat → Int} (h : Arr w B 20 d) (q : Nat) : Sl .u8 w (some ⟨B, q, none⟩) (20 - q) (sq d q) := by
  refine ⟨sq_len d q, by unfold maxLen; omega, fun hp => ⟨B, q, rfl, h.lt, fun i hi => ?_⟩⟩
  rw [h.cell (q + i) (by omega)]
  simp [sq, List.getD, hi]

theorem arr_zero (w : World) (cs : Array Value) (T : TypeId) (h : cs = (List.replicate 20 (Value.int .u8 0)).toArray) : Arr (w.alloc (.cells cs T)) w.heap.size 20 (fun _ => 0) := by
  have hc : ∀ i, i < 20 → cs[i]? = some (.int .u8 0) := by
    intro i hi
    rw [h, List.getElem?_toArray, List.getElem?_replicate, if_pos hi]
  clear h
  refine ⟨by simp, fun i hi => ?_, fun i hi => by simp⟩
  simp [hc i hi]
theorem array_from (g q : Nat) (h : q < 20) (w : World) : (Instr.sliceAt 103 (.pointer (some ⟨g, 0, none⟩)) (some (.int .i64 (q : Int))) none none).run Try.prog w = .ok (.slice (some ⟨g, q, none⟩) (20 - q) (20 - q)) w := by
  have hl : Try.prog.arrayLen 103 = 20 := by kernel_rfl
  have he : Try.prog.elem 103 = 5 := by kernel_rfl
  have hu : Try.prog.underlying 103 = some (.array (Try.prog.arrayLen 103) (Try.prog.elem 103)) := by kernel_rfl
  rw [run_sliceAt_array_l w 103 ⟨g, 0, none⟩ hu .i64 (q : Int) (by omega) (by rw [hl]; omega), hl, he, Try.sizeOf5 w]
  simp only [Result.andThen]
  unfold slicedAt
  rw [if_neg (by omega)]
  simp [Addr.add]
  omega

set_option maxHeartbeats 2000000 in
set_option maxRecDepth 100000 in
theorem text_Num (x : Int) (hx : isI x) (w : World) : Calls Try.prog 22 #[.int .i64 x] w fun e w' => e = .returned (.string (numS x)) ∧ Kept w w' := by
  unfold isI at hx
  by_cases h : x < 0
  · have hw : IntKind.u64.wrap (-IntKind.u64.wrap x) = ((-x).toNat : Int) := by rw [IntKind.wrap_u64, IntKind.wrap_u64]; omega
    have hN : (-x).toNat < 9223372036854775809 := by omega
    have hL := digs_len (-x).toNat 19 (by omega) (by have : (10 : Nat) ^ 19 = 10000000000000000000 := by decide
                                                     omega)
    have HS := hidMk (show numL x = 45 :: digs (-x).toNat by unfold numL; rw [if_pos h])
    generalize (-x).toNat = N at *
    go_enter Try.func22, Try.ntmps22
    go_wp2_with fail
    go_loopw [4, 5] (fun r t wr => ∃ (u p : Nat) (d : Nat → Int), r = .int .u64 u ∧ t = .int .i64 p ∧ p ≤ 19 ∧ u < 9223372036854775809 ∧ Hid (Arr wr w.heap.size 20 d) ∧ Hid (Kept w wr) ∧ Hid (digs u ++ sq d (p + 1) = digs N)) (fun r _ _ => (intOf r).toNat)
    case atStart => exact ⟨N, 19, _, rfl, rfl, Nat.le_refl _, hN, hidMk (arr_zero w _ _ rfl), hidMk ((Kept.refl w).alloc _), hidMk (by simp [sq])⟩
    case round =>
      obtain ⟨u, p, d, rfl, rfl, hp, hu, HA, HK, HD⟩ := hrel
      have hlen : (digs u).length + (20 - (p + 1)) = (digs N).length := by
        have := congrArg List.length HD.out
        rw [List.length_append, sq_len] at this
        exact this
      have hpos := digs_pos u
      by_cases h9 : 9 < u
      · have h2 := digs_two (n := u) (by omega)
        have h9' : (9 : Int) < (u : Int) := by omega
        have hp1 : 1 ≤ p := by omega
        have hcell := HA.out.cell p (by omega)
        have hfr := HA.out.fr p (by omega)
        have HST := hidMk (HA.out.set p (by omega) (48 + (u : Int) % 10))
        have HD2 := hidMk (show digs (u / 10) ++ sq (fun i => if i = p then (48 + (u : Int) % 10) else d i) (p - 1 + 1) = digs N by
          rw [← HD.out, digs_ge (n := u) (by omega), show ((u % 10 : Nat) : Int) = (u : Int) % 10 by omega, show p - 1 + 1 = p by omega, sq_cons _ p (by omega), if_pos rfl, sq_set d p (p + 1) _ (by omega), List.append_assoc]
          rfl)
        clear hlen hpos h2
        generalize d p = z at *
        go_wp2_with fail
        exact ⟨⟨u / 10, p - 1, _, by go_num, by go_num, by omega, by omega, HST, hidMk (HK.out.setCell (by simp) _), HD2⟩, by simp [intOf]; omega⟩
      · have h9' : (u : Int) ≤ 9 := by omega
        have hp1 : 1 ≤ p := by omega
        have hcell := HA.out.cell p (by omega)
        have hfr := HA.out.fr p (by omega)
        have HST := hidMk (HA.out.set p (by omega) (48 + (u : Int)))
        have HD2 := hidMk (show sq (fun i => if i = p then (48 + (u : Int)) else d i) p = digs N by
          rw [← HD.out, digs_lt (n := u) (by omega), sq_cons _ p (by omega), if_pos rfl, sq_set d p (p + 1) _ (by omega)]
          rfl)
        clear hlen hpos
        have hc2 := HST.out.cell (p - 1) (by omega)
        have hf2 := HST.out.fr (p - 1) (by omega)
        rw [if_neg (by omega)] at hc2
        have HST2 := hidMk (HST.out.set (p - 1) (by omega) 45)
        have HD3 := hidMk (show sq (fun i => if i = p - 1 then 45 else if i = p then (48 + (u : Int)) else d i) (p - 1) = numL x by
          rw [sq_cons _ (p - 1) (by omega), if_pos rfl, sq_set _ (p - 1) (p - 1 + 1) 45 (by omega), show p - 1 + 1 = p by omega, HD2.out, HS.out])
        have hcv := run_string_gen (c := 20 - (p - 1)) Try.underlying105 Try.underlying5 Try.underlying9 (sq_sl HST2.out (p - 1)) (by rw [HD3.out]; exact numL_isB x)
        rw [HD3.out] at hcv
        have HN := hidMk (show numS x = str (numL x) from rfl)
        have hsl := array_from w.heap.size (p - 1) (by omega)
        have hpi : (p : Int) - 1 = ((p - 1 : Nat) : Int) := by omega
        generalize d p = z at *
        generalize d (p - 1) = z2 at *
        generalize str (numL x) = st at *
        go_wp2_with fail
        go_ret
        rw [HN.out]
        exact ⟨rfl, (HK.out.setCell (by simp) _).setCell (by simp) _⟩
  · have hw : IntKind.u64.wrap x = (x.toNat : Int) := by rw [IntKind.wrap_u64]; omega
    have hN : x.toNat < 9223372036854775809 := by omega
    have hL := digs_len x.toNat 19 (by omega) (by have : (10 : Nat) ^ 19 = 10000000000000000000 := by decide
                                                  omega)
    have HS := hidMk (show numL x = digs x.toNat by unfold numL; rw [if_neg h])
    have h0 : 0 ≤ x := by omega
    clear h
    generalize hq : x.toNat = N at *
    obtain rfl : x = (N : Int) := by omega
    clear hq
    go_enter Try.func22, Try.ntmps22
    go_wp2_with fail
    go_loopw [4, 5] (fun r t wr => ∃ (u p : Nat) (d : Nat → Int), r = .int .u64 u ∧ t = .int .i64 p ∧ p ≤ 19 ∧ u < 9223372036854775809 ∧ Hid (Arr wr w.heap.size 20 d) ∧ Hid (Kept w wr) ∧ Hid (digs u ++ sq d (p + 1) = digs N)) (fun r _ _ => (intOf r).toNat)
    case atStart => exact ⟨N, 19, _, rfl, rfl, Nat.le_refl _, hN, hidMk (arr_zero w _ _ rfl), hidMk ((Kept.refl w).alloc _), hidMk (by simp [sq])⟩
    case round =>
      obtain ⟨u, p, d, rfl, rfl, hp, hu, HA, HK, HD⟩ := hrel
      have hlen : (digs u).length + (20 - (p + 1)) = (digs N).length := by
        have := congrArg List.length HD.out
        rw [List.length_append, sq_len] at this
        exact this
      have hpos := digs_pos u
      by_cases h9 : 9 < u
      · have h2 := digs_two (n := u) (by omega)
        have h9' : (9 : Int) < (u : Int) := by omega
        have hp1 : 1 ≤ p := by omega
        have hcell := HA.out.cell p (by omega)
        have hfr := HA.out.fr p (by omega)
        have HST := hidMk (HA.out.set p (by omega) (48 + (u : Int) % 10))
        have HD2 := hidMk (show digs (u / 10) ++ sq (fun i => if i = p then (48 + (u : Int) % 10) else d i) (p - 1 + 1) = digs N by
          rw [← HD.out, digs_ge (n := u) (by omega), show ((u % 10 : Nat) : Int) = (u : Int) % 10 by omega, show p - 1 + 1 = p by omega, sq_cons _ p (by omega), if_pos rfl, sq_set d p (p + 1) _ (by omega), List.append_assoc]
          rfl)
        clear hlen hpos h2
        generalize d p = z at *
        go_wp2_with fail
        exact ⟨⟨u / 10, p - 1, _, by go_num, by go_num, by omega, by omega, HST, hidMk (HK.out.setCell (by simp) _), HD2⟩, by simp [intOf]; omega⟩
      · have h9' : (u : Int) ≤ 9 := by omega
        have hp1 : 1 ≤ p := by omega
        have hcell := HA.out.cell p (by omega)
        have hfr := HA.out.fr p (by omega)
        have HST := hidMk (HA.out.set p (by omega) (48 + (u : Int)))
        have HD2 := hidMk (show sq (fun i => if i = p then (48 + (u : Int)) else d i) p = digs N by
          rw [← HD.out, digs_lt (n := u) (by omega), sq_cons _ p (by omega), if_pos rfl, sq_set d p (p + 1) _ (by omega)]
          rfl)
        clear hlen hpos
        have HD3 := hidMk (show sq (fun i => if i = p then (48 + (u : Int)) else d i) p = numL (N : Int) by
          rw [HD2.out, HS.out])
        have hcv := run_string_gen (c := 20 - p) Try.underlying105 Try.underlying5 Try.underlying9 (sq_sl HST.out p) (by rw [HD3.out]; exact numL_isB (N : Int))
        rw [HD3.out] at hcv
        have HN := hidMk (show numS (N : Int) = str (numL (N : Int)) from rfl)
        have hsl := array_from w.heap.size p (by omega)
        generalize d p = z at *
        generalize str (numL (N : Int)) = st at *
        go_wp2_with fail
        go_ret
        rw [HN.out]
        exact ⟨rfl, HK.out.setCell (by simp) _⟩
end Go.Proofs.Ytbhojgodkblflaa
