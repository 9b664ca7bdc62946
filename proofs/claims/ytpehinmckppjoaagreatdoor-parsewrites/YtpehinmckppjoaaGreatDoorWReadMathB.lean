/- text.Num and the definition's. · text.Num: digits from behind. · Digits that are read: the library's way, and the definition's. No program is named here. -/
import Derived.Test.YtpehinmckppjoaaGreatDoorWText2B
import Derived.Test.YtpehinmckppjoaaGreatDoorWStrsB
import Derived.Lib.ParseIntBTie
namespace Go.Proofs.YtpehinmckppjoaaGreatDoor
open Go.RowKit
set_option linter.unusedSimpArgs false
set_option linter.unusedVariables false

theorem ten_cut (n : Nat) (h : n < 10) : (ByteArray.mk #[48, 49, 50, 51, 52, 53, 54, 55, 56, 57]).extract n (n + 1) = str [48 + (n : Int)] := by
  have h : ∀ k : Fin 10, (ByteArray.mk #[48, 49, 50, 51, 52, 53, 54, 55, 56, 57]).extract k.val (k.val + 1) = str [48 + ((k.val : Nat) : Int)] := by decide +kernel
  exact h ⟨n, by assumption⟩

theorem ref_digit1 (n : Nat) (h : n < 10) (w : World) : Calls Tryz.prog 85 #[.int .u64 n] w fun e w' => e = .returned (.string (str (digs n))) ∧ w' = w := by
  rw [digs_lt h, ← ten_cut n h]
  have h' : (n : Int) < 10 := by omega
  go_enter Tryz.func85, Tryz.ntmps85
  go_wp2
  go_ret
  exact ⟨rfl, rfl⟩

set_option maxHeartbeats 400000 in
theorem ref_digits (n : Nat) : n < 18446744073709551616 → ∀ w : World, Calls Tryz.prog 85 #[.int .u64 n] w fun e w' => e = .returned (.string (str (digs n))) ∧ w' = w := by
  refine digs_ind (p := fun n => n < 18446744073709551616 → ∀ w : World, Calls Tryz.prog 85 #[.int .u64 n] w fun e w' => e = .returned (.string (str (digs n))) ∧ w' = w) (fun u h _ w => ref_digit1 u h w) (fun u h ih hu w => ?_) n
  have hge : (10 : Int) ≤ (u : Int) := by omega
  have HI := hidMk (ih (by omega))
  have HD := hidMk (ref_digit1 (u % 10) (by omega))
  have HE := hidMk (show digs u = digs (u / 10) ++ digs (u % 10) by rw [digs_ge h, digs_lt (n := u % 10) (by omega)])
  have hs1 : (str (digs (u / 10))).size ≤ 20 := by
    rw [str_size]
    have := digs_len (u / 10) 20 (by omega) (by have : (10 : Nat) ^ 20 = 100000000000000000000 := by decide
                                                omega)
    omega
  have hs2 : (str (digs (u % 10))).size ≤ 20 := by
    rw [str_size, digs_lt (by omega)]; simp
  have HS := hidMk (str_app (digs (u / 10)) (digs (u % 10)))
  clear ih
  generalize str (digs (u / 10)) = x at *
  generalize str (digs (u % 10)) = y at *
  have hq : ((u : Int) / 10) = ((u / 10 : Nat) : Int) := by omega
  have hm : ((u : Int) % 10) = ((u % 10 : Nat) : Int) := by omega
  generalize u / 10 = q at *
  generalize u % 10 = m at *
  go_enter Tryz.func85, Tryz.ntmps85
  go_wp2_with fail
  refine (HI.out _).mono ?_
  rintro e w1 ⟨rfl, rfl⟩
  go_wp2_with fail
  refine (HD.out _).mono ?_
  rintro e w2 ⟨rfl, rfl⟩
  go_wp2_with fail
  go_ret
  rw [HE.out, ← HS.out]
  exact ⟨rfl, rfl⟩

theorem numS_neg {x : Int} (h : x < 0) : numS x = str [45] ++ str (digs (-x).toNat) := by
  unfold numS numL
  rw [if_pos h, str_app]
  rfl
theorem numS_pos {x : Int} (h : 0 ≤ x) : numS x = str (digs x.toNat) := by
  unfold numS numL
  rw [if_neg (by omega)]

set_option maxHeartbeats 400000 in
theorem ref_Num (x : Int) (hx : isI x) (w : World) : Calls Tryz.prog 59 #[.int .i64 x] w fun e w' => e = .returned (.string (numS x)) ∧ w' = w := by
  unfold isI at hx
  by_cases h : x < 0
  · rw [numS_neg h]
    have HD := hidMk (ref_digits (-x).toNat (by omega))
    have hw : IntKind.u64.wrap (-IntKind.u64.wrap x) = ((-x).toNat : Int) := by rw [IntKind.wrap_u64, IntKind.wrap_u64]; omega
    have hs : (str (digs (-x).toNat)).size ≤ 20 := by
      rw [str_size]
      exact digs_len _ 20 (by omega) (by have : (10 : Nat) ^ 20 = 100000000000000000000 := by decide
                                         omega)
    rw [show str [45] = ⟨#[45]⟩ by decide +kernel]
    generalize str (digs (-x).toNat) = y at *
    generalize (-x).toNat = q at *
    go_enter Tryz.func59, Tryz.ntmps59
    go_wp2_with fail
    refine (HD.out _).mono ?_
    rintro e w1 ⟨rfl, rfl⟩
    go_wp2_with fail
    go_ret
    exact ⟨rfl, rfl⟩
  · rw [numS_pos (by omega)]
    have HD := hidMk (ref_digits x.toNat (by omega))
    have hw : IntKind.u64.wrap x = (x.toNat : Int) := by rw [IntKind.wrap_u64]; omega
    have h0 : 0 ≤ x := by omega
    clear h
    generalize str (digs x.toNat) = y at *
    generalize hq : x.toNat = q at *
    obtain rfl : x = (q : Int) := by omega
    clear hq
    go_enter Tryz.func59, Tryz.ntmps59
    go_wp2_with fail
    refine (HD.out _).mono ?_
    rintro e w1 ⟨rfl, rfl⟩
    go_wp2_with fail
    go_ret
    exact ⟨rfl, rfl⟩
end Go.Proofs.YtpehinmckppjoaaGreatDoor
namespace Go.Proofs.YtpehinmckppjoaaGreatDoor
open Go.RowKit
set_option linter.unusedSimpArgs false
set_option linter.unusedVariables false

structure Arr (w : World) (B n : Nat) (d : Nat → Int) : Prop where
  lt : B < w.heap.size
  cell : ∀ i, i < n → w.cell? ⟨B, i, none⟩ = some (.int .u8 (d i))
  fr : ∀ i, i < n → w.frozen? ⟨B, i, none⟩ = false
theorem Arr.set {w : World} {B n : Nat} {d : Nat → Int} (h : Arr w B n d) (p : Nat) (hp : p < n) (x : Int) : Arr (w.setCell ⟨B, p, none⟩ (.int .u8 x)) B n (fun i => if i = p then x else d i) := by
  refine ⟨by simpa [World.setCell] using h.lt, fun i hi => ?_, fun i hi => by simpa using h.fr i hi⟩
  by_cases e : i = p
  · subst e
    rw [if_pos rfl]
    exact World.cell?_setCell_same _ _ _ (h.cell i hi)
  · rw [if_neg e]
    exact (World.cell?_setCell_other _ _ _ _ (by intro e'; simp only [Addr.mk.injEq] at e'; omega)).trans (h.cell i hi)
/-- What stands from place q on. -/
def sq (d : Nat → Int) (q : Nat) : List Int := (List.range (20 - q)).map fun i => d (q + i)
theorem sq_len (d : Nat → Int) (q : Nat) : (sq d q).length = 20 - q := by simp [sq]
theorem sq_cons (d : Nat → Int) (q : Nat) (h : q < 20) : sq d q = d q :: sq d (q + 1) := by
  unfold sq
  rw [show 20 - q = (20 - (q + 1)) + 1 by omega, List.range_succ_eq_map, List.map_cons, List.map_map]
  refine List.cons_eq_cons.2 ⟨by simp, List.map_congr_left fun i _ => ?_⟩
  show d (q + (i + 1)) = d (q + 1 + i)
  congr 1; omega
theorem sq_set (d : Nat → Int) (p q : Nat) (x : Int) (h : p < q) : sq (fun i => if i = p then x else d i) q = sq d q := by
  unfold sq
  refine List.map_congr_left fun i _ => ?_
  show (if q + i = p then x else d (q + i)) = d (q + i)
  rw [if_neg (by omega)]
theorem sq_sl {w : World} {B : Nat} {d : Nat → Int} (h : Arr w B 20 d) (q : Nat) : Sl .u8 w (some ⟨B, q, none⟩) (20 - q) (sq d q) := by
  refine ⟨sq_len d q, by unfold maxLen; omega, fun hp => ⟨B, q, rfl, h.lt, fun i hi => ?_⟩⟩
  rw [h.cell (q + i) (by omega)]
  simp [sq, List.getD, hi]

theorem arr_zero (w : World) (cs : Array Value) (T : TypeId) (h : cs = (List.replicate 20 (Value.int .u8 0)).toArray) : Arr (w.alloc (.cells cs T)) w.heap.size 20 (fun _ => 0) := by
  have hc : ∀ i, i < 20 → cs[i]? = some (.int .u8 0) := by
    intro i hi
    rw [h, List.getElem?_toArray, List.getElem?_replicate, if_pos hi]
  clear h
  refine ⟨by simp, fun i hi => ?_, fun i hi => by simp⟩
  simp [hc i hi]
theorem array_from (g q : Nat) (h : q < 20) (w : World) : (Instr.sliceAt 196 (.pointer (some ⟨g, 0, none⟩)) (some (.int .i64 (q : Int))) none none).run Tryz.prog w = .ok (.slice (some ⟨g, q, none⟩) (20 - q) (20 - q)) w := by
  have hl : Tryz.prog.arrayLen 196 = 20 := by kernel_rfl
  have he : Tryz.prog.elem 196 = 5 := by kernel_rfl
  have hu : Tryz.prog.underlying 196 = some (.array (Tryz.prog.arrayLen 196) (Tryz.prog.elem 196)) := by kernel_rfl
  rw [run_sliceAt_array_l w 196 ⟨g, 0, none⟩ hu .i64 (q : Int) (by omega) (by rw [hl]; omega), hl, he, Tryz.sizeOf5 w]
  simp only [Result.andThen]
  unfold slicedAt
  rw [if_neg (by omega)]
  simp [Addr.add]
  omega

set_option maxHeartbeats 2000000 in
set_option maxRecDepth 100000 in
theorem text_Num (x : Int) (hx : isI x) (w : World) : Calls Tryz.prog 105 #[.int .i64 x] w fun e w' => e = .returned (.string (numS x)) ∧ Kept w w' := by
  unfold isI at hx
  by_cases h : x < 0
  · have hw : IntKind.u64.wrap (-IntKind.u64.wrap x) = ((-x).toNat : Int) := by rw [IntKind.wrap_u64, IntKind.wrap_u64]; omega
    have hN : (-x).toNat < 9223372036854775809 := by omega
    have hL := digs_len (-x).toNat 19 (by omega) (by have : (10 : Nat) ^ 19 = 10000000000000000000 := by decide
                                                     omega)
    have HS := hidMk (show numL x = 45 :: digs (-x).toNat by unfold numL; rw [if_pos h])
    generalize (-x).toNat = N at *
    go_enter Tryz.func105, Tryz.ntmps105
    go_wp2_with fail
    go_loopw [4, 5] (fun r t wr => ∃ (u p : Nat) (d : Nat → Int), r = .int .u64 u ∧ t = .int .i64 p ∧ p ≤ 19 ∧ u < 9223372036854775809 ∧ Hid (Arr wr w.heap.size 20 d) ∧ Hid (Kept w wr) ∧ Hid (digs u ++ sq d (p + 1) = digs N)) (fun r _ _ => (intOf r).toNat)
    case atStart => exact ⟨N, 19, _, rfl, rfl, Nat.le_refl _, hN, hidMk (arr_zero w _ _ rfl), hidMk ((Kept.refl w).alloc _), hidMk (by simp [sq])⟩
    case round =>
      obtain ⟨u, p, d, rfl, rfl, hp, hu, HA, HK, HD⟩ := hrel
      have hlen : (digs u).length + (20 - (p + 1)) = (digs N).length := by
        have := congrArg List.length HD.out
        rw [List.length_append, sq_len] at this
        exact this
      have hpos := digs_pos u
      by_cases h9 : 9 < u
      · have h2 := digs_two (n := u) (by omega)
        have h9' : (9 : Int) < (u : Int) := by omega
        have hp1 : 1 ≤ p := by omega
        have hcell := HA.out.cell p (by omega)
        have hfr := HA.out.fr p (by omega)
        have HST := hidMk (HA.out.set p (by omega) (48 + (u : Int) % 10))
        have HD2 := hidMk (show digs (u / 10) ++ sq (fun i => if i = p then (48 + (u : Int) % 10) else d i) (p - 1 + 1) = digs N by
          rw [← HD.out, digs_ge (n := u) (by omega), show ((u % 10 : Nat) : Int) = (u : Int) % 10 by omega, show p - 1 + 1 = p by omega, sq_cons _ p (by omega), if_pos rfl, sq_set d p (p + 1) _ (by omega), List.append_assoc]
          rfl)
        clear hlen hpos h2
        generalize d p = z at *
        go_wp2_with fail
        exact ⟨⟨u / 10, p - 1, _, by go_num, by go_num, by omega, by omega, HST, hidMk (HK.out.setCell (by simp) _), HD2⟩, by simp [intOf]; omega⟩
      · have h9' : (u : Int) ≤ 9 := by omega
        have hp1 : 1 ≤ p := by omega
        have hcell := HA.out.cell p (by omega)
        have hfr := HA.out.fr p (by omega)
        have HST := hidMk (HA.out.set p (by omega) (48 + (u : Int)))
        have HD2 := hidMk (show sq (fun i => if i = p then (48 + (u : Int)) else d i) p = digs N by
          rw [← HD.out, digs_lt (n := u) (by omega), sq_cons _ p (by omega), if_pos rfl, sq_set d p (p + 1) _ (by omega)]
          rfl)
        clear hlen hpos
        have hc2 := HST.out.cell (p - 1) (by omega)
        have hf2 := HST.out.fr (p - 1) (by omega)
        rw [if_neg (by omega)] at hc2
        have HST2 := hidMk (HST.out.set (p - 1) (by omega) 45)
        have HD3 := hidMk (show sq (fun i => if i = p - 1 then 45 else if i = p then (48 + (u : Int)) else d i) (p - 1) = numL x by
          rw [sq_cons _ (p - 1) (by omega), if_pos rfl, sq_set _ (p - 1) (p - 1 + 1) 45 (by omega), show p - 1 + 1 = p by omega, HD2.out, HS.out])
        have hcv := run_string_gen (c := 20 - (p - 1)) Tryz.underlying155 Tryz.underlying5 Tryz.underlying9 (sq_sl HST2.out (p - 1)) (by rw [HD3.out]; exact numL_isB x)
        rw [HD3.out] at hcv
        have HN := hidMk (show numS x = str (numL x) from rfl)
        have hsl := array_from w.heap.size (p - 1) (by omega)
        have hpi : (p : Int) - 1 = ((p - 1 : Nat) : Int) := by omega
        generalize d p = z at *
        generalize d (p - 1) = z2 at *
        generalize str (numL x) = st at *
        go_wp2_with fail
        go_ret
        rw [HN.out]
        exact ⟨rfl, (HK.out.setCell (by simp) _).setCell (by simp) _⟩
  · have hw : IntKind.u64.wrap x = (x.toNat : Int) := by rw [IntKind.wrap_u64]; omega
    have hN : x.toNat < 9223372036854775809 := by omega
    have hL := digs_len x.toNat 19 (by omega) (by have : (10 : Nat) ^ 19 = 10000000000000000000 := by decide
                                                  omega)
    have HS := hidMk (show numL x = digs x.toNat by unfold numL; rw [if_neg h])
    have h0 : 0 ≤ x := by omega
    clear h
    generalize hq : x.toNat = N at *
    obtain rfl : x = (N : Int) := by omega
    clear hq
    go_enter Tryz.func105, Tryz.ntmps105
    go_wp2_with fail
    go_loopw [4, 5] (fun r t wr => ∃ (u p : Nat) (d : Nat → Int), r = .int .u64 u ∧ t = .int .i64 p ∧ p ≤ 19 ∧ u < 9223372036854775809 ∧ Hid (Arr wr w.heap.size 20 d) ∧ Hid (Kept w wr) ∧ Hid (digs u ++ sq d (p + 1) = digs N)) (fun r _ _ => (intOf r).toNat)
    case atStart => exact ⟨N, 19, _, rfl, rfl, Nat.le_refl _, hN, hidMk (arr_zero w _ _ rfl), hidMk ((Kept.refl w).alloc _), hidMk (by simp [sq])⟩
    case round =>
      obtain ⟨u, p, d, rfl, rfl, hp, hu, HA, HK, HD⟩ := hrel
      have hlen : (digs u).length + (20 - (p + 1)) = (digs N).length := by
        have := congrArg List.length HD.out
        rw [List.length_append, sq_len] at this
        exact this
      have hpos := digs_pos u
      by_cases h9 : 9 < u
      · have h2 := digs_two (n := u) (by omega)
        have h9' : (9 : Int) < (u : Int) := by omega
        have hp1 : 1 ≤ p := by omega
        have hcell := HA.out.cell p (by omega)
        have hfr := HA.out.fr p (by omega)
        have HST := hidMk (HA.out.set p (by omega) (48 + (u : Int) % 10))
        have HD2 := hidMk (show digs (u / 10) ++ sq (fun i => if i = p then (48 + (u : Int) % 10) else d i) (p - 1 + 1) = digs N by
          rw [← HD.out, digs_ge (n := u) (by omega), show ((u % 10 : Nat) : Int) = (u : Int) % 10 by omega, show p - 1 + 1 = p by omega, sq_cons _ p (by omega), if_pos rfl, sq_set d p (p + 1) _ (by omega), List.append_assoc]
          rfl)
        clear hlen hpos h2
        generalize d p = z at *
        go_wp2_with fail
        exact ⟨⟨u / 10, p - 1, _, by go_num, by go_num, by omega, by omega, HST, hidMk (HK.out.setCell (by simp) _), HD2⟩, by simp [intOf]; omega⟩
      · have h9' : (u : Int) ≤ 9 := by omega
        have hp1 : 1 ≤ p := by omega
        have hcell := HA.out.cell p (by omega)
        have hfr := HA.out.fr p (by omega)
        have HST := hidMk (HA.out.set p (by omega) (48 + (u : Int)))
        have HD2 := hidMk (show sq (fun i => if i = p then (48 + (u : Int)) else d i) p = digs N by
          rw [← HD.out, digs_lt (n := u) (by omega), sq_cons _ p (by omega), if_pos rfl, sq_set d p (p + 1) _ (by omega)]
          rfl)
        clear hlen hpos
        have HD3 := hidMk (show sq (fun i => if i = p then (48 + (u : Int)) else d i) p = numL (N : Int) by
          rw [HD2.out, HS.out])
        have hcv := run_string_gen (c := 20 - p) Tryz.underlying155 Tryz.underlying5 Tryz.underlying9 (sq_sl HST.out p) (by rw [HD3.out]; exact numL_isB (N : Int))
        rw [HD3.out] at hcv
        have HN := hidMk (show numS (N : Int) = str (numL (N : Int)) from rfl)
        have hsl := array_from w.heap.size p (by omega)
        generalize d p = z at *
        generalize str (numL (N : Int)) = st at *
        go_wp2_with fail
        go_ret
        rw [HN.out]
        exact ⟨rfl, HK.out.setCell (by simp) _⟩
end Go.Proofs.YtpehinmckppjoaaGreatDoor
namespace Go.Proofs.YtpehinmckppjoaaGreatDoor
open Go.RowKit
set_option linter.unusedSimpArgs false
set_option linter.unusedVariables false

def u8s (l : List Int) : List UInt8 := l.map fun x => UInt8.ofNat x.toNat
theorem str_data (l : List Int) : (str l).data.toList = u8s l := by simp [str, u8s]
theorem u8_val {c : Int} (h : isB c) : (UInt8.ofNat c.toNat).toNat = c.toNat := by
  unfold isB at h
  simp
  omega
theorem valD_ge (l : List Int) (acc : Nat) : acc ≤ valD acc l := by
  induction l generalizing acc with
  | nil => exact Nat.le_refl _
  | cons c r ih => have := ih (acc * 10 + (c - 48).toNat); unfold valD; omega
theorem parse_digs (l : List Int) (h : ∀ x ∈ l, 48 ≤ x ∧ x ≤ 57) (acc : Nat) (hv : valD acc l < 18446744073709551616) : Lib.parseUintM (2 ^ 64 - 1) acc (u8s l) = .ok (valD acc l) := by
  induction l generalizing acc with
  | nil => rfl
  | cons c r ih =>
    have hc := h c (List.mem_cons_self ..)
    have hge := valD_ge r (acc * 10 + (c - 48).toNat)
    unfold valD at hv ⊢
    have e : (UInt8.ofNat c.toNat).toNat = c.toNat := u8_val (by unfold isB; omega)
    show Lib.parseUintM (2 ^ 64 - 1) acc (UInt8.ofNat c.toNat :: u8s r) = _
    unfold Lib.parseUintM
    rw [e, if_pos (by omega), if_neg (by omega), if_neg (by omega)]
    rw [show c.toNat - 48 = (c - 48).toNat by omega]
    exact ih (fun x hx => h x (List.mem_cons_of_mem _ hx)) _ hv
theorem parse_num (v : Int) (hv : isI v) : Lib.parseIntB 64 (numS v).data.toList = .ok v := by
  unfold numS
  rw [str_data]
  unfold isI at hv
  unfold numL
  by_cases h : v < 0
  · rw [if_pos h]
    show Lib.parseIntB 64 (UInt8.ofNat 45 :: u8s (digs (-v).toNat)) = _
    have hp := parse_digs (digs (-v).toNat) (digs_dig _) 0 (by rw [valD_digs]; omega)
    rw [valD_digs] at hp
    have hne : u8s (digs (-v).toNat) ≠ [] := by
      intro e
      have := congrArg List.length e
      have h2 := digs_pos (-v).toNat
      simp [u8s] at this
      rw [this] at h2; simp at h2
    have hU : Lib.parseUintB 64 (u8s (digs (-v).toNat)) = .ok (-v).toNat := by unfold Lib.parseUintB; rw [if_neg hne]; exact hp
    unfold Lib.parseIntB
    have e45 : (UInt8.ofNat 45).toNat = 45 := rfl
    have e63 : (2 : Nat) ^ (64 - 1) = 9223372036854775808 := by decide
    simp only [e45]
    rw [if_pos (by simp), hU]
    simp only [e63]
    rw [if_neg (by simp), if_neg (by omega)]
    simp
    omega
  · rw [if_neg h]
    have hp := parse_digs (digs v.toNat) (digs_dig _) 0 (by rw [valD_digs]; omega)
    rw [valD_digs] at hp
    cases hd : digs v.toNat with
    | nil => have := digs_pos v.toNat; rw [hd] at this; simp at this
    | cons c r =>
      have hc := digs_dig v.toNat c (by rw [hd]; exact List.mem_cons_self ..)
      rw [hd] at hp
      have e : (UInt8.ofNat c.toNat).toNat = c.toNat := u8_val (by unfold isB; omega)
      have hU : Lib.parseUintB 64 (u8s (c :: r)) = .ok v.toNat := by unfold Lib.parseUintB; rw [if_neg (by simp [u8s])]; exact hp
      have hcons : u8s (c :: r) = UInt8.ofNat c.toNat :: u8s r := rfl
      rw [hcons] at hU ⊢
      unfold Lib.parseIntB
      have e63 : (2 : Nat) ^ (64 - 1) = 9223372036854775808 := by decide
      simp only [e]
      rw [if_neg (by omega), hU]
      simp only [e63]
      rw [if_neg (by omega), if_neg (by omega), if_neg (by omega)]
      simp
      omega
theorem parse_is {l : List UInt8} {v : Int} (h : Lib.parseIntB 64 l = .ok v) : isI v := by
  rw [Lib.parseIntB_64] at h
  have := Lib.atoiAll_bounds h
  unfold isI
  omega

/-- The definition's way: what is no digit is passed by; what is too great goes round. -/
def valR : Int → List Int → Int
  | acc, [] => acc
  | acc, c :: r => valR (if digB c then (acc * 10 + (c - 48)) % 18446744073709551616 else acc) r
theorem valR_app (acc : Int) (l m : List Int) : valR acc (l ++ m) = valR (valR acc l) m := by
  induction l generalizing acc with
  | nil => rfl
  | cons c r ih => exact ih _
theorem valR_isU (l : List Int) (acc : Int) (h : isU acc) : isU (valR acc l) := by
  induction l generalizing acc with
  | nil => exact h
  | cons c r ih =>
    unfold valR
    refine ih _ ?_
    unfold isU at *
    split
    · omega
    · exact h
theorem valR_digs (l : List Int) (h : ∀ x ∈ l, 48 ≤ x ∧ x ≤ 57) (acc : Nat) (hv : valD acc l < 18446744073709551616) : valR acc l = (valD acc l : Int) := by
  induction l generalizing acc with
  | nil => rfl
  | cons c r ih =>
    have hc := h c (List.mem_cons_self ..)
    have hge := valD_ge r (acc * 10 + (c - 48).toNat)
    unfold valD at hv ⊢
    unfold valR
    have e : digB c = true := by unfold digB; simp; omega
    rw [if_pos e, ← ih (fun x hx => h x (List.mem_cons_of_mem _ hx)) _ hv]
    congr 1
    omega
theorem valR_num (v : Int) (hv : isI v) : valR 0 (numL v) = if v < 0 then -v else v := by
  unfold isI at hv
  unfold numL
  by_cases h : v < 0
  · rw [if_pos h, if_pos h]
    unfold valR
    rw [if_neg (by decide)]
    have := valR_digs (digs (-v).toNat) (digs_dig _) 0 (by rw [valD_digs]; omega)
    rw [valD_digs] at this
    rw [show (0 : Int) = ((0 : Nat) : Int) from rfl, this]
    omega
  · rw [if_neg h, if_neg h]
    have := valR_digs (digs v.toNat) (digs_dig _) 0 (by rw [valD_digs]; omega)
    rw [valD_digs] at this
    rw [show (0 : Int) = ((0 : Nat) : Int) from rfl, this]
    omega
theorem numL_len (v : Int) (hv : isI v) : (numL v).length ≤ 20 := by
  unfold isI at hv
  have e19 : (10 : Nat) ^ 19 = 10000000000000000000 := by decide
  unfold numL
  split
  · have := digs_len (-v).toNat 19 (by omega) (by omega)
    simp; omega
  · have := digs_len v.toNat 19 (by omega) (by omega)
    omega
theorem numS_size (v : Int) (hv : isI v) : (numS v).size ≤ 20 := by
  unfold numS; rw [str_size]; exact numL_len v hv
theorem numL_head (v : Int) : 0 < (numL v).length ∧ ((numL v).getD 0 0 = 45 ↔ v < 0) := by
  unfold numL
  by_cases h : v < 0
  · rw [if_pos h]; simp [h]
  · rw [if_neg h]
    refine ⟨digs_pos _, ?_⟩
    cases hd : digs v.toNat with
    | nil => have := digs_pos v.toNat; rw [hd] at this; simp at this
    | cons c r =>
      have hc := digs_dig v.toNat c (by rw [hd]; exact List.mem_cons_self ..)
      simp
      omega
end Go.Proofs.YtpehinmckppjoaaGreatDoor
