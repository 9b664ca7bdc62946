/- dims.Right. · dims.Leaf. · dims.Cell. · text.Join, for a seat whose alias is Try; strings.Join is laid by tools/joinshelf.sh. · dims.Show. · dims.Tree. -/
import Derived.Test.YtpehinmckppjoaaGreatDoorWDims6B
import Derived.Test.YtpehinmckppjoaaGreatDoorWText9B
namespace Go.Proofs.YtpehinmckppjoaaGreatDoor
open Go.RowKit Go.Maps
set_option linter.unusedSimpArgs false
set_option linter.unusedVariables false

def placeB (i many : Int) : Bool := decide (0 ≤ i ∧ i < many)
theorem dims_place (i many : Int) (w : World) : Calls Tryz.prog 191 #[.int .i64 i, .int .i64 many] w fun e w' => e = .returned (.bool (placeB i many)) ∧ w' = w := by
  by_cases h1 : 0 ≤ i
  · by_cases h2 : i < many
    · rw [show placeB i many = true from decide_eq_true ⟨h1, h2⟩]
      go_enter Tryz.func191, Tryz.ntmps191
      go_wp2_with fail
      go_ret
      exact ⟨rfl, rfl⟩
    · rw [show placeB i many = false from decide_eq_false (fun h => h2 h.2)]
      have h2' : many ≤ i := by omega
      go_enter Tryz.func191, Tryz.ntmps191
      go_wp2_with fail
      go_ret
      first | exact ⟨rfl, rfl⟩ | exact ⟨by simp, rfl⟩ | exact ⟨by simp; omega, rfl⟩
  · rw [show placeB i many = false from decide_eq_false (fun h => h1 h.1)]
    have h1' : i < 0 := by omega
    go_enter Tryz.func191, Tryz.ntmps191
    go_wp2_with fail
    go_ret
    exact ⟨rfl, rfl⟩
/-- A cell's value. -/
def cellV (cm : Int) (at_ : Nat → Int) : Value := .agg #[.int .i64 cm, .int .i64 (at_ 0), .int .i64 (at_ 1), .int .i64 (at_ 2), .int .i64 (at_ 3)]
def many (ds : List Dm) (k : Nat) : Nat := if k < ds.length then (dmL ds k).length else 1
def rightB (ms : List ByteArray) (ds : List Dm) (cm : Int) (at_ : Nat → Int) : Bool := placeB cm ms.length && (placeB (at_ 0) (many ds 0) && (placeB (at_ 1) (many ds 1) && (placeB (at_ 2) (many ds 2) && placeB (at_ 3) (many ds 3))))
theorem idx4_0 (a0 a1 a2 a3 : Int) (w : World) : (Instr.index 31 (.agg #[.int .i64 a0, .int .i64 a1, .int .i64 a2, .int .i64 a3]) (.int .i64 0)).run Tryz.prog w = .ok (.int .i64 a0) w := by kernel_rfl
theorem idx4_1 (a0 a1 a2 a3 : Int) (w : World) : (Instr.index 31 (.agg #[.int .i64 a0, .int .i64 a1, .int .i64 a2, .int .i64 a3]) (.int .i64 1)).run Tryz.prog w = .ok (.int .i64 a1) w := by kernel_rfl
theorem idx4_2 (a0 a1 a2 a3 : Int) (w : World) : (Instr.index 31 (.agg #[.int .i64 a0, .int .i64 a1, .int .i64 a2, .int .i64 a3]) (.int .i64 2)).run Tryz.prog w = .ok (.int .i64 a2) w := by kernel_rfl
theorem idx4_3 (a0 a1 a2 a3 : Int) (w : World) : (Instr.index 31 (.agg #[.int .i64 a0, .int .i64 a1, .int .i64 a2, .int .i64 a3]) (.int .i64 3)).run Tryz.prog w = .ok (.int .i64 a3) w := by kernel_rfl
theorem run_idx4 (at_ : Nat → Int) (k : Nat) (hk : k < 4) (w : World) : (Instr.index 31 (.agg #[.int .i64 (at_ 0), .int .i64 (at_ 1), .int .i64 (at_ 2), .int .i64 (at_ 3)]) (.int .i64 k)).run Tryz.prog w = .ok (.int .i64 (at_ k)) w := by
  have : k = 0 ∨ k = 1 ∨ k = 2 ∨ k = 3 := by omega
  rcases this with rfl | rfl | rfl | rfl
  · exact idx4_0 _ _ _ _ w
  · exact idx4_1 _ _ _ _ w
  · exact idx4_2 _ _ _ _ w
  · exact idx4_3 _ _ _ _ w
theorem right_all {ms : List ByteArray} {ds : List Dm} {cm : Int} {at_ : Nat → Int} (h1 : placeB cm ms.length = true) (h : ∀ k, k < 4 → placeB (at_ k) (many ds k) = true) : rightB ms ds cm at_ = true := by
  unfold rightB
  rw [h1, h 0 (by omega), h 1 (by omega), h 2 (by omega), h 3 (by omega)]
  rfl
theorem right_no {ms : List ByteArray} {ds : List Dm} {cm : Int} {at_ : Nat → Int} {k : Nat} (hk : k < 4) (h : placeB (at_ k) (many ds k) = false) : rightB ms ds cm at_ = false := by
  have : k = 0 ∨ k = 1 ∨ k = 2 ∨ k = 3 := by omega
  unfold rightB
  rcases this with rfl | rfl | rfl | rfl <;> (rw [h]; simp)
set_option maxHeartbeats 4000000 in
set_option maxRecDepth 100000 in
theorem dims_Right {w0 w : World} {p : Nat} {ds : List Dm} {tp : Nat → Nat} {ma : Option Addr} {mc : Nat} {ms : List ByteArray} {lv sc : Int} {dv : Value} (h : DP w0 w p ds tp ma mc ms lv sc dv) (hm : ds.length ≤ 4) (cm : Int) (at_ : Nat → Int) :
    Calls Tryz.prog 188 #[.pointer (some ⟨p, 0, none⟩), cellV cm at_] w fun e w' => e = .returned (.bool (rightB ms ds cm at_)) ∧ Kept w w' := by
  obtain ⟨r, hr⟩ : ∃ r, rightB ms ds cm at_ = r := ⟨_, rfl⟩
  rw [hr]
  have HR := hidMk hr
  have HD := hidMk h
  have hlw : ∀ k, k < ds.length → Whole w (tp k) (dmL ds k) := fun k hk => by obtain ⟨lo, hi, h1, _⟩ := h.tr k hk; exact h1.whole
  have HWW := hidMk hlw
  have HMN := hidMk (show ∀ y, Kept w y → _ from fun y hy => dims_Many (h.kept hy) (by omega))
  obtain ⟨da, dc, rfl, hrows⟩ := h.rows (by omega)
  have HRW := hidMk hrows
  have HPL := hidMk dims_place
  have t0 := h.c0
  have t1 := h.c1
  have t0' := fun o q => (((Kept.refl w).alloc o).drewN q).cellp t0
  have t1' := fun o q => (((Kept.refl w).alloc o).drewN q).cellp t1
  clear h hr hlw hrows
  unfold cellV
  generalize ha0 : at_ 0 = a0 at *
  generalize ha1 : at_ 1 = a1 at *
  generalize ha2 : at_ 2 = a2 at *
  generalize ha3 : at_ 3 = a3 at *
  have HA := hidMk (And.intro ha0 (And.intro ha1 (And.intro ha2 ha3)))
  clear ha0 ha1 ha2 ha3
  cases hpl : placeB cm ms.length with
  | false =>
    have HF := hidMk (show r = false by rw [← HR.out]; unfold rightB; rw [hpl]; rfl)
    have H1 := hidMk (HPL.out cm ms.length)
    rw [hpl] at H1
    clear hpl
    go_enter Tryz.func188, Tryz.ntmps188
    go_wp2_with fail
    go_quiet ((go_at_call 191; exact Calls.quiet_of_same (H1.out _)))
    go_wp2_with fail
    go_ret
    exact ⟨by rw [HF.out]; rfl, ((Kept.refl w).alloc _).drewN _⟩
  | true =>
    have H1 := hidMk (HPL.out cm ms.length)
    rw [hpl] at H1
    have HPB := hidMk hpl
    clear hpl
    go_enter Tryz.func188, Tryz.ntmps188
    go_wp2_with fail
    go_quiet ((go_at_call 191; exact Calls.quiet_of_same (H1.out _)))
    go_wp2_with fail
    go_loopg [23] 4 (fun g x wr => ∃ k : Nat, k + g = 4 ∧ x = .int .i64 k ∧ Kept w wr ∧ Hid (∀ j, j < k → placeB (at_ j) (many ds j) = true))
    case atStart => exact ⟨0, by omega, rfl, ((Kept.refl w).alloc _).drewN _, hidMk fun j hj => absurd hj (by omega)⟩
    case round =>
      obtain ⟨k, hkg, rfl, hk, HJ⟩ := hrel
      have HKG := hidMk hkg
      have HK := hidMk hk
      by_cases hk4 : k < 4
      · have hix := run_idx4 at_ k hk4
        rw [HA.out.1, HA.out.2.1, HA.out.2.2.1, HA.out.2.2.2] at hix
        have hpl := HPL.out (at_ k) (many ds k)
        have HNO := hidMk (show placeB (at_ k) (many ds k) = false → r = false from fun e => by rw [← HR.out]; exact right_no hk4 e)
        have HYES := hidMk (show placeB (at_ k) (many ds k) = true → ∀ j, j < k + 1 → placeB (at_ j) (many ds j) = true from fun e j hj => by
          by_cases e' : j = k
          · subst e'; exact e
          · exact HJ.out j (by omega))
        have HM2 := hidMk (HMN.out wr hk)
        have s0 := hk.cellp t0
        have k4' : (k : Int) < 4 := by omega
        by_cases hkd : k < ds.length
        · obtain ⟨bb, rfl, hb⟩ := HRW.out (by omega)
          have d2 := hk.cellp (hb k hkd).2
          have HLN := hidMk (w_Len ((HWW.out k hkd).kept hk))
          rw [show many ds k = (dmL ds k).length from if_pos hkd] at hpl HNO HYES
          have kd' : (k : Int) < ds.length := by omega
          clear hb hkg hk
          generalize at_ k = x at *
          generalize (dmL ds k).length = L at *
          generalize tp k = q at *
          generalize hpb : placeB x L = pb at *
          cases pb with
          | true =>
            have HP2 := hidMk hpl
            have HY2 := hidMk (HYES.out rfl)
            clear hpl hpb HNO HYES
            go_wp2_with (first | (go_at_call 169; refine HM2.out.mono ?_; rintro e w4 ⟨rfl, rfl⟩) | (go_at_call 67; refine HLN.out.mono ?_; rintro e w4 ⟨rfl, rfl⟩) | (go_at_call 191; refine (HP2.out _).mono ?_; rintro e w4 ⟨rfl, rfl⟩))
            go_roundg (gk - 1)
            case measure => have := HKG.out; omega
            case rel => exact ⟨k + 1, by have := HKG.out; omega, by go_num, HK.out, HY2⟩
          | false =>
            have HP2 := hidMk hpl
            have HN2 := hidMk (HNO.out rfl)
            clear hpl hpb HNO HYES
            go_wp2_with (first | (go_at_call 169; refine HM2.out.mono ?_; rintro e w4 ⟨rfl, rfl⟩) | (go_at_call 67; refine HLN.out.mono ?_; rintro e w4 ⟨rfl, rfl⟩) | (go_at_call 191; refine (HP2.out _).mono ?_; rintro e w4 ⟨rfl, rfl⟩))
            go_ret
            exact ⟨by rw [HN2.out]; rfl, HK.out⟩
        · rw [show many ds k = 1 from if_neg hkd] at hpl HNO HYES
          have kd' : ¬ ((k : Int) < ds.length) := by omega
          clear hkg hk
          generalize at_ k = x at *
          have hpl1 : ∀ w, Calls Tryz.prog 191 #[.int .i64 x, .int .i64 1] w fun e w' => e = .returned (.bool (placeB x (1 : Nat))) ∧ w' = w := hpl
          generalize hpb : placeB x (1 : Nat) = pb at *
          cases pb with
          | true =>
            have HP2 := hidMk hpl1
            have HY2 := hidMk (HYES.out rfl)
            clear hpl hpb HNO HYES hpl1
            go_wp2_with (first | (go_at_call 169; refine HM2.out.mono ?_; rintro e w4 ⟨rfl, rfl⟩) | (go_at_call 191; refine (HP2.out _).mono ?_; rintro e w4 ⟨rfl, rfl⟩))
            go_roundg (gk - 1)
            case measure => have := HKG.out; omega
            case rel => exact ⟨k + 1, by have := HKG.out; omega, by go_num, HK.out, HY2⟩
          | false =>
            have HP2 := hidMk hpl1
            have HN2 := hidMk (HNO.out rfl)
            clear hpl hpb HNO HYES hpl1
            go_wp2_with (first | (go_at_call 169; refine HM2.out.mono ?_; rintro e w4 ⟨rfl, rfl⟩) | (go_at_call 191; refine (HP2.out _).mono ?_; rintro e w4 ⟨rfl, rfl⟩))
            go_ret
            exact ⟨by rw [HN2.out]; rfl, HK.out⟩
      · have e : k = 4 := by omega
        subst e
        have HF := hidMk (show r = true by rw [← HR.out]; exact right_all HPB.out HJ.out)
        clear hk hkg
        go_wp2_with fail
        go_ret
        exact ⟨by rw [HF.out]; rfl, HK.out⟩
end Go.Proofs.YtpehinmckppjoaaGreatDoor
namespace Go.Proofs.YtpehinmckppjoaaGreatDoor
open Go.RowKit Go.Maps
set_option linter.unusedSimpArgs false
set_option linter.unusedVariables false

theorem box_at (w : World) (t : TypeId) (cm : Int) (at_ : Nat → Int) (k : Nat) (hk : k < 4) : (w.alloc (.cells #[.int .i64 cm, .int .i64 (at_ 0), .int .i64 (at_ 1), .int .i64 (at_ 2), .int .i64 (at_ 3)] t)).cell? ⟨w.heap.size, 1 + k, none⟩ = some (.int .i64 (at_ k)) := by
  have : k = 0 ∨ k = 1 ∨ k = 2 ∨ k = 3 := by omega
  rcases this with rfl | rfl | rfl | rfl <;> simp
end Go.Proofs.YtpehinmckppjoaaGreatDoor
namespace Go.Proofs.YtpehinmckppjoaaGreatDoor
open Go.RowKit Go.Maps
set_option linter.unusedSimpArgs false
set_option linter.unusedVariables false

def fdK (ds : List Dm) (xs : List ByteArray) (k : Nat) : Int := findI (dmL ds k) (msA xs k)
def atK (ds : List Dm) (xs : List ByteArray) (n : Nat) (j : Nat) : Int := if j < n then fdK ds xs j else 0
theorem atK_zero (ds : List Dm) (xs : List ByteArray) : (fun _ => 0) = atK ds xs 0 := by funext j; simp [atK]
/-- What Cell answers. -/
def CellIs (ms : List ByteArray) (ds : List Dm) (s : ByteArray) (xs : List ByteArray) (r : Value) (er : Int) : Prop :=
  (idxI ms s = -1 ∧ r = cellV 0 (fun _ => 0) ∧ er = 10) ∨ (idxI ms s ≠ -1 ∧ xs.length ≠ ds.length ∧ r = cellV 0 (fun _ => 0) ∧ er = 5) ∨
  (idxI ms s ≠ -1 ∧ xs.length = ds.length ∧ (∃ k, k < ds.length ∧ fdK ds xs k = -1) ∧ r = cellV 0 (fun _ => 0) ∧ er = 10) ∨
  (idxI ms s ≠ -1 ∧ xs.length = ds.length ∧ (∀ k, k < ds.length → fdK ds xs k ≠ -1) ∧ r = cellV (idxI ms s) (atK ds xs ds.length) ∧ er = 0)
def CellPost (w : World) (ms : List ByteArray) (ds : List Dm) (s : ByteArray) (xs : List ByteArray) (e : Ending) (w' : World) : Prop :=
  ∃ r er, e = .returned (.tuple #[r, .int .i64 er]) ∧ CellIs ms ds s xs r er ∧ Kept w w'
theorem cell_load {w : World} {g : Nat} {v0 v1 v2 v3 v4 : Value} (c0 : w.cell? ⟨g, 0, none⟩ = some v0) (c1 : w.cell? ⟨g, 1, none⟩ = some v1) (c2 : w.cell? ⟨g, 2, none⟩ = some v2) (c3 : w.cell? ⟨g, 3, none⟩ = some v3) (c4 : w.cell? ⟨g, 4, none⟩ = some v4) :
    (loadVar 33 ⟨g, 0, none⟩).run Tryz.prog w = .ok (.agg #[v0, v1, v2, v3, v4]) w := by
  have hl := run_loadCells_list (P := Tryz.prog) w ⟨g, 0, none⟩ [v0, v1, v2, v3, v4] (fun j v hv => by
    have hadd : (⟨g, 0, none⟩ : Addr).add j = ⟨g, j, none⟩ := by unfold Addr.add; split <;> simp_all
    rw [hadd]
    have : j = 0 ∨ j = 1 ∨ j = 2 ∨ j = 3 ∨ j = 4 := by
      have := (List.getElem?_eq_some_iff.1 hv).1
      simp at this
      omega
    rcases this with rfl | rfl | rfl | rfl | rfl <;> simp_all)
  have hi : (Tryz.prog.info? 33).map (·.size) = some 5 := by kernel_rfl
  obtain ⟨i, h1, h2⟩ := Option.map_eq_some_iff.1 hi
  simp only [List.length_cons, List.length_nil, Nat.reduceAdd] at hl
  simp [loadVar, Sem.run_bind, Tryz.isAgg33, sizeOf, typeInfo, h1, h2, hl]
theorem results_cell_tmp {P : Program} {fn : Func} {p : Tmp} {ty : TypeId} {u : Tmp} (h : fn.results = #[.cell p ty, .tmp u]) (tmps : Array Value) (w : World) (g : Nat) (v : Value)
    (hp : tmps.getD p undef = .pointer (some ⟨g, 0, none⟩)) (hg : (loadVar ty ⟨g, 0, none⟩).run P w = .ok v w) :
    (results fn tmps).run P w = .ok (.tuple #[v, tmps.getD u undef]) w := by
  have hp' : tmps[p]?.getD undef = .pointer (some ⟨g, 0, none⟩) := by simpa using hp
  simp [results, h, hp', asAddr, hg]
/-- Cell's two results: the cell that lies in its block, and the error. -/
theorem cell_rets {R : Ending → World → Prop} {a : Act} {w : World} (g : Nat) (v0 v1 v2 v3 v4 : Value) {er : Value} (hp : a.tmps.getD 6 undef = .pointer (some ⟨g, 0, none⟩)) (hq : a.tmps.getD 7 undef = er) (hd : a.defers = [])
    (c0 : w.cell? ⟨g, 0, none⟩ = some v0) (c1 : w.cell? ⟨g, 1, none⟩ = some v1) (c2 : w.cell? ⟨g, 2, none⟩ = some v2) (c3 : w.cell? ⟨g, 3, none⟩ = some v3) (c4 : w.cell? ⟨g, 4, none⟩ = some v4)
    (h : R (.returned (.tuple #[.agg #[v0, v1, v2, v3, v4], er])) w) : bodyPost Tryz.prog Tryz.f177 R .ret a w := by
  subst hq
  exact bodyPost_ret (results_cell_tmp rfl _ _ g _ hp (cell_load c0 c1 c2 c3 c4)) hd h
/-- The two blocks that Cell makes: its result's (zeros), and the cell's. -/
structure CB (w y : World) (ix : Int) (f : Nat → Int) : Prop where
  kept : Kept w y
  sz : w.heap.size + 2 ≤ y.heap.size
  z : ∀ j, j < 5 → y.cell? ⟨w.heap.size, j, none⟩ = some (.int .i64 0)
  zf : ∀ j, y.frozen? ⟨w.heap.size, j, none⟩ = false
  c0 : y.cell? ⟨w.heap.size + 1, 0, none⟩ = some (.int .i64 ix)
  c : ∀ j, j < 4 → y.cell? ⟨w.heap.size + 1, 1 + j, none⟩ = some (.int .i64 (f j))
  cf : ∀ j, y.frozen? ⟨w.heap.size + 1, j, none⟩ = false
theorem CB.mk0 (w : World) (ix : Int) (t : TypeId) : CB w ((w.alloc (.cells #[.int .i64 0, .int .i64 0, .int .i64 0, .int .i64 0, .int .i64 0] t)).alloc (.cells #[.int .i64 ix, .int .i64 0, .int .i64 0, .int .i64 0, .int .i64 0] t)) ix (fun _ => 0) where
  kept := ((Kept.refl w).alloc _).alloc _
  sz := by simp
  z := fun j hj => by
    have : j = 0 ∨ j = 1 ∨ j = 2 ∨ j = 3 ∨ j = 4 := by omega
    rcases this with rfl | rfl | rfl | rfl | rfl <;> simp
  zf := fun j => by simp
  c0 := by simp
  c := fun j hj => by
    have : j = 0 ∨ j = 1 ∨ j = 2 ∨ j = 3 := by omega
    rcases this with rfl | rfl | rfl | rfl <;> simp
  cf := fun j => by simp
theorem CB.keep {w y y' : World} {ix : Int} {f : Nat → Int} (h : CB w y ix f) (k : Kept y y') : CB w y' ix f where
  kept := h.kept.trans k
  sz := Nat.le_trans h.sz (Below.size k)
  z := fun j hj => k.cellp (h.z j hj)
  zf := fun j => by have := h.sz; rw [show y'.frozen? ⟨w.heap.size, j, none⟩ = y.frozen? ⟨w.heap.size, j, none⟩ from (Chg.of_kept (S := fun _ => False) k).frozen (p := ⟨w.heap.size, j, none⟩) (by show w.heap.size < _; omega) (fun e => e)]; exact h.zf j
  c0 := k.cellp h.c0
  c := fun j hj => k.cellp (h.c j hj)
  cf := fun j => by have := h.sz; rw [show y'.frozen? ⟨w.heap.size + 1, j, none⟩ = y.frozen? ⟨w.heap.size + 1, j, none⟩ from (Chg.of_kept (S := fun _ => False) k).frozen (p := ⟨w.heap.size + 1, j, none⟩) (by show w.heap.size + 1 < _; omega) (fun e => e)]; exact h.cf j
theorem CB.set {w y : World} {ix : Int} {f : Nat → Int} (h : CB w y ix f) (k : Nat) (hk : k < 4) (v : Int) : CB w (y.setCell ⟨w.heap.size + 1, 1 + k, none⟩ (.int .i64 v)) ix (fun j => if j = k then v else f j) := by
  have hz := h.sz
  have hc := (Chg.refl (· = w.heap.size + 1) y).setCell (p := ⟨w.heap.size + 1, 1 + k, none⟩) (.inl rfl) (.int .i64 v)
  refine ⟨Chg.kept h.kept hc (fun j e => by omega), Nat.le_trans hz hc.size, fun j hj => ?_, fun j => ?_, ?_, fun j hj => ?_, fun j => ?_⟩
  · rw [hc.cell (p := ⟨w.heap.size, j, none⟩) (by show w.heap.size < _; omega) (by show ¬ w.heap.size = _; omega)]; exact h.z j hj
  · rw [hc.frozen (p := ⟨w.heap.size, j, none⟩) (by show w.heap.size < _; omega) (by show ¬ w.heap.size = _; omega)]; exact h.zf j
  · rw [cell_set (h.c k hk), if_neg (by intro e; simp only [Addr.mk.injEq] at e; omega)]; exact h.c0
  · rw [cell_set (h.c k hk)]
    by_cases e : j = k
    · subst e; simp
    · rw [if_neg (by intro e'; simp only [Addr.mk.injEq] at e'; omega)]
      simp only [e, if_false]
      exact h.c j hj
  · rw [World.frozen?_setCell]; exact h.cf j
theorem set_row {y : World} {s : Nat} {g : Nat → Value} (h : ∀ j, j < 5 → y.cell? ⟨s, j, none⟩ = some (g j)) (k : Nat) (hk : k < 5) (v : Value) : ∀ j, j < 5 → (y.setCell ⟨s, k, none⟩ v).cell? ⟨s, j, none⟩ = some (if j = k then v else g j) := fun j hj => by
  rw [cell_set (h k hk)]
  by_cases e : j = k
  · subst e; simp
  · rw [if_neg (by intro e'; simp only [Addr.mk.injEq] at e'; omega), h j hj, if_neg e]
theorem CB.out {w y : World} {ix : Int} {f : Nat → Int} (h : CB w y ix f) (v0 v1 v2 v3 v4 : Value) :
    let W := ((((y.setCell ⟨w.heap.size, 0, none⟩ v0).setCell ⟨w.heap.size, 1, none⟩ v1).setCell ⟨w.heap.size, 2, none⟩ v2).setCell ⟨w.heap.size, 3, none⟩ v3).setCell ⟨w.heap.size, 4, none⟩ v4
    Kept w W ∧ W.cell? ⟨w.heap.size, 0, none⟩ = some v0 ∧ W.cell? ⟨w.heap.size, 1, none⟩ = some v1 ∧ W.cell? ⟨w.heap.size, 2, none⟩ = some v2 ∧ W.cell? ⟨w.heap.size, 3, none⟩ = some v3 ∧ W.cell? ⟨w.heap.size, 4, none⟩ = some v4 := by
  have hr := set_row (set_row (set_row (set_row (set_row h.z 0 (by omega) v0) 1 (by omega) v1) 2 (by omega) v2) 3 (by omega) v3) 4 (by omega) v4
  have hc := (((((Chg.refl (· = w.heap.size) y).setCell (p := ⟨w.heap.size, 0, none⟩) (.inl rfl) v0).setCell (p := ⟨w.heap.size, 1, none⟩) (.inl rfl) v1).setCell (p := ⟨w.heap.size, 2, none⟩) (.inl rfl) v2).setCell (p := ⟨w.heap.size, 3, none⟩) (.inl rfl) v3).setCell (p := ⟨w.heap.size, 4, none⟩) (.inl rfl) v4
  refine ⟨Chg.kept h.kept hc (fun j e => by omega), ?_, ?_, ?_, ?_, ?_⟩
  · simpa using hr 0 (by omega)
  · simpa using hr 1 (by omega)
  · simpa using hr 2 (by omega)
  · simpa using hr 3 (by omega)
  · simpa using hr 4 (by omega)
theorem cell_oth {w : World} {a b : Addr} {u : Value} (h : w.cell? b = some u) (hne : a.block ≠ b.block) (v : Value) : (w.setCell a v).cell? b = some u := (World.cell?_setCell_other _ _ _ _ (fun e => hne (by rw [e]))).trans h
set_option maxHeartbeats 4000000 in
set_option maxRecDepth 100000 in
theorem dims_Cell {w0 w : World} {p : Nat} {ds : List Dm} {tp : Nat → Nat} {ma : Option Addr} {mc : Nat} {ms : List ByteArray} {lv sc : Int} {dv : Value} (h : DP w0 w p ds tp ma mc ms lv sc dv) (hm : ds.length ≤ 4) (s : ByteArray) (xa : Option Addr) (xn xc : Nat) (xs : List ByteArray) (hx : Ss w xa xn xs) (hxz : ∀ i, i < xs.length → (msA xs i).size ≤ maxLen) :
    Calls Tryz.prog 177 #[.pointer (some ⟨p, 0, none⟩), .string s, .slice xa xn xc] w (CellPost w ms ds s xs) := by
  have HD := hidMk h
  have hlx := hx.len
  have hbx := hx.big
  unfold maxLen at hbx
  have HX := hidMk hx
  have HXZ := hidMk hxz
  have hlw : ∀ k, k < ds.length → Whole w (tp k) (dmL ds k) := fun k hk => by obtain ⟨lo, hi, h1, _⟩ := h.tr k hk; exact h1.whole
  have HWW := hidMk hlw
  have HME := hidMk (show ∀ y, Kept w y → _ from fun y hy => dims_Meas (h.kept hy) s)
  have HMN := hidMk (show ∀ y, Kept w y → _ from fun y hy => dims_Many (h.kept hy) (by omega))
  obtain ⟨da, dc, rfl, hrows⟩ := h.rows (by omega)
  have HRW := hidMk hrows
  have t0 := h.c0
  clear h hlw hrows hx hxz
  by_cases hix : idxI ms s = -1
  · have HC := hidMk (show CellIs ms ds s xs (cellV 0 (fun _ => 0)) 10 from .inl ⟨hix, rfl, rfl⟩)
    rw [hix] at HME
    clear hix
    go_enter Tryz.func177, Tryz.ntmps177
    go_wp2_with (go_at_call 66; refine (HME.out _ ((Kept.refl w).alloc _)).mono ?_; rintro e w1 ⟨rfl, rfl⟩)
    exact cell_rets w.heap.size _ _ _ _ _ rfl rfl rfl (by simp) (by simp) (by simp) (by simp) (by simp) ⟨_, _, rfl, HC.out, ((Kept.refl w).alloc _).alloc _⟩
  · by_cases hxl : xs.length = ds.length
    · have HIX := hidMk hix
      have HCE := hidMk (show ∀ k, k < ds.length → fdK ds xs k = -1 → CellIs ms ds s xs (cellV 0 (fun _ => 0)) 10 from fun k hk he => .inr (.inr (.inl ⟨hix, hxl, ⟨k, hk, he⟩, rfl, rfl⟩)))
      have HCO := hidMk (show (∀ k, k < ds.length → fdK ds xs k ≠ -1) → CellIs ms ds s xs (cellV (idxI ms s) (atK ds xs ds.length)) 0 from fun he => .inr (.inr (.inr ⟨hix, hxl, he, rfl, rfl⟩)))
      generalize hgx : idxI ms s = ix at *
      clear hgx
      go_enter Tryz.func177, Tryz.ntmps177
      go_wp2_with (go_at_call 66; refine (HME.out _ ((Kept.refl w).alloc _)).mono ?_; rintro e w1 ⟨rfl, rfl⟩)
      refine (HMN.out _ (((Kept.refl w).alloc _).alloc _)).mono ?_
      rintro e w1 ⟨rfl, hw1⟩
      have hcb : CB w w1 ix (fun _ => 0) := by rw [hw1]; exact CB.mk0 w ix _
      clear hw1
      have HCB := hidMk hcb
      have t0' := hcb.kept.cellp t0
      clear hcb
      have hxl' : (xn : Int) = ds.length := by omega
      go_wp2_with fail
      go_loopg [33] ds.length (fun g x wr => ∃ k : Nat, k + g = ds.length ∧ x = .int .i64 k ∧ Hid (CB w wr ix (atK ds xs k)) ∧ Hid (∀ j, j < k → fdK ds xs j ≠ -1))
      case atStart => exact ⟨0, by omega, rfl, hidMk ((atK_zero ds xs) ▸ HCB.out), hidMk fun j hj => absurd hj (by omega)⟩
      case round =>
        obtain ⟨k, hkg, rfl, HK, HJ⟩ := hrel
        have HKG := hidMk hkg
        by_cases hkd : k < ds.length
        · obtain ⟨bb, rfl, hb⟩ := HRW.out (by omega)
          obtain ⟨xb, xo, rfl, hxb, hxc⟩ := HX.out.cells (by omega)
          obtain ⟨c1, c2⟩ := hb k hkd
          have kk := HK.out.kept
          have d1 := kk.cellp c1
          have d2 := kk.cellp c2
          have d3 := kk.cellp (hxc k (by omega))
          have HFD := hidMk (show ∀ y, Kept wr y → _ from fun y hy => w_Find ((HWW.out k hkd).kept (kk.trans hy)) (msA xs k) (HXZ.out k (by omega)))
          have kd' : (k : Int) < ds.length := by omega
          have k4' : (k : Int) < 4 := by omega
          have kx' : (k : Int) < xn := by omega
          have d3 : wr.cell? ⟨xb, xo + k, none⟩ = some (.string (msA xs k)) := d3
          have e3 := fun o => (((Kept.refl wr).alloc o)).cellp d3
          clear hb c1 c2 hkg hxc kk
          have hfe : findI (dmL ds k) (msA xs k) = fdK ds xs k := rfl
          rw [hfe] at HFD
          clear hfe
          have HD3 := hidMk d3
          have HS := hidMk (show atK ds xs (k + 1) = fun j => if j = k then fdK ds xs k else atK ds xs k j from by
            funext j
            unfold atK
            by_cases e : j = k
            · subst e; simp
            · simp only [e, if_false]
              by_cases e2 : j < k
              · simp [e2, show j < k + 1 by omega]
              · simp [e2, show ¬ j < k + 1 by omega])
          have HE := hidMk (HCE.out k hkd)
          have HNX := hidMk (show fdK ds xs k ≠ -1 → ∀ j, j < k + 1 → fdK ds xs j ≠ -1 from fun e j hj => by
            by_cases e' : j = k
            · subst e'; exact e
            · exact HJ.out j (by omega))
          have hk4 : k < 4 := by omega
          have HXB := hidMk hxb
          have HSZ := hidMk HK.out.sz
          clear hxb
          generalize hff : fdK ds xs k = fd at *
          clear hff
          generalize msA xs k = mk at *
          generalize tp k = q at *
          generalize dmN ds k = nmk at *
          go_wp2_with fail
          go_region_held3 (fun w' => w'.cell? ⟨wr.heap.size, 1, none⟩ = some (.pointer (some ⟨q, 0, none⟩)) ∧ w'.cell? ⟨xb, xo + k, none⟩ = some (.string mk)) (first | go_keep | (refine ⟨?_, ?_⟩ <;> assumption) | (refine ⟨?_, ?_⟩ <;> simp only [*])) ((go_at_call 178; refine (HFD.out _ (((Kept.refl wr).alloc _).drew)).mono ?_; rintro e w5 ⟨rfl, hw5⟩; have h5 : CB w w5 ix (atK ds xs k) := (by rw [hw5]; exact HK.out.keep (((Kept.refl wr).alloc _).drew)); have f1 := h5.c k hk4; have f2 := h5.cf (1 + k); have f3 : w5.cell? ⟨xb, xo + k, none⟩ = some (.string mk) := (by rw [hw5]; exact (((Kept.refl wr).alloc _).drew).cellp HD3.out); have f4 : w5.cell? ⟨wr.heap.size, 1, none⟩ = some (.pointer (some ⟨q, 0, none⟩)) := (by rw [hw5]; simp); have g3 := fun v => cell_oth (a := ⟨w.heap.size + 1, 1 + k, none⟩) f3 (by have := HXB.out; show w.heap.size + 1 ≠ xb; omega) v; have g4 := fun v => cell_oth (a := ⟨w.heap.size + 1, 1 + k, none⟩) f4 (by have := HSZ.out; show w.heap.size + 1 ≠ wr.heap.size; omega) v; have H5 := hidMk h5; clear h5 hw5))
          refine gen_world (f := fun W => Exit.then _ _ _ _ W) (fun W => CB w W ix (fun j => if j = k then fd else atK ds xs k j)) (H5.out.set k hk4 fd) ?_
          rintro w6 h6
          have x1 := h6.c k hk4
          simp only [if_true] at x1
          have H6 := hidMk h6
          clear h6
          by_cases hf : fd = -1
          · have HC := hidMk (HE.out hf)
            have z0 := H6.out.z 0 (by omega)
            have z1 := H6.out.z 1 (by omega)
            have z2 := H6.out.z 2 (by omega)
            have z3 := H6.out.z 3 (by omega)
            have z4 := H6.out.z 4 (by omega)
            have zf := H6.out.zf
            subst hf
            go_wp2_with fail
            obtain ⟨o1, o2, o3, o4, o5, o6⟩ := H6.out.out (.int .i64 0) (.int .i64 0) (.int .i64 0) (.int .i64 0) (.int .i64 0)
            exact cell_rets w.heap.size _ _ _ _ _ rfl rfl rfl o2 o3 o4 o5 o6 ⟨_, _, rfl, HC.out, o1⟩
          · have HN2 := hidMk (HNX.out hf)
            go_wp2_with fail
            go_roundg (gk - 1)
            case measure => have := HKG.out; omega
            case rel => exact ⟨k + 1, by have := HKG.out; omega, by go_num, hidMk (by rw [HS.out]; exact H6.out), HN2⟩
        · have e : k = ds.length := by omega
          subst e
          have HC := hidMk (HCO.out HJ.out)
          clear hkg
          have kd' : ¬ ((ds.length : Int) < ds.length) := by omega
          have c0 := HK.out.c0
          have c1 := HK.out.c 0 (by omega)
          have c2 := HK.out.c 1 (by omega)
          have c3 := HK.out.c 2 (by omega)
          have c4 := HK.out.c 3 (by omega)
          have z0 := HK.out.z 0 (by omega)
          have z1 := HK.out.z 1 (by omega)
          have z2 := HK.out.z 2 (by omega)
          have z3 := HK.out.z 3 (by omega)
          have z4 := HK.out.z 4 (by omega)
          have zf := HK.out.zf
          simp only [Nat.reduceAdd, Nat.add_zero] at c1 c2 c3 c4
          go_wp2_with fail
          obtain ⟨o1, o2, o3, o4, o5, o6⟩ := HK.out.out (.int .i64 ix) (.int .i64 (atK ds xs ds.length 0)) (.int .i64 (atK ds xs ds.length 1)) (.int .i64 (atK ds xs ds.length 2)) (.int .i64 (atK ds xs ds.length 3))
          exact cell_rets w.heap.size _ _ _ _ _ rfl rfl rfl o2 o3 o4 o5 o6 ⟨_, _, rfl, HC.out, o1⟩
    · have HC := hidMk (show CellIs ms ds s xs (cellV 0 (fun _ => 0)) 5 from .inr (.inl ⟨hix, hxl, rfl, rfl⟩))
      have hxl' : ¬ ((xs.length : Int) = ds.length) := by omega
      generalize hgx : idxI ms s = ix at *
      clear hgx
      go_enter Tryz.func177, Tryz.ntmps177
      go_wp2_with (go_at_call 66; refine (HME.out _ ((Kept.refl w).alloc _)).mono ?_; rintro e w1 ⟨rfl, rfl⟩)
      refine (HMN.out _ (((Kept.refl w).alloc _).alloc _)).mono ?_
      rintro e w1 ⟨rfl, rfl⟩
      go_wp2_with fail
      exact cell_rets w.heap.size _ _ _ _ _ rfl rfl rfl (by simp) (by simp) (by simp) (by simp) (by simp) ⟨_, _, rfl, HC.out, ((Kept.refl w).alloc _).alloc _⟩
end Go.Proofs.YtpehinmckppjoaaGreatDoor
namespace Go.Proofs.YtpehinmckppjoaaGreatDoor
open Go.RowKit Go.Maps
set_option linter.unusedSimpArgs false
set_option linter.unusedVariables false

end Go.Proofs.YtpehinmckppjoaaGreatDoor
namespace Go.Proofs.YtpehinmckppjoaaGreatDoor
open Go.RowKit Go.Maps
set_option linter.unusedSimpArgs false
set_option linter.unusedVariables false

def slash : ByteArray := ⟨#[47]⟩
def nmK (ds : List Dm) (at_ : Nat → Int) (k : Nat) : ByteArray := nmI (dmL ds k) (at_ k)
def showL (ms : List ByteArray) (ds : List Dm) (cm : Int) (at_ : Nat → Int) (k : Nat) : List ByteArray := msA ms cm.toNat :: (List.range k).map (nmK ds at_)
theorem showL_len (ms : List ByteArray) (ds : List Dm) (cm : Int) (at_ : Nat → Int) (k : Nat) : (showL ms ds cm at_ k).length = k + 1 := by simp [showL]
theorem showL_succ (ms : List ByteArray) (ds : List Dm) (cm : Int) (at_ : Nat → Int) (k : Nat) : showL ms ds cm at_ (k + 1) = showL ms ds cm at_ k ++ [nmK ds at_ k] := by simp [showL, List.range_succ]
def OwnS (w : World) (B : Nat) (v : Value) (l : List ByteArray) : Prop := w.ownsRow B 9 1 v l.length (l.map .string)
theorem one_news {w : World} {g : Nat} {y : Value} (h : w.cell? ⟨g, 0, none⟩ = some y) : ∀ (j : Nat) u, [y][j]? = some u → w.cell? ((⟨g, 0, none⟩ : Addr).add j) = some u := by
  intro j u hj
  have : j = 0 ∨ 1 ≤ j := by omega
  rcases this with rfl | h1
  · simp at hj; subst hj; simpa [Addr.add] using h
  · rw [List.getElem?_eq_none (by simpa using h1)] at hj; cases hj
theorem step_pushS {ops : Array Oper} {o : Oper} {a : Act} {K : Act → World → Prop} {Q : Exit → Act → World → Prop} {E : Prop} (w : World) (hgd : o.guard = none) (s x : Operand)
    (ho : o.op = .call { callee := .builtin .append, args := #[s, x], argTypes := #[23, 23] })
    (B : Nat) (v : Value) (l : List ByteArray) (hs : a.eval s = v) (hv : OwnS w B v l) (hB : B ≤ w.heap.size) (g : Nat) (y : ByteArray) (hx : a.eval x = .slice (some ⟨g, 0, none⟩) 1 1) (hcell : w.cell? ⟨g, 0, none⟩ = some (.string y))
    (h47 : (l.length + 1) * 16 ≤ 140737488355328) (H : Nat) (hH : w.heap.size = H)
    (h : ∀ g' cap w', OwnS w' B (.slice (some ⟨g', 0, none⟩) (l.length + 1) cap) (l ++ [y]) → Chg (fun k => v.ownBlock = some k) w w' → (v.ownBlock = some g' ∨ g' = H) → g' < w'.heap.size → K (a.put o.dst (.slice (some ⟨g', 0, none⟩) (l.length + 1) cap)) w') :
    if Region.wanted o (yielded ops a.tmps) = true then Oper.wp Tryz.prog o a w K Q else E := by
  obtain ⟨i0, hi0, hz0, hz1, hz2⟩ := sinfo
  refine step_append_lies w hgd s x 23 ho B 9 i0 (.string ⟨#[]⟩) 1 16 Tryz.underlying23 hi0 hz0 hz1 hz2 rfl (by decide) v _ _ hs hv ⟨g, 0, none⟩ 1 1 [.string y] hx rfl (one_news hcell) (by intro u hu; simp at hu; subst hu; rfl) (by omega) (by unfold maxLen; omega) (by omega) hB H hH ?_
  intro g' cap w' h2 h3 h4 h5
  refine h g' cap w' ?_ ((Chg.refl _ w).grown h3 (fun k hk => .inl hk)) h4 h5
  unfold OwnS
  simpa using h2
theorem OwnS.kept {w w' : World} {B : Nat} {v : Value} {l : List ByteArray} (h : OwnS w B v l) (g : Kept w w') : OwnS w' B v l := by
  unfold OwnS at *
  exact h.kept (row := none) ⟨g.os, g.tape, g.output, Below.size g, fun j hj _ => g.block j hj⟩ (by cases v.ownBlock <;> simp)
theorem OwnS.lt {w : World} {B : Nat} {v : Value} {l : List ByteArray} (h : OwnS w B v l) : ∀ g, v.ownBlock = some g → B ≤ g ∧ g < w.heap.size := World.ownsRow.lt h
theorem own_cap {w : World} {B : Nat} {a : Option Addr} {n c : Nat} {l : List ByteArray} (h : OwnS w B (.slice a n c) l) : l.length ≤ c := by
  unfold OwnS at h
  obtain ⟨_, ⟨h1, hz⟩ | ⟨g, cap, cur, h1, hb, hheap, hc, hcm, hsz, htk⟩⟩ := h
  · cases h1; omega
  · cases h1; omega
set_option maxHeartbeats 4000000 in
set_option maxRecDepth 100000 in
theorem dims_Show {w0 w : World} {p : Nat} {ds : List Dm} {tp : Nat → Nat} {ma : Option Addr} {mc : Nat} {ms : List ByteArray} {lv sc : Int} {dv : Value} (h : DP w0 w p ds tp ma mc ms lv sc dv) (hm : ds.length ≤ 4) (cm : Int) (at_ : Nat → Int) (hlen : (slash.data.toList.intercalate (datas (showL ms ds cm at_ ds.length))).length ≤ 140737488355328) :
    Calls Tryz.prog 185 #[.pointer (some ⟨p, 0, none⟩), cellV cm at_] w fun e w' => e = .returned (.string (if rightB ms ds cm at_ then joinB slash (showL ms ds cm at_ ds.length) else ⟨#[]⟩)) ∧ Kept w w' := by
  have HD := hidMk h
  have hlw : ∀ k, k < ds.length → Whole w (tp k) (dmL ds k) := fun k hk => by obtain ⟨lo, hi, h1, _⟩ := h.tr k hk; exact h1.whole
  have HWW := hidMk hlw
  have HRI := hidMk (show ∀ y, Kept w y → _ from fun y hy => dims_Right (h.kept hy) hm cm at_)
  obtain ⟨da, dc, rfl, hrows⟩ := h.rows (by omega)
  have HRW := hidMk hrows
  have t0 := h.c0
  have t1 := h.c1
  have HMS := hidMk h.mss
  have hmb := h.mss.big
  have HBX := hidMk (box_at w 33 cm at_)
  have HLEN := hidMk hlen
  clear h hlw hrows hlen
  unfold cellV at *
  cases hri : rightB ms ds cm at_ with
  | false =>
    rw [hri] at HRI
    clear hri HBX HLEN
    generalize at_ 0 = a0 at *
    generalize at_ 1 = a1 at *
    generalize at_ 2 = a2 at *
    generalize at_ 3 = a3 at *
    go_enter Tryz.func185, Tryz.ntmps185
    go_wp2_with (go_at_call 188; refine (HRI.out _ ((Kept.refl w).alloc _)).mono ?_; rintro e w2 ⟨rfl, k2⟩; have K2 := hidMk (((Kept.refl w).alloc _).trans k2); clear k2)
    go_ret
    exact ⟨rfl, K2.out⟩
  | true =>
    rw [hri] at HRI
    have hcm : 0 ≤ cm ∧ cm < ms.length := by
      simp only [rightB, placeB, Bool.and_eq_true, decide_eq_true_eq] at hri
      omega
    obtain ⟨mb, mo, rfl, hmb2, hmc⟩ := HMS.out.cells (by omega)
    have hmv := hmc cm.toNat (by omega)
    obtain ⟨mi, hmi⟩ : ∃ mi : Nat, cm = mi := ⟨cm.toNat, by omega⟩
    clear hri hmc
    subst hmi
    rw [Int.toNat_natCast] at hmv
    have HS0 := hidMk (show showL ms ds mi at_ 0 = [ms.getD mi ByteArray.empty] by simp [showL, msA])
    have HSS := hidMk (showL_succ ms ds mi at_)
    have HSL := hidMk (showL_len ms ds mi at_)
    generalize ms.getD mi ByteArray.empty = mn at *
    generalize at_ 0 = a0 at *
    generalize at_ 1 = a1 at *
    generalize at_ 2 = a2 at *
    generalize at_ 3 = a3 at *
    go_enter Tryz.func185, Tryz.ntmps185
    go_wp2_with fail
    refine (HRI.out _ ((Kept.refl w).alloc _)).mono ?_
    rintro e w2 ⟨rfl, k2⟩
    have HB2 := hidMk (show ∀ k, k < 4 → w2.cell? ⟨w.heap.size, 1 + k, none⟩ = some (.int .i64 (at_ k)) from fun k hk => k2.cellp (HBX.out k hk))
    have x0 : w2.cell? ⟨w.heap.size, 0, none⟩ = some (.int .i64 mi) := k2.cellp (by simp)
    have K2 := hidMk (((Kept.refl w).alloc _).trans k2)
    have t0' := K2.out.cellp t0
    have t1' := K2.out.cellp t1
    have hmv' := K2.out.cellp hmv
    clear k2
    have hmi' : (mi : Int) < ms.length := hcm.2
    have y0 := fun o => ((Kept.refl w2).alloc o).cellp x0
    have y1 := fun o => ((Kept.refl w2).alloc o).cellp t1'
    have y2 := fun o => ((Kept.refl w2).alloc o).cellp hmv'
    go_wp2_with fail
    go_region_held3 (fun w' => w'.cell? ⟨p, 1, none⟩ = some (.slice (some ⟨mb, mo, none⟩) ms.length mc) ∧ w'.cell? ⟨w.heap.size, 0, none⟩ = some (.int .i64 mi) ∧ w'.cell? ⟨mb, mo + mi, none⟩ = some (.string mn)) (first | go_keep | (refine ⟨?_, ?_, ?_⟩ <;> assumption) | (refine ⟨?_, ?_, ?_⟩ <;> simp only [*])) (fail)
    refine gen_world (f := fun W => Exit.then _ _ _ _ W) (fun W => OwnS W w2.heap.size (.slice (some ⟨w2.heap.size, 0, none⟩) 1 1) [mn] ∧ Kept w2 W) ⟨World.ownsRow.drew (World.ownsRow_lit w2 #[.string mn] 1 (Nat.le_refl _) (by decide) rfl), ((Kept.refl w2).alloc _).drew⟩ ?_
    rintro w3 ⟨o3, k3⟩
    have O3 := hidMk o3
    have K3 := hidMk k3
    have t0'' := k3.cellp t0'
    clear o3 k3 t0' t1' hmv' y0 y1 y2 x0
    go_wp2_with fail
    go_loopg [5, 26] ds.length (fun g v x wr => ∃ k : Nat, k + g = ds.length ∧ x = .int .i64 k ∧ Kept w2 wr ∧ Hid (OwnS wr w2.heap.size v (showL ms ds mi at_ k)))
    case atStart => exact ⟨0, by omega, rfl, K3.out, hidMk (by rw [HS0.out]; exact O3.out)⟩
    case round =>
      obtain ⟨k, hkg, rfl, hk, HO⟩ := hrel
      have HKG := hidMk hkg
      have HK := hidMk hk
      by_cases hkd : k < ds.length
      · obtain ⟨bb, rfl, hb⟩ := HRW.out (by omega)
        obtain ⟨c1, c2⟩ := hb k hkd
        have kk := K2.out.trans hk
        have d1 := kk.cellp c1
        have d2 := kk.cellp c2
        have d3 := hk.cellp (HB2.out k (by omega))
        have e3 := fun o => ((Kept.refl wr).alloc o).cellp d3
        have HD3 := hidMk d3
        have HNM := hidMk (show ∀ y, Kept wr y → Calls Tryz.prog 189 #[.pointer (some ⟨tp k, 0, none⟩), .int .i64 (at_ k)] y fun e w' => e = .returned (.string (nmK ds at_ k)) ∧ w' = y from fun y hy => w_Name ((HWW.out k hkd).kept (kk.trans hy)) (at_ k))
        obtain ⟨na, nc, rfl, _, hnb⟩ := own_ss (by rw [HSL.out]; unfold maxLen; omega) HO.out
        have HNB := hidMk hnb
        have kd' : (k : Int) < ds.length := by omega
        have k4' : (k : Int) < 4 := by omega
        have HSZ := hidMk hk.size
        have HSW := hidMk (show w.heap.size < w2.heap.size from cell_lt (HB2.out 0 (by omega)))
        clear hb c1 c2 hk hkg kk hnb
        generalize at_ k = x at *
        generalize tp k = q at *
        generalize dmN ds k = nmk at *
        generalize hnk : nmK ds at_ k = nk at *
        have HNK := hidMk hnk
        clear hnk
        obtain ⟨LL, hLL⟩ : ∃ LL, showL ms ds mi at_ k = LL := ⟨_, rfl⟩
        have hLn : LL.length = k + 1 := by rw [← hLL]; exact HSL.out k
        have HS2 := hidMk (show showL ms ds mi at_ (k + 1) = LL ++ [nk] by rw [HSS.out k, HNK.out, hLL])
        have HLn := hidMk hLn
        rw [hLL] at HO
        rw [hLL]
        clear hLL hLn
        have HLT := hidMk HO.out.lt
        go_wp2_with fail
        go_region_held3 (fun w' => w'.cell? ⟨wr.heap.size, 1, none⟩ = some (.pointer (some ⟨q, 0, none⟩)) ∧ w'.cell? ⟨w.heap.size, 1 + k, none⟩ = some (.int .i64 x)) (first | go_keep | (refine ⟨?_, ?_⟩ <;> assumption) | (refine ⟨?_, ?_⟩ <;> simp only [*]))
          (first
            | (go_at_call 189; refine (HNM.out _ (((Kept.refl wr).alloc _).drew)).mono ?_; rintro e w5 ⟨rfl, hw5⟩; have k5 : Kept wr w5 := (by rw [hw5]; exact ((Kept.refl wr).alloc _).drew); have f3 : w5.cell? ⟨w.heap.size, 1 + k, none⟩ = some (.int .i64 x) := k5.cellp HD3.out; have f4 : w5.cell? ⟨wr.heap.size, 1, none⟩ = some (.pointer (some ⟨q, 0, none⟩)) := (by rw [hw5]; simp); have g3 := (fun o => ((Kept.refl w5).alloc o).cellp f3); have g4 := (fun o => ((Kept.refl w5).alloc o).cellp f4); have K5 := hidMk k5; have G3 := hidMk g3; have G4 := hidMk g4; clear k5 hw5)
            | (refine step_pushS _ (by rfl) _ _ (by rfl) w2.heap.size (.slice na LL.length nc) LL (by rfl) (HO.out.kept (K5.out.alloc _)) (by have h1 := HSZ.out; have h2 := (K5.out.alloc (.cells #[.string nk] 9)).size; omega) w5.heap.size nk (by rfl) (by simp) (by rw [HLn.out]; omega) (w5.heap.size + 1) (by simp) ?_; intro g6 cap6 w6 o6 c6 a6 l6; have m3 := (c6.cell (p := ⟨w.heap.size, 1 + k, none⟩) (cell_lt (G3.out _)) (fun e => by have h1 := HLT.out _ e; have h2 := HSW.out; simp only at h1; omega)).trans (G3.out _); have m4 := (c6.cell (p := ⟨wr.heap.size, 1, none⟩) (cell_lt (G4.out _)) (fun e => by have h1 := HLT.out _ e; simp only at h1; omega)).trans (G4.out _); have O6 := hidMk o6; have C6 := hidMk c6; clear o6 c6 a6 l6))
        have HKK := hidMk (Chg.kept (HK.out.trans (K5.out.alloc _)) C6.out (fun j e => (HLT.out j e).1))
        clear m3 m4 f3 f4 g3 g4
        go_wp2_with fail
        go_roundg (gk - 1)
        case measure => have := HKG.out; omega
        case rel => exact ⟨k + 1, by have := HKG.out; omega, by go_num, HKK.out, hidMk (by rw [HS2.out]; exact O6.out)⟩
      · have e : k = ds.length := by omega
        subst e
        obtain ⟨na, nc, rfl, hns, _⟩ := own_ss (by rw [HSL.out]; unfold maxLen; omega) HO.out
        have hcap := own_cap HO.out
        have HJN := hidMk (text_Join slash na _ nc _ wr hns hcap (by rw [HSL.out]; omega) HLEN.out)
        have HLn := hidMk (HSL.out ds.length)
        clear hk hkg hns hcap HO
        generalize hLL : showL ms ds mi at_ ds.length = LL at *
        have HLL := hidMk hLL
        clear hLL
        have kd' : ¬ ((ds.length : Int) < ds.length) := by omega
        unfold slash at *
        go_wp2_with fail
        refine HJN.out.mono ?_
        rintro e w9 ⟨rfl, k9⟩
        have K9 := hidMk k9
        clear k9
        go_wp2_with fail
        go_ret
        exact ⟨by simp only [if_true]; rw [HLL.out]; rfl, K2.out.trans (HK.out.trans K9.out)⟩
end Go.Proofs.YtpehinmckppjoaaGreatDoor
namespace Go.Proofs.YtpehinmckppjoaaGreatDoor
open Go.RowKit Go.Maps
set_option linter.unusedSimpArgs false
set_option linter.unusedVariables false

end Go.Proofs.YtpehinmckppjoaaGreatDoor
