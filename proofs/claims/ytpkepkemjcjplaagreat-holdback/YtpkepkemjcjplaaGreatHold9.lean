/- hold: Within, Same. -/
import Derived.Test.YtpkepkemjcjplaaGreatHold8
namespace Go.Proofs.YtpkepkemjcjplaaGreat
open Go.RowKit Go.Maps
set_option linter.unusedSimpArgs false
set_option linter.unusedVariables false

open Classical in
/-- Whether a cell is within another one. -/
noncomputable def wiC (ms : List ByteArray) (ds : List Dm) (x y : Cl) : Bool := decide (inC ms ds x.1 (clT x) y.1 (clT y))
theorem bool_is {b : Bool} {P : Prop} [Decidable P] (h : b = true ↔ P) : b = decide P := by
  by_cases c : P
  · rw [decide_eq_true c]; exact h.2 c
  · rw [decide_eq_false c]; cases b with
    | false => rfl
    | true => exact absurd (h.1 rfl) c
section
variable {w : World} {s p : Nat} {ds : List Dm} {ms : List ByteArray} {tp : Nat → Nat} {rv : Nat → Option Addr × Nat}
theorem sw_WithinC (h : SW w s p ds ms tp rv) (x y : Cl) : Calls Tryz.prog 44 #[.pointer (some ⟨s, 0, none⟩), clV x, clV y] w fun e w' => e = .returned (.bool (wiC ms ds x y)) ∧ Kept w w' := by
  rw [clV_at, clV_at]
  refine (sw_Within h x.1 (clT x) y.1 (clT y)).mono ?_
  rintro e w' ⟨r, rfl, hr, k⟩
  refine ⟨?_, k⟩
  unfold wiC
  rw [@bool_is r _ (Classical.propDecidable _) hr]
set_option maxHeartbeats 2000000 in
theorem hold_wfn (h : SW w s p ds ms tp rv) (x y : Cl) (sb cb : Nat) (hsb : w.cell? ⟨sb, 0, none⟩ = some (.pointer (some ⟨s, 0, none⟩)))
    (h0 : w.cell? ⟨cb, 0, none⟩ = some (.int .i64 x.1) ∧ w.cell? ⟨cb, 1, none⟩ = some (.int .i64 x.2.1) ∧ w.cell? ⟨cb, 2, none⟩ = some (.int .i64 x.2.2.1) ∧ w.cell? ⟨cb, 3, none⟩ = some (.int .i64 x.2.2.2.1) ∧ w.cell? ⟨cb, 4, none⟩ = some (.int .i64 x.2.2.2.2)) :
    Calls Tryz.prog 43 #[clV y, .pointer (some ⟨sb, 0, none⟩), .pointer (some ⟨cb, 0, none⟩)] w fun e w' => e = .returned (.bool (wiC ms ds x y)) ∧ Kept w w' := by
  obtain ⟨W1, hW1⟩ : ∃ V, V = w.alloc (.cells #[.int .i64 y.1, .int .i64 y.2.1, .int .i64 y.2.2.1, .int .i64 y.2.2.2.1, .int .i64 y.2.2.2.2] 29) := ⟨_, rfl⟩
  have k1 : Kept w W1 := by rw [hW1]; exact (Kept.refl w).alloc _
  have HK1 := hidMk k1
  obtain ⟨y0, y1, y2, y3, y4⟩ := boxC_at w y 29 rfl _ (Kept.refl _)
  have e0 := ((Kept.refl w).alloc (.cells #[.int .i64 y.1, .int .i64 y.2.1, .int .i64 y.2.2.1, .int .i64 y.2.2.2.1, .int .i64 y.2.2.2.2] 29)).cellp h0.1
  have e1 := ((Kept.refl w).alloc (.cells #[.int .i64 y.1, .int .i64 y.2.1, .int .i64 y.2.2.1, .int .i64 y.2.2.2.1, .int .i64 y.2.2.2.2] 29)).cellp h0.2.1
  have e2 := ((Kept.refl w).alloc (.cells #[.int .i64 y.1, .int .i64 y.2.1, .int .i64 y.2.2.1, .int .i64 y.2.2.2.1, .int .i64 y.2.2.2.2] 29)).cellp h0.2.2.1
  have e3 := ((Kept.refl w).alloc (.cells #[.int .i64 y.1, .int .i64 y.2.1, .int .i64 y.2.2.1, .int .i64 y.2.2.2.1, .int .i64 y.2.2.2.2] 29)).cellp h0.2.2.2.1
  have e4 := ((Kept.refl w).alloc (.cells #[.int .i64 y.1, .int .i64 y.2.1, .int .i64 y.2.2.1, .int .i64 y.2.2.2.1, .int .i64 y.2.2.2.2] 29)).cellp h0.2.2.2.2
  have e5 := ((Kept.refl w).alloc (.cells #[.int .i64 y.1, .int .i64 y.2.1, .int .i64 y.2.2.1, .int .i64 y.2.2.2.1, .int .i64 y.2.2.2.2] 29)).cellp hsb
  have HI := hidMk (sw_WithinC (h.keep k1) x y)
  generalize wiC ms ds x y = z at *
  clear h k1 h0 hsb
  unfold clV at *
  go_enter Tryz.func43, Tryz.ntmps43
  go_wp2_with fail
  rw [← hW1]
  clear hW1 y0 y1 y2 y3 y4 e0 e1 e2 e3 e4 e5
  refine HI.out.mono ?_
  rintro e w2 ⟨rfl, k2⟩
  have HK2 := hidMk k2
  clear k2
  go_wp2_with fail
  go_ret
  exact ⟨rfl, HK1.out.trans HK2.out⟩
end
/-- What IndexFunc answers: the first that is so, or -1. -/
def IfP (w : World) (g : Cl → Bool) (l : List Cl) (e : Ending) (w' : World) : Prop := ∃ z : Int, e = .returned (.int .i64 z) ∧ (0 ≤ z ↔ l.any g = true) ∧ Kept w w'
set_option maxHeartbeats 4000000 in
set_option maxRecDepth 100000 in
theorem slices_IndexFuncC (a : Option Addr) (c : Nat) (l : List Cl) (g : Cl → Bool) (sb cb : Nat) (w : World) (hs : Cq w a l) (hl : l.length ≤ 100000)
    (hf : ∀ Y, Kept w Y → ∀ y, Calls Tryz.prog 43 #[clV y, .pointer (some ⟨sb, 0, none⟩), .pointer (some ⟨cb, 0, none⟩)] Y fun e w' => e = .returned (.bool (g y)) ∧ Kept Y w') :
    Calls Tryz.prog 74 #[.slice a l.length c, .func (.func 43) #[] #[.pointer (some ⟨sb, 0, none⟩), .pointer (some ⟨cb, 0, none⟩)]] w (IfP w g l) := by
  have HL := hidMk hs
  have HF := hidMk hf
  clear hs hf
  unfold clV at *
  go_enter Tryz.func74, Tryz.ntmps74
  go_wp2_with fail
  go_loopg [8] (l.length + 1) (fun gg i wr => ∃ k : Nat, k + gg = l.length + 1 ∧ k ≤ l.length ∧ i = .int .i64 k ∧ Hid (Kept w wr ∧ ∀ t, t < k → g (clA l t) = false))
  case atStart => exact ⟨0, by omega, by omega, rfl, hidMk ⟨Kept.refl _, fun t ht => absurd ht (by omega)⟩⟩
  case round =>
    obtain ⟨k, hkg, hkl, rfl, HS⟩ := hrel
    have HKG := hidMk hkg
    clear hkg
    by_cases hk : k < l.length
    · have hk' : (k : Int) < (l.length : Int) := by omega
      obtain ⟨b, o, rfl⟩ := HL.out.form (by omega)
      obtain ⟨e0, e1, e2, e3, e4⟩ := (HL.out.kept HS.out.1).at hk
      have HFF := hidMk (HF.out wr HS.out.1 (clA l k))
      cases hgk : g (clA l k) with
      | true =>
        rw [hgk] at HFF
        have HA := hidMk (show l.any g = true from List.any_eq_true.2 ⟨_, List.getElem_mem hk, by rw [← clA_get hk]; exact hgk⟩)
        clear hgk
        generalize clA l k = y at *
        go_wp2_with fail
        refine HFF.out.mono ?_
        rintro e w2 ⟨rfl, k2⟩
        have HK2 := hidMk k2
        clear k2
        go_wp2_with fail
        go_ret
        exact ⟨(k : Int), rfl, ⟨fun _ => HA.out, fun _ => by omega⟩, HS.out.1.trans HK2.out⟩
      | false =>
        rw [hgk] at HFF
        have HJ := hidMk (show ∀ t, t < k + 1 → g (clA l t) = false from fun t ht => by
          by_cases e : t = k
          · subst e; exact hgk
          · exact HS.out.2 t (by omega))
        have HK := hidMk HS.out.1
        clear hgk HS
        generalize clA l k = y at *
        go_wp2_with fail
        refine HFF.out.mono ?_
        rintro e w2 ⟨rfl, k2⟩
        have HK2 := hidMk k2
        clear k2 e0 e1 e2 e3 e4
        go_wp2_with fail
        go_roundg (gk - 1)
        case measure => have := HKG.out; omega
        case rel => exact ⟨k + 1, by have := HKG.out; omega, by omega, by go_num, hidMk ⟨HK.out.trans HK2.out, HJ.out⟩⟩
    · have hke : k = l.length := by omega
      have HA := hidMk (show ¬ l.any g = true from fun e => by
        obtain ⟨y, hy, hg⟩ := List.any_eq_true.1 e
        obtain ⟨t, ht, e2⟩ := List.getElem_of_mem hy
        have h9 := HS.out.2 t (by omega)
        rw [clA_get ht, e2, hg] at h9
        cases h9)
      have hk' : ¬ ((k : Int) < (l.length : Int)) := by omega
      go_wp2_with fail
      go_ret
      exact ⟨-1, rfl, ⟨fun e => absurd e (by omega), fun e => absurd e HA.out⟩, HS.out.1⟩
set_option maxHeartbeats 1000000 in
theorem slices_AnyC (a : Option Addr) (c : Nat) (l : List Cl) (g : Cl → Bool) (sb cb : Nat) (w : World) (hs : Cq w a l) (hl : l.length ≤ 100000)
    (hf : ∀ Y, Kept w Y → ∀ y, Calls Tryz.prog 43 #[clV y, .pointer (some ⟨sb, 0, none⟩), .pointer (some ⟨cb, 0, none⟩)] Y fun e w' => e = .returned (.bool (g y)) ∧ Kept Y w') :
    Calls Tryz.prog 42 #[.slice a l.length c, .func (.func 43) #[] #[.pointer (some ⟨sb, 0, none⟩), .pointer (some ⟨cb, 0, none⟩)]] w fun e w' => e = .returned (.bool (l.any g)) ∧ Kept w w' := by
  have HI := hidMk (slices_IndexFuncC a c l g sb cb w hs hl hf)
  obtain ⟨z, hz⟩ : ∃ z, l.any g = z := ⟨_, rfl⟩
  rw [hz]
  have HZ := hidMk hz
  clear hs hf hz
  go_enter Tryz.func42, Tryz.ntmps42
  go_wp2_with fail
  refine HI.out.mono ?_
  rintro e w2 ⟨i, rfl, hi, k2⟩
  rw [HZ.out] at hi
  have HK2 := hidMk k2
  clear k2 HZ
  cases z with
  | true =>
    have h0 : 0 ≤ i := hi.2 rfl
    clear hi
    go_wp2_with fail
    go_ret
    exact ⟨by simp [h0], HK2.out⟩
  | false =>
    have h0 : ¬ 0 ≤ i := fun e => by have := hi.1 e; cases this
    clear hi
    have h1 : i < 0 := by omega
    go_wp2_with fail
    go_ret
    exact ⟨by simp [h0], HK2.out⟩
section
variable {w : World} {s p : Nat} {ds : List Dm} {ms : List ByteArray} {tp : Nat → Nat} {rv : Nat → Option Addr × Nat}
set_option maxHeartbeats 2000000 in
theorem hold_Within (h : SW w s p ds ms tp rv) (a : Option Addr) (c : Nat) (l : List Cl) (x : Cl) (hq : Cq w a l) (hl : l.length ≤ 100000) : Calls Tryz.prog 17 #[hdV a l.length c, .pointer (some ⟨s, 0, none⟩), clV x] w fun e w' => e = .returned (.bool (l.any fun y => wiC ms ds x y)) ∧ Kept w w' := by
  obtain ⟨WA, hWA⟩ : ∃ V, V = w.alloc (.cells #[.slice a l.length c] 37) := ⟨_, rfl⟩
  obtain ⟨WB, hWB⟩ : ∃ V, V = WA.alloc (.cells #[.pointer (some ⟨s, 0, none⟩)] 30) := ⟨_, rfl⟩
  obtain ⟨W1, hW1⟩ : ∃ V, V = WB.alloc (.cells #[.int .i64 x.1, .int .i64 x.2.1, .int .i64 x.2.2.1, .int .i64 x.2.2.2.1, .int .i64 x.2.2.2.2] 29) := ⟨_, rfl⟩
  have kA : Kept w WA := by rw [hWA]; exact (Kept.refl _).alloc _
  have kB : Kept WA WB := by rw [hWB]; exact (Kept.refl _).alloc _
  have kC : Kept WB W1 := by rw [hW1]; exact (Kept.refl _).alloc _
  have zA : WA.heap.size = w.heap.size + 1 := by rw [hWA, World.size_alloc]
  have zB : WB.heap.size = w.heap.size + 1 + 1 := by rw [hWB, World.size_alloc, zA]
  have k1 := kA.trans (kB.trans kC)
  have HK1 := hidMk k1
  have y0 : W1.cell? ⟨w.heap.size, 0, none⟩ = some (.slice a l.length c) := (kB.trans kC).cellp (by rw [hWA]; exact new_cell _ _ _ _ 0 _ rfl rfl)
  have y1 : W1.cell? ⟨w.heap.size + 1, 0, none⟩ = some (.pointer (some ⟨s, 0, none⟩)) := kC.cellp (by rw [hWB]; exact new_cell _ _ _ _ 0 _ zA.symm rfl)
  have HCX := hidMk (show ∀ Y, Kept W1 Y → _ from fun Y k => boxC_at WB x 29 (g := w.heap.size + 1 + 1) zB.symm Y (by rw [← hW1]; exact k))
  have HI := hidMk (slices_AnyC a c l (fun y => wiC ms ds x y) (w.heap.size + 1) (w.heap.size + 1 + 1) W1 (hq.kept k1) hl (fun Y k y => hold_wfn (h.keep (k1.trans k)) x y _ _ (k.cellp y1) (HCX.out Y k)))
  generalize (l.any fun y => wiC ms ds x y) = z at *
  rw [hWB, hWA] at hW1
  rw [hW1] at y0 y1
  clear h hq k1 kA kB kC zA zB hWA hWB HCX
  unfold clV hdV at *
  go_enter Tryz.func17, Tryz.ntmps17
  go_wp2_with fail
  rw [← hW1]
  clear hW1 y0 y1
  refine HI.out.mono ?_
  rintro e w2 ⟨rfl, k2⟩
  have HK2 := hidMk k2
  clear k2
  go_wp2_with fail
  go_ret
  exact ⟨rfl, HK1.out.trans HK2.out⟩
end
set_option maxHeartbeats 1000000 in
theorem hold_Same (a b : Option Addr) (c d : Nat) (l m : List Cl) (w : World) (hl : Cq w a l) (hm : Cq w b m) (h5 : l.length ≤ 100000) : Calls Tryz.prog 23 #[hdV a l.length c, hdV b m.length d] w fun e w' => e = .returned (.bool (decide (l = m))) ∧ Kept w w' := by
  obtain ⟨WA, hWA⟩ : ∃ V, V = w.alloc (.cells #[.slice a l.length c] 37) := ⟨_, rfl⟩
  obtain ⟨W1, hW1⟩ : ∃ V, V = WA.alloc (.cells #[.slice b m.length d] 37) := ⟨_, rfl⟩
  have kA : Kept w WA := by rw [hWA]; exact (Kept.refl _).alloc _
  have kB : Kept WA W1 := by rw [hW1]; exact (Kept.refl _).alloc _
  have zA : WA.heap.size = w.heap.size + 1 := by rw [hWA, World.size_alloc]
  have k1 := kA.trans kB
  have HK1 := hidMk k1
  have y0 : W1.cell? ⟨w.heap.size, 0, none⟩ = some (.slice a l.length c) := kB.cellp (by rw [hWA]; exact new_cell _ _ _ _ 0 _ rfl rfl)
  have y1 : W1.cell? ⟨w.heap.size + 1, 0, none⟩ = some (.slice b m.length d) := by rw [hW1]; exact new_cell _ _ _ _ 0 _ zA.symm rfl
  have HI := hidMk (slices_EqualC a b c d l m W1 (hl.kept k1) (hm.kept k1) h5)
  generalize decide (l = m) = z at *
  rw [hWA] at hW1
  rw [hW1] at y0 y1
  clear hl hm k1 kA kB zA hWA
  unfold hdV at *
  go_enter Tryz.func23, Tryz.ntmps23
  go_wp2_with fail
  rw [← hW1]
  clear hW1 y0 y1
  refine HI.out.mono ?_
  rintro e w2 ⟨rfl, k2⟩
  have HK2 := hidMk k2
  clear k2
  go_wp2_with fail
  go_ret
  exact ⟨rfl, HK1.out.trans HK2.out⟩
end Go.Proofs.YtpkepkemjcjplaaGreat
