/- hold: Within, Same. · hold: Region. · hold: lists of cells by rising numbers; what Add and Drop give, in one contract each. -/
import Derived.Test.YtmedgkccicbieaaGreatQHoldB
import Derived.Test.YtmedgkccicbieaaGreatQRegJ
namespace Go.Proofs.YtmedgkccicbieaaGreat
open Go.RowKit Go.Maps
set_option linter.unusedSimpArgs false
set_option linter.unusedVariables false

open Classical in
/-- Whether a cell is within another one. -/
noncomputable def wiC (ms : List ByteArray) (ds : List Dm) (x y : Cl) : Bool := decide (inC ms ds x.1 (clT x) y.1 (clT y))
theorem bool_is {b : Bool} {P : Prop} [Decidable P] (h : b = true ↔ P) : b = decide P := by
  by_cases c : P
  · rw [decide_eq_true c]; exact h.2 c
  · rw [decide_eq_false c]; cases b with
    | false => rfl
    | true => exact absurd (h.1 rfl) c
section
variable {w : World} {s p : Nat} {ds : List Dm} {ms : List ByteArray} {tp : Nat → Nat} {rv : Nat → Option Addr × Nat}
theorem sw_WithinC (h : SW w s p ds ms tp rv) (x y : Cl) : Calls Tryz.prog 60 #[.pointer (some ⟨s, 0, none⟩), clV x, clV y] w fun e w' => e = .returned (.bool (wiC ms ds x y)) ∧ Kept w w' := by
  rw [clV_at, clV_at]
  refine (sw_Within h x.1 (clT x) y.1 (clT y)).mono ?_
  rintro e w' ⟨r, rfl, hr, k⟩
  refine ⟨?_, k⟩
  unfold wiC
  rw [@bool_is r _ (Classical.propDecidable _) hr]
set_option maxHeartbeats 2000000 in
theorem hold_wfn (h : SW w s p ds ms tp rv) (x y : Cl) (sb cb : Nat) (hsb : w.cell? ⟨sb, 0, none⟩ = some (.pointer (some ⟨s, 0, none⟩)))
    (h0 : w.cell? ⟨cb, 0, none⟩ = some (.int .i64 x.1) ∧ w.cell? ⟨cb, 1, none⟩ = some (.int .i64 x.2.1) ∧ w.cell? ⟨cb, 2, none⟩ = some (.int .i64 x.2.2.1) ∧ w.cell? ⟨cb, 3, none⟩ = some (.int .i64 x.2.2.2.1) ∧ w.cell? ⟨cb, 4, none⟩ = some (.int .i64 x.2.2.2.2)) :
    Calls Tryz.prog 59 #[clV y, .pointer (some ⟨sb, 0, none⟩), .pointer (some ⟨cb, 0, none⟩)] w fun e w' => e = .returned (.bool (wiC ms ds x y)) ∧ Kept w w' := by
  obtain ⟨W1, hW1⟩ : ∃ V, V = w.alloc (.cells #[.int .i64 y.1, .int .i64 y.2.1, .int .i64 y.2.2.1, .int .i64 y.2.2.2.1, .int .i64 y.2.2.2.2] 29) := ⟨_, rfl⟩
  have k1 : Kept w W1 := by rw [hW1]; exact (Kept.refl w).alloc _
  have HK1 := hidMk k1
  obtain ⟨y0, y1, y2, y3, y4⟩ := boxC_at w y 29 rfl _ (Kept.refl _)
  have e0 := ((Kept.refl w).alloc (.cells #[.int .i64 y.1, .int .i64 y.2.1, .int .i64 y.2.2.1, .int .i64 y.2.2.2.1, .int .i64 y.2.2.2.2] 29)).cellp h0.1
  have e1 := ((Kept.refl w).alloc (.cells #[.int .i64 y.1, .int .i64 y.2.1, .int .i64 y.2.2.1, .int .i64 y.2.2.2.1, .int .i64 y.2.2.2.2] 29)).cellp h0.2.1
  have e2 := ((Kept.refl w).alloc (.cells #[.int .i64 y.1, .int .i64 y.2.1, .int .i64 y.2.2.1, .int .i64 y.2.2.2.1, .int .i64 y.2.2.2.2] 29)).cellp h0.2.2.1
  have e3 := ((Kept.refl w).alloc (.cells #[.int .i64 y.1, .int .i64 y.2.1, .int .i64 y.2.2.1, .int .i64 y.2.2.2.1, .int .i64 y.2.2.2.2] 29)).cellp h0.2.2.2.1
  have e4 := ((Kept.refl w).alloc (.cells #[.int .i64 y.1, .int .i64 y.2.1, .int .i64 y.2.2.1, .int .i64 y.2.2.2.1, .int .i64 y.2.2.2.2] 29)).cellp h0.2.2.2.2
  have e5 := ((Kept.refl w).alloc (.cells #[.int .i64 y.1, .int .i64 y.2.1, .int .i64 y.2.2.1, .int .i64 y.2.2.2.1, .int .i64 y.2.2.2.2] 29)).cellp hsb
  have HI := hidMk (sw_WithinC (h.keep k1) x y)
  generalize wiC ms ds x y = z at *
  clear h k1 h0 hsb
  unfold clV at *
  go_enter Tryz.func59, Tryz.ntmps59
  go_wp2_with fail
  rw [← hW1]
  clear hW1 y0 y1 y2 y3 y4 e0 e1 e2 e3 e4 e5
  refine HI.out.mono ?_
  rintro e w2 ⟨rfl, k2⟩
  have HK2 := hidMk k2
  clear k2
  go_wp2_with fail
  go_ret
  exact ⟨rfl, HK1.out.trans HK2.out⟩
end
/-- What IndexFunc answers: the first that is so, or -1. -/
def IfP (w : World) (g : Cl → Bool) (l : List Cl) (e : Ending) (w' : World) : Prop := ∃ z : Int, e = .returned (.int .i64 z) ∧ (0 ≤ z ↔ l.any g = true) ∧ Kept w w'
set_option maxHeartbeats 4000000 in
set_option maxRecDepth 100000 in
theorem slices_IndexFuncC (a : Option Addr) (c : Nat) (l : List Cl) (g : Cl → Bool) (sb cb : Nat) (w : World) (hs : Cq w a l) (hl : l.length ≤ 100000)
    (hf : ∀ Y, Kept w Y → ∀ y, Calls Tryz.prog 59 #[clV y, .pointer (some ⟨sb, 0, none⟩), .pointer (some ⟨cb, 0, none⟩)] Y fun e w' => e = .returned (.bool (g y)) ∧ Kept Y w') :
    Calls Tryz.prog 103 #[.slice a l.length c, .func (.func 59) #[] #[.pointer (some ⟨sb, 0, none⟩), .pointer (some ⟨cb, 0, none⟩)]] w (IfP w g l) := by
  have HL := hidMk hs
  have HF := hidMk hf
  clear hs hf
  unfold clV at *
  go_enter Tryz.func103, Tryz.ntmps103
  go_wp2_with fail
  go_loopg [8] (l.length + 1) (fun gg i wr => ∃ k : Nat, k + gg = l.length + 1 ∧ k ≤ l.length ∧ i = .int .i64 k ∧ Hid (Kept w wr ∧ ∀ t, t < k → g (clA l t) = false))
  case atStart => exact ⟨0, by omega, by omega, rfl, hidMk ⟨Kept.refl _, fun t ht => absurd ht (by omega)⟩⟩
  case round =>
    obtain ⟨k, hkg, hkl, rfl, HS⟩ := hrel
    have HKG := hidMk hkg
    clear hkg
    by_cases hk : k < l.length
    · have hk' : (k : Int) < (l.length : Int) := by omega
      obtain ⟨b, o, rfl⟩ := HL.out.form (by omega)
      obtain ⟨e0, e1, e2, e3, e4⟩ := (HL.out.kept HS.out.1).at hk
      have HFF := hidMk (HF.out wr HS.out.1 (clA l k))
      cases hgk : g (clA l k) with
      | true =>
        rw [hgk] at HFF
        have HA := hidMk (show l.any g = true from List.any_eq_true.2 ⟨_, List.getElem_mem hk, by rw [← clA_get hk]; exact hgk⟩)
        clear hgk
        generalize clA l k = y at *
        go_wp2_with fail
        refine HFF.out.mono ?_
        rintro e w2 ⟨rfl, k2⟩
        have HK2 := hidMk k2
        clear k2
        go_wp2_with fail
        go_ret
        exact ⟨(k : Int), rfl, ⟨fun _ => HA.out, fun _ => by omega⟩, HS.out.1.trans HK2.out⟩
      | false =>
        rw [hgk] at HFF
        have HJ := hidMk (show ∀ t, t < k + 1 → g (clA l t) = false from fun t ht => by
          by_cases e : t = k
          · subst e; exact hgk
          · exact HS.out.2 t (by omega))
        have HK := hidMk HS.out.1
        clear hgk HS
        generalize clA l k = y at *
        go_wp2_with fail
        refine HFF.out.mono ?_
        rintro e w2 ⟨rfl, k2⟩
        have HK2 := hidMk k2
        clear k2 e0 e1 e2 e3 e4
        go_wp2_with fail
        go_roundg (gk - 1)
        case measure => have := HKG.out; omega
        case rel => exact ⟨k + 1, by have := HKG.out; omega, by omega, by go_num, hidMk ⟨HK.out.trans HK2.out, HJ.out⟩⟩
    · have hke : k = l.length := by omega
      have HA := hidMk (show ¬ l.any g = true from fun e => by
        obtain ⟨y, hy, hg⟩ := List.any_eq_true.1 e
        obtain ⟨t, ht, e2⟩ := List.getElem_of_mem hy
        have h9 := HS.out.2 t (by omega)
        rw [clA_get ht, e2, hg] at h9
        cases h9)
      have hk' : ¬ ((k : Int) < (l.length : Int)) := by omega
      go_wp2_with fail
      go_ret
      exact ⟨-1, rfl, ⟨fun e => absurd e (by omega), fun e => absurd e HA.out⟩, HS.out.1⟩
set_option maxHeartbeats 1000000 in
theorem slices_AnyC (a : Option Addr) (c : Nat) (l : List Cl) (g : Cl → Bool) (sb cb : Nat) (w : World) (hs : Cq w a l) (hl : l.length ≤ 100000)
    (hf : ∀ Y, Kept w Y → ∀ y, Calls Tryz.prog 59 #[clV y, .pointer (some ⟨sb, 0, none⟩), .pointer (some ⟨cb, 0, none⟩)] Y fun e w' => e = .returned (.bool (g y)) ∧ Kept Y w') :
    Calls Tryz.prog 58 #[.slice a l.length c, .func (.func 59) #[] #[.pointer (some ⟨sb, 0, none⟩), .pointer (some ⟨cb, 0, none⟩)]] w fun e w' => e = .returned (.bool (l.any g)) ∧ Kept w w' := by
  have HI := hidMk (slices_IndexFuncC a c l g sb cb w hs hl hf)
  obtain ⟨z, hz⟩ : ∃ z, l.any g = z := ⟨_, rfl⟩
  rw [hz]
  have HZ := hidMk hz
  clear hs hf hz
  go_enter Tryz.func58, Tryz.ntmps58
  go_wp2_with fail
  refine HI.out.mono ?_
  rintro e w2 ⟨i, rfl, hi, k2⟩
  rw [HZ.out] at hi
  have HK2 := hidMk k2
  clear k2 HZ
  cases z with
  | true =>
    have h0 : 0 ≤ i := hi.2 rfl
    clear hi
    go_wp2_with fail
    go_ret
    exact ⟨by simp [h0], HK2.out⟩
  | false =>
    have h0 : ¬ 0 ≤ i := fun e => by have := hi.1 e; cases this
    clear hi
    have h1 : i < 0 := by omega
    go_wp2_with fail
    go_ret
    exact ⟨by simp [h0], HK2.out⟩
section
variable {w : World} {s p : Nat} {ds : List Dm} {ms : List ByteArray} {tp : Nat → Nat} {rv : Nat → Option Addr × Nat}
set_option maxHeartbeats 2000000 in
theorem hold_Within (h : SW w s p ds ms tp rv) (a : Option Addr) (c : Nat) (l : List Cl) (x : Cl) (hq : Cq w a l) (hl : l.length ≤ 100000) : Calls Tryz.prog 18 #[hdV a l.length c, .pointer (some ⟨s, 0, none⟩), clV x] w fun e w' => e = .returned (.bool (l.any fun y => wiC ms ds x y)) ∧ Kept w w' := by
  obtain ⟨WA, hWA⟩ : ∃ V, V = w.alloc (.cells #[.slice a l.length c] 37) := ⟨_, rfl⟩
  obtain ⟨WB, hWB⟩ : ∃ V, V = WA.alloc (.cells #[.pointer (some ⟨s, 0, none⟩)] 30) := ⟨_, rfl⟩
  obtain ⟨W1, hW1⟩ : ∃ V, V = WB.alloc (.cells #[.int .i64 x.1, .int .i64 x.2.1, .int .i64 x.2.2.1, .int .i64 x.2.2.2.1, .int .i64 x.2.2.2.2] 29) := ⟨_, rfl⟩
  have kA : Kept w WA := by rw [hWA]; exact (Kept.refl _).alloc _
  have kB : Kept WA WB := by rw [hWB]; exact (Kept.refl _).alloc _
  have kC : Kept WB W1 := by rw [hW1]; exact (Kept.refl _).alloc _
  have zA : WA.heap.size = w.heap.size + 1 := by rw [hWA, World.size_alloc]
  have zB : WB.heap.size = w.heap.size + 1 + 1 := by rw [hWB, World.size_alloc, zA]
  have k1 := kA.trans (kB.trans kC)
  have HK1 := hidMk k1
  have y0 : W1.cell? ⟨w.heap.size, 0, none⟩ = some (.slice a l.length c) := (kB.trans kC).cellp (by rw [hWA]; exact new_cell _ _ _ _ 0 _ rfl rfl)
  have y1 : W1.cell? ⟨w.heap.size + 1, 0, none⟩ = some (.pointer (some ⟨s, 0, none⟩)) := kC.cellp (by rw [hWB]; exact new_cell _ _ _ _ 0 _ zA.symm rfl)
  have HCX := hidMk (show ∀ Y, Kept W1 Y → _ from fun Y k => boxC_at WB x 29 (g := w.heap.size + 1 + 1) zB.symm Y (by rw [← hW1]; exact k))
  have HI := hidMk (slices_AnyC a c l (fun y => wiC ms ds x y) (w.heap.size + 1) (w.heap.size + 1 + 1) W1 (hq.kept k1) hl (fun Y k y => hold_wfn (h.keep (k1.trans k)) x y _ _ (k.cellp y1) (HCX.out Y k)))
  generalize (l.any fun y => wiC ms ds x y) = z at *
  rw [hWB, hWA] at hW1
  rw [hW1] at y0 y1
  clear h hq k1 kA kB kC zA zB hWA hWB HCX
  unfold clV hdV at *
  go_enter Tryz.func18, Tryz.ntmps18
  go_wp2_with fail
  rw [← hW1]
  clear hW1 y0 y1
  refine HI.out.mono ?_
  rintro e w2 ⟨rfl, k2⟩
  have HK2 := hidMk k2
  clear k2
  go_wp2_with fail
  go_ret
  exact ⟨rfl, HK1.out.trans HK2.out⟩
end
set_option maxHeartbeats 1000000 in
theorem hold_Same (a b : Option Addr) (c d : Nat) (l m : List Cl) (w : World) (hl : Cq w a l) (hm : Cq w b m) (h5 : l.length ≤ 100000) : Calls Tryz.prog 24 #[hdV a l.length c, hdV b m.length d] w fun e w' => e = .returned (.bool (decide (l = m))) ∧ Kept w w' := by
  obtain ⟨WA, hWA⟩ : ∃ V, V = w.alloc (.cells #[.slice a l.length c] 37) := ⟨_, rfl⟩
  obtain ⟨W1, hW1⟩ : ∃ V, V = WA.alloc (.cells #[.slice b m.length d] 37) := ⟨_, rfl⟩
  have kA : Kept w WA := by rw [hWA]; exact (Kept.refl _).alloc _
  have kB : Kept WA W1 := by rw [hW1]; exact (Kept.refl _).alloc _
  have zA : WA.heap.size = w.heap.size + 1 := by rw [hWA, World.size_alloc]
  have k1 := kA.trans kB
  have HK1 := hidMk k1
  have y0 : W1.cell? ⟨w.heap.size, 0, none⟩ = some (.slice a l.length c) := kB.cellp (by rw [hWA]; exact new_cell _ _ _ _ 0 _ rfl rfl)
  have y1 : W1.cell? ⟨w.heap.size + 1, 0, none⟩ = some (.slice b m.length d) := by rw [hW1]; exact new_cell _ _ _ _ 0 _ zA.symm rfl
  have HI := hidMk (slices_EqualC a b c d l m W1 (hl.kept k1) (hm.kept k1) h5)
  generalize decide (l = m) = z at *
  rw [hWA] at hW1
  rw [hW1] at y0 y1
  clear hl hm k1 kA kB zA hWA
  unfold hdV at *
  go_enter Tryz.func24, Tryz.ntmps24
  go_wp2_with fail
  rw [← hW1]
  clear hW1 y0 y1
  refine HI.out.mono ?_
  rintro e w2 ⟨rfl, k2⟩
  have HK2 := hidMk k2
  clear k2
  go_wp2_with fail
  go_ret
  exact ⟨rfl, HK1.out.trans HK2.out⟩
end Go.Proofs.YtmedgkccicbieaaGreat
namespace Go.Proofs.YtmedgkccicbieaaGreat
open Go.RowKit Go.Maps
set_option linter.unusedSimpArgs false
set_option linter.unusedVariables false

/-- The values of a row of sets. -/
def seV (f : Nat → List Rn) (nv : Nat → Option Addr × Nat) (j : Nat) : List Value := (List.range j).map fun k => .slice (nv k).1 (f k).length (nv k).2
/-- A row of j sets, from block B on, whose own rows lie apart from it. -/
def OwnE (w : World) (B : Nat) (v : Value) (f : Nat → List Rn) (j : Nat) (nv : Nat → Option Addr × Nat) : Prop :=
  w.ownsRow B 55 1 v j (seV f nv j) ∧ ∀ k, k < j → (Rs w (nv k).1 (f k) ∧ (f k).length ≤ (nv k).2 ∧ ((nv k).1 = none → f k = [] ∧ (nv k).2 = 0)) ∧ ∀ ad, (nv k).1 = some ad → 0 < (f k).length → ad.block < w.heap.size ∧ v.ownBlock ≠ some ad.block
theorem ownE_nil (w : World) (B : Nat) (f : Nat → List Rn) (nv : Nat → Option Addr × Nat) : OwnE w B (.slice none 0 0) f 0 nv := ⟨World.ownsRow_nil _ _ _ _, fun k hk => absurd hk (by omega)⟩
theorem OwnE.kept {w y : World} {B : Nat} {v : Value} {f : Nat → List Rn} {j : Nat} {nv : Nat → Option Addr × Nat} (h : OwnE w B v f j nv) (g : Kept w y) : OwnE y B v f j nv :=
  ⟨ownsRow_kept h.1 g, fun k hk => ⟨⟨(h.2 k hk).1.1.kept g, (h.2 k hk).1.2⟩, fun ad e hp => ⟨Nat.lt_of_lt_of_le ((h.2 k hk).2 ad e hp).1 g.size, ((h.2 k hk).2 ad e hp).2⟩⟩⟩
theorem OwnE.lt {w : World} {B : Nat} {v : Value} {f : Nat → List Rn} {j : Nat} {nv : Nat → Option Addr × Nat} (h : OwnE w B v f j nv) : ∀ g, v.ownBlock = some g → B ≤ g ∧ g < w.heap.size := World.ownsRow.lt h.1
theorem OwnE.form {w : World} {B : Nat} {v : Value} {f : Nat → List Rn} {j : Nat} {nv : Nat → Option Addr × Nat} (h : OwnE w B v f j nv) : ∃ a c, v = .slice a j c := by
  obtain ⟨_, ⟨h1, hz⟩ | ⟨g, cap, cur, h1, _⟩⟩ := h.1
  · exact ⟨none, 0, by rw [h1]; have : j = 0 := by simpa using hz
                       rw [this]⟩
  · exact ⟨_, _, h1⟩
theorem OwnE.sts {w : World} {B : Nat} {a : Option Addr} {c : Nat} {f : Nat → List Rn} {j : Nat} {nv : Nat → Option Addr × Nat} (h : OwnE w B (.slice a j c) f j nv) : Sts w a ((List.range j).map f) := by
  refine ⟨fun hp => ?_⟩
  rw [List.length_map, List.length_range] at hp
  obtain ⟨g, cap, e, _, _⟩ := h.1.form hp
  cases e
  refine ⟨g, 0, rfl, (h.lt g rfl).2, fun k hk => ?_⟩
  rw [List.length_map, List.length_range] at hk
  refine ⟨.slice (nv k).1 (f k).length (nv k).2, ?_, ?_⟩
  · rw [Nat.zero_add, h.1.cellAt k (by omega)]
    simp [seV, hk]
  · rw [show ((List.range j).map f).getD k [] = f k by simp [List.getD, hk]]
    obtain ⟨⟨h1, h2, h3⟩, _⟩ := h.2 k hk
    exact ⟨_, _, rfl, h1, h2, h3⟩
theorem ownE_next {w w' : World} {B : Nat} {v : Value} {f : Nat → List Rn} {j : Nat} {nv : Nat → Option Addr × Nat} (hv : OwnE w B v f j nv) (va : Option Addr) (vc : Nat) (m : List Rn) (hs : Rs w va m ∧ m.length ≤ vc ∧ (va = none → m = [] ∧ vc = 0)) (hfr : ∀ ad, va = some ad → 0 < m.length → ad.block < w.heap.size ∧ v.ownBlock ≠ some ad.block) {g' cap : Nat}
    (h2 : w'.ownsRow B 55 1 (.slice (some ⟨g', 0, none⟩) (j + 1) cap) (j + 1) (seV f nv j ++ [.slice va m.length vc])) (h3 : Chg (fun k => v.ownBlock = some k) w w') (h4 : v.ownBlock = some g' ∨ g' = w.heap.size) : OwnE w' B (.slice (some ⟨g', 0, none⟩) (j + 1) cap) (fun k => if k = j then m else f k) (j + 1) (fun k => if k = j then (va, vc) else nv k) := by
  have hne : ∀ ad : Addr, ad.block < w.heap.size → v.ownBlock ≠ some ad.block → (Value.slice (some ⟨g', 0, none⟩) (j + 1) cap).ownBlock ≠ some ad.block := fun ad hlt hn e => by
    simp only [Value.ownBlock, Option.some.injEq] at e
    rcases h4 with h4 | h4
    · rw [h4] at hn; exact hn (by rw [e])
    · omega
  refine ⟨?_, fun k hk => ?_⟩
  · have e : seV (fun k => if k = j then m else f k) (fun k => if k = j then (va, vc) else nv k) (j + 1) = seV f nv j ++ [.slice va m.length vc] := by
      unfold seV
      rw [List.range_succ, List.map_append]
      congr 1
      · apply List.map_congr_left
        intro k hk
        rw [List.mem_range] at hk
        have e : ¬ k = j := by omega
        simp only [if_neg e]
      · simp
    rw [e]
    exact h2
  · by_cases e : k = j
    · subst e
      simp only [if_true]
      exact ⟨⟨hs.1.chg h3 (fun hp ad had e => (hfr ad had hp).2 e), hs.2⟩, fun ad had hp => ⟨Nat.lt_of_lt_of_le (hfr ad had hp).1 h3.size, hne ad (hfr ad had hp).1 (hfr ad had hp).2⟩⟩
    · simp only [if_neg e]
      have hk' : k < j := by omega
      obtain ⟨s1, s2⟩ := hv.2 k hk'
      exact ⟨⟨s1.1.chg h3 (fun hp ad had e => (s2 ad had hp).2 e), s1.2⟩, fun ad had hp => ⟨Nat.lt_of_lt_of_le (s2 ad had hp).1 h3.size, hne ad (s2 ad had hp).1 (s2 ad had hp).2⟩⟩
theorem einfo : ∃ i0, Tryz.prog.info? 55 = some i0 ∧ i0.zero = some (.agg #[.slice none 0 0]) ∧ i0.size = 1 ∧ i0.bytes = 24 := by
  have h : (Tryz.prog.info? 55).map (fun i => (i.zero, i.size, i.bytes)) = some (some (.agg #[.slice none 0 0]), 1, 24) := by kernel_rfl
  exact info_parts h
theorem wpList_pushE {ops : Array Oper} {rest : List Oper} {o : Oper} {a : Act} {Q : Exit → Act → World → Prop} (w : World) (hgd : o.guard = none) (s x : Operand)
    (ho : o.op = .call { callee := .builtin .append, args := #[s, x], argTypes := #[120, 120] })
    (B : Nat) (v : Value) (f : Nat → List Rn) (j : Nat) (nv : Nat → Option Addr × Nat) (hs : a.eval s = v) (hv : OwnE w B v f j nv) (hB : B ≤ w.heap.size) (g : Nat) (va : Option Addr) (vc : Nat) (m : List Rn) (hx : a.eval x = .slice (some ⟨g, 0, none⟩) 1 1) (hcell : w.cell? ⟨g, 0, none⟩ = some (.slice va m.length vc))
    (hsl : Rs w va m ∧ m.length ≤ vc ∧ (va = none → m = [] ∧ vc = 0)) (hfr : ∀ ad, va = some ad → 0 < m.length → ad.block < w.heap.size ∧ v.ownBlock ≠ some ad.block) (hj : j ≤ 1000)
    (h : ∀ g' cap w', OwnE w' B (.slice (some ⟨g', 0, none⟩) (j + 1) cap) (fun k => if k = j then m else f k) (j + 1) (fun k => if k = j then (va, vc) else nv k) → Chg (fun k => v.ownBlock = some k) w w' → wpList Tryz.prog ops Q rest (a.put o.dst (.slice (some ⟨g', 0, none⟩) (j + 1) cap)) w') :
    wpList Tryz.prog ops Q (o :: rest) a w := by
  obtain ⟨i0, hi0, hz0, hz1, hz2⟩ := einfo
  refine wpList_append_lies w hgd s x 120 ho B 55 i0 (.agg #[.slice none 0 0]) 1 24 Tryz.underlying120 hi0 hz0 hz1 hz2 rfl (by decide) v _ _ hs hv.1 ⟨g, 0, none⟩ 1 1 [.slice va m.length vc] hx rfl (one_news hcell) (by intro u hu; simp at hu; subst hu; rfl) (by omega) (by unfold maxLen; omega) (by omega) hB w.heap.size rfl ?_
  intro g' cap w' h2 h3 h4 h5
  have hc : Chg (fun k => v.ownBlock = some k) w w' := (Chg.refl _ w).grown h3 (fun k hk => .inl hk)
  exact h g' cap w' (ownE_next hv va vc m hsl hfr h2 hc h4) hc
theorem norm_okR {l : List Rn} (h : Norm l) : ∀ r, r ∈ l → okR r := fun r hr => by
  obtain ⟨k, hk, rfl⟩ := mem_rnA hr
  exact norm_at h hk
theorem catL_len_le {f : Nat → List Rn} {j : Nat} (h : ∀ k, k < j → (f k).length ≤ 1000) : (catL [] ((List.range j).map f)).length ≤ j * 1000 := by
  induction j with
  | zero => simp [catL]
  | succ j ih =>
    have := ih (fun k hk => h k (by omega))
    have h2 := h j (by omega)
    rw [List.range_succ, List.map_append, catL, List.foldl_append]
    unfold catL at this
    simp only [List.map_cons, List.map_nil, List.foldl_cons, List.foldl_nil, List.length_append]
    omega
section
variable {w : World} {s p : Nat} {ds : List Dm} {ms : List ByteArray} {tp : Nat → Nat} {rv : Nat → Option Addr × Nat}
/-- The codes within cells. -/
def regP (ms : List ByteArray) (ds : List Dm) (l : List Cl) (y : Int) : Prop := ∃ k, k < l.length ∧ y ∈ undL ms ds (clA l k).1 (clT (clA l k))
set_option maxHeartbeats 8000000 in
set_option maxRecDepth 100000 in
theorem hold_Region (h : SW w s p ds ms tp rv) (a : Option Addr) (c : Nat) (l : List Cl) (hq : Cq w a l) (hl : l.length ≤ 40) (hu : ∀ cm at_, (undL ms ds cm at_).length ≤ 1000 ∧ ∀ y, y ∈ undL ms ds cm at_ → isI y ∧ 0 ≤ y) :
    Calls Tryz.prog 21 #[hdV a l.length c, .pointer (some ⟨s, 0, none⟩)] w (SetPost w (regP ms ds l) 40000) := by
  obtain ⟨WA, hWA⟩ : ∃ V, V = (w.alloc (.cells #[.slice a l.length c] 37)).alloc (.cells #[.slice none 0 0] 55) := ⟨_, rfl⟩
  have kA : Kept w WA := by rw [hWA]; exact ((Kept.refl w).alloc _).alloc _
  have hA0 : WA.cell? ⟨w.heap.size, 0, none⟩ = some (.slice a l.length c) := by rw [hWA]; simp
  have hA1 : WA.cell? ⟨w.heap.size + 1, 0, none⟩ = some (.slice none 0 0) := by rw [hWA]; simp
  have hA2 : WA.frozen? ⟨w.heap.size + 1, 0, none⟩ = false := by rw [hWA]; simp
  have hAs : WA.heap.size = w.heap.size + 2 := by rw [hWA]; simp
  have HH := hidMk h
  have HQ := hidMk hq
  have HU := hidMk hu
  have HKA := hidMk kA
  clear h hq hu kA
  unfold hdV
  go_enter Tryz.func21, Tryz.ntmps21
  go_wp2_with fail
  rw [← hWA]
  clear hWA
  go_loopg [5, 11] l.length (fun g v x wr => ∃ (k : Nat) (f : Nat → List Rn) (nv : Nat → Option Addr × Nat) (va : Option Addr) (vc : Nat), k + g = l.length ∧ x = .int .i64 k ∧ v = .slice va k vc ∧ Hid (OwnE wr WA.heap.size (.slice va k vc) f k nv ∧ Kept WA wr ∧ ∀ i, i < k → Norm (f i) ∧ (∀ y, inRg (f i) y ↔ y ∈ undL ms ds (clA l i).1 (clT (clA l i))) ∧ (f i).length ≤ 1000))
  case atStart => exact ⟨0, fun _ => [], fun _ => (none, 0), none, 0, by omega, rfl, rfl, hidMk ⟨ownE_nil _ _ _ _, Kept.refl _, fun i hi => absurd hi (by omega)⟩⟩
  case round =>
    obtain ⟨k, f, nv, va, vc, hkg, rfl, rfl, HJ⟩ := hrel
    have HKG := hidMk hkg
    by_cases hkn : k < l.length
    · have hk1 : (k : Int) < l.length := by omega
      have hk0 : (0 : Int) ≤ (k : Int) := by omega
      obtain ⟨b, o, rfl⟩ := HQ.out.form (by omega)
      have hkW := HKA.out.trans HJ.out.2.1
      obtain ⟨c0, c1, c2, c3, c4⟩ := (HQ.out.kept hkW).at hkn
      have hb : b < wr.heap.size := cell_lt c0
      have HUN := hidMk (show ∀ y, Kept wr y → Calls Tryz.prog 63 #[.pointer (some ⟨s, 0, none⟩), clV (clA l k)] y (UndP y (undL ms ds (clA l k).1 (clT (clA l k)))) from fun y hy => by rw [clV_at]; exact sw_Under (HH.out.keep (hkW.trans hy)) _ _)
      obtain ⟨UL, hUL⟩ : ∃ UL, UL = undL ms ds (clA l k).1 (clT (clA l k)) := ⟨_, rfl⟩
      rw [← hUL] at HUN
      have HUB := hidMk (HU.out (clA l k).1 (clT (clA l k)))
      rw [← hUL] at HUB
      have HUL := hidMk hUL
      obtain ⟨X, hxx⟩ : ∃ X, clA l k = X := ⟨_, rfl⟩
      rw [hxx] at c0 c1 c2 c3 c4 HUN HUL
      obtain ⟨x0, x1, x2, x3, x4⟩ := X
      unfold clV at HUN
      simp only at c0 c1 c2 c3 c4 HUN
      have HXX := hidMk hxx
      clear hUL hkW hkg hxx
      go_wp2_with fail
      refine (HUN.out _ ((Kept.refl wr).alloc _)).mono ?_
      rintro e w2 ⟨v2, rfl, ho2, k2⟩
      obtain ⟨ua, uc, rfl, hsl⟩ := ho2.sl (by have := HUB.out.1; unfold maxLen; omega)
      have HOF := hidMk (region_Of ua UL.length uc UL w2 hsl (fun x hx => (HUB.out.2 x hx).1) HUB.out.1)
      have HK2 := hidMk (((Kept.refl wr).alloc _).trans k2)
      clear ho2 k2 hsl c0 c1 c2 c3 c4 HUN
      go_wp2_with fail
      refine HOF.out.mono ?_
      rintro e w3 ⟨v3, m, rfl, hset, hN, hin, hlen, k3, hfr⟩
      obtain ⟨ma, mc, rfl, hrs, hle, hnl⟩ := hset
      have HK3 := hidMk (HK2.out.trans k3)
      have HST := hidMk (show Rs w3 ma m ∧ m.length ≤ mc ∧ (ma = none → m = [] ∧ mc = 0) from ⟨hrs, hle, hnl⟩)
      have HNM := hidMk hN
      have HIN := hidMk hin
      have HFR := hidMk (show ∀ ad, ma = some ad → 0 < m.length → ad.block < w3.heap.size ∧ (Value.slice va k vc).ownBlock ≠ some ad.block from fun ad e hp => by
        have h1 := hfr ad m.length mc (by rw [e])
        obtain ⟨b', o', e2, h2, _⟩ := hrs.cells hp
        rw [e] at e2
        cases e2
        refine ⟨h2, fun e3 => ?_⟩
        have := (HJ.out.1.lt _ e3).2
        have := HK2.out.size
        simp only at *
        omega)
      have hml := HUB.out.1
      have hlen1 : m.length ≤ 1000 := by omega
      clear hrs hle hnl hN hin hfr k3 HOF
      have hk16 : k ≤ 1000 := by omega
      have hBs : WA.heap.size ≤ w3.heap.size := by have := HJ.out.2.1.size; have := HK3.out.size; omega
      go_wp2_with (at_builtin; refine wpList_pushE _ rfl _ _ rfl WA.heap.size (.slice va k vc) f k nv rfl ((HJ.out.1.kept HK3.out).kept ((Kept.refl w3).alloc _)) (by simp; omega) w3.heap.size ma mc m rfl (by simp) ⟨HST.out.1.kept ((Kept.refl w3).alloc _), HST.out.2⟩ (fun ad e hp => ⟨by have := (HFR.out ad e hp).1; simp; omega, (HFR.out ad e hp).2⟩) hk16 ?_)
      intro g4 cap4 w4 o4 k4
      have HO4 := hidMk o4
      have HK4 := hidMk (show Kept WA w4 from k4.kept ((HJ.out.2.1.trans HK3.out).alloc _) (fun j hj => (HJ.out.1.lt j hj).1))
      clear o4 k4
      go_wp2_with fail
      go_roundg (gk - 1)
      case measure => have := HKG.out; omega
      case rel =>
        refine ⟨k + 1, _, _, _, _, by have := HKG.out; omega, by go_num, rfl, hidMk ⟨by rw [hAs]; exact HO4.out, HK4.out, fun i hi => ?_⟩⟩
        by_cases hik : i = k
        · subst hik
          simp only [if_true]
          rw [HXX.out]
          refine ⟨HNM.out, fun y => ?_, hlen1⟩
          rw [HIN.out y, ← HUL.out]
          exact ⟨fun h => h.1, fun h => ⟨h, (HUB.out.2 y h).2⟩⟩
        · simp only [if_neg hik]
          exact HJ.out.2.2 i (by omega)
    · have hk1 : ¬ ((k : Int) < l.length) := by omega
      obtain rfl : k = l.length := by omega
      have hcl := catL_len_le (f := f) (j := l.length) (fun i hi => (HJ.out.2.2 i hi).2.2)
      have hcm : ∀ r, r ∈ catL [] ((List.range l.length).map f) ↔ ∃ i, i < l.length ∧ r ∈ f i := fun r => by
        rw [catL_mem]
        simp only [List.mem_map, List.mem_range, List.not_mem_nil, false_or]
        exact ⟨fun ⟨t, ⟨i, hi, e⟩, hr⟩ => ⟨i, hi, by rw [e]; exact hr⟩, fun ⟨i, hi, hr⟩ => ⟨f i, ⟨i, hi, rfl⟩, hr⟩⟩
      have HJN := hidMk (show Calls Tryz.prog 64 #[.agg #[.slice none 0 0], .slice va l.length vc] wr (SetPost wr (regP ms ds l) 40000) from by
        have hj := region_Join (.agg #[.slice none 0 0]) [] va vc ((List.range l.length).map f) wr ⟨none, 0, rfl, ⟨fun hp => absurd hp (by simp)⟩, by simp, fun _ => ⟨rfl, rfl⟩⟩ HJ.out.1.sts
          (fun r hr => by obtain ⟨i, hi, h⟩ := (hcm r).1 hr; exact norm_okR (HJ.out.2.2 i hi).1 r h) (by omega) (by simp; omega)
        rw [List.length_map, List.length_range] at hj
        refine hj.mono ?_
        rintro e w' ⟨v', m, h1, h2, h3, h4, h5, h6, h7⟩
        refine ⟨v', m, h1, h2, h3, fun y => ?_, by omega, h6, h7⟩
        rw [h4 y]
        unfold regP
        constructor
        · rintro (h | ⟨t, ht, hy⟩)
          · exact absurd h (inR_nil y)
          · simp only [List.mem_map, List.mem_range] at ht
            obtain ⟨i, hi, rfl⟩ := ht
            exact ⟨i, hi, ((HJ.out.2.2 i hi).2.1 y).1 hy⟩
        · rintro ⟨i, hi, hy⟩
          exact .inr ⟨f i, by simp only [List.mem_map, List.mem_range]; exact ⟨i, hi, rfl⟩, ((HJ.out.2.2 i hi).2.1 y).2 hy⟩)
      have HKW := hidMk HJ.out.2.1
      have hr1 := HKW.out.cellp hA1
      have hr2 := (HKW.out.frozen (p := ⟨w.heap.size + 1, 0, none⟩) (show w.heap.size + 1 < WA.heap.size by omega)).trans hA2
      clear hcl hcm
      go_wp2_with fail
      refine HJN.out.mono ?_
      rintro e w5 ⟨v5, m5, rfl, hs5, hN5, hm5, hl5, k5, hf5⟩
      obtain ⟨a5, c5, rfl, hrs, hle, hnl⟩ := hs5
      have r1 := k5.cellp hr1
      have r2 := (k5.frozen (p := ⟨w.heap.size + 1, 0, none⟩) (cell_lt hr1)).trans hr2
      have HK5 := hidMk (show Kept w w5 from (HKA.out.trans HKW.out).trans k5)
      have H5 := hidMk hrs
      have HNN := hidMk hnl
      have HN5 := hidMk hN5
      have HM5 := hidMk hm5
      have HF5 := hidMk (show ∀ ad, a5 = some ad → w.heap.size + 2 ≤ ad.block from fun ad e => by
        have h1 := hf5 ad m5.length c5 (by rw [e])
        have h2 := HKW.out.size
        omega)
      clear hrs hnl hN5 hm5 hf5 k5 hr1 hr2 HJN
      go_wp2_with fail
      have c2 : Chg (· = w.heap.size + 1) w5 (w5.setCell ⟨w.heap.size + 1, 0, none⟩ (.slice a5 m5.length c5)) := chg_set _ _ _ _
      exact set_ret1 rfl (w.heap.size + 1) (.slice a5 m5.length c5) _ rfl rfl r1 ⟨_, m5, rfl, ⟨a5, c5, rfl, H5.out.chg c2 (fun _ ad e f => by have := HF5.out ad e; omega), hle, HNN.out⟩, HN5.out, HM5.out, hl5, HK5.out.setCell (p := ⟨w.heap.size + 1, 0, none⟩) (Nat.le_add_right _ _) _, fun ad n c e => by simp at e; have := HF5.out ad e.1; omega⟩
end
end Go.Proofs.YtmedgkccicbieaaGreat
namespace Go.Proofs.YtmedgkccicbieaaGreat
open Go.RowKit Go.Maps
set_option linter.unusedSimpArgs false
set_option linter.unusedVariables false

def RiseC (f : Cl → Int) (l : List Cl) : Prop := ∀ i j, i < j → j < l.length → f (clA l i) < f (clA l j)
theorem riseC_pw {f : Cl → Int} {l : List Cl} : RiseC f l ↔ l.Pairwise (fun x y => f x < f y) := by
  rw [List.pairwise_iff_getElem]
  constructor
  · intro h i j hi hj hij
    have := h i j hij hj
    rwa [clA_get hi, clA_get hj] at this
  · intro h i j hij hj
    rw [clA_get hj, clA_get (by omega)]
    exact h i j (by omega) hj hij
theorem riseC_ext {f : Cl → Int} {l m : List Cl} (hl : RiseC f l) (hm : RiseC f m) (h : ∀ x, x ∈ l ↔ x ∈ m) : l = m := by
  have e : l.map f = m.map f := by
    refine rise_ext ?_ ?_ (fun z => ?_)
    · unfold Rise; rw [List.pairwise_map]; exact riseC_pw.1 hl
    · unfold Rise; rw [List.pairwise_map]; exact riseC_pw.1 hm
    · simp only [List.mem_map, h]
  have hlen : l.length = m.length := by simpa using congrArg List.length e
  apply List.ext_getElem hlen
  intro i h1 h2
  have ei : f l[i] = f m[i] := by
    have := List.getElem_map f (l := l) (i := i) (h := by simpa using h1)
    rw [← this]
    simp only [e, List.getElem_map]
  obtain ⟨j, hj, ej⟩ := List.getElem_of_mem ((h _).1 (List.getElem_mem h1))
  have hlt := riseC_pw.1 hm
  rw [List.pairwise_iff_getElem] at hlt
  rcases Nat.lt_trichotomy i j with hij | hij | hij
  · have := hlt i j h2 hj hij; rw [ej] at this; omega
  · subst hij; exact ej.symm
  · have := hlt j i hj h2 hij; rw [ej] at this; omega
theorem ixC_right {ms : List ByteArray} {ds : List Dm} {x : Cl} (h : 0 ≤ ixC ms ds x) : rightB ms ds x.1 (clT x) = true := by
  unfold ixC at h
  split at h
  · assumption
  · omega
theorem clT_at {ds : List Dm} {ms : List ByteArray} (h : Ct ds ms) {x : Cl} (hr : rightB ms ds x.1 (clT x) = true) : ∀ k, 0 ≤ clT x k ∧ clT x k < (many ds k : Int) := fun k => by
  by_cases hk : k < 4
  · exact (right_iff.1 hr).2 k hk
  · have e : clT x k = 0 := by
      unfold clT
      rw [List.getD_eq_getElem?_getD, List.getElem?_eq_none (by simp; omega)]
      rfl
    rw [e, many_out (by have := h.d4; omega)]
    omega
theorem ixC_inj {ds : List Dm} {ms : List ByteArray} (h : Ct ds ms) {x y : Cl} (hx : 0 ≤ ixC ms ds x) (e : ixC ms ds x = ixC ms ds y) : x = y := by
  have r1 := ixC_right hx
  have r2 := ixC_right (x := y) (by rw [← e]; exact hx)
  have p1 := parts_num (f := fun k => (many ds k : Int)) (right_iff.1 r1).1.1 (clT_at h r1)
  have p2 := parts_num (f := fun k => (many ds k : Int)) (right_iff.1 r2).1.1 (clT_at h r2)
  unfold ixC at e
  rw [if_pos r1, if_pos r2] at e
  rw [e] at p1
  have e0 : x.1 = y.1 := p1.1.symm.trans p2.1
  have ek : ∀ k, k < 4 → clT x k = clT y k := fun k hk => (p1.2 k hk).symm.trans (p2.2 k hk)
  rw [cl_eq]
  exact ⟨e0, ek 0 (by omega), ek 1 (by omega), ek 2 (by omega), ek 3 (by omega)⟩
theorem ins_is {f : Cl → Int} {l l' : List Cl} {x : Cl} (hr : RiseC f l) (hne : ∀ y, y ∈ l → f y ≠ f x) (h : InsC f l x l') : RiseC f l' ∧ (∀ y, y ∈ l' ↔ y = x ∨ y ∈ l) ∧ l'.length = l.length + 1 := by
  obtain ⟨i, hi, h1, h2, rfl⟩ := h
  have hm : ∀ y, y ∈ l ↔ y ∈ l.take i ∨ y ∈ l.drop i := fun y => by
    conv => lhs; rw [← List.take_append_drop i l]
    rw [List.mem_append]
  have ht : ∀ y, y ∈ l.take i → f y < f x := fun y hy => by
    obtain ⟨k, hk, rfl⟩ := List.getElem_of_mem hy
    rw [List.length_take] at hk
    rw [List.getElem_take, ← clA_get (by omega)]
    exact h1 k (by omega)
  have hd : ∀ y, y ∈ l.drop i → f x < f y := fun y hy => by
    have hy2 := (hm y).2 (.inr hy)
    obtain ⟨k, hk, rfl⟩ := List.getElem_of_mem hy
    rw [List.length_drop] at hk
    rw [List.getElem_drop] at hy2 ⊢
    have := h2 (i + k) (by omega) (by omega)
    rw [clA_get (by omega)] at this
    have := hne _ hy2
    omega
  refine ⟨?_, fun y => ?_, by simp; omega⟩
  · rw [riseC_pw] at hr ⊢
    rw [List.pairwise_append, List.pairwise_cons]
    refine ⟨hr.sublist (List.take_sublist _ _), ⟨fun y hy => hd y hy, hr.sublist (List.drop_sublist _ _)⟩, fun y hy z hz => ?_⟩
    rcases List.mem_cons.1 hz with rfl | hz
    · exact ht y hy
    · have := ht y hy; have := hd z hz; omega
  · rw [List.mem_append, List.mem_cons, hm]
    constructor
    · rintro (h | h | h)
      · exact .inr (.inl h)
      · exact .inl h
      · exact .inr (.inr h)
    · rintro (h | h | h)
      · exact .inr (.inl h)
      · exact .inl h
      · exact .inr (.inr h)
theorem drop_is {f : Cl → Int} {l : List Cl} {x : Cl} {i : Nat} (hr : RiseC f l) (hi : i < l.length) (he : clA l i = x) : RiseC f (l.take i ++ l.drop (i + 1)) ∧ (∀ y, y ∈ l.take i ++ l.drop (i + 1) ↔ y ∈ l ∧ y ≠ x) := by
  have hsub : (l.take i ++ l.drop (i + 1)).Sublist l := by
    conv => rhs; rw [← List.take_append_drop i l]
    refine List.Sublist.append_left ?_ _
    rw [List.drop_eq_getElem_cons hi]
    exact List.sublist_cons_self _ _
  refine ⟨riseC_pw.2 ((riseC_pw.1 hr).sublist hsub), fun y => ?_⟩
  have hd : l.drop i = x :: l.drop (i + 1) := by rw [List.drop_eq_getElem_cons hi, ← clA_get hi, he]
  have hpw := riseC_pw.1 hr
  rw [← List.take_append_drop i l, hd, List.pairwise_append, List.pairwise_cons] at hpw
  obtain ⟨_, ⟨h2, _⟩, h3⟩ := hpw
  constructor
  · intro hy
    refine ⟨hsub.subset hy, fun e => ?_⟩
    subst e
    rcases List.mem_append.1 hy with h | h
    · have := h3 y h y (List.mem_cons_self ..); omega
    · have := h2 y h; omega
  · rintro ⟨hy, hne⟩
    rw [← List.take_append_drop i l, hd, List.mem_append, List.mem_cons] at hy
    rw [List.mem_append]
    rcases hy with h | h | h
    · exact .inl h
    · exact absurd h hne
    · exact .inr h
/-- Cells that are held, by rising numbers. -/
structure Hd (w : World) (ms : List ByteArray) (ds : List Dm) (a : Option Addr) (c : Nat) (l : List Cl) : Prop where
  cq : Cq w a l
  le : l.length ≤ c
  nl : a = none → l = [] ∧ c = 0
  rs : RiseC (ixC ms ds) l
  ok : ∀ x, x ∈ l → 0 ≤ ixC ms ds x
  sm : l.length ≤ 16
  sp : ∀ ad, a = some ad → ad.spot = none
theorem Hd.kept {w w' : World} {ms : List ByteArray} {ds : List Dm} {a : Option Addr} {c : Nat} {l : List Cl} (h : Hd w ms ds a c l) (k : Kept w w') : Hd w' ms ds a c l := ⟨h.cq.kept k, h.le, h.nl, h.rs, h.ok, h.sm, h.sp⟩
theorem hd_nil (w : World) (ms : List ByteArray) (ds : List Dm) : Hd w ms ds none 0 [] := ⟨⟨fun hp => absurd hp (by simp)⟩, by simp, fun _ => ⟨rfl, rfl⟩, fun i j _ hj => absurd hj (by simp), fun x hx => (by cases hx), by simp, fun ad e => (by cases e)⟩
theorem OwnQ.le {w : World} {B : Nat} {a : Option Addr} {n c : Nat} {l : List Cl} (h : OwnQ w B (.slice a n c) l) : l.length ≤ c := by
  obtain ⟨_, ⟨h1, hz⟩ | ⟨g, cap, cur, h1, hb, hheap, hc, _⟩⟩ := h
  · rw [hz]; exact Nat.zero_le _
  · cases h1; exact hc
theorem OwnQ.sp {w : World} {B : Nat} {a : Option Addr} {n c : Nat} {l : List Cl} (h : OwnQ w B (.slice a n c) l) : ∀ ad, a = some ad → ad.spot = none := by
  obtain ⟨_, ⟨h1, hz⟩ | ⟨g, cap, cur, h1, _⟩⟩ := h
  · cases h1; intro ad e; cases e
  · cases h1; intro ad e; cases e; rfl
theorem OwnQ.fr {w : World} {B : Nat} {a : Option Addr} {n c : Nat} {l : List Cl} (h : OwnQ w B (.slice a n c) l) : ∀ ad, a = some ad → B ≤ ad.block := by
  obtain ⟨_, ⟨h1, hz⟩ | ⟨g, cap, cur, h1, hb, _⟩⟩ := h
  · cases h1; intro ad e; cases e
  · cases h1; intro ad e; cases e; exact hb
/-- Why a cell can not be added; why one can not be dropped. -/
def addE (ms : List ByteArray) (ds : List Dm) (l : List Cl) (x : Cl) : Int := if ixC ms ds x < 0 then 17 else if x ∈ l then 4 else if 16 ≤ l.length then 14 else 0
def dropE (ms : List ByteArray) (ds : List Dm) (l : List Cl) (x : Cl) : Int := if ixC ms ds x < 0 then 17 else if x ∈ l then 0 else 10
def AddP (w : World) (ms : List ByteArray) (ds : List Dm) (l : List Cl) (x : Cl) (e : Ending) (w' : World) : Prop :=
  ∃ a' c' l', e = .returned (.tuple #[hdV a' l'.length c', .int .i64 (addE ms ds l x)]) ∧ Hd w' ms ds a' c' l' ∧ (∀ y, y ∈ l' ↔ addE ms ds l x = 0 ∧ (y = x ∨ y ∈ l)) ∧ (addE ms ds l x = 0 → l'.length = l.length + 1) ∧ Kept w w' ∧ ∀ ad, a' = some ad → w.heap.size ≤ ad.block
def DropP (w : World) (ms : List ByteArray) (ds : List Dm) (l : List Cl) (x : Cl) (e : Ending) (w' : World) : Prop :=
  ∃ a' c' l', e = .returned (.tuple #[hdV a' l'.length c', .int .i64 (dropE ms ds l x)]) ∧ Hd w' ms ds a' c' l' ∧ (∀ y, y ∈ l' ↔ dropE ms ds l x = 0 ∧ y ∈ l ∧ y ≠ x) ∧ Kept w w' ∧ ∀ ad, a' = some ad → w.heap.size ≤ ad.block
section
variable {w : World} {s p : Nat} {ds : List Dm} {ms : List ByteArray} {tp : Nat → Nat} {rv : Nat → Option Addr × Nat}
theorem hd_Add (h : SW w s p ds ms tp rv) {a : Option Addr} {c : Nat} {l : List Cl} (hd : Hd w ms ds a c l) (x : Cl) :
    Calls Tryz.prog 12 #[hdV a l.length c, .pointer (some ⟨s, 0, none⟩), clV x] w (AddP w ms ds l x) := by
  have hsm := hd.sm
  have no : ∀ (y : Cl) (k : Int), k ≠ 0 → (y ∈ ([] : List Cl) ↔ k = 0 ∧ (y = x ∨ y ∈ l)) := fun y k hk => by simp [hk]
  by_cases h1 : ixC ms ds x < 0
  · refine (hold_Add_range h a c l x hd.cq (by omega) h1).mono ?_
    rintro e w' ⟨rfl, k⟩
    have e : addE ms ds l x = 17 := if_pos h1
    exact ⟨none, 0, [], by rw [e]; rfl, hd_nil _ _ _, fun y => by rw [e]; exact no y 17 (by decide), fun q => (by rw [e] at q; cases q), k, fun ad e => (by cases e)⟩
  by_cases h2 : x ∈ l
  · refine (hold_Add_twice h a c l x hd.cq (by omega) h1 h2).mono ?_
    rintro e w' ⟨rfl, k⟩
    have e : addE ms ds l x = 4 := by unfold addE; rw [if_neg h1, if_pos h2]
    exact ⟨none, 0, [], by rw [e]; rfl, hd_nil _ _ _, fun y => by rw [e]; exact no y 4 (by decide), fun q => (by rw [e] at q; cases q), k, fun ad e => (by cases e)⟩
  by_cases h3 : 16 ≤ l.length
  · refine (hold_Add_full h a c l x hd.cq (by omega) h1 h2 h3).mono ?_
    rintro e w' ⟨rfl, k⟩
    have e : addE ms ds l x = 14 := by unfold addE; rw [if_neg h1, if_neg h2, if_pos h3]
    exact ⟨none, 0, [], by rw [e]; rfl, hd_nil _ _ _, fun y => by rw [e]; exact no y 14 (by decide), fun q => (by rw [e] at q; cases q), k, fun ad e => (by cases e)⟩
  have e0 : addE ms ds l x = 0 := by unfold addE; rw [if_neg h1, if_neg h2, if_neg h3]
  have fin : ∀ e w', HdAdd w (ixC ms ds) l x e w' → AddP w ms ds l x e w' := by
    rintro e w' ⟨v, l', rfl, hi, ho, k⟩
    obtain ⟨r1, r2, r3⟩ := ins_is hd.rs (fun y hy q => h2 (by rw [← ixC_inj h.ct (hd.ok y hy) q]; exact hy)) hi
    obtain ⟨a', c', rfl, hq, hn⟩ := ho.form
    refine ⟨a', c', l', by rw [e0]; rfl, ⟨hq, ho.le, hn, r1, fun y hy => ?_, by omega, ho.sp⟩, fun y => by rw [e0, r2]; simp, fun _ => r3, k, ho.fr⟩
    rcases (r2 y).1 hy with rfl | hy
    · omega
    · exact hd.ok y hy
  cases a with
  | none =>
    obtain ⟨rfl, rfl⟩ := hd.nl rfl
    exact (hold_Add_none h x h1).mono fin
  | some ad =>
    obtain ⟨b, o, spot⟩ := ad
    obtain rfl : spot = none := hd.sp _ rfl
    exact (hold_Add_some h b o c l x hd.cq hd.le hd.rs h1 h2 (by omega)).mono fin
theorem hd_Drop (h : SW w s p ds ms tp rv) {a : Option Addr} {c : Nat} {l : List Cl} (hd : Hd w ms ds a c l) (x : Cl) :
    Calls Tryz.prog 10 #[hdV a l.length c, .pointer (some ⟨s, 0, none⟩), clV x] w (DropP w ms ds l x) := by
  have hsm := hd.sm
  have no : ∀ (y : Cl) (k : Int), k ≠ 0 → (y ∈ ([] : List Cl) ↔ k = 0 ∧ y ∈ l ∧ y ≠ x) := fun y k hk => by simp [hk]
  by_cases h1 : ixC ms ds x < 0
  · refine (hold_Drop_range h a c l x hd.cq (by omega) h1).mono ?_
    rintro e w' ⟨rfl, k⟩
    have e : dropE ms ds l x = 17 := if_pos h1
    exact ⟨none, 0, [], by rw [e]; rfl, hd_nil _ _ _, fun y => by rw [e]; exact no y 17 (by decide), k, fun ad e => (by cases e)⟩
  by_cases h2 : x ∈ l
  · have e0 : dropE ms ds l x = 0 := by unfold dropE; rw [if_neg h1, if_pos h2]
    obtain ⟨b, o, rfl⟩ := hd.cq.form (List.length_pos_of_mem h2)
    refine (hold_Drop_some h b o c l x hd.cq (by omega) hd.le h1 h2).mono ?_
    rintro e w' ⟨v, i, rfl, _, hi, he, ho, k⟩
    obtain ⟨r1, r2⟩ := drop_is hd.rs hi he
    obtain ⟨a', c', rfl, hq, hn⟩ := ho.form
    refine ⟨a', c', l.take i ++ l.drop (i + 1), by rw [e0]; rfl, ⟨hq, ho.le, hn, r1, fun y hy => hd.ok y ((r2 y).1 hy).1, by simp; omega, ho.sp⟩, fun y => by rw [e0, r2]; simp, k, ho.fr⟩
  · refine (hold_Drop_none h a c l x hd.cq (by omega) h1 h2).mono ?_
    rintro e w' ⟨rfl, k⟩
    have e : dropE ms ds l x = 10 := by unfold dropE; rw [if_neg h1, if_neg h2]
    exact ⟨none, 0, [], by rw [e]; rfl, hd_nil _ _ _, fun y => by rw [e]; exact no y 10 (by decide), k, fun ad e => (by cases e)⟩
end
end Go.Proofs.YtmedgkccicbieaaGreat
