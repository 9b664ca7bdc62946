/- The definition's Bare. · The definition's write. -/
import Derived.Test.YtpehinmckppjoaaGreatDoorWPsN7
import Derived.Test.YtpehinmckppjoaaGreatDoorWPsTB
import Derived.Laws.Concat
namespace Go.Proofs.YtpehinmckppjoaaGreatDoor
open Go.RowKit Go.Maps
set_option linter.unusedSimpArgs false
set_option linter.unusedVariables false

/-- A command, and what is kept of it, in memory. -/
structure BS (W wr : World) (px py pt : Nat) (x y : Cm) : Prop where
  kept : Kept W wr
  lo : W.heap.size ≤ py ∧ W.heap.size ≤ pt
  ne : px ≠ py ∧ pt ≠ py
  x : ∀ j u, (cmL x)[j]? = some u → wr.cell? ⟨px, j, none⟩ = some u
  y : ∀ j u, (cmL y)[j]? = some u → wr.cell? ⟨py, j, none⟩ = some u
  fy : ∀ j, j < 12 → wr.frozen? ⟨py, j, none⟩ = false
  t : wr.there pt 0 12
theorem BS.set {W wr : World} {px py pt : Nat} {x y : Cm} (h : BS W wr px py pt x y) {y' : Cm} {o : Nat} {v : Value} (ho : o < 12) (hy : cmL y' = (cmL y).set o v) : BS W (wr.setCell ⟨py, o, none⟩ v) px py pt x y' := by
  have hn := h.ne
  have hl := h.lo
  refine ⟨h.kept.setCell (p := ⟨py, o, none⟩) hl.1 _, hl, hn, fun j u hu => so (h.x j u hu) (by intro e; simp only [Addr.mk.injEq] at e; exact hn.1 e.1.symm), fun j u hu => ?_, fun j hj => ?_, there_chg h.t ((Chg.refl (· = py) wr).setCell (p := ⟨py, o, none⟩) (.inl rfl) v) (fun e => hn.2 e)⟩
  · have hlen : (cmL y).length = 12 := rfl
    rw [hy, List.getElem?_set] at hu
    by_cases e : o = j
    · subst e
      rw [if_pos rfl, if_pos (by omega)] at hu
      cases hu
      obtain ⟨u0, hu0⟩ : ∃ u0, (cmL y)[o]? = some u0 := ⟨_, List.getElem?_eq_getElem (by omega)⟩
      exact World.cell?_setCell_same _ _ _ (h.y o u0 hu0)
    · rw [if_neg e] at hu
      exact so (h.y j u hu) (by intro e'; simp only [Addr.mk.injEq] at e'; exact e e'.2.1)
  · rw [World.frozen?_setCell]; exact h.fy j hj
theorem cm_row (w : World) (x : Cm) (t : TypeId) (b : Nat) (hb : b = w.heap.size) : (∀ j u, (cmL x)[j]? = some u → (w.alloc (.cells (cmL x).toArray t)).cell? ⟨b, j, none⟩ = some u) ∧ ∀ j, (w.alloc (.cells (cmL x).toArray t)).frozen? ⟨b, j, none⟩ = false := by
  subst hb
  refine ⟨fun j u hu => ?_, fun j => World.frozen?_alloc_at _ _ _ _ rfl⟩
  rw [cell_of_row _ _ j _ _ _ (heap_new w (cmL x).toArray t), ← hu]
  simp
set_option maxHeartbeats 2000000 in
set_option maxRecDepth 100000 in
theorem q_Bare (W : World) (x : Cm) : Calls Tryz.prog 17 #[cmV x] W fun e w' => e = .returned (cmV (bareP x)) ∧ Kept W w' := by
  obtain ⟨R, hR⟩ : ∃ R, bareP x = R := ⟨_, rfl⟩
  rw [hR]
  have HR := hidMk (show (shapeL x.k).foldl (bareO x) { cm0 with k := x.k } = R from hR)
  have HLD := hidMk (fun (y : World) b (hy : y.there b 0 12) x => load_set hy x)
  have HSH := hidMk (fun y => q_shape y x.k)
  have HSB := hidMk (sh_bat x.k)
  have HLT := hidMk (lastC_let _ (shape_last x.k))
  have HS5 := hidMk (show (shapeL x.k).length ≤ 5 from by rcases shape_cases x.k with h | h | h | h | h | h | h | h | h <;> rw [h] <;> decide)
  have hsz := (HSB.out 0).2
  have HW0 := hidMk (show BS W (((W.alloc (.cells (cmL x).toArray 35)).alloc (.cells (cmL cm0).toArray 35)).alloc (.cells (cmL { cm0 with k := x.k }).toArray 35)) W.heap.size (W.heap.size + 2) (W.heap.size + 1) x { cm0 with k := x.k } from by
    have h1 := cm_row W x 35 _ rfl
    have h3 := cm_row ((W.alloc (.cells (cmL x).toArray 35)).alloc (.cells (cmL cm0).toArray 35)) { cm0 with k := x.k } 35 (W.heap.size + 2) (by simp)
    have h2 := there_new (W.alloc (.cells (cmL x).toArray 35)) cm0 35
    rw [show (W.alloc (.cells (cmL x).toArray 35)).heap.size = W.heap.size + 1 by simp] at h2
    exact ⟨(((Kept.refl W).alloc _).alloc _).alloc _, ⟨by omega, by omega⟩, ⟨by omega, by omega⟩, fun j u hu => (((Kept.refl _).alloc _).alloc _).cellp (h1.1 j u hu), h3.1, fun j _ => h3.2 j, there_chg (S := fun _ => False) h2 (Chg.of_kept ((Kept.refl _).alloc _)) (fun e => e)⟩)
  have hbt := fun i => (HSB.out i).1
  have HBT := hidMk hbt
  clear hR hbt
  obtain ⟨k, u, sc, o, c0, c1, c2, c3, c4, n, h, m⟩ := x
  unfold cmV cmL
  simp only at HSH hsz HR HBT HLT HS5 ⊢
  go_enter Tryz.func17, Tryz.ntmps17
  go_wp2_with fail
  refine (HSH.out _).mono ?_
  rintro e w1 ⟨rfl, hw1⟩
  rw [hw1]
  clear hw1 w1
  have HW := HW0.out
  clear HW0
  obtain ⟨w2, hw2⟩ : ∃ w2, w2 = (((W.alloc (.cells (cmL ⟨k, u, sc, o, c0, c1, c2, c3, c4, n, h, m⟩).toArray 35)).alloc (.cells (cmL cm0).toArray 35)).alloc (.cells (cmL { cm0 with k := k }).toArray 35)) := ⟨_, rfl⟩
  have HW2 := hidMk (show BS W w2 W.heap.size (W.heap.size + 2) (W.heap.size + 1) ⟨k, u, sc, o, c0, c1, c2, c3, c4, n, h, m⟩ { cm0 with k := k } by rw [hw2]; exact HW)
  simp only [cmL, cm0] at hw2
  rw [← hw2]
  clear HW hw2
  generalize W.heap.size + 2 = py at *
  generalize W.heap.size + 1 = pt at *
  generalize W.heap.size = px at *
  generalize hsh : shapeL k = bs at *
  go_wp2_with fail
  go_loopg [5] bs.length (fun gg z wr => ∃ (i : Nat) (y : Cm), i + gg = bs.length ∧ z = .int .i64 i ∧ Hid (BS W wr px py pt ⟨k, u, sc, o, c0, c1, c2, c3, c4, n, h, m⟩ y) ∧ Hid ((bs.drop i).foldl (bareO ⟨k, u, sc, o, c0, c1, c2, c3, c4, n, h, m⟩) y = R))
  case atStart => exact ⟨0, _, by omega, rfl, HW2, HR⟩
  case round =>
    obtain ⟨i, y, hkg, rfl, HB, HF⟩ := hrel
    have HKG := hidMk hkg
    by_cases hi : i < bs.length
    · have hi1 : (i : Int) < ((shS k).size : Int) := by rw [hsz]; omega
      have HG1 := hidMk (show 1 ≤ gk by omega)
      have hi5 : (i : Int) ≤ 5 := by have := HS5.out; omega
      have hd : bs.drop i = bs.getD i 0 :: bs.drop (i + 1) := by rw [List.drop_eq_getElem_cons hi, List.getD_eq_getElem?_getD, List.getElem?_eq_getElem hi]; rfl
      have hlet : isLet (bs.getD i 0) := HLT.out _ (by rw [List.getD_eq_getElem?_getD, List.getElem?_eq_getElem hi]; exact List.getElem_mem hi)
      have HNX := hidMk (show (bs.drop (i + 1)).foldl (bareO ⟨k, u, sc, o, c0, c1, c2, c3, c4, n, h, m⟩) (bareO ⟨k, u, sc, o, c0, c1, c2, c3, c4, n, h, m⟩ y (bs.getD i 0)) = R from by have h := HF.out; rw [hd, List.foldl_cons] at h; exact h)
      have hru := fun w => run_at Tryz.underlying9 (shS k) .i64 i (by rw [hsz]; exact hi) w
      rw [HBT.out i] at hru
      have x1 : wr.cell? ⟨px, 1, none⟩ = some (.string u) := HB.out.x 1 _ rfl
      have x2 : wr.cell? ⟨px, 2, none⟩ = some (.string sc) := HB.out.x 2 _ rfl
      have x3 : wr.cell? ⟨px, 3, none⟩ = some (.string o) := HB.out.x 3 _ rfl
      have x4 : wr.cell? ⟨px, 4, none⟩ = some (.int .i64 c0) := HB.out.x 4 _ rfl
      have x5 : wr.cell? ⟨px, 5, none⟩ = some (.int .i64 c1) := HB.out.x 5 _ rfl
      have x6 : wr.cell? ⟨px, 6, none⟩ = some (.int .i64 c2) := HB.out.x 6 _ rfl
      have x7 : wr.cell? ⟨px, 7, none⟩ = some (.int .i64 c3) := HB.out.x 7 _ rfl
      have x8 : wr.cell? ⟨px, 8, none⟩ = some (.int .i64 c4) := HB.out.x 8 _ rfl
      have x9 : wr.cell? ⟨px, 9, none⟩ = some (.int .i64 n) := HB.out.x 9 _ rfl
      have x10 : wr.cell? ⟨px, 10, none⟩ = some (.int .i64 h) := HB.out.x 10 _ rfl
      have x11 : wr.cell? ⟨px, 11, none⟩ = some (.int .i64 m) := HB.out.x 11 _ rfl
      have y1 : wr.cell? ⟨py, 1, none⟩ = some (.string y.u) := HB.out.y 1 _ rfl
      have y2 : wr.cell? ⟨py, 2, none⟩ = some (.string y.s) := HB.out.y 2 _ rfl
      have y3 : wr.cell? ⟨py, 3, none⟩ = some (.string y.o) := HB.out.y 3 _ rfl
      have y4 : wr.cell? ⟨py, 4, none⟩ = some (.int .i64 y.c0) := HB.out.y 4 _ rfl
      have y5 : wr.cell? ⟨py, 5, none⟩ = some (.int .i64 y.c1) := HB.out.y 5 _ rfl
      have y6 : wr.cell? ⟨py, 6, none⟩ = some (.int .i64 y.c2) := HB.out.y 6 _ rfl
      have y7 : wr.cell? ⟨py, 7, none⟩ = some (.int .i64 y.c3) := HB.out.y 7 _ rfl
      have y8 : wr.cell? ⟨py, 8, none⟩ = some (.int .i64 y.c4) := HB.out.y 8 _ rfl
      have y9 : wr.cell? ⟨py, 9, none⟩ = some (.int .i64 y.n) := HB.out.y 9 _ rfl
      have y10 : wr.cell? ⟨py, 10, none⟩ = some (.int .i64 y.h) := HB.out.y 10 _ rfl
      have y11 : wr.cell? ⟨py, 11, none⟩ = some (.int .i64 y.m) := HB.out.y 11 _ rfl
      have f1 := HB.out.fy 1 (by omega)
      have f2 := HB.out.fy 2 (by omega)
      have f3 := HB.out.fy 3 (by omega)
      have f4 := HB.out.fy 4 (by omega)
      have f5 := HB.out.fy 5 (by omega)
      have f6 := HB.out.fy 6 (by omega)
      have f7 := HB.out.fy 7 (by omega)
      have f8 := HB.out.fy 8 (by omega)
      have f9 := HB.out.fy 9 (by omega)
      have f10 := HB.out.fy 10 (by omega)
      have f11 := HB.out.fy 11 (by omega)
      have z10 : ∀ v, (wr.setCell ⟨py, 10, none⟩ v).cell? ⟨px, 10, none⟩ = some (.int .i64 h) := fun v => so x10 (by intro e; simp only [Addr.mk.injEq] at e; exact HB.out.ne.1 e.1.symm)
      clear hd hkg HF
      generalize bs.getD i 0 = b at *
      rcases hlet with rfl | rfl | rfl | rfl | rfl | rfl | rfl | rfl
      · go_wp2_with fail
        go_roundg (gk - 1)
        case measure => have := HKG.out; have := HG1.out; omega
        case rel => exact ⟨i + 1, _, by have := HKG.out; have := HG1.out; omega, by go_num, hidMk (HB.out.set (o := 1) (by omega) rfl), HNX⟩
      · go_wp2_with fail
        go_roundg (gk - 1)
        case measure => have := HKG.out; have := HG1.out; omega
        case rel => exact ⟨i + 1, _, by have := HKG.out; have := HG1.out; omega, by go_num, hidMk (HB.out.set (o := 2) (by omega) rfl), HNX⟩
      · go_wp2_with fail
        go_roundg (gk - 1)
        case measure => have := HKG.out; have := HG1.out; omega
        case rel => exact ⟨i + 1, _, by have := HKG.out; have := HG1.out; omega, by go_num, hidMk (HB.out.set (o := 3) (by omega) rfl), HNX⟩
      · go_wp2_with fail
        go_roundg (gk - 1)
        case measure => have := HKG.out; have := HG1.out; omega
        case rel => exact ⟨i + 1, _, by have := HKG.out; have := HG1.out; omega, by go_num, hidMk ((((((HB.out.set (o := 4) (y' := { y with c0 := c0 }) (v := .int .i64 c0) (by omega) rfl).set (o := 5) (y' := { y with c0 := c0, c1 := c1 }) (v := .int .i64 c1) (by omega) rfl).set (o := 6) (y' := { y with c0 := c0, c1 := c1, c2 := c2 }) (v := .int .i64 c2) (by omega) rfl).set (o := 7) (y' := { y with c0 := c0, c1 := c1, c2 := c2, c3 := c3 }) (v := .int .i64 c3) (by omega) rfl).set (o := 8) (y' := { y with c0 := c0, c1 := c1, c2 := c2, c3 := c3, c4 := c4 }) (v := .int .i64 c4) (by omega) rfl)), HNX⟩
      · go_wp2_with fail
        go_roundg (gk - 1)
        case measure => have := HKG.out; have := HG1.out; omega
        case rel => exact ⟨i + 1, _, by have := HKG.out; have := HG1.out; omega, by go_num, hidMk (HB.out.set (o := 9) (by omega) rfl), HNX⟩
      · by_cases hw : h = 2
        · subst hw
          have HN2 := hidMk (show (bs.drop (i + 1)).foldl (bareO ⟨k, u, sc, o, c0, c1, c2, c3, c4, n, 2, m⟩) { y with h := 2, m := m } = R from HNX.out)
          go_wp2_with fail
          go_roundg (gk - 1)
          case measure => have := HKG.out; have := HG1.out; omega
          case rel => exact ⟨i + 1, _, by have := HKG.out; have := HG1.out; omega, by go_num, hidMk ((HB.out.set (o := 10) (y' := { y with h := 2 }) (v := .int .i64 2) (by omega) rfl).set (o := 11) (y' := { y with h := 2, m := m }) (by omega) rfl), HN2⟩
        · have hb : (h == 2) = false := by simpa using hw
          have hbd : decide (h = 2) = false := by simpa using hw
          have HN2 := hidMk (show (bs.drop (i + 1)).foldl (bareO ⟨k, u, sc, o, c0, c1, c2, c3, c4, n, h, m⟩) { y with h := h } = R from by have h9 := HNX.out; rw [show bareO ⟨k, u, sc, o, c0, c1, c2, c3, c4, n, h, m⟩ y 104 = { y with h := h } from by unfold bareO; rw [if_neg (by decide), if_neg (by decide), if_neg (by decide), if_pos rfl]; exact if_neg hw] at h9; exact h9)
          go_wp2_with fail
          go_roundg (gk - 1)
          case measure => have := HKG.out; have := HG1.out; omega
          case rel => exact ⟨i + 1, _, by have := HKG.out; have := HG1.out; omega, by go_num, hidMk (HB.out.set (o := 10) (y' := { y with h := h }) (by omega) rfl), HN2⟩
      · go_wp2_with fail
        go_roundg (gk - 1)
        case measure => have := HKG.out; have := HG1.out; omega
        case rel => exact ⟨i + 1, _, by have := HKG.out; have := HG1.out; omega, by go_num, hidMk (HB.out.set (o := 10) (by omega) rfl), HNX⟩
      · go_wp2_with fail
        go_roundg (gk - 1)
        case measure => have := HKG.out; have := HG1.out; omega
        case rel => exact ⟨i + 1, _, by have := HKG.out; have := HG1.out; omega, by go_num, hidMk (HB.out.set (o := 11) (by omega) rfl), HNX⟩
    · have hi1 : ¬ (i : Int) < ((shS k).size : Int) := by rw [hsz]; omega
      have hff := HF.out
      rw [List.drop_eq_nil_of_le (by omega)] at hff
      simp only [List.foldl_nil] at hff
      subst hff
      obtain ⟨cl, hcl⟩ : ∃ cl, cmL y = cl := ⟨_, rfl⟩
      have HRX := hidMk (show wr.rangeAt py 0 cl from fun j v hv => by rw [Nat.zero_add]; exact HB.out.y j v (hcl ▸ hv))
      obtain ⟨dd, hd1, hd2, hd3⟩ := cmd_type
      have HCS := hidMk (show (cl.length = 12 ∧ cl.toArray.all (·.oneCell') = true) from by rw [← hcl]; exact ⟨rfl, cm_one _⟩)
      have HT3 := hidMk (show wr.there pt 0 cl.toArray.size from by
        have e : cl.toArray.size = 12 := by rw [List.size_toArray, HCS.out.1]
        rw [e]
        exact HB.out.t)
      have HSI2 := hidMk (show (Tryz.prog.info? 35).map (·.size) = some cl.toArray.size from by rw [List.size_toArray, HCS.out.1]; exact hd3)
      have HLX := hidMk (show (loadVar 35 ⟨pt, 0, none⟩).run Tryz.prog (wr.setCells pt 0 cl) = .ok (cmV y) (wr.setCells pt 0 cl) from by rw [← hcl]; exact HLD.out _ _ HB.out.t y)
      have HTY := hidMk (And.intro hd1 (And.intro hd2 hd3))
      clear hd1 hd2 hd3 hcl hkg
      go_wp2_with (first | (refine wpList_load_mid rfl 35 _ rfl py 0 rfl cl dd HRX.out HTY.out.1 HTY.out.2.1 (by rw [HCS.out.1]; exact HTY.out.2.2) ?_) | (refine wpList_store_mid rfl 35 _ _ rfl pt 0 cl.toArray rfl rfl HT3.out HSI2.out HCS.out.2 ?_))
      refine bodyPost_ret (results_cell1 rfl _ _ pt _ rfl HLX.out) rfl ?_
      exact ⟨rfl, kept_setCells HB.out.lo.2 cl 0 _ HB.out.kept⟩
end Go.Proofs.YtpehinmckppjoaaGreatDoor
namespace Go.Proofs.YtpehinmckppjoaaGreatDoor
open Go.RowKit Go.Maps
set_option linter.unusedSimpArgs false
set_option linter.unusedVariables false

def emptyB : ByteArray := ⟨#[]⟩
def wgtB : ByteArray := ⟨#[119, 101, 105, 103, 104, 116, 32]⟩
/-- What the definition puts for a field; none: nothing. -/
def refO (ms : List ByteArray) (ds : List Dm) (x : Cm) (b : Int) : Option ByteArray :=
  if b = 117 ∨ b = 115 ∨ b = 111 then some (getT b x) else if b = 99 then some (if rightB ms ds x.c0 (atC x) = true then cellW ms ds x else emptyB) else if b = 110 then some (numS x.n)
  else if b = 104 then (if x.h = 0 then none else some (if x.h = 1 then ⟨#[112, 114, 111, 112]⟩ else if x.h = 2 ∧ 0 ≤ x.m ∧ x.m < ms.length then wgtB ++ msA ms x.m.toNat else emptyB))
  else if b = 109 then (if x.h = 0 then none else some (if x.h = 1 then ⟨#[111, 117, 114, 115]⟩ else if x.h = 2 then ⟨#[116, 104, 101, 105, 114, 115]⟩ else emptyB))
  else some (if 0 ≤ x.m ∧ x.m < ds.length then dmN ds x.m.toNat else emptyB)
def refZ (ms : List ByteArray) (ds : List Dm) (x : Cm) (z : ByteArray) (b : Int) : ByteArray := match refO ms ds x b with
  | none => z
  | some t => z ++ blankB ++ t
def refS (ms : List ByteArray) (ds : List Dm) (x : Cm) : ByteArray := (shapeL x.k).foldl (refZ ms ds x) (kwI x.k)
theorem bapp (a b c : ByteArray) : a ++ b ++ c = a ++ (b ++ c) := data_inj (by simp only [ByteArray.data_append, Array.toList_append, List.append_assoc])
section
variable {ms : List ByteArray} {ds : List Dm} {x : Cm}
theorem refZ_none {z : ByteArray} {b : Int} (h : refO ms ds x b = none) : refZ ms ds x z b = z := by unfold refZ; rw [h]
theorem refZ_some {z t : ByteArray} {b : Int} (h : refO ms ds x b = some t) : refZ ms ds x z b = z ++ blankB ++ t := by unfold refZ; rw [h]
theorem refZ_words {b : Int} (hb : isLet b) {wb pre : List ByteArray} (hp : pre ≠ []) (h : oneW ms ds b x = some wb) : refZ ms ds x (joinB blankB pre) b = joinB blankB (pre ++ wb) := by
  have one : ∀ t, wb = [t] → refO ms ds x b = some t → refZ ms ds x (joinB blankB pre) b = joinB blankB (pre ++ wb) := fun t e h2 => by
    rw [refZ_some h2, e, joinB_snoc _ _ _ hp]
  have non : wb = [] → refO ms ds x b = none → refZ ms ds x (joinB blankB pre) b = joinB blankB (pre ++ wb) := fun e h2 => by
    rw [refZ_none h2, e, List.append_nil]
  have hch : ∀ ws k, chW ws k = some wb → (k = 0 ∧ wb = []) ∨ (0 < k ∧ k < ws.length ∧ wb = [msA ws k.toNat]) := fun ws k h => by
    unfold chW at h
    split at h
    · cases h; exact .inl ⟨by assumption, rfl⟩
    · obtain ⟨h0, h1, h2⟩ := pick_some h
      exact .inr ⟨by omega, h1, h2⟩
  rcases hb with rfl | rfl | rfl | rfl | rfl | rfl | rfl | rfl
  · rw [oneW_name (.inl rfl)] at h; split at h
    · cases h; exact one _ rfl rfl
    · cases h
  · rw [oneW_name (.inr (.inl rfl))] at h; split at h
    · cases h; exact one _ rfl rfl
    · cases h
  · rw [oneW_name (.inr (.inr rfl))] at h; split at h
    · cases h; exact one _ rfl rfl
    · cases h
  · rw [oneW_cell] at h; split at h
    · rename_i hr
      cases h
      refine one _ rfl ?_
      unfold refO; rw [if_neg (by decide), if_pos rfl, if_pos hr]
    · cases h
  · rw [oneW_num] at h; cases h; exact one _ rfl rfl
  · rw [oneW_how] at h
    have hO : refO ms ds x 104 = if x.h = 0 then none else some (if x.h = 1 then ⟨#[112, 114, 111, 112]⟩ else if x.h = 2 ∧ 0 ≤ x.m ∧ x.m < ms.length then wgtB ++ msA ms x.m.toNat else emptyB) := by
      unfold refO; rw [if_neg (by decide), if_neg (by decide), if_neg (by decide), if_pos rfl]
    obtain ⟨wa, wm, ha, hm, rfl⟩ := cat_some h
    have hl : spW.length = 3 := rfl
    unfold chW at ha
    split at ha
    · rename_i h0
      cases ha
      rw [if_neg (by omega)] at hm
      cases hm
      exact non rfl (by rw [hO, if_pos h0])
    · rename_i h0
      obtain ⟨p0, p1, rfl⟩ := pick_some ha
      rw [hl] at p1
      by_cases h1 : x.h = 1
      · rw [if_neg (by omega)] at hm
        cases hm
        refine one ⟨#[112, 114, 111, 112]⟩ (by rw [h1]; decide +kernel) (by rw [hO, if_neg h0, if_pos h1])
      · have h2 : x.h = 2 := by omega
        rw [if_pos h2] at hm
        obtain ⟨m0, m1, rfl⟩ := pick_some hm
        rw [refZ_some (t := wgtB ++ msA ms x.m.toNat) (by rw [hO, if_neg h0, if_neg h1, if_pos ⟨h2, m0, m1⟩]), h2]
        rw [← List.append_assoc, joinB_snoc _ _ _ (by simp), joinB_snoc _ _ _ hp]
        rw [show msA spW (2 : Int).toNat = ⟨#[119, 101, 105, 103, 104, 116]⟩ from rfl]
        rw [show wgtB = ⟨#[119, 101, 105, 103, 104, 116]⟩ ++ blankB from by decide +kernel]
        simp only [bapp]
  · rw [oneW_mt] at h
    have hO : refO ms ds x 109 = if x.h = 0 then none else some (if x.h = 1 then ⟨#[111, 117, 114, 115]⟩ else if x.h = 2 then ⟨#[116, 104, 101, 105, 114, 115]⟩ else emptyB) := by
      unfold refO; rw [if_neg (by decide), if_neg (by decide), if_neg (by decide), if_neg (by decide), if_pos rfl]
    have hl : mtW.length = 3 := rfl
    rcases hch _ _ h with ⟨h0, e⟩ | ⟨h0, h1, e⟩
    · exact non e (by rw [hO, if_pos h0])
    · rw [hl] at h1
      by_cases h2 : x.h = 1
      · rw [h2] at e
        exact one ⟨#[111, 117, 114, 115]⟩ e (by rw [hO, if_neg (by omega), if_pos h2])
      · have h3 : x.h = 2 := by omega
        rw [h3] at e
        exact one ⟨#[116, 104, 101, 105, 114, 115]⟩ e (by rw [hO, if_neg (by omega), if_neg h2, if_pos h3])
  · rw [oneW_dim] at h
    obtain ⟨h0, h1, rfl⟩ := pick_some h
    rw [lbl_len] at h1
    refine one _ rfl ?_
    unfold refO
    rw [if_neg (by decide), if_neg (by decide), if_neg (by decide), if_neg (by decide), if_neg (by decide), if_pos ⟨h0, h1⟩]
    exact congrArg some (lbl_get ds x.m.toNat (by omega)).symm
theorem refZ_fold : ∀ (bs : List Int), (∀ b ∈ bs, isLet b) → ∀ (m pre : List ByteArray), pre ≠ [] → foldW ms ds bs x = some m → bs.foldl (refZ ms ds x) (joinB blankB pre) = joinB blankB (pre ++ m)
  | [], _, m, pre, _, h => by unfold foldW at h; cases h; simp
  | b :: bs, hb, m, pre, hp, h => by
    unfold foldW at h
    obtain ⟨wa, wm, h1, h2, rfl⟩ := cat_some h
    rw [List.foldl_cons, refZ_words (hb b (List.mem_cons_self ..)) hp h1, refZ_fold bs (fun c hc => hb c (List.mem_cons_of_mem _ hc)) wm (pre ++ wa) (by simp [hp]) h2, List.append_assoc]
/-- The definition's line of a command that has one. -/
theorem refS_words {l : List ByteArray} (h : writeP ms ds x = some l) : refS ms ds x = joinB blankB l := by
  obtain ⟨_, m, hm, rfl⟩ := write_some h
  unfold refS
  have := refZ_fold (shapeL x.k) (lastC_let _ (shape_last _)) m [kwI x.k] (by simp) hm
  rw [joinB_one] at this
  exact this
/-- Commands that are not too long. -/
structure XSm (x : Cm) : Prop where
  u : x.u.size ≤ 500
  s : x.s.size ≤ 500
  o : x.o.size ≤ 500
  n : isI x.n
theorem refO_size (hok : CatOk ds ms) (hx : XSm x) {b : Int} {t : ByteArray} (h : refO ms ds x b = some t) : t.size ≤ 590 := by
  have h1 := hx.u
  have h2 := hx.s
  have h3 := hx.o
  have he : emptyB.size = 0 := rfl
  unfold refO at h
  split at h
  · cases h
    unfold getT
    split
    · omega
    · split <;> omega
  · split at h
    · cases h
      split
      · unfold cellW
        rw [joinB_size]
        have := hok.join_le x.c0 (atC x) ds.length (Nat.le_refl _)
        omega
      · omega
    · split at h
      · cases h
        have := numS_size x.n hx.n
        omega
      · split at h
        · split at h
          · cases h
          · cases h
            split
            · decide
            · split
              · rw [ByteArray.size_append]
                have := hok.mname x.m.toNat
                have : wgtB.size = 7 := rfl
                omega
              · omega
        · split at h
          · split at h
            · cases h
            · cases h
              split
              · decide
              · split
                · decide
                · omega
          · cases h
            split
            · rename_i hm
              have := name_12 (lbl_names hok (k := x.m.toNat) (by omega))
              omega
            · omega
theorem refZ_size (hok : CatOk ds ms) (hx : XSm x) (z : ByteArray) (b : Int) : (refZ ms ds x z b).size ≤ z.size + 591 := by
  cases h : refO ms ds x b with
  | none => rw [refZ_none h]; omega
  | some t =>
    rw [refZ_some h, ByteArray.size_append, ByteArray.size_append]
    have := refO_size hok hx h
    have : blankB.size = 1 := rfl
    omega
theorem refS_size (hok : CatOk ds ms) (hx : XSm x) : (refS ms ds x).size ≤ 4000 := by
  have hf : ∀ (bs : List Int) (z : ByteArray), (bs.foldl (refZ ms ds x) z).size ≤ z.size + 591 * bs.length := fun bs => by
    induction bs with
    | nil => intro z; simp
    | cons b bs ih =>
      intro z
      rw [List.foldl_cons]
      have h1 := ih (refZ ms ds x z b)
      have h2 := refZ_size hok hx z b
      rw [List.length_cons, Nat.mul_succ]
      omega
  have h1 := hf (shapeL x.k) (kwI x.k)
  have h2 : (shapeL x.k).length ≤ 5 := by rcases shape_cases x.k with h | h | h | h | h | h | h | h | h <;> rw [h] <;> decide
  have h3 : (kwI x.k).size ≤ 12 := by
    by_cases hk : (kwI x.k).size = 0
    · omega
    · exact name_12 (kw_all (kw_size.1 hk)).1
  unfold refS
  omega
end
end Go.Proofs.YtpehinmckppjoaaGreatDoor
