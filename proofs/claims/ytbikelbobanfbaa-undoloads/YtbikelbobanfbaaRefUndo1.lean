/- The definition's history. -/
import Derived.Test.YtbikelbobanfbaaUndo5
import Derived.Deep.RegionHeld3
namespace Go.Proofs.Ytbikelbobanfbaa
open Go.RowKit Go.Maps
set_option linter.unusedSimpArgs false
set_option linter.unusedVariables false

/-- The definition's history: block q with all that there is, and the place of what is now. -/
structure Rf (w : World) (q : Nat) (la : Option Addr) (lc : Nat) (L : List Int) (at_ : Nat) : Prop where
  c0 : w.cell? ⟨q, 0, none⟩ = some (.slice la L.length lc)
  c1 : w.cell? ⟨q, 1, none⟩ = some (.int .i64 (at_ : Int))
  z0 : w.frozen? ⟨q, 0, none⟩ = false
  z1 : w.frozen? ⟨q, 1, none⟩ = false
  sl : Sl .i64 w la L.length L
  ne : ∀ ad, la = some ad → ad.block ≠ q
  le : L.length ≤ lc
  lt : at_ < L.length
  sm : L.length ≤ 13
def RB (q : Nat) (la : Option Addr) (b : Nat) : Prop := b = q ∨ ∃ ad, la = some ad ∧ ad.block = b
section
variable {w w' : World} {q : Nat} {la : Option Addr} {lc : Nat} {L : List Int} {at_ : Nat}
theorem Rf.qlt (h : Rf w q la lc L at_) : q < w.heap.size := cell_lt h.c0
theorem Rf.row (h : Rf w q la lc L at_) : ∃ g o, la = some ⟨g, o, none⟩ ∧ g < w.heap.size ∧ ∀ j, j < L.length → w.cell? ⟨g, o + j, none⟩ = some (.int .i64 (L.getD j 0)) := h.sl.cells (by have := h.lt; omega)
theorem Rf.blt (h : Rf w q la lc L at_) : ∀ b, RB q la b → b < w.heap.size := by
  rintro b (rfl | ⟨ad, e, rfl⟩)
  · exact h.qlt
  · obtain ⟨g, o, e2, hg, _⟩ := h.row
    rw [e2] at e
    cases e
    exact hg
theorem Rf.chg {S : Nat → Prop} (h : Rf w q la lc L at_) (k : Chg S w w') (hs : ∀ b, RB q la b → ¬ S b) : Rf w' q la lc L at_ := by
  have h0 : ¬ S q := hs q (.inl rfl)
  have hl := h.qlt
  exact ⟨k.cellp h.c0 h0, k.cellp h.c1 h0, (k.frozen (p := ⟨q, 0, none⟩) hl h0).trans h.z0, (k.frozen (p := ⟨q, 1, none⟩) hl h0).trans h.z1, h.sl.chg k (fun _ ad e => hs _ (.inr ⟨ad, e, rfl⟩)), h.ne, h.le, h.lt, h.sm⟩
theorem Rf.kept (h : Rf w q la lc L at_) (k : Kept w w') : Rf w' q la lc L at_ := h.chg (Chg.of_kept (S := fun _ => False) k) (fun _ _ e => e)
theorem Rf.setAt (h : Rf w q la lc L at_) (k : Nat) (hk : k < L.length) : Rf (w.setCell ⟨q, 1, none⟩ (.int .i64 (k : Int))) q la lc L k := by
  have hc : Chg (· = q) w (w.setCell ⟨q, 1, none⟩ (.int .i64 (k : Int))) := (Chg.refl (· = q) w).setCell (p := ⟨q, 1, none⟩) (.inl rfl) _
  exact ⟨(World.cell?_setCell_other _ _ _ _ (by simp)).trans h.c0, World.cell?_setCell_same _ _ _ h.c1, by simpa using h.z0, by simpa using h.z1, h.sl.chg hc (fun _ ad e => h.ne ad e), h.ne, h.le, hk, h.sm⟩
end
theorem r18_New (x : Int) (w : World) : Calls Try.prog 8 #[.int .i64 x] w fun e w' => e = .returned (.pointer (some ⟨w.heap.size + 1, 0, none⟩)) ∧ Rf w' (w.heap.size + 1) (some ⟨w.heap.size, 0, none⟩) 1 [x] 0 ∧ Kept w w' := by
  go_enter Try.func8, Try.ntmps8
  go_wp2
  go_ret
  refine ⟨rfl, ⟨by simp, by simp, by simp, by simp, ?_, ?_, by simp, by simp, by simp⟩, ((Kept.refl w).alloc _).alloc _⟩
  · exact (sl_new .i64 w [x] 3 (by unfold maxLen; simp)).kept ((Kept.refl _).alloc _)
  · intro ad e
    cases e
    simp
theorem r18_Undo {w : World} {q : Nat} {la : Option Addr} {lc : Nat} {L : List Int} {at_ : Nat} (h : Rf w q la lc L (at_ + 1)) :
    Calls Try.prog 14 #[.pointer (some ⟨q, 0, none⟩)] w fun e w' => e = .returned (.tuple #[.int .i64 (L.getD at_ 0), .int .i64 0]) ∧ Rf w' q la lc L at_ ∧ Chg (· = q) w w' := by
  have hq := h.qlt
  have hlt := h.lt
  have hsm := h.sm
  have d0 := h.c0
  have d1 := h.c1
  rw [show ((at_ + 1 : Nat) : Int) = (at_ : Int) + 1 from rfl] at d1
  have z1 := h.z1
  obtain ⟨g, o, rfl, hg, hcs⟩ := h.row
  have hc := hcs at_ (by omega)
  have hgq : g ≠ q := h.ne _ rfl
  have HF := hidMk (h.setAt at_ (by omega))
  have hnz : ¬ ((at_ : Int) + 1 = 0) := by omega
  have hw : IntKind.i64.wrap ((at_ : Int) + 1 - 1) = (at_ : Int) := by rw [IntKind.wrap_i64]; omega
  have hz : (0 : Int) ≤ (at_ : Int) := by omega
  have hz2 : (at_ : Int) < (L.length : Int) := by omega
  have hz3 : at_ < L.length := by omega
  have HQ := hidMk hgq
  clear h hcs hlt
  generalize L.getD at_ 0 = y at *
  go_enter Try.func14, Try.ntmps14
  go_wp2_with fail
  refine gen_world (f := fun W => Code.wp _ _ _ _ W) (fun W => W.cell? ⟨q, 0, none⟩ = some (.slice (some ⟨g, o, none⟩) L.length lc) ∧ W.cell? ⟨q, 1, none⟩ = some (.int .i64 (at_ : Int)) ∧ W.cell? ⟨g, o + at_, none⟩ = some (.int .i64 y) ∧ q < W.heap.size ∧ Rf W q (some ⟨g, o, none⟩) lc L at_ ∧ Chg (· = q) w W) ?_ ?_
  · exact ⟨(World.cell?_setCell_other _ _ _ _ (by simp)).trans d0, World.cell?_setCell_same _ _ _ d1, (World.cell?_setCell_other _ _ _ _ (by simp [Ne.symm hgq])).trans hc, by simpa using hq, HF.out, (Chg.refl (· = q) w).setCell (p := ⟨q, 1, none⟩) (.inl rfl) _⟩
  rintro W ⟨i0, i1, i2, i3, i4, i5⟩
  have H4 := hidMk i4
  have H5 := hidMk i5
  clear d0 d1 hc hq i4 i5 HF
  go_quiet (fail)
  go_wp2_with fail
  go_ret2
  exact ⟨rfl, H4.out.kept ((Kept.refl _).drewN _), H5.out.drewN _⟩
theorem r18_Redo {w : World} {q : Nat} {la : Option Addr} {lc : Nat} {L : List Int} {at_ : Nat} (h : Rf w q la lc L at_) (hr : at_ + 1 < L.length) :
    Calls Try.prog 16 #[.pointer (some ⟨q, 0, none⟩)] w fun e w' => e = .returned (.tuple #[.int .i64 (L.getD (at_ + 1) 0), .int .i64 0]) ∧ Rf w' q la lc L (at_ + 1) ∧ Chg (· = q) w w' := by
  have hq := h.qlt
  have hlt := h.lt
  have hsm := h.sm
  have d0 := h.c0
  have d1 := h.c1
  have z1 := h.z1
  obtain ⟨g, o, rfl, hg, hcs⟩ := h.row
  have hc := hcs (at_ + 1) hr
  have hgq : g ≠ q := h.ne _ rfl
  have HF := hidMk (show ∀ y, Kept w y → Rf (y.setCell ⟨q, 1, none⟩ (.int .i64 ((at_ + 1 : Nat) : Int))) q (some ⟨g, o, none⟩) lc L (at_ + 1) from fun y hy => (h.kept hy).setAt (at_ + 1) hr)
  obtain ⟨a1, ha1⟩ : ∃ a1, a1 = at_ + 1 := ⟨_, rfl⟩
  have hw : IntKind.i64.wrap ((at_ : Int) + 1) = (a1 : Int) := by rw [IntKind.wrap_i64]; omega
  have hnz : ¬ ((L.length : Int) ≤ (a1 : Int)) := by omega
  have hz : (0 : Int) ≤ (a1 : Int) := by omega
  have hz2 : (a1 : Int) < (L.length : Int) := by omega
  have hz3 : a1 < L.length := by omega
  rw [← ha1] at hc HF ⊢
  clear ha1 hr
  have HQ := hidMk hgq
  clear h hcs hlt
  generalize L.getD a1 0 = y at *
  go_enter Try.func16, Try.ntmps16
  go_wp2_with fail
  go_quiet (fail)
  go_wp2_with fail
  refine gen_world (f := fun W => Code.wp _ _ _ _ W) (fun W => W.cell? ⟨q, 0, none⟩ = some (.slice (some ⟨g, o, none⟩) L.length lc) ∧ W.cell? ⟨q, 1, none⟩ = some (.int .i64 (a1 : Int)) ∧ W.cell? ⟨g, o + a1, none⟩ = some (.int .i64 y) ∧ q < W.heap.size ∧ Rf W q (some ⟨g, o, none⟩) lc L a1 ∧ Chg (· = q) w W) ?_ ?_
  · exact ⟨(World.cell?_setCell_other _ _ _ _ (by simp)).trans d0, World.cell?_setCell_same _ _ _ d1, (World.cell?_setCell_other _ _ _ _ (by simp [Ne.symm hgq])).trans hc, by simpa using hq, HF.out _ ((Kept.refl _).drewN _), ((Chg.refl (· = q) w).drewN _).setCell (p := ⟨q, 1, none⟩) (.inl rfl) _⟩
  rintro W ⟨i0, i1, i2, i3, i4, i5⟩
  have H4 := hidMk i4
  have H5 := hidMk i5
  clear d0 d1 hc hq i4 i5 HF
  go_quiet (fail)
  go_wp2_with fail
  go_ret2
  exact ⟨rfl, H4.out.kept ((Kept.refl _).drewN _), H5.out.drewN _⟩
theorem r18_UndoNone {w : World} {q : Nat} {la : Option Addr} {lc : Nat} {L : List Int} (h : Rf w q la lc L 0) :
    Calls Try.prog 14 #[.pointer (some ⟨q, 0, none⟩)] w fun e w' => e = .returned (.tuple #[.int .i64 0, .int .i64 19]) ∧ w' = w := by
  have hq := h.qlt
  have d1 := h.c1
  rw [show ((0 : Nat) : Int) = 0 from rfl] at d1
  clear h
  go_enter Try.func14, Try.ntmps14
  go_wp2_with fail
  go_ret2
  exact ⟨rfl, rfl⟩
theorem r18_RedoNone {w : World} {q : Nat} {la : Option Addr} {lc : Nat} {L : List Int} {at_ : Nat} (h : Rf w q la lc L at_) (hr : at_ + 1 = L.length) :
    Calls Try.prog 16 #[.pointer (some ⟨q, 0, none⟩)] w fun e w' => e = .returned (.tuple #[.int .i64 0, .int .i64 19]) ∧ Kept w w' := by
  have hq := h.qlt
  have d0 := h.c0
  have d1 := h.c1
  have hsm := h.sm
  have hw : IntKind.i64.wrap ((at_ : Int) + 1) = (L.length : Int) := by rw [IntKind.wrap_i64]; omega
  clear h
  go_enter Try.func16, Try.ntmps16
  go_wp2_with fail
  all_goals (try (go_quiet (fail)))
  all_goals (try go_wp2_with fail)
  go_ret2
  exact ⟨rfl, by first | exact Kept.refl _ | exact (Kept.refl _).drewN _ | exact (Kept.refl _).drew⟩
/-- A part of the definition's list. -/
theorem r18_Past {w : World} {q : Nat} {la : Option Addr} {lc : Nat} {L : List Int} {at_ : Nat} (h : Rf w q la lc L at_) :
    Calls Try.prog 24 #[.pointer (some ⟨q, 0, none⟩)] w fun e w' => (∃ c, e = .returned (.slice la at_ c) ∧ Sl .i64 w' la at_ (L.take at_)) ∧ Kept w w' := by
  have hq := h.qlt
  have d0 := h.c0
  have d1 := h.c1
  have hsm := h.sm
  have hlt := h.lt
  have hle := h.le
  obtain ⟨g, o, rfl, hg, hcs⟩ := h.row
  have hz1 : (0 : Int) ≤ (at_ : Int) := by omega
  have hz2 : (at_ : Int) ≤ (lc : Int) := by omega
  have hz3 : at_ ≤ lc := by omega
  have HC := hidMk hcs
  clear h hcs
  go_enter Try.func24, Try.ntmps24
  go_wp2_with fail
  go_quiet (fail)
  go_wp2_with fail
  go_ret
  refine ⟨⟨_, rfl, ⟨by simp; omega, by unfold maxLen; omega, fun hp => ⟨g, o, rfl, by simpa using hg, fun j hj => ?_⟩⟩⟩, (Kept.refl _).drewN _⟩
  have := HC.out j (by omega)
  rw [List.getD_eq_getElem?_getD] at this ⊢
  rw [List.getElem?_take_of_lt hj]
  simpa using this
/-- What lies behind now. -/
def FuP (w : World) (L : List Int) (e : Ending) (w' : World) : Prop := (∃ a c, e = .returned (.slice a L.length c) ∧ Sl .i64 w' a L.length L) ∧ Kept w w'
theorem r18_Future {w : World} {q : Nat} {la : Option Addr} {lc : Nat} {L : List Int} {at_ : Nat} (h : Rf w q la lc L at_) :
    Calls Try.prog 25 #[.pointer (some ⟨q, 0, none⟩)] w (FuP w (L.drop (at_ + 1))) := by
  have hq := h.qlt
  have d0 := h.c0
  have d1 := h.c1
  have hsm := h.sm
  have hlt := h.lt
  have hle := h.le
  obtain ⟨g, o, rfl, hg, hcs⟩ := h.row
  obtain ⟨a1, ha1⟩ : ∃ a1, a1 = at_ + 1 := ⟨_, rfl⟩
  rw [← ha1]
  have hw : IntKind.i64.wrap ((at_ : Int) + 1) = (a1 : Int) := by rw [IntKind.wrap_i64]; omega
  have hz1 : (0 : Int) ≤ (a1 : Int) := by omega
  have hz2 : (a1 : Int) ≤ (L.length : Int) := by omega
  have hz3 : a1 ≤ L.length := by omega
  have HC := hidMk hcs
  have hlen : (L.drop a1).length = L.length - a1 := by simp
  have HL := hidMk hlen
  clear h hcs hlen ha1
  have HF := hidMk (show ∀ W ad c, Kept w W → (L.length - a1 = 0 ∨ ad = ⟨g, o + a1, none⟩) → FuP w (L.drop a1) (.returned (.slice (some ad) (L.length - a1) c)) W from fun W ad c hk had => by
    refine ⟨⟨some ad, c, by rw [HL.out], ⟨rfl, by rw [HL.out]; unfold maxLen; omega, fun hp => ?_⟩⟩, hk⟩
    rw [HL.out] at hp
    rcases had with h0 | rfl
    · omega
    refine ⟨g, o + a1, rfl, Nat.lt_of_lt_of_le hg hk.size, fun j hj => ?_⟩
    rw [HL.out] at hj
    have := hk.cellp (HC.out (a1 + j) (by omega))
    rw [Nat.add_assoc, this, List.getD_eq_getElem?_getD, List.getD_eq_getElem?_getD, List.getElem?_drop])
  by_cases hlcz : lc = a1
  · subst hlcz
    have hz4 : L.length - lc = 0 := by omega
    go_enter Try.func25, Try.ntmps25
    go_wp2_with fail
    go_quiet (fail)
    go_wp2_with fail
    go_ret
    rw [hz4] at HF
    exact HF.out _ _ _ ((Kept.refl _).drewN _) (by simp)
  · go_enter Try.func25, Try.ntmps25
    go_wp2_with fail
    go_quiet (fail)
    go_wp2_with fail
    go_ret
    exact HF.out _ _ _ ((Kept.refl _).drewN _) (.inr rfl)
end Go.Proofs.Ytbikelbobanfbaa
