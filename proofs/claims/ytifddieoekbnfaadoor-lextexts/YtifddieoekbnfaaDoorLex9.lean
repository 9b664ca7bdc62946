/- lex: Empty, Text; the definition's Text. -/
import Derived.Test.YtifddieoekbnfaaDoorLex8
namespace Go.Proofs.YtifddieoekbnfaaDoor
open Go Go.RowKit Go.Maps
set_option linter.unusedSimpArgs false
set_option linter.unusedVariables false
attribute [local go_sem] Oper.semAt_some

theorem bool_load {w : World} {g : Nat} {x : Bool} (c0 : w.cell? ⟨g, 0, none⟩ = some (.bool x)) : (loadVar 4 ⟨g, 0, none⟩).run Tryd.prog w = .ok (.bool x) w := by
  simp [loadVar, Sem.run_bind, Tryd.isAgg4, c0]
theorem pre_hash (wd : List UInt8) : Lib.hasPrefix (bstr wd).data.toList (ByteArray.mk #[35]).data.toList = (wd.head? == some 35) := by
  rw [bstr_data]
  unfold Lib.hasPrefix
  show List.isPrefixOf [35] wd = _
  cases wd with
  | nil => rfl
  | cons c t =>
    rw [List.isPrefixOf_cons_cons, List.isPrefixOf_nil_left, Bool.and_true, List.head?_cons]
    by_cases h : c = 35
    · subst h; rfl
    · have h1 : ((35 : UInt8) == c) = false := by rw [beq_eq_false_iff_ne]; exact fun e => h e.symm
      have h2 : ((some c : Option UInt8) == some 35) = false := by rw [beq_eq_false_iff_ne]; exact fun e => h (by simpa using e)
      rw [h1, h2]
/-- Ahead of the first word. -/
structure EJ (w X : World) : Prop where
  kp : Kept w X
  c0 : X.cell? ⟨w.heap.size, 0, none⟩ = some (.bool false)
  fz : X.frozen? ⟨w.heap.size, 0, none⟩ = false
theorem EJ.chg {S : Nat → Prop} {w X Y : World} (h : EJ w X) (k : Chg S X Y) (hS : ∀ j, S j → w.heap.size < j) : EJ w Y := by
  have n0 : ¬ S w.heap.size := fun e => by have := hS _ e; omega
  exact ⟨Chg.kept h.kp k (fun j e => by have := hS j e; omega), k.cellp h.c0 n0, (k.frozen (p := ⟨w.heap.size, 0, none⟩) (cell_lt h.c0) n0).trans h.fz⟩
theorem EJ.keep {w X Y : World} (h : EJ w X) (k : Kept X Y) : EJ w Y := h.chg (S := fun _ => False) (Chg.of_kept k) (fun _ e => e.elim)
structure EX (w X : World) (z : Bool) : Prop where
  kp : Kept w X
  c0 : X.cell? ⟨w.heap.size, 0, none⟩ = some (.bool z)
theorem EX.put {w X : World} {z : Bool} (h : EX w X z) {b : Nat} (hb : w.heap.size < b) (o : Obj) : EX w (X.putObj b o) z := ⟨put_kept h.kp (by omega), (chg_put X b o).cellp h.c0 (show ¬ w.heap.size = b by omega)⟩
set_option maxHeartbeats 4000000 in
set_option maxRecDepth 100000 in
theorem lex_Empty (s : ByteArray) (hs : s.size ≤ 10000) (w : World) (hV : Vars w) : Calls Tryd.prog 11 #[.string s] w fun e w' => e = .returned (.bool (emB s.data.toList)) ∧ Kept w w' := by
  obtain ⟨W0, hW0⟩ : ∃ V, V = (w.alloc (.cells #[.bool false] 4)).alloc (.cells #[.string s] 9) := ⟨_, rfl⟩
  have hs0 : W0.heap.size = w.heap.size + 2 := by rw [hW0]; simp
  have HS0 := hidMk hs0
  have HEJ := hidMk (show EJ w W0 from by
    have h1 : (w.alloc (.cells #[.bool false] 4)).cell? ⟨w.heap.size, 0, none⟩ = some (.bool false) := by simp
    have h2 : (w.alloc (.cells #[.bool false] 4)).frozen? ⟨w.heap.size, 0, none⟩ = false := by simp
    rw [hW0]
    exact ⟨((Kept.refl w).alloc _).alloc _, ((Kept.refl _).alloc _).cellp h1, (((Kept.refl _).alloc _).frozen (p := ⟨w.heap.size, 0, none⟩) (cell_lt h1)).trans h2⟩)
  have HVB := hidMk (show W0.heap[w.heap.size + 1]? = some (.cells #[.string s] 9 (0, 0)) from by
    have := World.alloc_heap_new (w.alloc (.cells #[.bool false] 4)) (.cells #[.string s] 9)
    rw [World.size_alloc] at this
    rw [hW0]
    exact this)
  have HV := hidMk hV
  have HE := hidMk (callsIn_wide (n := 2).2 (lex_each s (w.alloc (.cells #[.bool false] 4))))
  have HSZ := hidMk hs
  have HRE := hidMk (show ∀ y, [] ++ [y] <+: tks s.data.toList → emB s.data.toList = (y.2.head? == some 35) from fun y hy => by
    obtain ⟨t, ht⟩ := hy
    exact emB_cons (r := t) (by rw [← ht]; rfl))
  have HRN := hidMk (show tks s.data.toList = [] → emB s.data.toList = true from emB_nil)
  obtain ⟨z, hz⟩ : ∃ z, emB s.data.toList = z := ⟨_, rfl⟩
  rw [hz] at HRE HRN ⊢
  clear hs0 hV hs hz
  refine (callsIn_wide (n := 3)).1 ?_
  refine callsIn_of_wp_marks Tryd.func11 rfl trivial ?_ rfl
  simp only [Tryd.ntmps11, List.size_toArray, List.length_cons, List.length_nil, Nat.reduceAdd, Nat.reduceSub, Array.replicate_succ, Array.replicate_zero, List.push_toArray, List.append_toArray, List.nil_append, List.cons_append]
  gi_wp2
  refine ⟨trivial, ?_⟩
  refine HE.out.mono ?_
  rintro e w1 ⟨rfl, hw1⟩
  rw [World.size_alloc, hw1, ← hW0]
  clear hw1 w1 hW0 HE
  gi_wp2
  refine range_sr (n := 1) (gf := 25) (lb := #[.pointer (some ⟨w.heap.size + 1, 0, none⟩)]) ?g1 ?g2 (encs := fun y : Nat × List UInt8 => #[.int .i64 (y.1 : Nat), .string (bstr y.2)]) ?g3 (tks s.data.toList) (fun pre X => pre = [] ∧ EJ w X) (fun _ X => EX w X z) ?g4 ?g5 ?g6 ?g7 ?g8 ?g9
  case g1 => rfl
  case g2 => exact enters_of Tryd.func25 (by kernel_rfl) rfl
  case g3 => exact fun _ => rfl
  case g4 => exact fun pre X o h _ => ⟨h.1, h.2.chg (chg_put X _ o) (fun j e => by have := HS0.out; omega)⟩
  case g5 => exact fun pre X o h _ => h.put (by have := HS0.out; omega) o
  case g6 =>
    rintro R R' pre y X ⟨rfl, hJ⟩ hpre hR
    have HD := hidMk (HRE.out y hpre)
    have HR := hidMk hR
    have HJ := hidMk hJ
    obtain ⟨p, wd⟩ := y
    dsimp only at *
    clear hpre hR hJ
    gi_wp2
    refine ⟨⟨trivial, HJ.out⟩, HR.out, ?_⟩
    have HY := hidMk (HJ.out.chg (chg_put X (W0.heap.size + 1) R') (fun j e => by have := HS0.out; omega))
    have HRY := hidMk (show Recs W0.heap.size R' (X.putObj (W0.heap.size + 1) R') from ⟨World.putObj_heap_same ((Array.getElem?_eq_some_iff.1 HR.out.1).1), (World.putObj_heap_other (by omega)).trans HR.out.2⟩)
    generalize X.putObj (W0.heap.size + 1) R' = Y at *
    clear HJ HR
    have HP := hidMk (show ∀ lv k, CallsIn (Fence.wide.inRound lv) k Tryd.prog 21 #[.string (bstr wd), .string ⟨#[35]⟩] Y fun e w' => e = .returned (.bool z) ∧ w' = Y from fun lv k => CallsIn.inRound lv (callsIn_wide.2 (by
      have := Tryd.strings_HasPrefix (bstr wd) ⟨#[35]⟩ Y
      rw [pre_hash, ← HD.out] at this
      exact this)))
    have y0 := HY.out.c0
    have y1 := HY.out.fz
    gi_wp2
    refine ⟨trivial, ?_⟩
    refine (HP.out _ _).mono ?_
    rintro e w4 ⟨rfl, hw4⟩
    rw [hw4]
    clear hw4 w4
    gi_wp2
    have hc : Chg (fun j => j = w.heap.size) Y (Y.setCell ⟨w.heap.size, 0, none⟩ (.bool z)) := (Chg.refl (fun j => j = w.heap.size) Y).setCell (p := ⟨w.heap.size, 0, none⟩) (.inl rfl) _
    refine ⟨⟨HY.out.kp.setCell (p := ⟨w.heap.size, 0, none⟩) (Nat.le_refl _) _, World.cell?_setCell_same _ _ _ HY.out.c0⟩, ?_, ?_⟩
    · rw [hc.block _ ((Array.getElem?_eq_some_iff.1 HRY.out.1).1) (by have := HS0.out; omega)]; exact HRY.out.1
    · rw [hc.block _ ((Array.getElem?_eq_some_iff.1 HRY.out.2).1) (by have := HS0.out; omega)]; exact HRY.out.2
  case g7 =>
    intro R D hy
    refine (each_it (S := fun j => j = w.heap.size ∨ j = w.heap.size + 3) (l := W0.heap.size + 1) (vb := w.heap.size + 1) ((W0.alloc (.deferred (some []))).alloc R) (fun k X => k = 0 ∧ EJ w X ∧ Recs W0.heap.size R X) (fun X => EX w X z ∧ Recs W0.heap.size D X) s HSZ.out ?h1 (by omega) ?h2 ?h3 ?h4 (1 + 1) ?h5).mono ?h6
    case h1 =>
      have h1 : w.heap.size + 1 < W0.heap.size := by have := HS0.out; omega
      exact ((((Kept.refl W0).alloc _).alloc _).block _ h1).trans HVB.out
    case h2 => intro j e; simp only [World.size_alloc]; have := HS0.out; omega
    case h3 => exact fun k X h => HV.out.kept h.2.1.kp
    case h4 =>
      intro Y kY
      have kA : Kept W0 ((W0.alloc (.deferred (some []))).alloc R) := ((Kept.refl W0).alloc _).alloc _
      refine ⟨rfl, HEJ.out.keep (kA.trans kY), ?_, ?_⟩
      · have := World.alloc_heap_new (W0.alloc (.deferred (some []))) R
        rw [World.size_alloc] at this
        exact (kY.block _ (by simp only [World.size_alloc]; omega)).trans this
      · have h1 := World.alloc_heap_new W0 (.deferred (some []))
        have h2 := ((Kept.refl (W0.alloc (.deferred (some [])))).alloc R).block W0.heap.size (by rw [World.size_alloc]; omega)
        exact (kY.block _ (by simp only [World.size_alloc]; omega)).trans (h2.trans h1)
    case h5 =>
      rintro k X ⟨rfl, hJ, hR⟩ hk
      refine (hy [] (tks s.data.toList)[0] X ⟨rfl, hJ⟩ hR (take_pre _ hk)).mono ?_
      rintro e X' (⟨h1, ⟨h2, _⟩, h3⟩ | ⟨h1, h2, h3⟩)
      · exact absurd h2 (by simp)
      · exact .inr ⟨h1, h2, h3⟩
    case h6 =>
      rintro e X' ⟨h1, ⟨h2, h3, h4⟩ | ⟨h2, h3⟩⟩
      · exact ⟨h1, .inl ⟨⟨List.eq_nil_of_length_eq_zero h2, h3⟩, h4⟩⟩
      · exact ⟨h1, .inr ⟨[], h2, h3⟩⟩
  case g8 =>
    rintro X ⟨hx, hJ⟩ hD
    have HT := hidMk (HRN.out hx)
    have HD := hidMk hD
    have HJ := hidMk hJ
    have y0 := hJ.c0
    have y1 := hJ.fz
    clear hx hD hJ
    gi_wp2
    have hD2 : (X.setCell ⟨w.heap.size, 0, none⟩ (.bool true)).heap[W0.heap.size]? = some (.deferred (some [])) := by
      have hc : Chg (fun j => j = w.heap.size) X (X.setCell ⟨w.heap.size, 0, none⟩ (.bool true)) := (Chg.refl (fun j => j = w.heap.size) X).setCell (p := ⟨w.heap.size, 0, none⟩) (.inl rfl) _
      rw [hc.block _ ((Array.getElem?_eq_some_iff.1 HD.out).1) (by have := HS0.out; omega)]; exact HD.out
    refine ⟨by simp, .inl ⟨_, _, rfl, run_takeDeferred hD2, ?_⟩⟩
    have hE : EX w ((X.setCell ⟨w.heap.size, 0, none⟩ (.bool true)).putObj W0.heap.size (.deferred none)) true := EX.put ⟨HJ.out.kp.setCell (p := ⟨w.heap.size, 0, none⟩) (Nat.le_refl _) _, World.cell?_setCell_same _ _ _ HJ.out.c0⟩ (by have := HS0.out; omega) _
    refine ⟨.bool true, results_cell1 rfl _ _ w.heap.size _ rfl (bool_load hE.c0), by rw [HT.out], hE.kp⟩
  case g9 =>
    intro pre X hJ hD
    have HJ := hidMk hJ
    have HD := hidMk hD
    clear hJ hD
    gi_wp2
    refine ⟨by simp, .inl ⟨_, _, rfl, run_takeDeferred HD.out, ?_⟩⟩
    have hE := HJ.out.put (b := W0.heap.size) (by have := HS0.out; omega) (.deferred none)
    exact ⟨.bool z, results_cell1 rfl _ _ w.heap.size _ rfl (bool_load hE.c0), rfl, hE.kp⟩
end Go.Proofs.YtifddieoekbnfaaDoor
