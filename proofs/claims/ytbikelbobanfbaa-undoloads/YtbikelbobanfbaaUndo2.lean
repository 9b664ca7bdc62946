/- A history in memory; New, Now, Depth, Ahead, Past, Future, Load. -/
import Derived.Test.YtbikelbobanfbaaUndo1
namespace Go.Proofs.Ytbikelbobanfbaa
open Go.RowKit Go.Maps
set_option linter.unusedSimpArgs false
set_option linter.unusedVariables false

/-- A history: block hb with its past, what is now and its future; the rows lie apart from it and from each other. -/
structure Hi (w : World) (hb : Nat) (pa : Option Addr) (pc : Nat) (fa : Option Addr) (fc : Nat) (past : List Int) (now : Int) (fut : List Int) : Prop where
  c0 : w.cell? ⟨hb, 0, none⟩ = some (.slice pa past.length pc)
  c1 : w.cell? ⟨hb, 1, none⟩ = some (.int .i64 now)
  c2 : w.cell? ⟨hb, 2, none⟩ = some (.slice fa fut.length fc)
  z0 : w.frozen? ⟨hb, 0, none⟩ = false
  z1 : w.frozen? ⟨hb, 1, none⟩ = false
  z2 : w.frozen? ⟨hb, 2, none⟩ = false
  pr : Ro w pa pc past
  fr : Ro w fa fc fut
  ph : ¬ Bk pa pc hb
  fh : ¬ Bk fa fc hb
  pf : ∀ b, Bk pa pc b → ¬ Bk fa fc b
  many : past.length + fut.length ≤ 12
/-- The blocks of a history. -/
def HB (hb : Nat) (pa : Option Addr) (pc : Nat) (fa : Option Addr) (fc : Nat) (b : Nat) : Prop := b = hb ∨ Bk pa pc b ∨ Bk fa fc b
section
variable {w w' : World} {hb : Nat} {pa : Option Addr} {pc : Nat} {fa : Option Addr} {fc : Nat} {past : List Int} {now : Int} {fut : List Int}
theorem Hi.hlt (h : Hi w hb pa pc fa fc past now fut) : hb < w.heap.size := cell_lt h.c0
theorem Hi.lt (h : Hi w hb pa pc fa fc past now fut) : ∀ b, HB hb pa pc fa fc b → b < w.heap.size := by
  rintro b (rfl | hb | hb)
  · exact h.hlt
  · exact h.pr.lt b hb
  · exact h.fr.lt b hb
theorem Hi.chg {S : Nat → Prop} (h : Hi w hb pa pc fa fc past now fut) (k : Chg S w w') (hs : ∀ b, HB hb pa pc fa fc b → ¬ S b) : Hi w' hb pa pc fa fc past now fut := by
  have h0 : ¬ S hb := hs hb (.inl rfl)
  have hl := h.hlt
  exact ⟨k.cellp h.c0 h0, k.cellp h.c1 h0, k.cellp h.c2 h0, (k.frozen (p := ⟨hb, 0, none⟩) hl h0).trans h.z0, (k.frozen (p := ⟨hb, 1, none⟩) hl h0).trans h.z1, (k.frozen (p := ⟨hb, 2, none⟩) hl h0).trans h.z2,
    h.pr.chg k (fun b e => hs b (.inr (.inl e))), h.fr.chg k (fun b e => hs b (.inr (.inr e))), h.ph, h.fh, h.pf, h.many⟩
theorem Hi.kept (h : Hi w hb pa pc fa fc past now fut) (k : Kept w w') : Hi w' hb pa pc fa fc past now fut := h.chg (Chg.of_kept (S := fun _ => False) k) (fun _ _ e => e)
end
theorem undo_New (x : Int) (w : World) : Calls Try.prog 7 #[.int .i64 x] w fun e w' => e = .returned (.pointer (some ⟨w.heap.size, 0, none⟩)) ∧ Hi w' w.heap.size none 0 none 0 [] x [] ∧ Kept w w' := by
  go_enter Try.func7, Try.ntmps7
  go_wp2
  go_ret
  exact ⟨rfl, ⟨by simp, by simp, by simp, by simp, by simp, by simp, ro_nil _, ro_nil _, not_bk_none _ _, not_bk_none _ _, fun b e => absurd e (not_bk_none _ _), by simp⟩, (Kept.refl w).alloc _⟩
theorem undo_Now {w : World} {hb : Nat} {pa : Option Addr} {pc : Nat} {fa : Option Addr} {fc : Nat} {past : List Int} {now : Int} {fut : List Int} (h : Hi w hb pa pc fa fc past now fut) :
    Calls Try.prog 19 #[.pointer (some ⟨hb, 0, none⟩)] w fun e w' => e = .returned (.int .i64 now) ∧ Kept w w' := by
  have c1 := h.c1
  have z1 := h.z1
  have hl := h.hlt
  clear h
  go_enter Try.func19, Try.ntmps19
  go_wp2
  go_ret
  exact ⟨rfl, Kept.refl w⟩
theorem undo_Depth {w : World} {hb : Nat} {pa : Option Addr} {pc : Nat} {fa : Option Addr} {fc : Nat} {past : List Int} {now : Int} {fut : List Int} (h : Hi w hb pa pc fa fc past now fut) :
    Calls Try.prog 20 #[.pointer (some ⟨hb, 0, none⟩)] w fun e w' => e = .returned (.int .i64 (past.length : Int)) ∧ Kept w w' := by
  have c0 := h.c0
  have hl := h.hlt
  clear h
  go_enter Try.func20, Try.ntmps20
  go_wp2
  go_ret
  exact ⟨rfl, Kept.refl w⟩
theorem undo_Ahead {w : World} {hb : Nat} {pa : Option Addr} {pc : Nat} {fa : Option Addr} {fc : Nat} {past : List Int} {now : Int} {fut : List Int} (h : Hi w hb pa pc fa fc past now fut) :
    Calls Try.prog 21 #[.pointer (some ⟨hb, 0, none⟩)] w fun e w' => e = .returned (.int .i64 (fut.length : Int)) ∧ Kept w w' := by
  have c0 := h.c2
  have hl := h.hlt
  clear h
  go_enter Try.func21, Try.ntmps21
  go_wp2
  go_ret
  exact ⟨rfl, Kept.refl w⟩
/-- A copy of a row. -/
def ClP (w : World) (l : List Int) (e : Ending) (w' : World) : Prop := ∃ a c, e = .returned (.slice a l.length c) ∧ Ro w' a c l ∧ Kept w w' ∧ ∀ b, Bk a c b → w.heap.size ≤ b
set_option maxHeartbeats 400000 in
theorem slices_CloneO (a : Option Addr) (c : Nat) (l : List Int) (w : World) (hs : Sl .i64 w a l.length l) (hl : l.length ≤ 1000) :
    Calls Try.prog 27 #[.slice a l.length c] w (ClP w l) := by
  have q : ∀ (w : World) (a : Option Addr) (n c n' c' : Nat), (binOp .eql 31 (.slice a n c) (.slice none n' c')).run Try.prog w = .ok (.bool a.isNone) w := fun w a n c n' c' => Lib.run_eql_slice_nil w _ _ a n c n' c' Try.underlying31
  have H := hidMk hs
  clear hs
  cases a with
  | none =>
    have hn : l = [] := by
      by_cases hp : 0 < l.length
      · obtain ⟨b, o, e, _⟩ := H.out.cells hp
        cases e
      · exact List.eq_nil_of_length_eq_zero (by omega)
    subst hn
    go_enter Try.func27, Try.ntmps27
    go_wp2
    go_ret
    exact ⟨_, _, rfl, ro_nil _, Kept.refl _, fun b e => absurd e (not_bk_none _ _)⟩
  | some ad =>
    go_enter Try.func27, Try.ntmps27
    go_wp2_with (at_builtin; refine wpList_pushRo _ rfl _ _ rfl _ 0 [] rfl (ro_none _ _) _ l rfl (src_sl (H.out.kept ((Kept.refl w).alloc _))) (by simp; omega) ?_)
    intro a1 c1 w1 hro hch hbk
    have H4 := hidMk (show Ro w1 a1 c1 l by simpa using hro)
    have H5 := hidMk (show Kept w w1 from ((Kept.refl w).alloc _).trans (hch.mono (S' := fun _ => False) (fun j _ e => absurd e (not_bk_none _ _))).keptAll)
    have H6 := hidMk (show ∀ b, Bk a1 c1 b → w.heap.size ≤ b from fun b e => by
      rcases hbk b e with h | h
      · exact absurd h (not_bk_none _ _)
      · exact Nat.le_trans (Nat.le_succ _) (by simpa using h))
    clear hro hch hbk
    go_wp2
    go_ret
    exact ⟨a1, c1, by simp, H4.out, H5.out, H6.out⟩
theorem undo_Past {w : World} {hb : Nat} {pa : Option Addr} {pc : Nat} {fa : Option Addr} {fc : Nat} {past : List Int} {now : Int} {fut : List Int} (h : Hi w hb pa pc fa fc past now fut) :
    Calls Try.prog 22 #[.pointer (some ⟨hb, 0, none⟩)] w (ClP w past) := by
  have c0 := h.c0
  have hl := h.hlt
  have H := hidMk (slices_CloneO pa pc past w h.pr.sl (by have := h.many; omega))
  clear h
  go_enter Try.func22, Try.ntmps22
  go_wp2_with fail
  refine H.out.mono ?_
  rintro e w1 ⟨a, c, rfl, h1, h2, h3⟩
  have H1 := hidMk h1
  have H2 := hidMk h2
  have H3 := hidMk h3
  clear h1 h2 h3
  go_wp2
  go_ret
  exact ⟨a, c, rfl, H1.out, H2.out, H3.out⟩
theorem undo_Future {w : World} {hb : Nat} {pa : Option Addr} {pc : Nat} {fa : Option Addr} {fc : Nat} {past : List Int} {now : Int} {fut : List Int} (h : Hi w hb pa pc fa fc past now fut) :
    Calls Try.prog 23 #[.pointer (some ⟨hb, 0, none⟩)] w (ClP w fut) := by
  have c0 := h.c2
  have hl := h.hlt
  have H := hidMk (slices_CloneO fa fc fut w h.fr.sl (by have := h.many; omega))
  clear h
  go_enter Try.func23, Try.ntmps23
  go_wp2_with fail
  refine H.out.mono ?_
  rintro e w1 ⟨a, c, rfl, h1, h2, h3⟩
  have H1 := hidMk h1
  have H2 := hidMk h2
  have H3 := hidMk h3
  clear h1 h2 h3
  go_wp2
  go_ret
  exact ⟨a, c, rfl, H1.out, H2.out, H3.out⟩
/-- A history that is loaded. -/
def LdP (w : World) (past : List Int) (now : Int) (fut : List Int) (e : Ending) (w' : World) : Prop :=
  ∃ hb pa pc fa fc, e = .returned (.tuple #[.pointer (some ⟨hb, 0, none⟩), .int .i64 0]) ∧ Hi w' hb pa pc fa fc past now fut ∧ Kept w w' ∧ ∀ b, HB hb pa pc fa fc b → w.heap.size ≤ b
set_option maxHeartbeats 400000 in
theorem undo_Load (a : Option Addr) (c : Nat) (past : List Int) (now : Int) (b : Option Addr) (d : Nat) (fut : List Int) (w : World) (hp : Sl .i64 w a past.length past) (hf : Sl .i64 w b fut.length fut) (hm : past.length + fut.length ≤ 12) :
    Calls Try.prog 18 #[.slice a past.length c, .int .i64 now, .slice b fut.length d] w (LdP w past now fut) := by
  have h1 : ¬ (12 - (fut.length : Int) < (past.length : Int)) := by omega
  have hw : IntKind.i64.wrap (12 - (fut.length : Int)) = 12 - (fut.length : Int) := by rw [IntKind.wrap_i64]; omega
  have H1 := hidMk (slices_CloneO a c past w hp (by omega))
  have H2 := hidMk (show ∀ y, Kept w y → _ from fun y hy => slices_CloneO b d fut y (hf.kept hy) (by omega))
  clear hp hf
  have HM := hidMk hm
  go_enter Try.func18, Try.ntmps18
  go_wp2_with fail
  refine H1.out.mono ?_
  rintro e w1 ⟨a1, c1, rfl, r1, k1, b1⟩
  have HR := hidMk r1
  have HK := hidMk k1
  have HB1 := hidMk b1
  clear r1 k1 b1
  go_wp2_with fail
  refine (H2.out _ HK.out).mono ?_
  rintro e w2 ⟨a2, c2, rfl, r2, k2, b2⟩
  have HR2 := hidMk r2
  have HK2 := hidMk k2
  have HB2 := hidMk b2
  clear r2 k2 b2
  go_wp2
  go_ret2
  have e1 := HR.out.lt
  have e2 := HR2.out.lt
  have s1 := HK.out.size
  have s2 := HK2.out.size
  refine ⟨w2.heap.size, a1, c1, a2, c2, rfl, ⟨by simp, by simp, by simp, by simp, by simp, by simp, HR.out.kept (HK2.out.alloc _), HR2.out.kept ((Kept.refl _).alloc _), fun e => by have := e1 _ e; omega, fun e => by have := e2 _ e; omega, fun x e f => by have := e1 _ e; have := HB2.out _ f; omega, HM.out⟩, (HK.out.trans HK2.out).alloc _, ?_⟩
  rintro x (rfl | e | e)
  · omega
  · exact HB1.out _ e
  · have := HB2.out _ e; omega
theorem undo_LoadBad (a : Option Addr) (n c : Nat) (now : Int) (b : Option Addr) (m d : Nat) (w : World) (hn : n ≤ maxLen) (hm : m ≤ maxLen) (h : 12 < n + m) :
    Calls Try.prog 18 #[.slice a n c, .int .i64 now, .slice b m d] w fun e w' => e = .returned (.tuple #[.pointer none, .int .i64 5]) ∧ Kept w w' := by
  unfold maxLen at hn hm
  have h1 : (12 - (m : Int) < (n : Int)) := by omega
  have hw : IntKind.i64.wrap (12 - (m : Int)) = 12 - (m : Int) := by rw [IntKind.wrap_i64]; omega
  go_enter Try.func18, Try.ntmps18
  go_wp2_with fail
  go_ret2
  exact ⟨rfl, Kept.refl w⟩
end Go.Proofs.Ytbikelbobanfbaa
