/- Both histories in one memory; are they alike? -/
import Derived.Test.YtbikelbobanfbaaRefUndo2
namespace Go.Proofs.Ytbikelbobanfbaa
open Go.RowKit Go.Maps
set_option linter.unusedSimpArgs false
set_option linter.unusedVariables false

/-- A history and the definition's, apart. -/
structure Bi (w0 w : World) (hb q : Nat) (la : Option Addr) (lc : Nat) (p : List Int) (n : Int) (f : List Int) (L : List Int) (at_ : Nat) : Prop where
  rf : Rf w q la lc L at_
  new : ∀ b, RB q la b → w0.heap.size ≤ b
  kp : Kept w0 w
  hs : Hs w (fun b => b < w0.heap.size ∨ RB q la b) hb p n f
section
variable {w0 w : World} {hb q : Nat} {la : Option Addr} {lc : Nat} {p : List Int} {n : Int} {f : List Int} {L : List Int} {at_ : Nat}
theorem Bi.keep (h : Bi w0 w hb q la lc p n f L at_) {w' : World} (k : Kept w w') : Bi w0 w' hb q la lc p n f L at_ := ⟨h.rf.kept k, h.new, h.kp.trans k, h.hs.kept k⟩
theorem Bi.tlt (h : Bi w0 w hb q la lc p n f L at_) : ∀ b, (b < w0.heap.size ∨ RB q la b) → b < w.heap.size := fun b e => e.elim (fun x => Nat.lt_of_lt_of_le x h.kp.size) (h.rf.blt b)
theorem Bi.on (h : Bi w0 w hb q la lc p n f L at_) {w' : World} {p' : List Int} {n' : Int} {f' : List Int} (hc : Chg (fun b => ¬ (b < w0.heap.size ∨ RB q la b)) w w') (h2 : Hs w' (fun b => b < w0.heap.size ∨ RB q la b) hb p' n' f') : Bi w0 w' hb q la lc p' n' f' L at_ :=
  ⟨h.rf.chg hc (fun b e x => x (.inr e)), h.new, hc.kept h.kp (fun j e => by by_cases x : j < w0.heap.size; exact absurd (.inl x) e; omega), h2⟩
theorem Bi.to (h : Bi w0 w hb q la lc p n f L at_) {w' : World} {la' : Option Addr} {lc' : Nat} {L' : List Int} {k : Nat} (hc : Chg (· = q) w w') (h2 : Rf w' q la' lc' L' k) (hb' : ∀ b, RB q la' b → RB q la b ∨ w.heap.size ≤ b) : Bi w0 w' hb q la' lc' p n f L' k := by
  have s := h.kp.size
  refine ⟨h2, fun b e => (hb' b e).elim (h.new b) (fun x => by omega), hc.kept h.kp (fun j e => h.new j (.inl e)), ?_⟩
  obtain ⟨pa, pc, fa, fc, hi, ht⟩ := h.hs
  exact ⟨pa, pc, fa, fc, hi.chg hc (fun b e x => ht b e (.inr (.inl x))), fun b e x => x.elim (fun y => ht b e (.inl y)) (fun y => (hb' b y).elim (fun z => ht b e (.inr z)) (fun z => by have := hi.lt b e; omega))⟩
def BiDo (w0 w : World) (hb q : Nat) (la : Option Addr) (lc : Nat) (p : List Int) (n : Int) (f : List Int) (x : Int) (L : List Int) (at_ : Nat) (e : Ending) (w' : World) : Prop :=
  ∃ ga gc, e = .returned (.slice ga (goneL p f).length gc) ∧ Sl .i64 w' ga (goneL p f).length (goneL p f) ∧ (0 < (goneL p f).length → ∀ ad, ga = some ad → w.heap.size ≤ ad.block) ∧ Bi w0 w' hb q la lc (pastL p n) x [] L at_
theorem bi_Do (h : Bi w0 w hb q la lc p n f L at_) (x : Int) : Calls Try.prog 11 #[.pointer (some ⟨hb, 0, none⟩), .int .i64 x] w (BiDo w0 w hb q la lc p n f x L at_) := by
  refine (hs_Do h.hs h.tlt x).mono ?_
  rintro e w' ⟨ga, gc, rfl, s, b, h2, hc⟩
  exact ⟨_, _, rfl, s, b, h.on hc h2⟩
def BiRd (w0 w : World) (hb q : Nat) (p' : List Int) (n' : Int) (f' : List Int) (p : List Int) (n : Int) (f : List Int) (x : Int) (e : Ending) (w' : World) : Prop :=
  ∃ ga gc la' lc', e = .returned (.slice ga (goneL p f).length gc) ∧ Sl .i64 w' ga (goneL p f).length (goneL p f) ∧ Bi w0 w' hb q la' lc' p' n' f' (pastL p n ++ [x]) (pastL p n).length ∧ Chg (· = q) w w'
theorem bi_rDo {p' : List Int} {n' : Int} {f' : List Int} (h : Bi w0 w hb q la lc p' n' f' (p ++ n :: f) p.length) (hm : p.length + f.length ≤ 12) (x : Int) : Calls Try.prog 12 #[.pointer (some ⟨q, 0, none⟩), .int .i64 x] w (BiRd w0 w hb q p' n' f' p n f x) := by
  refine (r18_Do h.rf hm x).mono ?_
  rintro e w' ⟨ga, gc, la', lc', rfl, s, r, hc, hb'⟩
  exact ⟨ga, gc, la', lc', rfl, s, h.to hc r (fun b e => (hb' b e).elim (fun z => .inl (.inl z)) .inr), hc⟩
end
theorem bi_New (x : Int) {w0 w : World} {hb : Nat} (k : Kept w0 w) (h : Hs w (· < w0.heap.size) hb [] x []) : Calls Try.prog 8 #[.int .i64 x] w fun e w' => e = .returned (.pointer (some ⟨w.heap.size + 1, 0, none⟩)) ∧ Bi w0 w' hb (w.heap.size + 1) (some ⟨w.heap.size, 0, none⟩) 1 [] x [] [x] 0 := by
  refine (r18_New x w).mono ?_
  rintro e w' ⟨rfl, r, k2⟩
  have s := k.size
  refine ⟨rfl, r, ?_, k.trans k2, ?_⟩
  · rintro b (rfl | ⟨ad, e, rfl⟩)
    · omega
    · cases e; exact s
  · obtain ⟨pa, pc, fa, fc, hi, ht⟩ := h
    refine ⟨pa, pc, fa, fc, hi.kept k2, fun b e x => ?_⟩
    have hl := hi.lt b e
    rcases x with y | rfl | ⟨ad, e2, rfl⟩
    · exact ht b e y
    · omega
    · cases e2; exact absurd hl (Nat.lt_irrefl _)
theorem ints_same (a b : Option Addr) (n m c d : Nat) (x : List Int) (w : World) (hx : Sl .i64 w a n x) (hy : Sl .i64 w b m x) :
    Calls Try.prog 10 #[.slice a n c, .slice b m d] w fun e w' => e = .returned (.bool true) ∧ Kept w w' := by
  refine (ref_Ints a b n m c d x x w hx hy).mono ?_
  rintro e w' ⟨rfl, k⟩
  exact ⟨by simp, k⟩
set_option maxHeartbeats 8000000 in
set_option maxRecDepth 100000 in
theorem law18_alike {w0 w : World} {hb q : Nat} {la : Option Addr} {lc : Nat} {p : List Int} {n : Int} {f : List Int} (h : Bi w0 w hb q la lc p n f (p ++ n :: f) p.length) :
    Calls Try.prog 9 #[.pointer (some ⟨hb, 0, none⟩), .pointer (some ⟨q, 0, none⟩)] w fun e w' => e = .returned (.bool true) ∧ Kept w w' := by
  have hm := h.hs.many
  obtain ⟨P, hP⟩ : ∃ P, P = p.length := ⟨_, rfl⟩
  obtain ⟨F, hF⟩ : ∃ F, F = f.length := ⟨_, rfl⟩
  have hlen : (p ++ n :: f).length = P + 1 + F := by simp [hP, hF]; omega
  have HNW := hidMk (show ∀ y, Kept w y → Calls Try.prog 19 #[.pointer (some ⟨hb, 0, none⟩)] y fun e w' => e = .returned (.int .i64 n) ∧ Kept y w' from fun y hy => hs_Now (h.hs.kept hy))
  have HPS := hidMk (show ∀ y, Kept w y → Calls Try.prog 22 #[.pointer (some ⟨hb, 0, none⟩)] y fun e w' => ∃ a c, e = .returned (.slice a P c) ∧ Sl .i64 w' a P p ∧ Kept y w' from fun y hy => by
    obtain ⟨pa, pc, fa, fc, hi, _⟩ := h.hs.kept hy
    refine (undo_Past hi).mono ?_
    rintro e w' ⟨a, c, rfl, r, k, _⟩
    rw [hP]
    exact ⟨a, c, rfl, r.sl, k⟩)
  have HFS := hidMk (show ∀ y, Kept w y → Calls Try.prog 23 #[.pointer (some ⟨hb, 0, none⟩)] y fun e w' => ∃ a c, e = .returned (.slice a F c) ∧ Sl .i64 w' a F f ∧ Kept y w' from fun y hy => by
    obtain ⟨pa, pc, fa, fc, hi, _⟩ := h.hs.kept hy
    refine (undo_Future hi).mono ?_
    rintro e w' ⟨a, c, rfl, r, k, _⟩
    rw [hF]
    exact ⟨a, c, rfl, r.sl, k⟩)
  have HDS := hidMk (show ∀ y, Kept w y → Calls Try.prog 20 #[.pointer (some ⟨hb, 0, none⟩)] y fun e w' => e = .returned (.int .i64 (P : Int)) ∧ Kept y w' from fun y hy => by
    obtain ⟨pa, pc, fa, fc, hi, _⟩ := h.hs.kept hy
    rw [hP]
    exact undo_Depth hi)
  have HAS := hidMk (show ∀ y, Kept w y → Calls Try.prog 21 #[.pointer (some ⟨hb, 0, none⟩)] y fun e w' => e = .returned (.int .i64 (F : Int)) ∧ Kept y w' from fun y hy => by
    obtain ⟨pa, pc, fa, fc, hi, _⟩ := h.hs.kept hy
    rw [hF]
    exact undo_Ahead hi)
  have HRP := hidMk (show ∀ y, Kept w y → Calls Try.prog 24 #[.pointer (some ⟨q, 0, none⟩)] y fun e w' => ∃ a c, e = .returned (.slice a P c) ∧ Sl .i64 w' a P p ∧ Kept y w' from fun y hy => by
    refine (r18_Past (h.rf.kept hy)).mono ?_
    rintro e w' ⟨⟨c, rfl, s⟩, k⟩
    rw [List.take_left'  rfl] at s
    rw [hP]
    exact ⟨_, c, rfl, s, k⟩)
  have HRF := hidMk (show ∀ y, Kept w y → Calls Try.prog 25 #[.pointer (some ⟨q, 0, none⟩)] y fun e w' => ∃ a c, e = .returned (.slice a F c) ∧ Sl .i64 w' a F f ∧ Kept y w' from fun y hy => by
    have hd : (p ++ n :: f).drop (p.length + 1) = f := by rw [List.drop_append]; simp
    refine (r18_Future (h.rf.kept hy)).mono ?_
    rw [hd]
    rintro e w' ⟨⟨a, c, rfl, s⟩, k⟩
    rw [hF]
    exact ⟨a, c, rfl, s, k⟩)
  have c0 := h.rf.c0
  have c1 := h.rf.c1
  rw [hlen] at c0
  rw [← hP] at c1
  have hq := h.rf.qlt
  obtain ⟨g, o, rfl, hg, hcs⟩ := h.rf.row
  have c2 := hcs P (by omega)
  rw [show (p ++ n :: f).getD P 0 = n by rw [getD_app, if_neg (by omega), hP, Nat.sub_self]; rfl] at c2
  have hi1 : (0 : Int) ≤ (P : Int) := by omega
  have hi2 : (P : Int) < ((P + 1 + F : Nat) : Int) := by omega
  have hi3 : P < P + 1 + F := by omega
  have hPF : P + F ≤ 12 := by omega
  have hw1 : IntKind.i64.wrap (((P + 1 + F : Nat) : Int) - 1) = ((P + F : Nat) : Int) := by rw [IntKind.wrap_i64]; omega
  have hw2 : IntKind.i64.wrap (((P + F : Nat) : Int) - (P : Int)) = (F : Int) := by rw [IntKind.wrap_i64]; omega
  obtain ⟨N1, hN1⟩ : ∃ N1, N1 = P + 1 + F := ⟨_, rfl⟩
  obtain ⟨N2, hN2⟩ : ∃ N2, N2 = P + F := ⟨_, rfl⟩
  rw [← hN1] at hw1 hi2 hi3 c0
  rw [← hN2] at hw1 hw2
  clear h hcs hlen hP hF hN1 hN2
  go_enter Try.func9, Try.ntmps9
  go_wp2_with fail
  go_region_held3 (fun w' => w'.cell? ⟨q, 0, none⟩ = some (.slice (some ⟨g, o, none⟩) N1 lc) ∧ w'.cell? ⟨q, 1, none⟩ = some (.int .i64 (P : Int)) ∧ w'.cell? ⟨g, o + P, none⟩ = some (.int .i64 n)) (first | assumption | (refine ⟨Kept.cellp ?_ c0, Kept.cellp ?_ c1, Kept.cellp ?_ c2⟩ <;> ((repeat (first | (with_reducible exact Kept.refl _) | (with_reducible refine Kept.alloc ?_ _) | (with_reducible refine Kept.drew ?_) | (with_reducible refine Kept.drewN ?_ _) | (with_reducible refine Kept.trans ?_ (by assumption)))); done)))
    (first
      | (go_at_call 19; refine (HNW.out _ (by (repeat (first | (with_reducible exact Kept.refl _) | (with_reducible refine Kept.alloc ?_ _) | (with_reducible refine Kept.drew ?_) | (with_reducible refine Kept.drewN ?_ _) | (with_reducible refine Kept.trans ?_ (by assumption)))))).mono ?_; rintro e w1 ⟨rfl, k1⟩)
      | (go_at_call 22; refine (HPS.out _ (by (repeat (first | (with_reducible exact Kept.refl _) | (with_reducible refine Kept.alloc ?_ _) | (with_reducible refine Kept.drew ?_) | (with_reducible refine Kept.drewN ?_ _) | (with_reducible refine Kept.trans ?_ (by assumption)))))).mono ?_; rintro e w2 ⟨a2, b2, rfl, s2, k2⟩)
      | (go_at_call 24; refine (HRP.out _ (by (repeat (first | (with_reducible exact Kept.refl _) | (with_reducible refine Kept.alloc ?_ _) | (with_reducible refine Kept.drew ?_) | (with_reducible refine Kept.drewN ?_ _) | (with_reducible refine Kept.trans ?_ (by assumption)))))).mono ?_; rintro e w3 ⟨a3, b3, rfl, s3, k3⟩)
      | (go_at_call 23; refine (HFS.out _ (by (repeat (first | (with_reducible exact Kept.refl _) | (with_reducible refine Kept.alloc ?_ _) | (with_reducible refine Kept.drew ?_) | (with_reducible refine Kept.drewN ?_ _) | (with_reducible refine Kept.trans ?_ (by assumption)))))).mono ?_; rintro e w4 ⟨a4, b4, rfl, s4, k4⟩)
      | (go_at_call 25; refine (HRF.out _ (by (repeat (first | (with_reducible exact Kept.refl _) | (with_reducible refine Kept.alloc ?_ _) | (with_reducible refine Kept.drew ?_) | (with_reducible refine Kept.drewN ?_ _) | (with_reducible refine Kept.trans ?_ (by assumption)))))).mono ?_; rintro e w5 ⟨a5, b5, rfl, s5, k5⟩)
      | (go_at_call 20; refine (HDS.out _ (by (repeat (first | (with_reducible exact Kept.refl _) | (with_reducible refine Kept.alloc ?_ _) | (with_reducible refine Kept.drew ?_) | (with_reducible refine Kept.drewN ?_ _) | (with_reducible refine Kept.trans ?_ (by assumption)))))).mono ?_; rintro e w6 ⟨rfl, k6⟩)
      | (go_at_call 21; refine (HAS.out _ (by (repeat (first | (with_reducible exact Kept.refl _) | (with_reducible refine Kept.alloc ?_ _) | (with_reducible refine Kept.drew ?_) | (with_reducible refine Kept.drewN ?_ _) | (with_reducible refine Kept.trans ?_ (by assumption)))))).mono ?_; rintro e w7 ⟨rfl, k7⟩)
      | (go_at_call 10; refine (ints_same _ _ _ _ _ _ _ _ (Sl.kept (by assumption) (by (repeat (first | (with_reducible exact Kept.refl _) | (with_reducible refine Kept.alloc ?_ _) | (with_reducible refine Kept.drew ?_) | (with_reducible refine Kept.drewN ?_ _) | (with_reducible refine Kept.trans ?_ (by assumption)))))) (Sl.kept (by assumption) (by (repeat (first | (with_reducible exact Kept.refl _) | (with_reducible refine Kept.alloc ?_ _) | (with_reducible refine Kept.drew ?_) | (with_reducible refine Kept.drewN ?_ _) | (with_reducible refine Kept.trans ?_ (by assumption))))))).mono ?_; rintro e w8 ⟨rfl, k8⟩))
  all_goals go_wp2_with fail
  all_goals
    go_ret
    refine ⟨rfl, ?_⟩
    (repeat (first | (with_reducible exact Kept.refl _) | (with_reducible refine Kept.alloc ?_ _) | (with_reducible refine Kept.drew ?_) | (with_reducible refine Kept.drewN ?_ _) | (with_reducible refine Kept.trans ?_ (by assumption))))
end Go.Proofs.Ytbikelbobanfbaa
