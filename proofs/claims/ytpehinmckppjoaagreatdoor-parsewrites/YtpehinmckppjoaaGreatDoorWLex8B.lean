/- A range over a function with a relation between the worlds of a round: the law for the caller. · lex: Words. -/
import Derived.Test.YtpehinmckppjoaaGreatDoorWRfStB
import Derived.Test.YtpehinmckppjoaaGreatDoorWLex7
namespace Go.Proofs.YtpehinmckppjoaaGreatDoor
open Go Go.RowKit
set_option linter.unusedSimpArgs false
set_option linter.unusedVariables false

/-- The same, without a word of the start: the iterator shows J there by itself. -/
theorem range_su {α : Type} {P : Program} {g : Operand} {ps : Array Tmp} {assign body : Code} {Q : Exit → Act → World → Prop} {a : Act} {w : World} {n gf : Nat} {lb : Array Value}
    (hg : a.eval g = .func (.func gf) #[] lb) (eg : ∀ args w, (callFunc gf args).run P w = .ok (.enter gf args) w) {encs : α → Array Value} (hps : ∀ x, (encs x).size = ps.size)
    (xs : List α) (J : List α → World → Prop) (Kp : World → World → Prop)
    (hJr : ∀ pre X o, J pre X → w.heap.size + 1 < X.heap.size → J pre (X.putObj (w.heap.size + 1) o)) (hKr : ∀ X o, w.heap.size + 1 < X.heap.size → Kp X (X.putObj (w.heap.size + 1) o)) (hKt : ∀ {A B C : World}, Kp A B → Kp B C → Kp A C)
    (hround : ∀ (R R' : Obj) (pre : List α) (x : α) (X : World), J pre X → pre ++ [x] <+: xs → Recs w.heap.size R X →
      assign.wpIn (Fence.wide.inRound (w.heap.size + 1)) n P (Exit.then (fun a1 X1 => J pre X1 ∧ Kp X X1 ∧ Recs w.heap.size R X1 ∧
        body.wpIn (Fence.wide.inRound (w.heap.size + 1)) n P (fun e _ X' => e = .normal ∧ J (pre ++ [x]) X' ∧ Kp (X1.putObj (w.heap.size + 1) R') X' ∧ Recs w.heap.size R' X') a1 (X1.putObj (w.heap.size + 1) R')) (fun _ _ _ => False))
        { tmps := (ps.zip (encs x)).foldl (fun t (p, v) => t.setIfInBounds p v) a.tmps, defers := [] } X)
    (hit : ∀ R : Obj, (∀ pre x X, J pre X → Recs w.heap.size R X → pre ++ [x] <+: xs → YieldAt Fence.wide n P (w.heap.size + 1) (encs x) X (fun e X' => e = .returned (.bool true) ∧ J (pre ++ [x]) X' ∧ Recs w.heap.size R X' ∧ Kp X X')) →
      CallsIn Fence.wide (n + 1) P gf (#[.func (.yield (w.heap.size + 1)) #[] #[]] ++ lb) ((w.alloc (.deferred (some []))).alloc R) (fun e X' => (∃ v, e = .returned v) ∧ J xs X' ∧ Recs w.heap.size R X'))
    (hdone : ∀ X, J xs X → X.heap[w.heap.size]? = some (.deferred (some [])) → Q .normal { a with defers := { target := .collected w.heap.size, args := #[] } :: a.defers } X) :
    (Code.rangeFunc g ps assign body).wpIn Fence.wide (n + 2) P Q a w := by
  refine wpIn_rangeFunc ?_
  intro fn hfn
  obtain ⟨rec, hrec⟩ : ∃ rec : LoopState → Loop, rec = fun st => { state := st, pending := none, fn, tmps := a.tmps, params := ps, assign, body, defers := w.heap.size } := ⟨_, rfl⟩
  refine ⟨w.heap.size + 1, [{ target := .collected w.heap.size, args := #[] }], (w.alloc (.deferred (some []))).alloc (.loop (rec .ready)), { target := .fn (.func gf) lb, args := #[.func (.yield (w.heap.size + 1)) #[] #[]] }, (w.alloc (.deferred (some []))).alloc (.loop (rec .ready)), gf,
    #[.func (.yield (w.heap.size + 1)) #[] #[]] ++ lb, (w.alloc (.deferred (some []))).alloc (.loop (rec .ready)), ?_, ?_, ?_, ?_, fun _ => by omega, ?_⟩
  · rw [hrec]; exact run_enterLoop_outer _ _ _ _ _
  · simp only [resolve, hg]
    simp [go_sem]
  · intro f' _; trivial
  · simp [invoke, go_sem, eg]
  · refine (hit (.loop (rec .ready)) ?_).mono ?_
    · intro pre x X hJ hR hpre
      have hlt : w.heap.size + 1 < X.heap.size := (Array.getElem?_eq_some_iff.1 hR.1).1
      have hy := run_yield (P := P) (args := encs x) hR.1 (by rw [hrec]; exact hps x)
      rw [hrec] at hy
      refine ⟨fn, _, assign, body, hy, roundIn_of_wpIn hfn (Go.wpIn_mono (hround (.loop (rec .ready)) (.loop (rec .busy)) pre x X hJ hpre hR) ?_)⟩
      rintro e a1 X1 h
      cases e with
      | normal =>
        obtain ⟨h1, h2, h3, h4⟩ := h
        have hlt1 : w.heap.size + 1 < X1.heap.size := (Array.getElem?_eq_some_iff.1 h3.1).1
        refine ⟨X1.putObj (w.heap.size + 1) (.loop (rec .busy)), ?_, Go.wpIn_mono h4 ?_⟩
        · have := run_beginRound (P := P) h3.1 (by rw [hrec])
          rw [hrec] at this ⊢
          exact this
        · rintro e2 a2 X2 ⟨rfl, j1, j2, j3⟩
          have hlt2 : w.heap.size + 1 < X2.heap.size := (Array.getElem?_eq_some_iff.1 j3.1).1
          have he := run_endRound (P := P) none j3.1
          rw [hrec] at he
          refine ⟨_, _, he, rfl, hJr _ _ _ j1 hlt2, ⟨?_, ?_⟩, ?_⟩
          · rw [hrec]; exact World.putObj_heap_same hlt2
          · exact (World.putObj_heap_other (by omega)).trans j3.2
          · exact hKt (hKt (hKt h2 (hKr _ _ hlt1)) j2) (hKr _ _ hlt2)
      | ret => exact h.elim
      | exit id => exact h.elim
      | goto t => exact h.elim
      | panic c => exact h.elim
      | outgrown => exact h.elim
    · rintro e X ⟨⟨v, rfl⟩, hJ, hR⟩
      have hlt : w.heap.size + 1 < X.heap.size := (Array.getElem?_eq_some_iff.1 hR.1).1
      have he := run_endLoop (P := P) hR.1 (by rw [hrec]; simp)
      rw [hrec] at he
      exact ⟨none, _, he, hdone _ (hJr _ _ _ hJ hlt) ((World.putObj_heap_other (by omega)).trans hR.2)⟩
end Go.Proofs.YtpehinmckppjoaaGreatDoor
namespace Go.Proofs.YtpehinmckppjoaaGreatDoor
open Go Go.RowKit Go.Maps
set_option linter.unusedSimpArgs false
set_option linter.unusedVariables false
attribute [local go_sem] Oper.semAt_some

/-- Between two rounds. -/
structure WJ (w : World) (pre : List (Nat × List UInt8)) (X : World) : Prop where
  kp : Kept w X
  big : w.heap.size + 4 ≤ X.heap.size
  row : ∃ v l, X.cell? ⟨w.heap.size, 0, none⟩ = some v ∧ OwnW 112 X (w.heap.size + 4) v l ∧ l.map cor = pre.map mkc ∧ ∀ x ∈ l, 0 < x.m → ∀ ad, x.a = some ad → w.heap.size + 4 ≤ ad.block
  fz : X.frozen? ⟨w.heap.size, 0, none⟩ = false
section
variable {w X Y : World} {pre : List (Nat × List UInt8)}
theorem WJ.chg {S : Nat → Prop} (h : WJ w pre X) (k : Chg S X Y) (hS : ∀ j, S j → w.heap.size < j ∧ j < w.heap.size + 4) : WJ w pre Y := by
  obtain ⟨v, l, h1, h2, h3, h4⟩ := h.row
  have n0 : ¬ S w.heap.size := fun e => by have := hS _ e; omega
  exact ⟨Chg.kept h.kp k (fun j e => by have := hS j e; omega), Nat.le_trans h.big k.size, ⟨v, l, k.cellp h1 n0, h2.chg k (fun g hg e => by have h5 := hS g e; have h6 := (h2.lt g hg).1; omega) (fun x hx hm ad e e2 => by have h5 := hS _ e2; have h6 := h4 x hx hm ad e; omega), h3, h4⟩, (k.frozen (p := ⟨w.heap.size, 0, none⟩) (cell_lt h1) n0).trans h.fz⟩
theorem WJ.keep (h : WJ w pre X) (k : Kept X Y) : WJ w pre Y := h.chg (S := fun _ => False) (Chg.of_kept k) (fun _ e => e.elim)
theorem WJ.put {b : Nat} {o : Obj} (h : WJ w pre X) (hb : w.heap.size < b ∧ b < w.heap.size + 4) : WJ w pre (X.putObj b o) := h.chg (chg_put X b o) (fun j e => by subst e; exact hb)
end
theorem wcor_set {x : Wd} {s : ByteArray} {k p n : Int} {ps : List ByteArray} (h : cor x = (k, s, p, n, ps)) (q : Int) : cor { x with p := q } = (k, s, q, n, ps) := by
  unfold cor at *
  simp only [Prod.mk.injEq] at *
  exact ⟨h.1, h.2.1, (by first | rfl | trivial), h.2.2.2.1, h.2.2.2.2⟩
theorem pre_at {α : Type} {pre xs : List α} {x : α} (h : pre ++ [x] <+: xs) : pre.length < xs.length ∧ xs[pre.length]? = some x := by
  obtain ⟨t, rfl⟩ := h
  refine ⟨by rw [List.length_append, List.length_append, List.length_singleton]; omega, by simp⟩
theorem take_pre {α : Type} (xs : List α) {k : Nat} (h : k < xs.length) : xs.take k ++ [xs[k]] <+: xs := by
  rw [← List.take_succ_eq_append_getElem h]
  exact List.take_prefix _ _
theorem WJ.next {w Y Z w' : World} {pre : List (Nat × List UInt8)} {v : Value} {l : List Wd} {x : Wd} {y : Nat × List UInt8} {g' cap : Nat} (h : WJ w pre Y) (k : Kept Y Z) (hv : Y.cell? ⟨w.heap.size, 0, none⟩ = some v) (ho : OwnW 112 Y (w.heap.size + 4) v l) (hc : l.map cor = pre.map mkc) (ha : ∀ x ∈ l, 0 < x.m → ∀ ad, x.a = some ad → w.heap.size + 4 ≤ ad.block)
    (o' : OwnW 112 w' (w.heap.size + 4) (.slice (some ⟨g', 0, none⟩) (l.length + 1) cap) (l ++ [x])) (c' : Chg (fun k => v.ownBlock = some k) Z w') (hx : cor x = mkc y) (hxa : 0 < x.m → ∀ ad, x.a = some ad → w.heap.size + 4 ≤ ad.block) :
    WJ w (pre ++ [y]) (w'.setCell ⟨w.heap.size, 0, none⟩ (.slice (some ⟨g', 0, none⟩) (l.length + 1) cap)) ∧ Chg (fun j => j = w.heap.size ∨ v.ownBlock = some j) Y (w'.setCell ⟨w.heap.size, 0, none⟩ (.slice (some ⟨g', 0, none⟩) (l.length + 1) cap)) := by
  have hb : ∀ g, v.ownBlock = some g → w.heap.size + 4 ≤ g := fun g e => (ho.lt g e).1
  have n0 : ¬ v.ownBlock = some w.heap.size := fun e => by have := hb _ e; omega
  have e0 := k.cellp hv
  have c1 : Chg (fun j => j = w.heap.size ∨ v.ownBlock = some j) Y w' := (Chg.of_kept k).trans (c'.mono (fun j _ e => .inr e))
  have c2 := c1.setCell (p := ⟨w.heap.size, 0, none⟩) (.inl (.inl rfl)) (.slice (some ⟨g', 0, none⟩) (l.length + 1) cap)
  have z0 := c'.cellp e0 n0
  have f0 : w'.frozen? ⟨w.heap.size, 0, none⟩ = false := ((c'.frozen (p := ⟨w.heap.size, 0, none⟩) (cell_lt e0) n0).trans (k.frozen (p := ⟨w.heap.size, 0, none⟩) (cell_lt hv))).trans h.fz
  have hall : ∀ z ∈ l ++ [x], 0 < z.m → ∀ ad, z.a = some ad → w.heap.size + 4 ≤ ad.block := by
    intro z hz
    rcases List.mem_append.1 hz with hz | hz
    · exact ha z hz
    · simp at hz; subst hz; exact hxa
  refine ⟨⟨Chg.kept h.kp c2 (fun j e => by rcases e with e | e; omega; have := hb _ e; omega), Nat.le_trans h.big c2.size, ⟨_, l ++ [x], World.cell?_setCell_same _ _ _ z0, ?_, ?_, hall⟩, by rw [World.frozen?_setCell]; exact f0⟩, c2⟩
  · exact o'.chg ((Chg.refl (fun j => j = w.heap.size) w').setCell (p := ⟨w.heap.size, 0, none⟩) (.inl rfl) _) (fun g hg e => by have := (o'.lt g hg).1; omega) (fun z hz hm ad e e2 => by have := hall z hz hm ad e; omega)
  · rw [List.map_append, List.map_append, hc, List.map_singleton, List.map_singleton, hx]
set_option maxHeartbeats 4000000 in
set_option maxRecDepth 100000 in
theorem lex_Words (s : ByteArray) (hs : s.size ≤ 10000) (w : World) (hV : Vars w) : Calls Tryz.prog 22 #[.string s] w (WordsP 112 s w) := by
  obtain ⟨W0, hW0⟩ : ∃ V, V = (w.alloc (.cells #[.slice none 0 0] 63)).alloc (.cells #[.string s] 9) := ⟨_, rfl⟩
  have hs0 : W0.heap.size = w.heap.size + 2 := by rw [hW0]; simp
  have HS0 := hidMk hs0
  have hk0 : Kept w W0 := by rw [hW0]; exact ((Kept.refl w).alloc _).alloc _
  have HK0 := hidMk hk0
  have HB0 := hidMk (show W0.cell? ⟨w.heap.size, 0, none⟩ = some (.slice none 0 0) ∧ W0.frozen? ⟨w.heap.size, 0, none⟩ = false from by
    have h1 : (w.alloc (.cells #[.slice none 0 0] 63)).cell? ⟨w.heap.size, 0, none⟩ = some (.slice none 0 0) := by simp
    have h2 : (w.alloc (.cells #[.slice none 0 0] 63)).frozen? ⟨w.heap.size, 0, none⟩ = false := by simp
    rw [hW0]
    exact ⟨((Kept.refl _).alloc _).cellp h1, (((Kept.refl _).alloc _).frozen (p := ⟨w.heap.size, 0, none⟩) (cell_lt h1)).trans h2⟩)
  have HVB := hidMk (show W0.heap[w.heap.size + 1]? = some (.cells #[.string s] 9 (0, 0)) from by
    have := World.alloc_heap_new (w.alloc (.cells #[.slice none 0 0] 63)) (.cells #[.string s] 9)
    rw [World.size_alloc] at this
    rw [hW0]
    exact this)
  have HV := hidMk hV
  have HE := hidMk (callsIn_wide (n := 2).2 (lex_each s (w.alloc (.cells #[.slice none 0 0] 63))))
  have HSZ := hidMk hs
  have HTB := hidMk (show (tks s.data.toList).length ≤ 10001 by have h1 := tks_len s.data.toList; have h2 := data_len s; omega)
  have HTM := hidMk (show ∀ y ∈ tks s.data.toList, y.2.length ≤ 10000 from fun y hy => by
    obtain ⟨k, hk, rfl⟩ := List.getElem_of_mem hy
    have := (lay_get s.data.toList hk).2.2.2.2
    rw [data_len] at this
    omega)
  clear hs0 hk0 hV hs
  refine (callsIn_wide (n := 3)).1 ?_
  refine callsIn_of_wp_marks Tryz.func22 rfl trivial ?_ rfl
  simp only [Tryz.ntmps22, List.size_toArray, List.length_cons, List.length_nil, Nat.reduceAdd, Nat.reduceSub, Array.replicate_succ, Array.replicate_zero, List.push_toArray, List.append_toArray, List.nil_append, List.cons_append]
  gi_wp2
  refine ⟨trivial, ?_⟩
  refine HE.out.mono ?_
  rintro e w1 ⟨rfl, hw1⟩
  rw [World.size_alloc, hw1, ← hW0]
  clear hw1 w1 hW0 HE
  gi_wp2
  refine range_su (n := 1) (gf := 73) (lb := #[.pointer (some ⟨w.heap.size + 1, 0, none⟩)]) ?g1 ?g2 (encs := fun y : Nat × List UInt8 => #[.int .i64 (y.1 : Nat), .string (bstr y.2)]) ?g3 (tks s.data.toList) (fun pre X => WJ w pre X) (SU (fun j => j = w.heap.size ∨ j = w.heap.size + 3)) ?g4 ?g5 ?g6 ?g7 ?g8 ?g9
  case g1 => rfl
  case g2 => exact enters_of Tryz.func73 (by kernel_rfl) rfl
  case g3 => exact fun _ => rfl
  case g4 => exact fun pre X o h _ => h.put (by have := HS0.out; omega)
  case g5 => exact fun X o _ => SU.of_chg (chg_put X _ o) (fun j e => .inl (.inr (by have := HS0.out; omega)))
  case g6 => exact fun h k => h.trans k
  case g7 =>
    intro R R' pre y X hJ hpre hR
    obtain ⟨hpl, hpa⟩ := pre_at hpre
    have HPL := hidMk (show pre.length ≤ 10001 by have := HTB.out; omega)
    have HYM := hidMk (show y.2.length ≤ 10000 from HTM.out y (List.mem_of_getElem? hpa))
    have HR := hidMk hR
    have HJ := hidMk hJ
    obtain ⟨p, wd⟩ := y
    dsimp only at *
    clear hpre hR hJ hpl hpa
    gi_wp2
    refine ⟨HJ.out, SU.refl _ _, HR.out, ?_⟩
    have HY := hidMk (HJ.out.put (b := W0.heap.size + 1) (o := R') (by have := HS0.out; omega))
    have HRY := hidMk (show Recs W0.heap.size R' (X.putObj (W0.heap.size + 1) R') from ⟨World.putObj_heap_same ((Array.getElem?_eq_some_iff.1 HR.out.1).1), (World.putObj_heap_other (by omega)).trans HR.out.2⟩)
    generalize X.putObj (W0.heap.size + 1) R' = Y at *
    clear HJ HR
    have HRD := hidMk (show ∀ lv k, CallsIn (Fence.wide.inRound lv) k Tryz.prog 46 #[.string (bstr wd)] Y (ReadP (bstr wd) 0 Y) from fun lv k => CallsIn.inRound lv (callsIn_wide.2 (lex_read (bstr wd) (by rw [bstr_size]; have := HYM.out; omega) Y (HV.out.kept HY.out.kp))))
    gi_wp2
    refine ⟨trivial, ?_⟩
    refine (HRD.out _ _).mono ?_
    rintro e w4 ⟨x, rfl, hx1, hx2, hx3, k4⟩
    have HX1 := hidMk (wcor_set hx1 (p : Int))
    have HX2 := hidMk hx2
    have HX3 := hidMk hx3
    have K4 := hidMk k4
    clear hx1 hx2 hx3 k4 HRD
    unfold wdV
    obtain ⟨v, l, hv, ho, hc, ha⟩ := HY.out.row
    have HOLT := hidMk (show ∀ g, v.ownBlock = some g → w.heap.size + 4 ≤ g ∧ g < Y.heap.size from ho.lt)
    have HNX := hidMk (show ∀ Z w' g' cap, Kept Y Z → OwnW 112 w' (w.heap.size + 4) (.slice (some ⟨g', 0, none⟩) (l.length + 1) cap) (l ++ [{ x with p := (p : Int) }]) → Chg (fun k => v.ownBlock = some k) Z w' → _ from fun Z w' g' cap kZ o' c' => HY.out.next kZ hv ho hc ha o' c' (y := (p, wd)) HX1.out (fun hm ad e => Nat.le_trans HY.out.big (HX3.out hm ad e)))
    have HTY := hidMk (show ∀ g, v.ownBlock = some g → ∃ cs, Y.heap[g]? = some (.cells cs 112 (0, 0)) from fun g hg => own_type ho.own hg)
    have HOK := hidMk (show ∀ Z, Kept Y Z → OwnW 112 Z (w.heap.size + 4) v l from fun Z kZ => ho.kept kZ)
    have HVK := hidMk (show ∀ Z, Kept Y Z → Z.cell? ⟨w.heap.size, 0, none⟩ = some v ∧ Z.frozen? ⟨w.heap.size, 0, none⟩ = false from fun Z kZ => ⟨kZ.cellp hv, (kZ.frozen (p := ⟨w.heap.size, 0, none⟩) (cell_lt hv)).trans HY.out.fz⟩)
    have HLL := hidMk (show l.length ≤ 10001 by
      have h1 := congrArg List.length hc
      rw [List.length_map, List.length_map] at h1
      have := HPL.out
      omega)
    have hvl := (HVK.out _ (K4.out.alloc (.cells #[.int .i64 x.k, .string x.t, .int .i64 (p : Int), .int .i64 x.n, .slice x.a x.m x.c] 112))).1
    clear ho hc ha hv
    gi_wp2_with (gi_at_builtin; refine wpListIn_pushW _ rfl _ _ rfl winfo_l rfl (HOK.out _ ((K4.out.alloc _).alloc _)) (by have := HY.out.big; have := K4.out.size; simp only [World.size_alloc]; omega) (w4.heap.size + 1) { x with p := (p : Int) } rfl (wcells_new _ { x with p := (p : Int) } _ (by rw [World.size_alloc])) (HX2.out.kept (((Kept.refl _).alloc _).alloc _)) (fun hm ad e e2 => by have h1 := HX3.out hm ad e; have h2 := (HOLT.out _ e2).2; omega) (by have := HLL.out; omega) ?_; intro g' cap w' o' c' x'; have hcb := c'.cellp (HVK.out _ ((K4.out.alloc _).alloc _)).1 (fun e => by have := (HOLT.out _ e).1; omega); have hfb := (c'.frozen (p := ⟨w.heap.size, 0, none⟩) (cell_lt (HVK.out _ ((K4.out.alloc _).alloc _)).1) (fun e => by have := (HOLT.out _ e).1; dsimp only at this; omega)).trans (HVK.out _ ((K4.out.alloc _).alloc _)).2; have HNX2 := hidMk (HNX.out _ _ _ _ ((K4.out.alloc _).alloc _) o' c'); clear o' c' x')
    obtain ⟨u1, u2⟩ := HNX2.out
    refine ⟨u1, SU.of_chg u2 (fun j e => ?_), ?_, ?_⟩
    · rcases e with e | e
      · exact .inl (.inl e)
      · obtain ⟨cs, h1⟩ := HTY.out j e
        exact .inr ⟨cs, _, by decide, h1⟩
    · rw [u2.block _ ((Array.getElem?_eq_some_iff.1 HRY.out.1).1) (fun e => by have h0 := HS0.out; rcases e with e | e; omega; have := (HOLT.out _ e).1; omega)]; exact HRY.out.1
    · rw [u2.block _ ((Array.getElem?_eq_some_iff.1 HRY.out.2).1) (fun e => by have h0 := HS0.out; rcases e with e | e; omega; have := (HOLT.out _ e).1; omega)]; exact HRY.out.2
  case g8 =>
    intro R hy
    refine (each_it (S := fun j => j = w.heap.size ∨ j = w.heap.size + 3) (l := W0.heap.size + 1) (vb := w.heap.size + 1) ((W0.alloc (.deferred (some []))).alloc R) (fun k X => WJ w ((tks s.data.toList).take k) X ∧ Recs W0.heap.size R X) (fun _ => False) s HSZ.out ?h1 (by omega) ?h2 ?h3 ?h4 (1 + 1) ?h5).mono ?h6
    case h1 =>
      have h1 : w.heap.size + 1 < W0.heap.size := by have := HS0.out; omega
      exact ((((Kept.refl W0).alloc _).alloc _).block _ h1).trans HVB.out
    case h2 => intro j e; simp only [World.size_alloc]; have := HS0.out; omega
    case h3 => exact fun k X h => HV.out.kept h.1.kp
    case h4 =>
      intro Y kY
      have kA : Kept W0 ((W0.alloc (.deferred (some []))).alloc R) := ((Kept.refl W0).alloc _).alloc _
      refine ⟨⟨(HK0.out.trans kA).trans kY, ?_, ⟨.slice none 0 0, [], kY.cellp (kA.cellp HB0.out.1), ownW_nil _ _ _, by simp, by simp⟩, ?_⟩, ?_, ?_⟩
      · have := kY.size; simp only [World.size_alloc] at this; have := HS0.out; omega
      · exact (kY.frozen (p := ⟨w.heap.size, 0, none⟩) (cell_lt (kA.cellp HB0.out.1))).trans ((kA.frozen (p := ⟨w.heap.size, 0, none⟩) (cell_lt HB0.out.1)).trans HB0.out.2)
      · have := World.alloc_heap_new (W0.alloc (.deferred (some []))) R
        rw [World.size_alloc] at this
        exact (kY.block _ (by simp only [World.size_alloc]; omega)).trans this
      · have h1 := World.alloc_heap_new W0 (.deferred (some []))
        have h2 := ((Kept.refl (W0.alloc (.deferred (some [])))).alloc R).block W0.heap.size (by rw [World.size_alloc]; omega)
        exact (kY.block _ (by simp only [World.size_alloc]; omega)).trans (h2.trans h1)
    case h5 =>
      intro k X hJ hk
      refine (hy ((tks s.data.toList).take k) (tks s.data.toList)[k] X hJ.1 hJ.2 (take_pre _ hk)).mono ?_
      rintro e X' ⟨h1, h2, h3, h4⟩
      rw [← List.take_succ_eq_append_getElem hk] at h2
      exact .inl ⟨h1, ⟨h2, h3⟩, h4⟩
    case h6 =>
      rintro e X' ⟨h1, h2 | h2⟩
      · rw [List.take_of_length_le (Nat.le_refl _)] at h2
        exact ⟨h1, h2.1, h2.2⟩
      · exact h2.elim
  case g9 =>
    intro X hJ hD
    obtain ⟨v, l, hv, ho, hc, ha⟩ := hJ.row
    have HD := hidMk hD
    have HO := hidMk ho
    have HC := hidMk hc
    have HAP := hidMk ha
    have HKP := hidMk hJ.kp
    clear hJ hD ho hc ha
    gi_wp2
    refine ⟨by simp, .inl ⟨_, _, rfl, run_takeDeferred HD.out, ?_⟩⟩
    have hsz := HS0.out
    refine ⟨_, results_tmp rfl _ _ _, ⟨v, l, rfl, ?_, HC.out, put_kept HKP.out (by omega)⟩⟩
    exact (HO.out.chg (chg_put X W0.heap.size (.deferred none)) (fun k hk e => by have := (HO.out.lt k hk).1; omega) (fun x hx hm ad e e2 => by have := HAP.out x hx hm ad e; omega)).base (by omega)
end Go.Proofs.YtpehinmckppjoaaGreatDoor
