/- A tree's ways up: Depth, Within, Above; slices of places that a call makes. -/
import Derived.Test.YtbhojgodkblflaaTree1
import Derived.Deep.LoopGhost
import Derived.Deep.DeepAppendWide
import Derived.Deep.AppendLies
import Derived.Maps.AppendAt
namespace Go.Proofs.Ytbhojgodkblflaa
open Go.RowKit Go.Maps
set_option linter.unusedSimpArgs false
set_option linter.unusedVariables false

/-- Places in a row from block B on. -/
def OwnI (w : World) (B : Nat) (v : Value) (l : List Int) : Prop := w.ownsRow B 3 1 v l.length (l.map (Value.int .i64))
theorem ownI_nil (w : World) (B : Nat) : OwnI w B (.slice none 0 0) [] := World.ownsRow_nil _ _ _ _
theorem OwnI.sl {w : World} {B : Nat} {v : Value} {l : List Int} (h : OwnI w B v l) (hm : l.length ≤ maxLen) : ∃ a c, v = .slice a l.length c ∧ Sl .i64 w a l.length l := own_sl rfl hm h
theorem OwnI.base {w : World} {B B' : Nat} {v : Value} {l : List Int} (h : OwnI w B v l) (hB : B' ≤ B) : OwnI w B' v l := by
  obtain ⟨h0, h1 | ⟨g, cap, cur, hv, hb, r⟩⟩ := h
  · exact ⟨h0, .inl h1⟩
  · exact ⟨h0, .inr ⟨g, cap, cur, hv, Nat.le_trans hB hb, r⟩⟩
theorem OwnI.lt {w : World} {B : Nat} {v : Value} {l : List Int} (h : OwnI w B v l) : ∀ g, v.ownBlock = some g → B ≤ g ∧ g < w.heap.size := World.ownsRow.lt h
theorem OwnI.chg {S : Nat → Prop} {w w' : World} {B : Nat} {v : Value} {l : List Int} (h : OwnI w B v l) (g : Chg S w w') (hb : ∀ k, v.ownBlock = some k → ¬ S k) : OwnI w' B v l := by
  have hlt := h.lt
  obtain ⟨h0, h1 | ⟨k, cap, cur, hv, hb', hh, r⟩⟩ := h
  · exact ⟨h0, .inl h1⟩
  · subst hv
    refine ⟨h0, .inr ⟨k, cap, cur, rfl, hb', ?_, r⟩⟩
    rw [g.block k (hlt k rfl).2 (hb k rfl)]
    exact hh
theorem iinfo : ∃ i0, Try.prog.info? 3 = some i0 ∧ i0.zero = some (.int .i64 0) ∧ i0.size = 1 ∧ i0.bytes = 8 := by
  have h : (Try.prog.info? 3).map (fun i => (i.zero, i.size, i.bytes)) = some (some (.int .i64 0), 1, 8) := by kernel_rfl
  exact info_parts h
theorem ints_one (l : List Int) : ∀ u ∈ l.map (Value.int .i64), u.oneCell' = true := by
  intro u hu
  obtain ⟨x, _, rfl⟩ := List.mem_map.1 hu
  rfl
theorem cell_news {w : World} {g : Nat} {y : Int} (h : w.cell? ⟨g, 0, none⟩ = some (.int .i64 y)) : ∀ (j : Nat) u, [Value.int .i64 y][j]? = some u → w.cell? ((⟨g, 0, none⟩ : Addr).add j) = some u := by
  intro j u hj
  cases j with
  | zero => simp at hj; subst hj; simpa [Addr.add] using h
  | succ j => simp at hj
/-- One more place behind an own row. -/
theorem wpList_pushI {ops : Array Oper} {rest : List Oper} {o : Oper} {a : Act} {Q : Exit → Act → World → Prop} (w : World) (hgd : o.guard = none) (s x : Operand)
    (ho : o.op = .call { callee := .builtin .append, args := #[s, x], argTypes := #[95, 95] })
    (B : Nat) (v : Value) (l : List Int) (hs : a.eval s = v) (hv : OwnI w B v l) (hB : B ≤ w.heap.size) (g : Nat) (y : Int) (hx : a.eval x = .slice (some ⟨g, 0, none⟩) 1 1) (hcell : w.cell? ⟨g, 0, none⟩ = some (.int .i64 y))
    (h47 : (l.length + 1) * 8 ≤ 140737488355328) (H : Nat) (hH : w.heap.size = H)
    (h : ∀ g' cap w', OwnI w' B (.slice (some ⟨g', 0, none⟩) (l.length + 1) cap) (l ++ [y]) → Chg (fun k => v.ownBlock = some k) w w' → (v.ownBlock = some g' ∨ g' = H) → g' < w'.heap.size → wpList Try.prog ops Q rest (a.put o.dst (.slice (some ⟨g', 0, none⟩) (l.length + 1) cap)) w') : wpList Try.prog ops Q (o :: rest) a w := by
  obtain ⟨i0, hi0, hz0, hz1, hz2⟩ := iinfo
  refine wpList_append_lies w hgd s x 95 ho B 3 i0 (.int .i64 0) 1 8 Try.underlying95 hi0 hz0 hz1 hz2 rfl (by decide) v _ _ hs hv ⟨g, 0, none⟩ 1 1 [.int .i64 y] hx rfl (cell_news hcell) (by intro u hu; simp at hu; subst hu; rfl) (by omega) (by unfold maxLen; omega) (by omega) hB H hH ?_
  intro g' cap w' h2 h3 h4 h5
  refine h g' cap w' ?_ ((Chg.refl _ w).grown h3 (fun k hk => .inl hk)) h4 h5
  unfold OwnI
  simpa using h2
theorem sl_newsI {w : World} {a : Option Addr} {n : Nat} {l : List Int} (h : Sl .i64 w a n l) {ad : Addr} (ha : a = some ad) : ∀ (j : Nat) u, (l.map (Value.int .i64))[j]? = some u → w.cell? (ad.add j) = some u := by
  intro j u hj
  have hjn : j < n := by
    have := (List.getElem?_eq_some_iff.1 hj).1
    have := h.len
    simp at *; omega
  obtain ⟨bb, oo, e, _, hcs⟩ := h.cells (by omega)
  rw [ha] at e
  cases e
  have hl := h.len
  rw [Addr.add_lit, hcs j hjn, ← hj, List.getElem?_map, List.getElem?_eq_getElem (by omega)]
  simp [List.getD, List.getElem?_eq_getElem (show j < l.length by omega)]
set_option maxHeartbeats 400000 in
theorem slices_CloneI (a : Option Addr) (n c : Nat) (l : List Int) (w : World) (hs : Sl .i64 w a n l) (hl : n ≤ 1000) :
    Calls Try.prog 72 #[.slice a n c] w fun e w' => ∃ v, e = .returned v ∧ OwnI w' w.heap.size v l ∧ Kept w w' := by
  obtain ⟨i0, hi0, hz0, hz1, hz2⟩ := iinfo
  have q : ∀ (w : World) (a : Option Addr) (n c n' c' : Nat), (binOp .eql 95 (.slice a n c) (.slice none n' c')).run Try.prog w = .ok (.bool a.isNone) w := fun w a n c n' c' => Lib.run_eql_slice_nil w _ _ a n c n' c' Try.underlying95
  have H := hidMk hs
  have HA := hidMk hi0
  have HZ := hidMk hz0
  have hlen := hs.len
  have hbig := hs.big
  clear hs hi0 hz0
  cases a with
  | none =>
    have hn : n = 0 := by
      by_cases hn : 0 < n
      · obtain ⟨b, o, e, _⟩ := H.out.cells hn
        cases e
      · omega
    subst hn
    have HN := hidMk (show l = [] from List.eq_nil_of_length_eq_zero hlen)
    go_enter Try.func72, Try.ntmps72
    go_wp2
    go_ret
    refine ⟨_, rfl, ?_, Kept.refl _⟩
    rw [HN.out]
    exact World.ownsRow_nil _ _ _ _
  | some ad =>
    go_enter Try.func72, Try.ntmps72
    go_wp2_with (at_builtin; refine wpList_append_own_wide _ rfl _ _ 95 rfl w.heap.size 3 i0 (.int .i64 0) 1 8 Try.underlying95 HA.out HZ.out hz1 hz2 rfl (by decide) _ _ _ rfl (World.ownsRow_made w #[] 0 (Nat.le_refl _) (Nat.zero_le _) (by simp)) ad n c (l.map (Value.int .i64)) rfl ?c1 ?c2 ?c3 ?c4 ?c5 ?c6 ?_)
    case c1 => simpa using hlen
    case c2 => exact sl_newsI (H.out.kept ((Kept.refl w).alloc _)) rfl
    case c3 => exact ints_one l
    case c4 => rw [Nat.zero_add]; exact hbig
    case c5 => rw [Nat.zero_add]; omega
    case c6 => simp
    intro v' w1 hown hgrow hnil
    have H4 := hidMk hown
    have H5 := hidMk (show Kept w w1 from ((Below.refl _ w).alloc (Nat.le_refl _) _).grown hgrow (by simp) (by intro k hk; simp [Value.ownBlock] at hk; omega))
    clear hown hgrow hnil
    go_wp2
    go_ret
    refine ⟨_, rfl, ?_, H5.out⟩
    show OwnI w1 w.heap.size v' l
    unfold OwnI
    rw [hlen]
    simpa using H4.out

theorem tree_Depth {w : World} {p mb : Nat} {l : List Nd} (h : TB w p mb l) {m : Nat} {i : Int} (hm : m ≤ l.length) (he : Ends l m i) : Calls Try.prog 83 #[.pointer (some ⟨p, 0, none⟩), .int .i64 i] w fun e w' => e = .returned (.int .i64 (m - 1 : Nat)) ∧ w' = w := by
  have HU := hidMk (tree_Up h)
  have HH := hidMk (tree_has h)
  have HE := hidMk he
  have HX := hidMk (show ∀ j, upI l (upN l j i) = upN l (j + 1) i from fun j => rfl)
  have HX0 := hidMk (show upI l i = upN l (0 + 1) i from rfl)
  have hb := h.big
  clear h he
  go_enter Try.func83, Try.ntmps83
  go_wp2_with (go_at_call 87; refine (HU.out _).mono ?_; rintro e w1 ⟨rfl, rfl⟩)
  go_loopg [1, 5] (m - 1) (fun g a d wr => ∃ j : Nat, (j + 1 + g = m ∨ (m = 0 ∧ j = 0)) ∧ d = .int .i64 j ∧ a = .int .i64 (upN l (j + 1) i) ∧ wr = w1)
  case atStart => exact ⟨0, by omega, rfl, rfl, rfl⟩
  case round =>
    obtain ⟨j, hj, rfl, rfl, rfl⟩ := hrel
    have HJ := hidMk hj
    by_cases hlast : j + 1 < m
    · have H1 := HH.out (upN l (j + 1) i)
      rw [decide_eq_true (HE.out.2 (j + 1) hlast)] at H1
      have H2 := hidMk H1
      have H3 := hidMk (HU.out (upN l (j + 1) i))
      have HXJ := hidMk (HX.out (j + 1))
      clear H1 hj
      generalize upN l (j + 1) i = x at *
      go_wp2_with (first | (go_at_call 60; refine H2.out.mono ?_; rintro e w2 ⟨rfl, rfl⟩) | (go_at_call 87; refine H3.out.mono ?_; rintro e w2 ⟨rfl, rfl⟩))
      go_roundg (gk - 1)
      case measure => have := HJ.out; omega
      case rel =>
        refine ⟨j + 1, ?_, by go_num, by rw [HXJ.out], rfl⟩
        have := HJ.out
        omega
    · have hnp : ¬ isP l (upN l (j + 1) i) := by
        rcases hj with hj | ⟨hm0, hj0⟩
        · have : j + 1 = m := by omega
          rw [this]
          exact HE.out.1
        · subst hm0 hj0
          have h0 : ¬ isP l i := HE.out.1
          rw [← HX0.out]
          unfold upI
          rw [if_neg h0]
          unfold isP
          omega
      have H1 := HH.out (upN l (j + 1) i)
      rw [decide_eq_false hnp] at H1
      have H2 := hidMk H1
      clear H1 hj hnp
      generalize upN l (j + 1) i = x at *
      go_wp2_with (go_at_call 60; refine H2.out.mono ?_; rintro e w2 ⟨rfl, rfl⟩)
      go_ret
      refine ⟨ret_int ?_, rfl⟩
      have := HJ.out
      omega
theorem abv_take {l : List Nd} {j : Nat} {i : Int} : ((List.range (j + 1)).map fun t => upN l t i) = ((List.range j).map fun t => upN l t i) ++ [upN l j i] := by
  rw [List.range_succ, List.map_append]
  rfl
end Go.Proofs.Ytbhojgodkblflaa
