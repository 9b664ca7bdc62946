/- The definition's tree: Kids, Leaf, down, Order, Leaves, Rank, Span. · The definition's tree: down, Order, Leaves. · The definition's tree: Leaves, Rank, Span. · The definition's tree: Span. -/
import Derived.Test.YtbhojgodkblflaaRefTree2B
namespace Go.Proofs.Ytbhojgodkblflaa
open Go.RowKit Go.Maps
set_option linter.unusedSimpArgs false
set_option linter.unusedVariables false

theorem kidsI_K (l : List Nd) (i : Int) (hp : isP l i) : kidsI l i = ints (kidK l l.length i) := by unfold kidsI; rw [if_pos hp]; rfl
set_option maxHeartbeats 1000000 in
theorem r_Kids {w : World} {p : Nat} {l : List Nd} (h : RT w p l) (i : Int) : Calls Try.prog 78 #[.pointer (some ⟨p, 0, none⟩), .int .i64 i] w fun e w' => ∃ v, e = .returned v ∧ OwnI w' w.heap.size v (kidsI l i) ∧ Kept w w' := by
  have HT := hidMk h
  have hb := h.big
  obtain ⟨b, cc, q1, q2⟩ := h.cells
  have Q1 := hidMk q1
  have Q2 := hidMk q2
  have HIS := hidMk (show ∀ y, Kept w y → _ from fun y hy => r_is (h.kept hy) i)
  clear h q1 q2
  by_cases hp : isP l i
  · rw [kidsI_K l i hp]
    rw [decide_eq_true hp] at HIS
    go_enter Try.func78, Try.ntmps78
    go_wp2_with fail
    go_loopg [5, 6] l.length (fun g v x wr => ∃ k : Nat, k + g = l.length ∧ x = .int .i64 k ∧ Kept w wr ∧ OwnI wr w.heap.size v (ints (kidK l k i)))
    case atStart => exact ⟨0, by omega, rfl, Kept.refl _, ownI_nil _ _⟩
    case round =>
      obtain ⟨k, hkg, rfl, hk, ho⟩ := hrel
      have HKG := hidMk hkg
      have HK := hidMk hk
      have HO := hidMk ho
      have hkl := kidK_len l k i
      have q1 := Q1.out wr hk
      have H2 := hidMk (HIS.out wr hk)
      by_cases hkn : k < l.length
      · have q3 := (Q2.out k hkn wr hk).2
        have hks := kidK_succ l k i
        have HKS := hidMk hks
        clear hkg hk ho hks
        by_cases hu : upA l k = i
        · rw [if_pos hu] at HKS
          rw [hu] at q3
          clear hu
          generalize kidK l k i = L at *
          go_wp2_with (first | (go_at_call 77; refine H2.out.mono ?_; rintro e w2 ⟨rfl, rfl⟩) | (at_builtin; refine wpList_pushI _ rfl _ _ rfl w.heap.size _ (ints L) rfl (HO.out.chg (S := fun _ => False) (Chg.of_kept ((Kept.refl _).alloc _)) (fun _ _ e => e)) ?c1 _ (k : Int) rfl ?c2 ?c3 _ rfl ?_))
          case c1 => simp; have := HK.out.size; omega
          case c2 => simp
          case c3 => rw [ints_len]; omega
          intro g' cap w3 o3 k3 _ _
          have K3 := hidMk (show Kept w w3 from k3.kept (HK.out.alloc _) (fun t ht => (HO.out.lt t ht).1))
          have O3 := hidMk o3
          clear o3 k3
          go_wp2_with fail
          go_roundg (gk - 1)
          case measure => have := HKG.out; omega
          case rel =>
            refine ⟨k + 1, by have := HKG.out; omega, by go_num, K3.out, ?_⟩
            rw [HKS.out, ints_app]
            exact O3.out
        · rw [if_neg hu] at HKS
          generalize upA l k = u at *
          have hu' : (u == i) = false := by simpa using hu
          clear hu
          go_wp2_with (go_at_call 77; refine H2.out.mono ?_; rintro e w2 ⟨rfl, rfl⟩)
          go_roundg (gk - 1)
          case measure => have := HKG.out; omega
          case rel =>
            refine ⟨k + 1, by have := HKG.out; omega, by go_num, HK.out, ?_⟩
            rw [HKS.out]
            exact HO.out
      · have e : k = l.length := by omega
        subst e
        clear hk ho hkg
        have hkk : ¬ ((l.length : Int) < (l.length : Int)) := by omega
        go_wp2_with fail
        go_ret
        exact ⟨_, rfl, HO.out, HK.out⟩
  · have e : kidsI l i = [] := if_neg hp
    rw [e]
    rw [decide_eq_false hp] at HIS
    have q1 := Q1.out w (Kept.refl w)
    clear e hp
    go_enter Try.func78, Try.ntmps78
    go_wp2_with fail
    refine wp_loop_rounds 1 ?_
    rw [rounds_succ]
    by_cases h0 : 0 < l.length
    · have h0' : (0 : Int) < l.length := by omega
      go_wp2_with (go_at_call 77; refine (HIS.out _ (Kept.refl _)).mono ?_; rintro e w2 ⟨rfl, rfl⟩)
      go_ret
      exact ⟨_, rfl, ownI_nil _ _, Kept.refl _⟩
    · have h0' : ¬ ((0 : Int) < l.length) := by omega
      go_wp2_with fail
      go_ret
      exact ⟨_, rfl, ownI_nil _ _, Kept.refl _⟩
theorem r_Leaf {w : World} {p : Nat} {l : List Nd} (h : RT w p l) (i : Int) : Calls Try.prog 57 #[.pointer (some ⟨p, 0, none⟩), .int .i64 i] w fun e w' => e = .returned (.bool (leafI l i)) ∧ Kept w w' := by
  have H := hidMk (r_is h i)
  have HKD := hidMk (r_Kids h i)
  have hb := h.big
  clear h
  by_cases hp : isP l i
  · rw [decide_eq_true hp] at H
    obtain ⟨k, rfl⟩ : ∃ k : Nat, i = k := ⟨i.toNat, by have := hp.1; omega⟩
    have e : leafI l k = leafB l k := by unfold leafI; rw [decide_eq_true hp]; rfl
    rw [e]
    rw [show kidsI l k = ints (kidN l k) from if_pos hp] at HKD
    have hkl := kidK_len l l.length k
    have HLB := hidMk (show leafB l k = (kidN l k).isEmpty from rfl)
    rw [show kidK l l.length (k : Int) = kidN l k from rfl] at hkl
    clear e hp
    generalize leafB l k = lb at *
    generalize kidN l (k : Int) = L at *
    go_enter Try.func57, Try.ntmps57
    go_wp2_with (first | (go_at_call 77; refine H.out.mono ?_; rintro e w1 ⟨rfl, rfl⟩) | (go_at_call 78; refine HKD.out.mono ?_; rintro e w2 ⟨v2, rfl, o2, k2⟩; obtain ⟨a2, c2, rfl, _⟩ := o2.sl (by rw [ints_len]; unfold maxLen; omega); rw [ints_len]; have K2 := hidMk k2; clear o2 k2))
    go_ret
    refine ⟨?_, K2.out⟩
    rw [HLB.out]
    cases L <;> simp
    omega
  · rw [decide_eq_false hp] at H
    have e : leafI l i = false := by unfold leafI; rw [decide_eq_false hp]; rfl
    rw [e]
    clear e hp
    go_enter Try.func57, Try.ntmps57
    go_wp2_with (go_at_call 77; refine H.out.mono ?_; rintro e w1 ⟨rfl, rfl⟩)
    go_ret
    exact ⟨rfl, Kept.refl _⟩
end Go.Proofs.Ytbhojgodkblflaa
namespace Go.Proofs.Ytbhojgodkblflaa
open Go.RowKit Go.Maps
set_option linter.unusedSimpArgs false
set_option linter.unusedVariables false

/-- Places behind an own row. -/
theorem wpList_catI {ops : Array Oper} {rest : List Oper} {o : Oper} {a : Act} {Q : Exit → Act → World → Prop} (w : World) (hgd : o.guard = none) (s x : Operand)
    (ho : o.op = .call { callee := .builtin .append, args := #[s, x], argTypes := #[95, 95] })
    (B : Nat) (v : Value) (l : List Int) (hs : a.eval s = v) (hv : OwnI w B v l) (hB : B ≤ w.heap.size) (ad : Addr) (m c : Nat) (M : List Int) (hx : a.eval x = .slice (some ad) m c) (hM : Sl .i64 w (some ad) m M)
    (h47 : (l.length + m) * 8 ≤ 140737488355328) (hm : 0 < m)
    (h : ∀ g cap w', OwnI w' B (.slice (some ⟨g, 0, none⟩) (l.length + m) cap) (l ++ M) → Chg (fun k => v.ownBlock = some k) w w' → (v.ownBlock = some g ∨ g = w.heap.size) → wpList Try.prog ops Q rest (a.put o.dst (.slice (some ⟨g, 0, none⟩) (l.length + m) cap)) w') : wpList Try.prog ops Q (o :: rest) a w := by
  obtain ⟨i0, hi0, hz0, hz1, hz2⟩ := iinfo
  have hlen := hM.len
  refine wpList_append_lies w hgd s x 95 ho B 3 i0 (.int .i64 0) 1 8 Try.underlying95 hi0 hz0 hz1 hz2 rfl (by decide) v _ _ hs hv ad m c (M.map (Value.int .i64)) hx (by simpa using hlen) (sl_newsI hM rfl) (ints_one M) hm (by unfold maxLen; omega) (by omega) hB w.heap.size rfl ?_
  intro g cap w' h2 h3 h4 h5
  refine h g cap w' ?_ ((Chg.refl _ w).grown h3 (fun k hk => .inl hk)) h4
  unfold OwnI
  rw [List.length_append, List.map_append, hlen]
  exact h2
theorem ownI_one (w : World) (i : Nat) : OwnI (w.alloc (.cells #[.int .i64 (i : Nat)] 3)) w.heap.size (.slice (some ⟨w.heap.size, 0, none⟩) 1 1) [(i : Int)] :=
  ⟨by simp, .inr ⟨w.heap.size, 1, #[.int .i64 (i : Nat)], rfl, Nat.le_refl _, heap_alloc_new w _, by simp, by unfold maxLen; omega, by simp, by simp⟩⟩
def refD (l : List Nd) : Nat → Nat → List Nat
  | 0, i => [i]
  | f + 1, i => i :: (kidN l i).flatMap (refD l f)
theorem refD_fit {l : List Nd} {d : Nat} : ∀ {f i : Nat}, Fit l d (kidN l i) → d ≤ f → refD l f i = i :: dfsL l d (kidN l i) := by
  induction d with
  | zero =>
    intro f i h _
    have e : kidN l i = [] := h
    cases f with
    | zero => rfl
    | succ f => simp [refD, e, dfsL]
  | succ d ih =>
    intro f i h hd
    cases f with
    | zero => omega
    | succ f =>
      show i :: (kidN l i).flatMap (refD l f) = i :: (kidN l i).flatMap fun k => k :: dfsL l d (kidN l k)
      congr 1
      have e : ∀ qs : List Nat, (∀ q, q ∈ qs → q ∈ kidN l i) → qs.flatMap (refD l f) = qs.flatMap fun k => k :: dfsL l d (kidN l k) := by
        intro qs hq
        induction qs with
        | nil => rfl
        | cons q r ihr =>
          simp only [List.flatMap_cons]
          rw [ih (h q (hq q (List.mem_cons_self ..))) (by omega), ihr (fun x hx => hq x (List.mem_cons_of_mem _ hx))]
      exact e _ (fun q hq => hq)
theorem refD_pos (l : List Nd) (f i : Nat) : 0 < (refD l f i).length := by
  cases f <;> simp [refD]
set_option maxHeartbeats 2000000 in
set_option maxRecDepth 100000 in
theorem r_down {l : List Nd} {p : Nat} (f : Nat) : ∀ (i deep : Nat) (w : World), deep + f = 40 → i < l.length → RT w p l → (refD l f i).length ≤ 1000 →
    Calls Try.prog 76 #[.pointer (some ⟨p, 0, none⟩), .int .i64 i, .int .i64 deep] w fun e w' => ∃ v, e = .returned v ∧ OwnI w' w.heap.size v (ints (refD l f i)) ∧ Kept w w' := by
  induction f with
  | zero =>
    intro i deep w hd hi h hlen
    have e : deep = 40 := by omega
    subst e
    have hb := h.big
    have HKD := hidMk (fun y (hy : Kept w y) => r_Kids (h.kept hy) i)
    rw [show kidsI l i = ints (kidN l i) from if_pos (isP_nat hi)] at HKD
    have hkl := kidK_len l l.length i
    rw [show kidK l l.length (i : Int) = kidN l i from rfl] at hkl
    clear h
    generalize kidN l (i : Int) = L at *
    have HO := hidMk (ownI_one w i)
    go_enter Try.func76, Try.ntmps76
    go_wp2_with (go_at_call 78; refine (HKD.out _ ((Kept.refl w).alloc _)).mono ?_; rintro e w2 ⟨v2, rfl, o2, k2⟩; obtain ⟨a2, c2, rfl, _⟩ := o2.sl (by rw [ints_len]; unfold maxLen; omega); rw [ints_len]; have K2 := hidMk k2; clear o2 k2)
    refine wp_loop_rounds 1 ?_
    rw [rounds_succ]
    go_wp2_with fail
    all_goals go_ret
    all_goals exact ⟨_, rfl, HO.out.chg (S := fun _ => False) (Chg.of_kept K2.out) (fun _ _ e => e), ((Kept.refl w).alloc _).trans K2.out⟩
  | succ f ih =>
    intro i deep w hd hi h hlen
    have hb := h.big
    have HRT := hidMk h
    have IH := hidMk ih
    have HKD := hidMk (fun y (hy : Kept w y) => r_Kids (h.kept hy) i)
    rw [show kidsI l i = ints (kidN l i) from if_pos (isP_nat hi)] at HKD
    have hkl := kidK_len l l.length i
    rw [show kidK l l.length (i : Int) = kidN l i from rfl] at hkl
    have HL := hidMk (show ∀ q, q ∈ kidN l i → q < l.length from fun q hq => (mem_kidN.1 hq).1)
    have hrd : refD l (f + 1) i = i :: (kidN l i).flatMap (refD l f) := rfl
    rw [hrd] at hlen ⊢
    clear h ih hrd
    generalize kidN l (i : Int) = L at *
    have HO := hidMk (ownI_one w i)
    have HLN := hidMk hlen
    have hdp : (deep : Int) < 40 := by omega
    have hdp2 : deep + 1 + f = 40 := by omega
    clear hlen
    go_enter Try.func76, Try.ntmps76
    go_wp2_with (go_at_call 78; refine (HKD.out _ ((Kept.refl w).alloc _)).mono ?_; rintro e w2 ⟨v2, rfl, o2, k2⟩; obtain ⟨a2, c2, rfl, s2⟩ := o2.sl (by rw [ints_len]; unfold maxLen; omega); have B2 := hidMk (show ∀ ad, a2 = some ad → w.heap.size < ad.block from fun ad had => by have := (o2.lt ad.block (by rw [had]; rfl)).1; simp at this; omega); rw [ints_len] at s2 ⊢; have K2 := hidMk (((Kept.refl w).alloc _).trans k2); have S2 := hidMk s2; have O2 := hidMk (HO.out.chg (S := fun _ => False) (Chg.of_kept k2) (fun _ _ e => e)); clear o2 k2 s2)
    go_loopg [7, 9] L.length (fun g v x wr => ∃ k : Nat, k + g = L.length ∧ x = .int .i64 k ∧ Kept w wr ∧ Sl .i64 wr a2 L.length (ints L) ∧ OwnI wr w.heap.size v (ints (i :: (L.take k).flatMap (refD l f))) ∧ Hid (∀ ad, a2 = some ad → v.ownBlock ≠ some ad.block))
    case atStart => exact ⟨0, by omega, rfl, K2.out, S2.out, by simpa [ints] using O2.out, hidMk fun ad had e => by have := B2.out ad had; simp [Value.ownBlock] at e; omega⟩
    case round =>
      obtain ⟨k, hkg, rfl, hk, hsl, ho, HAP⟩ := hrel
      have HKG := hidMk hkg
      have HK := hidMk hk
      have HO3 := hidMk ho
      have HS3 := hidMk hsl
      by_cases hkn : k < L.length
      · obtain ⟨b, oo, rfl, hbb, hcs⟩ := hsl.cells (by omega)
        have hc := hcs k hkn
        rw [ints_get L k hkn] at hc
        have HTK := hidMk (show (L.take (k + 1)).flatMap (refD l f) = (L.take k).flatMap (refD l f) ++ refD l f L[k] by
          rw [List.take_succ_eq_append_getElem hkn, List.flatMap_append]
          simp)
        have HLE := hidMk (show ((L.take k).flatMap (refD l f)).length + (refD l f L[k]).length + 1 ≤ 1000 by
          have e : L.flatMap (refD l f) = (L.take (k + 1)).flatMap (refD l f) ++ (L.drop (k + 1)).flatMap (refD l f) := by rw [← List.flatMap_append, List.take_append_drop]
          have := HLN.out
          rw [e, HTK.out] at this
          simp only [List.length_cons, List.length_append] at this
          omega)
        have hq := HL.out L[k] (List.getElem_mem hkn)
        have HC := hidMk (IH.out L[k] (deep + 1) wr hdp2 hq (HRT.out.kept hk) (by have := HLE.out; omega))
        have HPOS := hidMk (refD_pos l f L[k])
        clear hcs hkg hk ho hsl
        generalize L[k] = q at *
        have hpl : (ints (i :: (L.take k).flatMap (refD l f))).length = ((L.take k).flatMap (refD l f)).length + 1 := by rw [ints_len]; rfl
        generalize (L.take k).flatMap (refD l f) = P at *
        generalize refD l f q = R at *
        go_wp2_with (first | (go_at_call 76; refine HC.out.mono ?_; rintro e w4 ⟨v4, rfl, o4, k4⟩; obtain ⟨a4, c4, rfl, s4⟩ := o4.sl (by rw [ints_len]; have := HLE.out; unfold maxLen; omega); rw [ints_len] at s4 ⊢; obtain ⟨b4, o4', rfl, _, _⟩ := s4.cells HPOS.out; have K4 := hidMk (HK.out.trans k4); have S4 := hidMk s4; have S5 := hidMk (HS3.out.kept k4); have O4 := hidMk (HO3.out.chg (S := fun _ => False) (Chg.of_kept k4) (fun _ _ e => e)); clear o4 k4 s4) | (at_builtin; refine wpList_catI _ rfl _ _ rfl w.heap.size _ (ints (i :: P)) rfl O4.out ?c1 _ _ _ (ints R) rfl S4.out ?c2 HPOS.out ?_))
        case c1 => exact K4.out.size
        case c2 => rw [hpl]; have := HLE.out; omega
        intro g5 cap5 w5 o5 k5 a5
        have K5 := hidMk (show Kept w w5 from k5.kept K4.out (fun t ht => (O4.out.lt t ht).1))
        have O5 := hidMk o5
        have S6 := hidMk (S5.out.chg k5 (fun _ ad had e => HAP.out ad had e))
        have AP5 := hidMk (show ∀ ad, some (⟨b, oo, none⟩ : Addr) = some ad → (Value.slice (some ⟨g5, 0, none⟩) ((ints (i :: P)).length + R.length) cap5).ownBlock ≠ some ad.block from fun ad had e => by
          simp only [Value.ownBlock, Option.some.injEq] at e
          rcases a5 with a5 | a5
          · exact HAP.out ad had (by rw [a5, e])
          · cases had
            have hlt := S5.out.cells (by omega)
            obtain ⟨b', o', e1, e2, _⟩ := hlt
            cases e1
            have : g5 = b := e
            omega)
        clear o5 k5
        go_wp2_with fail
        go_roundg (gk - 1)
        case measure => have := HKG.out; omega
        case rel =>
          refine ⟨k + 1, by have := HKG.out; omega, by go_num, K5.out, S6.out, ?_, AP5⟩
          rw [HTK.out, ← List.cons_append, ints_app]
          exact O5.out
      · have e : k = L.length := by omega
        have hkk : ¬ ((k : Int) < (L.length : Int)) := by omega
        have HF := hidMk (show L.take k = L from List.take_of_length_le (by omega))
        clear hk ho hsl hkg
        go_wp2_with fail
        go_ret
        refine ⟨_, rfl, ?_, HK.out⟩
        have := HO3.out
        rw [HF.out] at this
        exact this
theorem dfs_top1 {l : List Nd} (h : Tr l) {i : Nat} (hi : i ∈ topsN l) : refD l 40 i = dfsL l 6 [i] := by
  have hf : Fit l 5 (kidN l i) := fit_tops h i hi
  rw [refD_fit hf (by omega)]
  simp [dfsL]
set_option maxHeartbeats 1000000 in
theorem r_Order {w : World} {p : Nat} {l : List Nd} (h : RT w p l) (ht : Tr l) : Calls Try.prog 56 #[.pointer (some ⟨p, 0, none⟩)] w fun e w' => ∃ v, e = .returned v ∧ OwnI w' w.heap.size v (ints (ordN l)) ∧ Kept w w' := by
  have HRT := hidMk h
  have HTR := hidMk ht
  have hb := h.big
  obtain ⟨b, cc, q1, q2⟩ := h.cells
  have Q1 := hidMk q1
  have Q2 := hidMk q2
  have HON := hidMk (show ordN l = dfsL l 6 (kidK l l.length (-1)) from rfl)
  have hol := ord_len ht
  clear h q1 q2 ht
  generalize ordN l = ON at *
  go_enter Try.func56, Try.ntmps56
  go_wp2_with fail
  go_loopg [3, 4] l.length (fun g v x wr => ∃ k : Nat, k + g = l.length ∧ x = .int .i64 k ∧ Kept w wr ∧ OwnI wr w.heap.size v (ints (dfsL l 6 (kidK l k (-1)))))
  case atStart => exact ⟨0, by omega, rfl, Kept.refl _, ownI_nil _ _⟩
  case round =>
    obtain ⟨k, hkg, rfl, hk, ho⟩ := hrel
    have HKG := hidMk hkg
    have HK := hidMk hk
    have HO := hidMk ho
    have q1 := Q1.out wr hk
    by_cases hkn : k < l.length
    · have q3 := (Q2.out k hkn wr hk).2
      have hks := kidK_succ l k (-1)
      rcases HTR.out.ups k hkn with hu | hu
      · rw [if_pos hu] at hks
        have hkt : k ∈ topsN l := mem_kidN.2 ⟨hkn, hu⟩
        have hrd := dfs_top1 HTR.out hkt
        have HLE := hidMk (show (dfsL l 6 (kidK l k (-1))).length + (dfsL l 6 [k]).length ≤ 60 by
          have hsub : (kidK l (k + 1) (-1)).Sublist (kidK l l.length (-1)) := by
            unfold kidK
            exact List.Sublist.filter _ (List.range_sublist.2 (by omega))
          have e1 : (dfsL l 6 (kidK l (k + 1) (-1))).length ≤ (dfsL l 6 (kidK l l.length (-1))).length := by
            obtain ⟨m, hm⟩ : ∃ m, kidK l l.length (-1) = kidK l (k + 1) (-1) ++ m := by
              unfold kidK
              refine ⟨((List.range' (k + 1) (l.length - (k + 1))).filter fun i => decide (upA l i = -1)), ?_⟩
              rw [← List.filter_append]
              congr 1
              rw [List.range_eq_range', List.range_eq_range']
              have t := List.range'_append_1 (s := 0) (m := k + 1) (n := l.length - (k + 1))
              rw [show k + 1 + (l.length - (k + 1)) = l.length by omega, Nat.zero_add] at t
              exact t.symm
            rw [hm, dfsL_app, List.length_append]
            omega
          rw [hks, dfsL_app, List.length_append] at e1
          have := HON.out
          rw [← this] at e1
          omega)
        have HC := hidMk (r_down 40 k 0 wr (by omega) hkn (HRT.out.kept hk) (by rw [hrd]; have := HLE.out; omega))
        have HPOS := hidMk (refD_pos l 40 k)
        rw [hrd] at HC HPOS
        have HKS := hidMk (show dfsL l 6 (kidK l (k + 1) (-1)) = dfsL l 6 (kidK l k (-1)) ++ dfsL l 6 [k] by rw [hks, dfsL_app])
        rw [hu] at q3
        clear hks hrd hkt hu hk ho hkg
        generalize dfsL l 6 (kidK l k (-1)) = P at *
        generalize dfsL l 6 [k] = R at *
        go_wp2_with (first | (go_at_call 76; refine HC.out.mono ?_; rintro e w4 ⟨v4, rfl, o4, k4⟩; obtain ⟨a4, c4, rfl, s4⟩ := o4.sl (by rw [ints_len]; have := HLE.out; unfold maxLen; omega); rw [ints_len] at s4 ⊢; obtain ⟨b4, o4', rfl, _, _⟩ := s4.cells HPOS.out; have K4 := hidMk (HK.out.trans k4); have S4 := hidMk s4; have O4 := hidMk (HO.out.chg (S := fun _ => False) (Chg.of_kept k4) (fun _ _ e => e)); clear o4 k4 s4) | (at_builtin; refine wpList_catI _ rfl _ _ rfl w.heap.size _ (ints P) rfl O4.out ?c1 _ _ _ (ints R) rfl S4.out ?c2 HPOS.out ?_))
        case c1 => exact K4.out.size
        case c2 => rw [ints_len]; have := HLE.out; omega
        intro g5 cap5 w5 o5 k5 a5
        have K5 := hidMk (show Kept w w5 from k5.kept K4.out (fun t ht => (O4.out.lt t ht).1))
        have O5 := hidMk o5
        clear o5 k5 a5
        go_wp2_with fail
        go_roundg (gk - 1)
        case measure => have := HKG.out; omega
        case rel =>
          refine ⟨k + 1, by have := HKG.out; omega, by go_num, K5.out, ?_⟩
          rw [HKS.out, ints_app]
          exact O5.out
      · rw [if_neg (by have := hu.1; omega)] at hks
        have HKS := hidMk hks
        have hu0 : ¬ (upA l k < 0) := by have := hu.1; omega
        clear hks hu hk ho hkg
        generalize upA l k = u at *
        go_wp2_with fail
        go_roundg (gk - 1)
        case measure => have := HKG.out; omega
        case rel =>
          refine ⟨k + 1, by have := HKG.out; omega, by go_num, HK.out, ?_⟩
          rw [HKS.out]
          exact HO.out
    · have e : k = l.length := by omega
      subst e
      clear hk ho hkg
      have hkk : ¬ ((l.length : Int) < (l.length : Int)) := by omega
      go_wp2_with fail
      go_ret
      exact ⟨_, rfl, by rw [HON.out]; exact HO.out, HK.out⟩
end Go.Proofs.Ytbhojgodkblflaa
namespace Go.Proofs.Ytbhojgodkblflaa
open Go.RowKit Go.Maps
set_option linter.unusedSimpArgs false
set_option linter.unusedVariables false

theorem leafI_nat {l : List Nd} {x : Nat} (h : x < l.length) : leafI l x = leafB l x := by unfold leafI; rw [decide_eq_true (isP_nat h)]; rfl
set_option maxHeartbeats 1000000 in
theorem r_Leaves {w : World} {p : Nat} {l : List Nd} (h : RT w p l) (ht : Tr l) : Calls Try.prog 39 #[.pointer (some ⟨p, 0, none⟩)] w fun e w' => ∃ v, e = .returned v ∧ OwnI w' w.heap.size v (ints (lvsN l)) ∧ Kept w w' := by
  have HRT := hidMk h
  have hb := h.big
  have HC := hidMk (r_Order h ht)
  have hol := ord_len ht
  have HLV := hidMk (show lvsN l = (ordN l).filter (leafB l) from rfl)
  have HLT := hidMk (@ord_lt l)
  clear h ht
  generalize lvsN l = LV at *
  generalize ordN l = ON at *
  go_enter Try.func39, Try.ntmps39
  go_wp2_with (go_at_call 56; refine HC.out.mono ?_; rintro e w2 ⟨v2, rfl, o2, k2⟩; obtain ⟨a2, c2, rfl, s2⟩ := o2.sl (by rw [ints_len]; unfold maxLen; omega); rw [ints_len] at s2 ⊢; have K2 := hidMk k2; have S2 := hidMk s2; clear o2 k2 s2)
  go_loopg [3, 5] ON.length (fun g v x wr => ∃ k : Nat, k + g = ON.length ∧ x = .int .i64 k ∧ Kept w2 wr ∧ OwnI wr w2.heap.size v (ints ((ON.take k).filter (leafB l))))
  case atStart => exact ⟨0, by omega, rfl, Kept.refl _, ownI_nil _ _⟩
  case round =>
    obtain ⟨k, hkg, rfl, hk, ho⟩ := hrel
    have HKG := hidMk hkg
    have HK := hidMk hk
    have HO := hidMk ho
    by_cases hkn : k < ON.length
    · obtain ⟨b, oo, rfl, _, hcs⟩ := (S2.out.kept hk).cells (by omega)
      have hc := hcs k hkn
      rw [ints_get ON k hkn] at hc
      have hx := HLT.out ON[k] (List.getElem_mem hkn)
      have hlf := r_Leaf (HRT.out.kept (K2.out.trans hk)) (ON[k] : Nat)
      rw [leafI_nat hx] at hlf
      have htk : (ON.take (k + 1)).filter (leafB l) = (ON.take k).filter (leafB l) ++ [ON[k]].filter (leafB l) := by rw [List.take_succ_eq_append_getElem hkn, List.filter_append]
      have hfl := List.length_filter_le (leafB l) (ON.take k)
      rw [List.length_take] at hfl
      generalize ON[k] = y at *
      clear hcs hk ho hkg
      cases hl : leafB l y with
      | true =>
        rw [hl] at hlf
        have HLF := hidMk hlf
        have HTK := hidMk (show (ON.take (k + 1)).filter (leafB l) = (ON.take k).filter (leafB l) ++ [y] by rw [htk]; simp [hl])
        clear hlf htk hl
        generalize (ON.take k).filter (leafB l) = P at *
        go_wp2_with fail
        refine HLF.out.mono ?_
        rintro e w4 ⟨rfl, k4⟩
        have K4 := hidMk (HK.out.trans k4)
        have hc4 := k4.cellp hc
        have O4 := hidMk (HO.out.chg (S := fun _ => False) (Chg.of_kept k4) (fun _ _ e => e))
        clear k4 hc
        go_wp2_with (at_builtin; refine wpList_pushI _ rfl _ _ rfl w2.heap.size _ (ints P) rfl (O4.out.chg (S := fun _ => False) (Chg.of_kept ((Kept.refl _).alloc _)) (fun _ _ e => e)) ?c1 _ (y : Int) rfl ?c2 ?c3 _ rfl ?_)
        case c1 => simp; have := K4.out.size; omega
        case c2 => simp
        case c3 => rw [ints_len]; omega
        intro g' cap w5 o5 k5 _ _
        have K5 := hidMk (show Kept w2 w5 from k5.kept (K4.out.alloc _) (fun t ht => (O4.out.lt t ht).1))
        have O5 := hidMk o5
        clear o5 k5
        go_wp2_with fail
        go_roundg (gk - 1)
        case measure => have := HKG.out; omega
        case rel =>
          refine ⟨k + 1, by have := HKG.out; omega, by go_num, K5.out, ?_⟩
          rw [HTK.out, ints_app]
          exact O5.out
      | false =>
        rw [hl] at hlf
        have HLF := hidMk hlf
        have HTK := hidMk (show (ON.take (k + 1)).filter (leafB l) = (ON.take k).filter (leafB l) by rw [htk]; simp [hl])
        clear hlf htk hl
        go_wp2_with fail
        refine HLF.out.mono ?_
        rintro e w4 ⟨rfl, k4⟩
        have K4 := hidMk (HK.out.trans k4)
        have O4 := hidMk (HO.out.chg (S := fun _ => False) (Chg.of_kept k4) (fun _ _ e => e))
        clear k4
        go_wp2_with fail
        go_roundg (gk - 1)
        case measure => have := HKG.out; omega
        case rel =>
          refine ⟨k + 1, by have := HKG.out; omega, by go_num, K4.out, ?_⟩
          rw [HTK.out]
          exact O4.out
    · have e : k = ON.length := by omega
      have HF := hidMk (show ON.take k = ON from List.take_of_length_le (by omega))
      have hkk : ¬ ((k : Int) < (ON.length : Int)) := by omega
      clear hk ho hkg
      go_wp2_with fail
      go_ret
      refine ⟨_, rfl, ?_, K2.out.trans HK.out⟩
      have := HO.out
      rw [HF.out, ← HLV.out] at this
      exact this.base K2.out.size
theorem rank_at {l : List Nd} (h : Tr l) {i : Int} {k : Nat} (hk : k < (lvsN l).length) (he : (((lvsN l)[k] : Nat) : Int) = i) (hj : ∀ t, t < k → (ints (lvsN l)).getD t 0 ≠ i) : rankI l i = k := by
  have hm := (lvs_mem h).1 (List.getElem_mem hk)
  subst he
  unfold rankI
  rw [if_pos ⟨isP_nat hm.1, hm.2⟩]
  unfold rnk
  rw [Int.toNat_natCast]
  congr 1
  rw [List.findIdx_eq hk]
  refine ⟨by simp, fun t ht => ?_⟩
  have := hj t ht
  rw [ints_get _ t (by omega)] at this
  simp only [decide_eq_false_iff_not]
  intro e
  exact this (by rw [e])
theorem rank_no {l : List Nd} (h : Tr l) {i : Int} (hj : ∀ t, t < (lvsN l).length → (ints (lvsN l)).getD t 0 ≠ i) : rankI l i = -1 := by
  unfold rankI
  rw [if_neg]
  rintro ⟨h1, h2⟩
  have hm : i.toNat ∈ lvsN l := (lvs_mem h).2 ⟨by have := h1.2; have := h1.1; omega, h2⟩
  obtain ⟨t, ht, e⟩ := List.getElem_of_mem hm
  refine hj t ht ?_
  rw [ints_get _ t ht, e]
  have := h1.1
  omega
end Go.Proofs.Ytbhojgodkblflaa
namespace Go.Proofs.Ytbhojgodkblflaa
open Go.RowKit Go.Maps
set_option linter.unusedSimpArgs false
set_option linter.unusedVariables false

theorem idx_stop {α : Type} {p : α → Bool} {L : List α} {k : Nat} (hk : k ≤ L.length) (h : ∀ t (ht : t < L.length), t < k → p L[t] = false) (hs : ∀ (ht : k < L.length), p L[k] = true) : L.findIdx p = k := by
  by_cases e : k < L.length
  · rw [List.findIdx_eq e]
    exact ⟨hs e, fun t ht => h t (by omega) ht⟩
  · have e2 : k = L.length := by omega
    subst e2
    rw [List.findIdx_eq_length]
    intro x hx
    obtain ⟨t, ht, rfl⟩ := List.getElem_of_mem hx
    exact h t ht ht
theorem idx_drop {α : Type} {p : α → Bool} {L : List α} {f k : Nat} (hf : f ≤ k) (hk : k ≤ L.length) (h : ∀ t (ht : t < L.length), f ≤ t → t < k → p L[t] = true) (hs : ∀ (ht : k < L.length), p L[k] = false) : f + (L.drop f).findIdx (fun x => !p x) = k := by
  have : (L.drop f).findIdx (fun x => !p x) = k - f := by
    refine idx_stop (by simp; omega) (fun t ht h2 => ?_) (fun ht => ?_)
    · simp at ht
      rw [List.getElem_drop, h (f + t) (by omega) (by omega) (by omega)]
      rfl
    · simp at ht
      have e : f + (k - f) = k := by omega
      rw [List.getElem_drop]
      simp only [e]
      rw [hs (by omega)]
      rfl
  omega
end Go.Proofs.Ytbhojgodkblflaa
