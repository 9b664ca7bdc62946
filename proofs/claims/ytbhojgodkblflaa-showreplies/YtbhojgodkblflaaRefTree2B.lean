/- The definition's tree: members, names, ways up. · The definition's tree: Above, Depth, Within, Kids, Leaf, New. -/
import Derived.Test.YtbhojgodkblflaaTree12
import Derived.Test.YtbhojgodkblflaaNodes
namespace Go.Proofs.Ytbhojgodkblflaa
open Go.RowKit Go.Maps
set_option linter.unusedSimpArgs false
set_option linter.unusedVariables false

/-- The definition's tree in memory. -/
structure RT (w : World) (p : Nat) (l : List Nd) : Prop where
  ex : ∃ b c, w.cell? ⟨p, 0, none⟩ = some (.slice (some ⟨b, 0, none⟩) l.length c) ∧ ∀ i, i < l.length → w.cell? ⟨b, i * 2, none⟩ = some (.string (nmA l i)) ∧ w.cell? ⟨b, i * 2 + 1, none⟩ = some (.int .i64 (upA l i))
  big : l.length ≤ 60
  nmb : ∀ i, i < l.length → (nmA l i).size ≤ maxLen
  upb : ∀ i, i < l.length → isI (upA l i)
theorem RT.kept {w w' : World} {p : Nat} {l : List Nd} (h : RT w p l) (g : Kept w w') : RT w' p l := by
  obtain ⟨⟨b, c, h1, h2⟩, h3, h4, h5⟩ := h
  exact ⟨⟨b, c, g.cellp h1, fun i hi => ⟨g.cellp (h2 i hi).1, g.cellp (h2 i hi).2⟩⟩, h3, h4, h5⟩
theorem r_is {w : World} {p : Nat} {l : List Nd} (h : RT w p l) (i : Int) : Calls Try.prog 77 #[.pointer (some ⟨p, 0, none⟩), .int .i64 i] w fun e w' => e = .returned (.bool (decide (isP l i))) ∧ w' = w := by
  obtain ⟨⟨b, c, h1, _⟩, _, _, _⟩ := h
  by_cases h0 : 0 ≤ i
  · by_cases h2 : i < l.length
    · rw [decide_eq_true (show isP l i from ⟨h0, h2⟩)]
      go_enter Try.func77, Try.ntmps77
      go_wp2_with fail
      go_ret
      exact ⟨rfl, rfl⟩
    · rw [decide_eq_false (show ¬ isP l i from fun h => h2 h.2)]
      have h2' : (l.length : Int) ≤ i := by omega
      go_enter Try.func77, Try.ntmps77
      go_wp2_with fail
      go_ret
      first | exact ⟨rfl, rfl⟩ | exact ⟨by simp, rfl⟩ | exact ⟨by simp; omega, rfl⟩
  · rw [decide_eq_false (show ¬ isP l i from fun h => h0 h.1)]
    have h0' : i < 0 := by omega
    go_enter Try.func77, Try.ntmps77
    go_wp2_with fail
    go_ret
    exact ⟨rfl, rfl⟩
theorem r_Name {w : World} {p : Nat} {l : List Nd} (h : RT w p l) (i : Int) : Calls Try.prog 63 #[.pointer (some ⟨p, 0, none⟩), .int .i64 i] w fun e w' => e = .returned (.string (nmI l i)) ∧ w' = w := by
  have H := hidMk (r_is h i)
  obtain ⟨⟨b, c, h1, h2⟩, hb, _, _⟩ := h
  by_cases hp : isP l i
  · rw [decide_eq_true hp] at H
    obtain ⟨k, rfl⟩ : ∃ k : Nat, i = k := ⟨i.toNat, by have := hp.1; omega⟩
    have hk : k < l.length := by have := hp.2; omega
    have e : nmI l k = nmA l k := by unfold nmI; rw [if_pos hp]; rfl
    rw [e]
    have h3 := (h2 k hk).1
    clear h2 e hp
    generalize nmA l k = u at *
    go_enter Try.func63, Try.ntmps63
    go_wp2_with (go_at_call 77; refine H.out.mono ?_; rintro e w1 ⟨rfl, rfl⟩)
    go_ret
    exact ⟨rfl, rfl⟩
  · rw [decide_eq_false hp] at H
    have e : nmI l i = ByteArray.empty := by unfold nmI; rw [if_neg hp]
    rw [e]
    clear h2 e hp
    go_enter Try.func63, Try.ntmps63
    go_wp2_with (go_at_call 77; refine H.out.mono ?_; rintro e w1 ⟨rfl, rfl⟩)
    go_ret
    exact ⟨rfl, rfl⟩
theorem fst_no {l : List Nd} {s : ByteArray} (h : ∀ j, j < l.length → nmA l j ≠ s) : fstN l s = l.length := by
  unfold fstN
  rw [List.findIdx_eq_length]
  intro x hx
  obtain ⟨j, hj, rfl⟩ := List.getElem_of_mem hx
  have := h j hj
  simp [nmA, List.getD, List.getElem?_eq_getElem hj] at this
  simpa using this
theorem fst_at {l : List Nd} {s : ByteArray} {k : Nat} (hk : k < l.length) (he : nmA l k = s) (h : ∀ j, j < k → nmA l j ≠ s) : fstN l s = k := by
  unfold fstN
  rw [List.findIdx_eq hk]
  have e : nmA l k = l[k].1 := by simp [nmA, List.getD, List.getElem?_eq_getElem hk]
  refine ⟨by simp [← e, he], fun j hj => ?_⟩
  have := h j hj
  have hjl : j < l.length := by omega
  simp [nmA, List.getD, List.getElem?_eq_getElem hjl] at this
  simpa using this
theorem bytes_ne {a b : ByteArray} (h : a ≠ b) : (a.toList == b.toList) = false := by
  rw [beq_eq_false_iff_ne]
  intro e
  apply h
  apply ByteArray.ext
  rw [ByteArray.toList_eq, ByteArray.toList_eq] at e
  exact Array.ext' e
theorem r_Find {w : World} {p : Nat} {l : List Nd} (h : RT w p l) (s : ByteArray) : Calls Try.prog 54 #[.pointer (some ⟨p, 0, none⟩), .string s] w fun e w' => e = .returned (.int .i64 (findI l s)) ∧ w' = w := by
  obtain ⟨r, hr⟩ : ∃ r, findI l s = r := ⟨_, rfl⟩
  rw [hr]
  have HR := hidMk hr
  obtain ⟨⟨b, c, h1, h2⟩, hb, _, _⟩ := h
  have H2 := hidMk h2
  clear hr h2
  go_enter Try.func54, Try.ntmps54
  go_wp2_with fail
  go_loopw [5] (fun i wr => ∃ k : Nat, k ≤ l.length ∧ i = .int .i64 k ∧ wr = w ∧ Hid (∀ j, j < k → nmA l j ≠ s)) (fun i _ => l.length - (intOf i).toNat)
  case atStart => exact ⟨0, Nat.zero_le _, rfl, rfl, hidMk fun j hj => absurd hj (by omega)⟩
  case round =>
    obtain ⟨k, hk, rfl, rfl, HJ⟩ := hrel
    by_cases hkl : k < l.length
    · have hc := (H2.out k hkl).1
      by_cases he : nmA l k = s
      · have HF := hidMk (show r = k from by
          rw [← HR.out]
          unfold findI
          rw [fst_at hkl he HJ.out, if_pos hkl])
        rw [he] at hc
        clear he
        go_wp2_with fail
        go_ret
        exact ⟨by rw [HF.out]; rfl, rfl⟩
      · have HS := hidMk (show ∀ j, j < k + 1 → nmA l j ≠ s from fun j hj => by
          by_cases e : j = k
          · subst e; exact he
          · exact HJ.out j (by omega))
        have he' := bytes_ne he
        clear he
        generalize nmA l k = x at *
        go_wp2_with fail
        exact ⟨⟨k + 1, by omega, by go_num, trivial, HS⟩, by simp [intOf]; omega⟩
    · have e : k = l.length := by omega
      subst e
      have HF := hidMk (show r = -1 from by
          rw [← HR.out]
          unfold findI
          rw [fst_no HJ.out, if_neg (by omega)])
      have hkk : ¬ ((l.length : Int) < (l.length : Int)) := by omega
      go_wp2_with fail
      go_ret
      exact ⟨by rw [HF.out]; rfl, rfl⟩
end Go.Proofs.Ytbhojgodkblflaa
namespace Go.Proofs.Ytbhojgodkblflaa
open Go.RowKit Go.Maps
set_option linter.unusedSimpArgs false
set_option linter.unusedVariables false

/-- The first places on the way up. -/
theorem abv_steps {l : List Nd} {j f : Nat} {i : Int} (h : ∀ t, t < j → isP l (upN l t i)) : abv l (j + f) i = ((List.range j).map fun t => upN l t i) ++ abv l f (upN l j i) := by
  induction j generalizing i with
  | zero => simp [upN]
  | succ j ih =>
    have h0 : isP l i := h 0 (by omega)
    rw [show j + 1 + f = (j + f) + 1 by omega, abv, if_pos h0, ih (fun t ht => by rw [upN_shift]; exact h (t + 1) (by omega)), List.range_succ_eq_map, upN_shift]
    simp only [List.map_cons, List.map_map, List.cons_append]
    congr 2
    apply List.map_congr_left
    intro t _
    exact upN_shift l t i
theorem RT.cells {w : World} {p : Nat} {l : List Nd} (h : RT w p l) : ∃ b c, (∀ x, Kept w x → x.cell? ⟨p, 0, none⟩ = some (.slice (some ⟨b, 0, none⟩) l.length c)) ∧ ∀ u, u < l.length → ∀ x, Kept w x → x.cell? ⟨b, u * 2, none⟩ = some (.string (nmA l u)) ∧ x.cell? ⟨b, u * 2 + 1, none⟩ = some (.int .i64 (upA l u)) := by
  obtain ⟨⟨b, c, h1, h2⟩, _, _, _⟩ := h
  exact ⟨b, c, fun x k => k.cellp h1, fun u hu x k => ⟨k.cellp (h2 u hu).1, k.cellp (h2 u hu).2⟩⟩
set_option maxHeartbeats 800000 in
theorem r_Above {w : World} {p : Nat} {l : List Nd} (h : RT w p l) (i : Int) : Calls Try.prog 75 #[.pointer (some ⟨p, 0, none⟩), .int .i64 i] w fun e w' => ∃ v, e = .returned v ∧ OwnI w' w.heap.size v (abvA l i) ∧ Kept w w' := by
  obtain ⟨R, hR⟩ : ∃ R, abvA l i = R := ⟨_, rfl⟩
  rw [hR]
  have HR := hidMk hR
  have HT := hidMk h
  have hb := h.big
  obtain ⟨b, cc, q1, q2⟩ := h.cells
  have Q1 := hidMk q1
  have Q2 := hidMk q2
  clear h hR q1 q2
  go_enter Try.func75, Try.ntmps75
  go_wp2_with fail
  go_loopg [1, 5] (l.length + 1) (fun g a v wr => ∃ j : Nat, j + g = l.length + 1 ∧ a = .int .i64 (upN l j i) ∧ Kept w wr ∧ OwnI wr w.heap.size v ((List.range j).map fun t => upN l t i) ∧ Hid (∀ t, t < j → isP l (upN l t i)))
  case atStart => exact ⟨0, by omega, rfl, Kept.refl _, ownI_nil _ _, hidMk fun t ht => absurd ht (by omega)⟩
  case round =>
    obtain ⟨j, hj, rfl, hk, ho, HP⟩ := hrel
    have HJ := hidMk hj
    have hlen : ((List.range j).map fun t => upN l t i).length = j := by simp
    obtain ⟨a5, c5, rfl, _⟩ := ho.sl (by rw [hlen]; unfold maxLen; omega)
    rw [hlen] at ho ⊢
    have HO := hidMk ho
    have HK := hidMk hk
    have H1 := r_is (HT.out.kept hk) (upN l j i)
    have q1 := Q1.out wr hk
    clear ho hk
    by_cases hp : isP l (upN l j i)
    · rw [decide_eq_true hp] at H1
      have H2 := hidMk H1
      clear H1
      obtain ⟨u, hu⟩ : ∃ u : Nat, upN l j i = u := ⟨(upN l j i).toNat, by have := hp.1; omega⟩
      have hul : u < l.length := by rw [hu] at hp; have := hp.2; omega
      by_cases hjl : j ≤ l.length
      · have HXJ := hidMk (show upA l u = upN l (j + 1) i by
          show _ = upI l (upN l j i)
          rw [hu]
          unfold upI
          rw [if_pos (isP_nat hul)]
          rfl)
        have HTK := hidMk (@abv_take l j i)
        have HP2 := hidMk (show ∀ t, t < j + 1 → isP l (upN l t i) from fun t ht => by
          by_cases e : t = j
          · subst e; exact hp
          · exact HP.out t (by omega))
        rw [hu] at H2 HTK
        clear hp hj
        rw [hu]
        clear hu
        obtain ⟨L, hL⟩ : ∃ L, ((List.range j).map fun t => upN l t i) = L := ⟨_, rfl⟩
        rw [hL] at HO hlen HTK
        clear hL
        have hjl' : (j : Int) ≤ l.length := by omega
        have hul' : (u : Int) < l.length := by omega
        go_wp2_with (first | (go_at_call 77; refine H2.out.mono ?_; rintro e w2 ⟨rfl, rfl⟩) | (at_builtin; refine wpList_pushI _ rfl _ _ rfl w.heap.size _ L rfl (HO.out.chg (S := fun _ => False) (Chg.of_kept ((Kept.refl _).alloc _)) (fun _ _ e => e)) ?c1 _ (u : Int) rfl ?c2 ?c3 _ rfl ?_))
        case c1 => simp; have := HK.out.size; omega
        case c2 => simp
        case c3 => omega
        intro g' cap w3 o3 k3 _ _
        have K3 := hidMk (show Kept w w3 from k3.kept (HK.out.alloc _) (fun t ht => (HO.out.lt t ht).1))
        have O3 := hidMk o3
        have p1 := Q1.out w3 K3.out
        have p3 := (Q2.out u hul w3 K3.out).2
        clear o3 k3 q1
        generalize upA l u = z at *
        go_wp2_with fail
        go_roundg (gk - 1)
        case measure => have := HJ.out; omega
        case rel =>
          refine ⟨j + 1, by have := HJ.out; omega, by rw [HXJ.out], K3.out, ?_, HP2⟩
          rw [HTK.out]
          exact O3.out
      · have HF := hidMk (show R = (List.range j).map fun t => upN l t i by
          rw [← HR.out]
          have e : l.length + 1 = j + 0 := by omega
          unfold abvA
          rw [e, abv_steps HP.out]
          simp [abv])
        have hjl' : ¬ ((j : Int) ≤ l.length) := by omega
        clear hj hu hul hp u
        generalize upN l j i = x at *
        go_wp2_with (go_at_call 77; refine H2.out.mono ?_; rintro e w2 ⟨rfl, rfl⟩)
        go_ret
        exact ⟨_, rfl, by rw [HF.out]; exact HO.out, HK.out⟩
    · rw [decide_eq_false hp] at H1
      have H2 := hidMk H1
      have HF := hidMk (show R = (List.range j).map fun t => upN l t i by
        rw [← HR.out]
        by_cases g : j ≤ l.length
        · have e : l.length + 1 = j + (l.length - j + 1) := by omega
          unfold abvA
          rw [e, abv_steps HP.out, abv, if_neg hp]
          simp
        · have e : l.length + 1 = j + 0 := by omega
          unfold abvA
          rw [e, abv_steps HP.out]
          simp [abv])
      clear H1 hj hp
      generalize upN l j i = x at *
      go_wp2_with (go_at_call 77; refine H2.out.mono ?_; rintro e w2 ⟨rfl, rfl⟩)
      go_ret
      exact ⟨_, rfl, by rw [HF.out]; exact HO.out, HK.out⟩
theorem abv_le (l : List Nd) (f : Nat) : ∀ i, (abv l f i).length ≤ f := by
  induction f with
  | zero => intro i; simp [abv]
  | succ f ih =>
    intro i
    rw [abv]
    by_cases h : isP l i
    · rw [if_pos h, List.length_cons]
      have := ih (upI l i)
      omega
    · rw [if_neg h]
      exact Nat.zero_le _
theorem r_Depth {w : World} {p : Nat} {l : List Nd} (h : RT w p l) (i : Int) : Calls Try.prog 55 #[.pointer (some ⟨p, 0, none⟩), .int .i64 i] w fun e w' => e = .returned (.int .i64 (dep l i : Nat)) ∧ Kept w w' := by
  have HA := hidMk (r_Above h i)
  have hb := h.big
  have hle : (abvA l i).length ≤ l.length + 1 := abv_le l _ i
  have HD := hidMk (show dep l i = (abvA l i).length - 1 from rfl)
  generalize dep l i = r at *
  clear h
  go_enter Try.func55, Try.ntmps55
  go_wp2_with fail
  refine HA.out.mono ?_
  rintro e w1 ⟨v1, rfl, o1, k1⟩
  obtain ⟨a1, c1, rfl, _⟩ := o1.sl (by unfold maxLen; omega)
  have K1 := hidMk k1
  clear o1 k1 HA
  generalize (abvA l i).length = m at *
  by_cases hm : m = 0
  · subst hm
    go_wp2_with fail
    go_ret
    exact ⟨ret_int (by rw [HD.out]; rfl), K1.out⟩
  · have hm' : ((m : Int) == 0) = false := by simpa using hm
    have HM := hidMk hm
    clear hm
    go_wp2_with fail
    go_ret
    refine ⟨ret_int ?_, K1.out⟩
    rw [HD.out]
    have := HM.out
    omega
end Go.Proofs.Ytbhojgodkblflaa
