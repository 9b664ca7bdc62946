/- The definition's tree: members, names, ways up. · The definition's tree: Above, Depth, Within, Kids, Leaf, New. · The definition's tree: Kids, Leaf, down, Order, Leaves, Rank, Span. · The definition's tree: down, Order, Leaves. · The definition's tree: Leaves, Rank, Span. · The definition's tree: Span. -/
import Derived.Test.YtpehinmckppjoaaGreatDoorWTree12B
import Derived.Test.YtpehinmckppjoaaGreatDoorWText8B
import Derived.Test.YtpehinmckppjoaaGreatDoorWNodes
namespace Go.Proofs.YtpehinmckppjoaaGreatDoor
open Go.RowKit Go.Maps
set_option linter.unusedSimpArgs false
set_option linter.unusedVariables false

/-- The definition's tree in memory. -/
structure RT (w : World) (p : Nat) (l : List Nd) : Prop where
  ex : ∃ b c, w.cell? ⟨p, 0, none⟩ = some (.slice (some ⟨b, 0, none⟩) l.length c) ∧ ∀ i, i < l.length → w.cell? ⟨b, i * 2, none⟩ = some (.string (nmA l i)) ∧ w.cell? ⟨b, i * 2 + 1, none⟩ = some (.int .i64 (upA l i))
  big : l.length ≤ 60
  nmb : ∀ i, i < l.length → (nmA l i).size ≤ maxLen
  upb : ∀ i, i < l.length → isI (upA l i)
theorem RT.kept {w w' : World} {p : Nat} {l : List Nd} (h : RT w p l) (g : Kept w w') : RT w' p l := by
  obtain ⟨⟨b, c, h1, h2⟩, h3, h4, h5⟩ := h
  exact ⟨⟨b, c, g.cellp h1, fun i hi => ⟨g.cellp (h2 i hi).1, g.cellp (h2 i hi).2⟩⟩, h3, h4, h5⟩
theorem r_is {w : World} {p : Nat} {l : List Nd} (h : RT w p l) (i : Int) : Calls Tryz.prog 99 #[.pointer (some ⟨p, 0, none⟩), .int .i64 i] w fun e w' => e = .returned (.bool (decide (isP l i))) ∧ w' = w := by
  obtain ⟨⟨b, c, h1, _⟩, _, _, _⟩ := h
  by_cases h0 : 0 ≤ i
  · by_cases h2 : i < l.length
    · rw [decide_eq_true (show isP l i from ⟨h0, h2⟩)]
      go_enter Tryz.func99, Tryz.ntmps99
      go_wp2_with fail
      go_ret
      exact ⟨rfl, rfl⟩
    · rw [decide_eq_false (show ¬ isP l i from fun h => h2 h.2)]
      have h2' : (l.length : Int) ≤ i := by omega
      go_enter Tryz.func99, Tryz.ntmps99
      go_wp2_with fail
      go_ret
      first | exact ⟨rfl, rfl⟩ | exact ⟨by simp, rfl⟩ | exact ⟨by simp; omega, rfl⟩
  · rw [decide_eq_false (show ¬ isP l i from fun h => h0 h.1)]
    have h0' : i < 0 := by omega
    go_enter Tryz.func99, Tryz.ntmps99
    go_wp2_with fail
    go_ret
    exact ⟨rfl, rfl⟩
theorem r_Name {w : World} {p : Nat} {l : List Nd} (h : RT w p l) (i : Int) : Calls Tryz.prog 84 #[.pointer (some ⟨p, 0, none⟩), .int .i64 i] w fun e w' => e = .returned (.string (nmI l i)) ∧ w' = w := by
  have H := hidMk (r_is h i)
  obtain ⟨⟨b, c, h1, h2⟩, hb, _, _⟩ := h
  by_cases hp : isP l i
  · rw [decide_eq_true hp] at H
    obtain ⟨k, rfl⟩ : ∃ k : Nat, i = k := ⟨i.toNat, by have := hp.1; omega⟩
    have hk : k < l.length := by have := hp.2; omega
    have e : nmI l k = nmA l k := by unfold nmI; rw [if_pos hp]; rfl
    rw [e]
    have h3 := (h2 k hk).1
    clear h2 e hp
    generalize nmA l k = u at *
    go_enter Tryz.func84, Tryz.ntmps84
    go_wp2_with (go_at_call 99; refine H.out.mono ?_; rintro e w1 ⟨rfl, rfl⟩)
    go_ret
    exact ⟨rfl, rfl⟩
  · rw [decide_eq_false hp] at H
    have e : nmI l i = ByteArray.empty := by unfold nmI; rw [if_neg hp]
    rw [e]
    clear h2 e hp
    go_enter Tryz.func84, Tryz.ntmps84
    go_wp2_with (go_at_call 99; refine H.out.mono ?_; rintro e w1 ⟨rfl, rfl⟩)
    go_ret
    exact ⟨rfl, rfl⟩
theorem fst_no {l : List Nd} {s : ByteArray} (h : ∀ j, j < l.length → nmA l j ≠ s) : fstN l s = l.length := by
  unfold fstN
  rw [List.findIdx_eq_length]
  intro x hx
  obtain ⟨j, hj, rfl⟩ := List.getElem_of_mem hx
  have := h j hj
  simp [nmA, List.getD, List.getElem?_eq_getElem hj] at this
  simpa using this
theorem fst_at {l : List Nd} {s : ByteArray} {k : Nat} (hk : k < l.length) (he : nmA l k = s) (h : ∀ j, j < k → nmA l j ≠ s) : fstN l s = k := by
  unfold fstN
  rw [List.findIdx_eq hk]
  have e : nmA l k = l[k].1 := by simp [nmA, List.getD, List.getElem?_eq_getElem hk]
  refine ⟨by simp [← e, he], fun j hj => ?_⟩
  have := h j hj
  have hjl : j < l.length := by omega
  simp [nmA, List.getD, List.getElem?_eq_getElem hjl] at this
  simpa using this
theorem r_Find {w : World} {p : Nat} {l : List Nd} (h : RT w p l) (s : ByteArray) : Calls Tryz.prog 69 #[.pointer (some ⟨p, 0, none⟩), .string s] w fun e w' => e = .returned (.int .i64 (findI l s)) ∧ w' = w := by
  obtain ⟨r, hr⟩ : ∃ r, findI l s = r := ⟨_, rfl⟩
  rw [hr]
  have HR := hidMk hr
  obtain ⟨⟨b, c, h1, h2⟩, hb, _, _⟩ := h
  have H2 := hidMk h2
  clear hr h2
  go_enter Tryz.func69, Tryz.ntmps69
  go_wp2_with fail
  go_loopw [5] (fun i wr => ∃ k : Nat, k ≤ l.length ∧ i = .int .i64 k ∧ wr = w ∧ Hid (∀ j, j < k → nmA l j ≠ s)) (fun i _ => l.length - (intOf i).toNat)
  case atStart => exact ⟨0, Nat.zero_le _, rfl, rfl, hidMk fun j hj => absurd hj (by omega)⟩
  case round =>
    obtain ⟨k, hk, rfl, rfl, HJ⟩ := hrel
    by_cases hkl : k < l.length
    · have hc := (H2.out k hkl).1
      by_cases he : nmA l k = s
      · have HF := hidMk (show r = k from by
          rw [← HR.out]
          unfold findI
          rw [fst_at hkl he HJ.out, if_pos hkl])
        rw [he] at hc
        clear he
        go_wp2_with fail
        go_ret
        exact ⟨by rw [HF.out]; rfl, rfl⟩
      · have HS := hidMk (show ∀ j, j < k + 1 → nmA l j ≠ s from fun j hj => by
          by_cases e : j = k
          · subst e; exact he
          · exact HJ.out j (by omega))
        have he' := bytes_ne he
        clear he
        generalize nmA l k = x at *
        go_wp2_with fail
        exact ⟨⟨k + 1, by omega, by go_num, trivial, HS⟩, by simp [intOf]; omega⟩
    · have e : k = l.length := by omega
      subst e
      have HF := hidMk (show r = -1 from by
          rw [← HR.out]
          unfold findI
          rw [fst_no HJ.out, if_neg (by omega)])
      have hkk : ¬ ((l.length : Int) < (l.length : Int)) := by omega
      go_wp2_with fail
      go_ret
      exact ⟨by rw [HF.out]; rfl, rfl⟩
end Go.Proofs.YtpehinmckppjoaaGreatDoor
namespace Go.Proofs.YtpehinmckppjoaaGreatDoor
open Go.RowKit Go.Maps
set_option linter.unusedSimpArgs false
set_option linter.unusedVariables false

/-- The first places on the way up. -/
theorem abv_steps {l : List Nd} {j f : Nat} {i : Int} (h : ∀ t, t < j → isP l (upN l t i)) : abv l (j + f) i = ((List.range j).map fun t => upN l t i) ++ abv l f (upN l j i) := by
  induction j generalizing i with
  | zero => simp [upN]
  | succ j ih =>
    have h0 : isP l i := h 0 (by omega)
    rw [show j + 1 + f = (j + f) + 1 by omega, abv, if_pos h0, ih (fun t ht => by rw [upN_shift]; exact h (t + 1) (by omega)), List.range_succ_eq_map, upN_shift]
    simp only [List.map_cons, List.map_map, List.cons_append]
    congr 2
    apply List.map_congr_left
    intro t _
    exact upN_shift l t i
theorem RT.cells {w : World} {p : Nat} {l : List Nd} (h : RT w p l) : ∃ b c, (∀ x, Kept w x → x.cell? ⟨p, 0, none⟩ = some (.slice (some ⟨b, 0, none⟩) l.length c)) ∧ ∀ u, u < l.length → ∀ x, Kept w x → x.cell? ⟨b, u * 2, none⟩ = some (.string (nmA l u)) ∧ x.cell? ⟨b, u * 2 + 1, none⟩ = some (.int .i64 (upA l u)) := by
  obtain ⟨⟨b, c, h1, h2⟩, _, _, _⟩ := h
  exact ⟨b, c, fun x k => k.cellp h1, fun u hu x k => ⟨k.cellp (h2 u hu).1, k.cellp (h2 u hu).2⟩⟩
set_option maxHeartbeats 800000 in
theorem r_Above {w : World} {p : Nat} {l : List Nd} (h : RT w p l) (i : Int) : Calls Tryz.prog 97 #[.pointer (some ⟨p, 0, none⟩), .int .i64 i] w fun e w' => ∃ v, e = .returned v ∧ OwnI w' w.heap.size v (abvA l i) ∧ Kept w w' := by
  obtain ⟨R, hR⟩ : ∃ R, abvA l i = R := ⟨_, rfl⟩
  rw [hR]
  have HR := hidMk hR
  have HT := hidMk h
  have hb := h.big
  obtain ⟨b, cc, q1, q2⟩ := h.cells
  have Q1 := hidMk q1
  have Q2 := hidMk q2
  clear h hR q1 q2
  go_enter Tryz.func97, Tryz.ntmps97
  go_wp2_with fail
  go_loopg [1, 5] (l.length + 1) (fun g a v wr => ∃ j : Nat, j + g = l.length + 1 ∧ a = .int .i64 (upN l j i) ∧ Kept w wr ∧ OwnI wr w.heap.size v ((List.range j).map fun t => upN l t i) ∧ Hid (∀ t, t < j → isP l (upN l t i)))
  case atStart => exact ⟨0, by omega, rfl, Kept.refl _, ownI_nil _ _, hidMk fun t ht => absurd ht (by omega)⟩
  case round =>
    obtain ⟨j, hj, rfl, hk, ho, HP⟩ := hrel
    have HJ := hidMk hj
    have hlen : ((List.range j).map fun t => upN l t i).length = j := by simp
    obtain ⟨a5, c5, rfl, _⟩ := ho.sl (by rw [hlen]; unfold maxLen; omega)
    rw [hlen] at ho ⊢
    have HO := hidMk ho
    have HK := hidMk hk
    have H1 := r_is (HT.out.kept hk) (upN l j i)
    have q1 := Q1.out wr hk
    clear ho hk
    by_cases hp : isP l (upN l j i)
    · rw [decide_eq_true hp] at H1
      have H2 := hidMk H1
      clear H1
      obtain ⟨u, hu⟩ : ∃ u : Nat, upN l j i = u := ⟨(upN l j i).toNat, by have := hp.1; omega⟩
      have hul : u < l.length := by rw [hu] at hp; have := hp.2; omega
      by_cases hjl : j ≤ l.length
      · have HXJ := hidMk (show upA l u = upN l (j + 1) i by
          show _ = upI l (upN l j i)
          rw [hu]
          unfold upI
          rw [if_pos (isP_nat hul)]
          rfl)
        have HTK := hidMk (@abv_take l j i)
        have HP2 := hidMk (show ∀ t, t < j + 1 → isP l (upN l t i) from fun t ht => by
          by_cases e : t = j
          · subst e; exact hp
          · exact HP.out t (by omega))
        rw [hu] at H2 HTK
        clear hp hj
        rw [hu]
        clear hu
        obtain ⟨L, hL⟩ : ∃ L, ((List.range j).map fun t => upN l t i) = L := ⟨_, rfl⟩
        rw [hL] at HO hlen HTK
        clear hL
        have hjl' : (j : Int) ≤ l.length := by omega
        have hul' : (u : Int) < l.length := by omega
        go_wp2_with (first | (go_at_call 99; refine H2.out.mono ?_; rintro e w2 ⟨rfl, rfl⟩) | (at_builtin; refine wpList_pushI _ rfl _ _ rfl w.heap.size _ L rfl (HO.out.chg (S := fun _ => False) (Chg.of_kept ((Kept.refl _).alloc _)) (fun _ _ e => e)) ?c1 _ (u : Int) rfl ?c2 ?c3 _ rfl ?_))
        case c1 => simp; have := HK.out.size; omega
        case c2 => simp
        case c3 => omega
        intro g' cap w3 o3 k3 _ _
        have K3 := hidMk (show Kept w w3 from k3.kept (HK.out.alloc _) (fun t ht => (HO.out.lt t ht).1))
        have O3 := hidMk o3
        have p1 := Q1.out w3 K3.out
        have p3 := (Q2.out u hul w3 K3.out).2
        clear o3 k3 q1
        generalize upA l u = z at *
        go_wp2_with fail
        go_roundg (gk - 1)
        case measure => have := HJ.out; omega
        case rel =>
          refine ⟨j + 1, by have := HJ.out; omega, by rw [HXJ.out], K3.out, ?_, HP2⟩
          rw [HTK.out]
          exact O3.out
      · have HF := hidMk (show R = (List.range j).map fun t => upN l t i by
          rw [← HR.out]
          have e : l.length + 1 = j + 0 := by omega
          unfold abvA
          rw [e, abv_steps HP.out]
          simp [abv])
        have hjl' : ¬ ((j : Int) ≤ l.length) := by omega
        clear hj hu hul hp u
        generalize upN l j i = x at *
        go_wp2_with (go_at_call 99; refine H2.out.mono ?_; rintro e w2 ⟨rfl, rfl⟩)
        go_ret
        exact ⟨_, rfl, by rw [HF.out]; exact HO.out, HK.out⟩
    · rw [decide_eq_false hp] at H1
      have H2 := hidMk H1
      have HF := hidMk (show R = (List.range j).map fun t => upN l t i by
        rw [← HR.out]
        by_cases g : j ≤ l.length
        · have e : l.length + 1 = j + (l.length - j + 1) := by omega
          unfold abvA
          rw [e, abv_steps HP.out, abv, if_neg hp]
          simp
        · have e : l.length + 1 = j + 0 := by omega
          unfold abvA
          rw [e, abv_steps HP.out]
          simp [abv])
      clear H1 hj hp
      generalize upN l j i = x at *
      go_wp2_with (go_at_call 99; refine H2.out.mono ?_; rintro e w2 ⟨rfl, rfl⟩)
      go_ret
      exact ⟨_, rfl, by rw [HF.out]; exact HO.out, HK.out⟩
theorem abv_le (l : List Nd) (f : Nat) : ∀ i, (abv l f i).length ≤ f := by
  induction f with
  | zero => intro i; simp [abv]
  | succ f ih =>
    intro i
    rw [abv]
    by_cases h : isP l i
    · rw [if_pos h, List.length_cons]
      have := ih (upI l i)
      omega
    · rw [if_neg h]
      exact Nat.zero_le _
theorem r_Depth {w : World} {p : Nat} {l : List Nd} (h : RT w p l) (i : Int) : Calls Tryz.prog 70 #[.pointer (some ⟨p, 0, none⟩), .int .i64 i] w fun e w' => e = .returned (.int .i64 (dep l i : Nat)) ∧ Kept w w' := by
  have HA := hidMk (r_Above h i)
  have hb := h.big
  have hle : (abvA l i).length ≤ l.length + 1 := abv_le l _ i
  have HD := hidMk (show dep l i = (abvA l i).length - 1 from rfl)
  generalize dep l i = r at *
  clear h
  go_enter Tryz.func70, Tryz.ntmps70
  go_wp2_with fail
  refine HA.out.mono ?_
  rintro e w1 ⟨v1, rfl, o1, k1⟩
  obtain ⟨a1, c1, rfl, _⟩ := o1.sl (by unfold maxLen; omega)
  have K1 := hidMk k1
  clear o1 k1 HA
  generalize (abvA l i).length = m at *
  by_cases hm : m = 0
  · subst hm
    go_wp2_with fail
    go_ret
    exact ⟨ret_int (by rw [HD.out]; rfl), K1.out⟩
  · have hm' : ((m : Int) == 0) = false := by simpa using hm
    have HM := hidMk hm
    clear hm
    go_wp2_with fail
    go_ret
    refine ⟨ret_int ?_, K1.out⟩
    rw [HD.out]
    have := HM.out
    omega
end Go.Proofs.YtpehinmckppjoaaGreatDoor
namespace Go.Proofs.YtpehinmckppjoaaGreatDoor
open Go.RowKit Go.Maps
set_option linter.unusedSimpArgs false
set_option linter.unusedVariables false

theorem kidsI_K (l : List Nd) (i : Int) (hp : isP l i) : kidsI l i = ints (kidK l l.length i) := by unfold kidsI; rw [if_pos hp]; rfl
set_option maxHeartbeats 1000000 in
theorem r_Kids {w : World} {p : Nat} {l : List Nd} (h : RT w p l) (i : Int) : Calls Tryz.prog 100 #[.pointer (some ⟨p, 0, none⟩), .int .i64 i] w fun e w' => ∃ v, e = .returned v ∧ OwnI w' w.heap.size v (kidsI l i) ∧ Kept w w' := by
  have HT := hidMk h
  have hb := h.big
  obtain ⟨b, cc, q1, q2⟩ := h.cells
  have Q1 := hidMk q1
  have Q2 := hidMk q2
  have HIS := hidMk (show ∀ y, Kept w y → _ from fun y hy => r_is (h.kept hy) i)
  clear h q1 q2
  by_cases hp : isP l i
  · rw [kidsI_K l i hp]
    rw [decide_eq_true hp] at HIS
    go_enter Tryz.func100, Tryz.ntmps100
    go_wp2_with fail
    go_loopg [5, 6] l.length (fun g v x wr => ∃ k : Nat, k + g = l.length ∧ x = .int .i64 k ∧ Kept w wr ∧ OwnI wr w.heap.size v (ints (kidK l k i)))
    case atStart => exact ⟨0, by omega, rfl, Kept.refl _, ownI_nil _ _⟩
    case round =>
      obtain ⟨k, hkg, rfl, hk, ho⟩ := hrel
      have HKG := hidMk hkg
      have HK := hidMk hk
      have HO := hidMk ho
      have hkl := kidK_len l k i
      have q1 := Q1.out wr hk
      have H2 := hidMk (HIS.out wr hk)
      by_cases hkn : k < l.length
      · have q3 := (Q2.out k hkn wr hk).2
        have hks := kidK_succ l k i
        have HKS := hidMk hks
        clear hkg hk ho hks
        by_cases hu : upA l k = i
        · rw [if_pos hu] at HKS
          rw [hu] at q3
          clear hu
          generalize kidK l k i = L at *
          go_wp2_with (first | (go_at_call 99; refine H2.out.mono ?_; rintro e w2 ⟨rfl, rfl⟩) | (at_builtin; refine wpList_pushI _ rfl _ _ rfl w.heap.size _ (ints L) rfl (HO.out.chg (S := fun _ => False) (Chg.of_kept ((Kept.refl _).alloc _)) (fun _ _ e => e)) ?c1 _ (k : Int) rfl ?c2 ?c3 _ rfl ?_))
          case c1 => simp; have := HK.out.size; omega
          case c2 => simp
          case c3 => rw [ints_len]; omega
          intro g' cap w3 o3 k3 _ _
          have K3 := hidMk (show Kept w w3 from k3.kept (HK.out.alloc _) (fun t ht => (HO.out.lt t ht).1))
          have O3 := hidMk o3
          clear o3 k3
          go_wp2_with fail
          go_roundg (gk - 1)
          case measure => have := HKG.out; omega
          case rel =>
            refine ⟨k + 1, by have := HKG.out; omega, by go_num, K3.out, ?_⟩
            rw [HKS.out, ints_app]
            exact O3.out
        · rw [if_neg hu] at HKS
          generalize upA l k = u at *
          have hu' : (u == i) = false := by simpa using hu
          clear hu
          go_wp2_with (go_at_call 99; refine H2.out.mono ?_; rintro e w2 ⟨rfl, rfl⟩)
          go_roundg (gk - 1)
          case measure => have := HKG.out; omega
          case rel =>
            refine ⟨k + 1, by have := HKG.out; omega, by go_num, HK.out, ?_⟩
            rw [HKS.out]
            exact HO.out
      · have e : k = l.length := by omega
        subst e
        clear hk ho hkg
        have hkk : ¬ ((l.length : Int) < (l.length : Int)) := by omega
        go_wp2_with fail
        go_ret
        exact ⟨_, rfl, HO.out, HK.out⟩
  · have e : kidsI l i = [] := if_neg hp
    rw [e]
    rw [decide_eq_false hp] at HIS
    have q1 := Q1.out w (Kept.refl w)
    clear e hp
    go_enter Tryz.func100, Tryz.ntmps100
    go_wp2_with fail
    refine wp_loop_rounds 1 ?_
    rw [rounds_succ]
    by_cases h0 : 0 < l.length
    · have h0' : (0 : Int) < l.length := by omega
      go_wp2_with (go_at_call 99; refine (HIS.out _ (Kept.refl _)).mono ?_; rintro e w2 ⟨rfl, rfl⟩)
      go_ret
      exact ⟨_, rfl, ownI_nil _ _, Kept.refl _⟩
    · have h0' : ¬ ((0 : Int) < l.length) := by omega
      go_wp2_with fail
      go_ret
      exact ⟨_, rfl, ownI_nil _ _, Kept.refl _⟩
theorem r_Leaf {w : World} {p : Nat} {l : List Nd} (h : RT w p l) (i : Int) : Calls Tryz.prog 72 #[.pointer (some ⟨p, 0, none⟩), .int .i64 i] w fun e w' => e = .returned (.bool (leafI l i)) ∧ Kept w w' := by
  have H := hidMk (r_is h i)
  have HKD := hidMk (r_Kids h i)
  have hb := h.big
  clear h
  by_cases hp : isP l i
  · rw [decide_eq_true hp] at H
    obtain ⟨k, rfl⟩ : ∃ k : Nat, i = k := ⟨i.toNat, by have := hp.1; omega⟩
    have e : leafI l k = leafB l k := by unfold leafI; rw [decide_eq_true hp]; rfl
    rw [e]
    rw [show kidsI l k = ints (kidN l k) from if_pos hp] at HKD
    have hkl := kidK_len l l.length k
    have HLB := hidMk (show leafB l k = (kidN l k).isEmpty from rfl)
    rw [show kidK l l.length (k : Int) = kidN l k from rfl] at hkl
    clear e hp
    generalize leafB l k = lb at *
    generalize kidN l (k : Int) = L at *
    go_enter Tryz.func72, Tryz.ntmps72
    go_wp2_with (first | (go_at_call 99; refine H.out.mono ?_; rintro e w1 ⟨rfl, rfl⟩) | (go_at_call 100; refine HKD.out.mono ?_; rintro e w2 ⟨v2, rfl, o2, k2⟩; obtain ⟨a2, c2, rfl, _⟩ := o2.sl (by rw [ints_len]; unfold maxLen; omega); rw [ints_len]; have K2 := hidMk k2; clear o2 k2))
    go_ret
    refine ⟨?_, K2.out⟩
    rw [HLB.out]
    cases L <;> simp
    omega
  · rw [decide_eq_false hp] at H
    have e : leafI l i = false := by unfold leafI; rw [decide_eq_false hp]; rfl
    rw [e]
    clear e hp
    go_enter Tryz.func72, Tryz.ntmps72
    go_wp2_with (go_at_call 99; refine H.out.mono ?_; rintro e w1 ⟨rfl, rfl⟩)
    go_ret
    exact ⟨rfl, Kept.refl _⟩
end Go.Proofs.YtpehinmckppjoaaGreatDoor
namespace Go.Proofs.YtpehinmckppjoaaGreatDoor
open Go.RowKit Go.Maps
set_option linter.unusedSimpArgs false
set_option linter.unusedVariables false

/-- Places behind an own row. -/
theorem wpList_catI {ops : Array Oper} {rest : List Oper} {o : Oper} {a : Act} {Q : Exit → Act → World → Prop} (w : World) (hgd : o.guard = none) (s x : Operand)
    (ho : o.op = .call { callee := .builtin .append, args := #[s, x], argTypes := #[107, 107] })
    (B : Nat) (v : Value) (l : List Int) (hs : a.eval s = v) (hv : OwnI w B v l) (hB : B ≤ w.heap.size) (ad : Addr) (m c : Nat) (M : List Int) (hx : a.eval x = .slice (some ad) m c) (hM : Sl .i64 w (some ad) m M)
    (h47 : (l.length + m) * 8 ≤ 140737488355328) (hm : 0 < m)
    (h : ∀ g cap w', OwnI w' B (.slice (some ⟨g, 0, none⟩) (l.length + m) cap) (l ++ M) → Chg (fun k => v.ownBlock = some k) w w' → (v.ownBlock = some g ∨ g = w.heap.size) → wpList Tryz.prog ops Q rest (a.put o.dst (.slice (some ⟨g, 0, none⟩) (l.length + m) cap)) w') : wpList Tryz.prog ops Q (o :: rest) a w := by
  obtain ⟨i0, hi0, hz0, hz1, hz2⟩ := iinfo
  have hlen := hM.len
  refine wpList_append_lies w hgd s x 107 ho B 3 i0 (.int .i64 0) 1 8 Tryz.underlying107 hi0 hz0 hz1 hz2 rfl (by decide) v _ _ hs hv ad m c (M.map (Value.int .i64)) hx (by simpa using hlen) (sl_newsI hM rfl) (ints_one M) hm (by unfold maxLen; omega) (by omega) hB w.heap.size rfl ?_
  intro g cap w' h2 h3 h4 h5
  refine h g cap w' ?_ ((Chg.refl _ w).grown h3 (fun k hk => .inl hk)) h4
  unfold OwnI
  rw [List.length_append, List.map_append, hlen]
  exact h2
theorem ownI_one (w : World) (i : Nat) : OwnI (w.alloc (.cells #[.int .i64 (i : Nat)] 3)) w.heap.size (.slice (some ⟨w.heap.size, 0, none⟩) 1 1) [(i : Int)] :=
  ⟨by simp, .inr ⟨w.heap.size, 1, #[.int .i64 (i : Nat)], rfl, Nat.le_refl _, heap_alloc_new w _, by simp, by unfold maxLen; omega, by simp, by simp⟩⟩
def refD (l : List Nd) : Nat → Nat → List Nat
  | 0, i => [i]
  | f + 1, i => i :: (kidN l i).flatMap (refD l f)
theorem refD_fit {l : List Nd} {d : Nat} : ∀ {f i : Nat}, Fit l d (kidN l i) → d ≤ f → refD l f i = i :: dfsL l d (kidN l i) := by
  induction d with
  | zero =>
    intro f i h _
    have e : kidN l i = [] := h
    cases f with
    | zero => rfl
    | succ f => simp [refD, e, dfsL]
  | succ d ih =>
    intro f i h hd
    cases f with
    | zero => omega
    | succ f =>
      show i :: (kidN l i).flatMap (refD l f) = i :: (kidN l i).flatMap fun k => k :: dfsL l d (kidN l k)
      congr 1
      have e : ∀ qs : List Nat, (∀ q, q ∈ qs → q ∈ kidN l i) → qs.flatMap (refD l f) = qs.flatMap fun k => k :: dfsL l d (kidN l k) := by
        intro qs hq
        induction qs with
        | nil => rfl
        | cons q r ihr =>
          simp only [List.flatMap_cons]
          rw [ih (h q (hq q (List.mem_cons_self ..))) (by omega), ihr (fun x hx => hq x (List.mem_cons_of_mem _ hx))]
      exact e _ (fun q hq => hq)
theorem refD_pos (l : List Nd) (f i : Nat) : 0 < (refD l f i).length := by
  cases f <;> simp [refD]
set_option maxHeartbeats 2000000 in
set_option maxRecDepth 100000 in
theorem r_down {l : List Nd} {p : Nat} (f : Nat) : ∀ (i deep : Nat) (w : World), deep + f = 40 → i < l.length → RT w p l → (refD l f i).length ≤ 1000 →
    Calls Tryz.prog 98 #[.pointer (some ⟨p, 0, none⟩), .int .i64 i, .int .i64 deep] w fun e w' => ∃ v, e = .returned v ∧ OwnI w' w.heap.size v (ints (refD l f i)) ∧ Kept w w' := by
  induction f with
  | zero =>
    intro i deep w hd hi h hlen
    have e : deep = 40 := by omega
    subst e
    have hb := h.big
    have HKD := hidMk (fun y (hy : Kept w y) => r_Kids (h.kept hy) i)
    rw [show kidsI l i = ints (kidN l i) from if_pos (isP_nat hi)] at HKD
    have hkl := kidK_len l l.length i
    rw [show kidK l l.length (i : Int) = kidN l i from rfl] at hkl
    clear h
    generalize kidN l (i : Int) = L at *
    have HO := hidMk (ownI_one w i)
    go_enter Tryz.func98, Tryz.ntmps98
    go_wp2_with (go_at_call 100; refine (HKD.out _ ((Kept.refl w).alloc _)).mono ?_; rintro e w2 ⟨v2, rfl, o2, k2⟩; obtain ⟨a2, c2, rfl, _⟩ := o2.sl (by rw [ints_len]; unfold maxLen; omega); rw [ints_len]; have K2 := hidMk k2; clear o2 k2)
    refine wp_loop_rounds 1 ?_
    rw [rounds_succ]
    go_wp2_with fail
    all_goals go_ret
    all_goals exact ⟨_, rfl, HO.out.chg (S := fun _ => False) (Chg.of_kept K2.out) (fun _ _ e => e), ((Kept.refl w).alloc _).trans K2.out⟩
  | succ f ih =>
    intro i deep w hd hi h hlen
    have hb := h.big
    have HRT := hidMk h
    have IH := hidMk ih
    have HKD := hidMk (fun y (hy : Kept w y) => r_Kids (h.kept hy) i)
    rw [show kidsI l i = ints (kidN l i) from if_pos (isP_nat hi)] at HKD
    have hkl := kidK_len l l.length i
    rw [show kidK l l.length (i : Int) = kidN l i from rfl] at hkl
    have HL := hidMk (show ∀ q, q ∈ kidN l i → q < l.length from fun q hq => (mem_kidN.1 hq).1)
    have hrd : refD l (f + 1) i = i :: (kidN l i).flatMap (refD l f) := rfl
    rw [hrd] at hlen ⊢
    clear h ih hrd
    generalize kidN l (i : Int) = L at *
    have HO := hidMk (ownI_one w i)
    have HLN := hidMk hlen
    have hdp : (deep : Int) < 40 := by omega
    have hdp2 : deep + 1 + f = 40 := by omega
    clear hlen
    go_enter Tryz.func98, Tryz.ntmps98
    go_wp2_with (go_at_call 100; refine (HKD.out _ ((Kept.refl w).alloc _)).mono ?_; rintro e w2 ⟨v2, rfl, o2, k2⟩; obtain ⟨a2, c2, rfl, s2⟩ := o2.sl (by rw [ints_len]; unfold maxLen; omega); have B2 := hidMk (show ∀ ad, a2 = some ad → w.heap.size < ad.block from fun ad had => by have := (o2.lt ad.block (by rw [had]; rfl)).1; simp at this; omega); rw [ints_len] at s2 ⊢; have K2 := hidMk (((Kept.refl w).alloc _).trans k2); have S2 := hidMk s2; have O2 := hidMk (HO.out.chg (S := fun _ => False) (Chg.of_kept k2) (fun _ _ e => e)); clear o2 k2 s2)
    go_loopg [7, 9] L.length (fun g v x wr => ∃ k : Nat, k + g = L.length ∧ x = .int .i64 k ∧ Kept w wr ∧ Sl .i64 wr a2 L.length (ints L) ∧ OwnI wr w.heap.size v (ints (i :: (L.take k).flatMap (refD l f))) ∧ Hid (∀ ad, a2 = some ad → v.ownBlock ≠ some ad.block))
    case atStart => exact ⟨0, by omega, rfl, K2.out, S2.out, by simpa [ints] using O2.out, hidMk fun ad had e => by have := B2.out ad had; simp [Value.ownBlock] at e; omega⟩
    case round =>
      obtain ⟨k, hkg, rfl, hk, hsl, ho, HAP⟩ := hrel
      have HKG := hidMk hkg
      have HK := hidMk hk
      have HO3 := hidMk ho
      have HS3 := hidMk hsl
      by_cases hkn : k < L.length
      · obtain ⟨b, oo, rfl, hbb, hcs⟩ := hsl.cells (by omega)
        have hc := hcs k hkn
        rw [ints_get L k hkn] at hc
        have HTK := hidMk (show (L.take (k + 1)).flatMap (refD l f) = (L.take k).flatMap (refD l f) ++ refD l f L[k] by
          rw [List.take_succ_eq_append_getElem hkn, List.flatMap_append]
          simp)
        have HLE := hidMk (show ((L.take k).flatMap (refD l f)).length + (refD l f L[k]).length + 1 ≤ 1000 by
          have e : L.flatMap (refD l f) = (L.take (k + 1)).flatMap (refD l f) ++ (L.drop (k + 1)).flatMap (refD l f) := by rw [← List.flatMap_append, List.take_append_drop]
          have := HLN.out
          rw [e, HTK.out] at this
          simp only [List.length_cons, List.length_append] at this
          omega)
        have hq := HL.out L[k] (List.getElem_mem hkn)
        have HC := hidMk (IH.out L[k] (deep + 1) wr hdp2 hq (HRT.out.kept hk) (by have := HLE.out; omega))
        have HPOS := hidMk (refD_pos l f L[k])
        clear hcs hkg hk ho hsl
        generalize L[k] = q at *
        have hpl : (ints (i :: (L.take k).flatMap (refD l f))).length = ((L.take k).flatMap (refD l f)).length + 1 := by rw [ints_len]; rfl
        generalize (L.take k).flatMap (refD l f) = P at *
        generalize refD l f q = R at *
        go_wp2_with (first | (go_at_call 98; refine HC.out.mono ?_; rintro e w4 ⟨v4, rfl, o4, k4⟩; obtain ⟨a4, c4, rfl, s4⟩ := o4.sl (by rw [ints_len]; have := HLE.out; unfold maxLen; omega); rw [ints_len] at s4 ⊢; obtain ⟨b4, o4', rfl, _, _⟩ := s4.cells HPOS.out; have K4 := hidMk (HK.out.trans k4); have S4 := hidMk s4; have S5 := hidMk (HS3.out.kept k4); have O4 := hidMk (HO3.out.chg (S := fun _ => False) (Chg.of_kept k4) (fun _ _ e => e)); clear o4 k4 s4) | (at_builtin; refine wpList_catI _ rfl _ _ rfl w.heap.size _ (ints (i :: P)) rfl O4.out ?c1 _ _ _ (ints R) rfl S4.out ?c2 HPOS.out ?_))
        case c1 => exact K4.out.size
        case c2 => rw [hpl]; have := HLE.out; omega
        intro g5 cap5 w5 o5 k5 a5
        have K5 := hidMk (show Kept w w5 from k5.kept K4.out (fun t ht => (O4.out.lt t ht).1))
        have O5 := hidMk o5
        have S6 := hidMk (S5.out.chg k5 (fun _ ad had e => HAP.out ad had e))
        have AP5 := hidMk (show ∀ ad, some (⟨b, oo, none⟩ : Addr) = some ad → (Value.slice (some ⟨g5, 0, none⟩) ((ints (i :: P)).length + R.length) cap5).ownBlock ≠ some ad.block from fun ad had e => by
          simp only [Value.ownBlock, Option.some.injEq] at e
          rcases a5 with a5 | a5
          · exact HAP.out ad had (by rw [a5, e])
          · cases had
            have hlt := S5.out.cells (by omega)
            obtain ⟨b', o', e1, e2, _⟩ := hlt
            cases e1
            have : g5 = b := e
            omega)
        clear o5 k5
        go_wp2_with fail
        go_roundg (gk - 1)
        case measure => have := HKG.out; omega
        case rel =>
          refine ⟨k + 1, by have := HKG.out; omega, by go_num, K5.out, S6.out, ?_, AP5⟩
          rw [HTK.out, ← List.cons_append, ints_app]
          exact O5.out
      · have e : k = L.length := by omega
        have hkk : ¬ ((k : Int) < (L.length : Int)) := by omega
        have HF := hidMk (show L.take k = L from List.take_of_length_le (by omega))
        clear hk ho hsl hkg
        go_wp2_with fail
        go_ret
        refine ⟨_, rfl, ?_, HK.out⟩
        have := HO3.out
        rw [HF.out] at this
        exact this
theorem dfs_top1 {l : List Nd} (h : Tr l) {i : Nat} (hi : i ∈ topsN l) : refD l 40 i = dfsL l 6 [i] := by
  have hf : Fit l 5 (kidN l i) := fit_tops h i hi
  rw [refD_fit hf (by omega)]
  simp [dfsL]
set_option maxHeartbeats 1000000 in
theorem r_Order {w : World} {p : Nat} {l : List Nd} (h : RT w p l) (ht : Tr l) : Calls Tryz.prog 71 #[.pointer (some ⟨p, 0, none⟩)] w fun e w' => ∃ v, e = .returned v ∧ OwnI w' w.heap.size v (ints (ordN l)) ∧ Kept w w' := by
  have HRT := hidMk h
  have HTR := hidMk ht
  have hb := h.big
  obtain ⟨b, cc, q1, q2⟩ := h.cells
  have Q1 := hidMk q1
  have Q2 := hidMk q2
  have HON := hidMk (show ordN l = dfsL l 6 (kidK l l.length (-1)) from rfl)
  have hol := ord_len ht
  clear h q1 q2 ht
  generalize ordN l = ON at *
  go_enter Tryz.func71, Tryz.ntmps71
  go_wp2_with fail
  go_loopg [3, 4] l.length (fun g v x wr => ∃ k : Nat, k + g = l.length ∧ x = .int .i64 k ∧ Kept w wr ∧ OwnI wr w.heap.size v (ints (dfsL l 6 (kidK l k (-1)))))
  case atStart => exact ⟨0, by omega, rfl, Kept.refl _, ownI_nil _ _⟩
  case round =>
    obtain ⟨k, hkg, rfl, hk, ho⟩ := hrel
    have HKG := hidMk hkg
    have HK := hidMk hk
    have HO := hidMk ho
    have q1 := Q1.out wr hk
    by_cases hkn : k < l.length
    · have q3 := (Q2.out k hkn wr hk).2
      have hks := kidK_succ l k (-1)
      rcases HTR.out.ups k hkn with hu | hu
      · rw [if_pos hu] at hks
        have hkt : k ∈ topsN l := mem_kidN.2 ⟨hkn, hu⟩
        have hrd := dfs_top1 HTR.out hkt
        have HLE := hidMk (show (dfsL l 6 (kidK l k (-1))).length + (dfsL l 6 [k]).length ≤ 60 by
          have hsub : (kidK l (k + 1) (-1)).Sublist (kidK l l.length (-1)) := by
            unfold kidK
            exact List.Sublist.filter _ (List.range_sublist.2 (by omega))
          have e1 : (dfsL l 6 (kidK l (k + 1) (-1))).length ≤ (dfsL l 6 (kidK l l.length (-1))).length := by
            obtain ⟨m, hm⟩ : ∃ m, kidK l l.length (-1) = kidK l (k + 1) (-1) ++ m := by
              unfold kidK
              refine ⟨((List.range' (k + 1) (l.length - (k + 1))).filter fun i => decide (upA l i = -1)), ?_⟩
              rw [← List.filter_append]
              congr 1
              rw [List.range_eq_range', List.range_eq_range']
              have t := List.range'_append_1 (s := 0) (m := k + 1) (n := l.length - (k + 1))
              rw [show k + 1 + (l.length - (k + 1)) = l.length by omega, Nat.zero_add] at t
              exact t.symm
            rw [hm, dfsL_app, List.length_append]
            omega
          rw [hks, dfsL_app, List.length_append] at e1
          have := HON.out
          rw [← this] at e1
          omega)
        have HC := hidMk (r_down 40 k 0 wr (by omega) hkn (HRT.out.kept hk) (by rw [hrd]; have := HLE.out; omega))
        have HPOS := hidMk (refD_pos l 40 k)
        rw [hrd] at HC HPOS
        have HKS := hidMk (show dfsL l 6 (kidK l (k + 1) (-1)) = dfsL l 6 (kidK l k (-1)) ++ dfsL l 6 [k] by rw [hks, dfsL_app])
        rw [hu] at q3
        clear hks hrd hkt hu hk ho hkg
        generalize dfsL l 6 (kidK l k (-1)) = P at *
        generalize dfsL l 6 [k] = R at *
        go_wp2_with (first | (go_at_call 98; refine HC.out.mono ?_; rintro e w4 ⟨v4, rfl, o4, k4⟩; obtain ⟨a4, c4, rfl, s4⟩ := o4.sl (by rw [ints_len]; have := HLE.out; unfold maxLen; omega); rw [ints_len] at s4 ⊢; obtain ⟨b4, o4', rfl, _, _⟩ := s4.cells HPOS.out; have K4 := hidMk (HK.out.trans k4); have S4 := hidMk s4; have O4 := hidMk (HO.out.chg (S := fun _ => False) (Chg.of_kept k4) (fun _ _ e => e)); clear o4 k4 s4) | (at_builtin; refine wpList_catI _ rfl _ _ rfl w.heap.size _ (ints P) rfl O4.out ?c1 _ _ _ (ints R) rfl S4.out ?c2 HPOS.out ?_))
        case c1 => exact K4.out.size
        case c2 => rw [ints_len]; have := HLE.out; omega
        intro g5 cap5 w5 o5 k5 a5
        have K5 := hidMk (show Kept w w5 from k5.kept K4.out (fun t ht => (O4.out.lt t ht).1))
        have O5 := hidMk o5
        clear o5 k5 a5
        go_wp2_with fail
        go_roundg (gk - 1)
        case measure => have := HKG.out; omega
        case rel =>
          refine ⟨k + 1, by have := HKG.out; omega, by go_num, K5.out, ?_⟩
          rw [HKS.out, ints_app]
          exact O5.out
      · rw [if_neg (by have := hu.1; omega)] at hks
        have HKS := hidMk hks
        have hu0 : ¬ (upA l k < 0) := by have := hu.1; omega
        clear hks hu hk ho hkg
        generalize upA l k = u at *
        go_wp2_with fail
        go_roundg (gk - 1)
        case measure => have := HKG.out; omega
        case rel =>
          refine ⟨k + 1, by have := HKG.out; omega, by go_num, HK.out, ?_⟩
          rw [HKS.out]
          exact HO.out
    · have e : k = l.length := by omega
      subst e
      clear hk ho hkg
      have hkk : ¬ ((l.length : Int) < (l.length : Int)) := by omega
      go_wp2_with fail
      go_ret
      exact ⟨_, rfl, by rw [HON.out]; exact HO.out, HK.out⟩
end Go.Proofs.YtpehinmckppjoaaGreatDoor
namespace Go.Proofs.YtpehinmckppjoaaGreatDoor
open Go.RowKit Go.Maps
set_option linter.unusedSimpArgs false
set_option linter.unusedVariables false

theorem leafI_nat {l : List Nd} {x : Nat} (h : x < l.length) : leafI l x = leafB l x := by unfold leafI; rw [decide_eq_true (isP_nat h)]; rfl
set_option maxHeartbeats 1000000 in
theorem r_Leaves {w : World} {p : Nat} {l : List Nd} (h : RT w p l) (ht : Tr l) : Calls Tryz.prog 44 #[.pointer (some ⟨p, 0, none⟩)] w fun e w' => ∃ v, e = .returned v ∧ OwnI w' w.heap.size v (ints (lvsN l)) ∧ Kept w w' := by
  have HRT := hidMk h
  have hb := h.big
  have HC := hidMk (r_Order h ht)
  have hol := ord_len ht
  have HLV := hidMk (show lvsN l = (ordN l).filter (leafB l) from rfl)
  have HLT := hidMk (@ord_lt l)
  clear h ht
  generalize lvsN l = LV at *
  generalize ordN l = ON at *
  go_enter Tryz.func44, Tryz.ntmps44
  go_wp2_with (go_at_call 71; refine HC.out.mono ?_; rintro e w2 ⟨v2, rfl, o2, k2⟩; obtain ⟨a2, c2, rfl, s2⟩ := o2.sl (by rw [ints_len]; unfold maxLen; omega); rw [ints_len] at s2 ⊢; have K2 := hidMk k2; have S2 := hidMk s2; clear o2 k2 s2)
  go_loopg [3, 5] ON.length (fun g v x wr => ∃ k : Nat, k + g = ON.length ∧ x = .int .i64 k ∧ Kept w2 wr ∧ OwnI wr w2.heap.size v (ints ((ON.take k).filter (leafB l))))
  case atStart => exact ⟨0, by omega, rfl, Kept.refl _, ownI_nil _ _⟩
  case round =>
    obtain ⟨k, hkg, rfl, hk, ho⟩ := hrel
    have HKG := hidMk hkg
    have HK := hidMk hk
    have HO := hidMk ho
    by_cases hkn : k < ON.length
    · obtain ⟨b, oo, rfl, _, hcs⟩ := (S2.out.kept hk).cells (by omega)
      have hc := hcs k hkn
      rw [ints_get ON k hkn] at hc
      have hx := HLT.out ON[k] (List.getElem_mem hkn)
      have hlf := r_Leaf (HRT.out.kept (K2.out.trans hk)) (ON[k] : Nat)
      rw [leafI_nat hx] at hlf
      have htk : (ON.take (k + 1)).filter (leafB l) = (ON.take k).filter (leafB l) ++ [ON[k]].filter (leafB l) := by rw [List.take_succ_eq_append_getElem hkn, List.filter_append]
      have hfl := List.length_filter_le (leafB l) (ON.take k)
      rw [List.length_take] at hfl
      generalize ON[k] = y at *
      clear hcs hk ho hkg
      cases hl : leafB l y with
      | true =>
        rw [hl] at hlf
        have HLF := hidMk hlf
        have HTK := hidMk (show (ON.take (k + 1)).filter (leafB l) = (ON.take k).filter (leafB l) ++ [y] by rw [htk]; simp [hl])
        clear hlf htk hl
        generalize (ON.take k).filter (leafB l) = P at *
        go_wp2_with fail
        refine HLF.out.mono ?_
        rintro e w4 ⟨rfl, k4⟩
        have K4 := hidMk (HK.out.trans k4)
        have hc4 := k4.cellp hc
        have O4 := hidMk (HO.out.chg (S := fun _ => False) (Chg.of_kept k4) (fun _ _ e => e))
        clear k4 hc
        go_wp2_with (at_builtin; refine wpList_pushI _ rfl _ _ rfl w2.heap.size _ (ints P) rfl (O4.out.chg (S := fun _ => False) (Chg.of_kept ((Kept.refl _).alloc _)) (fun _ _ e => e)) ?c1 _ (y : Int) rfl ?c2 ?c3 _ rfl ?_)
        case c1 => simp; have := K4.out.size; omega
        case c2 => simp
        case c3 => rw [ints_len]; omega
        intro g' cap w5 o5 k5 _ _
        have K5 := hidMk (show Kept w2 w5 from k5.kept (K4.out.alloc _) (fun t ht => (O4.out.lt t ht).1))
        have O5 := hidMk o5
        clear o5 k5
        go_wp2_with fail
        go_roundg (gk - 1)
        case measure => have := HKG.out; omega
        case rel =>
          refine ⟨k + 1, by have := HKG.out; omega, by go_num, K5.out, ?_⟩
          rw [HTK.out, ints_app]
          exact O5.out
      | false =>
        rw [hl] at hlf
        have HLF := hidMk hlf
        have HTK := hidMk (show (ON.take (k + 1)).filter (leafB l) = (ON.take k).filter (leafB l) by rw [htk]; simp [hl])
        clear hlf htk hl
        go_wp2_with fail
        refine HLF.out.mono ?_
        rintro e w4 ⟨rfl, k4⟩
        have K4 := hidMk (HK.out.trans k4)
        have O4 := hidMk (HO.out.chg (S := fun _ => False) (Chg.of_kept k4) (fun _ _ e => e))
        clear k4
        go_wp2_with fail
        go_roundg (gk - 1)
        case measure => have := HKG.out; omega
        case rel =>
          refine ⟨k + 1, by have := HKG.out; omega, by go_num, K4.out, ?_⟩
          rw [HTK.out]
          exact O4.out
    · have e : k = ON.length := by omega
      have HF := hidMk (show ON.take k = ON from List.take_of_length_le (by omega))
      have hkk : ¬ ((k : Int) < (ON.length : Int)) := by omega
      clear hk ho hkg
      go_wp2_with fail
      go_ret
      refine ⟨_, rfl, ?_, K2.out.trans HK.out⟩
      have := HO.out
      rw [HF.out, ← HLV.out] at this
      exact this.base K2.out.size
end Go.Proofs.YtpehinmckppjoaaGreatDoor
namespace Go.Proofs.YtpehinmckppjoaaGreatDoor
open Go.RowKit Go.Maps
set_option linter.unusedSimpArgs false
set_option linter.unusedVariables false

end Go.Proofs.YtpehinmckppjoaaGreatDoor
