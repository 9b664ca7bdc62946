/- moietyref06.Find, named. · moietyref06.Names. · The reference's catalogue in memory; its Right. · The reference's Leaf. · The reference's Cell. · The reference's Show. -/
import Derived.Test.YtbhojgodkblflaaDims11
import Derived.Test.YtbhojgodkblflaaRefTree7B
import Derived.Laws.Concat
namespace Go.Proofs.Ytbhojgodkblflaa
open Go.RowKit Go.Maps
set_option linter.unusedSimpArgs false
set_option linter.unusedVariables false

theorem measE_bad {l : List ByteArray} {i : Nat} (h : nameB (msA l i) = false) : measE l i = 3 := by unfold measE; rw [h]; rfl
theorem measE_twice {l : List ByteArray} {i k : Nat} (hi : i < l.length) (h : nameB (msA l i) = true) (hk : k < i) (he : l.getD k ByteArray.empty = msA l i) : measE l i = 4 := by
  unfold measE
  have h2 : idxS l (msA l i) ≤ k := by
    unfold idxS
    have hkl : k < l.length := by omega
    have : ¬ k < l.findIdx (fun x => decide (x = msA l i)) := fun hlt => by
      have h3 := List.not_of_lt_findIdx hlt
      rw [List.getD_eq_getElem?_getD, List.getElem?_eq_getElem hkl, Option.getD_some] at he
      simp [he] at h3
    omega
  rw [if_pos h, if_pos (by unfold idxI; rw [if_pos (by omega)]; omega)]
theorem measE_ok {l : List ByteArray} {i : Nat} (hi : i < l.length) (h : nameB (msA l i) = true) (hn : ∀ k, k < i → l.getD k ByteArray.empty ≠ msA l i) : measE l i = 0 := by
  unfold measE
  have e : idxI l (msA l i) = i := idxS_at (k := i) hi rfl hn
  rw [if_pos h, if_neg (by rw [e]; omega)]
set_option maxHeartbeats 1000000 in
theorem ref6_named (a : Option Addr) (n c : Nat) (l : List ByteArray) (i : Nat) (w : World) (hs : Ss w a n l) (hi : i < n) (hz : (msA l i).size ≤ maxLen) : Calls Try.prog 36 #[.slice a n c, .int .i64 i] w fun e w' => e = .returned (.int .i64 (measE l i)) ∧ Kept w w' := by
  have HS := hidMk hs
  have hlen := hs.len
  have hbig := hs.big
  unfold maxLen at hbig
  obtain ⟨b, o, rfl, hb, hcs⟩ := hs.cells (by omega)
  have HN := hidMk (fun y => ref_Name (msA l i) hz y)
  have hci : w.cell? ⟨b, o + i, none⟩ = some (.string (msA l i)) := hcs i hi
  have hi' : (i : Int) < n := by omega
  have HCS := hidMk hcs
  clear hs hz hcs
  cases hnb : nameB (msA l i) with
  | false =>
    rw [hnb] at HN
    rw [measE_bad hnb]
    clear hnb HCS
    generalize msA l i = x at *
    go_enter Try.func36, Try.ntmps36
    go_wp2_with (go_at_call 53; refine (HN.out _).mono ?_; rintro e w4 ⟨rfl, hw4⟩; rw [hw4]; clear hw4)
    go_ret
    exact ⟨rfl, Kept.refl _⟩
  | true =>
    rw [hnb] at HN
    have HTW := hidMk (show ∀ k, k < i → l.getD k ByteArray.empty = msA l i → measE l i = 4 from fun k hk he => measE_twice (by omega) hnb hk he)
    have HOK := hidMk (show (∀ k, k < i → l.getD k ByteArray.empty ≠ msA l i) → measE l i = 0 from fun h => measE_ok (by omega) hnb h)
    generalize measE l i = r at *
    clear hnb
    generalize msA l i = x at *
    go_enter Try.func36, Try.ntmps36
    go_wp2_with (go_at_call 53; refine (HN.out _).mono ?_; rintro e w4 ⟨rfl, hw4⟩; rw [hw4]; clear hw4)
    go_loopg [5] i (fun g j wr => ∃ k : Nat, k + g = i ∧ j = .int .i64 k ∧ Kept w wr ∧ Hid (∀ t, t < k → l.getD t ByteArray.empty ≠ x))
    case atStart => exact ⟨0, by omega, rfl, Kept.refl _, hidMk fun j hj => absurd hj (by omega)⟩
    case round =>
      obtain ⟨k, hkg, rfl, hk, HJ⟩ := hrel
      have HKG := hidMk hkg
      have HK := hidMk hk
      by_cases hki : k < i
      · have c1 := hk.cellp (HCS.out k (by omega))
        have c2 := hk.cellp hci
        have hk1 : (k : Int) < i := by omega
        have hk2 : (k : Int) < n := by omega
        have HS2 := hidMk (show l.getD k ByteArray.empty ≠ x → ∀ j, j < k + 1 → l.getD j ByteArray.empty ≠ x from fun he j hj => by
          by_cases e : j = k
          · subst e; exact he
          · exact HJ.out j (by omega))
        have HT2 := hidMk (HTW.out k hki)
        clear hk hkg
        generalize l.getD k ByteArray.empty = y at *
        by_cases he : y = x
        · have HF := hidMk (HT2.out he)
          subst he
          go_wp2_with fail
          go_region_held3 (fun w' => w'.cell? ⟨b, o + k, none⟩ = some (.string y) ∧ w'.cell? ⟨b, o + i, none⟩ = some (.string y)) (first | go_keep | (refine ⟨?_, ?_⟩ <;> assumption)) (fail)
          go_wp2_with fail
          go_ret
          exact ⟨by rw [HF.out]; rfl, HK.out.drew⟩
        · have HN2 := hidMk (HS2.out he)
          have he' := bytes_neD he
          clear he
          go_wp2_with fail
          go_region_held3 (fun w' => w'.cell? ⟨b, o + k, none⟩ = some (.string y) ∧ w'.cell? ⟨b, o + i, none⟩ = some (.string x)) (first | go_keep | (refine ⟨?_, ?_⟩ <;> assumption)) (fail)
          go_wp2_with fail
          go_roundg (gk - 1)
          case measure => have := HKG.out; omega
          case rel => exact ⟨k + 1, by have := HKG.out; omega, by go_num, HK.out.drew, HN2⟩
      · have HF := hidMk (HOK.out (fun j hj => HJ.out j (by omega)))
        clear hk hkg
        have hkk : ¬ ((k : Int) < (i : Int)) := by omega
        go_wp2_with fail
        go_ret
        exact ⟨by rw [HF.out]; rfl, HK.out⟩
end Go.Proofs.Ytbhojgodkblflaa
namespace Go.Proofs.Ytbhojgodkblflaa
open Go.RowKit Go.Maps
set_option linter.unusedSimpArgs false
set_option linter.unusedVariables false

theorem wpList_pushS {ops : Array Oper} {rest : List Oper} {o : Oper} {a : Act} {Q : Exit → Act → World → Prop} (w : World) (hgd : o.guard = none) (s x : Operand)
    (ho : o.op = .call { callee := .builtin .append, args := #[s, x], argTypes := #[23, 23] })
    (B : Nat) (v : Value) (l : List ByteArray) (hs : a.eval s = v) (hv : OwnS w B v l) (hB : B ≤ w.heap.size) (g : Nat) (y : ByteArray) (hx : a.eval x = .slice (some ⟨g, 0, none⟩) 1 1) (hcell : w.cell? ⟨g, 0, none⟩ = some (.string y))
    (h47 : (l.length + 1) * 16 ≤ 140737488355328) (H : Nat) (hH : w.heap.size = H)
    (h : ∀ g' cap w', OwnS w' B (.slice (some ⟨g', 0, none⟩) (l.length + 1) cap) (l ++ [y]) → Chg (fun k => v.ownBlock = some k) w w' → (v.ownBlock = some g' ∨ g' = H) → g' < w'.heap.size → wpList Try.prog ops Q rest (a.put o.dst (.slice (some ⟨g', 0, none⟩) (l.length + 1) cap)) w') : wpList Try.prog ops Q (o :: rest) a w := by
  obtain ⟨i0, hi0, hz0, hz1, hz2⟩ := sinfo
  refine wpList_append_lies w hgd s x 23 ho B 9 i0 (.string ⟨#[]⟩) 1 16 Try.underlying23 hi0 hz0 hz1 hz2 rfl (by decide) v _ _ hs hv ⟨g, 0, none⟩ 1 1 [.string y] hx rfl (one_news hcell) (by intro u hu; simp at hu; subst hu; rfl) (by omega) (by unfold maxLen; omega) (by omega) hB H hH ?_
  intro g' cap w' h2 h3 h4 h5
  refine h g' cap w' ?_ ((Chg.refl _ w).grown h3 (fun k hk => .inl hk)) h4 h5
  unfold OwnS
  simpa using h2
theorem lbl_take {ds : List Dm} {k : Nat} (h : k < ds.length) : lbl (ds.take (k + 1)) = lbl (ds.take k) ++ [dmN ds k] := by rw [take_dm h]; simp [lbl]
set_option maxHeartbeats 1000000 in
theorem ref6_Names (a : Option Addr) (n c : Nat) (ds : List Dm) (na : Nat → Option Addr × Nat × Nat) (w : World) (hs : Dss w a n ds na) (hn : n ≤ 60) : Calls Try.prog 37 #[.slice a n c] w fun e w' => ∃ v, e = .returned v ∧ OwnS w' w.heap.size v (lbl ds) ∧ Kept w w' := by
  have HS := hidMk hs
  have hlen := hs.len
  clear hs
  go_enter Try.func37, Try.ntmps37
  go_wp2_with fail
  go_loopg [3, 4] n (fun g v x wr => ∃ k : Nat, k + g = n ∧ x = .int .i64 k ∧ Kept w wr ∧ Hid (OwnS wr w.heap.size v (lbl (ds.take k))))
  case atStart => exact ⟨0, by omega, rfl, Kept.refl _, hidMk (World.ownsRow_nil _ _ _ _)⟩
  case round =>
    obtain ⟨k, hkg, rfl, hk, HO⟩ := hrel
    have HKG := hidMk hkg
    have HK := hidMk hk
    by_cases hkn : k < n
    · obtain ⟨b, o, rfl, hb, hcs⟩ := HS.out.cells (by omega)
      have c1 := hk.cellp (hcs k hkn).1
      have hk1 : (k : Int) < n := by omega
      have HT := hidMk (lbl_take (ds := ds) (k := k) (by omega))
      have HLn := hidMk (show (lbl (ds.take k)).length = k by rw [lbl_len, List.length_take]; omega)
      clear hk hkg hcs
      generalize lbl (ds.take k) = L at *
      generalize dmN ds k = y at *
      go_wp2_with (at_builtin; refine wpList_pushS _ rfl _ _ rfl w.heap.size _ L rfl (HO.out.kept ((Kept.refl _).alloc _)) ?c1 _ y rfl ?c2 ?c3 _ rfl ?_)
      case c1 => simp; have := HK.out.size; omega
      case c2 => simp
      case c3 => rw [HLn.out]; omega
      intro g' cap w3 o3 k3 _ _
      have K3 := hidMk (show Kept w w3 from k3.kept (HK.out.alloc _) (fun t ht => (HO.out.lt t ht).1))
      have O3 := hidMk o3
      clear o3 k3
      go_wp2_with fail
      go_roundg (gk - 1)
      case measure => have := HKG.out; omega
      case rel => exact ⟨k + 1, by have := HKG.out; omega, by go_num, K3.out, hidMk (by rw [HT.out]; exact O3.out)⟩
    · have e : k = n := by omega
      subst e
      have HE := hidMk (show ds.take k = ds from List.take_of_length_le (by omega))
      clear hk hkg
      have hkk : ¬ ((k : Int) < (k : Int)) := by omega
      go_wp2_with fail
      go_ret
      exact ⟨_, rfl, by rw [← HE.out]; exact HO.out, HK.out⟩
end Go.Proofs.Ytbhojgodkblflaa
namespace Go.Proofs.Ytbhojgodkblflaa
open Go.RowKit Go.Maps
set_option linter.unusedSimpArgs false
set_option linter.unusedVariables false

/-- The reference's catalogue. -/
structure RDm (w : World) (p : Nat) (ds : List Dm) (rt : Nat → Nat) (ms : List ByteArray) : Prop where
  c1 : ∃ ma mc, w.cell? ⟨p, 1, none⟩ = some (.slice ma ms.length mc) ∧ Ss w ma ms.length ms
  c4 : ∃ ta tc, w.cell? ⟨p, 4, none⟩ = some (.slice ta ds.length tc) ∧ (0 < ds.length → ∃ b, ta = some ⟨b, 0, none⟩ ∧ ∀ k, k < ds.length → w.cell? ⟨b, k, none⟩ = some (.pointer (some ⟨rt k, 0, none⟩)))
  tr : ∀ k, k < ds.length → RT w (rt k) (dmL ds k)
theorem RDm.kept {w w' : World} {p : Nat} {ds : List Dm} {rt : Nat → Nat} {ms : List ByteArray} (h : RDm w p ds rt ms) (g : Kept w w') : RDm w' p ds rt ms := by
  obtain ⟨⟨ma, mc, h1, h2⟩, ⟨ta, tc, h3, h4⟩, h5⟩ := h
  exact ⟨⟨ma, mc, g.cellp h1, h2.kept g⟩, ⟨ta, tc, g.cellp h3, fun hp => by
    obtain ⟨b, e, hb⟩ := h4 hp
    exact ⟨b, e, fun k hk => g.cellp (hb k hk)⟩⟩, fun k hk => (h5 k hk).kept g⟩
set_option maxHeartbeats 4000000 in
set_option maxRecDepth 100000 in
theorem ref6_Right {w : World} {p : Nat} {ds : List Dm} {rt : Nat → Nat} {ms : List ByteArray} (h : RDm w p ds rt ms) (hm : ds.length ≤ 4) (cm : Int) (at_ : Nat → Int) :
    Calls Try.prog 62 #[.pointer (some ⟨p, 0, none⟩), cellV cm at_] w fun e w' => e = .returned (.bool (rightB ms ds cm at_)) ∧ Kept w w' := by
  obtain ⟨r, hr⟩ : ∃ r, rightB ms ds cm at_ = r := ⟨_, rfl⟩
  rw [hr]
  have HR := hidMk hr
  obtain ⟨⟨ma, mc, h1, h2⟩, ⟨ta, tc, h3, h4⟩, h5⟩ := h
  have hbig := h2.big
  unfold maxLen at hbig
  have HT := hidMk h4
  have H5 := hidMk h5
  have t1 := fun o q => (((Kept.refl w).alloc o).drewN q).cellp h1
  have HBX := hidMk (box_at w 28 cm at_)
  clear h2 h4 h5
  unfold cellV at *
  by_cases hp1 : cm < 0
  · have HF := hidMk (show r = false by rw [← HR.out]; unfold rightB placeB; rw [decide_eq_false (by omega)]; rfl)
    clear HBX
    generalize at_ 0 = a0 at *
    generalize at_ 1 = a1 at *
    generalize at_ 2 = a2 at *
    generalize at_ 3 = a3 at *
    go_enter Try.func62, Try.ntmps62
    go_wp2_with fail
    go_quiet (fail)
    go_wp2_with fail
    go_ret
    exact ⟨by rw [HF.out]; rfl, ((Kept.refl w).alloc _).drewN _⟩
  · by_cases hp2 : cm < ms.length
    · have hp2' : ¬ ((ms.length : Int) ≤ cm) := by omega
      have HPB := hidMk (show placeB cm ms.length = true by unfold placeB; exact decide_eq_true (by omega))
      generalize at_ 0 = a0 at *
      generalize at_ 1 = a1 at *
      generalize at_ 2 = a2 at *
      generalize at_ 3 = a3 at *
      go_enter Try.func62, Try.ntmps62
      go_wp2_with fail
      go_quiet (fail)
      go_wp2_with fail
      refine gen_world (f := fun W => Code.wp _ _ _ _ W) (fun W => Kept w W ∧ ∀ k, k < 4 → W.cell? ⟨w.heap.size, 1 + k, none⟩ = some (.int .i64 (at_ k))) ⟨((Kept.refl w).alloc _).drewN _, fun k hk => ((Kept.refl _).drewN _).cellp (HBX.out k hk)⟩ ?_
      rintro W ⟨kW, hbW⟩
      have HKW := hidMk kW
      have HBW := hidMk hbW
      have t4 := kW.cellp h3
      clear kW hbW HBX t1
      go_loopg [5] 4 (fun g x wr => ∃ k : Nat, k + g = 4 ∧ x = .int .i64 k ∧ wr = W ∧ Hid (∀ j, j < k → placeB (at_ j) (many ds j) = true))
      case atStart => exact ⟨0, by omega, rfl, rfl, hidMk fun j hj => absurd hj (by omega)⟩
      case round =>
        obtain ⟨k, hkg, rfl, rfl, HJ⟩ := hrel
        have HKG := hidMk hkg
        by_cases hk4 : k < 4
        · have cx := HBW.out k hk4
          have HNO := hidMk (show placeB (at_ k) (many ds k) = false → r = false from fun e => by rw [← HR.out]; exact right_no hk4 e)
          have HYES := hidMk (show placeB (at_ k) (many ds k) = true → ∀ j, j < k + 1 → placeB (at_ j) (many ds j) = true from fun e j hj => by
            by_cases e' : j = k
            · subst e'; exact e
            · exact HJ.out j (by omega))
          have k4' : (k : Int) < 4 := by omega
          by_cases hkd : k < ds.length
          · obtain ⟨bb, rfl, hb⟩ := HT.out (by omega)
            have d2 := HKW.out.cellp (hb k hkd)
            obtain ⟨⟨lb, lc, e1, _⟩, e2, _⟩ := (H5.out k hkd).kept HKW.out
            rw [show many ds k = (dmL ds k).length from if_pos hkd] at HNO HYES
            have kd' : (k : Int) < ds.length := by omega
            clear hb hkg
            generalize at_ k = x at *
            generalize (dmL ds k).length = L at *
            generalize rt k = q at *
            by_cases hx0 : x < 0
            · have HN2 := hidMk (HNO.out (by unfold placeB; exact decide_eq_false (by omega)))
              go_wp2_with fail
              go_ret
              exact ⟨by rw [HN2.out]; rfl, HKW.out⟩
            · by_cases hx1 : x < L
              · have HY2 := hidMk (HYES.out (by unfold placeB; exact decide_eq_true (by omega)))
                have hx2 : ¬ ((L : Int) ≤ x) := by omega
                go_wp2_with fail
                go_roundg (gk - 1)
                case measure => have := HKG.out; omega
                case rel => exact ⟨k + 1, by have := HKG.out; omega, by go_num, rfl, HY2⟩
              · have HN2 := hidMk (HNO.out (by unfold placeB; exact decide_eq_false (by omega)))
                have hx2 : (L : Int) ≤ x := by omega
                go_wp2_with fail
                go_ret
                exact ⟨by rw [HN2.out]; rfl, HKW.out⟩
          · rw [show many ds k = 1 from if_neg hkd] at HNO HYES
            have kd' : ¬ ((k : Int) < ds.length) := by omega
            clear hkg
            generalize at_ k = x at *
            by_cases hx0 : x < 0
            · have HN2 := hidMk (HNO.out (by unfold placeB; exact decide_eq_false (by omega)))
              go_wp2_with fail
              go_ret
              exact ⟨by rw [HN2.out]; rfl, HKW.out⟩
            · by_cases hx1 : x < 1
              · have HY2 := hidMk (HYES.out (by unfold placeB; exact decide_eq_true (by omega)))
                have hx2 : ¬ ((1 : Int) ≤ x) := by omega
                go_wp2_with fail
                go_roundg (gk - 1)
                case measure => have := HKG.out; omega
                case rel => exact ⟨k + 1, by have := HKG.out; omega, by go_num, rfl, HY2⟩
              · have HN2 := hidMk (HNO.out (by unfold placeB; exact decide_eq_false (by omega)))
                have hx2 : (1 : Int) ≤ x := by omega
                go_wp2_with fail
                go_ret
                exact ⟨by rw [HN2.out]; rfl, HKW.out⟩
        · have HF := hidMk (show r = true by rw [← HR.out]; unfold rightB; simp only [HPB.out, HJ.out 0 (by omega), HJ.out 1 (by omega), HJ.out 2 (by omega), HJ.out 3 (by omega), Bool.and_self])
          clear hkg
          have kd' : ¬ ((k : Int) < 4) := by omega
          go_wp2_with fail
          go_ret
          exact ⟨by rw [HF.out]; rfl, HKW.out⟩
    · have hp2' : (ms.length : Int) ≤ cm := by omega
      have HF := hidMk (show r = false by rw [← HR.out]; unfold rightB placeB; rw [decide_eq_false (by omega)]; rfl)
      clear HBX
      generalize at_ 0 = a0 at *
      generalize at_ 1 = a1 at *
      generalize at_ 2 = a2 at *
      generalize at_ 3 = a3 at *
      go_enter Try.func62, Try.ntmps62
      go_wp2_with fail
      go_quiet (fail)
      go_wp2_with fail
      go_ret
      exact ⟨by rw [HF.out]; rfl, ((Kept.refl w).alloc _).drewN _⟩
end Go.Proofs.Ytbhojgodkblflaa
namespace Go.Proofs.Ytbhojgodkblflaa
open Go.RowKit Go.Maps
set_option linter.unusedSimpArgs false
set_option linter.unusedVariables false

end Go.Proofs.Ytbhojgodkblflaa
namespace Go.Proofs.Ytbhojgodkblflaa
open Go.RowKit Go.Maps
set_option linter.unusedSimpArgs false
set_option linter.unusedVariables false

theorem idxI_ge (l : List ByteArray) (s : ByteArray) : -1 ≤ idxI l s := by unfold idxI; split <;> omega
theorem findI_ge (l : List Nd) (s : ByteArray) : -1 ≤ findI l s := by unfold findI; split <;> omega
end Go.Proofs.Ytbhojgodkblflaa
namespace Go.Proofs.Ytbhojgodkblflaa
open Go.RowKit Go.Maps
set_option linter.unusedSimpArgs false
set_option linter.unusedVariables false

theorem joinB_one (sep x : ByteArray) : joinB sep [x] = x := by
  unfold joinB datas
  simp [List.intercalate, List.intersperse]
theorem inter_snoc (c x : List UInt8) : ∀ l : List (List UInt8), l ≠ [] → c.intercalate (l ++ [x]) = c.intercalate l ++ c ++ x
  | [], h => absurd rfl h
  | [y], _ => by simp [List.intercalate, List.intersperse]
  | y :: z :: r, _ => by
    have ih := inter_snoc c x (z :: r) (by simp)
    have e1 : ∀ t, c.intercalate (y :: z :: t) = y ++ c ++ c.intercalate (z :: t) := fun t => by simp [List.intercalate, List.intersperse]
    rw [List.cons_append, List.cons_append, e1, e1, ← List.cons_append, ih]
    simp [List.append_assoc]
theorem joinB_snoc (sep x : ByteArray) (l : List ByteArray) (h : l ≠ []) : joinB sep (l ++ [x]) = joinB sep l ++ sep ++ x := by
  apply ByteArray.ext
  apply Array.toList_inj.1
  rw [joinB_data]
  unfold datas
  rw [List.map_append, List.map_cons, List.map_nil, inter_snoc _ _ _ (by simpa using h)]
  simp [joinB, datas]
set_option maxHeartbeats 4000000 in
set_option maxRecDepth 100000 in
theorem ref6_Show {w : World} {p : Nat} {ds : List Dm} {rt : Nat → Nat} {ms : List ByteArray} (h : RDm w p ds rt ms) (hm : ds.length ≤ 4) (cm : Int) (at_ : Nat → Int) (hsz : ∀ k, k ≤ ds.length → (joinB slash (showL ms ds cm at_ k)).size ≤ 9223372036854775807) :
    Calls Try.prog 43 #[.pointer (some ⟨p, 0, none⟩), cellV cm at_] w fun e w' => e = .returned (.string (if rightB ms ds cm at_ then joinB slash (showL ms ds cm at_ ds.length) else ⟨#[]⟩)) ∧ Kept w w' := by
  have HRI := hidMk (show ∀ y, Kept w y → _ from fun y hy => ref6_Right (h.kept hy) hm cm at_)
  obtain ⟨⟨ma, mc, h1, h2⟩, ⟨ta, tc, h3, h4⟩, h5⟩ := h
  have HT := hidMk h4
  have H5 := hidMk h5
  have HMS := hidMk h2
  have hmb := h2.big
  have HSZ := hidMk hsz
  clear hsz
  have HBX := hidMk (box_at w 28 cm at_)
  clear h4 h5 h2
  unfold cellV at *
  cases hri : rightB ms ds cm at_ with
  | false =>
    rw [hri] at HRI
    clear hri HBX
    generalize at_ 0 = a0 at *
    generalize at_ 1 = a1 at *
    generalize at_ 2 = a2 at *
    generalize at_ 3 = a3 at *
    go_enter Try.func43, Try.ntmps43
    go_wp2_with (go_at_call 62; refine (HRI.out _ ((Kept.refl w).alloc _)).mono ?_; rintro e w2 ⟨rfl, k2⟩; have K2 := hidMk (((Kept.refl w).alloc _).trans k2); clear k2)
    go_ret
    exact ⟨rfl, K2.out⟩
  | true =>
    rw [hri] at HRI
    have hcm : 0 ≤ cm ∧ cm < ms.length := by
      simp only [rightB, placeB, Bool.and_eq_true, decide_eq_true_eq] at hri
      omega
    obtain ⟨mb, mo, rfl, hmb2, hmc⟩ := HMS.out.cells (by omega)
    have hmv := hmc cm.toNat (by omega)
    obtain ⟨mi, hmi⟩ : ∃ mi : Nat, cm = mi := ⟨cm.toNat, by omega⟩
    clear hri hmc
    subst hmi
    rw [Int.toNat_natCast] at hmv
    have HS0 := hidMk (show showL ms ds mi at_ 0 = [ms.getD mi ByteArray.empty] by simp [showL, msA])
    have HSS := hidMk (showL_succ ms ds mi at_)
    generalize ms.getD mi ByteArray.empty = mn at *
    generalize at_ 0 = a0 at *
    generalize at_ 1 = a1 at *
    generalize at_ 2 = a2 at *
    generalize at_ 3 = a3 at *
    go_enter Try.func43, Try.ntmps43
    go_wp2_with fail
    refine (HRI.out _ ((Kept.refl w).alloc _)).mono ?_
    rintro e w2 ⟨rfl, k2⟩
    have HB2 := hidMk (show ∀ k, k < 4 → w2.cell? ⟨w.heap.size, 1 + k, none⟩ = some (.int .i64 (at_ k)) from fun k hk => k2.cellp (HBX.out k hk))
    have x0 : w2.cell? ⟨w.heap.size, 0, none⟩ = some (.int .i64 mi) := k2.cellp (by simp)
    have K2 := hidMk (((Kept.refl w).alloc _).trans k2)
    have t4 := K2.out.cellp h3
    have t1' := K2.out.cellp h1
    have hmv' := K2.out.cellp hmv
    clear k2
    have hmi' : (mi : Int) < ms.length := hcm.2
    go_wp2_with fail
    go_region_held3 (fun w' => w'.cell? ⟨p, 1, none⟩ = some (.slice (some ⟨mb, mo, none⟩) ms.length mc) ∧ w'.cell? ⟨w.heap.size, 0, none⟩ = some (.int .i64 mi) ∧ w'.cell? ⟨mb, mo + mi, none⟩ = some (.string mn)) (first | go_keep | (refine ⟨?_, ?_, ?_⟩ <;> assumption)) (fail)
    refine gen_world (f := fun W => Exit.then _ _ _ _ W) (fun W => Kept w2 W) ((Kept.refl w2).drew) ?_
    rintro w3 k3
    have K3 := hidMk k3
    have s4 := k3.cellp t4
    clear k3 t1' hmv' x0
    go_wp2_with fail
    go_loopg [5, 6] ds.length (fun g v x wr => ∃ k : Nat, k + g = ds.length ∧ x = .int .i64 k ∧ v = .string (joinB slash (showL ms ds mi at_ k)) ∧ Kept w2 wr)
    case atStart => exact ⟨0, by omega, rfl, by rw [HS0.out, joinB_one], K3.out⟩
    case round =>
      obtain ⟨k, hkg, rfl, rfl, hk⟩ := hrel
      have HKG := hidMk hkg
      have HK := hidMk hk
      have u4 := hk.cellp t4
      by_cases hkd : k < ds.length
      · obtain ⟨bb, rfl, hb⟩ := HT.out (by omega)
        have kk := K2.out.trans hk
        have d1 := kk.cellp (hb k hkd)
        have d2 := hk.cellp (HB2.out k (by omega))
        have HNM := hidMk (show ∀ y, Kept wr y → Calls Try.prog 63 #[.pointer (some ⟨rt k, 0, none⟩), .int .i64 (at_ k)] y fun e w' => e = .returned (.string (nmK ds at_ k)) ∧ w' = y from fun y hy => r_Name ((H5.out k hkd).kept (kk.trans hy)) (at_ k))
        have kd' : (k : Int) < ds.length := by omega
        have k4' : (k : Int) < 4 := by omega
        have HCL := hidMk (And.intro u4 (And.intro d1 d2))
        have HJS := hidMk (show joinB slash (showL ms ds mi at_ (k + 1)) = joinB slash (showL ms ds mi at_ k) ++ slash ++ nmK ds at_ k by rw [HSS.out, joinB_snoc _ _ _ (by simp [showL])])
        have hz1 := HSZ.out (k + 1) (by omega)
        rw [HJS.out, ByteArray.size_append, ByteArray.size_append] at hz1
        have ad1 : ∀ y : World, (Op.stringOp .add (joinB slash (showL ms ds mi at_ k)) slash).run Try.prog y = .ok (.string (joinB slash (showL ms ds mi at_ k) ++ slash)) y := fun y => run_string_add_sum (P := Try.prog) (w := y) (a := _) (b := _) (h := by omega)
        have ad2 : ∀ y : World, (Op.stringOp .add (joinB slash (showL ms ds mi at_ k) ++ slash) (nmK ds at_ k)).run Try.prog y = .ok (.string (joinB slash (showL ms ds mi at_ k) ++ slash ++ nmK ds at_ k)) y := fun y => run_string_add_sum (P := Try.prog) (w := y) (a := _) (b := _) (h := by rw [ByteArray.size_append]; omega)
        clear hb hk hkg kk hz1
        generalize at_ k = x at *
        generalize rt k = q at *
        generalize nmK ds at_ k = nk at *
        generalize joinB slash (showL ms ds mi at_ k) = js at *
        unfold slash at *
        go_wp2_with fail
        go_region_held3 (fun w' => w'.cell? ⟨p, 4, none⟩ = some (.slice (some ⟨bb, 0, none⟩) ds.length tc) ∧ w'.cell? ⟨bb, k, none⟩ = some (.pointer (some ⟨q, 0, none⟩)) ∧ w'.cell? ⟨w.heap.size, 1 + k, none⟩ = some (.int .i64 x)) (first | go_keep | (refine ⟨?_, ?_, ?_⟩ <;> assumption)) ((go_at_call 63; refine (HNM.out _ ((Kept.refl wr).drew)).mono ?_; rintro e w5 ⟨rfl, hw5⟩; have k5 : Kept wr w5 := (by rw [hw5]; exact (Kept.refl wr).drew); have f1 := k5.cellp HCL.out.1; have f2 := k5.cellp HCL.out.2.1; have f3 := k5.cellp HCL.out.2.2; have K5 := hidMk k5; clear hw5 k5))
        go_wp2_with fail
        go_roundg (gk - 1)
        case measure => have := HKG.out; omega
        case rel => exact ⟨k + 1, by have := HKG.out; omega, by go_num, by rw [HJS.out], HK.out.trans K5.out⟩
      · have e : k = ds.length := by omega
        subst e
        clear hk hkg
        have kd' : ¬ ((ds.length : Int) < ds.length) := by omega
        go_wp2_with fail
        go_ret
        exact ⟨by simp only [if_true]; rfl, K2.out.trans HK.out⟩
end Go.Proofs.Ytbhojgodkblflaa
