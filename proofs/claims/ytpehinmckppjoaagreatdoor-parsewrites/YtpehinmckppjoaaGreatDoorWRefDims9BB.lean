/- moietyref06.Find, named. · moietyref06.Names. · The reference's catalogue in memory; its Right. · The reference's Leaf. · The reference's Cell. · The reference's Show. · moietylaw06.small. · The reference's catalogue while it is made. · The reference's New of a catalogue. · The reference's New of a catalogue: the walk. -/
import Derived.Test.YtpehinmckppjoaaGreatDoorWDims11B
import Derived.Test.YtpehinmckppjoaaGreatDoorWRefTree7BB
import Derived.Laws.Concat
namespace Go.Proofs.YtpehinmckppjoaaGreatDoor
open Go.RowKit Go.Maps
set_option linter.unusedSimpArgs false
set_option linter.unusedVariables false

set_option maxHeartbeats 1000000 in
theorem ref6_Find (a : Option Addr) (n c : Nat) (l : List ByteArray) (s : ByteArray) (w : World) (hs : Ss w a n l) : Calls Tryz.prog 54 #[.slice a n c, .string s] w fun e w' => e = .returned (.int .i64 (idxI l s)) ∧ w' = w := by
  obtain ⟨r, hr⟩ : ∃ r, idxI l s = r := ⟨_, rfl⟩
  rw [hr]
  have HR := hidMk hr
  have HS := hidMk hs
  have hlen := hs.len
  have hbig := hs.big
  unfold maxLen at hbig
  clear hr hs
  go_enter Tryz.func54, Tryz.ntmps54
  go_wp2_with fail
  go_loopg [5] n (fun g i wr => ∃ k : Nat, k + g = n ∧ i = .int .i64 k ∧ wr = w ∧ Hid (∀ j, j < k → l.getD j ByteArray.empty ≠ s))
  case atStart => exact ⟨0, by omega, rfl, rfl, hidMk fun j hj => absurd hj (by omega)⟩
  case round =>
    obtain ⟨k, hkg, rfl, rfl, HJ⟩ := hrel
    have HKG := hidMk hkg
    by_cases hkn : k < n
    · obtain ⟨b, o, rfl, hb, hcs⟩ := HS.out.cells (by omega)
      have hc := hcs k hkn
      clear hcs hkg
      by_cases he : l.getD k ByteArray.empty = s
      · have HF := hidMk (show r = k from by rw [← HR.out]; exact idxS_at (by omega) he HJ.out)
        rw [he] at hc
        clear he
        go_wp2_with fail
        go_ret
        exact ⟨by rw [HF.out]; rfl, rfl⟩
      · have HS2 := hidMk (show ∀ j, j < k + 1 → l.getD j ByteArray.empty ≠ s from fun j hj => by
          by_cases e : j = k
          · subst e; exact he
          · exact HJ.out j (by omega))
        have he' := bytes_neD he
        clear he
        generalize l.getD k ByteArray.empty = x at *
        go_wp2_with fail
        go_roundg (gk - 1)
        case measure => have := HKG.out; omega
        case rel => exact ⟨k + 1, by have := HKG.out; omega, by go_num, rfl, HS2⟩
    · have HF := hidMk (show r = -1 from by rw [← HR.out]; exact idxS_no (fun j hj => HJ.out j (by omega)))
      clear hkg
      have hkk : ¬ ((k : Int) < (n : Int)) := by omega
      go_wp2_with fail
      go_ret
      exact ⟨by rw [HF.out]; rfl, rfl⟩
theorem measE_bad {l : List ByteArray} {i : Nat} (h : nameB (msA l i) = false) : measE l i = 3 := by unfold measE; rw [h]; rfl
theorem measE_twice {l : List ByteArray} {i k : Nat} (hi : i < l.length) (h : nameB (msA l i) = true) (hk : k < i) (he : l.getD k ByteArray.empty = msA l i) : measE l i = 4 := by
  unfold measE
  have h2 : idxS l (msA l i) ≤ k := by
    unfold idxS
    have hkl : k < l.length := by omega
    have : ¬ k < l.findIdx (fun x => decide (x = msA l i)) := fun hlt => by
      have h3 := List.not_of_lt_findIdx hlt
      rw [List.getD_eq_getElem?_getD, List.getElem?_eq_getElem hkl, Option.getD_some] at he
      simp [he] at h3
    omega
  rw [if_pos h, if_pos (by unfold idxI; rw [if_pos (by omega)]; omega)]
theorem measE_ok {l : List ByteArray} {i : Nat} (hi : i < l.length) (h : nameB (msA l i) = true) (hn : ∀ k, k < i → l.getD k ByteArray.empty ≠ msA l i) : measE l i = 0 := by
  unfold measE
  have e : idxI l (msA l i) = i := idxS_at (k := i) hi rfl hn
  rw [if_pos h, if_neg (by rw [e]; omega)]
set_option maxHeartbeats 1000000 in
theorem ref6_named (a : Option Addr) (n c : Nat) (l : List ByteArray) (i : Nat) (w : World) (hs : Ss w a n l) (hi : i < n) (hz : (msA l i).size ≤ maxLen) : Calls Tryz.prog 41 #[.slice a n c, .int .i64 i] w fun e w' => e = .returned (.int .i64 (measE l i)) ∧ Kept w w' := by
  have HS := hidMk hs
  have hlen := hs.len
  have hbig := hs.big
  unfold maxLen at hbig
  obtain ⟨b, o, rfl, hb, hcs⟩ := hs.cells (by omega)
  have HN := hidMk (fun y => ref_Name (msA l i) hz y)
  have hci : w.cell? ⟨b, o + i, none⟩ = some (.string (msA l i)) := hcs i hi
  have hi' : (i : Int) < n := by omega
  have HCS := hidMk hcs
  clear hs hz hcs
  cases hnb : nameB (msA l i) with
  | false =>
    rw [hnb] at HN
    rw [measE_bad hnb]
    clear hnb HCS
    generalize msA l i = x at *
    go_enter Tryz.func41, Tryz.ntmps41
    go_wp2_with (go_at_call 61; refine (HN.out _).mono ?_; rintro e w4 ⟨rfl, hw4⟩; rw [hw4]; clear hw4)
    go_ret
    exact ⟨rfl, Kept.refl _⟩
  | true =>
    rw [hnb] at HN
    have HTW := hidMk (show ∀ k, k < i → l.getD k ByteArray.empty = msA l i → measE l i = 4 from fun k hk he => measE_twice (by omega) hnb hk he)
    have HOK := hidMk (show (∀ k, k < i → l.getD k ByteArray.empty ≠ msA l i) → measE l i = 0 from fun h => measE_ok (by omega) hnb h)
    generalize measE l i = r at *
    clear hnb
    generalize msA l i = x at *
    go_enter Tryz.func41, Tryz.ntmps41
    go_wp2_with (go_at_call 61; refine (HN.out _).mono ?_; rintro e w4 ⟨rfl, hw4⟩; rw [hw4]; clear hw4)
    go_loopg [5] i (fun g j wr => ∃ k : Nat, k + g = i ∧ j = .int .i64 k ∧ Kept w wr ∧ Hid (∀ t, t < k → l.getD t ByteArray.empty ≠ x))
    case atStart => exact ⟨0, by omega, rfl, Kept.refl _, hidMk fun j hj => absurd hj (by omega)⟩
    case round =>
      obtain ⟨k, hkg, rfl, hk, HJ⟩ := hrel
      have HKG := hidMk hkg
      have HK := hidMk hk
      by_cases hki : k < i
      · have c1 := hk.cellp (HCS.out k (by omega))
        have c2 := hk.cellp hci
        have hk1 : (k : Int) < i := by omega
        have hk2 : (k : Int) < n := by omega
        have HS2 := hidMk (show l.getD k ByteArray.empty ≠ x → ∀ j, j < k + 1 → l.getD j ByteArray.empty ≠ x from fun he j hj => by
          by_cases e : j = k
          · subst e; exact he
          · exact HJ.out j (by omega))
        have HT2 := hidMk (HTW.out k hki)
        clear hk hkg
        generalize l.getD k ByteArray.empty = y at *
        by_cases he : y = x
        · have HF := hidMk (HT2.out he)
          subst he
          go_wp2_with fail
          go_region_held3 (fun w' => w'.cell? ⟨b, o + k, none⟩ = some (.string y) ∧ w'.cell? ⟨b, o + i, none⟩ = some (.string y)) (first | go_keep | (refine ⟨?_, ?_⟩ <;> assumption)) (fail)
          go_wp2_with fail
          go_ret
          exact ⟨by rw [HF.out]; rfl, HK.out.drew⟩
        · have HN2 := hidMk (HS2.out he)
          have he' := bytes_neD he
          clear he
          go_wp2_with fail
          go_region_held3 (fun w' => w'.cell? ⟨b, o + k, none⟩ = some (.string y) ∧ w'.cell? ⟨b, o + i, none⟩ = some (.string x)) (first | go_keep | (refine ⟨?_, ?_⟩ <;> assumption)) (fail)
          go_wp2_with fail
          go_roundg (gk - 1)
          case measure => have := HKG.out; omega
          case rel => exact ⟨k + 1, by have := HKG.out; omega, by go_num, HK.out.drew, HN2⟩
      · have HF := hidMk (HOK.out (fun j hj => HJ.out j (by omega)))
        clear hk hkg
        have hkk : ¬ ((k : Int) < (i : Int)) := by omega
        go_wp2_with fail
        go_ret
        exact ⟨by rw [HF.out]; rfl, HK.out⟩
end Go.Proofs.YtpehinmckppjoaaGreatDoor
namespace Go.Proofs.YtpehinmckppjoaaGreatDoor
open Go.RowKit Go.Maps
set_option linter.unusedSimpArgs false
set_option linter.unusedVariables false

theorem wpList_pushS {ops : Array Oper} {rest : List Oper} {o : Oper} {a : Act} {Q : Exit → Act → World → Prop} (w : World) (hgd : o.guard = none) (s x : Operand)
    (ho : o.op = .call { callee := .builtin .append, args := #[s, x], argTypes := #[23, 23] })
    (B : Nat) (v : Value) (l : List ByteArray) (hs : a.eval s = v) (hv : OwnS w B v l) (hB : B ≤ w.heap.size) (g : Nat) (y : ByteArray) (hx : a.eval x = .slice (some ⟨g, 0, none⟩) 1 1) (hcell : w.cell? ⟨g, 0, none⟩ = some (.string y))
    (h47 : (l.length + 1) * 16 ≤ 140737488355328) (H : Nat) (hH : w.heap.size = H)
    (h : ∀ g' cap w', OwnS w' B (.slice (some ⟨g', 0, none⟩) (l.length + 1) cap) (l ++ [y]) → Chg (fun k => v.ownBlock = some k) w w' → (v.ownBlock = some g' ∨ g' = H) → g' < w'.heap.size → wpList Tryz.prog ops Q rest (a.put o.dst (.slice (some ⟨g', 0, none⟩) (l.length + 1) cap)) w') : wpList Tryz.prog ops Q (o :: rest) a w := by
  obtain ⟨i0, hi0, hz0, hz1, hz2⟩ := sinfo
  refine wpList_append_lies w hgd s x 23 ho B 9 i0 (.string ⟨#[]⟩) 1 16 Tryz.underlying23 hi0 hz0 hz1 hz2 rfl (by decide) v _ _ hs hv ⟨g, 0, none⟩ 1 1 [.string y] hx rfl (one_news hcell) (by intro u hu; simp at hu; subst hu; rfl) (by omega) (by unfold maxLen; omega) (by omega) hB H hH ?_
  intro g' cap w' h2 h3 h4 h5
  refine h g' cap w' ?_ ((Chg.refl _ w).grown h3 (fun k hk => .inl hk)) h4 h5
  unfold OwnS
  simpa using h2
theorem lbl_take {ds : List Dm} {k : Nat} (h : k < ds.length) : lbl (ds.take (k + 1)) = lbl (ds.take k) ++ [dmN ds k] := by rw [take_dm h]; simp [lbl]
set_option maxHeartbeats 1000000 in
theorem ref6_Names (a : Option Addr) (n c : Nat) (ds : List Dm) (na : Nat → Option Addr × Nat × Nat) (w : World) (hs : Dss w a n ds na) (hn : n ≤ 60) : Calls Tryz.prog 42 #[.slice a n c] w fun e w' => ∃ v, e = .returned v ∧ OwnS w' w.heap.size v (lbl ds) ∧ Kept w w' := by
  have HS := hidMk hs
  have hlen := hs.len
  clear hs
  go_enter Tryz.func42, Tryz.ntmps42
  go_wp2_with fail
  go_loopg [3, 4] n (fun g v x wr => ∃ k : Nat, k + g = n ∧ x = .int .i64 k ∧ Kept w wr ∧ Hid (OwnS wr w.heap.size v (lbl (ds.take k))))
  case atStart => exact ⟨0, by omega, rfl, Kept.refl _, hidMk (World.ownsRow_nil _ _ _ _)⟩
  case round =>
    obtain ⟨k, hkg, rfl, hk, HO⟩ := hrel
    have HKG := hidMk hkg
    have HK := hidMk hk
    by_cases hkn : k < n
    · obtain ⟨b, o, rfl, hb, hcs⟩ := HS.out.cells (by omega)
      have c1 := hk.cellp (hcs k hkn).1
      have hk1 : (k : Int) < n := by omega
      have HT := hidMk (lbl_take (ds := ds) (k := k) (by omega))
      have HLn := hidMk (show (lbl (ds.take k)).length = k by rw [lbl_len, List.length_take]; omega)
      clear hk hkg hcs
      generalize lbl (ds.take k) = L at *
      generalize dmN ds k = y at *
      go_wp2_with (at_builtin; refine wpList_pushS _ rfl _ _ rfl w.heap.size _ L rfl (HO.out.kept ((Kept.refl _).alloc _)) ?c1 _ y rfl ?c2 ?c3 _ rfl ?_)
      case c1 => simp; have := HK.out.size; omega
      case c2 => simp
      case c3 => rw [HLn.out]; omega
      intro g' cap w3 o3 k3 _ _
      have K3 := hidMk (show Kept w w3 from k3.kept (HK.out.alloc _) (fun t ht => (HO.out.lt t ht).1))
      have O3 := hidMk o3
      clear o3 k3
      go_wp2_with fail
      go_roundg (gk - 1)
      case measure => have := HKG.out; omega
      case rel => exact ⟨k + 1, by have := HKG.out; omega, by go_num, K3.out, hidMk (by rw [HT.out]; exact O3.out)⟩
    · have e : k = n := by omega
      subst e
      have HE := hidMk (show ds.take k = ds from List.take_of_length_le (by omega))
      clear hk hkg
      have hkk : ¬ ((k : Int) < (k : Int)) := by omega
      go_wp2_with fail
      go_ret
      exact ⟨_, rfl, by rw [← HE.out]; exact HO.out, HK.out⟩
end Go.Proofs.YtpehinmckppjoaaGreatDoor
namespace Go.Proofs.YtpehinmckppjoaaGreatDoor
open Go.RowKit Go.Maps
set_option linter.unusedSimpArgs false
set_option linter.unusedVariables false

/-- The reference's catalogue. -/
structure RDm (w : World) (p : Nat) (ds : List Dm) (rt : Nat → Nat) (ms : List ByteArray) : Prop where
  c1 : ∃ ma mc, w.cell? ⟨p, 1, none⟩ = some (.slice ma ms.length mc) ∧ Ss w ma ms.length ms
  c4 : ∃ ta tc, w.cell? ⟨p, 4, none⟩ = some (.slice ta ds.length tc) ∧ (0 < ds.length → ∃ b, ta = some ⟨b, 0, none⟩ ∧ ∀ k, k < ds.length → w.cell? ⟨b, k, none⟩ = some (.pointer (some ⟨rt k, 0, none⟩)))
  tr : ∀ k, k < ds.length → RT w (rt k) (dmL ds k)
  c0 : ∃ da dc na, w.cell? ⟨p, 0, none⟩ = some (.slice da ds.length dc) ∧ Dss w da ds.length ds na
theorem RDm.kept {w w' : World} {p : Nat} {ds : List Dm} {rt : Nat → Nat} {ms : List ByteArray} (h : RDm w p ds rt ms) (g : Kept w w') : RDm w' p ds rt ms := by
  obtain ⟨⟨ma, mc, h1, h2⟩, ⟨ta, tc, h3, h4⟩, h5, ⟨da, dc, na, h6, h7⟩⟩ := h
  exact ⟨⟨ma, mc, g.cellp h1, h2.kept g⟩, ⟨ta, tc, g.cellp h3, fun hp => by
    obtain ⟨b, e, hb⟩ := h4 hp
    exact ⟨b, e, fun k hk => g.cellp (hb k hk)⟩⟩, fun k hk => (h5 k hk).kept g, ⟨da, dc, na, g.cellp h6, h7.kept g⟩⟩
set_option maxHeartbeats 4000000 in
set_option maxRecDepth 100000 in
theorem ref6_Right {w : World} {p : Nat} {ds : List Dm} {rt : Nat → Nat} {ms : List ByteArray} (h : RDm w p ds rt ms) (hm : ds.length ≤ 4) (cm : Int) (at_ : Nat → Int) :
    Calls Tryz.prog 83 #[.pointer (some ⟨p, 0, none⟩), cellV cm at_] w fun e w' => e = .returned (.bool (rightB ms ds cm at_)) ∧ Kept w w' := by
  obtain ⟨r, hr⟩ : ∃ r, rightB ms ds cm at_ = r := ⟨_, rfl⟩
  rw [hr]
  have HR := hidMk hr
  obtain ⟨⟨ma, mc, h1, h2⟩, ⟨ta, tc, h3, h4⟩, h5⟩ := h
  have hbig := h2.big
  unfold maxLen at hbig
  have HT := hidMk h4
  have H5 := hidMk h5
  have t1 := fun o q => (((Kept.refl w).alloc o).drewN q).cellp h1
  have HBX := hidMk (box_at w 33 cm at_)
  clear h2 h4 h5
  unfold cellV at *
  by_cases hp1 : cm < 0
  · have HF := hidMk (show r = false by rw [← HR.out]; unfold rightB placeB; rw [decide_eq_false (by omega)]; rfl)
    clear HBX
    generalize at_ 0 = a0 at *
    generalize at_ 1 = a1 at *
    generalize at_ 2 = a2 at *
    generalize at_ 3 = a3 at *
    go_enter Tryz.func83, Tryz.ntmps83
    go_wp2_with fail
    go_quiet (fail)
    go_wp2_with fail
    go_ret
    exact ⟨by rw [HF.out]; rfl, ((Kept.refl w).alloc _).drewN _⟩
  · by_cases hp2 : cm < ms.length
    · have hp2' : ¬ ((ms.length : Int) ≤ cm) := by omega
      have HPB := hidMk (show placeB cm ms.length = true by unfold placeB; exact decide_eq_true (by omega))
      generalize at_ 0 = a0 at *
      generalize at_ 1 = a1 at *
      generalize at_ 2 = a2 at *
      generalize at_ 3 = a3 at *
      go_enter Tryz.func83, Tryz.ntmps83
      go_wp2_with fail
      go_quiet (fail)
      go_wp2_with fail
      refine gen_world (f := fun W => Code.wp _ _ _ _ W) (fun W => Kept w W ∧ ∀ k, k < 4 → W.cell? ⟨w.heap.size, 1 + k, none⟩ = some (.int .i64 (at_ k))) ⟨((Kept.refl w).alloc _).drewN _, fun k hk => ((Kept.refl _).drewN _).cellp (HBX.out k hk)⟩ ?_
      rintro W ⟨kW, hbW⟩
      have HKW := hidMk kW
      have HBW := hidMk hbW
      have t4 := kW.cellp h3
      clear kW hbW HBX t1
      go_loopg [5] 4 (fun g x wr => ∃ k : Nat, k + g = 4 ∧ x = .int .i64 k ∧ wr = W ∧ Hid (∀ j, j < k → placeB (at_ j) (many ds j) = true))
      case atStart => exact ⟨0, by omega, rfl, rfl, hidMk fun j hj => absurd hj (by omega)⟩
      case round =>
        obtain ⟨k, hkg, rfl, rfl, HJ⟩ := hrel
        have HKG := hidMk hkg
        by_cases hk4 : k < 4
        · have cx := HBW.out k hk4
          have HNO := hidMk (show placeB (at_ k) (many ds k) = false → r = false from fun e => by rw [← HR.out]; exact right_no hk4 e)
          have HYES := hidMk (show placeB (at_ k) (many ds k) = true → ∀ j, j < k + 1 → placeB (at_ j) (many ds j) = true from fun e j hj => by
            by_cases e' : j = k
            · subst e'; exact e
            · exact HJ.out j (by omega))
          have k4' : (k : Int) < 4 := by omega
          by_cases hkd : k < ds.length
          · obtain ⟨bb, rfl, hb⟩ := HT.out (by omega)
            have d2 := HKW.out.cellp (hb k hkd)
            obtain ⟨⟨lb, lc, e1, _⟩, e2, _⟩ := (H5.out k hkd).kept HKW.out
            rw [show many ds k = (dmL ds k).length from if_pos hkd] at HNO HYES
            have kd' : (k : Int) < ds.length := by omega
            clear hb hkg
            generalize at_ k = x at *
            generalize (dmL ds k).length = L at *
            generalize rt k = q at *
            by_cases hx0 : x < 0
            · have HN2 := hidMk (HNO.out (by unfold placeB; exact decide_eq_false (by omega)))
              go_wp2_with fail
              go_ret
              exact ⟨by rw [HN2.out]; rfl, HKW.out⟩
            · by_cases hx1 : x < L
              · have HY2 := hidMk (HYES.out (by unfold placeB; exact decide_eq_true (by omega)))
                have hx2 : ¬ ((L : Int) ≤ x) := by omega
                go_wp2_with fail
                go_roundg (gk - 1)
                case measure => have := HKG.out; omega
                case rel => exact ⟨k + 1, by have := HKG.out; omega, by go_num, rfl, HY2⟩
              · have HN2 := hidMk (HNO.out (by unfold placeB; exact decide_eq_false (by omega)))
                have hx2 : (L : Int) ≤ x := by omega
                go_wp2_with fail
                go_ret
                exact ⟨by rw [HN2.out]; rfl, HKW.out⟩
          · rw [show many ds k = 1 from if_neg hkd] at HNO HYES
            have kd' : ¬ ((k : Int) < ds.length) := by omega
            clear hkg
            generalize at_ k = x at *
            by_cases hx0 : x < 0
            · have HN2 := hidMk (HNO.out (by unfold placeB; exact decide_eq_false (by omega)))
              go_wp2_with fail
              go_ret
              exact ⟨by rw [HN2.out]; rfl, HKW.out⟩
            · by_cases hx1 : x < 1
              · have HY2 := hidMk (HYES.out (by unfold placeB; exact decide_eq_true (by omega)))
                have hx2 : ¬ ((1 : Int) ≤ x) := by omega
                go_wp2_with fail
                go_roundg (gk - 1)
                case measure => have := HKG.out; omega
                case rel => exact ⟨k + 1, by have := HKG.out; omega, by go_num, rfl, HY2⟩
              · have HN2 := hidMk (HNO.out (by unfold placeB; exact decide_eq_false (by omega)))
                have hx2 : (1 : Int) ≤ x := by omega
                go_wp2_with fail
                go_ret
                exact ⟨by rw [HN2.out]; rfl, HKW.out⟩
        · have HF := hidMk (show r = true by rw [← HR.out]; unfold rightB; simp only [HPB.out, HJ.out 0 (by omega), HJ.out 1 (by omega), HJ.out 2 (by omega), HJ.out 3 (by omega), Bool.and_self])
          clear hkg
          have kd' : ¬ ((k : Int) < 4) := by omega
          go_wp2_with fail
          go_ret
          exact ⟨by rw [HF.out]; rfl, HKW.out⟩
    · have hp2' : (ms.length : Int) ≤ cm := by omega
      have HF := hidMk (show r = false by rw [← HR.out]; unfold rightB placeB; rw [decide_eq_false (by omega)]; rfl)
      clear HBX
      generalize at_ 0 = a0 at *
      generalize at_ 1 = a1 at *
      generalize at_ 2 = a2 at *
      generalize at_ 3 = a3 at *
      go_enter Tryz.func83, Tryz.ntmps83
      go_wp2_with fail
      go_quiet (fail)
      go_wp2_with fail
      go_ret
      exact ⟨by rw [HF.out]; rfl, ((Kept.refl w).alloc _).drewN _⟩
end Go.Proofs.YtpehinmckppjoaaGreatDoor
namespace Go.Proofs.YtpehinmckppjoaaGreatDoor
open Go.RowKit Go.Maps
set_option linter.unusedSimpArgs false
set_option linter.unusedVariables false

end Go.Proofs.YtpehinmckppjoaaGreatDoor
namespace Go.Proofs.YtpehinmckppjoaaGreatDoor
open Go.RowKit Go.Maps
set_option linter.unusedSimpArgs false
set_option linter.unusedVariables false

theorem idxI_ge (l : List ByteArray) (s : ByteArray) : -1 ≤ idxI l s := by unfold idxI; split <;> omega
theorem findI_ge (l : List Nd) (s : ByteArray) : -1 ≤ findI l s := by unfold findI; split <;> omega
/-- The same two results, of the reference. -/
theorem cell_rets6 {R : Ending → World → Prop} {a : Act} {w : World} (g : Nat) (v0 v1 v2 v3 v4 : Value) {er : Value} (hp : a.tmps.getD 6 undef = .pointer (some ⟨g, 0, none⟩)) (hq : a.tmps.getD 7 undef = er) (hd : a.defers = [])
    (c0 : w.cell? ⟨g, 0, none⟩ = some v0) (c1 : w.cell? ⟨g, 1, none⟩ = some v1) (c2 : w.cell? ⟨g, 2, none⟩ = some v2) (c3 : w.cell? ⟨g, 3, none⟩ = some v3) (c4 : w.cell? ⟨g, 4, none⟩ = some v4)
    (h : R (.returned (.tuple #[.agg #[v0, v1, v2, v3, v4], er])) w) : bodyPost Tryz.prog Tryz.f53 R .ret a w := by
  subst hq
  exact bodyPost_ret (results_cell_tmp rfl _ _ g _ hp (cell_load c0 c1 c2 c3 c4)) hd h
set_option maxHeartbeats 4000000 in
set_option maxRecDepth 100000 in
theorem ref6_Cell {w : World} {p : Nat} {ds : List Dm} {rt : Nat → Nat} {ms : List ByteArray} (h : RDm w p ds rt ms) (hm : ds.length ≤ 4) (s : ByteArray) (xa : Option Addr) (xn xc : Nat) (xs : List ByteArray) (hx : Ss w xa xn xs) :
    Calls Tryz.prog 53 #[.pointer (some ⟨p, 0, none⟩), .string s, .slice xa xn xc] w (CellPost w ms ds s xs) := by
  obtain ⟨⟨ma, mc, h1, h2⟩, ⟨ta, tc, h3, h4⟩, h5⟩ := h
  have hlx := hx.len
  have hbx := hx.big
  unfold maxLen at hbx
  have HX := hidMk hx
  have HT := hidMk h4
  have H5 := hidMk h5
  have HFI := hidMk (show ∀ y, Kept w y → _ from fun y hy => ref6_Find ma ms.length mc ms s y (h2.kept hy))
  have hge := idxI_ge ms s
  have hbm := h2.big
  unfold maxLen at hbm
  have t1 := fun o => ((Kept.refl w).alloc o).cellp h1
  have t4 := fun o => ((Kept.refl w).alloc o).cellp h3
  clear h2 h4 h5 hx
  by_cases hix : idxI ms s = -1
  · have HC := hidMk (show CellIs ms ds s xs (cellV 0 (fun _ => 0)) 10 from .inl ⟨hix, rfl, rfl⟩)
    rw [hix] at HFI
    clear hix hge
    go_enter Tryz.func53, Tryz.ntmps53
    go_wp2_with (go_at_call 54; refine (HFI.out _ ((Kept.refl w).alloc _)).mono ?_; rintro e w1 ⟨rfl, rfl⟩)
    exact cell_rets6 w.heap.size _ _ _ _ _ rfl rfl rfl (by simp) (by simp) (by simp) (by simp) (by simp) ⟨_, _, rfl, HC.out, (Kept.refl w).alloc _⟩
  · by_cases hxl : xs.length = ds.length
    · have HCE := hidMk (show ∀ k, k < ds.length → fdK ds xs k = -1 → CellIs ms ds s xs (cellV 0 (fun _ => 0)) 10 from fun k hk he => .inr (.inr (.inl ⟨hix, hxl, ⟨k, hk, he⟩, rfl, rfl⟩)))
      have HCO := hidMk (show (∀ k, k < ds.length → fdK ds xs k ≠ -1) → CellIs ms ds s xs (cellV (idxI ms s) (atK ds xs ds.length)) 0 from fun he => .inr (.inr (.inr ⟨hix, hxl, he, rfl, rfl⟩)))
      have hxl' : (xn : Int) = ds.length := by omega
      generalize hgx : idxI ms s = ix at *
      clear hgx
      have hix0 : ¬ ix < 0 := by omega
      go_enter Tryz.func53, Tryz.ntmps53
      go_wp2_with (go_at_call 54; refine (HFI.out _ ((Kept.refl w).alloc _)).mono ?_; rintro e w1 ⟨rfl, rfl⟩)
      refine gen_world (f := fun W => Code.wp _ _ _ _ W) (fun W => CB w W ix (fun _ => 0)) (CB.mk0 w ix _) ?_
      rintro W hW
      have HW := hidMk hW
      clear hW t1 t4
      go_loopg [10] ds.length (fun g x wr => ∃ k : Nat, k + g = ds.length ∧ x = .int .i64 k ∧ Hid (CB w wr ix (atK ds xs k)) ∧ Hid (∀ j, j < k → fdK ds xs j ≠ -1))
      case atStart => exact ⟨0, by omega, rfl, hidMk ((atK_zero ds xs) ▸ HW.out), hidMk fun j hj => absurd hj (by omega)⟩
      case round =>
        obtain ⟨k, hkg, rfl, HK, HJ⟩ := hrel
        have HKG := hidMk hkg
        have s4 := HK.out.kept.cellp h3
        by_cases hkd : k < ds.length
        · obtain ⟨bb, rfl, hb⟩ := HT.out (by omega)
          obtain ⟨xb, xo, rfl, hxb, hxc⟩ := HX.out.cells (by omega)
          have kk := HK.out.kept
          have d1 := kk.cellp (hb k hkd)
          have d3 : wr.cell? ⟨xb, xo + k, none⟩ = some (.string (msA xs k)) := kk.cellp (hxc k (by omega))
          have HFD := hidMk (show ∀ y, Kept wr y → _ from fun y hy => r_Find ((H5.out k hkd).kept (kk.trans hy)) (msA xs k))
          have kd' : (k : Int) < ds.length := by omega
          have k4' : (k : Int) < 4 := by omega
          have kx' : (k : Int) < xn := by omega
          have HCL := hidMk (And.intro s4 (And.intro d1 d3))
          clear hb hkg hxc kk
          have hfe : findI (dmL ds k) (msA xs k) = fdK ds xs k := rfl
          have hfg := findI_ge (dmL ds k) (msA xs k)
          rw [hfe] at HFD hfg
          clear hfe
          have HS := hidMk (show atK ds xs (k + 1) = fun j => if j = k then fdK ds xs k else atK ds xs k j from by
            funext j
            unfold atK
            by_cases e : j = k
            · subst e; simp
            · simp only [e, if_false]
              by_cases e2 : j < k
              · simp [e2, show j < k + 1 by omega]
              · simp [e2, show ¬ j < k + 1 by omega])
          have HE := hidMk (HCE.out k hkd)
          have HNX := hidMk (show fdK ds xs k ≠ -1 → ∀ j, j < k + 1 → fdK ds xs j ≠ -1 from fun e j hj => by
            by_cases e' : j = k
            · subst e'; exact e
            · exact HJ.out j (by omega))
          have hk4 : k < 4 := by omega
          generalize hff : fdK ds xs k = fd at *
          clear hff
          generalize msA xs k = mk at *
          generalize rt k = q at *
          go_wp2_with fail
          go_region_held3 (fun w' => w'.cell? ⟨p, 4, none⟩ = some (.slice (some ⟨bb, 0, none⟩) ds.length tc) ∧ w'.cell? ⟨bb, k, none⟩ = some (.pointer (some ⟨q, 0, none⟩)) ∧ w'.cell? ⟨xb, xo + k, none⟩ = some (.string mk)) (first | go_keep | (refine ⟨?_, ?_, ?_⟩ <;> assumption)) ((go_at_call 69; refine (HFD.out _ ((Kept.refl wr).drew)).mono ?_; rintro e w5 ⟨rfl, hw5⟩; have k5 : Kept wr w5 := (by rw [hw5]; exact (Kept.refl wr).drew); have f1 := k5.cellp HCL.out.1; have f2 := k5.cellp HCL.out.2.1; have f3 := k5.cellp HCL.out.2.2; have H5' := hidMk (HK.out.keep k5); clear hw5 k5))
          have z0 := H5'.out.z 0 (by omega)
          have z1 := H5'.out.z 1 (by omega)
          have z2 := H5'.out.z 2 (by omega)
          have z3 := H5'.out.z 3 (by omega)
          have z4 := H5'.out.z 4 (by omega)
          have zf := H5'.out.zf
          have q1 := H5'.out.c k hk4
          have q2 := H5'.out.cf (1 + k)
          clear f1 f2 f3
          by_cases hf : fd = -1
          · have HC := hidMk (HE.out hf)
            subst hf
            go_wp2_with fail
            obtain ⟨o1, o2, o3, o4, o5, o6⟩ := H5'.out.out (.int .i64 0) (.int .i64 0) (.int .i64 0) (.int .i64 0) (.int .i64 0)
            exact cell_rets6 w.heap.size _ _ _ _ _ rfl rfl rfl o2 o3 o4 o5 o6 ⟨_, _, rfl, HC.out, o1⟩
          · have HN2 := hidMk (HNX.out hf)
            have hf0 : ¬ fd < 0 := by omega
            go_wp2_with fail
            go_roundg (gk - 1)
            case measure => have := HKG.out; omega
            case rel => exact ⟨k + 1, by have := HKG.out; omega, by go_num, hidMk (by rw [HS.out]; exact H5'.out.set k hk4 fd), HN2⟩
        · have e : k = ds.length := by omega
          subst e
          have HC := hidMk (HCO.out HJ.out)
          clear hkg
          have kd' : ¬ ((ds.length : Int) < ds.length) := by omega
          have c0 := HK.out.c0
          have c1 := HK.out.c 0 (by omega)
          have c2 := HK.out.c 1 (by omega)
          have c3 := HK.out.c 2 (by omega)
          have c4 := HK.out.c 3 (by omega)
          have z0 := HK.out.z 0 (by omega)
          have z1 := HK.out.z 1 (by omega)
          have z2 := HK.out.z 2 (by omega)
          have z3 := HK.out.z 3 (by omega)
          have z4 := HK.out.z 4 (by omega)
          have zf := HK.out.zf
          simp only [Nat.reduceAdd, Nat.add_zero] at c1 c2 c3 c4
          go_wp2_with fail
          obtain ⟨o1, o2, o3, o4, o5, o6⟩ := HK.out.out (.int .i64 ix) (.int .i64 (atK ds xs ds.length 0)) (.int .i64 (atK ds xs ds.length 1)) (.int .i64 (atK ds xs ds.length 2)) (.int .i64 (atK ds xs ds.length 3))
          exact cell_rets6 w.heap.size _ _ _ _ _ rfl rfl rfl o2 o3 o4 o5 o6 ⟨_, _, rfl, HC.out, o1⟩
    · have HC := hidMk (show CellIs ms ds s xs (cellV 0 (fun _ => 0)) 5 from .inr (.inl ⟨hix, hxl, rfl, rfl⟩))
      have hxl' : ¬ ((xn : Int) = ds.length) := by omega
      generalize hgx : idxI ms s = ix at *
      clear hgx
      have hix0 : ¬ ix < 0 := by omega
      go_enter Tryz.func53, Tryz.ntmps53
      go_wp2_with (go_at_call 54; refine (HFI.out _ ((Kept.refl w).alloc _)).mono ?_; rintro e w1 ⟨rfl, rfl⟩)
      exact cell_rets6 w.heap.size _ _ _ _ _ rfl rfl rfl (by simp) (by simp) (by simp) (by simp) (by simp) ⟨_, _, rfl, HC.out, (Kept.refl w).alloc _⟩
end Go.Proofs.YtpehinmckppjoaaGreatDoor
namespace Go.Proofs.YtpehinmckppjoaaGreatDoor
open Go.RowKit Go.Maps
set_option linter.unusedSimpArgs false
set_option linter.unusedVariables false

theorem joinB_one (sep x : ByteArray) : joinB sep [x] = x := by
  unfold joinB datas
  simp [List.intercalate, List.intersperse]
theorem inter_snoc (c x : List UInt8) : ∀ l : List (List UInt8), l ≠ [] → c.intercalate (l ++ [x]) = c.intercalate l ++ c ++ x
  | [], h => absurd rfl h
  | [y], _ => by simp [List.intercalate, List.intersperse]
  | y :: z :: r, _ => by
    have ih := inter_snoc c x (z :: r) (by simp)
    have e1 : ∀ t, c.intercalate (y :: z :: t) = y ++ c ++ c.intercalate (z :: t) := fun t => by simp [List.intercalate, List.intersperse]
    rw [List.cons_append, List.cons_append, e1, e1, ← List.cons_append, ih]
    simp [List.append_assoc]
theorem joinB_snoc (sep x : ByteArray) (l : List ByteArray) (h : l ≠ []) : joinB sep (l ++ [x]) = joinB sep l ++ sep ++ x := by
  apply ByteArray.ext
  apply Array.toList_inj.1
  rw [joinB_data]
  unfold datas
  rw [List.map_append, List.map_cons, List.map_nil, inter_snoc _ _ _ (by simpa using h)]
  simp [joinB, datas]
set_option maxHeartbeats 4000000 in
set_option maxRecDepth 100000 in
theorem ref6_Show {w : World} {p : Nat} {ds : List Dm} {rt : Nat → Nat} {ms : List ByteArray} (h : RDm w p ds rt ms) (hm : ds.length ≤ 4) (cm : Int) (at_ : Nat → Int) (hsz : ∀ k, k ≤ ds.length → (joinB slash (showL ms ds cm at_ k)).size ≤ 9223372036854775807) :
    Calls Tryz.prog 58 #[.pointer (some ⟨p, 0, none⟩), cellV cm at_] w fun e w' => e = .returned (.string (if rightB ms ds cm at_ then joinB slash (showL ms ds cm at_ ds.length) else ⟨#[]⟩)) ∧ Kept w w' := by
  have HRI := hidMk (show ∀ y, Kept w y → _ from fun y hy => ref6_Right (h.kept hy) hm cm at_)
  obtain ⟨⟨ma, mc, h1, h2⟩, ⟨ta, tc, h3, h4⟩, h5⟩ := h
  have HT := hidMk h4
  have H5 := hidMk h5
  have HMS := hidMk h2
  have hmb := h2.big
  have HSZ := hidMk hsz
  clear hsz
  have HBX := hidMk (box_at w 33 cm at_)
  clear h4 h5 h2
  unfold cellV at *
  cases hri : rightB ms ds cm at_ with
  | false =>
    rw [hri] at HRI
    clear hri HBX
    generalize at_ 0 = a0 at *
    generalize at_ 1 = a1 at *
    generalize at_ 2 = a2 at *
    generalize at_ 3 = a3 at *
    go_enter Tryz.func58, Tryz.ntmps58
    go_wp2_with (go_at_call 83; refine (HRI.out _ ((Kept.refl w).alloc _)).mono ?_; rintro e w2 ⟨rfl, k2⟩; have K2 := hidMk (((Kept.refl w).alloc _).trans k2); clear k2)
    go_ret
    exact ⟨rfl, K2.out⟩
  | true =>
    rw [hri] at HRI
    have hcm : 0 ≤ cm ∧ cm < ms.length := by
      simp only [rightB, placeB, Bool.and_eq_true, decide_eq_true_eq] at hri
      omega
    obtain ⟨mb, mo, rfl, hmb2, hmc⟩ := HMS.out.cells (by omega)
    have hmv := hmc cm.toNat (by omega)
    obtain ⟨mi, hmi⟩ : ∃ mi : Nat, cm = mi := ⟨cm.toNat, by omega⟩
    clear hri hmc
    subst hmi
    rw [Int.toNat_natCast] at hmv
    have HS0 := hidMk (show showL ms ds mi at_ 0 = [ms.getD mi ByteArray.empty] by simp [showL, msA])
    have HSS := hidMk (showL_succ ms ds mi at_)
    generalize ms.getD mi ByteArray.empty = mn at *
    generalize at_ 0 = a0 at *
    generalize at_ 1 = a1 at *
    generalize at_ 2 = a2 at *
    generalize at_ 3 = a3 at *
    go_enter Tryz.func58, Tryz.ntmps58
    go_wp2_with fail
    refine (HRI.out _ ((Kept.refl w).alloc _)).mono ?_
    rintro e w2 ⟨rfl, k2⟩
    have HB2 := hidMk (show ∀ k, k < 4 → w2.cell? ⟨w.heap.size, 1 + k, none⟩ = some (.int .i64 (at_ k)) from fun k hk => k2.cellp (HBX.out k hk))
    have x0 : w2.cell? ⟨w.heap.size, 0, none⟩ = some (.int .i64 mi) := k2.cellp (by simp)
    have K2 := hidMk (((Kept.refl w).alloc _).trans k2)
    have t4 := K2.out.cellp h3
    have t1' := K2.out.cellp h1
    have hmv' := K2.out.cellp hmv
    clear k2
    have hmi' : (mi : Int) < ms.length := hcm.2
    go_wp2_with fail
    go_region_held3 (fun w' => w'.cell? ⟨p, 1, none⟩ = some (.slice (some ⟨mb, mo, none⟩) ms.length mc) ∧ w'.cell? ⟨w.heap.size, 0, none⟩ = some (.int .i64 mi) ∧ w'.cell? ⟨mb, mo + mi, none⟩ = some (.string mn)) (first | go_keep | (refine ⟨?_, ?_, ?_⟩ <;> assumption)) (fail)
    refine gen_world (f := fun W => Exit.then _ _ _ _ W) (fun W => Kept w2 W) ((Kept.refl w2).drew) ?_
    rintro w3 k3
    have K3 := hidMk k3
    have s4 := k3.cellp t4
    clear k3 t1' hmv' x0
    go_wp2_with fail
    go_loopg [5, 6] ds.length (fun g v x wr => ∃ k : Nat, k + g = ds.length ∧ x = .int .i64 k ∧ v = .string (joinB slash (showL ms ds mi at_ k)) ∧ Kept w2 wr)
    case atStart => exact ⟨0, by omega, rfl, by rw [HS0.out, joinB_one], K3.out⟩
    case round =>
      obtain ⟨k, hkg, rfl, rfl, hk⟩ := hrel
      have HKG := hidMk hkg
      have HK := hidMk hk
      have u4 := hk.cellp t4
      by_cases hkd : k < ds.length
      · obtain ⟨bb, rfl, hb⟩ := HT.out (by omega)
        have kk := K2.out.trans hk
        have d1 := kk.cellp (hb k hkd)
        have d2 := hk.cellp (HB2.out k (by omega))
        have HNM := hidMk (show ∀ y, Kept wr y → Calls Tryz.prog 84 #[.pointer (some ⟨rt k, 0, none⟩), .int .i64 (at_ k)] y fun e w' => e = .returned (.string (nmK ds at_ k)) ∧ w' = y from fun y hy => r_Name ((H5.out k hkd).kept (kk.trans hy)) (at_ k))
        have kd' : (k : Int) < ds.length := by omega
        have k4' : (k : Int) < 4 := by omega
        have HCL := hidMk (And.intro u4 (And.intro d1 d2))
        have HJS := hidMk (show joinB slash (showL ms ds mi at_ (k + 1)) = joinB slash (showL ms ds mi at_ k) ++ slash ++ nmK ds at_ k by rw [HSS.out, joinB_snoc _ _ _ (by simp [showL])])
        have hz1 := HSZ.out (k + 1) (by omega)
        rw [HJS.out, ByteArray.size_append, ByteArray.size_append] at hz1
        have ad1 : ∀ y : World, (Op.stringOp .add (joinB slash (showL ms ds mi at_ k)) slash).run Tryz.prog y = .ok (.string (joinB slash (showL ms ds mi at_ k) ++ slash)) y := fun y => run_string_add_sum (P := Tryz.prog) (w := y) (a := _) (b := _) (h := by omega)
        have ad2 : ∀ y : World, (Op.stringOp .add (joinB slash (showL ms ds mi at_ k) ++ slash) (nmK ds at_ k)).run Tryz.prog y = .ok (.string (joinB slash (showL ms ds mi at_ k) ++ slash ++ nmK ds at_ k)) y := fun y => run_string_add_sum (P := Tryz.prog) (w := y) (a := _) (b := _) (h := by rw [ByteArray.size_append]; omega)
        clear hb hk hkg kk hz1
        generalize at_ k = x at *
        generalize rt k = q at *
        generalize nmK ds at_ k = nk at *
        generalize joinB slash (showL ms ds mi at_ k) = js at *
        unfold slash at *
        go_wp2_with fail
        go_region_held3 (fun w' => w'.cell? ⟨p, 4, none⟩ = some (.slice (some ⟨bb, 0, none⟩) ds.length tc) ∧ w'.cell? ⟨bb, k, none⟩ = some (.pointer (some ⟨q, 0, none⟩)) ∧ w'.cell? ⟨w.heap.size, 1 + k, none⟩ = some (.int .i64 x)) (first | go_keep | (refine ⟨?_, ?_, ?_⟩ <;> assumption)) ((go_at_call 84; refine (HNM.out _ ((Kept.refl wr).drew)).mono ?_; rintro e w5 ⟨rfl, hw5⟩; have k5 : Kept wr w5 := (by rw [hw5]; exact (Kept.refl wr).drew); have f1 := k5.cellp HCL.out.1; have f2 := k5.cellp HCL.out.2.1; have f3 := k5.cellp HCL.out.2.2; have K5 := hidMk k5; clear hw5 k5))
        go_wp2_with fail
        go_roundg (gk - 1)
        case measure => have := HKG.out; omega
        case rel => exact ⟨k + 1, by have := HKG.out; omega, by go_num, by rw [HJS.out], HK.out.trans K5.out⟩
      · have e : k = ds.length := by omega
        subst e
        clear hk hkg
        have kd' : ¬ ((ds.length : Int) < ds.length) := by omega
        go_wp2_with fail
        go_ret
        exact ⟨by simp only [if_true]; rfl, K2.out.trans HK.out⟩
end Go.Proofs.YtpehinmckppjoaaGreatDoor
namespace Go.Proofs.YtpehinmckppjoaaGreatDoor
open Go.RowKit Go.Maps
set_option linter.unusedSimpArgs false
set_option linter.unusedVariables false

end Go.Proofs.YtpehinmckppjoaaGreatDoor
namespace Go.Proofs.YtpehinmckppjoaaGreatDoor
open Go.RowKit Go.Maps
set_option linter.unusedSimpArgs false
set_option linter.unusedVariables false

theorem RT.chg {S : Nat → Prop} {w w' : World} {q : Nat} {l : List Nd} (h : RT w q l) (g : Chg S w w') (hq : ¬ S q) (hb : ∀ b c, w.cell? ⟨q, 0, none⟩ = some (.slice (some ⟨b, 0, none⟩) l.length c) → (∀ i, i < l.length → w.cell? ⟨b, i * 2, none⟩ = some (.string (nmA l i))) → ¬ S b) : RT w' q l := by
  obtain ⟨⟨b, c, h1, h2⟩, h3, h4, h5⟩ := h
  have nb := hb b c h1 fun i hi => (h2 i hi).1
  exact ⟨⟨b, c, g.cellp h1 hq, fun i hi => ⟨g.cellp (h2 i hi).1 nb, g.cellp (h2 i hi).2 nb⟩⟩, h3, h4, h5⟩
def ptrs (rt : Nat → Nat) (k : Nat) : List Value := (List.range k).map fun j => .pointer (some ⟨rt j, 0, none⟩)
theorem ptrs_succ (rt : Nat → Nat) (k q : Nat) : ptrs (fun j => if j = k then q else rt j) (k + 1) = ptrs rt k ++ [.pointer (some ⟨q, 0, none⟩)] := by
  unfold ptrs
  rw [List.range_succ, List.map_append]
  congr 1
  · apply List.map_congr_left
    intro j hj
    rw [List.mem_range] at hj
    simp [show j ≠ k by omega]
  · simp
/-- The reference's catalogue, its first k trees laid. -/
structure RG (w0 w : World) (p B : Nat) (ds : List Dm) (k : Nat) (rt : Nat → Nat) (tv dv mv : Value) : Prop where
  c0 : w.cell? ⟨p, 0, none⟩ = some dv
  c1 : w.cell? ⟨p, 1, none⟩ = some mv
  c4 : w.cell? ⟨p, 4, none⟩ = some tv
  f4 : w.frozen? ⟨p, 4, none⟩ = false
  own : w.ownsRow B 102 1 tv k (ptrs rt k)
  nil : k = 0 → tv = .slice none 0 0
  tr : ∀ j, j < k → RT w (rt j) (dmL ds j) ∧ p < rt j ∧ 0 < (dmL ds j).length
  dvs : ∃ a n c, dv = .slice a n c
  lt : p < B
  hB : B ≤ w.heap.size
  kept : Kept w0 w
  h0 : w0.heap.size ≤ p
theorem ownsRow_kept {w w' : World} {B : Nat} {e : TypeId} {size : Nat} {v : Value} {n : Nat} {xs : List Value} (h : w.ownsRow B e size v n xs) (g : Kept w w') : w'.ownsRow B e size v n xs := by
  have hlt := World.ownsRow.lt h
  obtain ⟨h0, h1 | ⟨k, cap, cur, hv, hb', hh, r⟩⟩ := h
  · exact ⟨h0, .inl h1⟩
  · subst hv
    refine ⟨h0, .inr ⟨k, cap, cur, rfl, hb', ?_, r⟩⟩
    rw [g.block k (hlt k rfl).2]
    exact hh
theorem RG.keep {w0 w w' : World} {p B : Nat} {ds : List Dm} {k : Nat} {rt : Nat → Nat} {tv dv mv : Value} (h : RG w0 w p B ds k rt tv dv mv) (g : Kept w w') : RG w0 w' p B ds k rt tv dv mv :=
  ⟨g.cellp h.c0, g.cellp h.c1, g.cellp h.c4, (g.frozen (p := ⟨p, 4, none⟩) (cell_lt h.c4)).trans h.f4, ownsRow_kept h.own g, h.nil, fun j hj => ⟨(h.tr j hj).1.kept g, (h.tr j hj).2⟩, h.dvs, h.lt, Nat.le_trans h.hB g.size, h.kept.trans g, h.h0⟩
/-- A tree lies apart from the row of trees. -/
theorem RG.apart {w0 w : World} {p B : Nat} {ds : List Dm} {k : Nat} {rt : Nat → Nat} {tv dv mv : Value} (h : RG w0 w p B ds k rt tv dv mv) {q : Nat} {l : List Nd} (ht : RT w q l) (hl : 0 < l.length) : ¬ tv.ownBlock = some q ∧ ∀ b, (∀ i, i < l.length → w.cell? ⟨b, i * 2, none⟩ = some (.string (nmA l i))) → ¬ tv.ownBlock = some b ∧ b ≠ p := by
  have hr : ∀ g, tv.ownBlock = some g → ∃ r, w.cell? ⟨g, 0, none⟩ = some (.pointer r) := by
    intro g hg
    have h' := h.own
    obtain ⟨_, ⟨hv, hz⟩ | ⟨g', cap, cur, hv, hb, hheap, hc, hcm, hsz, htk⟩⟩ := h.own
    · rw [hv] at hg; simp [Value.ownBlock] at hg
    · subst hv
      simp only [Value.ownBlock, Option.some.injEq] at hg
      subst hg
      have hk : 0 < k := by
        by_cases hk : k = 0
        · have := h.nil hk; cases this
        · omega
      have := World.ownsRow.cellAt h' 0 (by omega)
      rw [this]
      refine ⟨some ⟨rt 0, 0, none⟩, ?_⟩
      simp only [ptrs, List.getElem?_map]
      rw [List.getElem?_range (by omega)]
      rfl
  obtain ⟨⟨bb, cc, h1, h2⟩, _⟩ := ht
  refine ⟨fun e => ?_, fun b hb => ⟨fun e => ?_, fun e => ?_⟩⟩
  · obtain ⟨r, hr⟩ := hr q e
    rw [h1] at hr
    cases hr
  · obtain ⟨r, hr⟩ := hr b e
    have := hb 0 hl
    rw [Nat.zero_mul, hr] at this
    cases this
  · obtain ⟨a, n, c, hd⟩ := h.dvs
    have := hb 0 hl
    rw [Nat.zero_mul, e, h.c0, hd] at this
    cases this
theorem RG.push {w0 w W y : World} {p B : Nat} {ds : List Dm} {k : Nat} {rt : Nat → Nat} {tv dv mv : Value} (h : RG w0 w p B ds k rt tv dv mv) (hk : Kept w W) {q g cap : Nat} (ht : RT w q (dmL ds k)) (hq : p < q) (hl : 0 < (dmL ds k).length)
    (ho : y.ownsRow B 102 1 (.slice (some ⟨g, 0, none⟩) (k + 1) cap) (k + 1) (ptrs rt k ++ [.pointer (some ⟨q, 0, none⟩)])) (hc : Chg (fun t => tv.ownBlock = some t) W y) :
    y.cell? ⟨p, 4, none⟩ = some tv ∧ y.frozen? ⟨p, 4, none⟩ = false ∧ RG w0 (y.setCell ⟨p, 4, none⟩ (.slice (some ⟨g, 0, none⟩) (k + 1) cap)) p B ds (k + 1) (fun j => if j = k then q else rt j) (.slice (some ⟨g, 0, none⟩) (k + 1) cap) dv mv := by
  have h' := h.keep hk
  have ht' := ht.kept hk
  have hlt := h.lt
  have hb : ∀ t, tv.ownBlock = some t → B ≤ t := fun t e => (World.ownsRow.lt h.own t e).1
  have n1 : ¬ tv.ownBlock = some p := fun e => by have := hb p e; omega
  have lp : p < W.heap.size := cell_lt h'.c4
  have q4 := hc.cellp h'.c4 n1
  have f4 := (hc.frozen (p := ⟨p, 4, none⟩) lp n1).trans h'.f4
  have c2 : Chg (· = p) y (y.setCell ⟨p, 4, none⟩ (.slice (some ⟨g, 0, none⟩) (k + 1) cap)) := (Chg.refl (· = p) y).setCell (p := ⟨p, 4, none⟩) (.inl rfl) _
  have oth : ∀ j v, j ≠ 4 → y.cell? ⟨p, j, none⟩ = some v → (y.setCell ⟨p, 4, none⟩ (.slice (some ⟨g, 0, none⟩) (k + 1) cap)).cell? ⟨p, j, none⟩ = some v := fun j v hj e => (World.cell?_setCell_other _ _ _ _ (by intro e; simp only [Addr.mk.injEq] at e; omega)).trans e
  have tk : ∀ {q' : Nat} {l : List Nd}, RT W q' l → p < q' → 0 < l.length → RT (y.setCell ⟨p, 4, none⟩ (.slice (some ⟨g, 0, none⟩) (k + 1) cap)) q' l := fun {q' l} hT hpq hl' => by
    obtain ⟨a1, a2⟩ := h'.apart hT hl'
    have hy : RT y q' l := hT.chg hc a1 (fun b c _ hb => (a2 b hb).1)
    refine hy.chg c2 (by omega) (fun b c hcb hbs => ?_)
    intro e
    obtain ⟨aa, nn, ccc, hd⟩ := h.dvs
    have h1 := hbs 0 hl'
    have h2 := hc.cellp h'.c0 n1
    rw [Nat.zero_mul, e, h2, hd] at h1
    cases h1
  have hky : Kept w0 y := Chg.kept h'.kept hc (fun j hj => by have := hb j hj; have := h.h0; omega)
  have gB : B ≤ g := (World.ownsRow.lt ho g rfl).1
  refine ⟨q4, f4, oth 0 _ (by omega) (hc.cellp h'.c0 n1), oth 1 _ (by omega) (hc.cellp h'.c1 n1), World.cell?_setCell_same _ _ _ q4, by simpa using f4, ?_, fun e => by omega, fun j hj => ?_, h.dvs, hlt, ?_, hky.setCell (p := ⟨p, 4, none⟩) h.h0 _, h.h0⟩
  · rw [ptrs_succ]
    exact ownsRow_chg ho c2 (fun t e => by simp only [Value.ownBlock, Option.some.injEq] at e; omega)
  · by_cases e : j = k
    · subst e
      simp only [if_true]
      exact ⟨tk ht' hq hl, hq, hl⟩
    · simp only [e, if_false]
      obtain ⟨a1, a2, a3⟩ := h'.tr j (by omega)
      exact ⟨tk a1 a2 a3, a2, a3⟩
  · have := h'.hB; have := hc.size; simp; omega
theorem RG.rdm {w0 w : World} {p B : Nat} {ds : List Dm} {rt : Nat → Nat} {tv mv : Value} {dv : Value} (h : RG w0 w p B ds ds.length rt tv dv mv) {b : Option Addr} {m d : Nat} {ms : List ByteArray} (hm : mv = .slice b m d) (hs : Ss w b m ms) {a : Option Addr} {n c : Nat} {na : Nat → Option Addr × Nat × Nat} (hdv : dv = .slice a n c) (hd : Dss w a n ds na) : RDm w p ds rt ms := by
  have hl := hs.len
  subst hl
  have hl2 := hd.len
  subst hl2
  refine ⟨⟨b, d, by rw [← hm]; exact h.c1, hs⟩, ?_, fun j hj => (h.tr j hj).1, ⟨a, c, na, by rw [← hdv]; exact h.c0, hd⟩⟩
  have h' := h.own
  have h4 := h.c4
  obtain ⟨_, ⟨hv, hz⟩ | ⟨g, cap, cur, hv, hb, hheap, hc, hcm, hsz, htk⟩⟩ := h.own
  · exact ⟨none, 0, by rw [hz, ← hv]; exact h4, fun hp => absurd hp (by omega)⟩
  · subst hv
    refine ⟨_, cap, h4, fun hp => ⟨g, rfl, fun j hj => ?_⟩⟩
    rw [World.ownsRow.cellAt h' j (by omega)]
    simp only [ptrs, List.getElem?_map]
    rw [List.getElem?_range (by omega)]
    rfl
theorem pinfo : ∃ i0, Tryz.prog.info? 102 = some i0 ∧ i0.zero = some (.pointer none) ∧ i0.size = 1 ∧ i0.bytes = 8 := by
  have h : (Tryz.prog.info? 102).map (fun i => (i.zero, i.size, i.bytes)) = some (some (.pointer none), 1, 8) := by kernel_rfl
  exact info_parts h
/-- One more tree behind the row. -/
theorem wpList_pushP {ops : Array Oper} {rest : List Oper} {o : Oper} {a : Act} {Q : Exit → Act → World → Prop} (w : World) (hgd : o.guard = none) (s x : Operand)
    (ho : o.op = .call { callee := .builtin .append, args := #[s, x], argTypes := #[97, 97] })
    (B : Nat) (v : Value) (rt : Nat → Nat) (k : Nat) (hs : a.eval s = v) (hv : w.ownsRow B 102 1 v k (ptrs rt k)) (hB : B ≤ w.heap.size) (g q : Nat) (hx : a.eval x = .slice (some ⟨g, 0, none⟩) 1 1) (hcell : w.cell? ⟨g, 0, none⟩ = some (.pointer (some ⟨q, 0, none⟩)))
    (h47 : k ≤ 1000) (H : Nat) (hH : w.heap.size = H)
    (h : ∀ g' cap w', w'.ownsRow B 102 1 (.slice (some ⟨g', 0, none⟩) (k + 1) cap) (k + 1) (ptrs rt k ++ [.pointer (some ⟨q, 0, none⟩)]) → Chg (fun t => v.ownBlock = some t) w w' → wpList Tryz.prog ops Q rest (a.put o.dst (.slice (some ⟨g', 0, none⟩) (k + 1) cap)) w') : wpList Tryz.prog ops Q (o :: rest) a w := by
  obtain ⟨i0, hi0, hz0, hz1, hz2⟩ := pinfo
  refine wpList_append_lies w hgd s x 97 ho B 102 i0 _ 1 8 Tryz.underlying97 hi0 hz0 hz1 hz2 rfl (by decide) v _ _ hs hv ⟨g, 0, none⟩ 1 1 [.pointer (some ⟨q, 0, none⟩)] hx rfl (one_news hcell) (by intro u hu; simp at hu; subst hu; rfl) (by omega) (by unfold maxLen; omega) (by omega) hB H hH ?_
  intro g' cap w' h2 h3 h4 h5
  exact h g' cap w' h2 ((Chg.refl _ w).grown h3 (fun k hk => .inl hk))
end Go.Proofs.YtpehinmckppjoaaGreatDoor
namespace Go.Proofs.YtpehinmckppjoaaGreatDoor
open Go.RowKit Go.Maps
set_option linter.unusedSimpArgs false
set_option linter.unusedVariables false

theorem idxS_le {l : List ByteArray} {s : ByteArray} {k : Nat} (hk : k < l.length) (h : l.getD k ByteArray.empty = s) : idxS l s ≤ k := by
  unfold idxS
  by_cases c : l.findIdx (fun x => decide (x = s)) ≤ k
  · exact c
  · have := List.not_of_lt_findIdx (p := fun x => decide (x = s)) (xs := l) (i := k) (by omega)
    have e : l.getD k ByteArray.empty = l[k] := by simp [List.getD, List.getElem?_eq_getElem hk]
    rw [e] at h
    simp [h] at this
/-- A name among those ahead of its place. -/
theorem idx_ahead {ds : List Dm} {k : Nat} (hk : k < ds.length) : (idxI (lbl (ds.take k)) (dmN ds k) = -1 ↔ ¬ idxI (lbl ds) (dmN ds k) < (k : Int)) := by
  have hl : (lbl ds).length = ds.length := by simp [lbl]
  have hl2 : (lbl (ds.take k)).length = k := by simp [lbl]; omega
  have hg := lbl_get ds k hk
  have h1 : idxS (lbl ds) (dmN ds k) ≤ k := idxS_le (by omega) hg
  have e1 : idxI (lbl ds) (dmN ds k) = idxS (lbl ds) (dmN ds k) := if_pos (by omega)
  have et : lbl (ds.take k) = (lbl ds).take k := by simp [lbl, List.map_take]
  rw [e1]
  constructor
  · intro h hlt
    have hn : idxS (lbl ds) (dmN ds k) < k := by omega
    have : idxS (lbl (ds.take k)) (dmN ds k) < (lbl (ds.take k)).length := by
      unfold idxS at hn ⊢
      rw [hl2, et]
      have hm : ∃ x, x ∈ (lbl ds).take k ∧ decide (x = dmN ds k) = true := by
        have hlt2 : (lbl ds).findIdx (fun x => decide (x = dmN ds k)) < (lbl ds).length := by omega
        have hp := List.findIdx_getElem (w := hlt2)
        refine ⟨(lbl ds)[(lbl ds).findIdx (fun x => decide (x = dmN ds k))], ?_, hp⟩
        rw [List.mem_take_iff_getElem]
        exact ⟨_, by omega, rfl⟩
      have := List.findIdx_lt_length.2 hm
      rw [List.length_take] at this
      omega
    unfold idxI at h
    rw [if_pos this] at h
    omega
  · intro h
    unfold idxI
    rw [if_neg]
    intro hlt
    have hx : idxS (lbl (ds.take k)) (dmN ds k) < k := by omega
    have hp : (lbl ds).getD (idxS (lbl (ds.take k)) (dmN ds k)) ByteArray.empty = dmN ds k := by
      have hp := List.findIdx_getElem (w := hlt)
      simp only [decide_eq_true_eq] at hp
      have e2 : (lbl (ds.take k)).getD (idxS (lbl (ds.take k)) (dmN ds k)) ByteArray.empty = dmN ds k := by
        unfold idxS at hlt ⊢
        rw [List.getD_eq_getElem?_getD, List.getElem?_eq_getElem hlt]
        exact hp
      rw [et] at e2 hx ⊢
      rw [List.getD_eq_getElem?_getD, List.getElem?_take_of_lt hx] at e2
      rw [List.getD_eq_getElem?_getD]
      exact e2
    have := idxS_le (l := lbl ds) (s := dmN ds k) (by omega) hp
    omega
theorem add_of_named {ds : List Dm} {k : Nat} (hk : k < ds.length) : (measE (lbl ds) k ≠ 0 → AddOk ds k (measE (lbl ds) k)) ∧ (measE (lbl ds) k = 0 → ∀ at_ er, NewIs (dmL ds k) at_ er → AddOk ds k er) := by
  have hg : msA (lbl ds) k = dmN ds k := lbl_get ds k hk
  have hi := idx_ahead hk
  unfold AddOk AddIs measE
  rw [hg]
  cases hn : nameB (dmN ds k) with
  | false => exact ⟨fun _ => .inl ⟨rfl, by simp⟩, fun h => by simp at h⟩
  | true =>
    simp only [if_true]
    by_cases c : idxI (lbl ds) (dmN ds k) < (k : Int)
    · rw [if_pos c]
      exact ⟨fun _ => .inr (.inl ⟨by first | rfl | trivial, fun e => (hi.1 e) c, rfl⟩), fun h => by omega⟩
    · rw [if_neg c]
      exact ⟨fun h => absurd rfl h, fun _ at_ er hN => .inr (.inr ⟨by first | rfl | trivial, hi.2 c, at_, hN⟩)⟩
def RNewPost (w : World) (ds : List Dm) (ms : List ByteArray) (lv sc : Int) (e : Ending) (w' : World) : Prop :=
  (∃ p rt, e = .returned (.tuple #[.pointer (some ⟨p, 0, none⟩), .int .i64 0, .int .i64 0]) ∧ CatIs ds ms lv sc 0 0 ∧ RDm w' p ds rt ms ∧ Kept w w') ∨
  ∃ at_ er, e = .returned (.tuple #[.pointer none, .int .i64 at_, .int .i64 er]) ∧ er ≠ 0 ∧ CatIs ds ms lv sc at_ er ∧ Kept w w'
end Go.Proofs.YtpehinmckppjoaaGreatDoor
namespace Go.Proofs.YtpehinmckppjoaaGreatDoor
open Go.RowKit Go.Maps
set_option linter.unusedSimpArgs false
set_option linter.unusedVariables false

theorem new_good {l : List Nd} {at_ : Int} (h : NewIs l at_ 0) : Good l ∧ 1 ≤ l.length ∧ l.length ≤ 32 := by
  rcases h with ⟨_, _, h⟩ | ⟨h1, ⟨h2, _⟩ | ⟨q, i, hb, _, he⟩⟩
  · omega
  · exact ⟨h2, h1⟩
  · exact absurd he.symm hb.2.2.1
theorem add_good {ds : List Dm} {k : Nat} (h : AddOk ds k 0) : Good (dmL ds k) ∧ 1 ≤ (dmL ds k).length ∧ (dmL ds k).length ≤ 32 := by
  rcases h with ⟨_, h⟩ | ⟨_, _, h⟩ | ⟨_, _, at_, h⟩
  · omega
  · omega
  · exact new_good h
theorem cells_small {m : Nat} {ds : List Dm} {k : Nat} (hm : m ≤ 4) (hk : k < ds.length) (hd : ds.length ≤ 4) (h : ∀ j, j < k + 1 → AddOk ds j 0) : cellsN m (ds.take k) * (dmL ds k).length ≤ 51840000 ∧ leavesN m (ds.take k) * (lvsN (dmL ds k)).length ≤ 51840000 := by
  have hall : ∀ d, d ∈ ds.take (k + 1) → d.2.length ≤ 60 ∧ (lvsN d.2).length ≤ 60 := fun d hd => by
    obtain ⟨t, ht, e⟩ := List.getElem_of_mem hd
    have ht' : t < k + 1 := by rw [List.length_take] at ht; omega
    obtain ⟨g1, g2, g3⟩ := add_good (h t ht')
    have : dmL ds t = d.2 := by
      rw [List.getElem_take] at e
      simp [dmL, List.getD, List.getElem?_eq_getElem (show t < ds.length by omega), e]
    rw [this] at g1 g3
    have := lvs_len (tr_of g1)
    omega
  obtain ⟨b1, b2⟩ := cells_le (m := m) hall
  obtain ⟨e1, e2⟩ := cells_take (m := m) hk
  have hp4 := pow_le4 (m := m) (k := (ds.take (k + 1)).length) hm (by rw [List.length_take]; omega)
  rw [← e1, ← e2]
  exact ⟨Nat.le_trans b1 hp4, Nat.le_trans b2 hp4⟩
set_option maxHeartbeats 4000000 in
set_option maxRecDepth 100000 in
theorem ref6_New_no (a : Option Addr) (n c : Nat) (ds : List Dm) (b : Option Addr) (m d : Nat) (ms : List ByteArray) (lv sc : Int) (w : World) (hln : ds.length = n) (hlm : ms.length = m) (hno : ¬ (1 ≤ n ∧ n ≤ 4 ∧ 1 ≤ m ∧ m ≤ 4)) :
    Calls Tryz.prog 21 #[.agg #[.slice a n c, .slice b m d, .int .i64 lv, .int .i64 sc]] w (RNewPost w ds ms lv sc) := by
  have HF := hidMk (show RNewPost w ds ms lv sc (.returned (.tuple #[.pointer none, .int .i64 (-1), .int .i64 5])) (w.alloc (.cells #[.slice a n c, .slice b m d, .int .i64 lv, .int .i64 sc] 25)) from .inr ⟨-1, 5, rfl, by omega, .inl ⟨by omega, rfl, rfl⟩, (Kept.refl w).alloc _⟩)
  by_cases h1 : n = 0
  · subst h1
    clear hno hln hlm
    go_enter Tryz.func21, Tryz.ntmps21
    go_wp2_with fail
    go_ret3
    exact HF.out
  have h1' : ((n : Int) == 0) = false := by simpa using h1
  by_cases h2 : 4 < n
  · have h2' : (4 : Int) < n := by omega
    clear hno hln hlm h1
    go_enter Tryz.func21, Tryz.ntmps21
    go_wp2_with fail
    go_ret3
    exact HF.out
  have h2' : (n : Int) ≤ 4 := by omega
  by_cases h3 : m = 0
  · subst h3
    clear hno hln hlm h1
    go_enter Tryz.func21, Tryz.ntmps21
    go_wp2_with fail
    go_ret3
    exact HF.out
  have h3' : ((m : Int) == 0) = false := by simpa using h3
  have h4 : 4 < m := by omega
  have h4' : (4 : Int) < m := by omega
  clear hno hln hlm h1 h3
  go_enter Tryz.func21, Tryz.ntmps21
  go_wp2_with fail
  go_ret3
  exact HF.out
end Go.Proofs.YtpehinmckppjoaaGreatDoor
