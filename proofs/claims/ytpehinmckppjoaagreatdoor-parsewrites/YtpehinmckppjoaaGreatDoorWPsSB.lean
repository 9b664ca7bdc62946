/- Commands as lines: what is written is read as it was; what was read is written as it was. No function of the program is named here. · Commands as lines: what was read is written as it was; the line that is written, as words. No function of the program is named here. · Commands as lines: the words that are written are words. No function of the program is named here. -/
import Derived.Test.YtpehinmckppjoaaGreatDoorWPsPB
namespace Go.Proofs.YtpehinmckppjoaaGreatDoor
open Go.RowKit Go.Maps
set_option linter.unusedSimpArgs false
set_option linter.unusedVariables false

theorem nx_at {L pre post : List ByteArray} {t : ByteArray} {kind : Int} (hL : L = pre ++ t :: post) (hk : rdK t = kind) : nx L kind pre.length = some t := by
  subst hL
  unfold nx
  have e : (pre ++ t :: post).getD pre.length ByteArray.empty = t := by simp
  rw [e, if_pos ⟨by simp, hk⟩]
theorem nx_of {L : List ByteArray} {kind : Int} {i : Nat} {t : ByteArray} (h : nx L kind i = some t) : i < L.length ∧ L.drop i = t :: L.drop (i + 1) ∧ rdK t = kind := by
  unfold nx at h
  split at h
  · rename_i hh
    obtain ⟨h1, h2⟩ := hh
    cases h
    refine ⟨h1, ?_, h2⟩
    rw [List.getD_eq_getElem?_getD, List.getElem?_eq_getElem h1]
    exact List.drop_eq_getElem_cons h1
  · cases h
theorem idx_msA {l : List ByteArray} {s : ByteArray} (h : 0 ≤ idxI l s) : idxI l s < l.length ∧ msA l (idxI l s).toNat = s := by
  unfold idxI at h ⊢
  by_cases c : idxS l s < l.length
  · rw [if_pos c] at h ⊢
    refine ⟨by omega, ?_⟩
    unfold msA
    rw [Int.toNat_natCast, List.getD_eq_getElem?_getD, List.getElem?_eq_getElem c]
    have := List.findIdx_getElem (p := fun x => decide (x = s)) (w := c)
    exact of_decide_eq_true this
  · rw [if_neg c] at h; omega
theorem find_nmI {l : List Nd} {s : ByteArray} (h : findI l s ≠ -1) : isP l (findI l s) ∧ nmI l (findI l s) = s := by
  unfold findI at h ⊢
  by_cases c : fstN l s < l.length
  · rw [if_pos c] at h ⊢
    have hp : isP l (fstN l s : Int) := ⟨by omega, by omega⟩
    refine ⟨hp, ?_⟩
    unfold nmI nmA
    rw [if_pos hp, Int.toNat_natCast, List.getD_eq_getElem?_getD, List.getElem?_eq_getElem c]
    have := List.findIdx_getElem (p := fun x : Nd => decide (x.1 = s)) (w := c)
    exact of_decide_eq_true this
  · rw [if_neg c] at h; omega
section
variable {ms : List ByteArray} {ds : List Dm}
theorem show_names (hok : CatOk ds ms) {cm : Int} {at_ : Nat → Int} (hr : rightB ms ds cm at_ = true) : ∀ x ∈ showL ms ds cm at_ ds.length, nameB x = true := by
  unfold rightB placeB at hr
  simp only [Bool.and_eq_true, decide_eq_true_eq] at hr
  obtain ⟨r0, ra, rb, rc, rd⟩ := hr
  have hall : ∀ k, k < 4 → 0 ≤ at_ k ∧ at_ k < many ds k := fun k hk => by
    have : k = 0 ∨ k = 1 ∨ k = 2 ∨ k = 3 := by omega
    rcases this with rfl | rfl | rfl | rfl <;> assumption
  have hd4 := hok.d4
  intro x hx
  unfold showL at hx
  rcases List.mem_cons.1 hx with rfl | hx
  · exact (meas_name (hok.meas _ (by omega))).1
  · obtain ⟨j, hj, rfl⟩ := List.mem_map.1 hx
    have hj' := List.mem_range.1 hj
    have hm := hall j (by omega)
    unfold many at hm
    rw [if_pos hj'] at hm
    unfold nmK nmI
    rw [if_pos (show isP (dmL ds j) (at_ j) from by unfold isP; omega)]
    exact (good_name (add_good (hok.add j hj')).1 _ (by omega)).1
theorem cell_facts (hok : CatOk ds ms) {cm : Int} {at_ : Nat → Int} (hr : rightB ms ds cm at_ = true) : idxI ms (msA ms cm.toNat) = cm ∧ 0 ≤ cm ∧ (∀ k, k < ds.length → fdK ds ((List.range ds.length).map (nmK ds at_)) k = at_ k ∧ 0 ≤ at_ k) ∧ ∀ k, k < 4 → atK ds ((List.range ds.length).map (nmK ds at_)) ds.length k = at_ k := by
  unfold rightB placeB at hr
  simp only [Bool.and_eq_true, decide_eq_true_eq] at hr
  obtain ⟨r0, ra, rb, rc, rd⟩ := hr
  have hall : ∀ k, k < 4 → 0 ≤ at_ k ∧ at_ k < many ds k := fun k hk => by
    have : k = 0 ∨ k = 1 ∨ k = 2 ∨ k = 3 := by omega
    rcases this with rfl | rfl | rfl | rfl <;> assumption
  have hd4 := hok.d4
  have hi : idxI ms (msA ms cm.toNat) = cm := by rw [hok.midx (by omega)]; omega
  have hfd : ∀ k, k < ds.length → fdK ds ((List.range ds.length).map (nmK ds at_)) k = at_ k ∧ 0 ≤ at_ k := fun k hk => by
    have hg := (add_good (hok.add k hk)).1
    have hm := hall k (by omega)
    unfold many at hm
    rw [if_pos hk] at hm
    have e : msA ((List.range ds.length).map (nmK ds at_)) k = nmK ds at_ k := by
      unfold msA
      rw [List.getD_eq_getElem?_getD, List.getElem?_map, List.getElem?_range hk]
      rfl
    unfold fdK
    rw [e]
    unfold nmK nmI
    rw [if_pos (show isP (dmL ds k) (at_ k) from by unfold isP; omega)]
    have := (good_name hg (at_ k).toNat (by omega)).2
    unfold findI
    rw [this, if_pos (by omega)]
    omega
  refine ⟨hi, r0.1, hfd, fun k hk => ?_⟩
  unfold atK
  by_cases c : k < ds.length
  · rw [if_pos c]; exact (hfd k c).1
  · rw [if_neg c]
    have := hall k hk
    unfold many at this
    rw [if_neg c] at this
    omega
theorem lbl_names (hok : CatOk ds ms) {k : Nat} (hk : k < ds.length) : nameB (dmN ds k) = true := by
  rcases hok.add k hk with ⟨_, e⟩ | ⟨_, _, e⟩ | ⟨h, _, _⟩
  · omega
  · omega
  · exact h
/-- Texts that are names, each found at its own place. -/
structure Nms (ws : List ByteArray) : Prop where
  nm : ∀ k, k < ws.length → nameB (msA ws k) = true
  ix : ∀ k, k < ws.length → idxI ws (msA ws k) = k
theorem nms_ms (hok : CatOk ds ms) : Nms ms := ⟨fun k hk => (meas_name (hok.meas k hk)).1, fun k hk => hok.midx hk⟩
theorem nms_lbl (hok : CatOk ds ms) : Nms (lbl ds) := by
  have hl := lbl_len ds
  have e : ∀ k, k < ds.length → msA (lbl ds) k = dmN ds k := fun k hk => lbl_get ds k hk
  exact ⟨fun k hk => by rw [e k (by omega)]; exact lbl_names hok (by omega), fun k hk => by rw [e k (by omega)]; exact hok.place (by omega)⟩
theorem nms_sp : Nms spW := by
  constructor <;> intro k hk <;> (have : k = 0 ∨ k = 1 ∨ k = 2 := by have : spW.length = 3 := rfl; omega) <;> rcases this with rfl | rfl | rfl <;> decide +kernel
theorem nms_mt : Nms mtW := by
  constructor <;> intro k hk <;> (have : k = 0 ∨ k = 1 ∨ k = 2 := by have : mtW.length = 3 := rfl; omega) <;> rcases this with rfl | rfl | rfl <;> decide +kernel
theorem pick_some {ws : List ByteArray} {k : Int} {wb : List ByteArray} (h : pickW ws k = some wb) : 0 ≤ k ∧ k < ws.length ∧ wb = [msA ws k.toNat] := by
  unfold pickW at h
  split at h
  · rename_i hh
    cases h
    exact ⟨hh.1, hh.2, rfl⟩
  · cases h
theorem indexA {ws : List ByteArray} (hw : Nms ws) {k : Int} {wb : List ByteArray} (h : pickW ws k = some wb) {L pre post : List ByteArray} (hL : L = pre ++ (wb ++ post)) (y : Cm) : indexP L ws (pre.length, y) = .ok (pre.length + wb.length, { y with m := k }) := by
  obtain ⟨h0, h1, rfl⟩ := pick_some h
  unfold indexP
  rw [nx_at (t := msA ws k.toNat) (post := post) (by rw [hL]; rfl) (rdK_name (hw.nm _ (by omega)))]
  simp only
  rw [hw.ix _ (by omega), if_neg (by omega)]
  rw [show ((k.toNat : Nat) : Int) = k by omega]
  rfl
theorem choiceA {ws : List ByteArray} (hw : Nms ws) {k : Int} {wb : List ByteArray} (h : chW ws k = some wb) {L pre post : List ByteArray} (hL : L = pre ++ (wb ++ post)) (hp : k = 0 → post = []) (y : Cm) (hy : y.h = 0) : choiceP L ws (pre.length, y) = .ok (pre.length + wb.length, { y with h := k }) := by
  unfold chW at h
  unfold choiceP
  split at h
  · rename_i hk
    cases h
    rw [hp hk] at hL
    rw [if_pos (by rw [hL]; simp), hk, ← hy]
    rfl
  · obtain ⟨h0, h1, rfl⟩ := pick_some h
    rw [if_neg (by rw [hL]; simp), nx_at (t := msA ws k.toNat) (post := post) (by rw [hL]; rfl) (rdK_name (hw.nm _ (by omega)))]
    simp only
    rw [hw.ix _ (by omega), if_neg (by omega)]
    rw [show ((k.toNat : Nat) : Int) = k by omega]
    rfl
theorem cat_some {a b : Option (List ByteArray)} {l : List ByteArray} (h : catW a b = some l) : ∃ x y, a = some x ∧ b = some y ∧ l = x ++ y := by
  unfold catW at h
  split at h
  · cases h
  · split at h
    · cases h
    · cases h
      exact ⟨_, _, rfl, rfl, rfl⟩
theorem oneA (hok : CatOk ds ms) {x : Cm} (hn : isI x.n) {b : Int} {wb : List ByteArray} (h : oneW ms ds b x = some wb) {L pre post : List ByteArray} (hL : L = pre ++ (wb ++ post)) (y : Cm) (hc : b = 104 ∨ b = 109 → post = [] ∧ y.h = 0) :
    oneP ms ds L b (pre.length, y) = .ok (pre.length + wb.length, bareO x y b) := by
  unfold oneW at h
  unfold oneP bareO
  by_cases b1 : b = 117 ∨ b = 115 ∨ b = 111
  · rw [if_pos b1] at h ⊢
    rw [if_pos b1]
    split at h
    · rename_i hnm
      cases h
      unfold nameP
      rw [nx_at (t := getT b x) (post := post) (by rw [hL]; rfl) (rdK_name hnm)]
      rfl
    · cases h
  · rw [if_neg b1] at h ⊢
    rw [if_neg b1]
    by_cases b2 : b = 99
    · rw [if_pos b2] at h ⊢
      rw [if_pos b2]
      split at h
      · rename_i hr
        cases h
        have hd1 := hok.d1
        have hsl := showL_len ms ds x.c0 (atC x) ds.length
        obtain ⟨k3, kP⟩ := cell_text (l := showL ms ds x.c0 (atC x) ds.length) (by omega) (show_names hok hr)
        obtain ⟨f0, f1, f2, f3⟩ := cell_facts hok hr
        unfold cellP
        rw [nx_at (t := cellW ms ds x) (post := post) (by rw [hL]; rfl) k3]
        simp only
        unfold cellW
        rw [kP]
        have e0 : (showL ms ds x.c0 (atC x) ds.length).getD 0 ByteArray.empty = msA ms x.c0.toNat := rfl
        have e1 : (showL ms ds x.c0 (atC x) ds.length).drop 1 = (List.range ds.length).map (nmK ds (atC x)) := rfl
        rw [e0, e1]
        have e2 : cellE ms ds (msA ms x.c0.toNat) ((List.range ds.length).map (nmK ds (atC x))) = 0 := by
          unfold cellE
          rw [f0, if_neg (by omega), if_neg (by simp), if_neg (by
            rw [List.any_eq_true]
            rintro ⟨k, hk, he⟩
            have := f2 k (List.mem_range.1 hk)
            simp only [decide_eq_true_eq] at he
            omega)]
        rw [if_neg (by rw [e2]; omega), f0, f3 0 (by omega), f3 1 (by omega), f3 2 (by omega), f3 3 (by omega)]
        rfl
      · cases h
    · rw [if_neg b2] at h ⊢
      rw [if_neg b2]
      by_cases b3 : b = 110
      · rw [if_pos b3] at h ⊢
        rw [if_pos b3]
        cases h
        unfold numP
        rw [nx_at (t := numS x.n) (post := post) (by rw [hL]; rfl) (rdK_num hn).1]
        simp only
        rw [(rdK_num hn).2]
        rfl
      · rw [if_neg b3] at h ⊢
        rw [if_neg b3]
        by_cases b4 : b = 104
        · rw [if_pos b4] at h ⊢
          rw [if_pos b4]
          obtain ⟨hp, hy⟩ := hc (Or.inl b4)
          obtain ⟨wa, wm, ha, hm, rfl⟩ := cat_some h
          have hL' : L = pre ++ (wa ++ (wm ++ post)) := by rw [hL, List.append_assoc]
          unfold howP
          rw [choiceA nms_sp ha hL' (fun e => by
            rw [if_neg (by omega)] at hm
            cases hm
            rw [hp]
            rfl) y hy]
          simp only
          by_cases h2 : x.h = 2
          · rw [if_pos h2] at hm ⊢
            rw [if_pos h2]
            have := indexA (nms_ms hok) hm (L := L) (pre := pre ++ wa) (post := post) (by rw [hL']; simp) { y with h := x.h }
            rw [List.length_append] at this
            rw [this, List.length_append, Nat.add_assoc]
          · rw [if_neg h2] at hm ⊢
            rw [if_neg h2]
            cases hm
            simp
        · rw [if_neg b4] at h ⊢
          rw [if_neg b4]
          by_cases b5 : b = 109
          · rw [if_pos b5] at h ⊢
            rw [if_pos b5]
            exact choiceA nms_mt h hL (fun _ => (hc (Or.inr b5)).1) y (hc (Or.inr b5)).2
          · rw [if_neg b5] at h ⊢
            rw [if_neg b5]
            exact indexA (nms_lbl hok) h hL y
theorem bareO_h {x y : Cm} {b : Int} (h : b ≠ 104 ∧ b ≠ 109) : (bareO x y b).h = y.h := by
  unfold bareO putT putC
  rw [if_neg h.1, if_neg h.2]
  repeat' split
  all_goals rfl
theorem foldA (hok : CatOk ds ms) {x : Cm} (hn : isI x.n) : ∀ (bs : List Int), lastC bs → ∀ (l pre : List ByteArray) (y : Cm), y.h = 0 → foldW ms ds bs x = some l → foldP ms ds (pre ++ l) bs (pre.length, y) = .ok ((pre ++ l).length, bs.foldl (bareO x) y)
  | [], _, l, pre, y, _, h => by
    unfold foldW at h
    cases h
    simp [foldP]
  | b :: bs, hb, l, pre, y, hy, h => by
    unfold foldW at h
    obtain ⟨wb, m, h1, h2, rfl⟩ := cat_some h
    unfold lastC at hb
    obtain ⟨_, hb2, _, hb4⟩ := hb
    have hm : b = 104 ∨ b = 109 → m = [] ∧ y.h = 0 := fun e => by
      have := hb2 e
      subst this
      unfold foldW at h2
      cases h2
      exact ⟨rfl, hy⟩
    have h3 := oneA hok hn h1 (L := pre ++ (wb ++ m)) (pre := pre) (post := m) rfl y hm
    rw [show foldP ms ds (pre ++ (wb ++ m)) (b :: bs) (pre.length, y) = match oneP ms ds (pre ++ (wb ++ m)) b (pre.length, y) with
      | .error e => .error e
      | .ok s' => foldP ms ds (pre ++ (wb ++ m)) bs s' from rfl, h3]
    simp only
    rw [List.foldl_cons]
    by_cases hbb : b ≠ 104 ∧ b ≠ 109
    · have := foldA hok hn bs hb4 m (pre ++ wb) (bareO x y b) (by rw [bareO_h hbb]; exact hy) h2
      rw [List.length_append, List.append_assoc] at this
      exact this
    · have := hb2 (by omega)
      subst this
      unfold foldW at h2
      cases h2
      simp [foldP]
end
theorem kw_all {k : Int} (h : 1 ≤ k ∧ k ≤ 18) : nameB (kwI k) = true ∧ kindI (kwI k) = k := by
  rcases (by omega : k = 1 ∨ k = 2 ∨ k = 3 ∨ k = 4 ∨ k = 5 ∨ k = 6 ∨ k = 7 ∨ k = 8 ∨ k = 9 ∨ k = 10 ∨ k = 11 ∨ k = 12 ∨ k = 13 ∨ k = 14 ∨ k = 15 ∨ k = 16 ∨ k = 17 ∨ k = 18) with rfl | rfl | rfl | rfl | rfl | rfl | rfl | rfl | rfl | rfl | rfl | rfl | rfl | rfl | rfl | rfl | rfl | rfl <;> decide +kernel
theorem kw_size {k : Int} : (kwI k).size ≠ 0 ↔ 1 ≤ k ∧ k ≤ 18 := by
  constructor
  · intro h
    unfold kwI at h
    split at h
    · rename_i hk
      by_cases e : k = 0
      · subst e; exact absurd (by decide +kernel) h
      · omega
    · exact absurd (by decide) h
  · intro h e
    have := (kw_all h).1
    unfold nameB at this
    simp only [Bool.and_eq_true, decide_eq_true_eq] at this
    omega
section
variable {ms : List ByteArray} {ds : List Dm}
theorem write_some {x : Cm} {l : List ByteArray} (h : writeP ms ds x = some l) : (1 ≤ x.k ∧ x.k ≤ 18) ∧ ∃ m, foldW ms ds (shapeL x.k) x = some m ∧ l = kwI x.k :: m := by
  unfold writeP at h
  split at h
  · cases h
  · rename_i hk
    obtain ⟨a, m, h1, h2, rfl⟩ := cat_some h
    cases h1
    exact ⟨kw_size.1 hk, m, h2, rfl⟩
/-- What is written is read as it was. -/
theorem parse_write (hok : CatOk ds ms) {x : Cm} (hn : isI x.n) {l : List ByteArray} (h : writeP ms ds x = some l) : parseP ms ds l = (bareP x, 0, 0) := by
  obtain ⟨hk, m, hm, rfl⟩ := write_some h
  unfold parseP
  have h1 : nx (kwI x.k :: m) 1 0 = some (kwI x.k) := nx_at (pre := []) (post := m) rfl (rdK_name (kw_all hk).1)
  rw [h1]
  simp only
  rw [(kw_all hk).2, if_neg (by omega)]
  have := foldA hok hn (shapeL x.k) (shape_last _) m [kwI x.k] { cm0 with k := x.k } rfl hm
  rw [show ([kwI x.k] ++ m) = kwI x.k :: m from rfl, show [kwI x.k].length = 1 from rfl] at this
  rw [this]
  simp only
  rw [if_neg (by omega)]
  rfl
end
end Go.Proofs.YtpehinmckppjoaaGreatDoor
namespace Go.Proofs.YtpehinmckppjoaaGreatDoor
open Go.RowKit Go.Maps
set_option linter.unusedSimpArgs false
set_option linter.unusedVariables false
theorem oneP_err {ms : List ByteArray} {ds : List Dm} {L : List ByteArray} {b : Int} {s : Nat × Cm} {p : Int × Int} (h : oneP ms ds L b s = .error p) : p.2 ≠ 0 := by
  have hnm : ∀ b s, nameP L b s = .error p → p.2 ≠ 0 := fun b s h => by
    unfold nameP at h; split at h
    · cases h; exact (by decide : (6 : Int) ≠ 0)
    · cases h
  have hnu : numP L s = .error p → p.2 ≠ 0 := fun h => by
    unfold numP at h; split at h
    · cases h; exact (by decide : (6 : Int) ≠ 0)
    · cases h
  have hce : cellP ms ds L s = .error p → p.2 ≠ 0 := fun h => by
    unfold cellP at h; split at h
    · cases h; exact (by decide : (6 : Int) ≠ 0)
    · split at h
      · rename_i h2; cases h; exact h2
      · cases h
  have hix : ∀ ws s, indexP L ws s = .error p → p.2 ≠ 0 := fun ws s h => by
    unfold indexP at h; split at h
    · cases h; exact (by decide : (6 : Int) ≠ 0)
    · split at h
      · cases h; exact (by decide : (10 : Int) ≠ 0)
      · cases h
  have hch : ∀ ws s, choiceP L ws s = .error p → p.2 ≠ 0 := fun ws s h => by
    unfold choiceP at h; split at h
    · cases h
    · split at h
      · cases h; exact (by decide : (6 : Int) ≠ 0)
      · split at h
        · cases h; exact (by decide : (6 : Int) ≠ 0)
        · cases h
  unfold oneP at h
  split at h
  · exact hnm _ _ h
  · split at h
    · exact hce h
    · split at h
      · exact hnu h
      · split at h
        · unfold howP at h
          split at h
          · rename_i e he; cases h; exact hch _ _ he
          · split at h
            · exact hix _ _ h
            · cases h
        · split at h
          · exact hch _ _ h
          · exact hix _ _ h
theorem foldP_err {ms : List ByteArray} {ds : List Dm} {L : List ByteArray} {p : Int × Int} : ∀ (bs : List Int) (s : Nat × Cm), foldP ms ds L bs s = .error p → p.2 ≠ 0
  | [], s, h => by unfold foldP at h; cases h
  | b :: bs, s, h => by
    rw [show foldP ms ds L (b :: bs) s = match oneP ms ds L b s with
      | .error e => .error e
      | .ok s' => foldP ms ds L bs s' from rfl] at h
    cases ho : oneP ms ds L b s with
    | error e => rw [ho] at h; cases h; exact oneP_err ho
    | ok z => rw [ho] at h; exact foldP_err bs z h
section
variable {ms : List ByteArray} {ds : List Dm}
theorem pick_idx {ws : List ByteArray} {t : ByteArray} (h : ¬ idxI ws t < 0) : pickW ws (idxI ws t) = some [t] := by
  obtain ⟨h1, h2⟩ := idx_msA (l := ws) (s := t) (by omega)
  unfold pickW
  rw [if_pos ⟨by omega, h1⟩, h2]
/-- What a step read: its words, and its field. -/
def StepB (ms : List ByteArray) (ds : List Dm) (L : List ByteArray) (b : Int) (s s1 : Nat × Cm) : Prop :=
  ∃ l, oneW ms ds b s1.2 = some l ∧ s1.2 = bareO s1.2 s.2 b ∧ s1.1 ≤ L.length ∧ (L.drop s.1 = l ++ L.drop s1.1 ∨ ((b = 104 ∨ b = 109) ∧ s1.2.h = 0 ∧ ∃ t, L.drop s.1 = l ++ (t :: L.drop s1.1)))
theorem putT_get (b : Int) (t : ByteArray) (y : Cm) : getT b (putT b t y) = t := by
  unfold getT putT
  repeat' split
  all_goals rfl
theorem putT_put (b : Int) (t : ByteArray) (y : Cm) : putT b (getT b (putT b t y)) y = putT b t y := by rw [putT_get]
theorem atK_place (hok : CatOk ds ms) {xs : List ByteArray} (hl : xs.length = ds.length) (h : ∀ k, k < ds.length → fdK ds xs k ≠ -1) (k : Nat) (hk : k < 4) : placeB (atK ds xs ds.length k) (many ds k) = true := by
  unfold placeB atK many
  rw [decide_eq_true_eq]
  by_cases c : k < ds.length
  · rw [if_pos c, if_pos c]
    have := (find_nmI (h k c)).1
    unfold isP at this
    exact this
  · rw [if_neg c, if_neg c]
    omega
theorem oneB (hok : CatOk ds ms) {L : List ByteArray} {b : Int} (hb : isLet b) {s s1 : Nat × Cm} (h : oneP ms ds L b s = .ok s1) (hs : s.1 ≤ L.length) (hh : b = 104 ∨ b = 109 → s.2.h = 0) : StepB ms ds L b s s1 := by
  unfold StepB oneW bareO
  unfold oneP at h
  by_cases b1 : b = 117 ∨ b = 115 ∨ b = 111
  · rw [if_pos b1] at h
    unfold nameP at h
    split at h
    · cases h
    · rename_i t ht
      obtain ⟨n1, n2, n3⟩ := nx_of ht
      cases h
      refine ⟨[t], ?_, ?_, n1, Or.inl n2⟩
      · rw [if_pos b1]
        simp only [putT_get]
        rw [if_pos (rdK_1 n3)]
      · rw [if_pos b1]
        exact (putT_put _ _ _).symm
  · rw [if_neg b1] at h
    rw [if_neg b1]
    by_cases b2 : b = 99
    · rw [if_pos b2] at h
      unfold cellP at h
      split at h
      · cases h
      · rename_i t ht
        obtain ⟨n1, n2, n3⟩ := nx_of ht
        split at h
        · cases h
        · rename_i he
          cases h
          have he' : cellE ms ds ((rdP t).getD 0 ByteArray.empty) ((rdP t).drop 1) = 0 := by simpa using he
          obtain ⟨hcb, hP⟩ := rdK_3 n3
          rw [hP] at he' ⊢
          unfold cellB at hcb
          rw [Bool.and_eq_true, decide_eq_true_eq] at hcb
          obtain ⟨p0, ps, hp⟩ : ∃ p0 ps, slP t = p0 :: ps := by
            cases hq : slP t with
            | nil => rw [hq] at hcb; simp at hcb
            | cons a r => exact ⟨a, r, rfl⟩
          have e0 : (slP t).getD 0 ByteArray.empty = p0 := by rw [hp]; rfl
          have e1 : (slP t).drop 1 = ps := by rw [hp]; rfl
          rw [e0, e1] at he' ⊢
          unfold cellE at he'
          split at he'
          · omega
          · rename_i i1
            split at he'
            · omega
            · rename_i i2
              split at he'
              · omega
              · rename_i i3
                have i2' : ps.length = ds.length := by simpa using i2
                have i3' : ∀ k, k < ds.length → fdK ds ps k ≠ -1 := fun k hk e => i3 (by
                  rw [List.any_eq_true]
                  exact ⟨k, List.mem_range.2 hk, by simpa using e⟩)
                have hi0 : 0 ≤ idxI ms p0 := by
                  unfold idxI at i1 ⊢
                  split at i1 <;> first | (rename_i c; rw [if_pos c]; omega) | omega
                obtain ⟨q1, q2⟩ := idx_msA hi0
                have hat : atC (putC (idxI ms p0) (atK ds ps ds.length 0) (atK ds ps ds.length 1) (atK ds ps ds.length 2) (atK ds ps ds.length 3) s.2) = fun k => if k = 0 then atK ds ps ds.length 0 else if k = 1 then atK ds ps ds.length 1 else if k = 2 then atK ds ps ds.length 2 else atK ds ps ds.length 3 := rfl
                have hd4 := hok.d4
                have hr : rightB ms ds (idxI ms p0) (atC (putC (idxI ms p0) (atK ds ps ds.length 0) (atK ds ps ds.length 1) (atK ds ps ds.length 2) (atK ds ps ds.length 3) s.2)) = true := by
                  refine right_all ?_ fun k hk => ?_
                  · unfold placeB; rw [decide_eq_true_eq]; exact ⟨hi0, q1⟩
                  · rw [hat]
                    have := atK_place hok i2' i3' k hk
                    rcases (by omega : k = 0 ∨ k = 1 ∨ k = 2 ∨ k = 3) with rfl | rfl | rfl | rfl <;> exact this
                have hsh : cellW ms ds (putC (idxI ms p0) (atK ds ps ds.length 0) (atK ds ps ds.length 1) (atK ds ps ds.length 2) (atK ds ps ds.length 3) s.2) = t := by
                  unfold cellW
                  rw [← join_slP t, hp]
                  congr 1
                  unfold showL
                  rw [show (putC (idxI ms p0) (atK ds ps ds.length 0) (atK ds ps ds.length 1) (atK ds ps ds.length 2) (atK ds ps ds.length 3) s.2).c0 = idxI ms p0 from rfl, q2]
                  congr 1
                  refine List.ext_getElem (by simp [i2']) fun k h1 h2 => ?_
                  rw [List.getElem_map, List.getElem_range]
                  have hk : k < ds.length := by omega
                  have hpk : msA ps k = ps[k] := by unfold msA; rw [List.getD_eq_getElem?_getD, List.getElem?_eq_getElem h2]; rfl
                  have hf := (find_nmI (i3' k hk)).2
                  have ha : atC (putC (idxI ms p0) (atK ds ps ds.length 0) (atK ds ps ds.length 1) (atK ds ps ds.length 2) (atK ds ps ds.length 3) s.2) k = fdK ds ps k := by
                    rw [hat]
                    have e : atK ds ps ds.length k = fdK ds ps k := by unfold atK; rw [if_pos hk]
                    rw [← e]
                    rcases (by omega : k = 0 ∨ k = 1 ∨ k = 2 ∨ k = 3) with rfl | rfl | rfl | rfl <;> rfl
                  unfold nmK
                  rw [ha, ← hpk]
                  exact hf
                refine ⟨[t], ?_, ?_, n1, Or.inl n2⟩
                · rw [if_pos b2]
                  simp only
                  rw [show (putC (idxI ms p0) (atK ds ps ds.length 0) (atK ds ps ds.length 1) (atK ds ps ds.length 2) (atK ds ps ds.length 3) s.2).c0 = idxI ms p0 from rfl, if_pos hr, hsh]
                · rw [if_neg b1, if_pos b2]
                  rfl
    · rw [if_neg b2] at h
      rw [if_neg b2]
      by_cases b3 : b = 110
      · rw [if_pos b3] at h
        unfold numP at h
        split at h
        · cases h
        · rename_i t ht
          obtain ⟨n1, n2, n3⟩ := nx_of ht
          cases h
          refine ⟨[t], ?_, ?_, n1, Or.inl n2⟩
          · rw [if_pos b3, (num_rdN n3).1]
          · rw [if_neg b1, if_neg b2, if_pos b3]
      · rw [if_neg b3] at h
        rw [if_neg b3]
        by_cases b4 : b = 104
        · rw [if_pos b4] at h
          rw [if_pos b4]
          have h0 := hh (Or.inl b4)
          unfold howP at h
          cases hc : choiceP L spW s with
          | error e => rw [hc] at h; cases h
          | ok s' =>
            rw [hc] at h
            simp only at h
            unfold choiceP at hc
            split at hc
            · rename_i hsl
              cases hc
              rw [if_neg (by omega)] at h
              cases h
              refine ⟨[], ?_, ?_, hs, Or.inl rfl⟩
              · rw [h0]; rfl
              · rw [if_neg b1, if_neg b2, if_neg b3, if_pos b4, if_neg (by omega)]
            · split at hc
              · cases hc
              · rename_i t ht
                obtain ⟨n1, n2, n3⟩ := nx_of ht
                split at hc
                · cases hc
                · rename_i hx
                  cases hc
                  simp only at h
                  have hpk := pick_idx hx
                  by_cases h2 : idxI spW t = 2
                  · rw [if_pos h2] at h
                    unfold indexP at h
                    split at h
                    · cases h
                    · rename_i u hu
                      obtain ⟨m1, m2, m3⟩ := nx_of hu
                      split at h
                      · cases h
                      · rename_i hy
                        cases h
                        refine ⟨[t, u], ?_, ?_, m1, Or.inl (by simp only; rw [n2, m2]; rfl)⟩
                        · simp only
                          rw [if_pos h2, pick_idx hy]
                          unfold chW
                          rw [if_neg (by omega), hpk]
                          rfl
                        · rw [if_neg b1, if_neg b2, if_neg b3, if_pos b4]
                          simp only
                          rw [if_pos h2]
                  · rw [if_neg h2] at h
                    cases h
                    by_cases h3 : idxI spW t = 0
                    · refine ⟨[], ?_, ?_, n1, Or.inr ⟨Or.inl b4, h3, t, n2⟩⟩
                      · simp only
                        rw [if_neg h2, h3]
                        rfl
                      · rw [if_neg b1, if_neg b2, if_neg b3, if_pos b4]
                        simp only
                        rw [if_neg h2]
                    · refine ⟨[t], ?_, ?_, n1, Or.inl n2⟩
                      · simp only
                        rw [if_neg h2]
                        unfold chW
                        rw [if_neg h3, hpk]
                        rfl
                      · rw [if_neg b1, if_neg b2, if_neg b3, if_pos b4]
                        simp only
                        rw [if_neg h2]
        · rw [if_neg b4] at h
          rw [if_neg b4]
          by_cases b5 : b = 109
          · rw [if_pos b5] at h
            rw [if_pos b5]
            have h0 := hh (Or.inr b5)
            unfold choiceP at h
            split at h
            · rename_i hsl
              cases h
              refine ⟨[], ?_, ?_, hs, Or.inl rfl⟩
              · rw [h0]; rfl
              · rw [if_neg b1, if_neg b2, if_neg b3, if_neg b4, if_pos b5]
            · split at h
              · cases h
              · rename_i t ht
                obtain ⟨n1, n2, n3⟩ := nx_of ht
                split at h
                · cases h
                · rename_i hx
                  cases h
                  have hpk := pick_idx hx
                  by_cases h3 : idxI mtW t = 0
                  · refine ⟨[], ?_, ?_, n1, Or.inr ⟨Or.inr b5, h3, t, n2⟩⟩
                    · simp only
                      rw [h3]
                      rfl
                    · rw [if_neg b1, if_neg b2, if_neg b3, if_neg b4, if_pos b5]
                  · refine ⟨[t], ?_, ?_, n1, Or.inl n2⟩
                    · simp only
                      unfold chW
                      rw [if_neg h3, hpk]
                    · rw [if_neg b1, if_neg b2, if_neg b3, if_neg b4, if_pos b5]
          · rw [if_neg b5] at h
            rw [if_neg b5]
            unfold indexP at h
            split at h
            · cases h
            · rename_i t ht
              obtain ⟨n1, n2, n3⟩ := nx_of ht
              split at h
              · cases h
              · rename_i hx
                cases h
                refine ⟨[t], pick_idx hx, ?_, n1, Or.inl n2⟩
                rw [if_neg b1, if_neg b2, if_neg b3, if_neg b4, if_neg b5]
/-- Another field does not count. -/
theorem field_other {b c : Int} (hb : isLet b) (hb2 : ¬ (b = 104 ∨ b = 109)) (hc : isLet c) (hne : c ≠ b) (hdh : ¬ (b = 100 ∧ c = 104)) (z y : Cm) : (∀ ms ds, oneW ms ds b (bareO z y c) = oneW ms ds b y) ∧ ∀ u, bareO (bareO z y c) u b = bareO y u b := by
  have e : ∀ y : Cm, atC y = fun k => if k = 0 then y.c1 else if k = 1 then y.c2 else if k = 2 then y.c3 else y.c4 := fun y => rfl
  unfold isLet at hb hc
  rcases hb with rfl | rfl | rfl | rfl | rfl | rfl | rfl | rfl <;> rcases hc with rfl | rfl | rfl | rfl | rfl | rfl | rfl | rfl <;> first
    | exact absurd rfl hne
    | exact absurd (Or.inl rfl) hb2
    | exact absurd (Or.inr rfl) hb2
    | exact absurd ⟨rfl, rfl⟩ hdh
    | (refine ⟨fun ms ds => ?_, fun u => ?_⟩ <;> simp [oneW, bareO, putT, getT, putC, cellW, e]; done)
    | (by_cases h2 : z.h = 2 <;> refine ⟨fun ms ds => ?_, fun u => ?_⟩ <;> simp [oneW, bareO, putT, getT, putC, cellW, e, h2])
theorem fields_other {b : Int} (hb : isLet b) (hb2 : ¬ (b = 104 ∨ b = 109)) (z : Cm) : ∀ (bs : List Int), (∀ c ∈ bs, isLet c ∧ c ≠ b ∧ ¬ (b = 100 ∧ c = 104)) → ∀ y, (∀ ms ds, oneW ms ds b (bs.foldl (bareO z) y) = oneW ms ds b y) ∧ ∀ u, bareO (bs.foldl (bareO z) y) u b = bareO y u b
  | [], _, y => ⟨fun _ _ => rfl, fun _ => rfl⟩
  | c :: cs, h, y => by
    rw [List.foldl_cons]
    obtain ⟨h1, h2, h3⟩ := h c (List.mem_cons_self ..)
    have h4 := field_other hb hb2 h1 h2 h3 z y
    have h5 := fields_other hb hb2 z cs (fun d hd => h d (List.mem_cons_of_mem _ hd)) (bareO z y c)
    exact ⟨fun ms ds => (h5.1 ms ds).trans (h4.1 ms ds), fun u => (h5.2 u).trans (h4.2 u)⟩
theorem lastC_let : ∀ bs : List Int, lastC bs → ∀ c ∈ bs, isLet c
  | [], _, c, hc => by cases hc
  | b :: bs, h, c, hc => by
    rcases List.mem_cons.1 hc with rfl | hc
    · exact h.1
    · exact lastC_let bs h.2.2.2 c hc
theorem foldB (hok : CatOk ds ms) {L : List ByteArray} : ∀ (bs : List Int), lastC bs → ∀ s s' : Nat × Cm, s.1 ≤ L.length → s.2.h = 0 → foldP ms ds L bs s = .ok s' →
    ∃ l, foldW ms ds bs s'.2 = some l ∧ s'.2 = bs.foldl (bareO s'.2) s.2 ∧ s'.1 ≤ L.length ∧ (L.drop s.1 = l ++ L.drop s'.1 ∨ (s'.2.h = 0 ∧ (104 ∈ bs ∨ 109 ∈ bs) ∧ ∃ t, L.drop s.1 = l ++ (t :: L.drop s'.1)))
  | [], _, s, s', hs, _, h => by
    unfold foldP at h
    cases h
    exact ⟨[], rfl, rfl, hs, Or.inl rfl⟩
  | b :: bs, hb, s, s', hs, hh, h => by
    rw [show foldP ms ds L (b :: bs) s = match oneP ms ds L b s with
      | .error e => .error e
      | .ok s' => foldP ms ds L bs s' from rfl] at h
    obtain ⟨hb1, hb2, hb3, hb4⟩ := hb
    cases ho : oneP ms ds L b s with
    | error e => rw [ho] at h; cases h
    | ok s1 =>
      rw [ho] at h
      simp only at h
      obtain ⟨l, o1, o2, o3, o4⟩ := oneB hok hb1 ho hs (fun _ => hh)
      by_cases hbb : b = 104 ∨ b = 109
      · have := hb2 hbb
        subst this
        unfold foldP at h
        cases h
        refine ⟨l, ?_, o2, o3, ?_⟩
        · unfold foldW foldW
          rw [o1]
          simp [catW]
        · rcases o4 with o4 | ⟨_, o5, o6⟩
          · exact Or.inl o4
          · exact Or.inr ⟨o5, by rcases hbb with e | e <;> simp [e], o6⟩
      · have hh1 : s1.2.h = 0 := by rw [o2, bareO_h (by omega)]; exact hh
        obtain ⟨m, i1, i2, i3, i4⟩ := foldB hok bs hb4 s1 s' o3 hh1 h
        have hot := fields_other hb1 hbb s'.2 bs (fun c hc => ⟨lastC_let bs hb4 c hc, (hb3 c hc).1, (hb3 c hc).2⟩) s1.2
        rw [← i2] at hot
        have e1 : s1.2 = bareO s'.2 s.2 b := by rw [hot.2 s.2]; exact o2
        refine ⟨l ++ m, ?_, ?_, i3, ?_⟩
        · unfold foldW
          rw [hot.1, o1, i1]
          rfl
        · rw [List.foldl_cons, ← e1]
          exact i2
        · rcases o4 with o4 | ⟨o5, _⟩
          · rcases i4 with i4 | ⟨i5, i6, t, i7⟩
            · exact Or.inl (by rw [o4, i4, List.append_assoc])
            · exact Or.inr ⟨i5, by rcases i6 with e | e <;> simp [e], t, by rw [o4, i7, List.append_assoc]⟩
          · exact absurd o5 hbb
theorem kind_kw {t : ByteArray} (h : kindI t ≠ 0) : kwI (kindI t) = t ∧ 1 ≤ kindI t ∧ kindI t ≤ 18 := by
  unfold kindI at h ⊢
  by_cases c : idxS kwL t < 19
  · rw [if_pos c] at h ⊢
    refine ⟨?_, by omega, by omega⟩
    unfold kwI
    rw [if_pos ⟨by omega, by omega⟩, Int.toNat_natCast]
    have hl : idxS kwL t < kwL.length := c
    rw [List.getD_eq_getElem?_getD, List.getElem?_eq_getElem hl]
    have := List.findIdx_getElem (p := fun x => decide (x = t)) (w := hl)
    exact of_decide_eq_true this
  · rw [if_neg c] at h; omega
/-- What was read is written as it was, but for a choice that need not be written. -/
theorem write_parse (hok : CatOk ds ms) {L : List ByteArray} {x : Cm} {a : Int} (h : parseP ms ds L = (x, a, 0)) : ∃ l, writeP ms ds x = some l ∧ a = 0 ∧ bareP x = x ∧ (L = l ∨ (x.h = 0 ∧ (x.k = 1 ∨ x.k = 10) ∧ ∃ t, L = l ++ [t])) := by
  unfold parseP at h
  split at h
  · simp at h
  · rename_i t ht
    obtain ⟨n1, n2, n3⟩ := nx_of ht
    split at h
    · simp at h
    · rename_i hk
      split at h
      · rename_i e he
        exfalso
        simp only [Prod.mk.injEq] at h
        exact foldP_err _ _ he h.2.2
      · rename_i s hs
        split at h
        · simp at h
        · rename_i hl
          simp only [Prod.mk.injEq] at h
          obtain ⟨rfl, rfl, _⟩ := h
          obtain ⟨kw, k1, k18⟩ := kind_kw hk
          obtain ⟨l, f1, f2, f3, f4⟩ := foldB hok _ (shape_last _) _ _ (by simp only; omega) rfl hs
          have ek : s.2.k = kindI t := by rw [f2, bareL_k]
          have ed : L.drop s.1 = [] := List.drop_eq_nil_of_le (by omega)
          have eL : L = t :: L.drop 1 := by
            have := n2
            rw [List.drop_zero, Nat.zero_add] at this
            exact this
          refine ⟨t :: l, ?_, rfl, ?_, ?_⟩
          · unfold writeP
            rw [ek, kw, if_neg (by have := kw_size.2 ⟨k1, k18⟩; rw [kw] at this; exact this), f1]
            rfl
          · unfold bareP
            rw [ek]
            exact f2.symm
          · simp only at f4
            rw [ed] at f4
            rcases f4 with f4 | ⟨g1, g2, u, g3⟩
            · left
              rw [eL, f4, List.append_nil]
            · right
              refine ⟨g1, ?_, u, ?_⟩
              · rw [ek]
                clear f1 f2 hs g3 ek kw
                generalize kindI t = k at *
                unfold shapeL at g2
                repeat' split at g2
                all_goals first | (simp at g2; done) | omega
              · rw [eL, g3]
                rfl
end
end Go.Proofs.YtpehinmckppjoaaGreatDoor
namespace Go.Proofs.YtpehinmckppjoaaGreatDoor
open Go.RowKit Go.Maps
set_option linter.unusedSimpArgs false
set_option linter.unusedVariables false

/-- A word: not empty, no blank, not too long. -/
def Gw (t : ByteArray) : Prop := t.data.toList ≠ [] ∧ (32 : UInt8) ∉ t.data.toList ∧ t.size ≤ 100
theorem gw_name {t : ByteArray} (h : nameB t = true) : Gw t := ⟨name_ne h, name_no32 h, by have := name_12 h; omega⟩
theorem gw_num {v : Int} (h : isI v) : Gw (numS v) := ⟨num_ne v, num_no32 v, by have := numS_size v h; omega⟩
/-- A line's words. -/
def lineW (s : ByteArray) : List ByteArray := (tks s.data.toList).map fun y => bstr y.2
theorem lineW_wrd (s : ByteArray) : lineW s = bstrs (wrd s.data.toList) := by
  unfold lineW bstrs
  rw [← tks_snd, List.map_map]
  rfl
theorem line_join {l : List ByteArray} (h : ∀ t ∈ l, Gw t) : lineW (joinB blankB l) = l := by
  rw [lineW_wrd, joinB_data]
  have e : blankB.data.toList.intercalate (datas l) = [32].intercalate (l.map (·.data.toList)) := rfl
  rw [e, wrd_join _ (fun p hp => by
    obtain ⟨t, ht, rfl⟩ := List.mem_map.1 hp
    exact ⟨(h t ht).1, (h t ht).2.1⟩)]
  exact bstrs_datas l
section
variable {ms : List ByteArray} {ds : List Dm} {x : Cm}
theorem gw_pick {ws : List ByteArray} (hw : Nms ws) {k : Int} {m : List ByteArray} (h : pickW ws k = some m) : ∀ t ∈ m, Gw t := by
  obtain ⟨h0, h1, rfl⟩ := pick_some h
  intro t ht
  rw [List.mem_singleton] at ht
  subst ht
  exact gw_name (hw.nm _ (by omega))
theorem gw_ch {ws : List ByteArray} (hw : Nms ws) {k : Int} {m : List ByteArray} (h : chW ws k = some m) : ∀ t ∈ m, Gw t := by
  unfold chW at h
  split at h
  · cases h; intro t ht; cases ht
  · exact gw_pick hw h
theorem oneW_good (hok : CatOk ds ms) (hn : isI x.n) {b : Int} {m : List ByteArray} (h : oneW ms ds b x = some m) : ∀ t ∈ m, Gw t := by
  unfold oneW at h
  split at h
  · split at h
    · rename_i hnm
      cases h
      intro t ht
      rw [List.mem_singleton] at ht
      subst ht
      exact gw_name hnm
    · cases h
  · split at h
    · split at h
      · rename_i hr
        cases h
        intro t ht
        rw [List.mem_singleton] at ht
        subst ht
        have hd1 := hok.d1
        have hsl := showL_len ms ds x.c0 (atC x) ds.length
        have hnm := show_names hok hr
        refine ⟨cell_ne (by omega) hnm, cell_no32 hnm, ?_⟩
        have := hok.join_le x.c0 (atC x) ds.length (Nat.le_refl _)
        unfold cellW
        rw [joinB_size]
        omega
      · cases h
    · split at h
      · cases h
        intro t ht
        rw [List.mem_singleton] at ht
        subst ht
        exact gw_num hn
      · split at h
        · obtain ⟨a, c, h1, h2, rfl⟩ := cat_some h
          intro t ht
          rcases List.mem_append.1 ht with ht | ht
          · exact gw_ch nms_sp h1 t ht
          · split at h2
            · exact gw_pick (nms_ms hok) h2 t ht
            · cases h2; cases ht
        · split at h
          · exact gw_ch nms_mt h
          · exact gw_pick (nms_lbl hok) h
theorem foldW_good (hok : CatOk ds ms) (hn : isI x.n) : ∀ (bs : List Int) (m : List ByteArray), foldW ms ds bs x = some m → ∀ t ∈ m, Gw t
  | [], m, h => by unfold foldW at h; cases h; intro t ht; cases ht
  | b :: bs, m, h => by
    unfold foldW at h
    obtain ⟨a, c, h1, h2, rfl⟩ := cat_some h
    intro t ht
    rcases List.mem_append.1 ht with ht | ht
    · exact oneW_good hok hn h1 t ht
    · exact foldW_good hok hn bs c h2 t ht
theorem write_good (hok : CatOk ds ms) (hn : isI x.n) {l : List ByteArray} (h : writeP ms ds x = some l) : ∀ t ∈ l, Gw t := by
  obtain ⟨hk, m, hm, rfl⟩ := write_some h
  intro t ht
  rcases List.mem_cons.1 ht with rfl | ht
  · exact gw_name (kw_all hk).1
  · exact foldW_good hok hn _ m hm t ht
theorem sizes_100 : ∀ l : List ByteArray, (∀ t ∈ l, t.size ≤ 100) → sizes l ≤ 100 * l.length
  | [], _ => Nat.zero_le _
  | t :: l, h => by
    have h1 := h t (List.mem_cons_self ..)
    have h2 := sizes_100 l fun u hu => h u (List.mem_cons_of_mem _ hu)
    unfold sizes at h2 ⊢
    rw [List.map_cons, List.sum_cons, List.length_cons]
    omega
theorem join_100 {l : List ByteArray} (h : ∀ t ∈ l, Gw t) : (joinB blankB l).size ≤ 101 * l.length := by
  have h1 := joinB_le blankB l
  have h2 := sizes_100 l fun t ht => (h t ht).2.2
  rw [show blankB.size = 1 from rfl] at h1
  omega
/-- A command's line is read as it was. -/
theorem parse_line (hok : CatOk ds ms) (hn : isI x.n) {l : List ByteArray} (h : writeP ms ds x = some l) : parseP ms ds (lineW (joinB blankB l)) = (bareP x, 0, 0) := by
  rw [line_join (write_good hok hn h)]
  exact parse_write hok hn h
end
end Go.Proofs.YtpehinmckppjoaaGreatDoor
