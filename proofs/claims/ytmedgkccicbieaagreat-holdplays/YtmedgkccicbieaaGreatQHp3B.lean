/- moietyref13: Has, Drop. · moietyref13: Add. · moietyref13: Within. · moietyref13: Region. · region.All tells a row of its own; acts that came in, as the frame reads them. · HoldPlays: the program's holds and the definition's list, side by side. · HoldPlays: what both sides answer, and that it is the same. -/
import Derived.Test.YtmedgkccicbieaaGreatQCoLwB
import Derived.Test.YtmedgkccicbieaaGreatQHoldC
import Derived.Deep.RegionHeld3
import Derived.Test.YtmedgkccicbieaaGreatQLaw13K
namespace Go.Proofs.YtmedgkccicbieaaGreat
open Go.RowKit Go.Maps
set_option linter.unusedSimpArgs false
set_option linter.unusedVariables false

theorem cq_box (w : World) (x : Cl) (T : TypeId) {g : Nat} (hg : g = w.heap.size) : Cq (w.alloc (.cells #[.int .i64 x.1, .int .i64 x.2.1, .int .i64 x.2.2.1, .int .i64 x.2.2.2.1, .int .i64 x.2.2.2.2] T)) (some ⟨g, 0, none⟩) [x] :=
  ⟨fun _ => ⟨g, 0, rfl, by rw [hg]; simp, fun i hi t ht u hu => by
    have : i = 0 := by simpa using hi
    subst this
    rw [show 0 + 0 * 5 + t = t by omega]
    exact new_cell _ _ _ _ t _ hg (by simpa [clF, clA] using hu)⟩⟩
set_option maxHeartbeats 2000000 in
set_option maxRecDepth 100000 in
theorem ref13_Has (a : Option Addr) (c : Nat) (l : List Cl) (x : Cl) (w : World) (hs : Cq w a l) (hl : l.length ≤ 100000) : Calls Tryz.prog 17 #[.slice a l.length c, clV x] w fun e w' => e = .returned (.bool (decide (x ∈ l))) ∧ Kept w w' := by
  obtain ⟨cb, hcb⟩ : ∃ x, x = w.heap.size := ⟨_, rfl⟩
  obtain ⟨W1, hW1⟩ : ∃ V, V = w.alloc (.cells #[.int .i64 x.1, .int .i64 x.2.1, .int .i64 x.2.2.1, .int .i64 x.2.2.2.1, .int .i64 x.2.2.2.2] 29) := ⟨_, rfl⟩
  have k1 : Kept w W1 := by rw [hW1]; exact (Kept.refl w).alloc _
  have HK1 := hidMk k1
  have HB := hidMk (show ∀ Y, Kept W1 Y → _ from fun Y k => boxC_at w x 29 hcb Y (by rw [← hW1]; exact k))
  have HL := hidMk (hs.kept k1)
  obtain ⟨z, hz⟩ : ∃ z, decide (x ∈ l) = z := ⟨_, rfl⟩
  rw [hz]
  have HZ := hidMk hz
  clear hs k1 hz
  unfold clV
  go_enter Tryz.func17, Tryz.ntmps17
  go_wp2_with fail
  rw [← hW1, ← hcb]
  clear hW1 hcb
  go_loopg [5] (l.length + 1) (fun g i wr => ∃ k : Nat, k + g = l.length + 1 ∧ k ≤ l.length ∧ i = .int .i64 k ∧ Hid (Kept W1 wr ∧ ∀ t, t < k → clA l t ≠ x))
  case atStart => exact ⟨0, by omega, by omega, rfl, hidMk ⟨Kept.refl _, fun t ht => absurd ht (by omega)⟩⟩
  case round =>
    obtain ⟨k, hkg, hkl, rfl, HS⟩ := hrel
    have HKG := hidMk hkg
    clear hkg
    by_cases hk : k < l.length
    · have hk' : (k : Int) < (l.length : Int) := by omega
      obtain ⟨b, o, rfl⟩ := HL.out.form (by omega)
      obtain ⟨e0, e1, e2, e3, e4⟩ := (HL.out.kept HS.out.1).at hk
      obtain ⟨x0, x1, x2, x3, x4⟩ := HB.out wr HS.out.1
      have hq := eqlC (clA l k) x
      unfold clV at hq
      by_cases he : clA l k = x
      · have HF := hidMk (show z = true from by rw [← HZ.out]; exact decide_eq_true (by rw [← he, clA_get hk]; exact List.getElem_mem hk))
        rw [show decide (clA l k = x) = true from decide_eq_true he] at hq
        clear he
        generalize clA l k = y at *
        go_wp2_with fail
        go_quiet (fail)
        go_wp2_with fail
        go_ret
        exact ⟨by rw [HF.out]; rfl, HK1.out.trans (HS.out.1.drewN _)⟩
      · have HJ := hidMk (show ∀ t, t < k + 1 → clA l t ≠ x from fun t ht => by
          by_cases e : t = k
          · subst e; exact he
          · exact HS.out.2 t (by omega))
        rw [show decide (clA l k = x) = false from decide_eq_false he] at hq
        clear he
        have HK := hidMk HS.out.1
        clear HS
        generalize clA l k = y at *
        go_wp2_with fail
        go_quiet (fail)
        go_wp2_with fail
        go_roundg (gk - 1)
        case measure => have := HKG.out; omega
        case rel => exact ⟨k + 1, by have := HKG.out; omega, by omega, by go_num, hidMk ⟨HK.out.drewN _, HJ.out⟩⟩
    · have hke : k = l.length := by omega
      have HF := hidMk (show z = false from by
        rw [← HZ.out]
        exact decide_eq_false (fun hx => by
          obtain ⟨i, hi, e⟩ := List.getElem_of_mem hx
          exact HS.out.2 i (by omega) (by rw [clA_get hi]; exact e)))
      have hk' : ¬ ((k : Int) < (l.length : Int)) := by omega
      go_wp2_with fail
      go_ret
      exact ⟨by rw [HF.out]; rfl, HK1.out.trans HS.out.1⟩
theorem ix_neg {ds : List Dm} {ms : List ByteArray} (h : Ct ds ms) {x : Cl} : ixC ms ds x < 0 ↔ rightB ms ds x.1 (clT x) = false := by
  by_cases hr : rightB ms ds x.1 (clT x) = true
  · have h0 := num_nonneg (f := fun k => (many ds k : Int)) (a := clT x) (right_iff.1 hr).1.1 (fun k => by have := clT_at h hr k; show (0 : Int) ≤ (many ds k : Int); omega) (fun k => (clT_at h hr k).1) 4
    unfold ixC
    rw [if_pos hr, hr]
    constructor
    · intro q; omega
    · intro q; cases q
  · have hf : rightB ms ds x.1 (clT x) = false := by cases hb : rightB ms ds x.1 (clT x) with | false => rfl | true => exact absurd hb hr
    unfold ixC
    rw [if_neg hr]
    exact ⟨fun _ => hf, fun _ => by omega⟩
/-- All but one. -/
def cutC (l : List Cl) (x : Cl) : List Cl := l.filter fun y => !decide (y = x)
theorem cutC_take {l : List Cl} {x : Cl} {k : Nat} (hk : k < l.length) : cutC (l.take (k + 1)) x = if clA l k = x then cutC (l.take k) x else cutC (l.take k) x ++ [clA l k] := by
  unfold cutC
  rw [List.take_add_one, List.getElem?_eq_getElem hk, List.filter_append, clA_get hk]
  by_cases h : l[k] = x
  · rw [if_pos h]; simp [h]
  · rw [if_neg h]; simp [h]
theorem cutC_len (l : List Cl) (x : Cl) : (cutC l x).length ≤ l.length := List.length_filter_le _ _
theorem OwnQ.kept {w w' : World} {B : Nat} {v : Value} {l : List Cl} (h : OwnQ w B v l) (k : Kept w w') : OwnQ w' B v l := ownsRow_kept h k
theorem OwnQ.lt {w : World} {B : Nat} {v : Value} {l : List Cl} (h : OwnQ w B v l) : ∀ g, v.ownBlock = some g → B ≤ g ∧ g < w.heap.size := World.ownsRow.lt h
section
variable {W0 X : World} {r q : Nat} {ds : List Dm} {ms : List ByteArray} {rt : Nat → Nat} {y4 y5 : Value} {pp : Option (Nat × Nat)}
/-- What the definition's Drop tells, by its error D. -/
def RDrop (X : World) (l : List Cl) (x : Cl) (D : Int) (e : Ending) (w' : World) : Prop :=
  ∃ v : Value, e = .returned (.tuple #[v, .int .i64 D]) ∧ (D = 0 → OwnQ w' X.heap.size v (cutC l x)) ∧ (¬ D = 0 → v = .slice none 0 0) ∧ Kept X w'
theorem OwnQ.base {w : World} {B B' : Nat} {v : Value} {l : List Cl} (h : OwnQ w B v l) (hB : B' ≤ B) : OwnQ w B' v l := by
  obtain ⟨h0, h1 | ⟨g, cap, cur, hv, hb, r⟩⟩ := h
  · exact ⟨h0, .inl h1⟩
  · exact ⟨h0, .inr ⟨g, cap, cur, hv, Nat.le_trans hB hb, r⟩⟩
set_option maxHeartbeats 8000000 in
set_option maxRecDepth 100000 in
theorem ref13_Drop (hE : RE W0 r q ds ms rt) (h : RQ W0 r q ds y4 y5 pp X) (a : Option Addr) (c : Nat) (l : List Cl) (x : Cl) (hs : Cq X a l) (hl : l.length ≤ 1000) :
    Calls Tryz.prog 11 #[.pointer (some ⟨r, 0, none⟩), .slice a l.length c, clV x] X (RDrop X l x (dropE ms ds l x)) := by
  obtain ⟨cb, hcb⟩ : ∃ x, x = X.heap.size := ⟨_, rfl⟩
  obtain ⟨W1, hW1⟩ : ∃ V, V = X.alloc (.cells #[.int .i64 x.1, .int .i64 x.2.1, .int .i64 x.2.2.1, .int .i64 x.2.2.2.1, .int .i64 x.2.2.2.2] 29) := ⟨_, rfl⟩
  have k1 : Kept X W1 := by rw [hW1]; exact (Kept.refl X).alloc _
  have hs1 : W1.heap.size = X.heap.size + 1 := by rw [hW1]; simp
  have HK1 := hidMk k1
  have HB := hidMk (show ∀ Y, Kept W1 Y → _ from fun Y k => boxC_at X x 29 hcb Y (by rw [← hW1]; exact k))
  have HL := hidMk (hs.kept k1)
  have y0 := k1.cellp h.c0
  have hrl : r < W1.heap.size := cell_lt y0
  obtain ⟨b0, b1, b2, b3, b4⟩ := HB.out W1 (Kept.refl _)
  have hcl : cb < W1.heap.size := cell_lt b0
  have HRT := hidMk (show ∀ Y, Kept W1 Y → Calls Tryz.prog 50 #[.pointer (some ⟨q, 0, none⟩), clV x] Y fun e w' => e = .returned (.bool (rightB ms ds x.1 (clT x))) ∧ Kept Y w' from fun Y k => by rw [clV_at]; exact ref6_Right (hE.rd.kept (h.kp.trans (k1.trans k))) hE.ct.d4 x.1 (clT x))
  have HHS := hidMk (show ∀ Y, Kept W1 Y → _ from fun Y k => ref13_Has a c l x Y (hs.kept (k1.trans k)) (by omega))
  obtain ⟨R, hR⟩ : ∃ R, rightB ms ds x.1 (clT x) = R := ⟨_, rfl⟩
  rw [hR] at HRT
  have HIX := hidMk (show ixC ms ds x < 0 ↔ R = false from by rw [← hR]; exact ix_neg hE.ct)
  have HE17 := hidMk (show R = false → dropE ms ds l x = 17 from fun e => if_pos (HIX.out.2 e))
  have HE10 := hidMk (show R = true → ¬ x ∈ l → dropE ms ds l x = 10 from fun e e2 => by unfold dropE; rw [if_neg (fun q => by have := HIX.out.1 q; rw [e] at this; cases this), if_neg e2])
  have HE0 := hidMk (show R = true → x ∈ l → dropE ms ds l x = 0 from fun e e2 => by unfold dropE; rw [if_neg (fun q => by have := HIX.out.1 q; rw [e] at this; cases this), if_pos e2])
  obtain ⟨D, hD⟩ : ∃ D, dropE ms ds l x = D := ⟨_, rfl⟩
  rw [hD] at HE17 HE10 HE0 ⊢
  clear h hs k1 hR hD
  unfold clV at HRT HHS ⊢
  go_enter Tryz.func11, Tryz.ntmps11
  go_wp2_with fail
  rw [← hW1, ← hcb]
  clear hW1 hcb
  go_region_held3 (fun w' => w'.cell? ⟨r, 0, none⟩ = some (.pointer (some ⟨q, 0, none⟩)) ∧ w'.cell? ⟨cb, 0, none⟩ = some (.int .i64 x.1) ∧ w'.cell? ⟨cb, 1, none⟩ = some (.int .i64 x.2.1) ∧ w'.cell? ⟨cb, 2, none⟩ = some (.int .i64 x.2.2.1) ∧ w'.cell? ⟨cb, 3, none⟩ = some (.int .i64 x.2.2.2.1) ∧ w'.cell? ⟨cb, 4, none⟩ = some (.int .i64 x.2.2.2.2))
    (first | assumption | (refine ⟨Kept.cellp ?_ y0, Kept.cellp ?_ b0, Kept.cellp ?_ b1, Kept.cellp ?_ b2, Kept.cellp ?_ b3, Kept.cellp ?_ b4⟩ <;> ((repeat (first | (with_reducible exact Kept.refl _) | (with_reducible refine Kept.alloc ?_ _) | (with_reducible refine Kept.drew ?_) | (with_reducible refine Kept.drewN ?_ _) | (with_reducible refine Kept.trans ?_ (by assumption)))); done)))
    ((go_at_call 50; refine (HRT.out _ (by (repeat (first | (with_reducible exact Kept.refl _) | (with_reducible refine Kept.alloc ?_ _) | (with_reducible refine Kept.drew ?_) | (with_reducible refine Kept.drewN ?_ _) | (with_reducible refine Kept.trans ?_ (by assumption)))))).mono ?_; rintro e w2 ⟨rfl, k2⟩; have HK2 := hidMk (show Kept W1 w2 from by (repeat (first | (with_reducible exact Kept.refl _) | (with_reducible refine Kept.alloc ?_ _) | (with_reducible refine Kept.drew ?_) | (with_reducible refine Kept.drewN ?_ _) | (with_reducible refine Kept.trans ?_ (by assumption)))))))
  cases R with
  | false =>
    have hD := HE17.out rfl
    subst hD
    go_wp2_with fail
    go_ret2
    exact ⟨_, rfl, fun e => absurd e (by decide), fun _ => rfl, HK1.out.trans HK2.out⟩
  | true =>
    obtain ⟨e0, e1, e2, e3, e4⟩ := HB.out _ HK2.out
    by_cases hx : x ∈ l
    · have hD := HE0.out rfl hx
      subst hD
      have HH2 := hidMk (HHS.out _ HK2.out)
      rw [decide_eq_true hx] at HH2
      clear hx
      go_wp2_with fail
      refine HH2.out.mono ?_
      rintro e w3 ⟨rfl, k3⟩
      have HK3 := hidMk (HK2.out.trans k3)
      clear k3 e0 e1 e2 e3 e4 y0 b0 b1 b2 b3 b4 k2
      go_wp2_with fail
      go_loopg [8, 9] l.length (fun g v i wr => ∃ k : Nat, k + g = l.length ∧ i = .int .i64 k ∧ Hid (OwnQ wr W1.heap.size v (cutC (l.take k) x) ∧ Kept W1 wr))
      case atStart => exact ⟨0, by omega, rfl, hidMk ⟨by simpa [cutC] using ownQ_nil _ _, HK3.out⟩⟩
      case round =>
        obtain ⟨k, hkg, rfl, HS⟩ := hrel
        have HKG := hidMk hkg
        by_cases hk : k < l.length
        · have hk' : (k : Int) < (l.length : Int) := by omega
          obtain ⟨b, o, rfl⟩ := HL.out.form (by omega)
          obtain ⟨e0, e1, e2, e3, e4⟩ := (HL.out.kept HS.out.2).at hk
          obtain ⟨x0, x1, x2, x3, x4⟩ := HB.out wr HS.out.2
          have hq := neqC (clA l k) x
          have HT := hidMk (cutC_take (x := x) hk)
          unfold clV at hq
          clear hkg
          by_cases he : clA l k = x
          · rw [show decide (clA l k = x) = true from decide_eq_true he, Bool.not_true] at hq
            rw [if_pos he] at HT
            clear he
            have HK := hidMk HS.out
            clear HS
            generalize clA l k = y at *
            go_wp2_with fail
            go_quiet (fail)
            go_wp2_with fail
            go_roundg (gk - 1)
            case measure => have := HKG.out; omega
            case rel => exact ⟨k + 1, by have := HKG.out; omega, by go_num, hidMk ⟨by rw [HT.out]; exact HK.out.1.kept ((Kept.refl _).drewN _), HK.out.2.drewN _⟩⟩
          · rw [show decide (clA l k = x) = false from decide_eq_false he, Bool.not_false] at hq
            rw [if_neg he] at HT
            clear he
            have HK := hidMk HS.out
            have hlen := cutC_len (l.take k) x
            have hlk : (cutC (l.take k) x).length ≤ 1000 := by rw [List.length_take] at hlen; omega
            have hwr : W1.heap.size ≤ wr.heap.size := HK.out.2.size
            clear HS hlen
            generalize clA l k = y at *
            generalize cutC (l.take k) x = acc at *
            go_wp2_with fail
            go_quiet (fail)
            go_wp2_with (at_builtin; refine wpList_catC _ rfl _ _ rfl W1.heap.size _ acc [y] rfl (HK.out.1.kept (((Kept.refl wr).drewN _).alloc _)) (by simp; omega) (some ⟨wr.heap.size, 0, none⟩) 1 rfl (cq_box (wr.drewN _) y _ rfl) (fun e => (by cases e)) (by simp; omega) ?_)
            intro v5 w5 o5 k5
            have HO5 := hidMk o5
            have HK5 := hidMk (show Kept W1 w5 from k5.kept ((HK.out.2.drewN _).alloc _) (fun j hj => (HK.out.1.lt j hj).1))
            clear o5 k5
            go_wp2_with fail
            go_roundg (gk - 1)
            case measure => have := HKG.out; omega
            case rel => exact ⟨k + 1, by have := HKG.out; omega, by go_num, hidMk ⟨by rw [HT.out, hs1]; exact HO5.out, HK5.out⟩⟩
        · have hk' : ¬ ((k : Int) < (l.length : Int)) := by omega
          rw [List.take_of_length_le (by omega)] at HS
          go_wp2_with fail
          go_ret2
          exact ⟨_, rfl, fun _ => HS.out.1.base (by omega), fun e => absurd rfl e, HK1.out.trans HS.out.2⟩
    · have hD := HE10.out rfl hx
      subst hD
      have HH2 := hidMk (HHS.out _ HK2.out)
      rw [decide_eq_false hx] at HH2
      clear hx
      go_wp2_with fail
      refine HH2.out.mono ?_
      rintro e w3 ⟨rfl, k3⟩
      have HK3 := hidMk (HK2.out.trans k3)
      clear k3 e0 e1 e2 e3 e4 y0 b0 b1 b2 b3 b4 k2
      go_wp2_with fail
      go_ret2
      exact ⟨_, rfl, fun e => absurd e (by decide), fun _ => rfl, HK1.out.trans HK3.out⟩
end
end Go.Proofs.YtmedgkccicbieaaGreat
namespace Go.Proofs.YtmedgkccicbieaaGreat
open Go.RowKit Go.Maps
set_option linter.unusedSimpArgs false
set_option linter.unusedVariables false

/-- What is there of the list behind k places: not yet put in, or put in at i. -/
def InsK (f : Cl → Int) (l : List Cl) (x : Cl) (k : Nat) (b : Bool) (o : List Cl) : Prop :=
  (b = false ∧ (∀ t, t < k → ¬ f x < f (clA l t)) ∧ o = l.take k) ∨ (b = true ∧ ∃ i, i < k ∧ (∀ t, t < i → ¬ f x < f (clA l t)) ∧ f x < f (clA l i) ∧ o = l.take i ++ x :: (l.take k).drop i)
theorem insK_len {f : Cl → Int} {l : List Cl} {x : Cl} {k : Nat} {b : Bool} {o : List Cl} (h : InsK f l x k b o) (hk : k ≤ l.length) : o.length ≤ k + 1 := by
  rcases h with ⟨_, _, rfl⟩ | ⟨_, i, hi, _, _, rfl⟩
  · simp; omega
  · simp; omega
theorem take_next {l : List Cl} {k : Nat} (hk : k < l.length) : l.take (k + 1) = l.take k ++ [clA l k] := by
  rw [List.take_add_one, List.getElem?_eq_getElem hk, clA_get hk]; rfl
theorem insK_no {f : Cl → Int} {l : List Cl} {x : Cl} {k : Nat} {o : List Cl} (h : InsK f l x k false o) (hk : k < l.length) (hn : ¬ f x < f (clA l k)) : InsK f l x (k + 1) false (o ++ [clA l k]) := by
  rcases h with ⟨_, h1, rfl⟩ | ⟨e, _⟩
  · refine .inl ⟨rfl, fun t ht => ?_, (take_next hk).symm⟩
    by_cases e : t = k
    · subst e; exact hn
    · exact h1 t (by omega)
  · cases e
theorem insK_yes {f : Cl → Int} {l : List Cl} {x : Cl} {k : Nat} {o : List Cl} (h : InsK f l x k false o) (hk : k < l.length) (hn : f x < f (clA l k)) : InsK f l x (k + 1) true (o ++ [x] ++ [clA l k]) := by
  rcases h with ⟨_, h1, rfl⟩ | ⟨e, _⟩
  · refine .inr ⟨rfl, k, by omega, h1, hn, ?_⟩
    rw [take_next hk, List.drop_append_of_le_length (by simp; omega), List.drop_of_length_le (by simp; omega)]
    simp
  · cases e
theorem insK_go {f : Cl → Int} {l : List Cl} {x : Cl} {k : Nat} {o : List Cl} (h : InsK f l x k true o) (hk : k < l.length) : InsK f l x (k + 1) true (o ++ [clA l k]) := by
  rcases h with ⟨e, _⟩ | ⟨_, i, hi, h1, h2, rfl⟩
  · cases e
  · refine .inr ⟨rfl, i, by omega, h1, h2, ?_⟩
    rw [take_next hk, List.drop_append_of_le_length (by simp; omega)]
    simp
theorem insK_end {f : Cl → Int} {l : List Cl} {x : Cl} {b : Bool} {o : List Cl} (hr : RiseC f l) (hne : ∀ y, y ∈ l → f y ≠ f x) (h : InsK f l x l.length b o) : InsC f l x (if b then o else o ++ [x]) := by
  have hm : ∀ t, t < l.length → f (clA l t) ≠ f x := fun t ht => hne _ (by rw [clA_get ht]; exact List.getElem_mem ht)
  rcases h with ⟨rfl, h1, rfl⟩ | ⟨rfl, i, hi, h1, h2, rfl⟩
  · refine ⟨l.length, Nat.le_refl _, fun t ht => ?_, fun t h3 h4 => absurd h4 (by omega), by simp⟩
    have := h1 t ht; have := hm t ht; omega
  · refine ⟨i, by omega, fun t ht => ?_, fun t h3 h4 => ?_, by simp⟩
    · have := h1 t ht; have := hm t (by omega); omega
    · by_cases e : t = i
      · subst e; omega
      · have := hr i t (by omega) h4; omega
section
variable {W0 X : World} {r q : Nat} {ds : List Dm} {ms : List ByteArray} {rt : Nat → Nat} {y4 y5 : Value} {pp : Option (Nat × Nat)}
/-- What the definition's Add tells, by its error D. -/
def RAdd (X : World) (f : Cl → Int) (l : List Cl) (x : Cl) (D : Int) (e : Ending) (w' : World) : Prop :=
  ∃ v : Value, e = .returned (.tuple #[v, .int .i64 D]) ∧ (D = 0 → ∃ b o, InsK f l x l.length b o ∧ OwnQ w' X.heap.size v (if b then o else o ++ [x])) ∧ (¬ D = 0 → v = .slice none 0 0) ∧ Kept X w'
set_option maxHeartbeats 8000000 in
set_option maxRecDepth 100000 in
theorem ref13_Add (hE : RE W0 r q ds ms rt) (h : RQ W0 r q ds y4 y5 pp X) (a : Option Addr) (c : Nat) (l : List Cl) (x : Cl) (hs : Cq X a l) (hl : l.length ≤ 1000) :
    Calls Tryz.prog 13 #[.pointer (some ⟨r, 0, none⟩), .slice a l.length c, clV x] X (RAdd X (ixC ms ds) l x (addE ms ds l x)) := by
  obtain ⟨cb, hcb⟩ : ∃ x, x = X.heap.size := ⟨_, rfl⟩
  obtain ⟨W1, hW1⟩ : ∃ V, V = X.alloc (.cells #[.int .i64 x.1, .int .i64 x.2.1, .int .i64 x.2.2.1, .int .i64 x.2.2.2.1, .int .i64 x.2.2.2.2] 29) := ⟨_, rfl⟩
  have k1 : Kept X W1 := by rw [hW1]; exact (Kept.refl X).alloc _
  have hs1 : W1.heap.size = X.heap.size + 1 := by rw [hW1]; simp
  have HK1 := hidMk k1
  have HB := hidMk (show ∀ Y, Kept W1 Y → _ from fun Y k => boxC_at X x 29 hcb Y (by rw [← hW1]; exact k))
  have HL := hidMk (hs.kept k1)
  have y0 := k1.cellp h.c0
  have hrl : r < W1.heap.size := cell_lt y0
  obtain ⟨b0, b1, b2, b3, b4⟩ := HB.out W1 (Kept.refl _)
  have hcl : cb < W1.heap.size := cell_lt b0
  have HRT := hidMk (show ∀ Y, Kept W1 Y → Calls Tryz.prog 50 #[.pointer (some ⟨q, 0, none⟩), clV x] Y fun e w' => e = .returned (.bool (rightB ms ds x.1 (clT x))) ∧ Kept Y w' from fun Y k => by rw [clV_at]; exact ref6_Right (hE.rd.kept (h.kp.trans (k1.trans k))) hE.ct.d4 x.1 (clT x))
  have HHS := hidMk (show ∀ Y, Kept W1 Y → _ from fun Y k => ref13_Has a c l x Y (hs.kept (k1.trans k)) (by omega))
  have HIN := hidMk (show ∀ Y (y : Cl), Kept W1 Y → Calls Tryz.prog 55 #[.pointer (some ⟨r, 0, none⟩), clV y] Y fun e w' => e = .returned (.int .i64 (ixC ms ds y)) ∧ Kept Y w' from fun Y y k => by rw [clV_at]; exact r7_Index hE (h.keep (k1.trans k)) y.1 (clT y))
  obtain ⟨R, hR⟩ : ∃ R, rightB ms ds x.1 (clT x) = R := ⟨_, rfl⟩
  rw [hR] at HRT
  have HIX := hidMk (show ixC ms ds x < 0 ↔ R = false from by rw [← hR]; exact ix_neg hE.ct)
  have HE17 := hidMk (show R = false → addE ms ds l x = 17 from fun e => if_pos (HIX.out.2 e))
  have hpos : R = true → ¬ ixC ms ds x < 0 := fun e q => by have := HIX.out.1 q; rw [e] at this; cases this
  have HE4 := hidMk (show R = true → x ∈ l → addE ms ds l x = 4 from fun e e2 => by unfold addE; rw [if_neg (hpos e), if_pos e2])
  have HE14 := hidMk (show R = true → ¬ x ∈ l → 16 ≤ l.length → addE ms ds l x = 14 from fun e e2 e3 => by unfold addE; rw [if_neg (hpos e), if_neg e2, if_pos e3])
  have HE0 := hidMk (show R = true → ¬ x ∈ l → ¬ 16 ≤ l.length → addE ms ds l x = 0 from fun e e2 e3 => by unfold addE; rw [if_neg (hpos e), if_neg e2, if_neg e3])
  obtain ⟨D, hD⟩ : ∃ D, addE ms ds l x = D := ⟨_, rfl⟩
  rw [hD] at HE17 HE4 HE14 HE0 ⊢
  obtain ⟨f, hf⟩ : ∃ f, f = ixC ms ds := ⟨_, rfl⟩
  rw [← hf] at HIN ⊢
  have HS1 := hidMk hs1
  clear h hs k1 hR hD hpos hf hs1
  unfold clV at HRT HHS HIN ⊢
  go_enter Tryz.func13, Tryz.ntmps13
  go_wp2_with fail
  rw [← hW1, ← hcb]
  clear hW1 hcb
  go_region_held3 (fun w' => w'.cell? ⟨r, 0, none⟩ = some (.pointer (some ⟨q, 0, none⟩)) ∧ w'.cell? ⟨cb, 0, none⟩ = some (.int .i64 x.1) ∧ w'.cell? ⟨cb, 1, none⟩ = some (.int .i64 x.2.1) ∧ w'.cell? ⟨cb, 2, none⟩ = some (.int .i64 x.2.2.1) ∧ w'.cell? ⟨cb, 3, none⟩ = some (.int .i64 x.2.2.2.1) ∧ w'.cell? ⟨cb, 4, none⟩ = some (.int .i64 x.2.2.2.2))
    (first | assumption | (refine ⟨Kept.cellp ?_ y0, Kept.cellp ?_ b0, Kept.cellp ?_ b1, Kept.cellp ?_ b2, Kept.cellp ?_ b3, Kept.cellp ?_ b4⟩ <;> ((repeat (first | (with_reducible exact Kept.refl _) | (with_reducible refine Kept.alloc ?_ _) | (with_reducible refine Kept.drew ?_) | (with_reducible refine Kept.drewN ?_ _) | (with_reducible refine Kept.trans ?_ (by assumption)))); done)))
    ((go_at_call 50; refine (HRT.out _ (by (repeat (first | (with_reducible exact Kept.refl _) | (with_reducible refine Kept.alloc ?_ _) | (with_reducible refine Kept.drew ?_) | (with_reducible refine Kept.drewN ?_ _) | (with_reducible refine Kept.trans ?_ (by assumption)))))).mono ?_; rintro e w2 ⟨rfl, k2⟩; have HK2 := hidMk (show Kept W1 w2 from by (repeat (first | (with_reducible exact Kept.refl _) | (with_reducible refine Kept.alloc ?_ _) | (with_reducible refine Kept.drew ?_) | (with_reducible refine Kept.drewN ?_ _) | (with_reducible refine Kept.trans ?_ (by assumption)))))))
  cases R with
  | false =>
    have hD := HE17.out rfl
    subst hD
    go_wp2_with fail
    go_ret2
    exact ⟨_, rfl, fun e => absurd e (by decide), fun _ => rfl, HK1.out.trans HK2.out⟩
  | true =>
    obtain ⟨e0, e1, e2, e3, e4⟩ := HB.out _ HK2.out
    by_cases hx : x ∈ l
    · have hD := HE4.out rfl hx
      subst hD
      have HH2 := hidMk (HHS.out _ HK2.out)
      rw [decide_eq_true hx] at HH2
      clear hx
      go_wp2_with fail
      refine HH2.out.mono ?_
      rintro e w3 ⟨rfl, k3⟩
      have HK3 := hidMk (HK2.out.trans k3)
      clear k3 e0 e1 e2 e3 e4 y0 b0 b1 b2 b3 b4 k2
      go_wp2_with fail
      go_ret2
      exact ⟨_, rfl, fun e => absurd e (by decide), fun _ => rfl, HK1.out.trans HK3.out⟩
    have HH2 := hidMk (HHS.out _ HK2.out)
    rw [decide_eq_false hx] at HH2
    by_cases h16 : 16 ≤ l.length
    · have hD := HE14.out rfl hx h16
      subst hD
      have h16' : (16 : Int) ≤ (l.length : Int) := by omega
      clear hx
      go_wp2_with fail
      refine HH2.out.mono ?_
      rintro e w3 ⟨rfl, k3⟩
      have HK3 := hidMk (HK2.out.trans k3)
      clear k3 e0 e1 e2 e3 e4 y0 b0 b1 b2 b3 b4 k2
      go_wp2_with fail
      go_ret2
      exact ⟨_, rfl, fun e => absurd e (by decide), fun _ => rfl, HK1.out.trans HK3.out⟩
    have hD := HE0.out rfl hx h16
    subst hD
    have h16' : ¬ ((16 : Int) ≤ (l.length : Int)) := by omega
    clear hx
    go_wp2_with fail
    refine HH2.out.mono ?_
    rintro e w3 ⟨rfl, k3⟩
    have HK3 := hidMk (HK2.out.trans k3)
    clear k3 e0 e1 e2 e3 e4 y0 b0 b1 b2 b3 b4 k2
    go_wp2_with fail
    go_loopg [8, 9, 10] l.length (fun g v bv i wr => ∃ (k : Nat) (b : Bool) (o : List Cl), k + g = l.length ∧ i = .int .i64 k ∧ bv = .bool b ∧ Hid (InsK f l x k b o ∧ OwnQ wr W1.heap.size v o ∧ Kept W1 wr))
    case atStart => exact ⟨0, false, [], by omega, rfl, rfl, hidMk ⟨.inl ⟨rfl, fun t ht => absurd ht (by omega), by simp⟩, ownQ_nil _ _, HK3.out⟩⟩
    case round =>
      obtain ⟨k, bq, acc, hkg, rfl, rfl, HS⟩ := hrel
      have HKG := hidMk hkg
      have hwr : W1.heap.size ≤ wr.heap.size := HS.out.2.2.size
      by_cases hk : k < l.length
      · have hk' : (k : Int) < (l.length : Int) := by omega
        have hal := insK_len HS.out.1 (by omega)
        obtain ⟨b, o, rfl⟩ := HL.out.form (by omega)
        obtain ⟨e0, e1, e2, e3, e4⟩ := (HL.out.kept HS.out.2.2).at hk
        obtain ⟨x0, x1, x2, x3, x4⟩ := HB.out wr HS.out.2.2
        have HN2 := hidMk (show ∀ Y, Kept wr Y → _ from fun Y hy => HIN.out Y x (HS.out.2.2.trans hy))
        have HNK := hidMk (show ∀ Y, Kept wr Y → _ from fun Y hy => HIN.out Y (clA l k) (HS.out.2.2.trans hy))
        clear hkg
        cases bq with
        | true =>
          have HG := hidMk (insK_go HS.out.1 hk)
          have HO := hidMk HS.out.2.1
          have HK := hidMk HS.out.2.2
          clear HS HN2 HNK
          generalize clA l k = y at *
          go_wp2_with fail
          go_quiet (fail)
          go_wp2_with (at_builtin; refine wpList_catC _ rfl _ _ rfl W1.heap.size _ acc [y] rfl (HO.out.kept (((Kept.refl wr).drewN _).alloc _)) (by simp; omega) (some ⟨wr.heap.size, 0, none⟩) 1 rfl (cq_box (wr.drewN _) y _ rfl) (fun e => (by cases e)) (by simp; omega) ?_)
          intro v5 w5 o5 k5
          have HO5 := hidMk o5
          have HK5 := hidMk (show Kept W1 w5 from k5.kept ((HK.out.drewN _).alloc _) (fun j hj => (HO.out.lt j hj).1))
          clear o5 k5
          go_wp2_with fail
          go_roundg (gk - 1)
          case measure => have := HKG.out; omega
          case rel => exact ⟨k + 1, true, acc ++ [y], by have := HKG.out; omega, by go_num, rfl, hidMk ⟨HG.out, HO5.out, HK5.out⟩⟩
        | false =>
          have HO := hidMk HS.out.2.1
          have HK := hidMk HS.out.2.2
          have HI := hidMk HS.out.1
          obtain ⟨y, hy⟩ : ∃ y, clA l k = y := ⟨_, rfl⟩
          rw [hy] at e0 e1 e2 e3 e4 HNK
          have HY := hidMk hy
          clear HS
          obtain ⟨fx, hfx⟩ : ∃ z, f x = z := ⟨_, rfl⟩
          obtain ⟨fy, hfy⟩ : ∃ z, f y = z := ⟨_, rfl⟩
          rw [hfx] at HN2
          rw [hfy] at HNK
          by_cases hlt : fx < fy
          · have HG := hidMk (insK_yes HI.out hk (by rw [hy, hfx, hfy]; exact hlt))
            rw [hy] at HG
            clear hy hfx hfy
            go_wp2_with fail
            go_region_held3 (fun w' => w'.cell? ⟨cb, 0, none⟩ = some (.int .i64 x.1) ∧ w'.cell? ⟨cb, 1, none⟩ = some (.int .i64 x.2.1) ∧ w'.cell? ⟨cb, 2, none⟩ = some (.int .i64 x.2.2.1) ∧ w'.cell? ⟨cb, 3, none⟩ = some (.int .i64 x.2.2.2.1) ∧ w'.cell? ⟨cb, 4, none⟩ = some (.int .i64 x.2.2.2.2) ∧ w'.cell? ⟨b, o + k * 5, none⟩ = some (.int .i64 y.1) ∧ w'.cell? ⟨b, o + k * 5 + 1, none⟩ = some (.int .i64 y.2.1) ∧ w'.cell? ⟨b, o + k * 5 + 2, none⟩ = some (.int .i64 y.2.2.1) ∧ w'.cell? ⟨b, o + k * 5 + 3, none⟩ = some (.int .i64 y.2.2.2.1) ∧ w'.cell? ⟨b, o + k * 5 + 4, none⟩ = some (.int .i64 y.2.2.2.2))
              (first | assumption | (refine ⟨Kept.cellp ?_ x0, Kept.cellp ?_ x1, Kept.cellp ?_ x2, Kept.cellp ?_ x3, Kept.cellp ?_ x4, Kept.cellp ?_ e0, Kept.cellp ?_ e1, Kept.cellp ?_ e2, Kept.cellp ?_ e3, Kept.cellp ?_ e4⟩ <;> ((repeat (first | (with_reducible exact Kept.refl _) | (with_reducible refine Kept.alloc ?_ _) | (with_reducible refine Kept.drew ?_) | (with_reducible refine Kept.drewN ?_ _) | (with_reducible refine Kept.trans ?_ (by assumption)))); done)))
              (first | (go_at_call 55; (with_reducible refine (HN2.out _ (by (repeat (first | (with_reducible exact Kept.refl _) | (with_reducible refine Kept.alloc ?_ _) | (with_reducible refine Kept.drew ?_) | (with_reducible refine Kept.drewN ?_ _) | (with_reducible refine Kept.trans ?_ (by assumption)))))).mono ?_); rintro e w4 ⟨rfl, k4⟩) | (go_at_call 55; (with_reducible refine (HNK.out _ (by (repeat (first | (with_reducible exact Kept.refl _) | (with_reducible refine Kept.alloc ?_ _) | (with_reducible refine Kept.drew ?_) | (with_reducible refine Kept.drewN ?_ _) | (with_reducible refine Kept.trans ?_ (by assumption)))))).mono ?_); rintro e w6 ⟨rfl, k6⟩; have HK6 := hidMk (show Kept wr w6 from by (repeat (first | (with_reducible exact Kept.refl _) | (with_reducible refine Kept.alloc ?_ _) | (with_reducible refine Kept.drew ?_) | (with_reducible refine Kept.drewN ?_ _) | (with_reducible refine Kept.trans ?_ (by assumption)))))))
            all_goals
              clear x0 x1 x2 x3 x4 e0 e1 e2 e3 e4
              obtain ⟨x0, x1, x2, x3, x4⟩ := HB.out w6 (HK.out.trans HK6.out)
              have hw6 : W1.heap.size ≤ w6.heap.size := (HK.out.trans HK6.out).size
              go_wp2_with (at_builtin; refine wpList_catC _ rfl _ _ rfl W1.heap.size _ acc [x] rfl ((HO.out.kept HK6.out).kept ((Kept.refl w6).alloc _)) (by simp; omega) (some ⟨w6.heap.size, 0, none⟩) 1 rfl (cq_box (w6) x _ rfl) (fun e => (by cases e)) (by simp; omega) ?_)
              intro v7 w7 o5 k5
              have HO7 := hidMk o5
              have HK7 := hidMk (show Kept W1 w7 from k5.kept ((HK.out.trans HK6.out).alloc _) (fun j hj => ((HO.out.kept HK6.out).lt j hj).1))
              clear o5 k5
              obtain ⟨e0, e1, e2, e3, e4⟩ := (HL.out.kept HK7.out).at hk
              rw [HY.out] at e0 e1 e2 e3 e4
              have hw7 : W1.heap.size ≤ w7.heap.size := HK7.out.size
              go_wp2_with (at_builtin; refine wpList_catC _ rfl _ _ rfl W1.heap.size _ (acc ++ [x]) [y] rfl (HO7.out.kept ((Kept.refl w7).alloc _)) (by simp; omega) (some ⟨w7.heap.size, 0, none⟩) 1 rfl (cq_box (w7) y _ rfl) (fun e => (by cases e)) (by simp; omega) ?_)
              intro v8 w8 o5 k5
              have HO8 := hidMk o5
              have HK8 := hidMk (show Kept W1 w8 from k5.kept ((HK7.out).alloc _) (fun j hj => (HO7.out.lt j hj).1))
              clear o5 k5
              go_wp2_with fail
              go_roundg (gk - 1)
              case measure => have := HKG.out; omega
              case rel => exact ⟨k + 1, true, acc ++ [x] ++ [y], by have := HKG.out; omega, by go_num, rfl, hidMk ⟨HG.out, by rw [List.append_assoc]; exact HO8.out, HK8.out⟩⟩
          · have HG := hidMk (insK_no HI.out hk (by rw [hy, hfx, hfy]; exact hlt))
            rw [hy] at HG
            clear hy hfx hfy
            go_wp2_with fail
            go_region_held3 (fun w' => w'.cell? ⟨cb, 0, none⟩ = some (.int .i64 x.1) ∧ w'.cell? ⟨cb, 1, none⟩ = some (.int .i64 x.2.1) ∧ w'.cell? ⟨cb, 2, none⟩ = some (.int .i64 x.2.2.1) ∧ w'.cell? ⟨cb, 3, none⟩ = some (.int .i64 x.2.2.2.1) ∧ w'.cell? ⟨cb, 4, none⟩ = some (.int .i64 x.2.2.2.2) ∧ w'.cell? ⟨b, o + k * 5, none⟩ = some (.int .i64 y.1) ∧ w'.cell? ⟨b, o + k * 5 + 1, none⟩ = some (.int .i64 y.2.1) ∧ w'.cell? ⟨b, o + k * 5 + 2, none⟩ = some (.int .i64 y.2.2.1) ∧ w'.cell? ⟨b, o + k * 5 + 3, none⟩ = some (.int .i64 y.2.2.2.1) ∧ w'.cell? ⟨b, o + k * 5 + 4, none⟩ = some (.int .i64 y.2.2.2.2))
              (first | assumption | (refine ⟨Kept.cellp ?_ x0, Kept.cellp ?_ x1, Kept.cellp ?_ x2, Kept.cellp ?_ x3, Kept.cellp ?_ x4, Kept.cellp ?_ e0, Kept.cellp ?_ e1, Kept.cellp ?_ e2, Kept.cellp ?_ e3, Kept.cellp ?_ e4⟩ <;> ((repeat (first | (with_reducible exact Kept.refl _) | (with_reducible refine Kept.alloc ?_ _) | (with_reducible refine Kept.drew ?_) | (with_reducible refine Kept.drewN ?_ _) | (with_reducible refine Kept.trans ?_ (by assumption)))); done)))
              (first | (go_at_call 55; (with_reducible refine (HN2.out _ (by (repeat (first | (with_reducible exact Kept.refl _) | (with_reducible refine Kept.alloc ?_ _) | (with_reducible refine Kept.drew ?_) | (with_reducible refine Kept.drewN ?_ _) | (with_reducible refine Kept.trans ?_ (by assumption)))))).mono ?_); rintro e w4 ⟨rfl, k4⟩) | (go_at_call 55; (with_reducible refine (HNK.out _ (by (repeat (first | (with_reducible exact Kept.refl _) | (with_reducible refine Kept.alloc ?_ _) | (with_reducible refine Kept.drew ?_) | (with_reducible refine Kept.drewN ?_ _) | (with_reducible refine Kept.trans ?_ (by assumption)))))).mono ?_); rintro e w6 ⟨rfl, k6⟩; have HK6 := hidMk (show Kept wr w6 from by (repeat (first | (with_reducible exact Kept.refl _) | (with_reducible refine Kept.alloc ?_ _) | (with_reducible refine Kept.drew ?_) | (with_reducible refine Kept.drewN ?_ _) | (with_reducible refine Kept.trans ?_ (by assumption)))))))
            all_goals
              clear x0 x1 x2 x3 x4 e0 e1 e2 e3 e4
              obtain ⟨e0, e1, e2, e3, e4⟩ := (HL.out.kept (HK.out.trans HK6.out)).at hk
              rw [HY.out] at e0 e1 e2 e3 e4
              have hw6 : W1.heap.size ≤ w6.heap.size := (HK.out.trans HK6.out).size
              go_wp2_with (at_builtin; refine wpList_catC _ rfl _ _ rfl W1.heap.size _ acc [y] rfl ((HO.out.kept HK6.out).kept ((Kept.refl w6).alloc _)) (by simp; omega) (some ⟨w6.heap.size, 0, none⟩) 1 rfl (cq_box (w6) y _ rfl) (fun e => (by cases e)) (by simp; omega) ?_)
              intro v7 w7 o5 k5
              have HO7 := hidMk o5
              have HK7 := hidMk (show Kept W1 w7 from k5.kept ((HK.out.trans HK6.out).alloc _) (fun j hj => ((HO.out.kept HK6.out).lt j hj).1))
              clear o5 k5
              go_wp2_with fail
              go_roundg (gk - 1)
              case measure => have := HKG.out; omega
              case rel => exact ⟨k + 1, false, acc ++ [y], by have := HKG.out; omega, by go_num, rfl, hidMk ⟨HG.out, HO7.out, HK7.out⟩⟩
      · have hk' : ¬ ((k : Int) < (l.length : Int)) := by omega
        obtain rfl : k = l.length := by omega
        have HI := hidMk HS.out.1
        have HO := hidMk HS.out.2.1
        have HK := hidMk HS.out.2.2
        have hal := insK_len HS.out.1 (by omega)
        cases bq with
        | true =>
          clear HS
          go_wp2_with fail
          go_ret2
          exact ⟨_, rfl, fun _ => ⟨true, acc, HI.out, HO.out.base (by have := HS1.out; omega)⟩, fun e => absurd rfl e, HK1.out.trans HK.out⟩
        | false =>
          obtain ⟨x0, x1, x2, x3, x4⟩ := HB.out wr HK.out
          clear HS
          go_wp2_with (at_builtin; refine wpList_catC _ rfl _ _ rfl W1.heap.size _ acc [x] rfl (HO.out.kept ((Kept.refl wr).alloc _)) (by simp; omega) (some ⟨wr.heap.size, 0, none⟩) 1 rfl (cq_box (wr) x _ rfl) (fun e => (by cases e)) (by simp; omega) ?_)
          intro v7 w7 o5 k5
          have HO7 := hidMk o5
          have HK7 := hidMk (show Kept W1 w7 from k5.kept ((HK.out).alloc _) (fun j hj => (HO.out.lt j hj).1))
          clear o5 k5
          go_wp2_with fail
          go_ret2
          exact ⟨_, rfl, fun _ => ⟨false, acc, HI.out, HO7.out.base (by have := HS1.out; omega)⟩, fun e => absurd rfl e, HK1.out.trans HK7.out⟩
end
end Go.Proofs.YtmedgkccicbieaaGreat
namespace Go.Proofs.YtmedgkccicbieaaGreat
open Go.RowKit Go.Maps
set_option linter.unusedSimpArgs false
set_option linter.unusedVariables false

theorem any_take {l : List Cl} {g : Cl → Bool} (h : ∀ t, t < l.length → g (clA l t) = false) : l.any g = false := by
  rw [List.any_eq_false]
  intro y hy
  obtain ⟨i, hi, rfl⟩ := List.getElem_of_mem hy
  have := h i hi
  rw [clA_get hi] at this
  simp [this]
theorem any_hit {l : List Cl} {g : Cl → Bool} {k : Nat} (hk : k < l.length) (h : g (clA l k) = true) : l.any g = true := by
  rw [List.any_eq_true]
  exact ⟨clA l k, by rw [clA_get hk]; exact List.getElem_mem hk, h⟩
open Classical in
theorem wi_iffQ {ms : List ByteArray} {ds : List Dm} {x y : Cl} : wiC ms ds x y = true ↔ inC ms ds x.1 (clT x) y.1 (clT y) := by
  unfold wiC
  exact decide_eq_true_iff
section
variable {W0 X : World} {r q : Nat} {ds : List Dm} {ms : List ByteArray} {rt : Nat → Nat} {y4 y5 : Value} {pp : Option (Nat × Nat)}
theorem RR.trans {Y Z : World} {p1 : Option (Nat × Nat)} (h1 : RQ W0 r q ds y4 y5 p1 Y) (n1 : Nx pp p1 X.heap.size) (c1 : Chg (fun j => j = r) X Y) (h2 : RR W0 r q ds y4 y5 p1 Y Z) : RR W0 r q ds y4 y5 pp X Z := by
  obtain ⟨⟨p2, h3, n2⟩, c2⟩ := h2
  exact ⟨⟨p2, h3, n1.trans n2 c1.size⟩, c1.trans c2⟩
set_option maxHeartbeats 8000000 in
set_option maxRecDepth 100000 in
theorem ref13_Within (hE : RE W0 r q ds ms rt) (h : RQ W0 r q ds y4 y5 pp X) (a : Option Addr) (c : Nat) (l : List Cl) (x : Cl) (hs : Cq X a l) (hl : l.length ≤ 1000) (hra : ∀ ad, a = some ad → ad.block ≠ r) :
    Calls Tryz.prog 19 #[.pointer (some ⟨r, 0, none⟩), .slice a l.length c, clV x] X fun e w' => e = .returned (.bool (l.any fun y => wiC ms ds x y)) ∧ RR W0 r q ds y4 y5 pp X w' := by
  obtain ⟨cb, hcb⟩ : ∃ x, x = X.heap.size := ⟨_, rfl⟩
  obtain ⟨W1, hW1⟩ : ∃ V, V = X.alloc (.cells #[.int .i64 x.1, .int .i64 x.2.1, .int .i64 x.2.2.1, .int .i64 x.2.2.2.1, .int .i64 x.2.2.2.2] 29) := ⟨_, rfl⟩
  have k1 : Kept X W1 := by rw [hW1]; exact (Kept.refl X).alloc _
  have hcr : cb ≠ r := by have := h.lt; omega
  have HB := hidMk (show ∀ Y, Chg (fun j => j = r) W1 Y → Y.cell? ⟨cb, 0, none⟩ = some (.int .i64 x.1) ∧ Y.cell? ⟨cb, 1, none⟩ = some (.int .i64 x.2.1) ∧ Y.cell? ⟨cb, 2, none⟩ = some (.int .i64 x.2.2.1) ∧ Y.cell? ⟨cb, 3, none⟩ = some (.int .i64 x.2.2.2.1) ∧ Y.cell? ⟨cb, 4, none⟩ = some (.int .i64 x.2.2.2.2) from fun Y k => by
    obtain ⟨g0, g1, g2, g3, g4⟩ := boxC_at X x 29 hcb W1 (by rw [← hW1]; exact Kept.refl _)
    exact ⟨k.cellp g0 hcr, k.cellp g1 hcr, k.cellp g2 hcr, k.cellp g3 hcr, k.cellp g4 hcr⟩)
  have HL := hidMk (hs.kept k1)
  have HRA := hidMk hra
  have HR0 := hidMk (show RR W0 r q ds y4 y5 pp X W1 from h.rr k1)
  have HWN := hidMk (show ∀ Y p1 (y : Cl), RQ W0 r q ds y4 y5 p1 Y → Calls Tryz.prog 61 #[.pointer (some ⟨r, 0, none⟩), clV x, clV y] Y (WinP W0 r q ds y4 y5 p1 Y (inC ms ds x.1 (clT x) y.1 (clT y))) from fun Y p1 y hy => by rw [clV_at, clV_at]; exact r7_Within hE hy x.1 (clT x) y.1 (clT y))
  obtain ⟨z, hz⟩ : ∃ z, (l.any fun y => wiC ms ds x y) = z := ⟨_, rfl⟩
  rw [hz]
  have HZ := hidMk hz
  clear h hs k1 hz hra hE
  unfold clV
  go_enter Tryz.func19, Tryz.ntmps19
  go_wp2_with fail
  rw [← hW1, ← hcb]
  clear hW1 hcb
  go_loopg [7] (l.length + 1) (fun g i wr => ∃ k : Nat, k + g = l.length + 1 ∧ k ≤ l.length ∧ i = .int .i64 k ∧ Hid (RR W0 r q ds y4 y5 pp X wr ∧ Chg (fun j => j = r) W1 wr ∧ ∀ t, t < k → wiC ms ds x (clA l t) = false))
  case atStart => exact ⟨0, by omega, by omega, rfl, hidMk ⟨HR0.out, Chg.refl _ _, fun t ht => absurd ht (by omega)⟩⟩
  case round =>
    obtain ⟨k, hkg, hkl, rfl, HS⟩ := hrel
    have HKG := hidMk hkg
    clear hkg
    by_cases hk : k < l.length
    · have hk' : (k : Int) < (l.length : Int) := by omega
      obtain ⟨b, o, rfl⟩ := HL.out.form (by omega)
      have hbr : b ≠ r := HRA.out _ rfl
      obtain ⟨e0, e1, e2, e3, e4⟩ := (HL.out.chg HS.out.2.1 (fun _ ad e => HRA.out ad e)).at hk
      obtain ⟨x0, x1, x2, x3, x4⟩ := HB.out wr HS.out.2.1
      obtain ⟨⟨p1, hq1, n1⟩, c1⟩ := HS.out.1
      obtain ⟨y, hy⟩ : ∃ y, clA l k = y := ⟨_, rfl⟩
      rw [hy] at e0 e1 e2 e3 e4
      have hbl : b < wr.heap.size := cell_lt e0
      have hcl : cb < wr.heap.size := cell_lt x0
      have HWI := hidMk (show ∀ Y, Kept wr Y → _ from fun Y hY => HWN.out Y p1 y (hq1.keep hY))
      have HRD := hidMk (show ∀ Y Z, Kept wr Y → RR W0 r q ds y4 y5 p1 Y Z → RR W0 r q ds y4 y5 pp X Z ∧ Chg (fun j => j = r) W1 Z from fun Y Z hY hZ => ⟨RR.trans (hq1.keep hY) n1 (c1.trans (Chg.of_kept hY)) hZ, (HS.out.2.1.trans (Chg.of_kept hY)).trans hZ.2⟩)
      have HSV := hidMk (show ∀ Y Z : World, Kept wr Y → Chg (fun j => j = r) Y Z → (fun w' : World => w'.cell? ⟨cb, 0, none⟩ = some (.int .i64 x.1) ∧ w'.cell? ⟨cb, 1, none⟩ = some (.int .i64 x.2.1) ∧ w'.cell? ⟨cb, 2, none⟩ = some (.int .i64 x.2.2.1) ∧ w'.cell? ⟨cb, 3, none⟩ = some (.int .i64 x.2.2.2.1) ∧ w'.cell? ⟨cb, 4, none⟩ = some (.int .i64 x.2.2.2.2) ∧ w'.cell? ⟨b, o + k * 5, none⟩ = some (.int .i64 y.1) ∧ w'.cell? ⟨b, o + k * 5 + 1, none⟩ = some (.int .i64 y.2.1) ∧ w'.cell? ⟨b, o + k * 5 + 2, none⟩ = some (.int .i64 y.2.2.1) ∧ w'.cell? ⟨b, o + k * 5 + 3, none⟩ = some (.int .i64 y.2.2.2.1) ∧ w'.cell? ⟨b, o + k * 5 + 4, none⟩ = some (.int .i64 y.2.2.2.2)) Z from fun Y Z hY hZ => ⟨hZ.cellp (hY.cellp x0) hcr, hZ.cellp (hY.cellp x1) hcr, hZ.cellp (hY.cellp x2) hcr, hZ.cellp (hY.cellp x3) hcr, hZ.cellp (hY.cellp x4) hcr, hZ.cellp (hY.cellp e0) hbr, hZ.cellp (hY.cellp e1) hbr, hZ.cellp (hY.cellp e2) hbr, hZ.cellp (hY.cellp e3) hbr, hZ.cellp (hY.cellp e4) hbr⟩)
      unfold clV at HWI
      by_cases hw : wiC ms ds x y = true
      · have HF := hidMk (show z = true from by rw [← HZ.out]; exact any_hit hk (by rw [hy]; exact hw))
        have HWP := hidMk (wi_iffQ.1 hw)
        clear hy hw c1 n1 hq1 HS
        go_wp2_with fail
        go_region_held3 (fun w' : World => w'.cell? ⟨cb, 0, none⟩ = some (.int .i64 x.1) ∧ w'.cell? ⟨cb, 1, none⟩ = some (.int .i64 x.2.1) ∧ w'.cell? ⟨cb, 2, none⟩ = some (.int .i64 x.2.2.1) ∧ w'.cell? ⟨cb, 3, none⟩ = some (.int .i64 x.2.2.2.1) ∧ w'.cell? ⟨cb, 4, none⟩ = some (.int .i64 x.2.2.2.2) ∧ w'.cell? ⟨b, o + k * 5, none⟩ = some (.int .i64 y.1) ∧ w'.cell? ⟨b, o + k * 5 + 1, none⟩ = some (.int .i64 y.2.1) ∧ w'.cell? ⟨b, o + k * 5 + 2, none⟩ = some (.int .i64 y.2.2.1) ∧ w'.cell? ⟨b, o + k * 5 + 3, none⟩ = some (.int .i64 y.2.2.2.1) ∧ w'.cell? ⟨b, o + k * 5 + 4, none⟩ = some (.int .i64 y.2.2.2.2))
          (first | assumption | (refine ⟨Kept.cellp ?_ x0, Kept.cellp ?_ x1, Kept.cellp ?_ x2, Kept.cellp ?_ x3, Kept.cellp ?_ x4, Kept.cellp ?_ e0, Kept.cellp ?_ e1, Kept.cellp ?_ e2, Kept.cellp ?_ e3, Kept.cellp ?_ e4⟩ <;> ((repeat (first | (with_reducible exact Kept.refl _) | (with_reducible refine Kept.alloc ?_ _) | (with_reducible refine Kept.drew ?_) | (with_reducible refine Kept.drewN ?_ _) | (with_reducible refine Kept.trans ?_ (by assumption)))); done)))
          ((go_at_call 61; refine (HWI.out _ (by (repeat (first | (with_reducible exact Kept.refl _) | (with_reducible refine Kept.alloc ?_ _) | (with_reducible refine Kept.drew ?_) | (with_reducible refine Kept.drewN ?_ _) | (with_reducible refine Kept.trans ?_ (by assumption)))))).mono ?_; rintro e w4 ⟨bw, rfl, hbw, hrr⟩; have sv : (fun w' : World => w'.cell? ⟨cb, 0, none⟩ = some (.int .i64 x.1) ∧ w'.cell? ⟨cb, 1, none⟩ = some (.int .i64 x.2.1) ∧ w'.cell? ⟨cb, 2, none⟩ = some (.int .i64 x.2.2.1) ∧ w'.cell? ⟨cb, 3, none⟩ = some (.int .i64 x.2.2.2.1) ∧ w'.cell? ⟨cb, 4, none⟩ = some (.int .i64 x.2.2.2.2) ∧ w'.cell? ⟨b, o + k * 5, none⟩ = some (.int .i64 y.1) ∧ w'.cell? ⟨b, o + k * 5 + 1, none⟩ = some (.int .i64 y.2.1) ∧ w'.cell? ⟨b, o + k * 5 + 2, none⟩ = some (.int .i64 y.2.2.1) ∧ w'.cell? ⟨b, o + k * 5 + 3, none⟩ = some (.int .i64 y.2.2.2.1) ∧ w'.cell? ⟨b, o + k * 5 + 4, none⟩ = some (.int .i64 y.2.2.2.2)) w4 := HSV.out _ _ (by (repeat (first | (with_reducible exact Kept.refl _) | (with_reducible refine Kept.alloc ?_ _) | (with_reducible refine Kept.drew ?_) | (with_reducible refine Kept.drewN ?_ _) | (with_reducible refine Kept.trans ?_ (by assumption))))) hrr.2; have hbt : bw = true := hbw.2 HWP.out; subst hbt; have HRR := hidMk (HRD.out _ _ (by (repeat (first | (with_reducible exact Kept.refl _) | (with_reducible refine Kept.alloc ?_ _) | (with_reducible refine Kept.drew ?_) | (with_reducible refine Kept.drewN ?_ _) | (with_reducible refine Kept.trans ?_ (by assumption))))) hrr); clear hrr hbw))
        all_goals (try go_wp2_with fail)
        all_goals
          go_ret
          exact ⟨by rw [HF.out]; rfl, HRR.out.1⟩
      · have HJ := hidMk (show ∀ t, t < k + 1 → wiC ms ds x (clA l t) = false from fun t ht => by
          by_cases e : t = k
          · subst e; rw [hy]; simpa using hw
          · exact HS.out.2.2 t (by omega))
        have HWP := hidMk (show ¬ inC ms ds x.1 (clT x) y.1 (clT y) from fun e => hw (wi_iffQ.2 e))
        clear hy hw c1 n1 hq1 HS
        go_wp2_with fail
        go_region_held3 (fun w' : World => w'.cell? ⟨cb, 0, none⟩ = some (.int .i64 x.1) ∧ w'.cell? ⟨cb, 1, none⟩ = some (.int .i64 x.2.1) ∧ w'.cell? ⟨cb, 2, none⟩ = some (.int .i64 x.2.2.1) ∧ w'.cell? ⟨cb, 3, none⟩ = some (.int .i64 x.2.2.2.1) ∧ w'.cell? ⟨cb, 4, none⟩ = some (.int .i64 x.2.2.2.2) ∧ w'.cell? ⟨b, o + k * 5, none⟩ = some (.int .i64 y.1) ∧ w'.cell? ⟨b, o + k * 5 + 1, none⟩ = some (.int .i64 y.2.1) ∧ w'.cell? ⟨b, o + k * 5 + 2, none⟩ = some (.int .i64 y.2.2.1) ∧ w'.cell? ⟨b, o + k * 5 + 3, none⟩ = some (.int .i64 y.2.2.2.1) ∧ w'.cell? ⟨b, o + k * 5 + 4, none⟩ = some (.int .i64 y.2.2.2.2))
          (first | assumption | (refine ⟨Kept.cellp ?_ x0, Kept.cellp ?_ x1, Kept.cellp ?_ x2, Kept.cellp ?_ x3, Kept.cellp ?_ x4, Kept.cellp ?_ e0, Kept.cellp ?_ e1, Kept.cellp ?_ e2, Kept.cellp ?_ e3, Kept.cellp ?_ e4⟩ <;> ((repeat (first | (with_reducible exact Kept.refl _) | (with_reducible refine Kept.alloc ?_ _) | (with_reducible refine Kept.drew ?_) | (with_reducible refine Kept.drewN ?_ _) | (with_reducible refine Kept.trans ?_ (by assumption)))); done)))
          ((go_at_call 61; refine (HWI.out _ (by (repeat (first | (with_reducible exact Kept.refl _) | (with_reducible refine Kept.alloc ?_ _) | (with_reducible refine Kept.drew ?_) | (with_reducible refine Kept.drewN ?_ _) | (with_reducible refine Kept.trans ?_ (by assumption)))))).mono ?_; rintro e w4 ⟨bw, rfl, hbw, hrr⟩; have sv : (fun w' : World => w'.cell? ⟨cb, 0, none⟩ = some (.int .i64 x.1) ∧ w'.cell? ⟨cb, 1, none⟩ = some (.int .i64 x.2.1) ∧ w'.cell? ⟨cb, 2, none⟩ = some (.int .i64 x.2.2.1) ∧ w'.cell? ⟨cb, 3, none⟩ = some (.int .i64 x.2.2.2.1) ∧ w'.cell? ⟨cb, 4, none⟩ = some (.int .i64 x.2.2.2.2) ∧ w'.cell? ⟨b, o + k * 5, none⟩ = some (.int .i64 y.1) ∧ w'.cell? ⟨b, o + k * 5 + 1, none⟩ = some (.int .i64 y.2.1) ∧ w'.cell? ⟨b, o + k * 5 + 2, none⟩ = some (.int .i64 y.2.2.1) ∧ w'.cell? ⟨b, o + k * 5 + 3, none⟩ = some (.int .i64 y.2.2.2.1) ∧ w'.cell? ⟨b, o + k * 5 + 4, none⟩ = some (.int .i64 y.2.2.2.2)) w4 := HSV.out _ _ (by (repeat (first | (with_reducible exact Kept.refl _) | (with_reducible refine Kept.alloc ?_ _) | (with_reducible refine Kept.drew ?_) | (with_reducible refine Kept.drewN ?_ _) | (with_reducible refine Kept.trans ?_ (by assumption))))) hrr.2; have hbt : bw = false := (by cases bw with | false => rfl | true => exact absurd (hbw.1 rfl) HWP.out); subst hbt; have HRR := hidMk (HRD.out _ _ (by (repeat (first | (with_reducible exact Kept.refl _) | (with_reducible refine Kept.alloc ?_ _) | (with_reducible refine Kept.drew ?_) | (with_reducible refine Kept.drewN ?_ _) | (with_reducible refine Kept.trans ?_ (by assumption))))) hrr); clear hrr hbw))
        all_goals (try go_wp2_with fail)
        all_goals
          go_roundg (gk - 1)
          case measure => have := HKG.out; omega
          case rel => exact ⟨k + 1, by have := HKG.out; omega, by omega, by go_num, hidMk ⟨HRR.out.1, HRR.out.2, HJ.out⟩⟩
    · have hke : k = l.length := by omega
      have HF := hidMk (show z = false from by rw [← HZ.out]; exact any_take (fun t ht => HS.out.2.2 t (by omega)))
      have hk' : ¬ ((k : Int) < (l.length : Int)) := by omega
      go_wp2_with fail
      go_ret
      exact ⟨by rw [HF.out]; rfl, HS.out.1⟩
end
end Go.Proofs.YtmedgkccicbieaaGreat
namespace Go.Proofs.YtmedgkccicbieaaGreat
open Go.RowKit Go.Maps
set_option linter.unusedSimpArgs false
set_option linter.unusedVariables false

/-- A leaf as a cell. -/
def lfQ (ds : List Dm) (n : Int) : Cl := (prQ (fun k => leas ds k) n 4, lfF ds n ds.length 0, lfF ds n ds.length 1, lfF ds n ds.length 2, lfF ds n ds.length 3)
/-- The codes below k that are within. -/
noncomputable def cdK (ms : List ByteArray) (ds : List Dm) (l : List Cl) (k : Nat) : List Int := ((List.range k).filter fun (i : Nat) => l.any fun y => wiC ms ds (lfQ ds (i : Int)) y).map fun (i : Nat) => (i : Int)
theorem cdK_succ (ms : List ByteArray) (ds : List Dm) (l : List Cl) (k : Nat) : cdK ms ds l (k + 1) = if (l.any fun y => wiC ms ds (lfQ ds (k : Int)) y) = true then cdK ms ds l k ++ [(k : Int)] else cdK ms ds l k := by
  unfold cdK
  rw [List.range_succ, List.filter_append, List.map_append]
  by_cases h : (l.any fun y => wiC ms ds (lfQ ds (k : Int)) y) = true
  · rw [if_pos h]; simp [h]
  · rw [if_neg h]; simp [h]
theorem cdK_len (ms : List ByteArray) (ds : List Dm) (l : List Cl) (k : Nat) : (cdK ms ds l k).length ≤ k := by
  unfold cdK
  rw [List.length_map]
  exact Nat.le_trans (List.length_filter_le _ _) (by simp)
theorem set8_load {w : World} {g : Nat} {v : Value} (c0 : w.cell? ⟨g, 0, none⟩ = some v) : (loadVar 59 ⟨g, 0, none⟩).run Tryz.prog w = .ok (.agg #[v]) w := by
  have hl := run_loadCells_list (P := Tryz.prog) w ⟨g, 0, none⟩ [v] (fun j u hu => by
    have hadd : (⟨g, 0, none⟩ : Addr).add j = ⟨g, j, none⟩ := by unfold Addr.add; split <;> simp_all
    rw [hadd]
    have : j = 0 := by
      have := (List.getElem?_eq_some_iff.1 hu).1
      simp at this
      omega
    subst this
    simp_all)
  have hi : (Tryz.prog.info? 59).map (·.size) = some 1 := by kernel_rfl
  obtain ⟨i, h1, h2⟩ := Option.map_eq_some_iff.1 hi
  simp only [List.length_cons, List.length_nil, Nat.reduceAdd] at hl
  simp [loadVar, Sem.run_bind, Tryz.isAgg59, sizeOf, typeInfo, h1, h2, hl]
section
variable {W0 X : World} {r q : Nat} {ds : List Dm} {ms : List ByteArray} {rt : Nat → Nat} {y4 y5 : Value} {pp : Option (Nat × Nat)}
/-- The definition's Region while it is made. -/
structure Rg (W0 X : World) (r q : Nat) (ds : List Dm) (y4 y5 : Value) (B H N0 rs : Nat) (va : Option Addr) (vc : Nat) (acc : List Int) (wr : World) : Prop where
  rq : RQ W0 r q ds y4 y5 (some (B, H)) wr
  ch : Chg (fun j => j = r) X wr
  oc : wr.cell? ⟨rs + 1, 0, none⟩ = some (.slice va acc.length vc)
  of : wr.frozen? ⟨rs + 1, 0, none⟩ = false
  rc : wr.cell? ⟨rs, 0, none⟩ = some (.slice none 0 0)
  rf : wr.frozen? ⟨rs, 0, none⟩ = false
  own : OwnI wr N0 (.slice va acc.length vc) acc
  n0 : N0 ≤ wr.heap.size
theorem Rg.rr {B H N0 rs : Nat} {va : Option Addr} {vc : Nat} {acc : List Int} {wr Y Z : World} (h : Rg W0 X r q ds y4 y5 B H N0 rs va vc acc wr) (hr : r < rs) (hN : rs + 1 < N0) (k : Kept wr Y) (h2 : RR W0 r q ds y4 y5 (some (B, H)) Y Z) : Rg W0 X r q ds y4 y5 B H N0 rs va vc acc Z := by
  obtain ⟨⟨p2, h3, n2⟩, c2⟩ := h2
  obtain rfl := n2.same
  have c3 : Chg (fun j => j = r) wr Z := (Chg.of_kept k).trans c2
  have e1 : ¬ (rs + 1 = r) := by omega
  have e2 : ¬ (rs = r) := by omega
  exact ⟨h3, h.ch.trans c3, c3.cellp h.oc e1, (c3.frozen (p := ⟨rs + 1, 0, none⟩) (cell_lt h.oc) e1).trans h.of, c3.cellp h.rc e2, (c3.frozen (p := ⟨rs, 0, none⟩) (cell_lt h.rc) e2).trans h.rf, h.own.chg c3 (fun g e f => by have := (h.own.lt g e).1; omega), Nat.le_trans h.n0 c3.size⟩
theorem Rg.keep {B H N0 rs : Nat} {va : Option Addr} {vc : Nat} {acc : List Int} {wr Y : World} (h : Rg W0 X r q ds y4 y5 B H N0 rs va vc acc wr) (hr : r < rs) (hN : rs + 1 < N0) (k : Kept wr Y) : Rg W0 X r q ds y4 y5 B H N0 rs va vc acc Y := h.rr hr hN (Kept.refl _) (h.rq.rr k)
theorem Rg.push {B H N0 rs : Nat} {va va' : Option Addr} {vc vc' n : Nat} {acc acc' : List Int} {wr Y Z : World} (h : Rg W0 X r q ds y4 y5 B H N0 rs va vc acc wr) (hW : W0.heap.size ≤ r) (hr : r < rs) (hN : rs + 1 < N0) (hX : X.heap.size ≤ rs) (hB : ¬ (B ≤ rs + 1 ∧ rs + 1 < H)) (hH : H ≤ N0) (k : Kept wr Y) (ho : OwnI Z N0 (.slice va' acc'.length vc') acc') (hc : Chg (fun j => (Value.slice va acc.length vc).ownBlock = some j) Y Z) (hn : n = acc'.length) : Rg W0 X r q ds y4 y5 B H N0 rs va' vc' acc' (Z.setCell ⟨rs + 1, 0, none⟩ (.slice va' n vc')) := by
  subst hn
  have hk := h.keep hr hN k
  have hl := hk.own.lt
  have hq1 : RQ W0 r q ds y4 y5 (some (B, H)) Z := hk.rq.chg hc (fun j e => by have := (hl j e).1; omega) (fun B' H' e j f g => by cases e; have := (hl j f).1; omega)
  have c2 : Chg (fun j => j = rs + 1) Z (Z.setCell ⟨rs + 1, 0, none⟩ (.slice va' acc'.length vc')) := chg_set Z (rs + 1) 0 _
  have e1 : ¬ (Value.slice va acc.length vc).ownBlock = some (rs + 1) := fun e => by have := (hl _ e).1; omega
  have e2 : ¬ (Value.slice va acc.length vc).ownBlock = some rs := fun e => by have := (hl _ e).1; omega
  have g1 := hc.cellp hk.oc e1
  have g2 := hc.cellp hk.rc e2
  have ne : ¬ (rs = rs + 1) := by omega
  refine ⟨hq1.chg c2 (fun j e => by omega) (fun B' H' e j f g => by cases e; subst f; exact hB g), ?_, World.cell?_setCell_same _ _ _ g1, ?_, c2.cellp g2 ne, ?_, ho.chg c2 (fun g e f => by have := (ho.lt g e).1; omega), ?_⟩
  · refine (hk.ch.thn hc (fun j hj e => by have := (hl j e).1; omega)).thn c2 (fun j hj e => by omega)
  · simpa using (hc.frozen (p := ⟨rs + 1, 0, none⟩) (cell_lt hk.oc) e1).trans hk.of
  · simpa using (hc.frozen (p := ⟨rs, 0, none⟩) (cell_lt hk.rc) e2).trans hk.rf
  · have := hk.n0; have := hc.size; have := c2.size; omega
set_option maxHeartbeats 8000000 in
set_option maxRecDepth 100000 in
theorem ref13_Region (hE : RE W0 r q ds ms rt) (h : RQ W0 r q ds y4 y5 pp X) (a : Option Addr) (c : Nat) (l : List Cl) (hs : Cq X a l) (hl : l.length ≤ 1000) (hra : ∀ ad, a = some ad → ad.block ≠ r) (N : Nat) (hN : (N : Int) = mulK (fun k => leas ds k) ms.length 4) (hN6 : N ≤ 1000) :
    Calls Tryz.prog 23 #[.pointer (some ⟨r, 0, none⟩), .slice a l.length c] X fun e w' => (∃ va vc, e = .returned (.agg #[.slice va (cdK ms ds l N).length vc]) ∧ Sl .i64 w' va (cdK ms ds l N).length (cdK ms ds l N)) ∧ RR W0 r q ds y4 y5 pp X w' := by
  obtain ⟨rs, hrs⟩ : ∃ x, x = X.heap.size := ⟨_, rfl⟩
  obtain ⟨W1, hW1⟩ : ∃ V, V = (X.alloc (.cells #[.slice none 0 0] 59)).alloc (.cells #[.slice none 0 0] 59) := ⟨_, rfl⟩
  have k1 : Kept X W1 := by rw [hW1]; exact ((Kept.refl X).alloc _).alloc _
  have hz1 : W1.heap.size = X.heap.size + 2 := by rw [hW1]; simp
  have hrl := h.lt
  have HLV := hidMk (r7_Leaves hE (h.keep k1))
  rw [← hN] at HLV
  have HLF := hidMk (show ∀ Y p1 (n : Int), RQ W0 r q ds y4 y5 p1 Y → okC ms ds n → Calls Tryz.prog 65 #[.pointer (some ⟨r, 0, none⟩), .int .i64 n] Y fun e w' => e = .returned (.tuple #[clV (lfQ ds n), .bool true]) ∧ RR W0 r q ds y4 y5 p1 Y w' from fun Y p1 n hy hn => by
    refine (r7_Leaf hE hy n).mono ?_
    rintro e w' ⟨h1, k⟩
    rw [if_pos (show (0 ≤ n ∧ n < mulK (fun k => (leas ds k : Int)) (ms.length : Int) 4) from hn)] at h1
    exact ⟨h1, k⟩)
  have HWI := hidMk (show ∀ Y p1 (x : Cl), RQ W0 r q ds y4 y5 p1 Y → Chg (fun j => j = r) X Y → Calls Tryz.prog 19 #[.pointer (some ⟨r, 0, none⟩), .slice a l.length c, clV x] Y fun e w' => e = .returned (.bool (l.any fun y => wiC ms ds x y)) ∧ RR W0 r q ds y4 y5 p1 Y w' from fun Y p1 x hy hc => ref13_Within hE hy a c l x (hs.chg hc (fun _ ad e => hra ad e)) hl hra)
  have hW0 : W0.heap.size ≤ r := by have := hE.rr; omega
  have HH := hidMk h
  have HC0 := hidMk (show W1.cell? ⟨rs, 0, none⟩ = some (.slice none 0 0) ∧ W1.cell? ⟨rs + 1, 0, none⟩ = some (.slice none 0 0) ∧ W1.frozen? ⟨rs, 0, none⟩ = false ∧ W1.frozen? ⟨rs + 1, 0, none⟩ = false from by
    rw [hW1, hrs]
    exact ⟨((Kept.refl _).alloc _).cellp (new_cell _ _ _ _ 0 _ rfl rfl), new_cell _ _ _ _ 0 _ (by simp) rfl, by simp, by simp⟩)
  have HN := hidMk hN
  have HK1 := hidMk k1
  clear h hs hra k1 hN
  go_enter Tryz.func23, Tryz.ntmps23
  go_wp2_with fail
  rw [← hW1, ← hrs]
  clear hW1
  refine HLV.out.mono ?_
  rintro e w2 ⟨rfl, ⟨B, H, hq2, n2⟩, c2⟩
  have hBH : ¬ (B ≤ rs + 1 ∧ rs + 1 < H) := fun g => by
    rcases n2.get rfl with e | e
    · have := (HH.out.hole e).2; omega
    · omega
  have hBH0 : ¬ (B ≤ rs ∧ rs < H) := fun g => by
    rcases n2.get rfl with e | e
    · have := (HH.out.hole e).2; omega
    · omega
  have hHle : H ≤ w2.heap.size := (hq2.hole rfl).2
  have hN0 : rs + 1 < w2.heap.size := by have := c2.size; omega
  have HNX := hidMk (show Nx pp (some (B, H)) X.heap.size from n2.le (by omega))
  have HG0 := hidMk (show Rg W0 X r q ds y4 y5 B H w2.heap.size rs none 0 [] w2 from by
    obtain ⟨g0, g1, g2, g3⟩ := HC0.out
    have e1 : ¬ (rs + 1 = r) := by omega
    have e2 : ¬ (rs = r) := by omega
    exact ⟨hq2, (Chg.of_kept HK1.out).trans c2, c2.cellp g1 e1, (c2.frozen (p := ⟨rs + 1, 0, none⟩) (cell_lt g1) e1).trans g3, c2.cellp g0 e2, (c2.frozen (p := ⟨rs, 0, none⟩) (cell_lt g0) e2).trans g2, ownI_nil _ _, Nat.le_refl _⟩)
  have HXR := hidMk hrs
  have hrr : r < rs := by omega
  clear hq2 n2 c2 HLV hz1 HC0 hrs hrl
  go_wp2_with fail
  go_loopg [7] N (fun g i wr => ∃ (k : Nat) (va : Option Addr) (vc : Nat), k + g = N ∧ i = .int .i64 k ∧ Hid (Rg W0 X r q ds y4 y5 B H w2.heap.size rs va vc (cdK ms ds l k) wr))
  case atStart => exact ⟨0, none, 0, by omega, rfl, hidMk (by simpa [cdK] using HG0.out)⟩
  case round =>
    obtain ⟨k, va, vc, hkg, rfl, HG⟩ := hrel
    have HKG := hidMk hkg
    by_cases hk : k < N
    · have hk' : (k : Int) < (N : Int) := by omega
      have hok : okC ms ds (k : Int) := ⟨by omega, by have := HN.out; omega⟩
      have HLK := hidMk (HLF.out wr _ (k : Int) HG.out.rq hok)
      obtain ⟨A, hA⟩ : ∃ A, (l.any fun y => wiC ms ds (lfQ ds (k : Int)) y) = A := ⟨_, rfl⟩
      have HSU := hidMk (cdK_succ ms ds l k)
      rw [hA] at HSU
      have HWK := hidMk (show ∀ Y, RQ W0 r q ds y4 y5 (some (B, H)) Y → Chg (fun j => j = r) X Y → _ from fun Y hy hc => HWI.out Y _ (lfQ ds (k : Int)) hy hc)
      rw [hA] at HWK
      obtain ⟨xx, hxx⟩ : ∃ xx, lfQ ds (k : Int) = xx := ⟨_, rfl⟩
      rw [hxx] at HLK HWK
      have hcl := cdK_len ms ds l k
      obtain ⟨acc, hacc⟩ : ∃ acc, acc = cdK ms ds l k := ⟨_, rfl⟩
      rw [← hacc] at HG HSU hcl
      obtain ⟨x0, x1, x2, x3, x4⟩ := xx
      unfold clV at HLK HWK
      simp only at HLK HWK
      clear hok hA hxx hkg hacc
      go_wp2_with fail
      refine HLK.out.mono ?_
      rintro e w3 ⟨rfl, hr3⟩
      have HG3 := hidMk (HG.out.rr hrr hN0 (Kept.refl _) hr3)
      clear hr3
      have HG4 := hidMk (show ∀ Z, Kept w3 Z → Rg W0 X r q ds y4 y5 B H w2.heap.size rs va vc acc Z from fun Z hZ => HG3.out.keep hrr hN0 hZ)
      go_wp2_with fail
      refine (HWK.out _ (HG4.out _ ((Kept.refl _).alloc _)).rq (HG4.out _ ((Kept.refl _).alloc _)).ch).mono ?_
      rintro e w5 ⟨rfl, hr5⟩
      have HG5 := hidMk (HG3.out.rr hrr hN0 ((Kept.refl _).alloc _) hr5)
      clear hr5
      have o1 := HG5.out.oc
      have o2 := HG5.out.of
      have o3 : rs + 1 < w5.heap.size := cell_lt o1
      cases A with
      | true =>
        rw [if_pos rfl] at HSU
        have hw5 := HG5.out.n0
        go_wp2_with (at_builtin; refine wpList_pushI _ rfl _ _ rfl w2.heap.size (.slice va acc.length vc) acc rfl ((HG5.out.keep hrr hN0 ((Kept.refl _).alloc _)).own) (by simp; omega) w5.heap.size (k : Int) rfl (by simp) (by omega) (w5.heap.size + 1) (by simp) ?_)
        intro g6 cap6 w6 o6 k6 _ _
        have HP := hidMk (show ∀ n, n = (acc ++ [(k : Int)]).length → Rg W0 X r q ds y4 y5 B H w2.heap.size rs (some ⟨g6, 0, none⟩) cap6 (acc ++ [(k : Int)]) (w6.setCell ⟨rs + 1, 0, none⟩ (.slice (some ⟨g6, 0, none⟩) n cap6)) from fun n hn => HG5.out.push hW0 hrr hN0 (by have := HXR.out; omega) hBH hHle ((Kept.refl _).alloc _) (by simpa using o6) k6 hn)
        have e1 : ¬ (Value.slice va acc.length vc).ownBlock = some (rs + 1) := fun e => by have := (HG5.out.own.lt _ e).1; omega
        have p1 := k6.cellp (((Kept.refl w5).alloc _).cellp o1) e1
        have p2 := (k6.frozen (p := ⟨rs + 1, 0, none⟩) (by simp; omega) e1).trans ((((Kept.refl w5).alloc _).frozen (p := ⟨rs + 1, 0, none⟩) o3).trans o2)
        have p3 : rs + 1 < w6.heap.size := cell_lt p1
        clear o6 k6 e1 o1 o2 o3
        go_wp2_with fail
        go_roundg (gk - 1)
        case measure => have := HKG.out; omega
        case rel => exact ⟨k + 1, some ⟨g6, 0, none⟩, cap6, by have := HKG.out; omega, by go_num, hidMk (by rw [HSU.out]; exact HP.out _ (by simp))⟩
      | false =>
        rw [if_neg (by decide)] at HSU
        go_wp2_with fail
        go_roundg (gk - 1)
        case measure => have := HKG.out; omega
        case rel => exact ⟨k + 1, va, vc, by have := HKG.out; omega, by go_num, hidMk (by rw [HSU.out]; exact HG5.out)⟩
    · have hk' : ¬ ((k : Int) < (N : Int)) := by omega
      obtain rfl : k = N := by omega
      have o1 := HG.out.oc
      have o2 := HG.out.rc
      have o3 := HG.out.rf
      have o4 : rs < wr.heap.size := cell_lt o2
      have hcl := cdK_len ms ds l k
      obtain ⟨acc, hacc⟩ : ∃ acc, acc = cdK ms ds l k := ⟨_, rfl⟩
      rw [← hacc] at HG o1 hcl
      have HAC := hidMk hacc
      clear hacc
      go_wp2_with fail
      have c7 : Chg (fun j => j = rs) wr (wr.setCell ⟨rs, 0, none⟩ (.slice va acc.length vc)) := chg_set _ _ _ _
      refine bodyPost_ret (results_cell1 rfl _ _ rs _ rfl (set8_load (World.cell?_setCell_same _ _ _ o2))) rfl ⟨⟨va, ⟨vc, by rw [← HAC.out]⟩, ?_⟩, ⟨⟨some (B, H), ?_, HNX.out⟩, ?_⟩⟩
      · rw [← HAC.out]
        obtain ⟨a7, c8, e7, hs7⟩ := HG.out.own.sl (by unfold maxLen; omega)
        cases e7
        refine hs7.chg c7 (fun hp ad e f => ?_)
        have := (HG.out.own.lt ad.block (by rw [e]; rfl)).1
        have f' : ad.block = rs := f
        omega
      · exact HG.out.rq.chg c7 (fun j e => by omega) (fun B' H' e j f g => by cases e; subst f; exact hBH0 g)
      · exact HG.out.ch.thn c7 (fun j hj e => by have := HXR.out; omega)
end
end Go.Proofs.YtmedgkccicbieaaGreat
namespace Go.Proofs.YtmedgkccicbieaaGreat
open Go.RowKit Go.Maps
set_option linter.unusedSimpArgs false
set_option linter.unusedVariables false

theorem ownI_fr {w : World} {B : Nat} {a : Option Addr} {n c : Nat} {l : List Int} (h : OwnI w B (.slice a n c) l) : ∀ ad, a = some ad → B ≤ ad.block := fun ad e => by
  obtain ⟨_, ⟨h1, hz⟩ | ⟨g, cap, cur, h1, hb, _⟩⟩ := h
  · cases h1; cases e
  · cases h1; cases e; exact hb
def AllPF (w : World) (E : List Int) (e : Ending) (w' : World) : Prop := ∃ a c, e = .returned (.slice a E.length c) ∧ Sl .i64 w' a E.length E ∧ (∀ ad, a = some ad → w.heap.size ≤ ad.block) ∧ Kept w w'
set_option maxHeartbeats 2000000 in
theorem region_AllF (v : Value) (l : List Rn) (w : World) (h : SetIs w v l) (hn : Norm l) (hm : (expd l).length ≤ 100000) (hl : l.length ≤ 100000) : Calls Tryz.prog 22 #[v] w (AllPF w (expd l)) := by
  obtain ⟨a, c, rfl, h1, h2, h3⟩ := h
  have HR := hidMk h1
  have HN := hidMk hn
  obtain ⟨E, hE⟩ : ∃ E, expd l = E := ⟨_, rfl⟩
  rw [hE] at hm ⊢
  have HE := hidMk hE
  clear h1 hn h3 hE
  go_enter Tryz.func22, Tryz.ntmps22
  go_wp2_with fail
  go_loopg [3, 10] l.length (fun g y x wr => ∃ k : Nat, k + g = l.length ∧ x = .int .i64 k ∧ OwnI wr (w.heap.size + 1) y (expd (l.take k)) ∧ Kept (w.alloc (.cells #[.slice a l.length c] 55)) wr)
  case atStart => exact ⟨0, by omega, rfl, ownI_nil _ _, Kept.refl _⟩
  case round =>
    obtain ⟨k, hkg, rfl, hO, hk⟩ := hrel
    obtain ⟨gi, hgi⟩ : ∃ gi, gi = gk := ⟨_, rfl⟩
    subst hgi
    have HKG := hidMk hkg
    have HK := hidMk hk
    by_cases hkn : k < l.length
    · obtain ⟨b, o, rfl, _, hcs⟩ := HR.out.cells (by omega)
      obtain ⟨c1, c2⟩ := hcs k hkn
      have d1 := hk.cellp (((Kept.refl w).alloc _).cellp c1)
      have d2 := hk.cellp (((Kept.refl w).alloc _).cellp c2)
      have hb := norm_at HN.out hkn
      have HT := hidMk (expd_take hkn)
      have hlt := expd_len_take (l := l) (k + 1)
      rw [HT.out, List.length_append, HE.out] at hlt
      have hul : (ups (rnA l k)).length = ((rnA l k).2 - (rnA l k).1 + 1).toNat := by simp [ups]
      rw [hul] at hlt
      have HU := hidMk (show ups (rnA l k) = (List.range ((rnA l k).2 - (rnA l k).1 + 1).toNat).map (fun i => (rnA l k).1 + (i : Nat)) from rfl)
      clear hcs c1 c2 hkg hul
      generalize rnA l k = r at *
      obtain ⟨x, y⟩ := r
      simp only at hb hlt d1 d2 HU
      have HO := hidMk hO
      have hsz : w.heap.size + 1 ≤ wr.heap.size := by have := hk.size; simpa using this
      clear hO hk
      generalize expd (l.take k) = acc at *
      obtain ⟨n, hn⟩ : ∃ n : Nat, (y - x + 1).toNat = n := ⟨_, rfl⟩
      have hyx : y - x + 1 = (n : Int) := by omega
      rw [hn] at hlt HU
      have hw1 : IntKind.i64.wrap (y - x) = y - x := by rw [IntKind.wrap_i64]; omega
      have hw2 : IntKind.i64.wrap (y - x + 1) = (n : Int) := by rw [IntKind.wrap_i64]; omega
      clear hn
      go_wp2_with fail
      generalize hNN : wr.heap.size = N
      have HNE := hidMk (show ∀ g, u3.ownBlock = some g → g ≠ N from fun g hg => by have := (HO.out.lt g hg).2; omega)
      go_loopg [3, 20] n (fun g v q wi => ∃ i : Nat, i + g = n ∧ q = .int .i64 i ∧ OwnI wi (w.heap.size + 1) v (acc ++ (List.range i).map (fun i => x + (i : Nat))) ∧ Kept (w.alloc (.cells #[.slice (some ⟨b, o, none⟩) l.length c] 55)) wi ∧ wi.cell? ⟨N, 0, none⟩ = some (.int .i64 x) ∧ Hid (∀ g, v.ownBlock = some g → g ≠ N))
      case atStart => exact ⟨0, by omega, rfl, by simpa using HO.out.kept' ((Kept.refl wr).alloc _), HK.out.alloc _, by subst hNN; simp, HNE⟩
      case round =>
        obtain ⟨i, hig, rfl, hOi, hki, n0, HNI⟩ := hrel
        obtain ⟨gj, hgj⟩ : ∃ gj, gj = gk := ⟨_, rfl⟩
        subst hgj
        have HIG := hidMk hig
        have HKI := hidMk hki
        have HOI := hidMk hOi
        have hszi : w.heap.size + 1 ≤ wr.heap.size := by have := hki.size; simpa using this
        have hrw : N < wr.heap.size := cell_lt n0
        by_cases hin : i < n
        · have HUS := hidMk (ups_succ x i)
          have hla : (acc ++ (List.range i).map (fun i => x + (i : Nat))).length = acc.length + i := by simp
          obtain ⟨da, dc, rfl, _⟩ := hOi.sl (by rw [hla]; unfold maxLen; omega)
          have hxi : IntKind.i64.wrap (x + (i : Int)) = x + (i : Int) := by rw [IntKind.wrap_i64]; omega
          have HAPP := hidMk (show acc ++ (List.range (i + 1)).map (fun i => x + (i : Nat)) = acc ++ (List.range i).map (fun i => x + (i : Nat)) ++ [x + (i : Int)] by rw [HUS.out, List.append_assoc])
          have HLA := hidMk hla
          clear hOi hki hig hla
          generalize acc ++ (List.range i).map (fun i => x + (i : Nat)) = acc2 at *
          have n0' := fun o => ((Kept.refl wr).alloc o).cellp n0
          go_wp2_with (at_builtin; refine wpList_pushI _ (by rfl) _ _ (by rfl) (w.heap.size + 1) (.slice da acc2.length dc) acc2 (by rfl) (HOI.out.kept' ((Kept.refl _).alloc _)) (by simp; omega) wr.heap.size (x + (i : Int)) (by rfl) (by simp) (by have := HLA.out; omega) (wr.heap.size + 1) (by simp) ?_; intro g4 cap4 w4 o4 k4 a4 l4; have H4 := hidMk o4; have K4 := hidMk (Chg.kept (HKI.out.alloc _) k4 (fun j hj => by have := (HOI.out.lt j hj).1; simp; omega)); have n4 := k4.cellp (n0' _) (fun e => HNI.out _ e rfl); have HN4 := hidMk (show ∀ g, (Value.slice (some ⟨g4, 0, none⟩) (acc2.length + 1) cap4).ownBlock = some g → g ≠ N from fun g hg => by (simp only [Value.ownBlock, Option.some.injEq] at hg; subst hg; rcases a4 with a4 | a4; exact HNI.out _ a4; omega)); clear o4 k4 a4 l4)
          go_roundg (gj - 1)
          case measure => have := HIG.out; omega
          case rel => exact ⟨i + 1, by have := HIG.out; omega, by go_num, by rw [HAPP.out]; exact H4.out, K4.out, n4, HN4⟩
        · have hin2 : i = n := by omega
          subst hin2
          have hkk : ¬ ((i : Int) < (i : Int)) := by omega
          clear hOi hki hig
          go_wp2_with fail
          go_roundg (gi - 1)
          case measure => have := HKG.out; omega
          case rel => exact ⟨k + 1, by have := HKG.out; omega, by go_num, by rw [HT.out, HU.out]; exact HOI.out, HKI.out⟩
    · have htk : l.take k = l := List.take_of_length_le (by omega)
      rw [htk, HE.out] at hO
      have hkk : ¬ ((k : Int) < (l.length : Int)) := by omega
      obtain ⟨sa, sc, rfl, hsl⟩ := hO.sl (by unfold maxLen; omega)
      have HSL := hidMk hsl
      have HFR := hidMk (show ∀ ad, sa = some ad → w.heap.size ≤ ad.block from fun ad e => by have := ownI_fr hO ad e; omega)
      clear hk hkg hO htk hsl
      go_wp2_with fail
      go_ret
      exact ⟨sa, sc, rfl, HSL.out, HFR.out, ((Kept.refl w).alloc _).trans HK.out⟩
/-- An act: a cell, and whether it is dropped. -/
abbrev At := Cl × Bool
def atF (x : At) : List Value := clF x.1 ++ [.bool x.2]
def atA (l : List At) (i : Nat) : At := l.getD i ((0, 0, 0, 0, 0), false)
/-- Acts that came in. -/
structure Aq (w : World) (a : Option Addr) (n : Nat) (l : List At) : Prop where
  len : l.length = n
  big : n ≤ maxLen
  cells : 0 < l.length → ∃ b o, a = some ⟨b, o, none⟩ ∧ b < w.heap.size ∧ ∀ i, i < l.length → ∀ t, t < 6 → ∀ u, (atF (atA l i))[t]? = some u → w.cell? ⟨b, o + i * 6 + t, none⟩ = some u
theorem Aq.kept {w w' : World} {a : Option Addr} {n : Nat} {l : List At} (h : Aq w a n l) (g : Kept w w') : Aq w' a n l :=
  ⟨h.len, h.big, fun hp => by
    obtain ⟨c, o, h1, h2, h3⟩ := h.cells hp
    exact ⟨c, o, h1, Nat.lt_of_lt_of_le h2 g.size, fun i hi t ht u hu => g.cellp (h3 i hi t ht u hu)⟩⟩
theorem Aq.at {w : World} {b o n : Nat} {l : List At} (h : Aq w (some ⟨b, o, none⟩) n l) {i : Nat} (hi : i < l.length) : b < w.heap.size ∧ w.cell? ⟨b, o + i * 6, none⟩ = some (.int .i64 (atA l i).1.1) ∧ w.cell? ⟨b, o + i * 6 + 1, none⟩ = some (.int .i64 (atA l i).1.2.1) ∧ w.cell? ⟨b, o + i * 6 + 2, none⟩ = some (.int .i64 (atA l i).1.2.2.1) ∧ w.cell? ⟨b, o + i * 6 + 3, none⟩ = some (.int .i64 (atA l i).1.2.2.2.1) ∧ w.cell? ⟨b, o + i * 6 + 4, none⟩ = some (.int .i64 (atA l i).1.2.2.2.2) ∧ w.cell? ⟨b, o + i * 6 + 5, none⟩ = some (.bool (atA l i).2) := by
  obtain ⟨b', o', e, hl, h3⟩ := h.cells (by omega)
  cases e
  exact ⟨hl, h3 i hi 0 (by omega) _ rfl, h3 i hi 1 (by omega) _ rfl, h3 i hi 2 (by omega) _ rfl, h3 i hi 3 (by omega) _ rfl, h3 i hi 4 (by omega) _ rfl, h3 i hi 5 (by omega) _ rfl⟩
theorem Aq.form {w : World} {a : Option Addr} {n : Nat} {l : List At} (h : Aq w a n l) (hp : 0 < l.length) : ∃ b o, a = some ⟨b, o, none⟩ := by
  obtain ⟨b, o, e, _⟩ := h.cells hp
  exact ⟨b, o, e⟩
section
variable {H : Type} {enc : TypeId × Value → H} {w : World} {base : Nat} {spare : Nat → Bool} {held : Bool} {fuel : Nat} {x : DataW H × List MemPlace}
theorem at_sz : Tryz.prog.cellsOf 40 = 6 := by kernel_rfl
set_option maxRecDepth 100000 in
theorem at_cells {cs : List Value} (hl : cs.length = 6) (h : DataW.trod enc Tryz.prog w base spare held fuel 40 cs = some x) : ∃ y : At, cs = atF y := by
  obtain ⟨c0, c1, c2, c3, c4, c5, rfl⟩ : ∃ c0 c1 c2 c3 c4 c5, cs = [c0, c1, c2, c3, c4, c5] := by
    match cs, hl with
    | [a, b, c, d, e, f], _ => exact ⟨a, b, c, d, e, f, rfl⟩
  obtain ⟨y0, y1, n, _, _, g0, g1⟩ := Go.ChangeShapes.trod_struct2 Tryz.underlying40 h
  replace g0 : DataW.trod enc Tryz.prog w base spare held n 29 [c0, c1, c2, c3, c4] = some y0 := g0
  replace g1 : DataW.trod enc Tryz.prog w base spare held n 4 [c5] = some y1 := g1
  obtain ⟨y, e0⟩ := cl_cells rfl g0
  obtain ⟨i1, e1, _⟩ := DataW.trod_bool Tryz.underlying4 g1
  simp only [List.cons.injEq, and_true] at e1
  subst e1
  exact ⟨(y, i1), by rw [show [c0, c1, c2, c3, c4, Value.bool i1] = [c0, c1, c2, c3, c4] ++ [.bool i1] from rfl, e0]; rfl⟩
theorem acts_openL {a : Option Addr} {n c : Nat} (h : DataW.trod enc Tryz.prog w base spare held fuel 26 [.slice a n c] = some x) : ∃ l : List At, Aq w a n l := by
  rcases Go.Deep.open_slice Tryz.underlying26 h with ⟨hcs, _⟩ | ⟨ad, len, cap, m, k, D, Pl, hcs, _, hl, hm, hmm, _, hall⟩
  · simp at hcs
    obtain ⟨rfl, rfl, rfl⟩ := hcs
    exact ⟨[], rfl, Nat.zero_le _, fun hp => absurd hp (by simp)⟩
  · simp at hcs
    obtain ⟨rfl, rfl, rfl⟩ := hcs
    have hlm : n ≤ m := by rw [hmm]; split <;> omega
    have each : ∀ i, i < n → ∃ q : At, w.cells? base (ad.add (i * 6)) 6 = some (atF q) := fun i hi => by
      obtain ⟨cs', h1, h2⟩ := hall i (by omega)
      rw [at_sz] at h1
      obtain ⟨q, h4⟩ := at_cells (World.cells?_some h1).2.1 h2
      exact ⟨q, by rw [← h4]; exact h1⟩
    haveI : Inhabited At := ⟨((0, 0, 0, 0, 0), false)⟩
    obtain ⟨q, hq⟩ := Go.Deep.choose_lt each
    have hget : ∀ i, i < n → atA ((List.range n).map q) i = q i := fun i hi => by simp [atA, List.getD, hi]
    refine ⟨(List.range n).map q, by simp, by omega, fun hp => ?_⟩
    rw [List.length_map, List.length_range] at hp
    obtain ⟨b, off, spot⟩ := ad
    have h0 := (World.cells?_some (hq 0 hp)).2.2 0 (by omega)
    have hspot : spot = none := by
      have : w.cell? (((⟨b, off, spot⟩ : Addr).add (0 * 6)).add 0) = some (.int .i64 (q 0).1.1) := h0
      simpa [Addr.add] using World.cell?_spot this
    subst hspot
    refine ⟨b, off, rfl, ?_, fun i hi t ht u hu => ?_⟩
    · have : w.cell? (((⟨b, off, none⟩ : Addr).add (0 * 6)).add 0) = some (.int .i64 (q 0).1.1) := h0
      exact cell_lt (p := ⟨b, off, none⟩) (by simpa [Addr.add] using this)
    · rw [List.length_map, List.length_range] at hi
      rw [hget i hi] at hu
      have := (World.cells?_some (hq i hi)).2.2 t ht
      rw [hu, Go.WideShapes.add_plain, Go.WideShapes.add_plain] at this
      exact this
end
end Go.Proofs.YtmedgkccicbieaaGreat
namespace Go.Proofs.YtmedgkccicbieaaGreat
open Go.RowKit Go.Maps
set_option linter.unusedSimpArgs false
set_option linter.unusedVariables false

theorem Hd.chgP {S : Nat → Prop} {w w' : World} {ms : List ByteArray} {ds : List Dm} {a : Option Addr} {c : Nat} {l : List Cl} (h : Hd w ms ds a c l) (k : Chg S w w') (hs : 0 < l.length → ∀ ad, a = some ad → ¬ S ad.block) : Hd w' ms ds a c l := ⟨h.cq.chg k hs, h.le, h.nl, h.rs, h.ok, h.sm, h.sp⟩
theorem Cq.blt {w : World} {a : Option Addr} {l : List Cl} (h : Cq w a l) (hp : 0 < l.length) : ∀ ad, a = some ad → ad.block < w.heap.size := fun ad e => by
  obtain ⟨b, o, e2, hlt, _⟩ := h.cells hp
  rw [e] at e2
  cases e2
  exact hlt
abbrev nlV : Value := .slice none 0 0
/-- Both sides: the holds in block hb, the definition's list at la, its space in block r. -/
structure Hr (W0 : World) (r q : Nat) (ds : List Dm) (ms : List ByteArray) (pp : Option (Nat × Nat)) (hb : Nat) (ha : Option Addr) (hc : Nat) (hl : List Cl) (la : Option Addr) (w : World) : Prop where
  cell : w.cell? ⟨hb, 0, none⟩ = some (.slice ha hl.length hc)
  fz : w.frozen? ⟨hb, 0, none⟩ = false
  hd : Hd w ms ds ha hc hl
  lq : Cq w la hl
  rq : RQ W0 r q ds nlV nlV pp w
  re : r = W0.heap.size
  hr : r < hb
  bh : ∀ ad, ha = some ad → hb < ad.block
  bl : ∀ ad, la = some ad → hb < ad.block
  hB : ∀ B H, pp = some (B, H) → hb < B
section
variable {W0 w w' : World} {r q : Nat} {ds : List Dm} {ms : List ByteArray} {pp : Option (Nat × Nat)} {hb : Nat} {ha : Option Addr} {hc : Nat} {hl : List Cl} {la : Option Addr}
theorem Hr.lt (h : Hr W0 r q ds ms pp hb ha hc hl la w) : hb < w.heap.size := cell_lt h.cell
theorem Hr.chg {S : Nat → Prop} (h : Hr W0 r q ds ms pp hb ha hc hl la w) (k : Chg S w w') (h1 : ¬ S hb) (h2 : ∀ j, S j → W0.heap.size ≤ j ∧ j ≠ r) (h3 : 0 < hl.length → ∀ ad, ha = some ad → ¬ S ad.block) (h4 : 0 < hl.length → ∀ ad, la = some ad → ¬ S ad.block) (h5 : ∀ B H, pp = some (B, H) → ∀ j, S j → ¬ (B ≤ j ∧ j < H)) : Hr W0 r q ds ms pp hb ha hc hl la w' :=
  ⟨k.cellp h.cell h1, (k.frozen (p := ⟨hb, 0, none⟩) h.lt h1).trans h.fz, h.hd.chgP k h3, h.lq.chg k h4, h.rq.chg k h2 h5, h.re, h.hr, h.bh, h.bl, h.hB⟩
theorem Hr.keep (h : Hr W0 r q ds ms pp hb ha hc hl la w) (k : Kept w w') : Hr W0 r q ds ms pp hb ha hc hl la w' :=
  h.chg (S := fun _ => False) (Chg.of_kept k) (fun e => e) (fun _ e => e.elim) (fun _ _ _ e => e) (fun _ _ _ e => e) (fun _ _ _ _ e => e.elim)
/-- What both sides are, wherever the definition's tables lie. -/
def Hz (W0 : World) (r q : Nat) (ds : List Dm) (ms : List ByteArray) (hb : Nat) (ha : Option Addr) (hc : Nat) (hl : List Cl) (la : Option Addr) (w : World) : Prop := ∃ pp, Hr W0 r q ds ms pp hb ha hc hl la w
theorem Hz.keep (h : Hz W0 r q ds ms hb ha hc hl la w) (k : Kept w w') : Hz W0 r q ds ms hb ha hc hl la w' := by
  obtain ⟨pp, h⟩ := h
  exact ⟨pp, h.keep k⟩
theorem Hr.rr (h : Hr W0 r q ds ms pp hb ha hc hl la w) (k : RR W0 r q ds nlV nlV pp w w') : Hz W0 r q ds ms hb ha hc hl la w' := by
  obtain ⟨⟨p2, h3, n2⟩, c2⟩ := k
  have e1 : ¬ hb = r := by have := h.hr; omega
  refine ⟨p2, c2.cellp h.cell e1, (c2.frozen (p := ⟨hb, 0, none⟩) h.lt e1).trans h.fz, h.hd.chgP c2 (fun _ ad e (f : ad.block = r) => by have := h.bh ad e; have := h.hr; omega), h.lq.chg c2 (fun _ ad e (f : ad.block = r) => by have := h.bl ad e; have := h.hr; omega), h3, h.re, h.hr, h.bh, h.bl, fun B H e => ?_⟩
  rcases n2.get e with e | e
  · exact h.hB B H e
  · have := h.lt; omega
end
/-- .. and behind an act: what the holds were, in block wb, and what they came to, in block nb. -/
structure Hs (W0 : World) (r q : Nat) (ds : List Dm) (ms : List ByteArray) (pp : Option (Nat × Nat)) (hb : Nat) (ha : Option Addr) (hc : Nat) (hl : List Cl) (la : Option Addr) (wb nb : Nat) (a3 : Option Addr) (d3 : Nat) (l3 : List Cl) (w : World) : Prop where
  hr : Hr W0 r q ds ms pp hb ha hc hl la w
  wc : w.cell? ⟨wb, 0, none⟩ = some (.slice ha hl.length hc)
  nc : w.cell? ⟨nb, 0, none⟩ = some (.slice a3 l3.length d3)
  nd : Hd w ms ds a3 d3 l3
  nn : ∀ ad, a3 = some ad → hb < ad.block
/-- What an act tells, of the cells that P tells. -/
def Tld (W2 : World) (ms : List ByteArray) (ds : List Dm) (P : Cl → Prop) (a3 : Option Addr) (n3 d3 : Nat) (w3 : World) : Prop := Kept W2 w3 ∧ ∃ l3, n3 = l3.length ∧ Hd w3 ms ds a3 d3 l3 ∧ (∀ y, y ∈ l3 ↔ P y) ∧ ∀ ad, a3 = some ad → W2.heap.size ≤ ad.block
section
variable {W0 w w' wr w3 W2 : World} {r q : Nat} {ds : List Dm} {ms : List ByteArray} {pp : Option (Nat × Nat)} {hb : Nat} {ha : Option Addr} {hc : Nat} {hl : List Cl} {la : Option Addr} {wb nb : Nat} {a3 : Option Addr} {d3 n3 : Nat} {l3 : List Cl} {rt : Nat → Nat}
theorem Hs.keep (h : Hs W0 r q ds ms pp hb ha hc hl la wb nb a3 d3 l3 w) (k : Kept w w') : Hs W0 r q ds ms pp hb ha hc hl la wb nb a3 d3 l3 w' := ⟨h.hr.keep k, k.cellp h.wc, k.cellp h.nc, h.nd.kept k, h.nn⟩
theorem hs_new (h : Hr W0 r q ds ms pp hb ha hc hl la wr) {T : TypeId} (hW : W2 = (wr.alloc (.cells #[.slice ha hl.length hc] T)).alloc (.cells #[.slice ha hl.length hc] T)) (k : Kept W2 w3) (hd : Hd w3 ms ds a3 d3 l3) (hf : ∀ ad, a3 = some ad → W2.heap.size ≤ ad.block) (hn : n3 = l3.length) (hwb : wb = wr.heap.size) (hnb : nb = wr.heap.size + 1) :
    Hs W0 r q ds ms pp hb ha hc hl la wb nb a3 d3 l3 (w3.setCell ⟨nb, 0, none⟩ (.slice a3 n3 d3)) := by
  subst hn
  have k0 : Kept wr W2 := by rw [hW]; exact ((Kept.refl _).alloc _).alloc _
  have z2 : W2.heap.size = wr.heap.size + 2 := by rw [hW]; simp
  have c1 : W2.cell? ⟨wb, 0, none⟩ = some (.slice ha hl.length hc) := by rw [hW]; exact ((Kept.refl _).alloc _).cellp (new_cell _ _ _ _ 0 _ hwb rfl)
  have c2 : W2.cell? ⟨nb, 0, none⟩ = some (.slice ha hl.length hc) := by rw [hW]; exact new_cell _ _ _ _ 0 _ (by simp [hnb]) rfl
  have h3 := h.keep (k0.trans k)
  have c : Chg (· = nb) w3 (w3.setCell ⟨nb, 0, none⟩ (.slice a3 l3.length d3)) := chg_set _ _ _ _
  have l1 := h.lt
  have l2 := h.hr
  have l3' := h.re
  refine ⟨h3.chg c (fun e => by omega) (fun j e => by omega) (fun hp ad e (f : ad.block = nb) => by have := h.hd.cq.blt hp ad e; omega) (fun hp ad e (f : ad.block = nb) => by have := h.lq.blt hp ad e; omega) (fun B H e j f => ?_), c.cellp (k.cellp c1) (fun e => by omega), World.cell?_setCell_same _ _ _ (k.cellp c2), hd.chgP c (fun _ ad e (f : ad.block = nb) => by have := hf ad e; omega), fun ad e => by have := hf ad e; omega⟩
  have := (h.rq.hole e).2
  omega
theorem Hs.next (h : Hs W0 r q ds ms pp hb ha hc hl la wb nb a3 d3 l3 w) {ka : Option Addr} (hk : Cq w ka l3) (hf : ∀ ad, ka = some ad → hb < ad.block) : Hr W0 r q ds ms pp hb a3 d3 l3 ka (w.setCell ⟨hb, 0, none⟩ (.slice a3 l3.length d3)) := by
  have c : Chg (· = hb) w (w.setCell ⟨hb, 0, none⟩ (.slice a3 l3.length d3)) := chg_set _ _ _ _
  have l1 := h.hr.hr
  have l2 := h.hr.re
  exact ⟨World.cell?_setCell_same _ _ _ h.hr.cell, by simpa using h.hr.fz, h.nd.chgP c (fun _ ad e (f : ad.block = hb) => by have := h.nn ad e; omega), hk.chg c (fun _ ad e (f : ad.block = hb) => by have := hf ad e; omega), h.hr.rq.chg c (fun j e => by omega) (fun B H e j f => by have := h.hr.hB B H e; omega), l2, l1, h.nn, hf, h.hr.hB⟩
/-- What the definition tells of an act. -/
def RTl (W0 : World) (r q : Nat) (ds : List Dm) (ms : List ByteArray) (pp : Option (Nat × Nat)) (hb : Nat) (ha : Option Addr) (hc : Nat) (hl : List Cl) (la : Option Addr) (wb nb : Nat) (a3 : Option Addr) (d3 : Nat) (l3 : List Cl) (D : Int) (e : Ending) (w' : World) : Prop :=
  ∃ ka kc, e = .returned (.tuple #[.slice ka l3.length kc, .int .i64 D]) ∧ Hid (Hs W0 r q ds ms pp hb ha hc hl la wb nb a3 d3 l3 w' ∧ Cq w' ka l3 ∧ ∀ ad, ka = some ad → hb < ad.block)
theorem hs_RDrop (hE : RE W0 r q ds ms rt) (h : Hs W0 r q ds ms pp hb ha hc hl la wb nb a3 d3 l3 w) (lc : Nat) (x : Cl) (hm : ∀ y, y ∈ l3 ↔ dropE ms ds hl x = 0 ∧ y ∈ hl ∧ y ≠ x) :
    Calls Tryz.prog 11 #[.pointer (some ⟨r, 0, none⟩), .slice la hl.length lc, clV x] w (RTl W0 r q ds ms pp hb ha hc hl la wb nb a3 d3 l3 (dropE ms ds hl x)) := by
  refine (ref13_Drop hE h.hr.rq la lc hl x h.hr.lq (by have := h.hr.hd.sm; omega)).mono ?_
  rintro e w' ⟨v, rfl, g1, g2, k⟩
  have l1 := h.hr.lt
  by_cases hD : dropE ms ds hl x = 0
  · have ho := g1 hD
    have e3 : cutC hl x = l3 := riseC_ext (f := ixC ms ds) (by rw [riseC_pw]; exact List.Pairwise.filter _ (riseC_pw.1 h.hr.hd.rs)) h.nd.rs (fun y => by
      rw [hm]
      unfold cutC
      rw [List.mem_filter]
      simp [hD])
    rw [e3] at ho
    obtain ⟨ka, kc, rfl, hq, _⟩ := ho.form
    exact ⟨ka, kc, rfl, hidMk ⟨h.keep k, hq, fun ad e => by have := ho.fr ad e; omega⟩⟩
  · have e3 : l3 = [] := List.eq_nil_iff_forall_not_mem.2 (fun y hy => hD ((hm y).1 hy).1)
    rw [g2 hD]
    subst e3
    exact ⟨none, 0, rfl, hidMk ⟨h.keep k, ⟨fun hp => absurd hp (by simp)⟩, fun ad e => (by cases e)⟩⟩
theorem hs_RAdd (hE : RE W0 r q ds ms rt) (h : Hs W0 r q ds ms pp hb ha hc hl la wb nb a3 d3 l3 w) (lc : Nat) (x : Cl) (hm : ∀ y, y ∈ l3 ↔ addE ms ds hl x = 0 ∧ (y = x ∨ y ∈ hl)) :
    Calls Tryz.prog 13 #[.pointer (some ⟨r, 0, none⟩), .slice la hl.length lc, clV x] w (RTl W0 r q ds ms pp hb ha hc hl la wb nb a3 d3 l3 (addE ms ds hl x)) := by
  refine (ref13_Add hE h.hr.rq la lc hl x h.hr.lq (by have := h.hr.hd.sm; omega)).mono ?_
  rintro e w' ⟨v, rfl, g1, g2, k⟩
  have l1 := h.hr.lt
  by_cases hD : addE ms ds hl x = 0
  · obtain ⟨b, o, hi, ho⟩ := g1 hD
    have hx : x ∉ hl := fun e => by
      unfold addE at hD
      rw [if_pos e] at hD
      split at hD <;> cases hD
    have hne : ∀ y, y ∈ hl → ixC ms ds y ≠ ixC ms ds x := fun y hy e => hx (by rw [← ixC_inj hE.ct (h.hr.hd.ok y hy) e]; exact hy)
    obtain ⟨r1, r2, r3⟩ := ins_is h.hr.hd.rs hne (insK_end h.hr.hd.rs hne hi)
    have e3 : (if b then o else o ++ [x]) = l3 := riseC_ext r1 h.nd.rs (fun y => by
      rw [hm, r2]
      simp [hD])
    rw [e3] at ho
    obtain ⟨ka, kc, rfl, hq, _⟩ := ho.form
    exact ⟨ka, kc, rfl, hidMk ⟨h.keep k, hq, fun ad e => by have := ho.fr ad e; omega⟩⟩
  · have e3 : l3 = [] := List.eq_nil_iff_forall_not_mem.2 (fun y hy => hD ((hm y).1 hy).1)
    rw [g2 hD]
    subst e3
    exact ⟨none, 0, rfl, hidMk ⟨h.keep k, ⟨fun hp => absurd hp (by simp)⟩, fun ad e => (by cases e)⟩⟩
end
/-- What a cell of a list holds at t. -/
def fCq (l : List Cl) (i t : Nat) : Int := [(clA l i).1, (clA l i).2.1, (clA l i).2.2.1, (clA l i).2.2.2.1, (clA l i).2.2.2.2].getD t 0
theorem Cq.csq {w : World} {a : Option Addr} {l : List Cl} (h : Cq w a l) (hb : l.length ≤ maxLen) : Cs w a l.length (fCq l) :=
  ⟨hb, fun hp => by
    obtain ⟨b, o, h1, h2, h3⟩ := h.cells hp
    refine ⟨b, o, h1, h2, fun i hi t ht => h3 i hi t ht _ ?_⟩
    have : t = 0 ∨ t = 1 ∨ t = 2 ∨ t = 3 ∨ t = 4 := by omega
    rcases this with rfl | rfl | rfl | rfl | rfl <;> rfl⟩
end Go.Proofs.YtmedgkccicbieaaGreat
namespace Go.Proofs.YtmedgkccicbieaaGreat
open Go.RowKit Go.Maps
set_option linter.unusedSimpArgs false
set_option linter.unusedVariables false

theorem inC_congrQ {ms : List ByteArray} {ds : List Dm} (h4 : ds.length ≤ 4) {cm : Int} {f g : Nat → Int} (h : ∀ k, k < 4 → f k = g k) {em : Int} {et : Nat → Int} : inC ms ds cm f em et ↔ inC ms ds cm g em et := by
  have hr : rightB ms ds cm f = rightB ms ds cm g := by
    have e : (rightB ms ds cm f = true) ↔ (rightB ms ds cm g = true) := by
      rw [right_iff, right_iff]
      constructor
      · rintro ⟨h1, h2⟩; exact ⟨h1, fun k hk => by rw [← h k hk]; exact h2 k hk⟩
      · rintro ⟨h1, h2⟩; exact ⟨h1, fun k hk => by rw [h k hk]; exact h2 k hk⟩
    cases hf : rightB ms ds cm f <;> cases hg : rightB ms ds cm g <;> simp_all
  unfold inC
  rw [hr]
  constructor
  · rintro ⟨h1, h2, h3, h5⟩; exact ⟨h1, h2, h3, fun j hj => by rw [← h j (by omega)]; exact h5 j hj⟩
  · rintro ⟨h1, h2, h3, h5⟩; exact ⟨h1, h2, h3, fun j hj => by rw [h j (by omega)]; exact h5 j hj⟩
/-- A leaf lies in the region if, and only if, it lies within one of the cells. -/
theorem lq_within {ms : List ByteArray} {ds : List Dm} (h : Ct ds ms) {n : Int} (hn : okC ms ds n) (l : List Cl) : regP ms ds l n ↔ (l.any fun y => wiC ms ds (lfQ ds n) y) = true := by
  rw [List.any_eq_true]
  have e : ∀ y : Cl, wiC ms ds (lfQ ds n) y = true ↔ n ∈ undL ms ds y.1 (clT y) := fun y => by
    rw [wi_iffQ, mem_und h, inC_congrQ h.d4 (g := lfF ds n ds.length) (fun k hk => by
      have : k = 0 ∨ k = 1 ∨ k = 2 ∨ k = 3 := by omega
      rcases this with rfl | rfl | rfl | rfl <;> rfl)]
    exact ⟨fun q => ⟨hn, q⟩, fun q => q.2⟩
  unfold regP
  constructor
  · rintro ⟨k, hk, hy⟩
    exact ⟨clA l k, by rw [clA_get hk]; exact List.getElem_mem hk, (e _).2 hy⟩
  · rintro ⟨y, hy, hw⟩
    obtain ⟨k, hk, rfl⟩ := List.getElem_of_mem hy
    exact ⟨k, hk, by rw [clA_get hk]; exact (e _).1 hw⟩
theorem cdK_rise (ms : List ByteArray) (ds : List Dm) (l : List Cl) (k : Nat) : RiseR (cdK ms ds l k) := by
  unfold RiseR cdK
  rw [List.pairwise_map]
  refine List.Pairwise.filter _ ?_
  exact List.pairwise_lt_range.imp (fun h => by omega)
theorem cdK_mem {ms : List ByteArray} {ds : List Dm} (h : Ct ds ms) (l : List Cl) {N : Nat} (hN : (N : Int) = mulK (fun k => leas ds k) ms.length 4) (x : Int) : x ∈ cdK ms ds l N ↔ regP ms ds l x := by
  unfold cdK
  simp only [List.mem_map, List.mem_filter, List.mem_range]
  constructor
  · rintro ⟨i, ⟨h1, h2⟩, rfl⟩
    exact (lq_within h ⟨by omega, by omega⟩ l).2 h2
  · intro hx
    have hok : okC ms ds x := by
      obtain ⟨k, hk, hy⟩ := hx
      exact ((mem_und h).1 hy).1
    have h2 := (lq_within h hok l).1 hx
    obtain ⟨g1, g2⟩ := hok
    refine ⟨x.toNat, ⟨by omega, ?_⟩, by omega⟩
    rw [show ((x.toNat : Nat) : Int) = x by omega]
    exact h2
theorem expd_cdK {ms : List ByteArray} {ds : List Dm} (h : Ct ds ms) (l : List Cl) {N : Nat} (hN : (N : Int) = mulK (fun k => leas ds k) ms.length 4) {m : List Rn} (hm : Norm m) (hx : ∀ x, inRg m x ↔ regP ms ds l x) : expd m = cdK ms ds l N :=
  riseR_ext (expd_rise hm) (cdK_rise _ _ _ _) (fun x => by rw [mem_expd, hx, cdK_mem h l hN])
/-- A set of the leaves within. -/
def RgQ (ms : List ByteArray) (ds : List Dm) (hl : List Cl) (v : Value) (w : World) : Prop := ∃ m, SetIs w v m ∧ Norm m ∧ (∀ x, inRg m x ↔ regP ms ds hl x) ∧ m.length ≤ 40000
/-- Their list, in a row of its own. -/
def AlQ (r : Nat) (L : List Int) (a : Option Addr) (w : World) : Prop := Sl .i64 w a L.length L ∧ ∀ ad, a = some ad → ad.block ≠ r
section
variable {W0 y : World} {r q : Nat} {ds : List Dm} {ms : List ByteArray} {pp : Option (Nat × Nat)} {hb : Nat} {ha : Option Addr} {hc : Nat} {hl : List Cl} {la : Option Addr} {lc : Nat} {rt : Nat → Nat} {s p : Nat} {tp : Nat → Nat} {rv : Nat → Option Addr × Nat} {x : Cl} {N : Nat}
theorem hz_Has (h : Hz W0 r q ds ms hb ha hc hl la y) : Calls Tryz.prog 16 #[.agg #[.slice ha hl.length hc], clV x] y fun e w' => e = .returned (.bool (decide (x ∈ hl))) ∧ Hz W0 r q ds ms hb ha hc hl la w' := by
  obtain ⟨pp, g⟩ := h
  refine (hold_Has ha hc hl x y g.hd.cq (by have := g.hd.sm; omega)).mono ?_
  rintro e w' ⟨rfl, k⟩
  exact ⟨rfl, pp, g.keep k⟩
theorem hz_RHas (h : Hz W0 r q ds ms hb ha hc hl la y) : Calls Tryz.prog 17 #[.slice la hl.length lc, clV x] y fun e w' => e = .returned (.bool (decide (x ∈ hl))) ∧ Hz W0 r q ds ms hb ha hc hl la w' := by
  obtain ⟨pp, g⟩ := h
  refine (ref13_Has la lc hl x y g.lq (by have := g.hd.sm; omega)).mono ?_
  rintro e w' ⟨rfl, k⟩
  exact ⟨rfl, pp, g.keep k⟩
theorem hz_Within (hS : SW W0 s p ds ms tp rv) (h : Hz W0 r q ds ms hb ha hc hl la y) : Calls Tryz.prog 18 #[.agg #[.slice ha hl.length hc], .pointer (some ⟨s, 0, none⟩), clV x] y fun e w' => e = .returned (.bool (hl.any fun z => wiC ms ds x z)) ∧ Hz W0 r q ds ms hb ha hc hl la w' := by
  obtain ⟨pp, g⟩ := h
  refine (hold_Within (hS.keep g.rq.kp) ha hc hl x g.hd.cq (by have := g.hd.sm; omega)).mono ?_
  rintro e w' ⟨rfl, k⟩
  exact ⟨rfl, pp, g.keep k⟩
theorem hz_RWithin (hE : RE W0 r q ds ms rt) (h : Hz W0 r q ds ms hb ha hc hl la y) : Calls Tryz.prog 19 #[.pointer (some ⟨r, 0, none⟩), .slice la hl.length lc, clV x] y fun e w' => e = .returned (.bool (hl.any fun z => wiC ms ds x z)) ∧ Hz W0 r q ds ms hb ha hc hl la w' := by
  obtain ⟨pp, g⟩ := h
  refine (ref13_Within hE g.rq la lc hl x g.lq (by have := g.hd.sm; omega) (fun ad e => by have := g.bl ad e; have := g.hr; omega)).mono ?_
  rintro e w' ⟨rfl, k⟩
  exact ⟨rfl, g.rr k⟩
theorem hz_Region (hS : SW W0 s p ds ms tp rv) (sm : Sm13 ds ms.length) (h : Hz W0 r q ds ms hb ha hc hl la y) : Calls Tryz.prog 21 #[.agg #[.slice ha hl.length hc], .pointer (some ⟨s, 0, none⟩)] y fun e w' => (∃ a n c, e = .returned (.agg #[.slice a n c]) ∧ RgQ ms ds hl (.agg #[.slice a n c]) w') ∧ Hz W0 r q ds ms hb ha hc hl la w' := by
  obtain ⟨pp, g⟩ := h
  refine (hold_Region (hS.keep g.rq.kp) ha hc hl g.hd.cq (by have := g.hd.sm; omega) (und_few hS.ct sm)).mono ?_
  rintro e w' ⟨v', m, rfl, hs, h1, h2, h3, k, _⟩
  obtain ⟨a, c, rfl, h4⟩ := hs
  exact ⟨⟨a, _, c, rfl, m, ⟨a, c, rfl, h4⟩, h1, h2, h3⟩, pp, g.keep k⟩
theorem hz_All (hct : Ct ds ms) (hN : (N : Int) = mulK (fun k => leas ds k) ms.length 4) (hN6 : N ≤ 1000) {v : Value} (hv : RgQ ms ds hl v y) (h : Hz W0 r q ds ms hb ha hc hl la y) : Calls Tryz.prog 22 #[v] y fun e w' => (∃ a c, e = .returned (.slice a (cdK ms ds hl N).length c) ∧ AlQ r (cdK ms ds hl N) a w') ∧ Hz W0 r q ds ms hb ha hc hl la w' := by
  obtain ⟨pp, g⟩ := h
  obtain ⟨m, h1, h2, h3, h4⟩ := hv
  have e1 := expd_cdK hct hl hN h2 h3
  have e2 := cdK_len ms ds hl N
  refine (region_AllF v m y h1 h2 (by rw [e1]; omega) (by omega)).mono ?_
  rw [e1]
  rintro e w' ⟨a, c, rfl, hs, hf, k⟩
  exact ⟨⟨a, c, rfl, hs, fun ad e => by have := hf ad e; have := g.lt; have := g.hr; omega⟩, pp, g.keep k⟩
theorem hz_RRegion (hE : RE W0 r q ds ms rt) (hN : (N : Int) = mulK (fun k => leas ds k) ms.length 4) (hN6 : N ≤ 1000) {a : Option Addr} (hv : AlQ r (cdK ms ds hl N) a y) (h : Hz W0 r q ds ms hb ha hc hl la y) : Calls Tryz.prog 23 #[.pointer (some ⟨r, 0, none⟩), .slice la hl.length lc] y fun e w' => (∃ va vc, e = .returned (.agg #[.slice va (cdK ms ds hl N).length vc]) ∧ Sl .i64 w' va (cdK ms ds hl N).length (cdK ms ds hl N) ∧ AlQ r (cdK ms ds hl N) a w') ∧ Hz W0 r q ds ms hb ha hc hl la w' := by
  obtain ⟨pp, g⟩ := h
  refine (ref13_Region hE g.rq la lc hl g.lq (by have := g.hd.sm; omega) (fun ad e => by have := g.bl ad e; have := g.hr; omega) N hN hN6).mono ?_
  rintro e w' ⟨⟨va, vc, rfl, hs⟩, k⟩
  exact ⟨⟨va, vc, rfl, hs, hv.1.chg k.2 (fun _ ad e f => hv.2 ad e f), hv.2⟩, g.rr k⟩
theorem hz_Ints {L : List Int} {a b : Option Addr} {c d : Nat} (ha' : AlQ r L a y) (hb' : Sl .i64 y b L.length L) (h : Hz W0 r q ds ms hb ha hc hl la y) : Calls Tryz.prog 20 #[.slice a L.length c, .slice b L.length d] y fun e w' => e = .returned (.bool true) ∧ Hz W0 r q ds ms hb ha hc hl la w' := by
  refine (ref_Ints a b L.length L.length c d L L y ha'.1 hb').mono ?_
  rintro e w' ⟨rfl, k⟩
  exact ⟨by simp, h.keep k⟩
end
end Go.Proofs.YtmedgkccicbieaaGreat
