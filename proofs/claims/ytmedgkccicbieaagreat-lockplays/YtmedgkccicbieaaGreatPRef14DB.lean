/- moietyref14: Drop. · moietyref14: Add. -/
import Derived.Test.YtmedgkccicbieaaGreatPRef14BB
namespace Go.Proofs.YtmedgkccicbieaaGreat
open Go.RowKit Go.Maps
set_option linter.unusedSimpArgs false
set_option linter.unusedVariables false

theorem ix_negL {ds : List Dm} {ms : List ByteArray} (h : Ct ds ms) {x : Cl} : ixC ms ds x < 0 ↔ rightB ms ds x.1 (clT x) = false := by
  by_cases hr : rightB ms ds x.1 (clT x) = true
  · have h0 := num_nonneg (f := fun k => (many ds k : Int)) (a := clT x) (right_iff.1 hr).1.1 (fun k => by have := clT_at h hr k; show (0 : Int) ≤ (many ds k : Int); omega) (fun k => (clT_at h hr k).1) 4
    unfold ixC
    rw [if_pos hr, hr]
    constructor
    · intro q; omega
    · intro q; cases q
  · have hf : rightB ms ds x.1 (clT x) = false := by cases hb : rightB ms ds x.1 (clT x) with | false => rfl | true => exact absurd hb hr
    unfold ixC
    rw [if_neg hr]
    exact ⟨fun _ => hf, fun _ => by omega⟩
def cutI (l : List Lk) (k t : Nat) : List Lk := if t ≤ k then l.take t else l.take k ++ (l.take t).drop (k + 1)
theorem cutI_at {l : List Lk} {k : Nat} (hk : k < l.length) : cutI l k (k + 1) = cutI l k k := by
  unfold cutI
  rw [if_neg (by omega), if_pos (Nat.le_refl _), List.drop_eq_nil_of_le (by simp; omega), List.append_nil]
theorem cutI_no {l : List Lk} {k t : Nat} (ht : t < l.length) (h : t ≠ k) : cutI l k (t + 1) = cutI l k t ++ [lkA l t] := by
  unfold cutI
  by_cases g : t < k
  · rw [if_pos (by omega), if_pos (by omega), take_nextLk ht]
  · rw [if_neg (by omega), if_neg (by omega), take_nextLk ht, List.drop_append_of_le_length (by simp; omega), List.append_assoc]
theorem cutI_len {l : List Lk} {k t : Nat} (ht : t ≤ l.length) : (cutI l k t).length ≤ t := by
  unfold cutI
  split
  · simp; omega
  · simp; omega
section
variable {W0 X : World} {r q : Nat} {ds : List Dm} {ms : List ByteArray} {rt : Nat → Nat} {y4 y5 : Value} {pp : Option (Nat × Nat)}
def RDropL (W0 : World) (r q : Nat) (ds : List Dm) (y4 y5 : Value) (pp : Option (Nat × Nat)) (X : World) (l : List Lk) (x : Cl) (u : ByteArray) (D : Int) (e : Ending) (w' : World) : Prop :=
  ∃ v : Value, e = .returned (.tuple #[v, .int .i64 D]) ∧ (D = 0 → ∃ k, k < l.length ∧ (lkA l k).1 = x ∧ (lkA l k).2 = u ∧ OwnLk w' X.heap.size v (l.take k ++ l.drop (k + 1))) ∧ (¬ D = 0 → v = .slice none 0 0) ∧ RR W0 r q ds y4 y5 pp X w'
set_option maxHeartbeats 8000000 in
set_option maxRecDepth 100000 in
theorem ref14_Drop (hE : RE W0 r q ds ms rt) (h : RQ W0 r q ds y4 y5 pp X) (a : Option Addr) (c : Nat) (l : List Lk) (x : Cl) (u : ByteArray) (hs : Lq X a l) (hl : l.length ≤ 1000) (huz : u.size ≤ maxLen) :
    Calls Tryz.prog 28 #[.pointer (some ⟨r, 0, none⟩), .slice a l.length c, clV x, .string u] X (RDropL W0 r q ds y4 y5 pp X l x u (ldropE ms ds l x u)) := by
  obtain ⟨cb, hcb⟩ : ∃ x, x = X.heap.size := ⟨_, rfl⟩
  obtain ⟨W1, hW1⟩ : ∃ V, V = X.alloc (.cells #[.int .i64 x.1, .int .i64 x.2.1, .int .i64 x.2.2.1, .int .i64 x.2.2.2.1, .int .i64 x.2.2.2.2] 29) := ⟨_, rfl⟩
  have k1 : Kept X W1 := by rw [hW1]; exact (Kept.refl X).alloc _
  have hs1 : W1.heap.size = X.heap.size + 1 := by rw [hW1]; simp
  have HK1 := hidMk k1
  have HB := hidMk (show ∀ Y, Kept W1 Y → _ from fun Y k => boxC_at X x 29 hcb Y (by rw [← hW1]; exact k))
  have HL := hidMk (hs.kept k1)
  have y0 := k1.cellp h.c0
  have hrl : r < W1.heap.size := cell_lt y0
  obtain ⟨b0, b1, b2, b3, b4⟩ := HB.out W1 (Kept.refl _)
  have hcl : cb < W1.heap.size := cell_lt b0
  have HNM := hidMk (ref_Name u huz W1)
  have HRT := hidMk (show ∀ Y, Kept W1 Y → Calls Tryz.prog 50 #[.pointer (some ⟨q, 0, none⟩), clV x] Y fun e w' => e = .returned (.bool (rightB ms ds x.1 (clT x))) ∧ Kept Y w' from fun Y k => by rw [clV_at]; exact ref6_Right (hE.rd.kept (h.kp.trans (k1.trans k))) hE.ct.d4 x.1 (clT x))
  have HFN := hidMk (show ∀ Y (uu : ByteArray), Kept W1 Y → _ from fun Y uu k => ref14_find a c l x uu Y (hs.kept (k1.trans k)) (by omega))
  obtain ⟨R, hR⟩ : ∃ R, rightB ms ds x.1 (clT x) = R := ⟨_, rfl⟩
  rw [hR] at HRT
  have HIX := hidMk (show ixC ms ds x < 0 ↔ R = false from by rw [← hR]; exact ix_negL hE.ct)
  have HRR := hidMk (show RR W0 r q ds y4 y5 pp X W1 from h.rr k1)
  have HRK := hidMk (show ∀ Y, Kept W1 Y → RR W0 r q ds y4 y5 pp X Y from fun Y k => h.rr (k1.trans k))
  have HE3 := hidMk (show nameB u = false → ldropE ms ds l x u = 3 from fun e => by
    have hA : askE ms ds x u = 3 := if_pos e
    unfold ldropE; rw [if_neg (by rw [hA]; decide), hA])
  have HE17 := hidMk (show nameB u = true → R = false → ldropE ms ds l x u = 17 from fun e e2 => by
    have hA : askE ms ds x u = 17 := by unfold askE; rw [if_neg (by rw [e]; decide), if_pos (HIX.out.2 e2)]
    unfold ldropE; rw [if_neg (by rw [hA]; decide), hA])
  have hA0 : nameB u = true → R = true → askE ms ds x u = 0 := fun e e2 => by
    unfold askE; rw [if_neg (by rw [e]; decide), if_neg (fun q => by have := HIX.out.1 q; rw [e2] at this; cases this)]
  have HE10 := hidMk (show nameB u = true → R = true → (∀ t, t < l.length → fnB x ⟨#[]⟩ (lkA l t) = false) → ldropE ms ds l x u = 10 from fun e e2 e3 => by
    unfold ldropE
    rw [if_pos (hA0 e e2), if_pos (anyL_no fun t ht => by have := of_decide_eq_false (e3 t ht); exact decide_eq_false fun g => this ⟨g, .inl rfl⟩)])
  have HE12 := hidMk (show nameB u = true → R = true → (∃ k, k < l.length ∧ fnB x ⟨#[]⟩ (lkA l k) = true) → (∀ t, t < l.length → fnB x u (lkA l t) = false) → ldropE ms ds l x u = 12 from fun e e2 e3 e4 => by
    obtain ⟨k, hk, e3⟩ := e3
    have e3 := of_decide_eq_true e3
    unfold ldropE
    rw [if_pos (hA0 e e2), if_neg (by rw [anyL_hit hk (decide_eq_true e3.1)]; decide), if_neg (by
      unfold twB
      rw [anyL_no fun t ht => by have := of_decide_eq_false (e4 t ht); exact decide_eq_false fun g => this ⟨g.1, .inr g.2⟩]
      decide)])
  have HE0 := hidMk (show nameB u = true → R = true → (∃ k, k < l.length ∧ fnB x u (lkA l k) = true) → ldropE ms ds l x u = 0 from fun e e2 e3 => by
    obtain ⟨k, hk, e3⟩ := e3
    have e3 := of_decide_eq_true e3
    have hu2 : (lkA l k).2 = u := e3.2.elim (fun g => by rw [g] at e; exact absurd e (by decide +kernel)) id
    unfold ldropE
    rw [if_pos (hA0 e e2), if_neg (by rw [anyL_hit hk (decide_eq_true e3.1)]; decide), if_pos (by
      unfold twB
      exact anyL_hit hk (decide_eq_true ⟨e3.1, hu2⟩))])
  have HUE := hidMk (show nameB u = true → u ≠ ⟨#[]⟩ from fun e g => by rw [g] at e; exact absurd e (by decide +kernel))
  obtain ⟨D, hD⟩ : ∃ D, ldropE ms ds l x u = D := ⟨_, rfl⟩
  rw [hD] at HE3 HE17 HE10 HE12 HE0 ⊢
  have HS1 := hidMk hs1
  clear h hs k1 hR hD hs1 hA0
  unfold clV at HRT HFN ⊢
  go_enter Tryz.func28, Tryz.ntmps28
  go_wp2_with fail
  rw [← hW1, ← hcb]
  clear hW1 hcb
  refine HNM.out.mono ?_
  rintro e w9 ⟨rfl, hw9⟩
  rw [hw9]
  clear hw9
  cases hnm : nameB u with
  | false =>
    have hD := HE3.out hnm
    subst hD
    go_wp2_with fail
    go_ret2
    exact ⟨_, rfl, fun e => absurd e (by decide), fun _ => rfl, HRR.out⟩
  | true =>
  go_wp2_with fail
  go_region_held3 (fun w' => w'.cell? ⟨r, 0, none⟩ = some (.pointer (some ⟨q, 0, none⟩)) ∧ w'.cell? ⟨cb, 0, none⟩ = some (.int .i64 x.1) ∧ w'.cell? ⟨cb, 1, none⟩ = some (.int .i64 x.2.1) ∧ w'.cell? ⟨cb, 2, none⟩ = some (.int .i64 x.2.2.1) ∧ w'.cell? ⟨cb, 3, none⟩ = some (.int .i64 x.2.2.2.1) ∧ w'.cell? ⟨cb, 4, none⟩ = some (.int .i64 x.2.2.2.2))
    (first | assumption | (refine ⟨Kept.cellp ?_ y0, Kept.cellp ?_ b0, Kept.cellp ?_ b1, Kept.cellp ?_ b2, Kept.cellp ?_ b3, Kept.cellp ?_ b4⟩ <;> ((repeat (first | (with_reducible exact Kept.refl _) | (with_reducible refine Kept.alloc ?_ _) | (with_reducible refine Kept.drew ?_) | (with_reducible refine Kept.drewN ?_ _) | (with_reducible refine Kept.trans ?_ (by assumption)))); done)))
    ((go_at_call 50; refine (HRT.out _ (by (repeat (first | (with_reducible exact Kept.refl _) | (with_reducible refine Kept.alloc ?_ _) | (with_reducible refine Kept.drew ?_) | (with_reducible refine Kept.drewN ?_ _) | (with_reducible refine Kept.trans ?_ (by assumption)))))).mono ?_; rintro e w2 ⟨rfl, k2⟩; have HK2 := hidMk (show Kept W1 w2 from by (repeat (first | (with_reducible exact Kept.refl _) | (with_reducible refine Kept.alloc ?_ _) | (with_reducible refine Kept.drew ?_) | (with_reducible refine Kept.drewN ?_ _) | (with_reducible refine Kept.trans ?_ (by assumption)))))))
  cases R with
  | false =>
    have hD := HE17.out hnm rfl
    subst hD
    go_wp2_with fail
    go_ret2
    exact ⟨_, rfl, fun e => absurd e (by decide), fun _ => rfl, HRK.out _ HK2.out⟩
  | true =>
    clear b0 b1 b2 b3 b4
    obtain ⟨b0, b1, b2, b3, b4⟩ := HB.out _ HK2.out
    have HF1 := hidMk (HFN.out _ ⟨#[]⟩ HK2.out)
    have HF2 := hidMk (show ∀ Y, Kept W1 Y → _ from fun Y k => HFN.out Y u k)
    clear HFN k2
    go_wp2_with fail
    refine HF1.out.mono ?_
    rintro e w3 ⟨z, rfl, hz, k3⟩
    have HK3 := hidMk (HK2.out.trans k3)
    clear k3 b0 b1 b2 b3 b4 HF1
    obtain ⟨b0, b1, b2, b3, b4⟩ := HB.out _ HK3.out
    rcases hz with ⟨k0, rfl, hk0, hf0⟩ | ⟨rfl, hf0⟩
    rotate_left
    · have hD := (by first | exact HE10.out hnm rfl hf0 | exact HE10.out hnm trivial hf0 | exact HE10.out hnm hf0 : D = 10)
      subst hD
      clear hf0
      go_wp2_with fail
      go_ret2
      exact ⟨_, rfl, fun e => absurd e (by decide), fun _ => rfl, HRK.out _ HK3.out⟩
    have hk00 : ¬ ((k0 : Int) < 0) := by omega
    have HF0 := hidMk (show ∃ k, k < l.length ∧ fnB x ⟨#[]⟩ (lkA l k) = true from ⟨k0, hk0, hf0⟩)
    clear hf0
    go_wp2_with fail
    refine (HF2.out _ HK3.out).mono ?_
    rintro e w4 ⟨z, rfl, hz, k4⟩
    have HK4 := hidMk (HK3.out.trans k4)
    clear k4 b0 b1 b2 b3 b4 HF2
    rcases hz with ⟨K, rfl, hKl, hfK⟩ | ⟨rfl, hf1⟩
    rotate_left
    · have hD := (by first | exact HE12.out hnm rfl HF0.out hf1 | exact HE12.out hnm trivial HF0.out hf1 | exact HE12.out hnm HF0.out hf1 : D = 12)
      subst hD
      clear hf1
      go_wp2_with fail
      go_ret2
      exact ⟨_, rfl, fun e => absurd e (by decide), fun _ => rfl, HRK.out _ HK4.out⟩
    have hD := (by first | exact HE0.out hnm rfl ⟨K, hKl, hfK⟩ | exact HE0.out hnm trivial ⟨K, hKl, hfK⟩ | exact HE0.out hnm ⟨K, hKl, hfK⟩ : D = 0)
    subst hD
    have HFK := hidMk (show (lkA l K).1 = x ∧ (lkA l K).2 = u from by
      have g := of_decide_eq_true hfK
      exact ⟨g.1, g.2.elim (fun e => absurd e (HUE.out hnm)) id⟩)
    have hK00 : ¬ ((K : Int) < 0) := by omega
    clear hfK hk00
    go_wp2_with fail
    go_loopg [11, 12] l.length (fun g v i wr => ∃ k : Nat, k + g = l.length ∧ i = .int .i64 k ∧ Hid (OwnLk wr W1.heap.size v (cutI l K k) ∧ Kept W1 wr))
    case atStart => exact ⟨0, by omega, rfl, hidMk ⟨by simpa [cutI] using ownLk_nil _ _, HK4.out⟩⟩
    case round =>
      obtain ⟨k, hkg, rfl, HS⟩ := hrel
      have HKG := hidMk hkg
      by_cases hk : k < l.length
      · have hk' : (k : Int) < (l.length : Int) := by omega
        obtain ⟨b, o, rfl⟩ := HL.out.form (by omega)
        obtain ⟨e0, e1, e2, e3, e4, e5⟩ := (HL.out.kept HS.out.2).at hk
        have HK := hidMk HS.out
        clear HS hkg
        by_cases he : k = K
        · have HT := hidMk (show cutI l K (k + 1) = cutI l K k from by rw [he]; exact cutI_at hKl)
          have he1 : ((k : Int) == (K : Int)) = true := by simp [he]
          have he2 : ((k : Int) != (K : Int)) = false := by simp [he]
          clear he
          generalize lkA l k = y at *
          go_wp2_with fail
          go_roundg (gk - 1)
          case measure => have := HKG.out; omega
          case rel => exact ⟨k + 1, by have := HKG.out; omega, by go_num, hidMk ⟨by rw [HT.out]; exact HK.out.1, HK.out.2⟩⟩
        · have HT := hidMk (cutI_no hk he)
          have he1 : ((k : Int) == (K : Int)) = false := by simp; omega
          have he2 : ((k : Int) != (K : Int)) = true := by simp; omega
          have hlen := cutI_len (l := l) (k := K) (t := k) (by omega)
          have hlk : (cutI l K k).length ≤ 1000 := by omega
          have hwr : W1.heap.size ≤ wr.heap.size := HK.out.2.size
          clear he hlen
          generalize lkA l k = y at *
          generalize cutI l K k = acc at *
          go_wp2_with (at_builtin; refine wpList_catLk _ rfl _ _ rfl W1.heap.size _ acc [y] rfl (HK.out.1.kept ((Kept.refl wr).alloc _)) (by simp; omega) (some ⟨wr.heap.size, 0, none⟩) 1 rfl (lq_box wr y _ rfl) (fun e => (by cases e)) (by simp; omega) ?_)
          intro v5 w5 o5 k5
          have HO5 := hidMk o5
          have HK5 := hidMk (show Kept W1 w5 from k5.kept (HK.out.2.alloc _) (fun j hj => (HK.out.1.lt j hj).1))
          clear o5 k5
          go_wp2_with fail
          go_roundg (gk - 1)
          case measure => have := HKG.out; omega
          case rel => exact ⟨k + 1, by have := HKG.out; omega, by go_num, hidMk ⟨by rw [HT.out]; exact HO5.out, HK5.out⟩⟩
      · have hk' : ¬ ((k : Int) < (l.length : Int)) := by omega
        obtain rfl : k = l.length := by omega
        have HC := hidMk (show cutI l K l.length = l.take K ++ l.drop (K + 1) from by unfold cutI; rw [if_neg (by omega), List.take_of_length_le (Nat.le_refl _)])
        have HK := hidMk HS.out
        clear HS
        go_wp2_with fail
        go_ret2
        exact ⟨_, rfl, fun _ => ⟨K, hKl, HFK.out.1, HFK.out.2, by rw [← HC.out]; exact HK.out.1.base (by have := HS1.out; omega)⟩, fun e => absurd rfl e, HRK.out _ HK.out.2⟩
end

def InsL (f : Lk → Int) (l : List Lk) (x : Lk) (k : Nat) (b : Bool) (o : List Lk) : Prop :=
  (b = false ∧ (∀ t, t < k → ¬ f x < f (lkA l t)) ∧ o = l.take k) ∨ (b = true ∧ ∃ i, i < k ∧ (∀ t, t < i → ¬ f x < f (lkA l t)) ∧ f x < f (lkA l i) ∧ o = l.take i ++ x :: (l.take k).drop i)
theorem insL_len {f : Lk → Int} {l : List Lk} {x : Lk} {k : Nat} {b : Bool} {o : List Lk} (h : InsL f l x k b o) (hk : k ≤ l.length) : o.length ≤ k + 1 := by
  rcases h with ⟨_, _, rfl⟩ | ⟨_, i, hi, _, _, rfl⟩
  · simp; omega
  · simp; omega
theorem insL_no {f : Lk → Int} {l : List Lk} {x : Lk} {k : Nat} {o : List Lk} (h : InsL f l x k false o) (hk : k < l.length) (hn : ¬ f x < f (lkA l k)) : InsL f l x (k + 1) false (o ++ [lkA l k]) := by
  rcases h with ⟨_, h1, rfl⟩ | ⟨e, _⟩
  · refine .inl ⟨rfl, fun t ht => ?_, (take_nextLk hk).symm⟩
    by_cases e : t = k
    · subst e; exact hn
    · exact h1 t (by omega)
  · cases e
theorem insL_yes {f : Lk → Int} {l : List Lk} {x : Lk} {k : Nat} {o : List Lk} (h : InsL f l x k false o) (hk : k < l.length) (hn : f x < f (lkA l k)) : InsL f l x (k + 1) true (o ++ [x] ++ [lkA l k]) := by
  rcases h with ⟨_, h1, rfl⟩ | ⟨e, _⟩
  · refine .inr ⟨rfl, k, by omega, h1, hn, ?_⟩
    rw [take_nextLk hk, List.drop_append_of_le_length (by simp; omega), List.drop_of_length_le (by simp; omega)]
    simp
  · cases e
theorem insL_go {f : Lk → Int} {l : List Lk} {x : Lk} {k : Nat} {o : List Lk} (h : InsL f l x k true o) (hk : k < l.length) : InsL f l x (k + 1) true (o ++ [lkA l k]) := by
  rcases h with ⟨e, _⟩ | ⟨_, i, hi, h1, h2, rfl⟩
  · cases e
  · refine .inr ⟨rfl, i, by omega, h1, h2, ?_⟩
    rw [take_nextLk hk, List.drop_append_of_le_length (by simp; omega)]
    simp
def InsLk (f : Lk → Int) (l : List Lk) (x : Lk) (l' : List Lk) : Prop := ∃ i, i ≤ l.length ∧ (∀ k, k < i → f (lkA l k) < f x) ∧ (∀ k, i ≤ k → k < l.length → f x ≤ f (lkA l k)) ∧ l' = l.take i ++ x :: l.drop i
theorem insL_end {f : Lk → Int} {l : List Lk} {x : Lk} {b : Bool} {o : List Lk} (hr : ∀ i j, i < j → j < l.length → f (lkA l i) < f (lkA l j)) (hm : ∀ t, t < l.length → f (lkA l t) ≠ f x) (h : InsL f l x l.length b o) : InsLk f l x (if b then o else o ++ [x]) := by
  rcases h with ⟨rfl, h1, rfl⟩ | ⟨rfl, i, hi, h1, h2, rfl⟩
  · refine ⟨l.length, Nat.le_refl _, fun t ht => ?_, fun t h3 h4 => absurd h4 (by omega), by simp⟩
    have := h1 t ht; have := hm t ht; omega
  · refine ⟨i, by omega, fun t ht => ?_, fun t h3 h4 => ?_, by simp⟩
    · have := h1 t ht; have := hm t (by omega); omega
    · by_cases e : t = i
      · subst e; omega
      · have := hr i t (by omega) h4; omega
theorem insLk_is {f : Lk → Int} {l l' : List Lk} {x : Lk} (hr : l.Pairwise fun x y => f x < f y) (hne : ∀ y, y ∈ l → f y ≠ f x) (h : InsLk f l x l') : (l'.Pairwise fun x y => f x < f y) ∧ (∀ y, y ∈ l' ↔ y = x ∨ y ∈ l) ∧ l'.length = l.length + 1 := by
  obtain ⟨i, hi, h1, h2, rfl⟩ := h
  have hm : ∀ y, y ∈ l ↔ y ∈ l.take i ∨ y ∈ l.drop i := fun y => by
    conv => lhs; rw [← List.take_append_drop i l]
    rw [List.mem_append]
  have ht : ∀ y, y ∈ l.take i → f y < f x := fun y hy => by
    obtain ⟨k, hk, rfl⟩ := List.getElem_of_mem hy
    rw [List.length_take] at hk
    rw [List.getElem_take, ← lkA_get (by omega)]
    exact h1 k (by omega)
  have hd : ∀ y, y ∈ l.drop i → f x < f y := fun y hy => by
    have hy2 := (hm y).2 (.inr hy)
    obtain ⟨k, hk, rfl⟩ := List.getElem_of_mem hy
    rw [List.length_drop] at hk
    rw [List.getElem_drop] at hy2 ⊢
    have := h2 (i + k) (by omega) (by omega)
    rw [lkA_get (by omega)] at this
    have := hne _ hy2
    omega
  refine ⟨?_, fun y => ?_, by simp; omega⟩
  · rw [List.pairwise_append, List.pairwise_cons]
    refine ⟨hr.sublist (List.take_sublist _ _), ⟨fun y hy => hd y hy, hr.sublist (List.drop_sublist _ _)⟩, fun y hy z hz => ?_⟩
    rcases List.mem_cons.1 hz with rfl | hz
    · exact ht y hy
    · have := ht y hy; have := hd z hz; omega
  · rw [List.mem_append, List.mem_cons, hm]
    constructor
    · rintro (h | h | h)
      · exact .inr (.inl h)
      · exact .inl h
      · exact .inr (.inr h)
    · rintro (h | h | h)
      · exact .inr (.inl h)
      · exact .inl h
      · exact .inr (.inr h)
section
variable {W0 X : World} {r q : Nat} {ds : List Dm} {ms : List ByteArray} {rt : Nat → Nat} {y4 y5 : Value} {pp : Option (Nat × Nat)}
def RAddL (W0 : World) (r q : Nat) (ds : List Dm) (y4 y5 : Value) (pp : Option (Nat × Nat)) (X : World) (f : Lk → Int) (l : List Lk) (x : Lk) (D : Int) (e : Ending) (w' : World) : Prop :=
  ∃ v : Value, e = .returned (.tuple #[v, .int .i64 D]) ∧ (D = 0 → ∃ b o, InsL f l x l.length b o ∧ OwnLk w' X.heap.size v (if b then o else o ++ [x])) ∧ (¬ D = 0 → v = .slice none 0 0) ∧ RR W0 r q ds y4 y5 pp X w'
set_option maxHeartbeats 8000000 in
set_option maxRecDepth 100000 in
theorem ref14_Add (hE : RE W0 r q ds ms rt) (h : RQ W0 r q ds y4 y5 pp X) (a : Option Addr) (c : Nat) (l : List Lk) (x : Cl) (u : ByteArray) (hs : Lq X a l) (hl : l.length ≤ 1000) (huz : u.size ≤ maxLen) (hra : ∀ ad, a = some ad → ad.block ≠ r) (N : Nat) (hN : (N : Int) = mulK (fun k => leas ds k) ms.length 4) (hN6 : N ≤ 1000)
    (hF : (∃ n, n ∈ foK ms ds l u N ∧ n ∈ undC ms ds x) ↔ lokB ms ds l u x = true) (hne : laddE ms ds l x u = 0 → ∀ t, t < l.length → ixC ms ds x ≠ ixC ms ds (lkA l t).1) :
    Calls Tryz.prog 30 #[.pointer (some ⟨r, 0, none⟩), .slice a l.length c, clV x, .string u] X (RAddL W0 r q ds y4 y5 pp X (fun y => ixC ms ds y.1) l (x, u) (laddE ms ds l x u)) := by
  obtain ⟨cb, hcb⟩ : ∃ x, x = X.heap.size := ⟨_, rfl⟩
  obtain ⟨W1, hW1⟩ : ∃ V, V = X.alloc (.cells #[.int .i64 x.1, .int .i64 x.2.1, .int .i64 x.2.2.1, .int .i64 x.2.2.2.1, .int .i64 x.2.2.2.2] 29) := ⟨_, rfl⟩
  have k1 : Kept X W1 := by rw [hW1]; exact (Kept.refl X).alloc _
  have hs1 : W1.heap.size = X.heap.size + 1 := by rw [hW1]; simp
  have HK1 := hidMk k1
  have HB := hidMk (show ∀ Y, Kept W1 Y → _ from fun Y k => boxC_at X x 29 hcb Y (by rw [← hW1]; exact k))
  have HL := hidMk (hs.kept k1)
  have y0 := k1.cellp h.c0
  have hrl : r < W1.heap.size := cell_lt y0
  obtain ⟨b0, b1, b2, b3, b4⟩ := HB.out W1 (Kept.refl _)
  have hcl : cb < W1.heap.size := cell_lt b0
  have HNM := hidMk (ref_Name u huz W1)
  have HRT := hidMk (show ∀ Y, Kept W1 Y → Calls Tryz.prog 50 #[.pointer (some ⟨q, 0, none⟩), clV x] Y fun e w' => e = .returned (.bool (rightB ms ds x.1 (clT x))) ∧ Kept Y w' from fun Y k => by rw [clV_at]; exact ref6_Right (hE.rd.kept (h.kp.trans (k1.trans k))) hE.ct.d4 x.1 (clT x))
  have HFN := hidMk (show ∀ Y (uu : ByteArray), Kept W1 Y → _ from fun Y uu k => ref14_find a c l x uu Y (hs.kept (k1.trans k)) (by omega))
  obtain ⟨R, hR⟩ : ∃ R, rightB ms ds x.1 (clT x) = R := ⟨_, rfl⟩
  rw [hR] at HRT
  have HIX := hidMk (show ixC ms ds x < 0 ↔ R = false from by rw [← hR]; exact ix_negL hE.ct)
  have HRR := hidMk (show RR W0 r q ds y4 y5 pp X W1 from h.rr k1)
  have HRK := hidMk (show ∀ Y, Kept W1 Y → RR W0 r q ds y4 y5 pp X Y from fun Y k => h.rr (k1.trans k))
  have hcr : cb ≠ r := by have := h.lt; omega
  have HE3 := hidMk (show nameB u = false → laddE ms ds l x u = 3 from fun e => by
    have hA : askE ms ds x u = 3 := if_pos e
    unfold laddE; rw [if_neg (by rw [hA]; decide), hA])
  have HE17 := hidMk (show nameB u = true → R = false → laddE ms ds l x u = 17 from fun e e2 => by
    have hA : askE ms ds x u = 17 := by unfold askE; rw [if_neg (by rw [e]; decide), if_pos (HIX.out.2 e2)]
    unfold laddE; rw [if_neg (by rw [hA]; decide), hA])
  have hA0 : nameB u = true → R = true → askE ms ds x u = 0 := fun e e2 => by
    unfold askE; rw [if_neg (by rw [e]; decide), if_neg (fun q => by have := HIX.out.1 q; rw [e2] at this; cases this)]
  have HUE := hidMk (show nameB u = true → u ≠ ⟨#[]⟩ from fun e g => by rw [g] at e; exact absurd e (by decide +kernel))
  have tw1 : nameB u = true → (∃ k, k < l.length ∧ fnB x u (lkA l k) = true) → twB l x u = true := fun e e3 => by
    obtain ⟨k, hk, e3⟩ := e3
    have e3 := of_decide_eq_true e3
    exact anyL_hit hk (decide_eq_true ⟨e3.1, e3.2.elim (fun g => absurd g (HUE.out e)) id⟩)
  have tw0 : (∀ t, t < l.length → fnB x u (lkA l t) = false) → ¬ twB l x u = true := fun e3 => by
    unfold twB
    rw [anyL_no fun t ht => by have := of_decide_eq_false (e3 t ht); exact decide_eq_false fun g => this ⟨g.1, .inr g.2⟩]
    decide
  have HE4 := hidMk (show nameB u = true → R = true → (∃ k, k < l.length ∧ fnB x u (lkA l k) = true) → laddE ms ds l x u = 4 from fun e e2 e3 => by
    unfold laddE; rw [if_pos (hA0 e e2), if_pos (tw1 e e3)])
  have HE12 := hidMk (show nameB u = true → R = true → (∀ t, t < l.length → fnB x u (lkA l t) = false) → (∃ n, n ∈ foK ms ds l u N ∧ n ∈ undC ms ds x) → laddE ms ds l x u = 12 from fun e e2 e3 e4 => by
    unfold laddE; rw [if_pos (hA0 e e2), if_neg (tw0 e3), if_pos (hF.1 e4)])
  have HE14 := hidMk (show nameB u = true → R = true → (∀ t, t < l.length → fnB x u (lkA l t) = false) → (¬ ∃ n, n ∈ foK ms ds l u N ∧ n ∈ undC ms ds x) → 16 ≤ l.length → laddE ms ds l x u = 14 from fun e e2 e3 e4 e5 => by
    unfold laddE; rw [if_pos (hA0 e e2), if_neg (tw0 e3), if_neg (fun g => e4 (hF.2 g)), if_pos e5])
  have HE0 := hidMk (show nameB u = true → R = true → (∀ t, t < l.length → fnB x u (lkA l t) = false) → (¬ ∃ n, n ∈ foK ms ds l u N ∧ n ∈ undC ms ds x) → ¬ 16 ≤ l.length → laddE ms ds l x u = 0 from fun e e2 e3 e4 e5 => by
    unfold laddE; rw [if_pos (hA0 e e2), if_neg (tw0 e3), if_neg (fun g => e4 (hF.2 g)), if_neg e5])
  have HFO := hidMk (show ∀ Y, Kept W1 Y → _ from fun Y k => ref14_Foreign hE (h.keep (k1.trans k)) a c l u (hs.kept (k1.trans k)) hl hra N hN hN6)
  have HRJ := hidMk (show ∀ Y Z, Kept W1 Y → RR W0 r q ds y4 y5 pp Y Z → RR W0 r q ds y4 y5 pp X Z from fun Y Z k hz => RR.trans (h.keep (k1.trans k)) (Nx.refl _ _) (Chg.of_kept (k1.trans k)) hz)
  have HIN := hidMk (show ∀ Y p1 (n : Int), RQ W0 r q ds y4 y5 p1 Y → Calls Tryz.prog 77 #[.pointer (some ⟨r, 0, none⟩), clV x, .int .i64 n] Y fun e w' => e = .returned (.bool (decide (n ∈ undC ms ds x))) ∧ RR W0 r q ds y4 y5 p1 Y w' from fun Y p1 n hy => by
    rw [clV_at]
    refine (r7_Inside hE hy x.1 (clT x) n).mono ?_
    rintro e w' ⟨b, rfl, hb, hr⟩
    refine ⟨?_, hr⟩
    rw [show b = decide (n ∈ undC ms ds x) from bool_is (hb.trans (mem_und hE.ct).symm)])
  have HAD := hidMk (show ∀ Y p1 (y : Lk), RQ W0 r q ds y4 y5 p1 Y → ixC ms ds x ≠ ixC ms ds y.1 → Calls Tryz.prog 78 #[.pointer (some ⟨r, 0, none⟩), lkV (x, u), lkV y] Y fun e w' => e = .returned (.bool (decide (ixC ms ds x < ixC ms ds y.1))) ∧ Kept Y w' from fun Y p1 y hy hn => ref14_ahead hE hy (x, u) y hn)
  have hel := foK_len ms ds l u N
  obtain ⟨EL, hEL⟩ : ∃ EL, foK ms ds l u N = EL := ⟨_, rfl⟩
  rw [hEL] at HE12 HE14 HE0 HFO hel
  obtain ⟨UL, hUL⟩ : ∃ UL, undC ms ds x = UL := ⟨_, rfl⟩
  rw [hUL] at HE12 HE14 HE0 HIN
  obtain ⟨D, hD⟩ : ∃ D, laddE ms ds l x u = D := ⟨_, rfl⟩
  rw [hD] at HE3 HE17 HE4 HE12 HE14 HE0 hne ⊢
  have HNE := hidMk hne
  obtain ⟨f, hf⟩ : ∃ f : Lk → Int, f = fun y => ixC ms ds y.1 := ⟨_, rfl⟩
  rw [← hf]
  have HFF := hidMk (show ∀ y : Lk, f y = ixC ms ds y.1 from fun y => by rw [hf])
  have HRA := hidMk hra
  have HS1 := hidMk hs1
  have HRL := hidMk hrl
  clear h hs k1 hR hD hs1 hA0 tw1 tw0 hra hF hne hf hEL hUL hE
  unfold clV at HRT HFN HIN ⊢
  unfold lkV at HAD
  go_enter Tryz.func30, Tryz.ntmps30
  go_wp2_with fail
  rw [← hW1, ← hcb]
  clear hW1 hcb
  refine HNM.out.mono ?_
  rintro e w9 ⟨rfl, hw9⟩
  rw [hw9]
  clear hw9
  cases hnm : nameB u with
  | false =>
    have hD := HE3.out hnm
    subst hD
    go_wp2_with fail
    go_ret2
    exact ⟨_, rfl, fun e => absurd e (by decide), fun _ => rfl, HRR.out⟩
  | true =>
  go_wp2_with fail
  go_region_held3 (fun w' => w'.cell? ⟨r, 0, none⟩ = some (.pointer (some ⟨q, 0, none⟩)) ∧ w'.cell? ⟨cb, 0, none⟩ = some (.int .i64 x.1) ∧ w'.cell? ⟨cb, 1, none⟩ = some (.int .i64 x.2.1) ∧ w'.cell? ⟨cb, 2, none⟩ = some (.int .i64 x.2.2.1) ∧ w'.cell? ⟨cb, 3, none⟩ = some (.int .i64 x.2.2.2.1) ∧ w'.cell? ⟨cb, 4, none⟩ = some (.int .i64 x.2.2.2.2))
    (first | assumption | (refine ⟨Kept.cellp ?_ y0, Kept.cellp ?_ b0, Kept.cellp ?_ b1, Kept.cellp ?_ b2, Kept.cellp ?_ b3, Kept.cellp ?_ b4⟩ <;> ((repeat (first | (with_reducible exact Kept.refl _) | (with_reducible refine Kept.alloc ?_ _) | (with_reducible refine Kept.drew ?_) | (with_reducible refine Kept.drewN ?_ _) | (with_reducible refine Kept.trans ?_ (by assumption)))); done)))
    ((go_at_call 50; refine (HRT.out _ (by (repeat (first | (with_reducible exact Kept.refl _) | (with_reducible refine Kept.alloc ?_ _) | (with_reducible refine Kept.drew ?_) | (with_reducible refine Kept.drewN ?_ _) | (with_reducible refine Kept.trans ?_ (by assumption)))))).mono ?_; rintro e w2 ⟨rfl, k2⟩; have HK2 := hidMk (show Kept W1 w2 from by (repeat (first | (with_reducible exact Kept.refl _) | (with_reducible refine Kept.alloc ?_ _) | (with_reducible refine Kept.drew ?_) | (with_reducible refine Kept.drewN ?_ _) | (with_reducible refine Kept.trans ?_ (by assumption)))))))
  cases R with
  | false =>
    have hD := HE17.out hnm rfl
    subst hD
    go_wp2_with fail
    go_ret2
    exact ⟨_, rfl, fun e => absurd e (by decide), fun _ => rfl, HRK.out _ HK2.out⟩
  | true =>
    clear b0 b1 b2 b3 b4
    obtain ⟨b0, b1, b2, b3, b4⟩ := HB.out _ HK2.out
    have HF1 := hidMk (HFN.out _ u HK2.out)
    clear HFN k2
    go_wp2_with fail
    refine HF1.out.mono ?_
    rintro e w3 ⟨z, rfl, hz, k3⟩
    have HK3 := hidMk (HK2.out.trans k3)
    clear k3 b0 b1 b2 b3 b4 HF1 y0
    rcases hz with ⟨k0, rfl, hk0, hf0⟩ | ⟨rfl, hf0⟩
    · have hD := (by first | exact HE4.out hnm rfl ⟨k0, hk0, hf0⟩ | exact HE4.out hnm trivial ⟨k0, hk0, hf0⟩ | exact HE4.out hnm ⟨k0, hk0, hf0⟩ : D = 4)
      subst hD
      have hk00 : (0 : Int) ≤ (k0 : Int) := by omega
      clear hf0
      go_wp2_with fail
      go_ret2
      exact ⟨_, rfl, fun e => absurd e (by decide), fun _ => rfl, HRK.out _ HK3.out⟩
    have HF0 := hidMk hf0
    clear hf0
    go_wp2_with fail
    refine (HFO.out _ HK3.out).mono ?_
    rintro e w4 ⟨⟨va, vc, rfl, hsl, hfr⟩, hr4⟩
    have HR4 := hidMk (HRJ.out _ _ HK3.out hr4)
    obtain ⟨fb, hfb⟩ : ∃ fb, fb = w4.heap.size := ⟨_, rfl⟩
    obtain ⟨WF, hWF⟩ : ∃ V, V = w4.alloc (.cells #[.slice va EL.length vc] 59) := ⟨_, rfl⟩
    have kF : Kept w4 WF := by rw [hWF]; exact (Kept.refl _).alloc _
    have hc4 : Chg (fun j => j = r) W1 WF := ((Chg.of_kept HK3.out).trans hr4.2).trans (Chg.of_kept kF)
    have hfbr : fb ≠ r := by have := HRL.out; have := HK3.out.size; have := hr4.2.size; omega
    have HC4 := hidMk (show ∀ Y, Chg (fun j => j = r) WF Y → Y.cell? ⟨cb, 0, none⟩ = some (.int .i64 x.1) ∧ Y.cell? ⟨cb, 1, none⟩ = some (.int .i64 x.2.1) ∧ Y.cell? ⟨cb, 2, none⟩ = some (.int .i64 x.2.2.1) ∧ Y.cell? ⟨cb, 3, none⟩ = some (.int .i64 x.2.2.2.1) ∧ Y.cell? ⟨cb, 4, none⟩ = some (.int .i64 x.2.2.2.2) ∧ Y.cell? ⟨fb, 0, none⟩ = some (.slice va EL.length vc) ∧ Sl .i64 Y va EL.length EL ∧ Lq Y a l from fun Y kY => by
      obtain ⟨p0, p1, p2, p3, p4⟩ := HB.out W1 (Kept.refl _)
      have kk := hc4.trans kY
      refine ⟨kk.cellp p0 hcr, kk.cellp p1 hcr, kk.cellp p2 hcr, kk.cellp p3 hcr, kk.cellp p4 hcr, kY.cellp (by rw [hWF]; exact new_cell _ _ _ _ 0 _ hfb rfl) hfbr, (hsl.kept kF).chg kY (fun _ ad e (g : ad.block = r) => ?_), HL.out.chg kk (fun _ ad e => HRA.out ad e)⟩
      have h1 := hfr ad e
      have h2 := HRL.out
      have h3 := HK3.out.size
      omega)
    have HEB := hidMk (show ∀ ad, va = some ad → ad.block ≠ r from fun ad e g => by have h1 := hfr ad e; have h2 := HRL.out; have h3 := HK3.out.size; omega)
    have HRF := hidMk (show RR W0 r q ds y4 y5 pp X WF from rr_keep HR4.out kF)
    clear hsl hfr hr4 kF hc4
    go_wp2_with fail
    rw [← hWF, ← hfb]
    clear hWF hfb
    go_loopg [11] (EL.length + 1) (fun g i wr => ∃ k : Nat, k + g = EL.length + 1 ∧ k ≤ EL.length ∧ i = .int .i64 k ∧ Hid (RR W0 r q ds y4 y5 pp X wr ∧ Chg (fun j => j = r) WF wr ∧ ∀ t, t < k → ¬ EL.getD t 0 ∈ UL))
    case atStart => exact ⟨0, by omega, by omega, rfl, hidMk ⟨HRF.out, Chg.refl _ _, fun t ht => absurd ht (by omega)⟩⟩
    case round =>
      obtain ⟨k, hkg, hkl, rfl, HS⟩ := hrel
      have HKG := hidMk hkg
      clear hkg
      obtain ⟨b0, b1, b2, b3, b4, f0, hsw, hlq⟩ := HC4.out wr HS.out.2.1
      have HLW := hidMk hlq
      by_cases hk : k < EL.length
      · have hk' : (k : Int) < (EL.length : Int) := by omega
        have hk0 : (0 : Int) ≤ (k : Int) := by omega
        obtain ⟨eb, eo, rfl, hebl, hcs⟩ := hsw.cells (by omega)
        have g0 := hcs k hk
        have hebr : eb ≠ r := HEB.out ⟨eb, eo, none⟩ rfl
        obtain ⟨⟨p1, hq1, n1⟩, c1⟩ := HS.out.1
        have hcl2 : cb < wr.heap.size := cell_lt b0
        have hfl2 : fb < wr.heap.size := cell_lt f0
        obtain ⟨en, hen⟩ : ∃ en, EL.getD k 0 = en := ⟨_, rfl⟩
        rw [hen] at g0
        have HII := hidMk (show ∀ Y, Kept wr Y → _ from fun Y hY => HIN.out Y p1 en (hq1.keep hY))
        have HRD := hidMk (show ∀ Y Z, Kept wr Y → RR W0 r q ds y4 y5 p1 Y Z → RR W0 r q ds y4 y5 pp X Z ∧ Chg (fun j => j = r) WF Z from fun Y Z hY hZ => ⟨RR.trans (hq1.keep hY) n1 (c1.trans (Chg.of_kept hY)) hZ, (HS.out.2.1.trans (Chg.of_kept hY)).trans hZ.2⟩)
        have HSV := hidMk (show ∀ Y Z : World, Kept wr Y → Chg (fun j => j = r) Y Z → (fun w' : World => w'.cell? ⟨cb, 0, none⟩ = some (.int .i64 x.1) ∧ w'.cell? ⟨cb, 1, none⟩ = some (.int .i64 x.2.1) ∧ w'.cell? ⟨cb, 2, none⟩ = some (.int .i64 x.2.2.1) ∧ w'.cell? ⟨cb, 3, none⟩ = some (.int .i64 x.2.2.2.1) ∧ w'.cell? ⟨cb, 4, none⟩ = some (.int .i64 x.2.2.2.2) ∧ w'.cell? ⟨fb, 0, none⟩ = some (.slice (some ⟨eb, eo, none⟩) EL.length vc) ∧ w'.cell? ⟨eb, eo + k, none⟩ = some (.int .i64 en)) Z from fun Y Z hY hZ => ⟨hZ.cellp (hY.cellp b0) hcr, hZ.cellp (hY.cellp b1) hcr, hZ.cellp (hY.cellp b2) hcr, hZ.cellp (hY.cellp b3) hcr, hZ.cellp (hY.cellp b4) hcr, hZ.cellp (hY.cellp f0) hfbr, hZ.cellp (hY.cellp g0) hebr⟩)
        by_cases hin : en ∈ UL
        · rw [show decide (en ∈ UL) = true from decide_eq_true hin] at HII
          have hD := (by
            have hm : ∃ n, n ∈ EL ∧ n ∈ UL := ⟨en, by rw [← hen, show EL.getD k 0 = EL[k] by simp [List.getD, hk]]; exact List.getElem_mem hk, hin⟩
            first | exact HE12.out hnm rfl HF0.out hm | exact HE12.out hnm trivial HF0.out hm | exact HE12.out hnm HF0.out hm : D = 12)
          subst hD
          clear hin hen hcs hq1 n1 c1 HS hsw hlq
          go_wp2_with fail
          go_region_held3 (fun w' : World => w'.cell? ⟨cb, 0, none⟩ = some (.int .i64 x.1) ∧ w'.cell? ⟨cb, 1, none⟩ = some (.int .i64 x.2.1) ∧ w'.cell? ⟨cb, 2, none⟩ = some (.int .i64 x.2.2.1) ∧ w'.cell? ⟨cb, 3, none⟩ = some (.int .i64 x.2.2.2.1) ∧ w'.cell? ⟨cb, 4, none⟩ = some (.int .i64 x.2.2.2.2) ∧ w'.cell? ⟨fb, 0, none⟩ = some (.slice (some ⟨eb, eo, none⟩) EL.length vc) ∧ w'.cell? ⟨eb, eo + k, none⟩ = some (.int .i64 en))
            (first | assumption | (refine ⟨Kept.cellp ?_ b0, Kept.cellp ?_ b1, Kept.cellp ?_ b2, Kept.cellp ?_ b3, Kept.cellp ?_ b4, Kept.cellp ?_ f0, Kept.cellp ?_ g0⟩ <;> ((repeat (first | (with_reducible exact Kept.refl _) | (with_reducible refine Kept.alloc ?_ _) | (with_reducible refine Kept.drew ?_) | (with_reducible refine Kept.drewN ?_ _) | (with_reducible refine Kept.trans ?_ (by assumption)))); done)))
            ((go_at_call 77; refine (HII.out _ (by (repeat (first | (with_reducible exact Kept.refl _) | (with_reducible refine Kept.alloc ?_ _) | (with_reducible refine Kept.drew ?_) | (with_reducible refine Kept.drewN ?_ _) | (with_reducible refine Kept.trans ?_ (by assumption)))))).mono ?_; rintro e w5 ⟨rfl, hrr⟩; have sv : (fun w' : World => w'.cell? ⟨cb, 0, none⟩ = some (.int .i64 x.1) ∧ w'.cell? ⟨cb, 1, none⟩ = some (.int .i64 x.2.1) ∧ w'.cell? ⟨cb, 2, none⟩ = some (.int .i64 x.2.2.1) ∧ w'.cell? ⟨cb, 3, none⟩ = some (.int .i64 x.2.2.2.1) ∧ w'.cell? ⟨cb, 4, none⟩ = some (.int .i64 x.2.2.2.2) ∧ w'.cell? ⟨fb, 0, none⟩ = some (.slice (some ⟨eb, eo, none⟩) EL.length vc) ∧ w'.cell? ⟨eb, eo + k, none⟩ = some (.int .i64 en)) w5 := HSV.out _ _ (by (repeat (first | (with_reducible exact Kept.refl _) | (with_reducible refine Kept.alloc ?_ _) | (with_reducible refine Kept.drew ?_) | (with_reducible refine Kept.drewN ?_ _) | (with_reducible refine Kept.trans ?_ (by assumption))))) hrr.2; have HR5 := hidMk (HRD.out _ _ (by (repeat (first | (with_reducible exact Kept.refl _) | (with_reducible refine Kept.alloc ?_ _) | (with_reducible refine Kept.drew ?_) | (with_reducible refine Kept.drewN ?_ _) | (with_reducible refine Kept.trans ?_ (by assumption))))) hrr); clear hrr))
          all_goals (try go_wp2_with fail)
          all_goals
            go_ret2
            exact ⟨_, rfl, fun e => absurd e (by decide), fun _ => rfl, HR5.out.1⟩
        · rw [show decide (en ∈ UL) = false from decide_eq_false hin] at HII
          have HJ := hidMk (show ∀ t, t < k + 1 → ¬ EL.getD t 0 ∈ UL from fun t ht => by
            by_cases e : t = k
            · subst e; rw [hen]; exact hin
            · exact HS.out.2.2 t (by omega))
          clear hin hen hcs hq1 n1 c1 HS hsw hlq
          go_wp2_with fail
          go_region_held3 (fun w' : World => w'.cell? ⟨cb, 0, none⟩ = some (.int .i64 x.1) ∧ w'.cell? ⟨cb, 1, none⟩ = some (.int .i64 x.2.1) ∧ w'.cell? ⟨cb, 2, none⟩ = some (.int .i64 x.2.2.1) ∧ w'.cell? ⟨cb, 3, none⟩ = some (.int .i64 x.2.2.2.1) ∧ w'.cell? ⟨cb, 4, none⟩ = some (.int .i64 x.2.2.2.2) ∧ w'.cell? ⟨fb, 0, none⟩ = some (.slice (some ⟨eb, eo, none⟩) EL.length vc) ∧ w'.cell? ⟨eb, eo + k, none⟩ = some (.int .i64 en))
            (first | assumption | (refine ⟨Kept.cellp ?_ b0, Kept.cellp ?_ b1, Kept.cellp ?_ b2, Kept.cellp ?_ b3, Kept.cellp ?_ b4, Kept.cellp ?_ f0, Kept.cellp ?_ g0⟩ <;> ((repeat (first | (with_reducible exact Kept.refl _) | (with_reducible refine Kept.alloc ?_ _) | (with_reducible refine Kept.drew ?_) | (with_reducible refine Kept.drewN ?_ _) | (with_reducible refine Kept.trans ?_ (by assumption)))); done)))
            ((go_at_call 77; refine (HII.out _ (by (repeat (first | (with_reducible exact Kept.refl _) | (with_reducible refine Kept.alloc ?_ _) | (with_reducible refine Kept.drew ?_) | (with_reducible refine Kept.drewN ?_ _) | (with_reducible refine Kept.trans ?_ (by assumption)))))).mono ?_; rintro e w5 ⟨rfl, hrr⟩; have sv : (fun w' : World => w'.cell? ⟨cb, 0, none⟩ = some (.int .i64 x.1) ∧ w'.cell? ⟨cb, 1, none⟩ = some (.int .i64 x.2.1) ∧ w'.cell? ⟨cb, 2, none⟩ = some (.int .i64 x.2.2.1) ∧ w'.cell? ⟨cb, 3, none⟩ = some (.int .i64 x.2.2.2.1) ∧ w'.cell? ⟨cb, 4, none⟩ = some (.int .i64 x.2.2.2.2) ∧ w'.cell? ⟨fb, 0, none⟩ = some (.slice (some ⟨eb, eo, none⟩) EL.length vc) ∧ w'.cell? ⟨eb, eo + k, none⟩ = some (.int .i64 en)) w5 := HSV.out _ _ (by (repeat (first | (with_reducible exact Kept.refl _) | (with_reducible refine Kept.alloc ?_ _) | (with_reducible refine Kept.drew ?_) | (with_reducible refine Kept.drewN ?_ _) | (with_reducible refine Kept.trans ?_ (by assumption))))) hrr.2; have HR5 := hidMk (HRD.out _ _ (by (repeat (first | (with_reducible exact Kept.refl _) | (with_reducible refine Kept.alloc ?_ _) | (with_reducible refine Kept.drew ?_) | (with_reducible refine Kept.drewN ?_ _) | (with_reducible refine Kept.trans ?_ (by assumption))))) hrr); clear hrr))
          all_goals (try go_wp2_with fail)
          all_goals
            go_roundg (gk - 1)
            case measure => have := HKG.out; omega
            case rel => exact ⟨k + 1, by have := HKG.out; omega, by omega, by go_num, hidMk ⟨HR5.out.1, HR5.out.2, HJ.out⟩⟩
      · have hk' : ¬ ((k : Int) < (EL.length : Int)) := by omega
        obtain rfl : k = EL.length := by omega
        have hno : ¬ ∃ n, n ∈ EL ∧ n ∈ UL := by
          rintro ⟨n, h1, h2⟩
          obtain ⟨t, ht, rfl⟩ := List.getElem_of_mem h1
          have := HS.out.2.2 t ht
          rw [show EL.getD t 0 = EL[t] by simp [List.getD, ht]] at this
          exact this h2
        have HRW := hidMk HS.out.1
        by_cases h16 : 16 ≤ l.length
        · have hD := (by first | exact HE14.out hnm rfl HF0.out hno h16 | exact HE14.out hnm trivial HF0.out hno h16 | exact HE14.out hnm HF0.out hno h16 : D = 14)
          subst hD
          have h16' : (16 : Int) ≤ (l.length : Int) := by omega
          clear hno HS hsw hlq
          go_wp2_with fail
          go_ret2
          exact ⟨_, rfl, fun e => absurd e (by decide), fun _ => rfl, HRW.out⟩
        have hD := (by first | exact HE0.out hnm rfl HF0.out hno h16 | exact HE0.out hnm trivial HF0.out hno h16 | exact HE0.out hnm HF0.out hno h16 : D = 0)
        subst hD
        have h16' : ¬ ((16 : Int) ≤ (l.length : Int)) := by omega
        obtain ⟨⟨p1, hq1, n1⟩, c1⟩ := HS.out.1
        obtain ⟨xb, hxb⟩ : ∃ xb, xb = wr.heap.size := ⟨_, rfl⟩
        obtain ⟨WX, hWX⟩ : ∃ V, V = wr.alloc (.cells #[.int .i64 x.1, .int .i64 x.2.1, .int .i64 x.2.2.1, .int .i64 x.2.2.2.1, .int .i64 x.2.2.2.2, .string u] 87) := ⟨_, rfl⟩
        have kX : Kept wr WX := by rw [hWX]; exact (Kept.refl _).alloc _
        have HKX := hidMk kX
        have HXB := hidMk (show ∀ Y, Kept WX Y → _ from fun Y k => boxLk_at wr ((x, u) : Lk) 87 hxb Y (by rw [← hWX]; exact k))
        have HLX := hidMk (show ∀ Y, Kept WX Y → Lq Y a l from fun Y k => hlq.kept (kX.trans k))
        have HAK := hidMk (show ∀ Y t, Kept WX Y → t < l.length → _ from fun Y t k ht => HAD.out Y p1 (lkA l t) (hq1.keep (kX.trans k)) (by first | exact HNE.out rfl t ht | exact HNE.out trivial t ht | exact HNE.out t ht))
        have HXS := hidMk (show X.heap.size ≤ WX.heap.size from Nat.le_trans c1.size kX.size)
        have HRX := hidMk (show ∀ Y, Kept WX Y → RR W0 r q ds y4 y5 pp X Y from fun Y k => rr_keep HRW.out (kX.trans k))
        clear hno HS hsw hlq hq1 n1 c1 kX
        go_wp2_with fail
        rw [← hWX, ← hxb]
        clear hWX hxb b0 b1 b2 b3 b4 f0
        go_loopg [13, 14, 15] l.length (fun g v bv i w6 => ∃ (k : Nat) (b : Bool) (o : List Lk), k + g = l.length ∧ i = .int .i64 k ∧ bv = .bool b ∧ Hid (InsL f l ((x, u) : Lk) k b o ∧ OwnLk w6 WX.heap.size v o ∧ Kept WX w6))
        case atStart => exact ⟨0, false, [], by omega, rfl, rfl, hidMk ⟨.inl ⟨rfl, fun t ht => absurd ht (by omega), by simp⟩, ownLk_nil _ _, Kept.refl _⟩⟩
        case round =>
          obtain ⟨k, bq, acc, hkg, rfl, rfl, HS⟩ := hrel
          have HKG := hidMk hkg
          have hwr : WX.heap.size ≤ wr.heap.size := HS.out.2.2.size
          by_cases hk : k < l.length
          · have hk' : (k : Int) < (l.length : Int) := by omega
            have hal := insL_len HS.out.1 (by omega)
            obtain ⟨b, o, rfl⟩ := HLW.out.form (by omega)
            obtain ⟨e0, e1, e2, e3, e4, e5⟩ := (HLX.out _ HS.out.2.2).at hk
            obtain ⟨x0, x1, x2, x3, x4, x5⟩ := HXB.out wr HS.out.2.2
            have HAH := hidMk (show ∀ Y, Kept wr Y → _ from fun Y hY => HAK.out Y k (HS.out.2.2.trans hY) hk)
            clear hkg
            have HO := hidMk HS.out.2.1
            have HK := hidMk HS.out.2.2
            have HI := hidMk HS.out.1
            obtain ⟨y, hy⟩ : ∃ y, lkA l k = y := ⟨_, rfl⟩
            rw [hy] at e0 e1 e2 e3 e4 e5 HAH
            have HY := hidMk hy
            clear HS
            cases bq with
            | true =>
              have HG := hidMk (insL_go HI.out hk)
              rw [hy] at HG
              clear HAH hy
              go_wp2_with fail
              go_quiet (fail)
              go_wp2_with (at_builtin; refine wpList_catLk _ rfl _ _ rfl WX.heap.size _ acc [y] rfl (HO.out.kept (((Kept.refl wr).drewN _).alloc _)) (by simp; omega) (some ⟨wr.heap.size, 0, none⟩) 1 rfl (lq_box (wr.drewN _) y _ rfl) (fun e => (by cases e)) (by simp; omega) ?_)
              intro v7 w7 o7 k7
              have HO7 := hidMk o7
              have HK7 := hidMk (show Kept WX w7 from k7.kept ((HK.out.drewN _).alloc _) (fun j hj => (HO.out.lt j hj).1))
              clear o7 k7
              go_wp2_with fail
              go_roundg (gk - 1)
              case measure => have := HKG.out; omega
              case rel => exact ⟨k + 1, true, acc ++ [y], by have := HKG.out; omega, by go_num, rfl, hidMk ⟨HG.out, HO7.out, HK7.out⟩⟩
            | false =>
              obtain ⟨fx, hfx⟩ : ∃ z, ixC ms ds x = z := ⟨_, rfl⟩
              obtain ⟨fy, hfy⟩ : ∃ z, ixC ms ds y.1 = z := ⟨_, rfl⟩
              rw [hfx, hfy] at HAH
              have hfx' : f ((x, u) : Lk) = fx := by rw [HFF.out]; exact hfx
              have hfy' : f y = fy := by rw [HFF.out]; exact hfy
              by_cases hlt : fx < fy
              · have HG := hidMk (insL_yes HI.out hk (by rw [hy, hfx', hfy']; exact hlt))
                rw [hy] at HG
                rw [show decide (fx < fy) = true from decide_eq_true hlt] at HAH
                clear hy hfx hfy hfx' hfy' hlt
                go_wp2_with fail
                go_region_held3 (fun w' : World => w'.cell? ⟨xb, 0, none⟩ = some (.int .i64 x.1) ∧ w'.cell? ⟨xb, 1, none⟩ = some (.int .i64 x.2.1) ∧ w'.cell? ⟨xb, 2, none⟩ = some (.int .i64 x.2.2.1) ∧ w'.cell? ⟨xb, 3, none⟩ = some (.int .i64 x.2.2.2.1) ∧ w'.cell? ⟨xb, 4, none⟩ = some (.int .i64 x.2.2.2.2) ∧ w'.cell? ⟨xb, 5, none⟩ = some (.string u) ∧ w'.cell? ⟨b, o + k * 6, none⟩ = some (.int .i64 y.1.1) ∧ w'.cell? ⟨b, o + k * 6 + 1, none⟩ = some (.int .i64 y.1.2.1) ∧ w'.cell? ⟨b, o + k * 6 + 2, none⟩ = some (.int .i64 y.1.2.2.1) ∧ w'.cell? ⟨b, o + k * 6 + 3, none⟩ = some (.int .i64 y.1.2.2.2.1) ∧ w'.cell? ⟨b, o + k * 6 + 4, none⟩ = some (.int .i64 y.1.2.2.2.2) ∧ w'.cell? ⟨b, o + k * 6 + 5, none⟩ = some (.string y.2))
                  (first | assumption | (refine ⟨Kept.cellp ?_ x0, Kept.cellp ?_ x1, Kept.cellp ?_ x2, Kept.cellp ?_ x3, Kept.cellp ?_ x4, Kept.cellp ?_ x5, Kept.cellp ?_ e0, Kept.cellp ?_ e1, Kept.cellp ?_ e2, Kept.cellp ?_ e3, Kept.cellp ?_ e4, Kept.cellp ?_ e5⟩ <;> ((repeat (first | (with_reducible exact Kept.refl _) | (with_reducible refine Kept.alloc ?_ _) | (with_reducible refine Kept.drew ?_) | (with_reducible refine Kept.drewN ?_ _) | (with_reducible refine Kept.trans ?_ (by assumption)))); done)))
                  ((go_at_call 78; refine (HAH.out _ (by (repeat (first | (with_reducible exact Kept.refl _) | (with_reducible refine Kept.alloc ?_ _) | (with_reducible refine Kept.drew ?_) | (with_reducible refine Kept.drewN ?_ _) | (with_reducible refine Kept.trans ?_ (by assumption)))))).mono ?_; rintro e w7 ⟨rfl, k7⟩; have HK7 := hidMk (show Kept wr w7 from by (repeat (first | (with_reducible exact Kept.refl _) | (with_reducible refine Kept.alloc ?_ _) | (with_reducible refine Kept.drew ?_) | (with_reducible refine Kept.drewN ?_ _) | (with_reducible refine Kept.trans ?_ (by assumption)))))))
                all_goals
                  clear x0 x1 x2 x3 x4 x5 e0 e1 e2 e3 e4 e5
                  obtain ⟨x0, x1, x2, x3, x4, x5⟩ := HXB.out w7 (HK.out.trans HK7.out)
                  have hw7 : WX.heap.size ≤ w7.heap.size := (HK.out.trans HK7.out).size
                  go_wp2_with (at_builtin; refine wpList_catLk _ rfl _ _ rfl WX.heap.size _ acc [((x, u) : Lk)] rfl ((HO.out.kept HK7.out).kept ((Kept.refl w7).alloc _)) (by simp; omega) (some ⟨w7.heap.size, 0, none⟩) 1 rfl (lq_box w7 ((x, u) : Lk) _ rfl) (fun e => (by cases e)) (by simp; omega) ?_)
                  intro v8 w8 o8 k8
                  have HO8 := hidMk o8
                  have HK8 := hidMk (show Kept WX w8 from k8.kept ((HK.out.trans HK7.out).alloc _) (fun j hj => ((HO.out.kept HK7.out).lt j hj).1))
                  clear o8 k8
                  obtain ⟨e0, e1, e2, e3, e4, e5⟩ := (HLX.out _ HK8.out).at hk
                  rw [HY.out] at e0 e1 e2 e3 e4 e5
                  have hw8 : WX.heap.size ≤ w8.heap.size := HK8.out.size
                  go_wp2_with (at_builtin; refine wpList_catLk _ rfl _ _ rfl WX.heap.size _ (acc ++ [((x, u) : Lk)]) [y] rfl (HO8.out.kept ((Kept.refl w8).alloc _)) (by simp; omega) (some ⟨w8.heap.size, 0, none⟩) 1 rfl (lq_box w8 y _ rfl) (fun e => (by cases e)) (by simp; omega) ?_)
                  intro v9 w9 o9 k9
                  have HO9 := hidMk o9
                  have HK9 := hidMk (show Kept WX w9 from k9.kept (HK8.out.alloc _) (fun j hj => (HO8.out.lt j hj).1))
                  clear o9 k9
                  go_wp2_with fail
                  go_roundg (gk - 1)
                  case measure => have := HKG.out; omega
                  case rel => exact ⟨k + 1, true, acc ++ [((x, u) : Lk)] ++ [y], by have := HKG.out; omega, by go_num, rfl, hidMk ⟨HG.out, by first | exact HO9.out | (rw [List.append_assoc]; exact HO9.out), HK9.out⟩⟩
              · have HG := hidMk (insL_no HI.out hk (by rw [hy, hfx', hfy']; exact hlt))
                rw [hy] at HG
                rw [show decide (fx < fy) = false from decide_eq_false hlt] at HAH
                clear hy hfx hfy hfx' hfy' hlt
                go_wp2_with fail
                go_region_held3 (fun w' : World => w'.cell? ⟨xb, 0, none⟩ = some (.int .i64 x.1) ∧ w'.cell? ⟨xb, 1, none⟩ = some (.int .i64 x.2.1) ∧ w'.cell? ⟨xb, 2, none⟩ = some (.int .i64 x.2.2.1) ∧ w'.cell? ⟨xb, 3, none⟩ = some (.int .i64 x.2.2.2.1) ∧ w'.cell? ⟨xb, 4, none⟩ = some (.int .i64 x.2.2.2.2) ∧ w'.cell? ⟨xb, 5, none⟩ = some (.string u) ∧ w'.cell? ⟨b, o + k * 6, none⟩ = some (.int .i64 y.1.1) ∧ w'.cell? ⟨b, o + k * 6 + 1, none⟩ = some (.int .i64 y.1.2.1) ∧ w'.cell? ⟨b, o + k * 6 + 2, none⟩ = some (.int .i64 y.1.2.2.1) ∧ w'.cell? ⟨b, o + k * 6 + 3, none⟩ = some (.int .i64 y.1.2.2.2.1) ∧ w'.cell? ⟨b, o + k * 6 + 4, none⟩ = some (.int .i64 y.1.2.2.2.2) ∧ w'.cell? ⟨b, o + k * 6 + 5, none⟩ = some (.string y.2))
                  (first | assumption | (refine ⟨Kept.cellp ?_ x0, Kept.cellp ?_ x1, Kept.cellp ?_ x2, Kept.cellp ?_ x3, Kept.cellp ?_ x4, Kept.cellp ?_ x5, Kept.cellp ?_ e0, Kept.cellp ?_ e1, Kept.cellp ?_ e2, Kept.cellp ?_ e3, Kept.cellp ?_ e4, Kept.cellp ?_ e5⟩ <;> ((repeat (first | (with_reducible exact Kept.refl _) | (with_reducible refine Kept.alloc ?_ _) | (with_reducible refine Kept.drew ?_) | (with_reducible refine Kept.drewN ?_ _) | (with_reducible refine Kept.trans ?_ (by assumption)))); done)))
                  ((go_at_call 78; refine (HAH.out _ (by (repeat (first | (with_reducible exact Kept.refl _) | (with_reducible refine Kept.alloc ?_ _) | (with_reducible refine Kept.drew ?_) | (with_reducible refine Kept.drewN ?_ _) | (with_reducible refine Kept.trans ?_ (by assumption)))))).mono ?_; rintro e w7 ⟨rfl, k7⟩; have HK7 := hidMk (show Kept wr w7 from by (repeat (first | (with_reducible exact Kept.refl _) | (with_reducible refine Kept.alloc ?_ _) | (with_reducible refine Kept.drew ?_) | (with_reducible refine Kept.drewN ?_ _) | (with_reducible refine Kept.trans ?_ (by assumption)))))))
                all_goals
                  clear x0 x1 x2 x3 x4 x5 e0 e1 e2 e3 e4 e5
                  obtain ⟨e0, e1, e2, e3, e4, e5⟩ := (HLX.out _ (HK.out.trans HK7.out)).at hk
                  rw [HY.out] at e0 e1 e2 e3 e4 e5
                  have hw7 : WX.heap.size ≤ w7.heap.size := (HK.out.trans HK7.out).size
                  go_wp2_with (at_builtin; refine wpList_catLk _ rfl _ _ rfl WX.heap.size _ acc [y] rfl ((HO.out.kept HK7.out).kept ((Kept.refl w7).alloc _)) (by simp; omega) (some ⟨w7.heap.size, 0, none⟩) 1 rfl (lq_box w7 y _ rfl) (fun e => (by cases e)) (by simp; omega) ?_)
                  intro v8 w8 o8 k8
                  have HO8 := hidMk o8
                  have HK8 := hidMk (show Kept WX w8 from k8.kept ((HK.out.trans HK7.out).alloc _) (fun j hj => ((HO.out.kept HK7.out).lt j hj).1))
                  clear o8 k8
                  go_wp2_with fail
                  go_roundg (gk - 1)
                  case measure => have := HKG.out; omega
                  case rel => exact ⟨k + 1, false, acc ++ [y], by have := HKG.out; omega, by go_num, rfl, hidMk ⟨HG.out, HO8.out, HK8.out⟩⟩
          · have hk' : ¬ ((k : Int) < (l.length : Int)) := by omega
            obtain rfl : k = l.length := by omega
            have HI := hidMk HS.out.1
            have HO := hidMk HS.out.2.1
            have HK := hidMk HS.out.2.2
            have hal := insL_len HS.out.1 (by omega)
            cases bq with
            | true =>
              clear HS
              go_wp2_with fail
              go_ret2
              exact ⟨_, rfl, fun _ => ⟨true, acc, HI.out, HO.out.base HXS.out⟩, fun e => absurd rfl e, HRX.out _ HK.out⟩
            | false =>
              obtain ⟨x0, x1, x2, x3, x4, x5⟩ := HXB.out wr HK.out
              clear HS
              go_wp2_with (at_builtin; refine wpList_catLk _ rfl _ _ rfl WX.heap.size _ acc [((x, u) : Lk)] rfl (HO.out.kept ((Kept.refl wr).alloc _)) (by simp; omega) (some ⟨wr.heap.size, 0, none⟩) 1 rfl (lq_box wr ((x, u) : Lk) _ rfl) (fun e => (by cases e)) (by simp; omega) ?_)
              intro v8 w8 o8 k8
              have HO8 := hidMk o8
              have HK8 := hidMk (show Kept WX w8 from k8.kept (HK.out.alloc _) (fun j hj => (HO.out.lt j hj).1))
              clear o8 k8
              go_wp2_with fail
              go_ret2
              exact ⟨_, rfl, fun _ => ⟨false, acc, HI.out, HO8.out.base HXS.out⟩, fun e => absurd rfl e, HRX.out _ HK8.out⟩
end
end Go.Proofs.YtmedgkccicbieaaGreat
