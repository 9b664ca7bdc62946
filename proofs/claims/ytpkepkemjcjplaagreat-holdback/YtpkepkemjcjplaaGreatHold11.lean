/- hold: lists of cells by rising numbers; what Add and Drop give, in one contract each. -/
import Derived.Test.YtpkepkemjcjplaaGreatHold6
import Derived.Test.YtpkepkemjcjplaaGreatHold7
import Derived.Test.YtpkepkemjcjplaaGreatHold8
import Derived.Test.YtpkepkemjcjplaaGreatHold9
namespace Go.Proofs.YtpkepkemjcjplaaGreat
open Go.RowKit Go.Maps
set_option linter.unusedSimpArgs false
set_option linter.unusedVariables false

def RiseC (f : Cl → Int) (l : List Cl) : Prop := ∀ i j, i < j → j < l.length → f (clA l i) < f (clA l j)
theorem riseC_pw {f : Cl → Int} {l : List Cl} : RiseC f l ↔ l.Pairwise (fun x y => f x < f y) := by
  rw [List.pairwise_iff_getElem]
  constructor
  · intro h i j hi hj hij
    have := h i j hij hj
    rwa [clA_get hi, clA_get hj] at this
  · intro h i j hij hj
    rw [clA_get hj, clA_get (by omega)]
    exact h i j (by omega) hj hij
theorem riseC_ext {f : Cl → Int} {l m : List Cl} (hl : RiseC f l) (hm : RiseC f m) (h : ∀ x, x ∈ l ↔ x ∈ m) : l = m := by
  have e : l.map f = m.map f := by
    refine rise_ext ?_ ?_ (fun z => ?_)
    · unfold Rise; rw [List.pairwise_map]; exact riseC_pw.1 hl
    · unfold Rise; rw [List.pairwise_map]; exact riseC_pw.1 hm
    · simp only [List.mem_map, h]
  have hlen : l.length = m.length := by simpa using congrArg List.length e
  apply List.ext_getElem hlen
  intro i h1 h2
  have ei : f l[i] = f m[i] := by
    have := List.getElem_map f (l := l) (i := i) (h := by simpa using h1)
    rw [← this]
    simp only [e, List.getElem_map]
  obtain ⟨j, hj, ej⟩ := List.getElem_of_mem ((h _).1 (List.getElem_mem h1))
  have hlt := riseC_pw.1 hm
  rw [List.pairwise_iff_getElem] at hlt
  rcases Nat.lt_trichotomy i j with hij | hij | hij
  · have := hlt i j h2 hj hij; rw [ej] at this; omega
  · subst hij; exact ej.symm
  · have := hlt j i hj h2 hij; rw [ej] at this; omega
theorem ixC_right {ms : List ByteArray} {ds : List Dm} {x : Cl} (h : 0 ≤ ixC ms ds x) : rightB ms ds x.1 (clT x) = true := by
  unfold ixC at h
  split at h
  · assumption
  · omega
theorem clT_at {ds : List Dm} {ms : List ByteArray} (h : Ct ds ms) {x : Cl} (hr : rightB ms ds x.1 (clT x) = true) : ∀ k, 0 ≤ clT x k ∧ clT x k < (many ds k : Int) := fun k => by
  by_cases hk : k < 4
  · exact (right_iff.1 hr).2 k hk
  · have e : clT x k = 0 := by
      unfold clT
      rw [List.getD_eq_getElem?_getD, List.getElem?_eq_none (by simp; omega)]
      rfl
    rw [e, many_out (by have := h.d4; omega)]
    omega
theorem ixC_inj {ds : List Dm} {ms : List ByteArray} (h : Ct ds ms) {x y : Cl} (hx : 0 ≤ ixC ms ds x) (e : ixC ms ds x = ixC ms ds y) : x = y := by
  have r1 := ixC_right hx
  have r2 := ixC_right (x := y) (by rw [← e]; exact hx)
  have p1 := parts_num (f := fun k => (many ds k : Int)) (right_iff.1 r1).1.1 (clT_at h r1)
  have p2 := parts_num (f := fun k => (many ds k : Int)) (right_iff.1 r2).1.1 (clT_at h r2)
  unfold ixC at e
  rw [if_pos r1, if_pos r2] at e
  rw [e] at p1
  have e0 : x.1 = y.1 := p1.1.symm.trans p2.1
  have ek : ∀ k, k < 4 → clT x k = clT y k := fun k hk => (p1.2 k hk).symm.trans (p2.2 k hk)
  rw [cl_eq]
  exact ⟨e0, ek 0 (by omega), ek 1 (by omega), ek 2 (by omega), ek 3 (by omega)⟩
theorem ins_is {f : Cl → Int} {l l' : List Cl} {x : Cl} (hr : RiseC f l) (hne : ∀ y, y ∈ l → f y ≠ f x) (h : InsC f l x l') : RiseC f l' ∧ (∀ y, y ∈ l' ↔ y = x ∨ y ∈ l) ∧ l'.length = l.length + 1 := by
  obtain ⟨i, hi, h1, h2, rfl⟩ := h
  have hm : ∀ y, y ∈ l ↔ y ∈ l.take i ∨ y ∈ l.drop i := fun y => by
    conv => lhs; rw [← List.take_append_drop i l]
    rw [List.mem_append]
  have ht : ∀ y, y ∈ l.take i → f y < f x := fun y hy => by
    obtain ⟨k, hk, rfl⟩ := List.getElem_of_mem hy
    rw [List.length_take] at hk
    rw [List.getElem_take, ← clA_get (by omega)]
    exact h1 k (by omega)
  have hd : ∀ y, y ∈ l.drop i → f x < f y := fun y hy => by
    have hy2 := (hm y).2 (.inr hy)
    obtain ⟨k, hk, rfl⟩ := List.getElem_of_mem hy
    rw [List.length_drop] at hk
    rw [List.getElem_drop] at hy2 ⊢
    have := h2 (i + k) (by omega) (by omega)
    rw [clA_get (by omega)] at this
    have := hne _ hy2
    omega
  refine ⟨?_, fun y => ?_, by simp; omega⟩
  · rw [riseC_pw] at hr ⊢
    rw [List.pairwise_append, List.pairwise_cons]
    refine ⟨hr.sublist (List.take_sublist _ _), ⟨fun y hy => hd y hy, hr.sublist (List.drop_sublist _ _)⟩, fun y hy z hz => ?_⟩
    rcases List.mem_cons.1 hz with rfl | hz
    · exact ht y hy
    · have := ht y hy; have := hd z hz; omega
  · rw [List.mem_append, List.mem_cons, hm]
    constructor
    · rintro (h | h | h)
      · exact .inr (.inl h)
      · exact .inl h
      · exact .inr (.inr h)
    · rintro (h | h | h)
      · exact .inr (.inl h)
      · exact .inl h
      · exact .inr (.inr h)
theorem drop_is {f : Cl → Int} {l : List Cl} {x : Cl} {i : Nat} (hr : RiseC f l) (hi : i < l.length) (he : clA l i = x) : RiseC f (l.take i ++ l.drop (i + 1)) ∧ (∀ y, y ∈ l.take i ++ l.drop (i + 1) ↔ y ∈ l ∧ y ≠ x) := by
  have hsub : (l.take i ++ l.drop (i + 1)).Sublist l := by
    conv => rhs; rw [← List.take_append_drop i l]
    refine List.Sublist.append_left ?_ _
    rw [List.drop_eq_getElem_cons hi]
    exact List.sublist_cons_self _ _
  refine ⟨riseC_pw.2 ((riseC_pw.1 hr).sublist hsub), fun y => ?_⟩
  have hd : l.drop i = x :: l.drop (i + 1) := by rw [List.drop_eq_getElem_cons hi, ← clA_get hi, he]
  have hpw := riseC_pw.1 hr
  rw [← List.take_append_drop i l, hd, List.pairwise_append, List.pairwise_cons] at hpw
  obtain ⟨_, ⟨h2, _⟩, h3⟩ := hpw
  constructor
  · intro hy
    refine ⟨hsub.subset hy, fun e => ?_⟩
    subst e
    rcases List.mem_append.1 hy with h | h
    · have := h3 y h y (List.mem_cons_self ..); omega
    · have := h2 y h; omega
  · rintro ⟨hy, hne⟩
    rw [← List.take_append_drop i l, hd, List.mem_append, List.mem_cons] at hy
    rw [List.mem_append]
    rcases hy with h | h | h
    · exact .inl h
    · exact absurd h hne
    · exact .inr h
/-- Cells that are held, by rising numbers. -/
structure Hd (w : World) (ms : List ByteArray) (ds : List Dm) (a : Option Addr) (c : Nat) (l : List Cl) : Prop where
  cq : Cq w a l
  le : l.length ≤ c
  nl : a = none → l = [] ∧ c = 0
  rs : RiseC (ixC ms ds) l
  ok : ∀ x, x ∈ l → 0 ≤ ixC ms ds x
  sm : l.length ≤ 16
  sp : ∀ ad, a = some ad → ad.spot = none
theorem Hd.kept {w w' : World} {ms : List ByteArray} {ds : List Dm} {a : Option Addr} {c : Nat} {l : List Cl} (h : Hd w ms ds a c l) (k : Kept w w') : Hd w' ms ds a c l := ⟨h.cq.kept k, h.le, h.nl, h.rs, h.ok, h.sm, h.sp⟩
theorem hd_nil (w : World) (ms : List ByteArray) (ds : List Dm) : Hd w ms ds none 0 [] := ⟨⟨fun hp => absurd hp (by simp)⟩, by simp, fun _ => ⟨rfl, rfl⟩, fun i j _ hj => absurd hj (by simp), fun x hx => (by cases hx), by simp, fun ad e => (by cases e)⟩
theorem OwnQ.le {w : World} {B : Nat} {a : Option Addr} {n c : Nat} {l : List Cl} (h : OwnQ w B (.slice a n c) l) : l.length ≤ c := by
  obtain ⟨_, ⟨h1, hz⟩ | ⟨g, cap, cur, h1, hb, hheap, hc, _⟩⟩ := h
  · rw [hz]; exact Nat.zero_le _
  · cases h1; exact hc
theorem OwnQ.sp {w : World} {B : Nat} {a : Option Addr} {n c : Nat} {l : List Cl} (h : OwnQ w B (.slice a n c) l) : ∀ ad, a = some ad → ad.spot = none := by
  obtain ⟨_, ⟨h1, hz⟩ | ⟨g, cap, cur, h1, _⟩⟩ := h
  · cases h1; intro ad e; cases e
  · cases h1; intro ad e; cases e; rfl
theorem OwnQ.fr {w : World} {B : Nat} {a : Option Addr} {n c : Nat} {l : List Cl} (h : OwnQ w B (.slice a n c) l) : ∀ ad, a = some ad → B ≤ ad.block := by
  obtain ⟨_, ⟨h1, hz⟩ | ⟨g, cap, cur, h1, hb, _⟩⟩ := h
  · cases h1; intro ad e; cases e
  · cases h1; intro ad e; cases e; exact hb
/-- Why a cell can not be added; why one can not be dropped. -/
def addE (ms : List ByteArray) (ds : List Dm) (l : List Cl) (x : Cl) : Int := if ixC ms ds x < 0 then 17 else if x ∈ l then 4 else if 16 ≤ l.length then 14 else 0
def dropE (ms : List ByteArray) (ds : List Dm) (l : List Cl) (x : Cl) : Int := if ixC ms ds x < 0 then 17 else if x ∈ l then 0 else 10
def AddP (w : World) (ms : List ByteArray) (ds : List Dm) (l : List Cl) (x : Cl) (e : Ending) (w' : World) : Prop :=
  ∃ a' c' l', e = .returned (.tuple #[hdV a' l'.length c', .int .i64 (addE ms ds l x)]) ∧ Hd w' ms ds a' c' l' ∧ (∀ y, y ∈ l' ↔ addE ms ds l x = 0 ∧ (y = x ∨ y ∈ l)) ∧ (addE ms ds l x = 0 → l'.length = l.length + 1) ∧ Kept w w' ∧ ∀ ad, a' = some ad → w.heap.size ≤ ad.block
def DropP (w : World) (ms : List ByteArray) (ds : List Dm) (l : List Cl) (x : Cl) (e : Ending) (w' : World) : Prop :=
  ∃ a' c' l', e = .returned (.tuple #[hdV a' l'.length c', .int .i64 (dropE ms ds l x)]) ∧ Hd w' ms ds a' c' l' ∧ (∀ y, y ∈ l' ↔ dropE ms ds l x = 0 ∧ y ∈ l ∧ y ≠ x) ∧ Kept w w' ∧ ∀ ad, a' = some ad → w.heap.size ≤ ad.block
section
variable {w : World} {s p : Nat} {ds : List Dm} {ms : List ByteArray} {tp : Nat → Nat} {rv : Nat → Option Addr × Nat}
theorem hd_Add (h : SW w s p ds ms tp rv) {a : Option Addr} {c : Nat} {l : List Cl} (hd : Hd w ms ds a c l) (x : Cl) :
    Calls Tryz.prog 11 #[hdV a l.length c, .pointer (some ⟨s, 0, none⟩), clV x] w (AddP w ms ds l x) := by
  have hsm := hd.sm
  have no : ∀ (y : Cl) (k : Int), k ≠ 0 → (y ∈ ([] : List Cl) ↔ k = 0 ∧ (y = x ∨ y ∈ l)) := fun y k hk => by simp [hk]
  by_cases h1 : ixC ms ds x < 0
  · refine (hold_Add_range h a c l x hd.cq (by omega) h1).mono ?_
    rintro e w' ⟨rfl, k⟩
    have e : addE ms ds l x = 17 := if_pos h1
    exact ⟨none, 0, [], by rw [e]; rfl, hd_nil _ _ _, fun y => by rw [e]; exact no y 17 (by decide), fun q => (by rw [e] at q; cases q), k, fun ad e => (by cases e)⟩
  by_cases h2 : x ∈ l
  · refine (hold_Add_twice h a c l x hd.cq (by omega) h1 h2).mono ?_
    rintro e w' ⟨rfl, k⟩
    have e : addE ms ds l x = 4 := by unfold addE; rw [if_neg h1, if_pos h2]
    exact ⟨none, 0, [], by rw [e]; rfl, hd_nil _ _ _, fun y => by rw [e]; exact no y 4 (by decide), fun q => (by rw [e] at q; cases q), k, fun ad e => (by cases e)⟩
  by_cases h3 : 16 ≤ l.length
  · refine (hold_Add_full h a c l x hd.cq (by omega) h1 h2 h3).mono ?_
    rintro e w' ⟨rfl, k⟩
    have e : addE ms ds l x = 14 := by unfold addE; rw [if_neg h1, if_neg h2, if_pos h3]
    exact ⟨none, 0, [], by rw [e]; rfl, hd_nil _ _ _, fun y => by rw [e]; exact no y 14 (by decide), fun q => (by rw [e] at q; cases q), k, fun ad e => (by cases e)⟩
  have e0 : addE ms ds l x = 0 := by unfold addE; rw [if_neg h1, if_neg h2, if_neg h3]
  have fin : ∀ e w', HdAdd w (ixC ms ds) l x e w' → AddP w ms ds l x e w' := by
    rintro e w' ⟨v, l', rfl, hi, ho, k⟩
    obtain ⟨r1, r2, r3⟩ := ins_is hd.rs (fun y hy q => h2 (by rw [← ixC_inj h.ct (hd.ok y hy) q]; exact hy)) hi
    obtain ⟨a', c', rfl, hq, hn⟩ := ho.form
    refine ⟨a', c', l', by rw [e0]; rfl, ⟨hq, ho.le, hn, r1, fun y hy => ?_, by omega, ho.sp⟩, fun y => by rw [e0, r2]; simp, fun _ => r3, k, ho.fr⟩
    rcases (r2 y).1 hy with rfl | hy
    · omega
    · exact hd.ok y hy
  cases a with
  | none =>
    obtain ⟨rfl, rfl⟩ := hd.nl rfl
    exact (hold_Add_none h x h1).mono fin
  | some ad =>
    obtain ⟨b, o, spot⟩ := ad
    obtain rfl : spot = none := hd.sp _ rfl
    exact (hold_Add_some h b o c l x hd.cq hd.le hd.rs h1 h2 (by omega)).mono fin
theorem hd_Drop (h : SW w s p ds ms tp rv) {a : Option Addr} {c : Nat} {l : List Cl} (hd : Hd w ms ds a c l) (x : Cl) :
    Calls Tryz.prog 9 #[hdV a l.length c, .pointer (some ⟨s, 0, none⟩), clV x] w (DropP w ms ds l x) := by
  have hsm := hd.sm
  have no : ∀ (y : Cl) (k : Int), k ≠ 0 → (y ∈ ([] : List Cl) ↔ k = 0 ∧ y ∈ l ∧ y ≠ x) := fun y k hk => by simp [hk]
  by_cases h1 : ixC ms ds x < 0
  · refine (hold_Drop_range h a c l x hd.cq (by omega) h1).mono ?_
    rintro e w' ⟨rfl, k⟩
    have e : dropE ms ds l x = 17 := if_pos h1
    exact ⟨none, 0, [], by rw [e]; rfl, hd_nil _ _ _, fun y => by rw [e]; exact no y 17 (by decide), k, fun ad e => (by cases e)⟩
  by_cases h2 : x ∈ l
  · have e0 : dropE ms ds l x = 0 := by unfold dropE; rw [if_neg h1, if_pos h2]
    obtain ⟨b, o, rfl⟩ := hd.cq.form (List.length_pos_of_mem h2)
    refine (hold_Drop_some h b o c l x hd.cq (by omega) hd.le h1 h2).mono ?_
    rintro e w' ⟨v, i, rfl, _, hi, he, ho, k⟩
    obtain ⟨r1, r2⟩ := drop_is hd.rs hi he
    obtain ⟨a', c', rfl, hq, hn⟩ := ho.form
    refine ⟨a', c', l.take i ++ l.drop (i + 1), by rw [e0]; rfl, ⟨hq, ho.le, hn, r1, fun y hy => hd.ok y ((r2 y).1 hy).1, by simp; omega, ho.sp⟩, fun y => by rw [e0, r2]; simp, k, ho.fr⟩
  · refine (hold_Drop_none h a c l x hd.cq (by omega) h1 h2).mono ?_
    rintro e w' ⟨rfl, k⟩
    have e : dropE ms ds l x = 10 := by unfold dropE; rw [if_neg h1, if_neg h2]
    exact ⟨none, 0, [], by rw [e]; rfl, hd_nil _ _ _, fun y => by rw [e]; exact no y 10 (by decide), k, fun ad e => (by cases e)⟩
end
end Go.Proofs.YtpkepkemjcjplaaGreat
