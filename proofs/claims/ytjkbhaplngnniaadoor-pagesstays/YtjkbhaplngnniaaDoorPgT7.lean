/- Roots that were told: their row, and how often each is told. · What comes of both Sets together. · What a tree has at a code, and what Set makes of it. -/
import Derived.Test.YtjkbhaplngnniaaDoorPgT5
import Derived.Test.YtjkbhaplngnniaaDoorPg14
namespace Go.Proofs.YtjkbhaplngnniaaDoor
open Go.RowKit Go.Maps
set_option linter.unusedSimpArgs false
set_option linter.unusedVariables false

/-- The roots, each with how often it is still to be dropped, as cells. -/
def tL : List (Int × Int) → List Value
  | [] => []
  | e :: r => .int .i64 e.1 :: .int .i64 e.1 :: .int .i64 e.2 :: tL r
theorem tL_len : ∀ l, (tL l).length = l.length * 3 := by
  intro l
  induction l with
  | nil => rfl
  | cons e r ih => simp only [tL, List.length_cons, ih]; omega
theorem tL_get : ∀ (l : List (Int × Int)) (i : Nat), i < l.length → (tL l)[i * 3]? = some (.int .i64 (l.getD i (0, 0)).1) ∧ (tL l)[i * 3 + 1]? = some (.int .i64 (l.getD i (0, 0)).1) ∧ (tL l)[i * 3 + 2]? = some (.int .i64 (l.getD i (0, 0)).2) := by
  intro l
  induction l with
  | nil => intro i h; simp at h
  | cons e r ih =>
    intro i h
    cases i with
    | zero => exact ⟨rfl, rfl, rfl⟩
    | succ i =>
      have := ih i (by simpa using h)
      rw [show (i + 1) * 3 = i * 3 + 3 by omega]
      exact this
theorem tL_app : ∀ (l m : List (Int × Int)), tL (l ++ m) = tL l ++ tL m := by
  intro l m
  induction l with
  | nil => rfl
  | cons e r ih => simp only [tL, List.cons_append, ih]
/-- How often a number is told. -/
def tC : List (Int × Int) → Int → Nat
  | [], _ => 0
  | e :: r, i => (if e.1 = i then e.2.toNat else 0) + tC r i
theorem tC_app : ∀ (l : List (Int × Int)) (x c i : Int), tC (l ++ [(x, c)]) i = tC l i + if x = i then c.toNat else 0 := by
  intro l x c i
  induction l with
  | nil => show (if x = i then c.toNat else 0) + 0 = 0 + _; omega
  | cons e r ih => simp only [tC, List.cons_append, ih]; omega
theorem tC_set : ∀ (l : List (Int × Int)) (k : Nat) (c i : Int), k < l.length → tC (l.set k ((l.getD k (0, 0)).1, c)) i + (if (l.getD k (0, 0)).1 = i then (l.getD k (0, 0)).2.toNat else 0) = tC l i + if (l.getD k (0, 0)).1 = i then c.toNat else 0 := by
  intro l
  induction l with
  | nil => intro k c i h; simp at h
  | cons e r ih =>
    intro k c i h
    cases k with
    | zero =>
      show ((if e.1 = i then c.toNat else 0) + tC r i) + (if e.1 = i then e.2.toNat else 0) = ((if e.1 = i then e.2.toNat else 0) + tC r i) + _
      show _ = ((if e.1 = i then e.2.toNat else 0) + tC r i) + (if e.1 = i then c.toNat else 0)
      omega
    | succ k =>
      have := ih k c i (by simpa using h)
      show ((if e.1 = i then e.2.toNat else 0) + tC (r.set k ((r.getD k (0, 0)).1, c)) i) + (if (r.getD k (0, 0)).1 = i then (r.getD k (0, 0)).2.toNat else 0) = ((if e.1 = i then e.2.toNat else 0) + tC r i) + (if (r.getD k (0, 0)).1 = i then c.toNat else 0)
      omega
theorem tC_pos : ∀ (l : List (Int × Int)) (k : Nat) , k < l.length → (l.getD k (0, 0)).2.toNat ≤ tC l (l.getD k (0, 0)).1 := by
  intro l
  induction l with
  | nil => intro k h; simp at h
  | cons e r ih =>
    intro k h
    cases k with
    | zero => show e.2.toNat ≤ (if e.1 = e.1 then e.2.toNat else 0) + _; rw [if_pos rfl]; omega
    | succ k =>
      have := ih k (by simpa using h)
      show (r.getD k (0, 0)).2.toNat ≤ (if e.1 = (r.getD k (0, 0)).1 then e.2.toNat else 0) + tC r (r.getD k (0, 0)).1
      omega
end Go.Proofs.YtjkbhaplngnniaaDoor
namespace Go.Proofs.YtjkbhaplngnniaaDoor
set_option linter.unusedSimpArgs false
set_option linter.unusedVariables false

theorem PInv.transfer {n n2 : Nat} {rf : Int → Nat} {nd nd2 : Int → ANd} {T lev : Int → Nat} {L : Nat} (h : PInv n rf nd T lev L) (hn : ∀ i, rf i ≠ 0 → nd2 i = nd i) (ok2 : RfOk n2 rf) (kok2 : ∀ i, (nd2 i).kids.length = 8 ∧ (nd2 i).vals.length = 8) : PInv n2 rf nd2 T lev L := by
  refine ⟨ok2, kok2, fun i hi => ?_, fun i hi => ?_⟩
  · rw [h.cnt i hi]
    congr 1
    rw [← cntK_ext h.ok (max n n2) (by omega), ← cntK_ext ok2 (max n n2) (by omega)]
    exact cntK_congr _ (fun j _ _ => ⟨Iff.rfl, fun hj => by unfold kdA; rw [hn j hj]⟩)
  · rw [hn i hi]
    exact h.shp i hi
section
variable {most : Int} {n n2 : Nat} {rf : Int → Nat} {nd nd2 : Int → ANd} {T lev : Int → Nat} {L : Nat} {root c : Int} {e : Int × Bool}
/-- How many nodes are wanted is one number. -/
theorem mny_both (h : PInv n rf nd T lev L) (hr : RootOk rf lev L root) (hn : ∀ i, rf i ≠ 0 → nd2 i = nd i) (ok2 : RfOk n2 rf) (kok2 : ∀ i, (nd2 i).kids.length = 8 ∧ (nd2 i).vals.length = 8) :
    mny (refN nd2 c root L e) L = mny (newN nd c root L e) L ∧ ∀ l, 1 ≤ l → l ≤ L → ∀ id, refN nd2 c root L e l id = newN nd c root L e l id := by
  have h2 := h.transfer hn ok2 kok2
  have he : ∀ l, 1 ≤ l → l ≤ L → ∀ id, refN nd2 c root L e l id = newN nd c root L e l id := fun l h1 hl id => by
    rw [(h2.newN hr c e h1 hl id).2]
    exact newN_congr h hr hn h1 hl id
  exact ⟨(thr_congr L (fun m h1 hm => he m h1 hm 0)).2, he⟩
theorem usd_both (ok : RfOk n rf) (ok2 : RfOk n2 rf) : usd rf n2 = usd rf n := by
  rw [← usd_more ok2 (max n n2) (by omega), ← usd_more ok (max n n2) (by omega)]
/-- What r10_Set asks for: on the chain all that was there is there. -/
theorem hch_both (h : PInv n rf nd T lev L) (hr : RootOk rf lev L root) (hn : ∀ i, rf i ≠ 0 → nd2 i = nd i) (ok2 : RfOk n2 rf) (kok2 : ∀ i, (nd2 i).kids.length = 8 ∧ (nd2 i).vals.length = 8) (hcap : (usd rf n : Int) ≤ most)
    (hroom : ¬ (most - usd rf n2 < mny (refN nd2 c root L e) L)) : ∀ l, l ≤ L → ∀ u, RefEnd most (refN nd2 c root L e) l 1 ⟨n2, rf, nd2, 0, 0⟩ u → ∀ i, rf i ≠ 0 → u.rf i ≠ 0 ∧ u.nd i = nd2 i := by
  intro l hl u hu i hi
  have h2 := h.transfer hn ok2 kok2
  have hm := (thr_congr (f := refN nd2 c root L e) (g := newN nd2 c root L e) L (fun m h1 hm => (h2.newN hr c e h1 hm 0).2)).2
  have hub := usd_both h.ok ok2
  have hroom2 : (usd rf n2 : Int) + mny (newN nd2 c root L e) L ≤ most := by rw [← hm]; omega
  have hu' : RefEnd most (newN nd2 c root L e) l 1 ⟨n2, rf, nd2, 0, 0⟩ u := refEnd_congr l 1 _ u (fun m h1 hm id => (h2.newN hr c e h1 (by omega) id).2) hu
  have hcap2 : (usd rf n2 : Int) ≤ most := by rw [hub]; exact hcap
  obtain ⟨lev', h'⟩ := ref_chain h2 hr hroom2 l 0 ⟨n2, rf, nd2, 0, 0⟩ u lev (ci_start h2 hcap2 _) (by omega) hu'
  have := h'.old i hi
  exact ⟨this.1, this.2.1⟩
/-- With room both trees have the same root, and the arenas the same nodes. -/
theorem end_both (h : PInv n rf nd T lev L) (hr : RootOk rf lev L root) (hn : ∀ i, rf i ≠ 0 → nd2 i = nd i) (ok2 : RfOk n2 rf) (kok2 : ∀ i, (nd2 i).kids.length = 8 ∧ (nd2 i).vals.length = 8) (hcap : (usd rf n : Int) ≤ most)
    (hroom : ¬ (most - usd rf n2 < mny (refN nd2 c root L e) L)) {t v : PSt} (ht : SetEnd most (newN nd c root L e) L 1 ⟨n, rf, nd, 0, 0⟩ t) (hv : RefEnd most (refN nd2 c root L e) L 1 ⟨n2, rf, nd2, 0, 0⟩ v) :
    t.er = 0 ∧ v.id = t.id ∧ v.rf = t.rf ∧ (∀ i, t.rf i ≠ 0 → v.nd i = t.nd i) ∧ ∃ lev', PInv t.n t.rf t.nd (pend T t.id) lev' L ∧ RootOk t.rf lev' L t.id ∧ (usd t.rf t.n : Int) ≤ most ∧ ∀ i, rf i ≠ 0 → t.rf i ≠ 0 ∧ lev' i = lev i := by
  obtain ⟨hm, he⟩ := mny_both (c := c) (e := e) h hr hn ok2 kok2
  have hub := usd_both h.ok ok2
  have hroom2 : (usd rf n : Int) + mny (newN nd c root L e) L ≤ most := by rw [← hm]; omega
  have hv' : RefEnd most (newN nd c root L e) L 1 ⟨n2, rf, nd2, 0, 0⟩ v := refEnd_congr L 1 _ v (fun m h1 hm id => he m h1 (by omega) id) hv
  have hs := both_chain h hr hroom2 L 0 ⟨n, rf, nd, 0, 0⟩ t ⟨n2, rf, nd2, 0, 0⟩ v lev (ci_start h hcap _) ⟨rfl, rfl, hn, ok2⟩ (by omega) ht hv'
  rcases set_chain h hr L 0 _ t lev (ci_start h hcap _) (by omega) ht with ⟨lev', hc, _⟩ | ⟨hbad, _⟩
  · refine ⟨hc.er, hs.id, hs.rf, hs.nd, lev', hc.inv, ?_, hc.cap, fun i hi => ⟨(hc.old i hi).1, (hc.old i hi).2.2⟩⟩
    by_cases e1 : t.id = 0
    · exact .inl e1
    · right
      have hcn := hc.inv.cnt t.id e1
      unfold pend at hcn
      rw [if_pos ⟨rfl, e1⟩] at hcn
      exact ⟨by omega, hc.lv.resolve_left e1⟩
  · omega
/-- Without room all is as it was. -/
theorem full_both (h : PInv n rf nd T lev L) (hr : RootOk rf lev L root) (hn : ∀ i, rf i ≠ 0 → nd2 i = nd i) (ok2 : RfOk n2 rf) (kok2 : ∀ i, (nd2 i).kids.length = 8 ∧ (nd2 i).vals.length = 8) (hcap : (usd rf n : Int) ≤ most)
    (hroom : most - usd rf n2 < mny (refN nd2 c root L e) L) {t : PSt} (ht : SetEnd most (newN nd c root L e) L 1 ⟨n, rf, nd, 0, 0⟩ t) :
    t.er = 14 ∧ t.id = 0 ∧ t.rf = rf ∧ (∀ i, (t.nd i).kids.length = 8 ∧ (t.nd i).vals.length = 8) ∧ ∀ i, rf i ≠ 0 → t.nd i = nd i := by
  obtain ⟨hm, he⟩ := mny_both (c := c) (e := e) h hr hn ok2 kok2
  have hub := usd_both h.ok ok2
  rcases set_chain h hr L 0 _ t lev (ci_start h hcap _) (by omega) ht with ⟨lev', hc, hok⟩ | ⟨_, a1, a2, a3, a4, a5⟩
  · rw [← hm] at hok; omega
  · exact ⟨a1, a2, a3, a4, a5⟩
end
end Go.Proofs.YtjkbhaplngnniaaDoor
namespace Go.Proofs.YtjkbhaplngnniaaDoor
set_option linter.unusedSimpArgs false
set_option linter.unusedVariables false

/-- The entry of a tree of l levels at an offset. -/
def entL (nd : Int → ANd) : Nat → Int → Nat → Int × Bool
  | 0, _, _ => (0, false)
  | 1, a, o => (ndZ nd a).vals.getD o (0, false)
  | l + 2, a, o => entL nd (l + 1) ((ndZ nd a).kids.getD (o / 8 ^ (l + 1)) 0) (o % 8 ^ (l + 1))
theorem entL_zero (nd : Int → ANd) : ∀ l o, entL nd l 0 o = (0, false) := by
  intro l
  induction l with
  | zero => intro o; rfl
  | succ l ih =>
    intro o
    cases l with
    | zero =>
      show (ndZ nd 0).vals.getD o (0, false) = _
      unfold ndZ; rw [if_pos rfl]; exact zv_getD o
    | succ l =>
      show entL nd (l + 1) ((ndZ nd 0).kids.getD (o / 8 ^ (l + 1)) 0) (o % 8 ^ (l + 1)) = _
      unfold ndZ; rw [if_pos rfl, zk_getD]; exact ih _
section
variable {n : Nat} {rf : Int → Nat} {nd nd' : Int → ANd} {T lev : Int → Nat} {L : Nat}
theorem PInv.kidOk (h : PInv n rf nd T lev L) {l : Nat} {a : Int} (hr : RootOk rf lev (l + 1) a) (d : Nat) : RootOk rf lev l ((ndZ nd a).kids.getD d 0) := by
  by_cases e : a = 0
  · unfold ndZ; rw [if_pos e, zk_getD]; exact .inl rfl
  · obtain ⟨h1, h2⟩ := hr.resolve_left e
    unfold ndZ; rw [if_neg e]
    by_cases e0 : (nd a).kids.getD d 0 = 0
    · exact .inl e0
    · have hm := (getD_mem (nd a).kids d).resolve_left e0
      exact .inr ⟨h.kid h1 hm e0, by have := (h.shp a h1).2.2.2.2.2 _ hm e0; omega⟩
theorem entL_congr (h : PInv n rf nd T lev L) (hn : ∀ i, rf i ≠ 0 → nd' i = nd i) : ∀ (l : Nat) (a : Int) (o : Nat), RootOk rf lev l a → entL nd' l a o = entL nd l a o := by
  intro l
  induction l with
  | zero => intro a o _; rfl
  | succ l ih =>
    intro a o hr
    have hz : ndZ nd' a = ndZ nd a := by
      unfold ndZ
      by_cases e : a = 0
      · rw [if_pos e, if_pos e]
      · rw [if_neg e, if_neg e]; exact hn a (hr.resolve_left e).1
    cases l with
    | zero => show (ndZ nd' a).vals.getD o (0, false) = (ndZ nd a).vals.getD o (0, false); rw [hz]
    | succ l =>
      show entL nd' (l + 1) ((ndZ nd' a).kids.getD (o / 8 ^ (l + 1)) 0) (o % 8 ^ (l + 1)) = entL nd (l + 1) ((ndZ nd a).kids.getD (o / 8 ^ (l + 1)) 0) (o % 8 ^ (l + 1))
      rw [hz]
      exact ih _ _ (h.kidOk hr _)
end
theorem dig_nat (c l : Nat) : (dig (c : Int) l).toNat = c / 8 ^ (l - 1) % 8 := by
  unfold dig
  rw [show (8 : Int) ^ (l - 1) = ((8 ^ (l - 1) : Nat) : Int) by push_cast; rfl, ← Int.natCast_ediv]
  generalize c / 8 ^ (l - 1) = x
  omega
/-- The way's last node has the entry. -/
theorem ent_way (nd : Int → ANd) (c : Nat) (root : Int) (L : Nat) : ∀ k, k < L → entL nd L root (c % 8 ^ L) = entL nd (L - k) (wI nd c root L k) (c % 8 ^ (L - k)) := by
  intro k
  induction k with
  | zero => intro _; rfl
  | succ k ih =>
    intro hk
    rw [ih (by omega)]
    obtain ⟨l, hl⟩ : ∃ l, L - k = l + 2 := ⟨L - k - 2, by omega⟩
    rw [hl, show L - (k + 1) = l + 1 by omega]
    show entL nd (l + 1) ((ndZ nd (wI nd c root L k)).kids.getD (c % 8 ^ (l + 2) / 8 ^ (l + 1)) 0) (c % 8 ^ (l + 2) % 8 ^ (l + 1)) = entL nd (l + 1) ((ndZ nd (wI nd c root L k)).kids.getD (dig c (L - k)).toNat 0) (c % 8 ^ (l + 1))
    rw [hl, dig_nat, show l + 2 - 1 = l + 1 by omega, show (8 : Nat) ^ (l + 2) = 8 ^ (l + 1) * 8 from Nat.pow_succ _ _, Nat.mod_mul_right_div_self, Nat.mod_mul_right_mod]
theorem ent_get (nd : Int → ANd) (c : Nat) (root : Int) (L : Nat) (hL : 1 ≤ L) (hc : c < 8 ^ L) : entN (wN nd c root L 1) c = entL nd L root c := by
  have := ent_way nd c root L (L - 1) (by omega)
  rw [Nat.mod_eq_of_lt hc, show L - (L - 1) = 1 by omega] at this
  rw [this]
  unfold entN wN
  rw [dig_nat]
  simp [entL]
theorem split_eq {c o P : Nat} (hP : 0 < P) (ho : o < P * 8) : (o = c % (P * 8)) ↔ (o / P = c / P % 8 ∧ o % P = c % P) := by
  rw [Nat.mod_mul]
  have h1 := Nat.div_add_mod o P
  constructor
  · intro e
    have h2 : c % P < P := Nat.mod_lt _ hP
    refine ⟨?_, ?_⟩
    · rw [e, Nat.add_comm, Nat.mul_add_div hP, Nat.div_eq_of_lt h2, Nat.add_zero]
    · rw [e, Nat.add_mul_mod_self_left, Nat.mod_mod]
  · rintro ⟨e1, e2⟩
    rw [← e1, ← e2]
    omega
theorem getD_set {α : Type} (l : List α) (d o : Nat) (v z : α) (hd : d < l.length) : (l.set d v).getD o z = if o = d then v else l.getD o z := by
  by_cases e : o = d
  · subst e; rw [if_pos rfl, List.getD_eq_getElem?_getD, List.getElem?_set_self hd]; rfl
  · rw [if_neg e, List.getD_eq_getElem?_getD, List.getElem?_set_ne (fun e' => e e'.symm), ← List.getD_eq_getElem?_getD]
section
variable {most : Int} {n0 : Nat} {rf0 : Int → Nat} {nd0 : Int → ANd} {T lev0 : Int → Nat} {L : Nat} {root : Int} {c : Nat} {e : Int × Bool}
/-- What the new subtree of l levels has. -/
def Sem (nd0 : Int → ANd) (c : Nat) (root : Int) (L : Nat) (e : Int × Bool) (l : Nat) (s : PSt) : Prop :=
  ∀ o, o < 8 ^ l → entL s.nd l s.id o = if o = c % 8 ^ l then e else entL nd0 l (wI nd0 c root L (L - l)) o
/-- What a node of l + 1 levels has. -/
def entY (nd : Int → ANd) (y : ANd) (l o : Nat) : Int × Bool := if l = 0 then y.vals.getD o (0, false) else entL nd l (y.kids.getD (o / 8 ^ l) 0) (o % 8 ^ l)
theorem entL_node (nd : Int → ANd) (a : Int) (l o : Nat) : entL nd (l + 1) a o = entY nd (ndZ nd a) l o := by
  cases l with
  | zero => rfl
  | succ l => unfold entY; rw [if_neg (by omega)]; rfl
theorem entY_new (h0 : PInv n0 rf0 nd0 T lev0 L) (hr : RootOk rf0 lev0 L root) {l : Nat} {s : PSt} {lev : Int → Nat} (h : CI most n0 rf0 nd0 T lev0 L (newN nd0 c root L e) l s lev) (hl : l < L) (hs : 1 ≤ l → Sem nd0 c root L e l s) {o : Nat} (ho : o < 8 ^ (l + 1)) :
    entY s.nd (newN nd0 c root L e (l + 1) s.id) l o = if o = c % 8 ^ (l + 1) then e else entL nd0 (l + 1) (wI nd0 c root L (L - (l + 1))) o := by
  have hyk := wN_ok h0.kok c root L (l + 1)
  rw [entL_node]
  unfold entY newN
  by_cases e0 : l = 0
  · subst e0
    rw [if_pos rfl, if_pos rfl, if_pos rfl]
    simp only
    rw [getD_set _ _ _ _ _ (by rw [hyk.2]; have := dig_lt c 1; omega), dig_nat]
    simp [wN]
  · rw [if_neg e0, if_neg (by omega), if_neg e0]
    simp only
    rw [getD_set _ _ _ _ _ (by rw [hyk.1]; have := dig_lt c (l + 1); omega), dig_nat, show l + 1 - 1 = l by omega]
    have hP : 0 < 8 ^ l := Nat.pow_pos (by omega)
    rw [show (8 : Nat) ^ (l + 1) = 8 ^ l * 8 from Nat.pow_succ _ _] at ho ⊢
    have hsp := split_eq (c := c) hP ho
    have hmod : o % 8 ^ l < 8 ^ l := Nat.mod_lt _ hP
    have hw : wI nd0 c root L (L - l) = (ndZ nd0 (wI nd0 c root L (L - (l + 1)))).kids.getD (c / 8 ^ l % 8) 0 := by
      have e1 : L - l = (L - (l + 1)) + 1 := by omega
      rw [e1]
      show (ndZ nd0 (wI nd0 c root L (L - (l + 1)))).kids.getD (dig c (L - (L - (l + 1)))).toNat 0 = _
      rw [show L - (L - (l + 1)) = l + 1 by omega, dig_nat, show l + 1 - 1 = l by omega]
    by_cases ed : o / 8 ^ l = c / 8 ^ l % 8
    · rw [if_pos ed]
      have := hs (by omega) (o % 8 ^ l) hmod
      rw [this, hw]
      by_cases em : o % 8 ^ l = c % 8 ^ l
      · rw [if_pos em, if_pos (hsp.2 ⟨ed, em⟩)]
      · rw [if_neg em, if_neg (fun e' => em (hsp.1 e').2), ed]
    · rw [if_neg ed, if_neg (fun e' => ed (hsp.1 e').1)]
      have hk : RootOk rf0 lev0 (l + 1) (wI nd0 c root L (L - (l + 1))) := by
        have := h0.way hr c (L - (l + 1)) (by omega)
        rw [show L - (L - (l + 1)) = l + 1 by omega] at this
        exact this
      unfold wN
      exact entL_congr h0 (fun i hi => (h.old i hi).2.1) l _ _ (h0.kidOk hk _)
theorem sem_step (h0 : PInv n0 rf0 nd0 T lev0 L) (hr : RootOk rf0 lev0 L root) {l : Nat} {s u : PSt} {lev lev' : Int → Nat} (h : CI most n0 rf0 nd0 T lev0 L (newN nd0 c root L e) l s lev) (hl : l < L) (hs : 1 ≤ l → Sem nd0 c root L e l s)
    (hu : AbvS most s (newN nd0 c root L e (l + 1) s.id) u) (h' : CI most n0 rf0 nd0 T lev0 L (newN nd0 c root L e) (l + 1) u lev') : Sem nd0 c root L e (l + 1) u := by
  intro o ho
  rw [← entY_new h0 hr h hl hs ho]
  obtain ⟨hn, hid, hid1, hne⟩ := h.new h0 hr hl
  cases hem : emptyN (newN nd0 c root L e (l + 1) s.id) with
  | true =>
    have hs0 : s.id = 0 := by
      by_cases e1 : s.id = 0
      · exact e1
      · rw [hne e1] at hem; cases hem
    have hu' := abv_none hu hem hs0
    rw [hu']
    show entL s.nd (l + 1) 0 o = _
    rw [entL_zero]
    unfold emptyN at hem
    simp only [Bool.and_eq_true, decide_eq_true_eq] at hem
    unfold entY
    rw [hem.1, hem.2]
    split
    · exact (zv_getD o).symm
    · rw [zk_getD, entL_zero]
  | false =>
    have her := h'.er
    obtain ⟨x, hx, e1, e2, e3, e4, e5⟩ := hu
    unfold abD at e2; unfold abI at e3; unfold abE at e4
    rw [hem, hn.bare] at e2 e3 e4
    simp only [Bool.false_eq_true, if_false] at e2 e3 e4
    have hk : mkOk s.rf most s.n (newN nd0 c root L e (l + 1) s.id) = true := by
      rw [her] at e4
      unfold mkE at e4
      unfold mkOk
      by_cases a1 : haveB s.rf (newN nd0 c root L e (l + 1) s.id).kids
      · rw [if_pos a1] at e4
        by_cases a2 : (usd s.rf s.n : Int) < most
        · rw [a1, decide_eq_true a2]; rfl
        · rw [if_neg a2] at e4; omega
      · rw [if_neg a1] at e4; omega
    unfold mkD at e2; unfold mkI at e3
    rw [if_pos hk] at e2 e3
    have hx1 : 1 ≤ x := hx.1
    have hxz : s.rf x = 0 := hx.free
    rw [e3, entL_node, e2]
    have hz : ndZ (updN s.nd x (newN nd0 c root L e (l + 1) s.id)) x = newN nd0 c root L e (l + 1) s.id := by
      unfold ndZ
      rw [if_neg (by omega), updN_same]
    rw [hz]
    unfold entY
    by_cases el : l = 0
    · rw [if_pos el, if_pos el]
    · rw [if_neg el, if_neg el]
      refine entL_congr h.inv (fun i hi => updN_other _ _ (fun e' => hi (by rw [e']; exact hxz))) l _ _ ?_
      by_cases ek : (newN nd0 c root L e (l + 1) s.id).kids.getD (o / 8 ^ l) 0 = 0
      · exact .inl ek
      · have hm := (getD_mem (newN nd0 c root L e (l + 1) s.id).kids (o / 8 ^ l)).resolve_left ek
        rcases hn.kids _ hm ek with e1 | ⟨e1, e2⟩
        · rw [e1]
          rcases hid with e3 | ⟨e3, e4⟩
          · exact .inl e3
          · exact .inr ⟨e3, by omega⟩
        · exact .inr ⟨e1, by omega⟩
theorem sem_chain (h0 : PInv n0 rf0 nd0 T lev0 L) (hr : RootOk rf0 lev0 L root) : ∀ (k l : Nat) (s v : PSt) (lev : Int → Nat), CI most n0 rf0 nd0 T lev0 L (newN nd0 c root L e) l s lev → l + k = L → (1 ≤ l → Sem nd0 c root L e l s) → SetEnd most (newN nd0 c root L e) k (l + 1) s v → v.er = 0 → (1 ≤ L → Sem nd0 c root L e L v) := by
  intro k
  induction k with
  | zero =>
    intro l s v lev h hl hs hv _
    have hv' : v = s := hv
    subst hv'
    obtain rfl : l = L := by omega
    exact hs
  | succ k ih =>
    intro l s v lev h hl hs hv her
    rcases hv with ⟨e1, _⟩ | ⟨_, u, hu, hv⟩
    · exact absurd h.er e1
    by_cases hgo : emptyN (newN nd0 c root L e (l + 1) s.id) = false → (usd s.rf s.n : Int) < most
    · obtain ⟨lev', h'⟩ := ci_step h0 hr h (by omega) hu hgo
      exact ih (l + 1) u v lev' h' (by omega) (fun _ => sem_step h0 hr h (by omega) hs hu h') hv her
    · simp only [Classical.not_imp] at hgo
      obtain ⟨hem, hf⟩ := hgo
      obtain ⟨b1, b2, b3, b4, b5⟩ := ci_full h0 hr h (by omega) hu hem hf
      have hvu : v = u := by
        cases k with
        | zero => exact hv
        | succ k =>
          rcases hv with ⟨_, e1⟩ | ⟨e1, _⟩
          · exact e1
          · rw [b1] at e1; omega
      rw [hvu, b1] at her
      omega
/-- What a tree has behind a Set. -/
theorem sem_set (h0 : PInv n0 rf0 nd0 T lev0 L) (hr : RootOk rf0 lev0 L root) (hcap : (usd rf0 n0 : Int) ≤ most) (hL : 1 ≤ L) (hc : c < 8 ^ L) {t : PSt} (ht : SetEnd most (newN nd0 c root L e) L 1 ⟨n0, rf0, nd0, 0, 0⟩ t) (her : t.er = 0) :
    (∀ i, rf0 i ≠ 0 → t.nd i = nd0 i) ∧ ∀ o, o < 8 ^ L → entL t.nd L t.id o = if o = c then e else entL nd0 L root o := by
  have hs := sem_chain h0 hr L 0 _ t lev0 (ci_start h0 hcap _) (by omega) (fun e => absurd e (by omega)) ht her hL
  refine ⟨?_, fun o ho => ?_⟩
  · rcases set_chain h0 hr L 0 _ t lev0 (ci_start h0 hcap _) (by omega) ht with ⟨lev', hc, _⟩ | ⟨_, b1, _⟩
    · exact fun i hi => (hc.old i hi).2.1
    · rw [her] at b1; omega
  · have := hs o ho
    rw [Nat.mod_eq_of_lt hc, Nat.sub_self] at this
    exact this
end
theorem lvls_pow {c : Int} (hc : c ≤ 4096) : c ≤ ((8 ^ lvls c : Nat) : Int) := by
  unfold lvls
  split
  · show c ≤ 8; assumption
  · split
    · show c ≤ 64; assumption
    · split
      · show c ≤ 512; assumption
      · show c ≤ 4096; assumption
end Go.Proofs.YtjkbhaplngnniaaDoor
