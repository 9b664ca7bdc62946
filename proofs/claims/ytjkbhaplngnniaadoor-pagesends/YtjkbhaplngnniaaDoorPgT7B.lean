/- Roots that were told: their row, and how often each is told. · What comes of both Sets together. -/
import Derived.Test.YtjkbhaplngnniaaDoorPgT5B
import Derived.Test.YtjkbhaplngnniaaDoorPg14
namespace Go.Proofs.YtjkbhaplngnniaaDoor
open Go.RowKit Go.Maps
set_option linter.unusedSimpArgs false
set_option linter.unusedVariables false

/-- The roots, each with how often it is still to be dropped, as cells. -/
def tL : List (Int × Int) → List Value
  | [] => []
  | e :: r => .int .i64 e.1 :: .int .i64 e.1 :: .int .i64 e.2 :: tL r
theorem tL_len : ∀ l, (tL l).length = l.length * 3 := by
  intro l
  induction l with
  | nil => rfl
  | cons e r ih => simp only [tL, List.length_cons, ih]; omega
theorem tL_get : ∀ (l : List (Int × Int)) (i : Nat), i < l.length → (tL l)[i * 3]? = some (.int .i64 (l.getD i (0, 0)).1) ∧ (tL l)[i * 3 + 1]? = some (.int .i64 (l.getD i (0, 0)).1) ∧ (tL l)[i * 3 + 2]? = some (.int .i64 (l.getD i (0, 0)).2) := by
  intro l
  induction l with
  | nil => intro i h; simp at h
  | cons e r ih =>
    intro i h
    cases i with
    | zero => exact ⟨rfl, rfl, rfl⟩
    | succ i =>
      have := ih i (by simpa using h)
      rw [show (i + 1) * 3 = i * 3 + 3 by omega]
      exact this
theorem tL_app : ∀ (l m : List (Int × Int)), tL (l ++ m) = tL l ++ tL m := by
  intro l m
  induction l with
  | nil => rfl
  | cons e r ih => simp only [tL, List.cons_append, ih]
/-- How often a number is told. -/
def tC : List (Int × Int) → Int → Nat
  | [], _ => 0
  | e :: r, i => (if e.1 = i then e.2.toNat else 0) + tC r i
theorem tC_app : ∀ (l : List (Int × Int)) (x c i : Int), tC (l ++ [(x, c)]) i = tC l i + if x = i then c.toNat else 0 := by
  intro l x c i
  induction l with
  | nil => show (if x = i then c.toNat else 0) + 0 = 0 + _; omega
  | cons e r ih => simp only [tC, List.cons_append, ih]; omega
theorem tC_set : ∀ (l : List (Int × Int)) (k : Nat) (c i : Int), k < l.length → tC (l.set k ((l.getD k (0, 0)).1, c)) i + (if (l.getD k (0, 0)).1 = i then (l.getD k (0, 0)).2.toNat else 0) = tC l i + if (l.getD k (0, 0)).1 = i then c.toNat else 0 := by
  intro l
  induction l with
  | nil => intro k c i h; simp at h
  | cons e r ih =>
    intro k c i h
    cases k with
    | zero =>
      show ((if e.1 = i then c.toNat else 0) + tC r i) + (if e.1 = i then e.2.toNat else 0) = ((if e.1 = i then e.2.toNat else 0) + tC r i) + _
      show _ = ((if e.1 = i then e.2.toNat else 0) + tC r i) + (if e.1 = i then c.toNat else 0)
      omega
    | succ k =>
      have := ih k c i (by simpa using h)
      show ((if e.1 = i then e.2.toNat else 0) + tC (r.set k ((r.getD k (0, 0)).1, c)) i) + (if (r.getD k (0, 0)).1 = i then (r.getD k (0, 0)).2.toNat else 0) = ((if e.1 = i then e.2.toNat else 0) + tC r i) + (if (r.getD k (0, 0)).1 = i then c.toNat else 0)
      omega
theorem tC_pos : ∀ (l : List (Int × Int)) (k : Nat) , k < l.length → (l.getD k (0, 0)).2.toNat ≤ tC l (l.getD k (0, 0)).1 := by
  intro l
  induction l with
  | nil => intro k h; simp at h
  | cons e r ih =>
    intro k h
    cases k with
    | zero => show e.2.toNat ≤ (if e.1 = e.1 then e.2.toNat else 0) + _; rw [if_pos rfl]; omega
    | succ k =>
      have := ih k (by simpa using h)
      show (r.getD k (0, 0)).2.toNat ≤ (if e.1 = (r.getD k (0, 0)).1 then e.2.toNat else 0) + tC r (r.getD k (0, 0)).1
      omega
end Go.Proofs.YtjkbhaplngnniaaDoor
namespace Go.Proofs.YtjkbhaplngnniaaDoor
set_option linter.unusedSimpArgs false
set_option linter.unusedVariables false

theorem PInv.transfer {n n2 : Nat} {rf : Int → Nat} {nd nd2 : Int → ANd} {T lev : Int → Nat} {L : Nat} (h : PInv n rf nd T lev L) (hn : ∀ i, rf i ≠ 0 → nd2 i = nd i) (ok2 : RfOk n2 rf) (kok2 : ∀ i, (nd2 i).kids.length = 8 ∧ (nd2 i).vals.length = 8) : PInv n2 rf nd2 T lev L := by
  refine ⟨ok2, kok2, fun i hi => ?_, fun i hi => ?_⟩
  · rw [h.cnt i hi]
    congr 1
    rw [← cntK_ext h.ok (max n n2) (by omega), ← cntK_ext ok2 (max n n2) (by omega)]
    exact cntK_congr _ (fun j _ _ => ⟨Iff.rfl, fun hj => by unfold kdA; rw [hn j hj]⟩)
  · rw [hn i hi]
    exact h.shp i hi
section
variable {most : Int} {n n2 : Nat} {rf : Int → Nat} {nd nd2 : Int → ANd} {T lev : Int → Nat} {L : Nat} {root c : Int} {e : Int × Bool}
/-- How many nodes are wanted is one number. -/
theorem mny_both (h : PInv n rf nd T lev L) (hr : RootOk rf lev L root) (hn : ∀ i, rf i ≠ 0 → nd2 i = nd i) (ok2 : RfOk n2 rf) (kok2 : ∀ i, (nd2 i).kids.length = 8 ∧ (nd2 i).vals.length = 8) :
    mny (refN nd2 c root L e) L = mny (newN nd c root L e) L ∧ ∀ l, 1 ≤ l → l ≤ L → ∀ id, refN nd2 c root L e l id = newN nd c root L e l id := by
  have h2 := h.transfer hn ok2 kok2
  have he : ∀ l, 1 ≤ l → l ≤ L → ∀ id, refN nd2 c root L e l id = newN nd c root L e l id := fun l h1 hl id => by
    rw [(h2.newN hr c e h1 hl id).2]
    exact newN_congr h hr hn h1 hl id
  exact ⟨(thr_congr L (fun m h1 hm => he m h1 hm 0)).2, he⟩
theorem usd_both (ok : RfOk n rf) (ok2 : RfOk n2 rf) : usd rf n2 = usd rf n := by
  rw [← usd_more ok2 (max n n2) (by omega), ← usd_more ok (max n n2) (by omega)]
/-- What r10_Set asks for: on the chain all that was there is there. -/
theorem hch_both (h : PInv n rf nd T lev L) (hr : RootOk rf lev L root) (hn : ∀ i, rf i ≠ 0 → nd2 i = nd i) (ok2 : RfOk n2 rf) (kok2 : ∀ i, (nd2 i).kids.length = 8 ∧ (nd2 i).vals.length = 8) (hcap : (usd rf n : Int) ≤ most)
    (hroom : ¬ (most - usd rf n2 < mny (refN nd2 c root L e) L)) : ∀ l, l ≤ L → ∀ u, RefEnd most (refN nd2 c root L e) l 1 ⟨n2, rf, nd2, 0, 0⟩ u → ∀ i, rf i ≠ 0 → u.rf i ≠ 0 ∧ u.nd i = nd2 i := by
  intro l hl u hu i hi
  have h2 := h.transfer hn ok2 kok2
  have hm := (thr_congr (f := refN nd2 c root L e) (g := newN nd2 c root L e) L (fun m h1 hm => (h2.newN hr c e h1 hm 0).2)).2
  have hub := usd_both h.ok ok2
  have hroom2 : (usd rf n2 : Int) + mny (newN nd2 c root L e) L ≤ most := by rw [← hm]; omega
  have hu' : RefEnd most (newN nd2 c root L e) l 1 ⟨n2, rf, nd2, 0, 0⟩ u := refEnd_congr l 1 _ u (fun m h1 hm id => (h2.newN hr c e h1 (by omega) id).2) hu
  have hcap2 : (usd rf n2 : Int) ≤ most := by rw [hub]; exact hcap
  obtain ⟨lev', h'⟩ := ref_chain h2 hr hroom2 l 0 ⟨n2, rf, nd2, 0, 0⟩ u lev (ci_start h2 hcap2 _) (by omega) hu'
  have := h'.old i hi
  exact ⟨this.1, this.2.1⟩
/-- With room both trees have the same root, and the arenas the same nodes. -/
theorem end_both (h : PInv n rf nd T lev L) (hr : RootOk rf lev L root) (hn : ∀ i, rf i ≠ 0 → nd2 i = nd i) (ok2 : RfOk n2 rf) (kok2 : ∀ i, (nd2 i).kids.length = 8 ∧ (nd2 i).vals.length = 8) (hcap : (usd rf n : Int) ≤ most)
    (hroom : ¬ (most - usd rf n2 < mny (refN nd2 c root L e) L)) {t v : PSt} (ht : SetEnd most (newN nd c root L e) L 1 ⟨n, rf, nd, 0, 0⟩ t) (hv : RefEnd most (refN nd2 c root L e) L 1 ⟨n2, rf, nd2, 0, 0⟩ v) :
    t.er = 0 ∧ v.id = t.id ∧ v.rf = t.rf ∧ (∀ i, t.rf i ≠ 0 → v.nd i = t.nd i) ∧ ∃ lev', PInv t.n t.rf t.nd (pend T t.id) lev' L ∧ RootOk t.rf lev' L t.id ∧ (usd t.rf t.n : Int) ≤ most ∧ ∀ i, rf i ≠ 0 → t.rf i ≠ 0 ∧ lev' i = lev i := by
  obtain ⟨hm, he⟩ := mny_both (c := c) (e := e) h hr hn ok2 kok2
  have hub := usd_both h.ok ok2
  have hroom2 : (usd rf n : Int) + mny (newN nd c root L e) L ≤ most := by rw [← hm]; omega
  have hv' : RefEnd most (newN nd c root L e) L 1 ⟨n2, rf, nd2, 0, 0⟩ v := refEnd_congr L 1 _ v (fun m h1 hm id => he m h1 (by omega) id) hv
  have hs := both_chain h hr hroom2 L 0 ⟨n, rf, nd, 0, 0⟩ t ⟨n2, rf, nd2, 0, 0⟩ v lev (ci_start h hcap _) ⟨rfl, rfl, hn, ok2⟩ (by omega) ht hv'
  rcases set_chain h hr L 0 _ t lev (ci_start h hcap _) (by omega) ht with ⟨lev', hc, _⟩ | ⟨hbad, _⟩
  · refine ⟨hc.er, hs.id, hs.rf, hs.nd, lev', hc.inv, ?_, hc.cap, fun i hi => ⟨(hc.old i hi).1, (hc.old i hi).2.2⟩⟩
    by_cases e1 : t.id = 0
    · exact .inl e1
    · right
      have hcn := hc.inv.cnt t.id e1
      unfold pend at hcn
      rw [if_pos ⟨rfl, e1⟩] at hcn
      exact ⟨by omega, hc.lv.resolve_left e1⟩
  · omega
/-- Without room all is as it was. -/
theorem full_both (h : PInv n rf nd T lev L) (hr : RootOk rf lev L root) (hn : ∀ i, rf i ≠ 0 → nd2 i = nd i) (ok2 : RfOk n2 rf) (kok2 : ∀ i, (nd2 i).kids.length = 8 ∧ (nd2 i).vals.length = 8) (hcap : (usd rf n : Int) ≤ most)
    (hroom : most - usd rf n2 < mny (refN nd2 c root L e) L) {t : PSt} (ht : SetEnd most (newN nd c root L e) L 1 ⟨n, rf, nd, 0, 0⟩ t) :
    t.er = 14 ∧ t.id = 0 ∧ t.rf = rf ∧ (∀ i, (t.nd i).kids.length = 8 ∧ (t.nd i).vals.length = 8) ∧ ∀ i, rf i ≠ 0 → t.nd i = nd i := by
  obtain ⟨hm, he⟩ := mny_both (c := c) (e := e) h hr hn ok2 kok2
  have hub := usd_both h.ok ok2
  rcases set_chain h hr L 0 _ t lev (ci_start h hcap _) (by omega) ht with ⟨lev', hc, hok⟩ | ⟨_, a1, a2, a3, a4, a5⟩
  · rw [← hm] at hok; omega
  · exact ⟨a1, a2, a3, a4, a5⟩
end
end Go.Proofs.YtjkbhaplngnniaaDoor
