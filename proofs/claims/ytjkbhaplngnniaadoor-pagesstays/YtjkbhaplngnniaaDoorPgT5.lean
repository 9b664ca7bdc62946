/- Nodes of levels: how often each is asked for is one thing, if it is told which are told. · Trees of levels in an arena: one step of Set, and what stays. · Set, from end to end: the nodes that are made, or that all is as it was. · Set, level by level: with room, and without. · The program's Set and the definition's go alike. -/
import Derived.Test.YtjkbhaplngnniaaDoorPg13
import Derived.Test.YtjkbhaplngnniaaDoorArMath3
namespace Go.Proofs.YtjkbhaplngnniaaDoor
set_option linter.unusedSimpArgs false
set_option linter.unusedVariables false

theorem cntK_ge {kd : Int → List Int} {rf : Int → Nat} {x : Int} : ∀ (n j : Nat), 1 ≤ j → j ≤ n → rf j ≠ 0 → (kd j).count x ≤ cntK kd rf x n := by
  intro n
  induction n with
  | zero => intro j h1 h2; omega
  | succ n ih =>
    intro j h1 h2 h3
    unfold cntK
    by_cases e : j = n + 1
    · subst e; rw [if_neg h3]; omega
    · have := ih j h1 (by omega) h3
      omega
theorem cntK_mem {kd : Int → List Int} {rf : Int → Nat} {x : Int} {n : Nat} (h : cntK kd rf x n ≠ 0) : ∃ j : Nat, 1 ≤ j ∧ j ≤ n ∧ rf j ≠ 0 ∧ x ∈ kd j := by
  by_cases c : ∀ j : Nat, 1 ≤ j → j ≤ n → rf j ≠ 0 → (kd j).count x = 0
  · exact absurd (cntK_zero n c) h
  · simp only [Classical.not_forall] at c
    obtain ⟨j, h1, h2, h3, h4⟩ := c
    exact ⟨j, h1, h2, h3, List.count_pos_iff.1 (by omega)⟩
theorem cntK_of_mem {kd : Int → List Int} {rf : Int → Nat} {x : Int} {n : Nat} (ho : RfOk n rf) {j : Int} (h3 : rf j ≠ 0) (h4 : x ∈ kd j) : cntK kd rf x n ≠ 0 := by
  have hin : 1 ≤ j ∧ j ≤ (n : Int) := by
    by_cases c : 1 ≤ j ∧ j ≤ (n : Int)
    · exact c
    · exact absurd (ho j c) h3
  obtain ⟨k, rfl⟩ : ∃ k : Nat, j = (k : Int) := ⟨j.toNat, by omega⟩
  have h1 := cntK_ge (kd := kd) (rf := rf) (x := x) n k (by omega) (by omega) h3
  have h2 := List.count_pos_iff.2 h4
  omega
/-- Levels go down. -/
def LevOk (rf : Int → Nat) (nd : Int → ANd) (lev : Int → Nat) (L : Nat) : Prop := ∀ i, rf i ≠ 0 → lev i ≤ L ∧ ∀ k ∈ (nd i).kids, k ≠ 0 → lev k < lev i
theorem cnt_unique {T : Int → Nat} {lev lev0 : Int → Nat} {L : Nat} {r rf0 : Int → Nat} {nd nd0 : Int → ANd} {n n0 : Nat} (h1 : RfOk n r) (h2 : RfOk n0 rf0) (c1 : ∀ i, i ≠ 0 → r i = T i + cntK (kdA nd) r i n) (c2 : ∀ i, i ≠ 0 → rf0 i = T i + cntK (kdA nd0) rf0 i n0)
    (l1 : LevOk r nd lev L) (l2 : LevOk rf0 nd0 lev0 L) (hl : ∀ i, rf0 i ≠ 0 → lev i = lev0 i) (hn : ∀ i, rf0 i ≠ 0 → nd i = nd0 i) : r = rf0 := by
  have z1 : r 0 = 0 := h1 0 (by omega)
  have z2 : rf0 0 = 0 := h2 0 (by omega)
  have up : ∀ (m : Nat) (i : Int), L < lev i + m → r i ≠ 0 → rf0 i ≠ 0 := by
    intro m
    induction m with
    | zero => intro i hi hr; have := (l1 i hr).1; omega
    | succ m ih =>
      intro i hi hr
      have hi0 : i ≠ 0 := fun e => hr (by rw [e]; exact z1)
      have hc := c1 i hi0
      have hc0 := c2 i hi0
      by_cases hT : T i = 0
      · obtain ⟨p, p1, p2, p3, p4⟩ := cntK_mem (kd := kdA nd) (rf := r) (x := i) (n := n) (by omega)
        have hlv := (l1 p p3).2 i p4 hi0
        have hp0 := ih p (by omega) p3
        have : cntK (kdA nd0) rf0 i n0 ≠ 0 := cntK_of_mem h2 hp0 (by unfold kdA; rw [← hn p hp0]; exact p4)
        omega
      · omega
  have dn : ∀ (m : Nat) (i : Int), L < lev0 i + m → rf0 i ≠ 0 → r i ≠ 0 := by
    intro m
    induction m with
    | zero => intro i hi hr; have := (l2 i hr).1; omega
    | succ m ih =>
      intro i hi hr
      have hi0 : i ≠ 0 := fun e => hr (by rw [e]; exact z2)
      have hc := c1 i hi0
      have hc0 := c2 i hi0
      by_cases hT : T i = 0
      · obtain ⟨p, p1, p2, p3, p4⟩ := cntK_mem (kd := kdA nd0) (rf := rf0) (x := i) (n := n0) (by omega)
        have hlv := (l2 p p3).2 i p4 hi0
        have hp0 := ih p (by omega) p3
        have : cntK (kdA nd) r i n ≠ 0 := cntK_of_mem h1 hp0 (by unfold kdA; rw [hn p p3]; exact p4)
        omega
      · omega
  have hiff : ∀ i, r i = 0 ↔ rf0 i = 0 := fun i => by
    constructor
    · intro h
      by_cases e : rf0 i = 0
      · exact e
      · exact absurd h (dn (L + 1) i (by omega) e)
    · intro h
      by_cases e : r i = 0
      · exact e
      · exact absurd h (up (L + 1) i (by omega) e)
  funext i
  by_cases hi0 : i = 0
  · rw [hi0, z1, z2]
  · rw [c1 i hi0, c2 i hi0]
    congr 1
    have e1 : cntK (kdA nd) r i n = cntK (kdA nd) r i (max n n0) := (cntK_ext h1 _ (by omega)).symm
    have e2 : cntK (kdA nd0) rf0 i n0 = cntK (kdA nd0) rf0 i (max n n0) := (cntK_ext h2 _ (by omega)).symm
    rw [e1, e2]
    refine cntK_congr _ (fun j _ _ => ⟨hiff j, fun hj => ?_⟩)
    unfold kdA
    rw [hn j (fun e => hj ((hiff j).2 e))]
/-- Nothing is told: there are no nodes. -/
theorem cnt_end {lev : Int → Nat} {L : Nat} {r : Int → Nat} {nd : Int → ANd} {n : Nat} (h1 : RfOk n r) (c1 : ∀ i, i ≠ 0 → r i = cntK (kdA nd) r i n) (l1 : LevOk r nd lev L) : r = fun _ => 0 := by
  refine cnt_unique (T := fun _ => 0) (lev := lev) (lev0 := lev) (L := L) (nd0 := nd) (n0 := 0) h1 (fun i _ => rfl) (fun i hi => by rw [Nat.zero_add]; exact c1 i hi) (fun i hi => rfl) l1 (fun i hi => absurd rfl hi) (fun i _ => rfl) (fun i _ => rfl)
end Go.Proofs.YtjkbhaplngnniaaDoor
namespace Go.Proofs.YtjkbhaplngnniaaDoor
set_option linter.unusedSimpArgs false
set_option linter.unusedVariables false

structure PInv (n : Nat) (rf : Int → Nat) (nd : Int → ANd) (T : Int → Nat) (lev : Int → Nat) (L : Nat) : Prop where
  ok : RfOk n rf
  kok : ∀ i, (nd i).kids.length = 8 ∧ (nd i).vals.length = 8
  cnt : ∀ i, i ≠ 0 → rf i = T i + cntK (kdA nd) rf i n
  shp : ∀ i, rf i ≠ 0 → 1 ≤ lev i ∧ lev i ≤ L ∧ (nd i).leaf = decide (lev i = 1) ∧ bareN (nd i) = nd i ∧ emptyN (nd i) = false ∧ ∀ k ∈ (nd i).kids, k ≠ 0 → lev k + 1 = lev i
/-- One that is told besides. -/
def pend (T : Int → Nat) (i : Int) : Int → Nat := fun j => T j + if j = i ∧ i ≠ 0 then 1 else 0
theorem pend_zero (T : Int → Nat) : pend T 0 = T := by funext j; unfold pend; simp
theorem PInv.levOk {n : Nat} {rf : Int → Nat} {nd : Int → ANd} {T lev : Int → Nat} {L : Nat} (h : PInv n rf nd T lev L) : LevOk rf nd lev L := fun i hi => ⟨(h.shp i hi).2.1, fun k hk h0 => by have := (h.shp i hi).2.2.2.2.2 k hk h0; omega⟩
theorem PInv.kid {n : Nat} {rf : Int → Nat} {nd : Int → ANd} {T lev : Int → Nat} {L : Nat} (h : PInv n rf nd T lev L) {i : Int} (hi : rf i ≠ 0) {k : Int} (hk : k ∈ (nd i).kids) (h0 : k ≠ 0) : rf k ≠ 0 := by
  have := h.cnt k h0
  have := cntK_of_mem (kd := kdA nd) (x := k) h.ok hi hk
  omega
theorem getD_mem (l : List Int) (d : Nat) : l.getD d 0 = 0 ∨ l.getD d 0 ∈ l := by
  by_cases h : d < l.length
  · right
    rw [List.getD_eq_getElem?_getD, List.getElem?_eq_getElem h]
    exact List.getElem_mem _
  · left
    rw [List.getD_eq_getElem?_getD, List.getElem?_eq_none (by omega)]
    rfl
/-- A root. -/
def RootOk (rf lev : Int → Nat) (L : Nat) (r : Int) : Prop := r = 0 ∨ (rf r ≠ 0 ∧ lev r = L)
theorem PInv.way {n : Nat} {rf : Int → Nat} {nd : Int → ANd} {T lev : Int → Nat} {L : Nat} (h : PInv n rf nd T lev L) {root : Int} (hr : RootOk rf lev L root) (c : Int) : ∀ k, k < L → wI nd c root L k = 0 ∨ (rf (wI nd c root L k) ≠ 0 ∧ lev (wI nd c root L k) = L - k) := by
  intro k
  induction k with
  | zero => intro _; rcases hr with e | ⟨e1, e2⟩; exact .inl e; exact .inr ⟨e1, by show lev root = _; omega⟩
  | succ k ih =>
    intro hk
    show (ndZ nd (wI nd c root L k)).kids.getD _ 0 = 0 ∨ _
    rcases ih (by omega) with e | ⟨e1, e2⟩
    · left; rw [e]; unfold ndZ; rw [if_pos rfl]; exact zk_getD _
    · have hne : wI nd c root L k ≠ 0 := fun e => e1 (by rw [e]; exact h.ok 0 (by omega))
      have hnz : ndZ nd (wI nd c root L k) = nd (wI nd c root L k) := by unfold ndZ; rw [if_neg hne]
      rw [hnz]
      rcases getD_mem (nd (wI nd c root L k)).kids (dig c (L - k)).toNat with e | e
      · exact .inl e
      · by_cases h0 : (nd (wI nd c root L k)).kids.getD (dig c (L - k)).toNat 0 = 0
        · exact .inl h0
        · right
          have hsame : wI nd c root L (k + 1) = (nd (wI nd c root L k)).kids.getD (dig c (L - k)).toNat 0 := by
            show (ndZ nd (wI nd c root L k)).kids.getD _ 0 = _
            rw [hnz]
          rw [hsame]
          have hl := (h.shp _ e1).2.2.2.2.2 _ e h0
          exact ⟨h.kid e1 e h0, by omega⟩
theorem PInv.wayOk {n : Nat} {rf : Int → Nat} {nd : Int → ANd} {T lev : Int → Nat} {L : Nat} (h : PInv n rf nd T lev L) {root : Int} (hr : RootOk rf lev L root) (c : Int) : WayOk rf nd c root L := fun k hk => (h.way hr c k hk).imp id (fun e => e.1)
theorem bare_kids {y : ANd} (h : bareN y = y) (hl : y.leaf = true) : y.kids = zNd.kids := by
  unfold bareN at h; rw [if_pos hl] at h; rw [← h]
theorem bare_vals {y : ANd} (h : bareN y = y) (hl : y.leaf = false) : y.vals = zNd.vals := by
  unfold bareN at h; rw [if_neg (by simp [hl])] at h; rw [← h]
theorem zk_mem {k : Int} (h : k ∈ zNd.kids) : k = 0 := by
  unfold zNd at h; simp at h; exact h
theorem set_mem {l : List Int} {d : Nat} {v k : Int} (h : k ∈ l.set d v) : k = v ∨ k ∈ l := by
  rcases List.mem_or_eq_of_mem_set h with e | e
  · exact .inr e
  · exact .inl e
/-- What the nodes of the new way are. -/
structure NewOk (rf lev : Int → Nat) (l : Nat) (id : Int) (y : ANd) : Prop where
  bare : bareN y = y
  leaf : y.leaf = decide (l = 1)
  kids : ∀ k ∈ y.kids, k ≠ 0 → k = id ∨ (rf k ≠ 0 ∧ lev k + 1 = l)
  mem : l ≠ 1 → id ≠ 0 → id ∈ y.kids
theorem PInv.newN {n : Nat} {rf : Int → Nat} {nd : Int → ANd} {T lev : Int → Nat} {L : Nat} (h : PInv n rf nd T lev L) {root : Int} (hr : RootOk rf lev L root) (c : Int) (e : Int × Bool) {l : Nat} (h1 : 1 ≤ l) (hl : l ≤ L) (id : Int) : NewOk rf lev l id (newN nd c root L e l id) ∧ refN nd c root L e l id = newN nd c root L e l id := by
  have hw := h.way hr c (L - l) (by omega)
  have hyk := wN_ok h.kok c root L l
  unfold Go.Proofs.YtjkbhaplngnniaaDoor.newN refN
  by_cases hl1 : l = 1
  · subst hl1
    rw [if_pos rfl, if_pos rfl]
    have hk : (wN nd c root L 1).kids = zNd.kids ∧ atN nd (wI nd c root L (L - 1)) true = ⟨true, (wN nd c root L 1).kids, (wN nd c root L 1).vals⟩ := by
      unfold wN ndZ atN
      rcases hw with e0 | ⟨e1, e2⟩
      · rw [if_pos e0, if_pos e0]; exact ⟨rfl, rfl⟩
      · have hne : wI nd c root L (L - 1) ≠ 0 := fun e => e1 (by rw [e]; exact h.ok 0 (by omega))
        rw [if_neg hne, if_neg hne]
        have hs := h.shp _ e1
        have hlf : (nd (wI nd c root L (L - 1))).leaf = true := by rw [hs.2.2.1, decide_eq_true (by omega)]
        refine ⟨bare_kids hs.2.2.2.1 hlf, ?_⟩
        rw [← hlf]
    rw [hk.2, hk.1]
    exact ⟨⟨rfl, rfl, fun k hk' h0 => absurd (zk_mem hk') h0, fun e => absurd rfl e⟩, rfl⟩
  · rw [if_neg hl1, if_neg hl1]
    have hk : atN nd (wI nd c root L (L - l)) false = wN nd c root L l ∧ (wN nd c root L l).leaf = false ∧ (wN nd c root L l).vals = zNd.vals ∧ ∀ k ∈ (wN nd c root L l).kids, k ≠ 0 → rf k ≠ 0 ∧ lev k + 1 = l := by
      unfold wN ndZ atN
      rcases hw with e0 | ⟨e1, e2⟩
      · rw [if_pos e0, if_pos e0]; exact ⟨rfl, rfl, rfl, fun k hk' h0 => absurd (zk_mem hk') h0⟩
      · have hne : wI nd c root L (L - l) ≠ 0 := fun e => e1 (by rw [e]; exact h.ok 0 (by omega))
        rw [if_neg hne, if_neg hne]
        have hs := h.shp _ e1
        have hlf : (nd (wI nd c root L (L - l))).leaf = false := by rw [hs.2.2.1, decide_eq_false (by omega)]
        exact ⟨rfl, hlf, bare_vals hs.2.2.2.1 hlf, fun k hk' h0 => ⟨h.kid e1 hk' h0, by have := hs.2.2.2.2.2 k hk' h0; omega⟩⟩
    rw [hk.1]
    refine ⟨⟨?_, ?_, fun k hk' h0 => ?_, fun _ h0 => ?_⟩, rfl⟩
    · unfold bareN
      simp only [hk.2.1, Bool.false_eq_true, if_false, hk.2.2.1]
    · show (wN nd c root L l).leaf = _
      rw [hk.2.1, decide_eq_false hl1]
    · rcases set_mem hk' with e | e
      · exact .inl e
      · exact .inr (hk.2.2.2 k e h0)
    · have hd := dig_lt c l
      have hd8 : (dig c l).toNat < (wN nd c root L l).kids.length := by rw [hyk.1]; omega
      exact List.mem_iff_getElem?.2 ⟨(dig c l).toNat, by rw [List.getElem?_set_self hd8]⟩
theorem emptyN_mem {y : ANd} {k : Int} (h : k ∈ y.kids) (h0 : k ≠ 0) : emptyN y = false := by
  unfold emptyN
  have : y.kids ≠ zNd.kids := fun e => h0 (zk_mem (by rw [← e]; exact h))
  rw [decide_eq_false this]
  rfl
theorem usd_more {rf : Int → Nat} {n : Nat} (h : RfOk n rf) : ∀ m, n ≤ m → usd rf m = usd rf n := by
  intro m
  induction m with
  | zero =>
    intro hm
    have e : n = 0 := by omega
    rw [e]
  | succ m ih =>
    intro hm
    by_cases e : n = m + 1
    · rw [e]
    · show usd rf m + (if rf ((m + 1 : Nat) : Int) = 0 then 0 else 1) = usd rf n
      rw [ih (by omega), if_pos (h _ (by omega)), Nat.add_zero]
end Go.Proofs.YtjkbhaplngnniaaDoor
namespace Go.Proofs.YtjkbhaplngnniaaDoor
set_option linter.unusedSimpArgs false
set_option linter.unusedVariables false

/-- A node more is made above the one that is told last. -/
theorem PInv.step {n : Nat} {rf : Int → Nat} {nd : Int → ANd} {T lev : Int → Nat} {L l : Nat} {id : Int} {y : ANd} {x : Nat} (h : PInv n rf nd (pend T id) lev L) (hl1 : 1 ≤ l) (hlL : l ≤ L) (hid : id = 0 ∨ (rf id ≠ 0 ∧ lev id + 1 = l)) (hid1 : l = 1 → id = 0) (hy : NewOk rf lev l id y) (hk8 : y.kids.length = 8 ∧ y.vals.length = 8) (he : emptyN y = false) (hx : LowN rf x) :
    haveB rf y.kids = true ∧ (id = 0 ∨ 2 ≤ setR (incR rf y.kids) x 1 id) ∧
    PInv (max n x) (if id = 0 then setR (incR rf y.kids) x 1 else stR (setR (incR rf y.kids) x 1) id) (updN nd x y) (pend T x) (fun i => if i = (x : Int) then l else lev i) L ∧
    (∀ i, rf i ≠ 0 → (if id = 0 then setR (incR rf y.kids) x 1 else stR (setR (incR rf y.kids) x 1) id) i ≠ 0 ∧ updN nd x y i = nd i ∧ (if i = (x : Int) then l else lev i) = lev i) ∧
    usd (if id = 0 then setR (incR rf y.kids) x 1 else stR (setR (incR rf y.kids) x 1) id) (max n x) = usd rf n + 1 := by
  have hkl : ∀ k ∈ y.kids, k ≠ 0 → rf k ≠ 0 ∧ lev k + 1 = l := fun k hk h0 => by
    rcases hy.kids k hk h0 with e | e
    · subst e
      exact hid.resolve_left h0
    · exact e
  have hx1 := hx.one
  have hxn : ∀ i, rf i ≠ 0 → i ≠ (x : Int) := fun i hi e => hi (by rw [e]; exact hx.free)
  have hz : rf 0 = 0 := h.ok 0 (by omega)
  have hcx : ∀ i, i ≠ 0 → rf i = 0 → y.kids.count i = 0 := fun i hi hr => List.count_eq_zero.2 (fun hm => (hkl i hm hi).1 hr)
  generalize hF : setR (incR rf y.kids) x 1 = F at *
  have hFx : F x = 1 := by rw [← hF, setR_same]
  have hFo : ∀ i, i ≠ (x : Int) → F i = if rf i = 0 then 0 else rf i + y.kids.count i := fun i hi => by rw [← hF, setR_other _ _ hi]; rfl
  have hFl : ∀ i, F i = 0 ↔ (rf i = 0 ∧ i ≠ (x : Int)) := fun i => by
    by_cases e : i = (x : Int)
    · rw [e, hFx]; constructor
      · intro h; omega
      · rintro ⟨_, h⟩; exact absurd rfl h
    · rw [hFo i e]; split
      · next hr => exact ⟨fun _ => ⟨hr, e⟩, fun _ => rfl⟩
      · next hr => exact ⟨fun h => by omega, fun h => absurd h.1 hr⟩
  have h2 : id = 0 ∨ 2 ≤ F id := by
    by_cases e : id = 0
    · exact .inl e
    · right
      have hl := hid.resolve_left e
      have hl2 : l ≠ 1 := fun e' => e (hid1 e')
      have hm := hy.mem hl2 e
      rw [hFo id (hxn id hl.1), if_neg hl.1]
      have := List.count_pos_iff.2 hm
      omega
  have hRl : ∀ i, (if id = 0 then F else stR F id) i = 0 ↔ F i = 0 := fun i => by
    by_cases e : id = 0
    · rw [if_pos e]
    · rw [if_neg e]
      unfold stR
      split
      · next h' => subst h'; have := h2.resolve_left e; omega
      · exact Iff.rfl
  have hR : ∀ i, i ≠ 0 → (if id = 0 then F else stR F id) i + (if i = id ∧ id ≠ 0 then 1 else 0) = F i := fun i hi => by
    by_cases e : id = 0
    · rw [if_pos e, if_neg (fun h => h.2 e)]; rfl
    · rw [if_neg e]
      unfold stR
      by_cases h' : i = id
      · rw [if_pos h', if_pos ⟨h', e⟩]; have := h2.resolve_left e; rw [h']; omega
      · rw [if_neg h', if_neg (fun h => h' h.1)]; rfl
  have hcF : ∀ i, cntK (kdA (updN nd x y)) F i (max n x) = cntK (kdA nd) rf i n + y.kids.count i := fun i => by
    rw [← hF]; exact make_cnt h.ok hx i
  generalize (if id = 0 then F else stR F id) = R at *
  refine ⟨?_, h2, ⟨?_, ?_, ?_, ?_⟩, ?_, ?_⟩
  · unfold haveB
    rw [List.all_eq_true]
    intro k hk
    by_cases h0 : k = 0
    · simp [h0]
    · simp [(hkl k hk h0).1]
  · intro i hi
    rw [hRl]
    exact (hFl i).2 ⟨h.ok i (by omega), by omega⟩
  · intro i
    unfold updN; split
    · exact hk8
    · exact h.kok i
  · intro i hi
    have hr := hR i hi
    have hc := h.cnt i hi
    have e1 : cntK (kdA (updN nd x y)) R i (max n x) = cntK (kdA (updN nd x y)) F i (max n x) := cntK_congr _ (fun j _ _ => ⟨hRl j, fun _ => rfl⟩)
    rw [e1, hcF]
    unfold pend at hc ⊢
    by_cases e : i = (x : Int)
    · have hrx : rf i = 0 := by rw [e]; exact hx.free
      have h0 := hcx i hi hrx
      have hne : ¬ (i = id ∧ id ≠ 0) := fun ⟨a, b⟩ => (hid.resolve_left b).1 (by rw [← a]; exact hrx)
      rw [if_neg hne] at hr hc
      rw [if_pos ⟨e, by omega⟩]
      rw [e] at hr ⊢
      rw [e] at hc hrx h0
      omega
    · rw [if_neg (fun h => e h.1)]
      rw [hFo i e] at hr
      by_cases hrz : rf i = 0
      · have h0 := hcx i hi hrz
        rw [if_pos hrz] at hr
        omega
      · rw [if_neg hrz] at hr
        omega
  · intro i hi
    have hFi : F i ≠ 0 := fun e => hi ((hRl i).2 e)
    by_cases e : i = (x : Int)
    · have hu : updN nd x y i = y := by unfold updN; rw [if_pos e]
      rw [hu, if_pos e]
      refine ⟨hl1, hlL, hy.leaf, hy.bare, he, fun k hk h0 => ?_⟩
      have hkk := hkl k hk h0
      rw [if_neg (hxn k hkk.1)]
      exact hkk.2
    · have hri : rf i ≠ 0 := fun h' => hFi ((hFl i).2 ⟨h', e⟩)
      have hu : updN nd x y i = nd i := by unfold updN; rw [if_neg e]
      rw [hu, if_neg e]
      have hs := h.shp i hri
      refine ⟨hs.1, hs.2.1, hs.2.2.1, hs.2.2.2.1, hs.2.2.2.2.1, fun k hk h0 => ?_⟩
      rw [if_neg (hxn k (h.kid hri hk h0))]
      exact hs.2.2.2.2.2 k hk h0
  · intro i hi
    refine ⟨fun e => ?_, ?_, ?_⟩
    · have := (hFl i).1 ((hRl i).1 e)
      exact hi this.1
    · unfold updN; rw [if_neg (hxn i hi)]
    · rw [if_neg (hxn i hi)]
  · have e1 : usd R (max n x) = usd F (max n x) := usd_congr _ (fun i _ _ => hRl i)
    rw [e1, ← usd_more h.ok (max n x) (by omega)]
    exact usd_set x (max n x) hx1 (by omega) hx.free (by omega) (fun i hi => by
      rw [hFl]
      exact ⟨fun h => ⟨h, by omega⟩, fun h => h.1⟩)
end Go.Proofs.YtjkbhaplngnniaaDoor
namespace Go.Proofs.YtjkbhaplngnniaaDoor
set_option linter.unusedSimpArgs false
set_option linter.unusedVariables false

theorem mny_mono (f : Nat → Int → ANd) : ∀ {l m : Nat}, l ≤ m → mny f l ≤ mny f m := by
  intro l m h
  induction m with
  | zero => obtain rfl : l = 0 := by omega
            exact Nat.le_refl _
  | succ m ih =>
    by_cases e : l = m + 1
    · rw [e]; exact Nat.le_refl _
    · exact Nat.le_trans (ih (by omega)) (show mny f m ≤ mny f m + (if thr f (m + 1) then 1 else 0) from Nat.le_add_right _ _)
/-- Behind l levels. -/
structure CI (most : Int) (n0 : Nat) (rf0 : Int → Nat) (nd0 : Int → ANd) (T lev0 : Int → Nat) (L : Nat) (f : Nat → Int → ANd) (l : Nat) (s : PSt) (lev : Int → Nat) : Prop where
  inv : PInv s.n s.rf s.nd (pend T s.id) lev L
  er : s.er = 0
  lv : s.id = 0 ∨ lev s.id = l
  old : ∀ i, rf0 i ≠ 0 → s.rf i ≠ 0 ∧ s.nd i = nd0 i ∧ lev i = lev0 i
  us : usd s.rf s.n = usd rf0 n0 + mny f l
  cap : (usd s.rf s.n : Int) ≤ most
  th : thr f l = decide (s.id ≠ 0)
section
variable {most : Int} {n0 : Nat} {rf0 : Int → Nat} {nd0 : Int → ANd} {T lev0 : Int → Nat} {L : Nat} {root c : Int} {e : Int × Bool}
theorem ci_start (h : PInv n0 rf0 nd0 T lev0 L) (hc : (usd rf0 n0 : Int) ≤ most) (f : Nat → Int → ANd) : CI most n0 rf0 nd0 T lev0 L f 0 ⟨n0, rf0, nd0, 0, 0⟩ lev0 :=
  ⟨by rw [pend_zero]; exact h, rfl, .inl rfl, fun i hi => ⟨hi, rfl, rfl⟩, rfl, hc, rfl⟩
theorem CI.new {l : Nat} {s : PSt} {lev : Int → Nat} (h0 : PInv n0 rf0 nd0 T lev0 L) (hr : RootOk rf0 lev0 L root) (h : CI most n0 rf0 nd0 T lev0 L (newN nd0 c root L e) l s lev) (hl : l < L) :
    NewOk s.rf lev (l + 1) s.id (newN nd0 c root L e (l + 1) s.id) ∧ (s.id = 0 ∨ (s.rf s.id ≠ 0 ∧ lev s.id + 1 = l + 1)) ∧ (l + 1 = 1 → s.id = 0) ∧ (s.id ≠ 0 → emptyN (newN nd0 c root L e (l + 1) s.id) = false) := by
  obtain ⟨hn, _⟩ := h0.newN hr c e (l := l + 1) (by omega) (by omega) s.id
  have h1 : l + 1 = 1 → s.id = 0 := fun e1 => by
    have := h.th
    rw [show l = 0 by omega] at this
    by_cases e2 : s.id = 0
    · exact e2
    · rw [decide_eq_true e2] at this
      exact absurd this (by unfold thr; decide)
  have h2 : s.id = 0 ∨ (s.rf s.id ≠ 0 ∧ lev s.id + 1 = l + 1) := by
    by_cases e1 : s.id = 0
    · exact .inl e1
    · right
      have hc := h.inv.cnt s.id e1
      unfold pend at hc
      rw [if_pos ⟨rfl, e1⟩] at hc
      exact ⟨by omega, by have := h.lv.resolve_left e1; omega⟩
  refine ⟨⟨hn.bare, hn.leaf, fun k hk hk0 => ?_, hn.mem⟩, h2, h1, fun e1 => emptyN_mem (hn.mem (fun e2 => e1 (h1 e2)) e1) e1⟩
  rcases hn.kids k hk hk0 with e1 | ⟨e1, e2⟩
  · exact .inl e1
  · have ho := h.old k e1
    exact .inr ⟨ho.1, by rw [ho.2.2]; exact e2⟩
theorem ci_step {l : Nat} {s u : PSt} {lev : Int → Nat} (h0 : PInv n0 rf0 nd0 T lev0 L) (hr : RootOk rf0 lev0 L root) (h : CI most n0 rf0 nd0 T lev0 L (newN nd0 c root L e) l s lev) (hl : l < L) (hu : AbvS most s (newN nd0 c root L e (l + 1) s.id) u)
    (hroom : emptyN (newN nd0 c root L e (l + 1) s.id) = false → (usd s.rf s.n : Int) < most) : ∃ lev', CI most n0 rf0 nd0 T lev0 L (newN nd0 c root L e) (l + 1) u lev' := by
  obtain ⟨hn, hid, hid1, hne⟩ := h.new h0 hr hl
  have hth : thr (newN nd0 c root L e) (l + 1) = (thr (newN nd0 c root L e) l || !emptyN (newN nd0 c root L e (l + 1) 0)) := rfl
  have hmy : mny (newN nd0 c root L e) (l + 1) = mny (newN nd0 c root L e) l + if thr (newN nd0 c root L e) (l + 1) then 1 else 0 := rfl
  cases hem : emptyN (newN nd0 c root L e (l + 1) s.id) with
  | true =>
    have hs0 : s.id = 0 := by
      by_cases e1 : s.id = 0
      · exact e1
      · exact absurd (hne e1) (by rw [hem]; decide)
    have eu := abv_none hu hem hs0
    subst eu
    have ht : thr (newN nd0 c root L e) (l + 1) = false := by
      rw [hs0] at hem
      rw [hth, h.th, hem, hs0]
      rfl
    refine ⟨lev, ⟨?_, rfl, .inl rfl, h.old, ?_, h.cap, by rw [ht]; rfl⟩⟩
    · have := h.inv; rw [hs0] at this; exact this
    · rw [hmy, ht]; exact h.us
  | false =>
    obtain ⟨x, hx⟩ := low_ex h.inv.ok
    have hk8 := newN_ok h0.kok c root L e (l + 1) s.id
    obtain ⟨a1, a2, a3, a4, a5⟩ := h.inv.step (l := l + 1) (by omega) (by omega) hid hid1 hn hk8 hem hx
    have hroom' := hroom hem
    have hok : mkOk s.rf most s.n (newN nd0 c root L e (l + 1) s.id) = true := by unfold mkOk; rw [a1, decide_eq_true hroom']; rfl
    have eu := abv_made hu hx hem hn.bare hok a2
    subst eu
    have ht : thr (newN nd0 c root L e) (l + 1) = true := by
      rw [hth, h.th]
      by_cases e1 : s.id = 0
      · rw [e1] at hem; rw [hem]; simp
      · rw [decide_eq_true e1]; rfl
    have hx1 := hx.one
    refine ⟨_, ⟨a3, rfl, .inr (if_pos rfl), fun i hi => ?_, ?_, ?_, ?_⟩⟩
    · have ho := h.old i hi
      have hb := a4 i ho.1
      exact ⟨hb.1, hb.2.1.trans ho.2.1, hb.2.2.trans ho.2.2⟩
    · show usd _ _ = _
      rw [a5, hmy, ht, h.us]; simp; omega
    · show ((usd _ _ : Nat) : Int) ≤ most
      rw [a5]; omega
    · rw [ht]; exact (decide_eq_true (show ((x : Nat) : Int) ≠ 0 by omega)).symm
theorem ci_full {l : Nat} {s u : PSt} {lev : Int → Nat} (h0 : PInv n0 rf0 nd0 T lev0 L) (hr : RootOk rf0 lev0 L root) (h : CI most n0 rf0 nd0 T lev0 L (newN nd0 c root L e) l s lev) (hl : l < L) (hu : AbvS most s (newN nd0 c root L e (l + 1) s.id) u)
    (hem : emptyN (newN nd0 c root L e (l + 1) s.id) = false) (hf : ¬ ((usd s.rf s.n : Int) < most)) : u.er = 14 ∧ u.id = 0 ∧ u.rf = rf0 ∧ u.n = s.n ∧ u.nd = s.nd := by
  obtain ⟨hn, hid, hid1, hne⟩ := h.new h0 hr hl
  obtain ⟨x, hx⟩ := low_ex h.inv.ok
  have hk8 := newN_ok h0.kok c root L e (l + 1) s.id
  obtain ⟨a1, a2, a3, a4, a5⟩ := h.inv.step (l := l + 1) (by omega) (by omega) hid hid1 hn hk8 hem hx
  obtain ⟨b1, b2, b3, b4, b5⟩ := abv_full hu hem hn.bare a1 hf
  refine ⟨b4, b3, ?_, b1, b2⟩
  have hle : ∀ i, u.rf i ≤ s.rf i := fun i => by
    rcases b5 with ⟨_, e1⟩ | ⟨_, K, hK⟩
    · rw [e1]; exact Nat.le_refl _
    · exact drops_le K hK i
  have hok : RfOk s.n u.rf := fun i hi => by have := hle i; have := h.inv.ok i hi; omega
  refine cnt_unique (T := T) (lev := lev) (lev0 := lev0) (L := L) (nd := s.nd) (n := s.n) hok h0.ok (fun i hi => ?_) h0.cnt (fun i hi => ?_) h0.levOk (fun i hi => (h.old i hi).2.2) (fun i hi => (h.old i hi).2.1)
  · have hc := h.inv.cnt i hi
    unfold pend at hc
    rcases b5 with ⟨e0, e1⟩ | ⟨e0, K, hK⟩
    · rw [e0, if_neg (fun h => h.2 rfl)] at hc
      rw [e1]
      omega
    · refine drops_cnt K hK h.inv.ok ?_
      rw [hc]
      by_cases e1 : i = s.id
      · rw [if_pos ⟨e1, e0⟩, e1]; simp; omega
      · rw [if_neg (fun h => e1 h.1)]
        have : [s.id].count i = 0 := List.count_eq_zero.2 (by simpa using e1)
        omega
  · exact h.inv.levOk i (fun e1 => hi (by have := hle i; omega))
/-- With room: all levels. -/
theorem ref_chain (h0 : PInv n0 rf0 nd0 T lev0 L) (hr : RootOk rf0 lev0 L root) (hroom : (usd rf0 n0 : Int) + mny (newN nd0 c root L e) L ≤ most) : ∀ (k l : Nat) (s v : PSt) (lev : Int → Nat), CI most n0 rf0 nd0 T lev0 L (newN nd0 c root L e) l s lev → l + k ≤ L → RefEnd most (newN nd0 c root L e) k (l + 1) s v → ∃ lev', CI most n0 rf0 nd0 T lev0 L (newN nd0 c root L e) (l + k) v lev' := by
  intro k
  induction k with
  | zero =>
    intro l s v lev h hl hv
    have hv' : v = s := hv
    subst hv'
    exact ⟨lev, h⟩
  | succ k ih =>
    intro l s v lev h hl hv
    obtain ⟨u, hu, hv⟩ := hv
    obtain ⟨lev', h'⟩ := ci_step h0 hr h (by omega) hu (fun hem => by
      have ht : thr (newN nd0 c root L e) (l + 1) = true := by
        show (thr (newN nd0 c root L e) l || !emptyN (newN nd0 c root L e (l + 1) 0)) = true
        rw [h.th]
        by_cases e1 : s.id = 0
        · rw [e1] at hem; rw [hem]; simp
        · rw [decide_eq_true e1]; rfl
      have hm : mny (newN nd0 c root L e) (l + 1) = mny (newN nd0 c root L e) l + 1 := by
        show mny (newN nd0 c root L e) l + (if thr (newN nd0 c root L e) (l + 1) then 1 else 0) = _
        rw [ht]; rfl
      have hm2 := mny_mono (newN nd0 c root L e) (show l + 1 ≤ L by omega)
      have := h.us
      omega)
    obtain ⟨lev2, h2⟩ := ih (l + 1) u v lev' h' (by omega) hv
    exact ⟨lev2, by rw [show l + (k + 1) = l + 1 + k by omega]; exact h2⟩
/-- The program's: all levels, or all as it was. -/
theorem set_chain (h0 : PInv n0 rf0 nd0 T lev0 L) (hr : RootOk rf0 lev0 L root) : ∀ (k l : Nat) (s v : PSt) (lev : Int → Nat), CI most n0 rf0 nd0 T lev0 L (newN nd0 c root L e) l s lev → l + k = L → SetEnd most (newN nd0 c root L e) k (l + 1) s v →
    (∃ lev', CI most n0 rf0 nd0 T lev0 L (newN nd0 c root L e) L v lev' ∧ (usd rf0 n0 : Int) + mny (newN nd0 c root L e) L ≤ most) ∨
    (most < (usd rf0 n0 : Int) + mny (newN nd0 c root L e) L ∧ v.er = 14 ∧ v.id = 0 ∧ v.rf = rf0 ∧ (∀ i, (v.nd i).kids.length = 8 ∧ (v.nd i).vals.length = 8) ∧ ∀ i, rf0 i ≠ 0 → v.nd i = nd0 i) := by
  intro k
  induction k with
  | zero =>
    intro l s v lev h hl hv
    have hv' : v = s := hv
    subst hv'
    obtain rfl : l = L := by omega
    exact .inl ⟨lev, h, by have := h.us; have := h.cap; omega⟩
  | succ k ih =>
    intro l s v lev h hl hv
    rcases hv with ⟨e1, _⟩ | ⟨_, u, hu, hv⟩
    · exact absurd h.er e1
    by_cases hgo : emptyN (newN nd0 c root L e (l + 1) s.id) = false → (usd s.rf s.n : Int) < most
    · obtain ⟨lev', h'⟩ := ci_step h0 hr h (by omega) hu hgo
      exact ih (l + 1) u v lev' h' (by omega) hv
    · simp only [Classical.not_imp] at hgo
      obtain ⟨hem, hf⟩ := hgo
      obtain ⟨b1, b2, b3, b4, b5⟩ := ci_full h0 hr h (by omega) hu hem hf
      have hvu : v = u := by
        cases k with
        | zero => exact hv
        | succ k =>
          rcases hv with ⟨_, e1⟩ | ⟨e1, _⟩
          · exact e1
          · rw [b1] at e1; omega
      subst hvu
      right
      have ht : thr (newN nd0 c root L e) (l + 1) = true := by
        show (thr (newN nd0 c root L e) l || !emptyN (newN nd0 c root L e (l + 1) 0)) = true
        rw [h.th]
        by_cases e1 : s.id = 0
        · rw [e1] at hem; rw [hem]; simp
        · rw [decide_eq_true e1]; rfl
      have hm : mny (newN nd0 c root L e) (l + 1) = mny (newN nd0 c root L e) l + 1 := by
        show mny (newN nd0 c root L e) l + (if thr (newN nd0 c root L e) (l + 1) then 1 else 0) = _
        rw [ht]; rfl
      have hm2 := mny_mono (newN nd0 c root L e) (show l + 1 ≤ L by omega)
      have hus := h.us
      exact ⟨by omega, b1, b2, b3, by rw [b5]; exact h.inv.kok, fun i hi => by rw [b5]; exact (h.old i hi).2.1⟩
end
end Go.Proofs.YtjkbhaplngnniaaDoor
namespace Go.Proofs.YtjkbhaplngnniaaDoor
set_option linter.unusedSimpArgs false
set_option linter.unusedVariables false

/-- Two arenas with the same nodes. -/
structure Sim (s s2 : PSt) : Prop where
  rf : s2.rf = s.rf
  id : s2.id = s.id
  nd : ∀ i, s.rf i ≠ 0 → s2.nd i = s.nd i
  ok : RfOk s2.n s2.rf
section
variable {most : Int} {n0 : Nat} {rf0 : Int → Nat} {nd0 nd2 : Int → ANd} {T lev0 : Int → Nat} {L : Nat} {root c : Int} {e : Int × Bool}
theorem wI_congr (h0 : PInv n0 rf0 nd0 T lev0 L) (hr : RootOk rf0 lev0 L root) (hn : ∀ i, rf0 i ≠ 0 → nd2 i = nd0 i) : ∀ k, k < L → wI nd2 c root L k = wI nd0 c root L k := by
  intro k
  induction k with
  | zero => intro _; rfl
  | succ k ih =>
    intro hk
    show (ndZ nd2 (wI nd2 c root L k)).kids.getD _ 0 = (ndZ nd0 (wI nd0 c root L k)).kids.getD _ 0
    rw [ih (by omega)]
    rcases h0.way hr c k (by omega) with e1 | ⟨e1, _⟩
    · rw [e1]; unfold ndZ; rw [if_pos rfl, if_pos rfl]
    · have hne : wI nd0 c root L k ≠ 0 := fun e2 => e1 (by rw [e2]; exact h0.ok 0 (by omega))
      unfold ndZ
      rw [if_neg hne, if_neg hne, hn _ e1]
theorem wN_congr (h0 : PInv n0 rf0 nd0 T lev0 L) (hr : RootOk rf0 lev0 L root) (hn : ∀ i, rf0 i ≠ 0 → nd2 i = nd0 i) {l : Nat} (h1 : 1 ≤ l) (hl : l ≤ L) : wN nd2 c root L l = wN nd0 c root L l := by
  unfold wN
  rw [wI_congr h0 hr hn (L - l) (by omega)]
  rcases h0.way hr c (L - l) (by omega) with e1 | ⟨e1, _⟩
  · rw [e1]; unfold ndZ; rw [if_pos rfl, if_pos rfl]
  · have hne : wI nd0 c root L (L - l) ≠ 0 := fun e2 => e1 (by rw [e2]; exact h0.ok 0 (by omega))
    unfold ndZ
    rw [if_neg hne, if_neg hne, hn _ e1]
theorem newN_congr (h0 : PInv n0 rf0 nd0 T lev0 L) (hr : RootOk rf0 lev0 L root) (hn : ∀ i, rf0 i ≠ 0 → nd2 i = nd0 i) {l : Nat} (h1 : 1 ≤ l) (hl : l ≤ L) (id : Int) : newN nd2 c root L e l id = newN nd0 c root L e l id := by
  unfold newN
  by_cases e1 : l = 1
  · subst e1
    rw [if_pos rfl, if_pos rfl, wN_congr h0 hr hn (Nat.le_refl 1) hl]
  · rw [if_neg e1, if_neg e1, wN_congr h0 hr hn h1 hl]
theorem refEnd_congr {f g : Nat → Int → ANd} : ∀ (k l : Nat) (s t : PSt), (∀ m, l ≤ m → m < l + k → ∀ id, f m id = g m id) → RefEnd most f k l s t → RefEnd most g k l s t := by
  intro k
  induction k with
  | zero => intro l s t _ h; exact h
  | succ k ih =>
    intro l s t hfg h
    obtain ⟨u, hu, h⟩ := h
    exact ⟨u, by rw [← hfg l (by omega) (by omega)]; exact hu, ih (l + 1) u t (fun m h1 h2 => hfg m (by omega) (by omega)) h⟩
theorem thr_congr {f g : Nat → Int → ANd} : ∀ l, (∀ m, 1 ≤ m → m ≤ l → f m 0 = g m 0) → thr f l = thr g l ∧ mny f l = mny g l := by
  intro l
  induction l with
  | zero => intro _; exact ⟨rfl, rfl⟩
  | succ l ih =>
    intro h
    obtain ⟨a, b⟩ := ih (fun m h1 h2 => h m h1 (by omega))
    have ht : thr f (l + 1) = thr g (l + 1) := by
      show (thr f l || !emptyN (f (l + 1) 0)) = (thr g l || !emptyN (g (l + 1) 0))
      rw [a, h (l + 1) (by omega) (Nat.le_refl _)]
    refine ⟨ht, ?_⟩
    show mny f l + (if thr f (l + 1) then 1 else 0) = mny g l + (if thr g (l + 1) then 1 else 0)
    rw [b, ht]
theorem sim_step {l : Nat} {s u s2 u2 : PSt} {lev : Int → Nat} (h0 : PInv n0 rf0 nd0 T lev0 L) (hr : RootOk rf0 lev0 L root) (h : CI most n0 rf0 nd0 T lev0 L (newN nd0 c root L e) l s lev) (hl : l < L) (hs : Sim s s2)
    (hu : AbvS most s (newN nd0 c root L e (l + 1) s.id) u) (hu2 : AbvS most s2 (newN nd0 c root L e (l + 1) s2.id) u2)
    (hroom : emptyN (newN nd0 c root L e (l + 1) s.id) = false → (usd s.rf s.n : Int) < most) : Sim u u2 := by
  obtain ⟨hn, hid, hid1, hne⟩ := h.new h0 hr hl
  rw [hs.id] at hu2
  cases hem : emptyN (newN nd0 c root L e (l + 1) s.id) with
  | true =>
    have hs0 : s.id = 0 := by
      by_cases e1 : s.id = 0
      · exact e1
      · exact absurd (hne e1) (by rw [hem]; decide)
    have eu := abv_none hu hem hs0
    have eu2 := abv_none hu2 hem (hs.id.trans hs0)
    subst eu; subst eu2
    exact ⟨hs.rf, rfl, hs.nd, hs.ok⟩
  | false =>
    obtain ⟨x, hx⟩ := low_ex h.inv.ok
    have hk8 := newN_ok h0.kok c root L e (l + 1) s.id
    obtain ⟨a1, a2, a3, a4, a5⟩ := h.inv.step (l := l + 1) (by omega) (by omega) hid hid1 hn hk8 hem hx
    have hroom' := hroom hem
    have hok : mkOk s.rf most s.n (newN nd0 c root L e (l + 1) s.id) = true := by unfold mkOk; rw [a1, decide_eq_true hroom']; rfl
    have hus : usd s2.rf s2.n = usd s.rf s.n := by
      have e1 := usd_more hs.ok (max s.n s2.n) (by omega)
      have e2 := usd_more h.inv.ok (max s.n s2.n) (by omega)
      rw [← e1, ← e2, hs.rf]
    have hok2 : mkOk s2.rf most s2.n (newN nd0 c root L e (l + 1) s.id) = true := by unfold mkOk; rw [hs.rf, a1, ← hs.rf, hus, decide_eq_true hroom']; rfl
    have eu := abv_made hu hx hem hn.bare hok a2
    have eu2 := abv_made hu2 (x := x) (by rw [hs.rf]; exact hx) hem hn.bare hok2 (by rw [hs.id, hs.rf]; exact a2)
    rw [hs.id, hs.rf] at eu2
    have hx1 := hx.one
    generalize hy : newN nd0 c root L e (l + 1) s.id = y at *
    refine ⟨?_, ?_, fun i hi => ?_, ?_⟩
    · rw [eu, eu2]
    · rw [eu, eu2]
    · rw [eu] at hi ⊢
      rw [eu2]
      show updN s2.nd x y i = updN s.nd x y i
      unfold updN
      by_cases e1 : i = (x : Int)
      · rw [if_pos e1, if_pos e1]
      · rw [if_neg e1, if_neg e1]
        refine hs.nd i (fun e2 => hi ?_)
        show (if s.id = 0 then setR (incR s.rf y.kids) x 1 else stR (setR (incR s.rf y.kids) x 1) s.id) i = 0
        have hF : setR (incR s.rf y.kids) x 1 i = 0 := by rw [setR_other _ _ e1]; exact (incR_zero _ _ _).2 e2
        split
        · exact hF
        · unfold stR; split
          · rw [hF]
          · exact hF
    · rw [eu2]
      intro i hi
      have hi' : ¬ (1 ≤ i ∧ i ≤ ((max s2.n x : Nat) : Int)) := hi
      have e1 : i ≠ (x : Int) := by omega
      have e2 : s.rf i = 0 := by rw [← hs.rf]; exact hs.ok i (by omega)
      show (if s.id = 0 then setR (incR s.rf y.kids) x 1 else stR (setR (incR s.rf y.kids) x 1) s.id) i = 0
      have hF : setR (incR s.rf y.kids) x 1 i = 0 := by rw [setR_other _ _ e1]; exact (incR_zero _ _ _).2 e2
      split
      · exact hF
      · unfold stR; split
        · rw [hF]
        · exact hF
/-- With room both come to the same. -/
theorem both_chain (h0 : PInv n0 rf0 nd0 T lev0 L) (hr : RootOk rf0 lev0 L root) (hroom : (usd rf0 n0 : Int) + mny (newN nd0 c root L e) L ≤ most) : ∀ (k l : Nat) (s v s2 v2 : PSt) (lev : Int → Nat), CI most n0 rf0 nd0 T lev0 L (newN nd0 c root L e) l s lev → Sim s s2 → l + k ≤ L → SetEnd most (newN nd0 c root L e) k (l + 1) s v → RefEnd most (newN nd0 c root L e) k (l + 1) s2 v2 → Sim v v2 := by
  intro k
  induction k with
  | zero =>
    intro l s v s2 v2 lev h hs hl hv hv2
    have e1 : v = s := hv
    have e2 : v2 = s2 := hv2
    rw [e1, e2]
    exact hs
  | succ k ih =>
    intro l s v s2 v2 lev h hs hl hv hv2
    rcases hv with ⟨e1, _⟩ | ⟨_, u, hu, hv⟩
    · exact absurd h.er e1
    obtain ⟨u2, hu2, hv2⟩ := hv2
    have hgo : emptyN (newN nd0 c root L e (l + 1) s.id) = false → (usd s.rf s.n : Int) < most := fun hem => by
      have ht : thr (newN nd0 c root L e) (l + 1) = true := by
        show (thr (newN nd0 c root L e) l || !emptyN (newN nd0 c root L e (l + 1) 0)) = true
        rw [h.th]
        by_cases e1 : s.id = 0
        · rw [e1] at hem; rw [hem]; simp
        · rw [decide_eq_true e1]; rfl
      have hm : mny (newN nd0 c root L e) (l + 1) = mny (newN nd0 c root L e) l + 1 := by
        show mny (newN nd0 c root L e) l + (if thr (newN nd0 c root L e) (l + 1) then 1 else 0) = _
        rw [ht]; rfl
      have hm2 := mny_mono (newN nd0 c root L e) (show l + 1 ≤ L by omega)
      have := h.us
      omega
    obtain ⟨lev', h'⟩ := ci_step h0 hr h (by omega) hu hgo
    exact ih (l + 1) u v u2 v2 lev' h' (sim_step h0 hr h (by omega) hs hu hu2 hgo) (by omega) hv hv2
end
end Go.Proofs.YtjkbhaplngnniaaDoor
