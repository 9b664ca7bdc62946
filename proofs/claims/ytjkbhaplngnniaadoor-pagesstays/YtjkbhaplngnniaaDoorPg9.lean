/- pages: one step of Set, in the three ways it may go; the example of 'known'. -/
import Derived.Test.YtjkbhaplngnniaaDoorPg8
namespace Go.Proofs.YtjkbhaplngnniaaDoor
open Go.RowKit Go.Maps
set_option linter.unusedSimpArgs false
set_option linter.unusedVariables false

theorem PSt.ext' {s t : PSt} (h1 : s.n = t.n) (h2 : s.rf = t.rf) (h3 : s.nd = t.nd) (h4 : s.id = t.id) (h5 : s.er = t.er) : s = t := by
  cases s; cases t; simp at h1 h2 h3 h4 h5; simp [h1, h2, h3, h4, h5]
/-- It is made, and the one below is not told any more. -/
theorem abv_made {most : Int} {s t : PSt} {y : ANd} {x : Nat} (h : AbvS most s y t) (hx : LowN s.rf x) (he : emptyN y = false) (hb : bareN y = y) (hk : mkOk s.rf most s.n y = true) (hd : s.id = 0 ∨ 2 ≤ setR (incR s.rf y.kids) x 1 s.id) :
    t = ⟨max s.n x, if s.id = 0 then setR (incR s.rf y.kids) x 1 else stR (setR (incR s.rf y.kids) x 1) s.id, updN s.nd x y, x, 0⟩ := by
  obtain ⟨x', hx', e1, e2, e3, e4, e5⟩ := h
  obtain rfl := hx'.one' hx
  have hE : mkE s.rf most s.n y = 0 := by
    unfold mkOk at hk
    simp only [Bool.and_eq_true, decide_eq_true_eq] at hk
    unfold mkE
    rw [if_pos hk.1, if_pos hk.2]
  have h1 : abN s.rf most s.n y x' = max s.n x' := by unfold abN mkN; rw [he, hb, hk]; rfl
  have h2 : abD s.rf most s.n s.nd y x' = updN s.nd x' y := by unfold abD mkD; rw [he, hb, hk]; rfl
  have h3 : abI s.rf most s.n y x' = x' := by unfold abI mkI; rw [he, hb, hk]; rfl
  have h4 : abE s.rf most s.n y = 0 := by unfold abE; rw [he, hb, hE]; rfl
  have h5 : abF s.rf most s.n y x' = setR (incR s.rf y.kids) x' 1 := by unfold abF mkF; rw [he, hb, hk]; rfl
  refine PSt.ext' (e1.trans h1) ?_ (e2.trans h2) (e3.trans h3) (e4.trans h4)
  rw [h2, h5] at e5
  rcases e5 with ⟨h0, e⟩ | ⟨h0, K, hK⟩
  · show t.rf = _
    rw [if_pos h0, e]
  · show t.rf = _
    rw [if_neg h0]
    have h2' := hd.resolve_left h0
    obtain ⟨K', rfl, hK'⟩ := drops_pos hK
    have hs : stK (kdA (updN s.nd x' y)) (setR (incR s.rf y.kids) x' 1) s.id = [] := by unfold stK; rw [if_neg (by omega)]
    rw [hs] at hK'
    exact (drops_nil hK').2
/-- There is nothing to be made. -/
theorem abv_none {most : Int} {s t : PSt} {y : ANd} (h : AbvS most s y t) (he : emptyN y = true) (h0 : s.id = 0) : t = ⟨s.n, s.rf, s.nd, 0, 0⟩ := by
  obtain ⟨x', hx', e1, e2, e3, e4, e5⟩ := h
  unfold abN at e1; unfold abD at e2; unfold abI at e3; unfold abE at e4; unfold abD abF at e5
  rw [he] at e1 e2 e3 e4 e5
  refine PSt.ext' e1 ?_ e2 e3 e4
  rcases e5 with ⟨_, e⟩ | ⟨h1, _⟩
  · exact e
  · exact absurd h0 h1
/-- There is no room. -/
theorem abv_full {most : Int} {s t : PSt} {y : ANd} (h : AbvS most s y t) (he : emptyN y = false) (hb : bareN y = y) (hh : haveB s.rf y.kids = true) (hk : ¬ ((usd s.rf s.n : Int) < most)) : t.n = s.n ∧ t.nd = s.nd ∧ t.id = 0 ∧ t.er = 14 ∧ DropZ s.nd s.rf s.id t.rf := by
  obtain ⟨x', hx', e1, e2, e3, e4, e5⟩ := h
  have hm : mkOk s.rf most s.n y = false := by unfold mkOk; rw [hh, decide_eq_false hk]; rfl
  have hE : mkE s.rf most s.n y = 14 := by unfold mkE; rw [if_pos hh, if_neg hk]
  have h1 : abN s.rf most s.n y x' = s.n := by unfold abN mkN; rw [he, hb, hm]; rfl
  have h2 : abD s.rf most s.n s.nd y x' = s.nd := by unfold abD mkD; rw [he, hb, hm]; rfl
  have h3 : abI s.rf most s.n y x' = 0 := by unfold abI mkI; rw [he, hb, hm]; rfl
  have h4 : abE s.rf most s.n y = 14 := by unfold abE; rw [he, hb, hE]; rfl
  have h5 : abF s.rf most s.n y x' = s.rf := by unfold abF mkF; rw [he, hb, hm]; rfl
  rw [h2, h5] at e5
  exact ⟨e1.trans h1, e2.trans h2, e3.trans h3, e4.trans h4, e5⟩
theorem zk_getD (d : Nat) : zNd.kids.getD d 0 = 0 := by
  have : d = 0 ∨ d = 1 ∨ d = 2 ∨ d = 3 ∨ d = 4 ∨ d = 5 ∨ d = 6 ∨ d = 7 ∨ 8 ≤ d := by omega
  rcases this with rfl | rfl | rfl | rfl | rfl | rfl | rfl | rfl | h
  · rfl
  · rfl
  · rfl
  · rfl
  · rfl
  · rfl
  · rfl
  · rfl
  · rw [List.getD_eq_getElem?_getD, List.getElem?_eq_none (show zNd.kids.length ≤ d from h)]; rfl
theorem wI_zero (nd : Int → ANd) (c : Int) (L : Nat) : ∀ k, wI nd c 0 L k = 0 := by
  intro k
  induction k with
  | zero => rfl
  | succ k ih => unfold wI; rw [ih]; unfold ndZ; rw [if_pos rfl]; exact zk_getD _
/-- The example's nodes and counts. -/
def ky1 : ANd := ⟨true, zNd.kids, zNd.vals.set 1 (5, false)⟩
def ky2 : ANd := ⟨false, zNd.kids.set 1 1, zNd.vals⟩
def ky3 : ANd := ⟨false, zNd.kids.set 0 2, zNd.vals⟩
def kz : PSt := ⟨0, fun _ => 0, fun _ => zNd, 0, 0⟩
def ka : PSt := ⟨1, setR (incR (fun _ => 0) ky1.kids) ((1 : Nat) : Int) 1, updN (fun _ => zNd) ((1 : Nat) : Int) ky1, 1, 0⟩
def kb : PSt := ⟨2, stR (setR (incR ka.rf ky2.kids) ((2 : Nat) : Int) 1) 1, updN ka.nd ((2 : Nat) : Int) ky2, 2, 0⟩
def kc : PSt := ⟨3, stR (setR (incR kb.rf ky3.kids) ((3 : Nat) : Int) 1) 2, updN kb.nd ((3 : Nat) : Int) ky3, 3, 0⟩
theorem low_of {rf : Int → Nat} {x : Nat} (h1 : 1 ≤ x) (hf : rf x = 0) (ha : ∀ j : Nat, 1 ≤ j → j < x → rf j ≠ 0) : LowN rf x := ⟨h1, hf, ha⟩
theorem kn10_first {t : PSt} (h : SetEnd 10 (newN (fun _ => zNd) 9 0 3 (5, false)) 3 1 kz t) : t = kc := by
  have d1 : (dig 9 1).toNat = 1 := by decide
  have d2 : (dig 9 2).toNat = 1 := by decide
  have d3 : (dig 9 3).toNat = 0 := by decide
  have wz : ∀ l, wN (fun _ => zNd) 9 0 3 l = zNd := fun l => by unfold wN ndZ; split <;> rfl
  have n1 : newN (fun _ => zNd) 9 0 3 (5, false) 1 0 = ky1 := by unfold newN; rw [if_pos rfl, wz, d1]; rfl
  have n2 : newN (fun _ => zNd) 9 0 3 (5, false) 2 1 = ky2 := by unfold newN; rw [if_neg (by omega), wz, d2]; rfl
  have n3 : newN (fun _ => zNd) 9 0 3 (5, false) 3 2 = ky3 := by unfold newN; rw [if_neg (by omega), wz, d3]; rfl
  rcases h with ⟨h1, _⟩ | ⟨_, u, hu, h⟩
  · exact absurd rfl h1
  have eu : u = ka := by
    rw [show kz.id = 0 from rfl, n1] at hu
    exact abv_made hu (low_of (x := 1) (by omega) rfl (fun j _ _ => by omega)) (by decide) (by rfl) (by decide) (.inl rfl)
  subst eu
  rcases h with ⟨h1, _⟩ | ⟨_, v, hv, h⟩
  · exact absurd rfl h1
  have ev : v = kb := by
    rw [show ka.id = 1 from rfl, n2] at hv
    exact abv_made hv (low_of (x := 2) (by omega) (by decide) (fun j h1 h2 => by
      obtain rfl : j = 1 := by omega
      decide)) (by decide) (by rfl) (by decide) (.inr (by decide))
  subst ev
  rcases h with ⟨h1, _⟩ | ⟨_, r, hr, h⟩
  · exact absurd rfl h1
  have er : r = kc := by
    rw [show kb.id = 2 from rfl, n3] at hr
    exact abv_made hr (low_of (x := 3) (by omega) (by decide) (fun j h1 h2 => by
      have : j = 1 ∨ j = 2 := by omega
      rcases this with rfl | rfl <;> decide)) (by decide) (by rfl) (by decide) (.inr (by decide))
  subst er
  exact h
theorem kn10_way : WayOk kc.rf kc.nd 9 3 3 := by
  intro k hk
  have : k = 0 ∨ k = 1 ∨ k = 2 := by omega
  rcases this with rfl | rfl | rfl <;> right <;> decide
theorem kn10_second {t : PSt} (h : SetEnd 10 (newN kc.nd 9 3 3 (0, false)) 3 1 ⟨kc.n, kc.rf, kc.nd, 0, 0⟩ t) : t.id = 0 ∧ t.er = 0 ∧ t.n = kc.n ∧ t.rf = kc.rf ∧ t.nd = kc.nd := by
  rcases h with ⟨h1, _⟩ | ⟨_, u, hu, h⟩
  · exact absurd rfl h1
  have eu := abv_none hu (by decide) rfl
  subst eu
  rcases h with ⟨h1, _⟩ | ⟨_, v, hv, h⟩
  · exact absurd rfl h1
  have ev := abv_none hv (by decide) rfl
  subst ev
  rcases h with ⟨h1, _⟩ | ⟨_, r, hr, h⟩
  · exact absurd rfl h1
  have er := abv_none hr (by decide) rfl
  subst er
  subst h
  exact ⟨rfl, rfl, rfl, rfl, rfl⟩
end Go.Proofs.YtjkbhaplngnniaaDoor
