/- A node is put: in a place that is free, or in a new one. -/
import Derived.Test.YtjkbhaplngnniaaDoorAr7
import Derived.Deep.RegionHeld3
import Derived.Deep.RegionLaw
import Derived.Deep.CutRange
namespace Go.Proofs.YtjkbhaplngnniaaDoor
open Go.RowKit
set_option linter.unusedSimpArgs false
set_option linter.unusedVariables false

def updN (nd : Int → ANd) (x : Int) (y : ANd) : Int → ANd := fun i => if i = x then y else nd i
theorem updN_same (nd : Int → ANd) (x : Int) (y : ANd) : updN nd x y x = y := by simp [updN]
theorem updN_other (nd : Int → ANd) {x i : Int} (y : ANd) (h : i ≠ x) : updN nd x y i = nd i := by simp [updN, h]
theorem plinfo : ∃ i0, Tryd.prog.info? 104 = some i0 ∧ i0.zero = some (.agg (plL zNd 0).toArray) ∧ i0.size = 26 ∧ i0.bytes = 208 := by
  have h : (Tryd.prog.info? 104).map (fun i => (i.zero, i.size, i.bytes)) = some (some (.agg (plL zNd 0).toArray), 26, 208) := by kernel_rfl
  exact info_parts h
theorem twentysix {l : List Value} (h : l.length = 26) : ∃ a0 a1 a2 a3 a4 a5 a6 a7 a8 a9 b0 b1 b2 b3 b4 b5 b6 b7 b8 b9 c0 c1 c2 c3 c4 c5, l = [a0, a1, a2, a3, a4, a5, a6, a7, a8, a9, b0, b1, b2, b3, b4, b5, b6, b7, b8, b9, c0, c1, c2, c3, c4, c5] := by
  match l, h with
  | [a0, a1, a2, a3, a4, a5, a6, a7, a8, a9, b0, b1, b2, b3, b4, b5, b6, b7, b8, b9, c0, c1, c2, c3, c4, c5], _ => exact ⟨_, _, _, _, _, _, _, _, _, _, _, _, _, _, _, _, _, _, _, _, _, _, _, _, _, _, rfl⟩
theorem buildP {L : List Value} (hL : L.length = 26) (w : World) : (Instr.buildSlice 65 1 #[(0, .agg L.toArray)]).run Tryd.prog w = .ok (.slice (some ⟨w.heap.size, 0, none⟩) 1 1) (w.alloc (.cells L.toArray 104)) := by
  obtain ⟨a0, a1, a2, a3, a4, a5, a6, a7, a8, a9, b0, b1, b2, b3, b4, b5, b6, b7, b8, b9, c0, c1, c2, c3, c4, c5, rfl⟩ := twentysix hL
  kernel_rfl
theorem wp_buildP {L : List Value} (hL : L.length = 26) {o : Oper} {a : Act} {w : World} {K : Act → World → Prop} {Q : Exit → Act → World → Prop} {x : Operand} (ho : o.op = .buildSlice 65 1 #[(0, x)]) (hx : a.eval x = .agg L.toArray)
    (h : K (a.put o.dst (.slice (some ⟨w.heap.size, 0, none⟩) 1 1)) (w.alloc (.cells L.toArray 104))) : o.wp Tryd.prog a w K Q := by
  unfold Oper.wp execOp
  simp only [ho, List.map_toArray, List.map_cons, List.map_nil, hx, Sem.run_bind, buildP hL, Result.andThen_ok, Sem.run_pure]
  exact h
/-- One more place behind those of a row. -/
theorem step_pushPl {ops : Array Oper} {o : Oper} {a : Act} {K : Act → World → Prop} {Q : Exit → Act → World → Prop} {E : Prop} (w : World) (hgd : o.guard = none) (s x : Operand)
    (ho : o.op = .call { callee := .builtin .append, args := #[s, x], argTypes := #[65, 65] })
    (B : Nat) (v : Value) (n : Nat) (xs : List Value) (hs : a.eval s = v) (hv : w.ownsRow B 104 26 v n xs) (hB : B ≤ w.heap.size) (g : Nat) (L : List Value) (hL : L.length = 26) (h1 : ∀ u ∈ L, u.oneCell' = true) (hx : a.eval x = .slice (some ⟨g, 0, none⟩) 1 1)
    (hr : w.rangeAt g 0 L) (h47 : n ≤ 20000) (H : Nat) (hH : w.heap.size = H)
    (h : ∀ g' cap w', w'.ownsRow B 104 26 (.slice (some ⟨g', 0, none⟩) (n + 1) cap) (n + 1) (xs ++ L) → Chg (fun k => v.ownBlock = some k) w w' → (v.ownBlock = some g' ∨ g' = H) → g' < w'.heap.size → K (a.put o.dst (.slice (some ⟨g', 0, none⟩) (n + 1) cap)) w') :
    if Region.wanted o (yielded ops a.tmps) = true then Oper.wp Tryd.prog o a w K Q else E := by
  obtain ⟨i0, hi0, hz0, hz1, hz2⟩ := plinfo
  refine step_append_lies w hgd s x 65 ho B 104 i0 _ 26 208 Tryd.underlying65 hi0 hz0 hz1 hz2 (by show (plL zNd 0).toArray.size = 26; simp; exact plL_len zNd 0 rfl rfl) (by decide) v _ _ hs hv ⟨g, 0, none⟩ 1 1 L hx (by omega) (fun j u hu => ?_) h1 (by omega) (by unfold maxLen; omega) (by omega) hB H hH ?_
  · rw [Addr.add_lit]; exact hr j u hu
  · intro g' cap w' h2 h3 h4 h5
    exact h g' cap w' h2 ((Chg.refl _ w).grown h3 (fun k hk => .inl hk)) h4 h5
section
variable {w : World} {p B : Nat} {most : Int} {n : Nat} {rf q : Int → Nat} {nd : Int → ANd} {M : Nat} {wd : Nat → Nat} {v : Value} {xs : List Value}
/-- A free place gets a node: its cells. -/
theorem ARq.putIn (h : AR w p B most n rf nd M wd v xs) {g i : Nat} (hi : i < n) (hg : v.ownBlock = some g) (hr : rf (i + 1 : Nat) = 0) (y : ANd) (hy : y.kids.length = 8 ∧ y.vals.length = 8) :
    ARq (w.setCells g (i * 26) (plL y 1)) p B most n rf (setR rf (i + 1 : Nat) 1) (updN nd (i + 1 : Nat) y) M wd v (setL xs (i * 26) (plL y 1)) ∧ Chg (fun j => v.ownBlock = some j) w (w.setCells g (i * 26) (plL y 1)) ∧ (∀ j, j < 25 → (setL xs (i * 26) (plL y 1))[26 * i + j]? = (ndL y)[j]?) := by
  have hl : xs.length = n * 26 := h.own.1
  have hpl := plL_len y 1 hy.1 hy.2
  obtain ⟨h1, h2⟩ := h.cells hg (i * 26) (plL y 1) (setR rf (i + 1 : Nat) 1) (updN nd (i + 1 : Nat) y) (fun k hk => by
    by_cases e : k = i
    · subst e
      rw [setR_same, show 26 * k + 25 = k * 26 + 25 by omega, setL_in _ _ _ _ (by omega) (by omega), plL_ref y 1 hy.1 hy.2]
    · rw [setR_other _ _ (by omega), setL_out _ _ _ _ (by omega)]
      exact h.refs k hk) (fun k hk hne j hj => by
    have e : k ≠ i := fun e => by subst e; exact hne hr
    rw [updN_other _ _ (by omega), setL_out _ _ _ _ (by omega)]
    exact h.nodes k hk hne j hj) (fun k => by unfold updN; split; exact hy; exact h.kok k)
  refine ⟨h1, h2, fun j hj => ?_⟩
  rw [show 26 * i + j = i * 26 + j by omega, setL_in _ _ _ _ (by omega) (by omega)]
  exact plL_nd y 1 hy.1 hy.2 j hj
/-- A new place. -/
theorem ARq.putNew {x z : World} (h : AR x p B most n rf nd M wd v xs) (y : ANd) (hy : y.kids.length = 8 ∧ y.vals.length = 8) (hnm : (n : Int) + 1 ≤ most) {g' cap : Nat}
    (ho : z.ownsRow B 104 26 (.slice (some ⟨g', 0, none⟩) (n + 1) cap) (n + 1) (xs ++ plL y 1)) (hc : Chg (fun t => v.ownBlock = some t) x z) :
    z.cell? ⟨p, 2, none⟩ = some v ∧ z.frozen? ⟨p, 2, none⟩ = false ∧ ARq (z.setCell ⟨p, 2, none⟩ (.slice (some ⟨g', 0, none⟩) (n + 1) cap)) p B most (n + 1) rf (setR rf (n + 1 : Nat) 1) (updN nd (n + 1 : Nat) y) M wd (.slice (some ⟨g', 0, none⟩) (n + 1) cap) (xs ++ plL y 1) ∧ Chg (fun j => j = p ∨ v.ownBlock = some j) x (z.setCell ⟨p, 2, none⟩ (.slice (some ⟨g', 0, none⟩) (n + 1) cap)) ∧ (∀ j, j < 25 → (xs ++ plL y 1)[26 * n + j]? = (ndL y)[j]?) := by
  have hl : xs.length = n * 26 := h.own.1
  have hpl := plL_len y 1 hy.1 hy.2
  have np : ¬ v.ownBlock = some p := fun e => (h.apart e).2.2 rfl
  have lp := h.lt
  have hr0 : rf (n + 1 : Nat) = 0 := h.ok _ (by omega)
  have q2 := hc.cellp h.c2 np
  have c2 : Chg (· = p) z (z.setCell ⟨p, 2, none⟩ (.slice (some ⟨g', 0, none⟩) (n + 1) cap)) := (Chg.refl (· = p) z).setCell (p := ⟨p, 2, none⟩) (.inl rfl) _
  have oth : ∀ j u, j ≠ 2 → z.cell? ⟨p, j, none⟩ = some u → (z.setCell ⟨p, 2, none⟩ (.slice (some ⟨g', 0, none⟩) (n + 1) cap)).cell? ⟨p, j, none⟩ = some u := fun j u hj e => (World.cell?_setCell_other _ _ _ _ (by intro e; simp only [Addr.mk.injEq] at e; omega)).trans e
  have gB := (World.ownsRow.lt ho g' rfl).1
  have hpB := h.pB
  refine ⟨q2, (hc.frozen (p := ⟨p, 2, none⟩) lp np).trans (h.fz 2), ⟨oth 0 _ (by omega) (hc.cellp h.c0 np), ?_, World.cell?_setCell_same _ _ _ q2, fun j hj => oth _ _ (by omega) (hc.cellp (h.c3 j hj) np), fun j => by simpa using (hc.frozen (p := ⟨p, j, none⟩) lp np).trans (h.fz j), ?_, fun k hk => ?_, fun k hk hne j hj => ?_, h.word, h.bit, fun i hi => h.ok i (by omega), fun k => by unfold updN; split; exact hy; exact h.kok k, h.pB, Nat.le_trans h.B1 (Nat.le_trans hc.size c2.size), h.m1, h.m2, by omega, h.rb, h.Mb⟩, (hc.mono (fun j _ e => .inr e)).trans (c2.mono (fun j _ e => .inl e)), fun j hj => ?_⟩
  · have : usd rf (n + 1) = usd rf n := by
      show usd rf n + (if rf (n + 1 : Nat) = 0 then 0 else 1) = _
      rw [if_pos hr0]; rfl
    rw [this]
    exact oth 1 _ (by omega) (hc.cellp h.c1 np)
  · obtain ⟨h0, h1 | ⟨b, cap', cur, hv, hb', hh, r⟩⟩ := ho
    · exact ⟨h0, .inl h1⟩
    · refine ⟨h0, .inr ⟨b, cap', cur, hv, hb', ?_, r⟩⟩
      have hk : b < z.heap.size := by
        by_cases hlt : b < z.heap.size
        · exact hlt
        · rw [Array.getElem?_eq_none (by omega)] at hh; cases hh
      rw [c2.block b hk (by omega)]
      exact hh
  · by_cases e : k = n
    · subst e
      rw [setR_same, List.getElem?_append_right (by omega), show 26 * k + 25 - xs.length = 25 by omega, plL_ref y 1 hy.1 hy.2]
    · rw [setR_other _ _ (by omega), List.getElem?_append_left (by omega)]
      exact h.refs k (by omega)
  · have e : k ≠ n := fun e => by subst e; exact hne hr0
    rw [updN_other _ _ (by omega), List.getElem?_append_left (by omega)]
    exact h.nodes k (by omega) hne j hj
  · rw [List.getElem?_append_right (by omega), show 26 * n + j - xs.length = j by omega]
    exact plL_nd y 1 hy.1 hy.2 j hj
end
end Go.Proofs.YtjkbhaplngnniaaDoor
