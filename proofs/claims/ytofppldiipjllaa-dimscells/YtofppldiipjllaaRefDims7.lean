/- The reference's catalogue while it is made. -/
import Derived.Test.YtofppldiipjllaaRefDims6
namespace Go.Proofs.Ytofppldiipjllaa
open Go.RowKit Go.Maps
set_option linter.unusedSimpArgs false
set_option linter.unusedVariables false

theorem RT.chg {S : Nat → Prop} {w w' : World} {q : Nat} {l : List Nd} (h : RT w q l) (g : Chg S w w') (hq : ¬ S q) (hb : ∀ b c, w.cell? ⟨q, 0, none⟩ = some (.slice (some ⟨b, 0, none⟩) l.length c) → (∀ i, i < l.length → w.cell? ⟨b, i * 2, none⟩ = some (.string (nmA l i))) → ¬ S b) : RT w' q l := by
  obtain ⟨⟨b, c, h1, h2⟩, h3, h4, h5⟩ := h
  have nb := hb b c h1 fun i hi => (h2 i hi).1
  exact ⟨⟨b, c, g.cellp h1 hq, fun i hi => ⟨g.cellp (h2 i hi).1 nb, g.cellp (h2 i hi).2 nb⟩⟩, h3, h4, h5⟩
def ptrs (rt : Nat → Nat) (k : Nat) : List Value := (List.range k).map fun j => .pointer (some ⟨rt j, 0, none⟩)
theorem ptrs_len (rt : Nat → Nat) (k : Nat) : (ptrs rt k).length = k := by simp [ptrs]
theorem ptrs_succ (rt : Nat → Nat) (k q : Nat) : ptrs (fun j => if j = k then q else rt j) (k + 1) = ptrs rt k ++ [.pointer (some ⟨q, 0, none⟩)] := by
  unfold ptrs
  rw [List.range_succ, List.map_append]
  congr 1
  · apply List.map_congr_left
    intro j hj
    rw [List.mem_range] at hj
    simp [show j ≠ k by omega]
  · simp
/-- The reference's catalogue, its first k trees laid. -/
structure RG (w0 w : World) (p B : Nat) (ds : List Dm) (k : Nat) (rt : Nat → Nat) (tv dv mv : Value) : Prop where
  c0 : w.cell? ⟨p, 0, none⟩ = some dv
  c1 : w.cell? ⟨p, 1, none⟩ = some mv
  c4 : w.cell? ⟨p, 4, none⟩ = some tv
  f4 : w.frozen? ⟨p, 4, none⟩ = false
  own : w.ownsRow B 46 1 tv k (ptrs rt k)
  nil : k = 0 → tv = .slice none 0 0
  tr : ∀ j, j < k → RT w (rt j) (dmL ds j) ∧ p < rt j ∧ 0 < (dmL ds j).length
  dvs : ∃ a n c, dv = .slice a n c
  lt : p < B
  hB : B ≤ w.heap.size
  kept : Kept w0 w
  h0 : w0.heap.size ≤ p
theorem ownsRow_kept {w w' : World} {B : Nat} {e : TypeId} {size : Nat} {v : Value} {n : Nat} {xs : List Value} (h : w.ownsRow B e size v n xs) (g : Kept w w') : w'.ownsRow B e size v n xs := by
  have hlt := World.ownsRow.lt h
  obtain ⟨h0, h1 | ⟨k, cap, cur, hv, hb', hh, r⟩⟩ := h
  · exact ⟨h0, .inl h1⟩
  · subst hv
    refine ⟨h0, .inr ⟨k, cap, cur, rfl, hb', ?_, r⟩⟩
    rw [g.block k (hlt k rfl).2]
    exact hh
theorem ownsRow_chg {S : Nat → Prop} {w w' : World} {B : Nat} {e : TypeId} {size : Nat} {v : Value} {n : Nat} {xs : List Value} (h : w.ownsRow B e size v n xs) (g : Chg S w w') (hb : ∀ k, v.ownBlock = some k → ¬ S k) : w'.ownsRow B e size v n xs := by
  have hlt := World.ownsRow.lt h
  obtain ⟨h0, h1 | ⟨k, cap, cur, hv, hb', hh, r⟩⟩ := h
  · exact ⟨h0, .inl h1⟩
  · subst hv
    refine ⟨h0, .inr ⟨k, cap, cur, rfl, hb', ?_, r⟩⟩
    rw [g.block k (hlt k rfl).2 (hb k rfl)]
    exact hh
theorem RG.keep {w0 w w' : World} {p B : Nat} {ds : List Dm} {k : Nat} {rt : Nat → Nat} {tv dv mv : Value} (h : RG w0 w p B ds k rt tv dv mv) (g : Kept w w') : RG w0 w' p B ds k rt tv dv mv :=
  ⟨g.cellp h.c0, g.cellp h.c1, g.cellp h.c4, (g.frozen (p := ⟨p, 4, none⟩) (cell_lt h.c4)).trans h.f4, ownsRow_kept h.own g, h.nil, fun j hj => ⟨(h.tr j hj).1.kept g, (h.tr j hj).2⟩, h.dvs, h.lt, Nat.le_trans h.hB g.size, h.kept.trans g, h.h0⟩
/-- A tree lies apart from the row of trees. -/
theorem RG.apart {w0 w : World} {p B : Nat} {ds : List Dm} {k : Nat} {rt : Nat → Nat} {tv dv mv : Value} (h : RG w0 w p B ds k rt tv dv mv) {q : Nat} {l : List Nd} (ht : RT w q l) (hl : 0 < l.length) : ¬ tv.ownBlock = some q ∧ ∀ b, (∀ i, i < l.length → w.cell? ⟨b, i * 2, none⟩ = some (.string (nmA l i))) → ¬ tv.ownBlock = some b ∧ b ≠ p := by
  have hr : ∀ g, tv.ownBlock = some g → ∃ r, w.cell? ⟨g, 0, none⟩ = some (.pointer r) := by
    intro g hg
    have h' := h.own
    obtain ⟨_, ⟨hv, hz⟩ | ⟨g', cap, cur, hv, hb, hheap, hc, hcm, hsz, htk⟩⟩ := h.own
    · rw [hv] at hg; simp [Value.ownBlock] at hg
    · subst hv
      simp only [Value.ownBlock, Option.some.injEq] at hg
      subst hg
      have hk : 0 < k := by
        by_cases hk : k = 0
        · have := h.nil hk; cases this
        · omega
      have := World.ownsRow.cellAt h' 0 (by omega)
      rw [this]
      refine ⟨some ⟨rt 0, 0, none⟩, ?_⟩
      simp only [ptrs, List.getElem?_map]
      rw [List.getElem?_range (by omega)]
      rfl
  obtain ⟨⟨bb, cc, h1, h2⟩, _⟩ := ht
  refine ⟨fun e => ?_, fun b hb => ⟨fun e => ?_, fun e => ?_⟩⟩
  · obtain ⟨r, hr⟩ := hr q e
    rw [h1] at hr
    cases hr
  · obtain ⟨r, hr⟩ := hr b e
    have := hb 0 hl
    rw [Nat.zero_mul, hr] at this
    cases this
  · obtain ⟨a, n, c, hd⟩ := h.dvs
    have := hb 0 hl
    rw [Nat.zero_mul, e, h.c0, hd] at this
    cases this
theorem RG.push {w0 w W y : World} {p B : Nat} {ds : List Dm} {k : Nat} {rt : Nat → Nat} {tv dv mv : Value} (h : RG w0 w p B ds k rt tv dv mv) (hk : Kept w W) {q g cap : Nat} (ht : RT w q (dmL ds k)) (hq : p < q) (hl : 0 < (dmL ds k).length)
    (ho : y.ownsRow B 46 1 (.slice (some ⟨g, 0, none⟩) (k + 1) cap) (k + 1) (ptrs rt k ++ [.pointer (some ⟨q, 0, none⟩)])) (hc : Chg (fun t => tv.ownBlock = some t) W y) :
    y.cell? ⟨p, 4, none⟩ = some tv ∧ y.frozen? ⟨p, 4, none⟩ = false ∧ RG w0 (y.setCell ⟨p, 4, none⟩ (.slice (some ⟨g, 0, none⟩) (k + 1) cap)) p B ds (k + 1) (fun j => if j = k then q else rt j) (.slice (some ⟨g, 0, none⟩) (k + 1) cap) dv mv := by
  have h' := h.keep hk
  have ht' := ht.kept hk
  have hlt := h.lt
  have hb : ∀ t, tv.ownBlock = some t → B ≤ t := fun t e => (World.ownsRow.lt h.own t e).1
  have n1 : ¬ tv.ownBlock = some p := fun e => by have := hb p e; omega
  have lp : p < W.heap.size := cell_lt h'.c4
  have q4 := hc.cellp h'.c4 n1
  have f4 := (hc.frozen (p := ⟨p, 4, none⟩) lp n1).trans h'.f4
  have c2 : Chg (· = p) y (y.setCell ⟨p, 4, none⟩ (.slice (some ⟨g, 0, none⟩) (k + 1) cap)) := (Chg.refl (· = p) y).setCell (p := ⟨p, 4, none⟩) (.inl rfl) _
  have oth : ∀ j v, j ≠ 4 → y.cell? ⟨p, j, none⟩ = some v → (y.setCell ⟨p, 4, none⟩ (.slice (some ⟨g, 0, none⟩) (k + 1) cap)).cell? ⟨p, j, none⟩ = some v := fun j v hj e => (World.cell?_setCell_other _ _ _ _ (by intro e; simp only [Addr.mk.injEq] at e; omega)).trans e
  have tk : ∀ {q' : Nat} {l : List Nd}, RT W q' l → p < q' → 0 < l.length → RT (y.setCell ⟨p, 4, none⟩ (.slice (some ⟨g, 0, none⟩) (k + 1) cap)) q' l := fun {q' l} hT hpq hl' => by
    obtain ⟨a1, a2⟩ := h'.apart hT hl'
    have hy : RT y q' l := hT.chg hc a1 (fun b c _ hb => (a2 b hb).1)
    refine hy.chg c2 (by omega) (fun b c hcb hbs => ?_)
    intro e
    obtain ⟨aa, nn, ccc, hd⟩ := h.dvs
    have h1 := hbs 0 hl'
    have h2 := hc.cellp h'.c0 n1
    rw [Nat.zero_mul, e, h2, hd] at h1
    cases h1
  have hky : Kept w0 y := Chg.kept h'.kept hc (fun j hj => by have := hb j hj; have := h.h0; omega)
  have gB : B ≤ g := (World.ownsRow.lt ho g rfl).1
  refine ⟨q4, f4, oth 0 _ (by omega) (hc.cellp h'.c0 n1), oth 1 _ (by omega) (hc.cellp h'.c1 n1), World.cell?_setCell_same _ _ _ q4, by simpa using f4, ?_, fun e => by omega, fun j hj => ?_, h.dvs, hlt, ?_, hky.setCell (p := ⟨p, 4, none⟩) h.h0 _, h.h0⟩
  · rw [ptrs_succ]
    exact ownsRow_chg ho c2 (fun t e => by simp only [Value.ownBlock, Option.some.injEq] at e; omega)
  · by_cases e : j = k
    · subst e
      simp only [if_true]
      exact ⟨tk ht' hq hl, hq, hl⟩
    · simp only [e, if_false]
      obtain ⟨a1, a2, a3⟩ := h'.tr j (by omega)
      exact ⟨tk a1 a2 a3, a2, a3⟩
  · have := h'.hB; have := hc.size; simp; omega
theorem RG.rdm {w0 w : World} {p B : Nat} {ds : List Dm} {rt : Nat → Nat} {tv mv : Value} {dv : Value} (h : RG w0 w p B ds ds.length rt tv dv mv) {b : Option Addr} {m d : Nat} {ms : List ByteArray} (hm : mv = .slice b m d) (hs : Ss w b m ms) : RDm w p ds rt ms := by
  have hl := hs.len
  subst hl
  refine ⟨⟨b, d, by rw [← hm]; exact h.c1, hs⟩, ?_, fun j hj => (h.tr j hj).1⟩
  have h' := h.own
  have h4 := h.c4
  obtain ⟨_, ⟨hv, hz⟩ | ⟨g, cap, cur, hv, hb, hheap, hc, hcm, hsz, htk⟩⟩ := h.own
  · exact ⟨none, 0, by rw [hz, ← hv]; exact h4, fun hp => absurd hp (by omega)⟩
  · subst hv
    refine ⟨_, cap, h4, fun hp => ⟨g, rfl, fun j hj => ?_⟩⟩
    rw [World.ownsRow.cellAt h' j (by omega)]
    simp only [ptrs, List.getElem?_map]
    rw [List.getElem?_range (by omega)]
    rfl
theorem pinfo : ∃ i0, Try.prog.info? 46 = some i0 ∧ i0.zero = some (.pointer none) ∧ i0.size = 1 ∧ i0.bytes = 8 := by
  have h : (Try.prog.info? 46).map (fun i => (i.zero, i.size, i.bytes)) = some (some (.pointer none), 1, 8) := by kernel_rfl
  exact info_parts h
/-- One more tree behind the row. -/
theorem wpList_pushP {ops : Array Oper} {rest : List Oper} {o : Oper} {a : Act} {Q : Exit → Act → World → Prop} (w : World) (hgd : o.guard = none) (s x : Operand)
    (ho : o.op = .call { callee := .builtin .append, args := #[s, x], argTypes := #[47, 47] })
    (B : Nat) (v : Value) (rt : Nat → Nat) (k : Nat) (hs : a.eval s = v) (hv : w.ownsRow B 46 1 v k (ptrs rt k)) (hB : B ≤ w.heap.size) (g q : Nat) (hx : a.eval x = .slice (some ⟨g, 0, none⟩) 1 1) (hcell : w.cell? ⟨g, 0, none⟩ = some (.pointer (some ⟨q, 0, none⟩)))
    (h47 : k ≤ 1000) (H : Nat) (hH : w.heap.size = H)
    (h : ∀ g' cap w', w'.ownsRow B 46 1 (.slice (some ⟨g', 0, none⟩) (k + 1) cap) (k + 1) (ptrs rt k ++ [.pointer (some ⟨q, 0, none⟩)]) → Chg (fun t => v.ownBlock = some t) w w' → wpList Try.prog ops Q rest (a.put o.dst (.slice (some ⟨g', 0, none⟩) (k + 1) cap)) w') : wpList Try.prog ops Q (o :: rest) a w := by
  obtain ⟨i0, hi0, hz0, hz1, hz2⟩ := pinfo
  refine wpList_append_lies w hgd s x 47 ho B 46 i0 _ 1 8 Try.underlying47 hi0 hz0 hz1 hz2 rfl (by decide) v _ _ hs hv ⟨g, 0, none⟩ 1 1 [.pointer (some ⟨q, 0, none⟩)] hx rfl (one_news hcell) (by intro u hu; simp at hu; subst hu; rfl) (by omega) (by unfold maxLen; omega) (by omega) hB H hH ?_
  intro g' cap w' h2 h3 h4 h5
  exact h g' cap w' h2 ((Chg.refl _ w).grown h3 (fun k hk => .inl hk))
end Go.Proofs.Ytofppldiipjllaa
