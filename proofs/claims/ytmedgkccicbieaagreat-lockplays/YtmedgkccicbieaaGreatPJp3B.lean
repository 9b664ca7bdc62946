/- LockPlays: both sides in one memory. · LockPlays: what both sides answer, and that it is the same. -/
import Derived.Test.YtmedgkccicbieaaGreatPRef14DB
import Derived.Test.YtmedgkccicbieaaGreatPLockWB
namespace Go.Proofs.YtmedgkccicbieaaGreat
open Go.RowKit Go.Maps
set_option linter.unusedSimpArgs false
set_option linter.unusedVariables false

theorem Lp.chgP {S : Nat → Prop} {w w' : World} {ms : List ByteArray} {ds : List Dm} {a : Option Addr} {c : Nat} {l : List Pk} (h : Lp w ms ds a c l) (k : Chg S w w') (hs : 0 < l.length → ∀ ad, a = some ad → ¬ S ad.block) : Lp w' ms ds a c l := ⟨h.pq.chg k hs, h.le, h.nl, h.ld, h.sp⟩
theorem Pq.blt {w : World} {a : Option Addr} {l : List Pk} (h : Pq w a l) (hp : 0 < l.length) : ∀ ad, a = some ad → ad.block < w.heap.size := fun ad e => by
  obtain ⟨b, o, e2, hlt, _⟩ := h.cells hp
  rw [e] at e2
  cases e2
  exact hlt
theorem Lq.blt {w : World} {a : Option Addr} {l : List Lk} (h : Lq w a l) (hp : 0 < l.length) : ∀ ad, a = some ad → ad.block < w.heap.size := fun ad e => by
  obtain ⟨b, o, e2, hlt, _⟩ := h.cells hp
  rw [e] at e2
  cases e2
  exact hlt
abbrev nlL : Value := .slice none 0 0
structure Jr (W0 : World) (r q : Nat) (ds : List Dm) (ms : List ByteArray) (pp : Option (Nat × Nat)) (hb : Nat) (ha : Option Addr) (hc : Nat) (hl : List Pk) (la : Option Addr) (w : World) : Prop where
  cell : w.cell? ⟨hb, 0, none⟩ = some (.slice ha hl.length hc)
  fz : w.frozen? ⟨hb, 0, none⟩ = false
  lp : Lp w ms ds ha hc hl
  lq : Lq w la (hl.map lkOf)
  rq : RQ W0 r q ds nlL nlL pp w
  re : r = W0.heap.size
  hr : r < hb
  bh : ∀ ad, ha = some ad → hb < ad.block
  bl : ∀ ad, la = some ad → hb < ad.block
  hB : ∀ B H, pp = some (B, H) → hb < B
section
variable {W0 w w' : World} {r q : Nat} {ds : List Dm} {ms : List ByteArray} {pp : Option (Nat × Nat)} {hb : Nat} {ha : Option Addr} {hc : Nat} {hl : List Pk} {la : Option Addr}
theorem Jr.lt (h : Jr W0 r q ds ms pp hb ha hc hl la w) : hb < w.heap.size := cell_lt h.cell
theorem Jr.chg {S : Nat → Prop} (h : Jr W0 r q ds ms pp hb ha hc hl la w) (k : Chg S w w') (h1 : ¬ S hb) (h2 : ∀ j, S j → W0.heap.size ≤ j ∧ j ≠ r) (h3 : 0 < hl.length → ∀ ad, ha = some ad → ¬ S ad.block) (h4 : 0 < hl.length → ∀ ad, la = some ad → ¬ S ad.block) (h5 : ∀ B H, pp = some (B, H) → ∀ j, S j → ¬ (B ≤ j ∧ j < H)) : Jr W0 r q ds ms pp hb ha hc hl la w' :=
  ⟨k.cellp h.cell h1, (k.frozen (p := ⟨hb, 0, none⟩) h.lt h1).trans h.fz, h.lp.chgP k h3, h.lq.chg k (fun hp => h4 (by simpa using hp)), h.rq.chg k h2 h5, h.re, h.hr, h.bh, h.bl, h.hB⟩
theorem Jr.keep (h : Jr W0 r q ds ms pp hb ha hc hl la w) (k : Kept w w') : Jr W0 r q ds ms pp hb ha hc hl la w' :=
  h.chg (S := fun _ => False) (Chg.of_kept k) (fun e => e) (fun _ e => e.elim) (fun _ _ _ e => e) (fun _ _ _ e => e) (fun _ _ _ _ e => e.elim)
def Jz (W0 : World) (r q : Nat) (ds : List Dm) (ms : List ByteArray) (hb : Nat) (ha : Option Addr) (hc : Nat) (hl : List Pk) (la : Option Addr) (w : World) : Prop := ∃ pp, Jr W0 r q ds ms pp hb ha hc hl la w
theorem Jz.keep (h : Jz W0 r q ds ms hb ha hc hl la w) (k : Kept w w') : Jz W0 r q ds ms hb ha hc hl la w' := by
  obtain ⟨pp, h⟩ := h
  exact ⟨pp, h.keep k⟩
theorem Jr.rr' (h : Jr W0 r q ds ms pp hb ha hc hl la w) {p2 : Option (Nat × Nat)} (h3 : RQ W0 r q ds nlL nlL p2 w') (n2 : Nx pp p2 w.heap.size) (c2 : Chg (fun j => j = r) w w') : Jr W0 r q ds ms p2 hb ha hc hl la w' := by
  have e1 : ¬ hb = r := by have := h.hr; omega
  refine ⟨c2.cellp h.cell e1, (c2.frozen (p := ⟨hb, 0, none⟩) h.lt e1).trans h.fz, h.lp.chgP c2 (fun _ ad e (f : ad.block = r) => by have := h.bh ad e; have := h.hr; omega), h.lq.chg c2 (fun _ ad e (f : ad.block = r) => by have := h.bl ad e; have := h.hr; omega), h3, h.re, h.hr, h.bh, h.bl, fun B H e => ?_⟩
  rcases n2.get e with e | e
  · exact h.hB B H e
  · have := h.lt; omega
theorem Jr.rr (h : Jr W0 r q ds ms pp hb ha hc hl la w) (k : RR W0 r q ds nlL nlL pp w w') : Jz W0 r q ds ms hb ha hc hl la w' := by
  obtain ⟨⟨p2, h3, n2⟩, c2⟩ := k
  exact ⟨p2, h.rr' h3 n2 c2⟩
end
structure Js (W0 : World) (r q : Nat) (ds : List Dm) (ms : List ByteArray) (pp : Option (Nat × Nat)) (hb : Nat) (ha : Option Addr) (hc : Nat) (hl : List Pk) (la : Option Addr) (wb nb : Nat) (a3 : Option Addr) (d3 : Nat) (l3 : List Pk) (w : World) : Prop where
  jr : Jr W0 r q ds ms pp hb ha hc hl la w
  wc : w.cell? ⟨wb, 0, none⟩ = some (.slice ha hl.length hc)
  nc : w.cell? ⟨nb, 0, none⟩ = some (.slice a3 l3.length d3)
  nd : Lp w ms ds a3 d3 l3
  nn : ∀ ad, a3 = some ad → hb < ad.block
  ww : hb < wb
  wn : hb < nb
def Tlj (W2 : World) (ms : List ByteArray) (ds : List Dm) (P : Pk → Prop) (a3 : Option Addr) (n3 d3 : Nat) (w3 : World) : Prop := Kept W2 w3 ∧ ∃ l3, n3 = l3.length ∧ Lp w3 ms ds a3 d3 l3 ∧ (∀ y, y ∈ l3 ↔ P y) ∧ ∀ ad, a3 = some ad → W2.heap.size ≤ ad.block
theorem foK_mem {ms : List ByteArray} {ds : List Dm} (ct : Ct ds ms) {l : List Pk} (h : Ld ms ds l) (u : ByteArray) {N : Nat} (hN : (N : Int) = mulK (fun k => leas ds k) ms.length 4) (n : Int) : n ∈ foK ms ds (l.map lkOf) u N ↔ forP ms ds (l.map lkOf) u n := by
  have hone := (one_lk h).1
  have hown : ∀ k, k < (l.map lkOf).length → n ∈ undC ms ds (lkA (l.map lkOf) k).1 → ownI ms ds n (l.map lkOf) = (lkA (l.map lkOf) k).2 := fun k hk hn =>
    who_own hone (.inr ⟨k, hk, hn, rfl⟩)
  have hnm : ∀ k, k < (l.map lkOf).length → (lkA (l.map lkOf) k).2 ≠ ⟨#[]⟩ := fun k hk e => by
    rw [List.length_map] at hk
    rw [lkA_map hk] at e
    have h1 := h.nm (pkA l k) (by rw [pkA_get hk]; exact List.getElem_mem hk)
    have e2 : (pkA l k).2.1 = ⟨#[]⟩ := e
    rw [e2] at h1
    exact absurd h1 (by decide +kernel)
  unfold foK
  simp only [List.mem_map, List.mem_filter, List.mem_range]
  constructor
  · rintro ⟨i, ⟨h1, h2⟩, rfl⟩
    have h2 := of_decide_eq_true h2
    by_cases g : ∃ k, k < (l.map lkOf).length ∧ (i : Int) ∈ undC ms ds (lkA (l.map lkOf) k).1
    · obtain ⟨k, hk, hn⟩ := g
      have e := hown k hk hn
      rw [e] at h2
      exact ⟨lkA (l.map lkOf) k, by rw [lkA_get hk]; exact List.getElem_mem hk, h2.2, hn⟩
    · exact absurd (ownI_no fun t ht hn => g ⟨t, ht, hn⟩) h2.1
  · rintro ⟨y, hy, hne, hn⟩
    obtain ⟨k, hk, rfl⟩ := List.getElem_of_mem hy
    rw [← lkA_get hk] at hne hn
    have hok := ((mem_und ct).1 hn).1
    obtain ⟨g1, g2⟩ := hok
    have e := hown k hk hn
    refine ⟨n.toNat, ⟨by omega, ?_⟩, by omega⟩
    rw [show ((n.toNat : Nat) : Int) = n by omega]
    exact decide_eq_true ⟨by rw [e]; exact hnm k hk, by rw [e]; exact hne⟩
theorem foK_lok {ms : List ByteArray} {ds : List Dm} (ct : Ct ds ms) {l : List Pk} (h : Ld ms ds l) (u : ByteArray) {N : Nat} (hN : (N : Int) = mulK (fun k => leas ds k) ms.length 4) (x : Cl) : (∃ n, n ∈ foK ms ds (l.map lkOf) u N ∧ n ∈ undC ms ds x) ↔ lokB ms ds (l.map lkOf) u x = true := by
  rw [lok_iff]
  exact ⟨fun ⟨n, h1, h2⟩ => ⟨n, h2, (foK_mem ct h u hN n).1 h1⟩, fun ⟨n, h1, h2⟩ => ⟨n, (foK_mem ct h u hN n).2 h2, h1⟩⟩
theorem foK_rise (ms : List ByteArray) (ds : List Dm) (l : List Lk) (u : ByteArray) (k : Nat) : RiseR (foK ms ds l u k) := by
  unfold RiseR foK
  rw [List.pairwise_map]
  refine List.Pairwise.filter _ ?_
  exact List.pairwise_lt_range.imp (fun h => by omega)
theorem expd_foK {ms : List ByteArray} {ds : List Dm} (ct : Ct ds ms) {l : List Pk} (h : Ld ms ds l) (u : ByteArray) {N : Nat} (hN : (N : Int) = mulK (fun k => leas ds k) ms.length 4) {m : List Rn} (hm : Norm m) (hx : ∀ x, inRg m x ↔ forP ms ds (l.map lkOf) u x) : expd m = foK ms ds (l.map lkOf) u N :=
  riseR_ext (expd_rise hm) (foK_rise _ _ _ _ _) (fun x => by rw [mem_expd, hx, foK_mem ct h u hN])
theorem ladd_ne {ms : List ByteArray} {ds : List Dm} (ct : Ct ds ms) {l : List Pk} {x : Cl} {u : ByteArray} (h : Ld ms ds l) (h0 : laddE ms ds (l.map lkOf) x u = 0) : ∀ y, y ∈ l → ixC ms ds y.1 ≠ ixC ms ds x := fun y hy e => by
  have hA := ladd_ask h0
  have hxy : y.1 = x := ixC_inj ct (h.ok y hy) e
  unfold laddE at h0
  rw [if_pos hA] at h0
  by_cases hu : y.2.1 = u
  · obtain ⟨k, hk, rfl⟩ := List.getElem_of_mem hy
    rw [if_pos (mem_lk.2 ⟨k, hk, by rw [pkA_get hk]; exact hxy, by rw [pkA_get hk]; exact hu⟩)] at h0
    cases h0
  · obtain ⟨n, hn⟩ := undC_ne ct (askE_ok.1 hA).2
    have hB : lokB ms ds (l.map lkOf) u x = true := lok_iff.2 ⟨n, hn, lkOf y, List.mem_map_of_mem hy, hu, by show n ∈ undC ms ds y.1; rw [hxy]; exact hn⟩
    by_cases ht : twB (l.map lkOf) x u = true
    · rw [if_pos ht] at h0; cases h0
    · rw [if_neg ht, if_pos hB] at h0; cases h0
theorem ld_pw {ms : List ByteArray} {ds : List Dm} {l : List Pk} (h : Ld ms ds l) : (l.map lkOf).Pairwise fun x y => ixC ms ds x.1 < ixC ms ds y.1 := by
  rw [List.pairwise_map]
  refine List.Pairwise.imp_of_mem ?_ h.rs
  intro x y hx hy hlt
  rw [h.ix x hx, h.ix y hy] at hlt
  exact hlt
section
variable {W0 w w' wr w3 W2 : World} {r q : Nat} {ds : List Dm} {ms : List ByteArray} {pp : Option (Nat × Nat)} {hb : Nat} {ha : Option Addr} {hc : Nat} {hl : List Pk} {la : Option Addr} {wb nb : Nat} {a3 : Option Addr} {d3 n3 : Nat} {l3 : List Pk} {rt : Nat → Nat}
theorem Js.keep (h : Js W0 r q ds ms pp hb ha hc hl la wb nb a3 d3 l3 w) (k : Kept w w') : Js W0 r q ds ms pp hb ha hc hl la wb nb a3 d3 l3 w' := ⟨h.jr.keep k, k.cellp h.wc, k.cellp h.nc, h.nd.kept k, h.nn, h.ww, h.wn⟩
theorem Js.rr (h : Js W0 r q ds ms pp hb ha hc hl la wb nb a3 d3 l3 w) (k : RR W0 r q ds nlL nlL pp w w') : ∃ p2, Js W0 r q ds ms p2 hb ha hc hl la wb nb a3 d3 l3 w' := by
  obtain ⟨⟨p2, h3, n2⟩, c2⟩ := k
  have e0 := h.jr.hr
  have e1 : ¬ wb = r := by have := h.ww; omega
  have e2 : ¬ nb = r := by have := h.wn; omega
  exact ⟨p2, h.jr.rr' h3 n2 c2, c2.cellp h.wc e1, c2.cellp h.nc e2, h.nd.chgP c2 (fun _ ad e (f : ad.block = r) => by have := h.nn ad e; omega), h.nn, h.ww, h.wn⟩
theorem js_new (h : Jr W0 r q ds ms pp hb ha hc hl la wr) {T : TypeId} (hW : W2 = (wr.alloc (.cells #[.slice ha hl.length hc] T)).alloc (.cells #[.slice ha hl.length hc] T)) (k : Kept W2 w3) (hd : Lp w3 ms ds a3 d3 l3) (hf : ∀ ad, a3 = some ad → W2.heap.size ≤ ad.block) (hn : n3 = l3.length) (hwb : wb = wr.heap.size) (hnb : nb = wr.heap.size + 1) :
    Js W0 r q ds ms pp hb ha hc hl la wb nb a3 d3 l3 (w3.setCell ⟨nb, 0, none⟩ (.slice a3 n3 d3)) := by
  subst hn
  have k0 : Kept wr W2 := by rw [hW]; exact ((Kept.refl _).alloc _).alloc _
  have z2 : W2.heap.size = wr.heap.size + 2 := by rw [hW]; simp
  have c1 : W2.cell? ⟨wb, 0, none⟩ = some (.slice ha hl.length hc) := by rw [hW]; exact ((Kept.refl _).alloc _).cellp (new_cell _ _ _ _ 0 _ hwb rfl)
  have c2 : W2.cell? ⟨nb, 0, none⟩ = some (.slice ha hl.length hc) := by rw [hW]; exact new_cell _ _ _ _ 0 _ (by simp [hnb]) rfl
  have h3 := h.keep (k0.trans k)
  have c : Chg (· = nb) w3 (w3.setCell ⟨nb, 0, none⟩ (.slice a3 l3.length d3)) := chg_set _ _ _ _
  have l1 := h.lt
  have l2 := h.hr
  have l3' := h.re
  refine ⟨h3.chg c (fun e => by omega) (fun j e => by omega) (fun hp ad e (f : ad.block = nb) => by have := h.lp.pq.blt hp ad e; omega) (fun hp ad e (f : ad.block = nb) => by have := h.lq.blt (by simpa using hp) ad e; omega) (fun B H e j f => ?_), c.cellp (k.cellp c1) (fun e => by omega), World.cell?_setCell_same _ _ _ (k.cellp c2), hd.chgP c (fun _ ad e (f : ad.block = nb) => by have := hf ad e; omega), fun ad e => by have := hf ad e; omega, by omega, by omega⟩
  have := (h.rq.hole e).2
  omega
theorem Js.next (h : Js W0 r q ds ms pp hb ha hc hl la wb nb a3 d3 l3 w) {ka : Option Addr} (hk : Lq w ka (l3.map lkOf)) (hf : ∀ ad, ka = some ad → hb < ad.block) : Jr W0 r q ds ms pp hb a3 d3 l3 ka (w.setCell ⟨hb, 0, none⟩ (.slice a3 l3.length d3)) := by
  have c : Chg (· = hb) w (w.setCell ⟨hb, 0, none⟩ (.slice a3 l3.length d3)) := chg_set _ _ _ _
  have l1 := h.jr.hr
  have l2 := h.jr.re
  exact ⟨World.cell?_setCell_same _ _ _ h.jr.cell, by simpa using h.jr.fz, h.nd.chgP c (fun _ ad e (f : ad.block = hb) => by have := h.nn ad e; omega), hk.chg c (fun _ ad e (f : ad.block = hb) => by have := hf ad e; omega), h.jr.rq.chg c (fun j e => by omega) (fun B H e j f => by have := h.jr.hB B H e; omega), l2, l1, h.nn, hf, h.jr.hB⟩
def RTj (W0 : World) (r q : Nat) (ds : List Dm) (ms : List ByteArray) (hb : Nat) (ha : Option Addr) (hc : Nat) (hl : List Pk) (la : Option Addr) (wb nb : Nat) (a3 : Option Addr) (d3 : Nat) (l3 : List Pk) (w : World) (D : Int) (e : Ending) (w' : World) : Prop :=
  ∃ ka kc, e = .returned (.tuple #[.slice ka l3.length kc, .int .i64 D]) ∧ Hid ((∃ p2, Js W0 r q ds ms p2 hb ha hc hl la wb nb a3 d3 l3 w') ∧ Lq w' ka (l3.map lkOf) ∧ ∀ ad, ka = some ad → hb < ad.block) ∧ Chg (fun j => j = r) w w'
theorem js_RDrop (hE : RE W0 r q ds ms rt) (h : Js W0 r q ds ms pp hb ha hc hl la wb nb a3 d3 l3 w) (lc : Nat) (x : Cl) (u : ByteArray) (huz : u.size ≤ maxLen) (hm : ∀ y, y ∈ l3 ↔ ldropE ms ds (hl.map lkOf) x u = 0 ∧ y ∈ hl ∧ y.1 ≠ x) :
    Calls Tryz.prog 28 #[.pointer (some ⟨r, 0, none⟩), .slice la hl.length lc, clV x, .string u] w (RTj W0 r q ds ms hb ha hc hl la wb nb a3 d3 l3 w (ldropE ms ds (hl.map lkOf) x u)) := by
  have hc0 := ref14_Drop hE h.jr.rq la lc (hl.map lkOf) x u h.jr.lq (by have := h.jr.lp.ld.sm; simp; omega) huz
  rw [List.length_map] at hc0
  refine hc0.mono ?_
  rintro e w' ⟨v, rfl, g1, g2, k⟩
  have l1 := h.jr.lt
  by_cases hD : ldropE ms ds (hl.map lkOf) x u = 0
  · obtain ⟨K, hK, e1, e2, ho⟩ := g1 hD
    rw [List.length_map] at hK
    rw [lkA_map hK] at e1
    have e3 : hl.take K ++ hl.drop (K + 1) = l3 := riseG_ext (f := fun y => y.2.2) (h.jr.lp.ld.sub (dropPk_sub hK)).rs h.nd.ld.rs (fun y => by
      rw [hm, dropPk_mem h.jr.lp.ld hK, show (pkA hl K).1 = x from e1]
      simp [hD])
    rw [← List.map_take, ← List.map_drop, ← List.map_append, e3] at ho
    obtain ⟨ka, kc, rfl, hq, _⟩ := ho.form
    exact ⟨ka, kc, by rw [List.length_map], hidMk ⟨h.rr k, hq, fun ad e => by have := ho.fr ad e; omega⟩, k.2⟩
  · have e3 : l3 = [] := List.eq_nil_iff_forall_not_mem.2 (fun y hy => hD ((hm y).1 hy).1)
    rw [g2 hD]
    subst e3
    exact ⟨none, 0, rfl, hidMk ⟨h.rr k, Lq.none _ _, fun ad e => (by cases e)⟩, k.2⟩
theorem js_RAdd (hE : RE W0 r q ds ms rt) (h : Js W0 r q ds ms pp hb ha hc hl la wb nb a3 d3 l3 w) (lc : Nat) (x : Cl) (u : ByteArray) (huz : u.size ≤ maxLen) {N : Nat} (hN : (N : Int) = mulK (fun k => leas ds k) ms.length 4) (hN6 : N ≤ 1000) (hm : ∀ y, y ∈ l3 ↔ laddE ms ds (hl.map lkOf) x u = 0 ∧ (y = (x, u, ixC ms ds x) ∨ y ∈ hl)) :
    Calls Tryz.prog 30 #[.pointer (some ⟨r, 0, none⟩), .slice la hl.length lc, clV x, .string u] w (RTj W0 r q ds ms hb ha hc hl la wb nb a3 d3 l3 w (laddE ms ds (hl.map lkOf) x u)) := by
  have hc0 := ref14_Add hE h.jr.rq la lc (hl.map lkOf) x u h.jr.lq (by have := h.jr.lp.ld.sm; simp; omega) huz (fun ad e => by have := h.jr.bl ad e; have := h.jr.hr; omega) N hN hN6 (foK_lok hE.ct h.jr.lp.ld u hN x) (fun h0 t ht => by
    rw [List.length_map] at ht
    rw [lkA_map ht]
    exact fun e => ladd_ne hE.ct h.jr.lp.ld h0 (pkA hl t) (by rw [pkA_get ht]; exact List.getElem_mem ht) e.symm)
  rw [List.length_map] at hc0
  refine hc0.mono ?_
  rintro e w' ⟨v, rfl, g1, g2, k⟩
  have l1 := h.jr.lt
  by_cases hD : laddE ms ds (hl.map lkOf) x u = 0
  · obtain ⟨b, o, hi, ho⟩ := g1 hD
    have hpw := ld_pw h.jr.lp.ld
    have hne : ∀ y, y ∈ hl.map lkOf → ixC ms ds y.1 ≠ ixC ms ds x := fun y hy => by
      obtain ⟨z, hz, rfl⟩ := List.mem_map.1 hy
      exact ladd_ne hE.ct h.jr.lp.ld hD z hz
    have hi2 := insL_end (f := fun y : Lk => ixC ms ds y.1) (fun i j hij hj => by
      rw [lkA_get hj, lkA_get (by omega)]
      exact (List.pairwise_iff_getElem.1 hpw) i j (by omega) hj hij) (fun t ht => hne _ (by rw [lkA_get ht]; exact List.getElem_mem ht)) hi
    obtain ⟨r1, r2, _⟩ := insLk_is (f := fun y : Lk => ixC ms ds y.1) hpw hne hi2
    have e3 : (if b then o else o ++ [((x, u) : Lk)]) = l3.map lkOf := riseG_ext (f := fun y : Lk => ixC ms ds y.1) r1 (ld_pw h.nd.ld) (fun y => by
      rw [r2]
      constructor
      · rintro (rfl | hy)
        · exact List.mem_map.2 ⟨(x, u, ixC ms ds x), (hm _).2 ⟨hD, .inl rfl⟩, rfl⟩
        · obtain ⟨z, hz, rfl⟩ := List.mem_map.1 hy
          exact List.mem_map.2 ⟨z, (hm z).2 ⟨hD, .inr hz⟩, rfl⟩
      · intro hy
        obtain ⟨z, hz, rfl⟩ := List.mem_map.1 hy
        rcases ((hm z).1 hz).2 with rfl | hz
        · exact .inl rfl
        · exact .inr (List.mem_map_of_mem hz))
    rw [e3] at ho
    obtain ⟨ka, kc, rfl, hq, _⟩ := ho.form
    exact ⟨ka, kc, by rw [List.length_map], hidMk ⟨h.rr k, hq, fun ad e => by have := ho.fr ad e; omega⟩, k.2⟩
  · have e3 : l3 = [] := List.eq_nil_iff_forall_not_mem.2 (fun y hy => hD ((hm y).1 hy).1)
    rw [g2 hD]
    subst e3
    exact ⟨none, 0, rfl, hidMk ⟨h.rr k, Lq.none _ _, fun ad e => (by cases e)⟩, k.2⟩
end

theorem ownI_frL {w : World} {B : Nat} {a : Option Addr} {n c : Nat} {l : List Int} (h : OwnI w B (.slice a n c) l) : ∀ ad, a = some ad → B ≤ ad.block := fun ad e => by
  obtain ⟨_, ⟨h1, hz⟩ | ⟨g, cap, cur, h1, hb, _⟩⟩ := h
  · cases h1; cases e
  · cases h1; cases e; exact hb
def AllPJ (w : World) (E : List Int) (e : Ending) (w' : World) : Prop := ∃ a c, e = .returned (.slice a E.length c) ∧ Sl .i64 w' a E.length E ∧ (∀ ad, a = some ad → w.heap.size ≤ ad.block) ∧ Kept w w'
set_option maxHeartbeats 2000000 in
theorem region_AllJ (v : Value) (l : List Rn) (w : World) (h : SetIs w v l) (hn : Norm l) (hm : (expd l).length ≤ 100000) (hl : l.length ≤ 100000) : Calls Tryz.prog 22 #[v] w (AllPJ w (expd l)) := by
  obtain ⟨a, c, rfl, h1, h2, h3⟩ := h
  have HR := hidMk h1
  have HN := hidMk hn
  obtain ⟨E, hE⟩ : ∃ E, expd l = E := ⟨_, rfl⟩
  rw [hE] at hm ⊢
  have HE := hidMk hE
  clear h1 hn h3 hE
  go_enter Tryz.func22, Tryz.ntmps22
  go_wp2_with fail
  go_loopg [3, 10] l.length (fun g y x wr => ∃ k : Nat, k + g = l.length ∧ x = .int .i64 k ∧ OwnI wr (w.heap.size + 1) y (expd (l.take k)) ∧ Kept (w.alloc (.cells #[.slice a l.length c] 55)) wr)
  case atStart => exact ⟨0, by omega, rfl, ownI_nil _ _, Kept.refl _⟩
  case round =>
    obtain ⟨k, hkg, rfl, hO, hk⟩ := hrel
    obtain ⟨gi, hgi⟩ : ∃ gi, gi = gk := ⟨_, rfl⟩
    subst hgi
    have HKG := hidMk hkg
    have HK := hidMk hk
    by_cases hkn : k < l.length
    · obtain ⟨b, o, rfl, _, hcs⟩ := HR.out.cells (by omega)
      obtain ⟨c1, c2⟩ := hcs k hkn
      have d1 := hk.cellp (((Kept.refl w).alloc _).cellp c1)
      have d2 := hk.cellp (((Kept.refl w).alloc _).cellp c2)
      have hb := norm_at HN.out hkn
      have HT := hidMk (expd_take hkn)
      have hlt := expd_len_take (l := l) (k + 1)
      rw [HT.out, List.length_append, HE.out] at hlt
      have hul : (ups (rnA l k)).length = ((rnA l k).2 - (rnA l k).1 + 1).toNat := by simp [ups]
      rw [hul] at hlt
      have HU := hidMk (show ups (rnA l k) = (List.range ((rnA l k).2 - (rnA l k).1 + 1).toNat).map (fun i => (rnA l k).1 + (i : Nat)) from rfl)
      clear hcs c1 c2 hkg hul
      generalize rnA l k = r at *
      obtain ⟨x, y⟩ := r
      simp only at hb hlt d1 d2 HU
      have HO := hidMk hO
      have hsz : w.heap.size + 1 ≤ wr.heap.size := by have := hk.size; simpa using this
      clear hO hk
      generalize expd (l.take k) = acc at *
      obtain ⟨n, hn⟩ : ∃ n : Nat, (y - x + 1).toNat = n := ⟨_, rfl⟩
      have hyx : y - x + 1 = (n : Int) := by omega
      rw [hn] at hlt HU
      have hw1 : IntKind.i64.wrap (y - x) = y - x := by rw [IntKind.wrap_i64]; omega
      have hw2 : IntKind.i64.wrap (y - x + 1) = (n : Int) := by rw [IntKind.wrap_i64]; omega
      clear hn
      go_wp2_with fail
      generalize hNN : wr.heap.size = N
      have HNE := hidMk (show ∀ g, u3.ownBlock = some g → g ≠ N from fun g hg => by have := (HO.out.lt g hg).2; omega)
      go_loopg [3, 20] n (fun g v q wi => ∃ i : Nat, i + g = n ∧ q = .int .i64 i ∧ OwnI wi (w.heap.size + 1) v (acc ++ (List.range i).map (fun i => x + (i : Nat))) ∧ Kept (w.alloc (.cells #[.slice (some ⟨b, o, none⟩) l.length c] 55)) wi ∧ wi.cell? ⟨N, 0, none⟩ = some (.int .i64 x) ∧ Hid (∀ g, v.ownBlock = some g → g ≠ N))
      case atStart => exact ⟨0, by omega, rfl, by simpa using HO.out.kept' ((Kept.refl wr).alloc _), HK.out.alloc _, by subst hNN; simp, HNE⟩
      case round =>
        obtain ⟨i, hig, rfl, hOi, hki, n0, HNI⟩ := hrel
        obtain ⟨gj, hgj⟩ : ∃ gj, gj = gk := ⟨_, rfl⟩
        subst hgj
        have HIG := hidMk hig
        have HKI := hidMk hki
        have HOI := hidMk hOi
        have hszi : w.heap.size + 1 ≤ wr.heap.size := by have := hki.size; simpa using this
        have hrw : N < wr.heap.size := cell_lt n0
        by_cases hin : i < n
        · have HUS := hidMk (ups_succ x i)
          have hla : (acc ++ (List.range i).map (fun i => x + (i : Nat))).length = acc.length + i := by simp
          obtain ⟨da, dc, rfl, _⟩ := hOi.sl (by rw [hla]; unfold maxLen; omega)
          have hxi : IntKind.i64.wrap (x + (i : Int)) = x + (i : Int) := by rw [IntKind.wrap_i64]; omega
          have HAPP := hidMk (show acc ++ (List.range (i + 1)).map (fun i => x + (i : Nat)) = acc ++ (List.range i).map (fun i => x + (i : Nat)) ++ [x + (i : Int)] by rw [HUS.out, List.append_assoc])
          have HLA := hidMk hla
          clear hOi hki hig hla
          generalize acc ++ (List.range i).map (fun i => x + (i : Nat)) = acc2 at *
          have n0' := fun o => ((Kept.refl wr).alloc o).cellp n0
          go_wp2_with (at_builtin; refine wpList_pushI _ (by rfl) _ _ (by rfl) (w.heap.size + 1) (.slice da acc2.length dc) acc2 (by rfl) (HOI.out.kept' ((Kept.refl _).alloc _)) (by simp; omega) wr.heap.size (x + (i : Int)) (by rfl) (by simp) (by have := HLA.out; omega) (wr.heap.size + 1) (by simp) ?_; intro g4 cap4 w4 o4 k4 a4 l4; have H4 := hidMk o4; have K4 := hidMk (Chg.kept (HKI.out.alloc _) k4 (fun j hj => by have := (HOI.out.lt j hj).1; simp; omega)); have n4 := k4.cellp (n0' _) (fun e => HNI.out _ e rfl); have HN4 := hidMk (show ∀ g, (Value.slice (some ⟨g4, 0, none⟩) (acc2.length + 1) cap4).ownBlock = some g → g ≠ N from fun g hg => by (simp only [Value.ownBlock, Option.some.injEq] at hg; subst hg; rcases a4 with a4 | a4; exact HNI.out _ a4; omega)); clear o4 k4 a4 l4)
          go_roundg (gj - 1)
          case measure => have := HIG.out; omega
          case rel => exact ⟨i + 1, by have := HIG.out; omega, by go_num, by rw [HAPP.out]; exact H4.out, K4.out, n4, HN4⟩
        · have hin2 : i = n := by omega
          subst hin2
          have hkk : ¬ ((i : Int) < (i : Int)) := by omega
          clear hOi hki hig
          go_wp2_with fail
          go_roundg (gi - 1)
          case measure => have := HKG.out; omega
          case rel => exact ⟨k + 1, by have := HKG.out; omega, by go_num, by rw [HT.out, HU.out]; exact HOI.out, HKI.out⟩
    · have htk : l.take k = l := List.take_of_length_le (by omega)
      rw [htk, HE.out] at hO
      have hkk : ¬ ((k : Int) < (l.length : Int)) := by omega
      obtain ⟨sa, sc, rfl, hsl⟩ := hO.sl (by unfold maxLen; omega)
      have HSL := hidMk hsl
      have HFR := hidMk (show ∀ ad, sa = some ad → w.heap.size ≤ ad.block from fun ad e => by have := ownI_frL hO ad e; omega)
      clear hk hkg hO htk hsl
      go_wp2_with fail
      go_ret
      exact ⟨sa, sc, rfl, HSL.out, HFR.out, ((Kept.refl w).alloc _).trans HK.out⟩
def FgQ (ms : List ByteArray) (ds : List Dm) (hl : List Pk) (u : ByteArray) (v : Value) (w : World) : Prop := ∃ m, SetIs w v m ∧ Norm m ∧ (∀ x, inRg m x ↔ forP ms ds (hl.map lkOf) u x) ∧ m.length ≤ 40000
def AlJ (r : Nat) (L : List Int) (a : Option Addr) (w : World) : Prop := Sl .i64 w a L.length L ∧ ∀ ad, a = some ad → ad.block ≠ r
section
variable {W0 y : World} {r q : Nat} {ds : List Dm} {ms : List ByteArray} {pp : Option (Nat × Nat)} {hb : Nat} {ha : Option Addr} {hc : Nat} {hl : List Pk} {la : Option Addr} {lc : Nat} {rt : Nat → Nat} {s p : Nat} {tp : Nat → Nat} {rv : Nat → Option Addr × Nat} {x : Cl} {u : ByteArray} {N : Nat} {n : Int}
theorem jz_Owner (hS : SW W0 s p ds ms tp rv) (h : Jz W0 r q ds ms hb ha hc hl la y) : Calls Tryz.prog 34 #[.agg #[.slice ha hl.length hc], .pointer (some ⟨s, 0, none⟩), .int .i64 n] y fun e w' => e = .returned (.string (ownI ms ds n (hl.map lkOf))) ∧ Jz W0 r q ds ms hb ha hc hl la w' := by
  obtain ⟨pp, g⟩ := h
  refine (lock_Owner (hS.keep g.rq.kp) ha hc hl n g.lp.pq (by have := g.lp.ld.sm; omega)).mono ?_
  rintro e w' ⟨rfl, k⟩
  exact ⟨rfl, pp, g.keep k⟩
theorem jz_ROwner (hE : RE W0 r q ds ms rt) (h : Jz W0 r q ds ms hb ha hc hl la y) : Calls Tryz.prog 35 #[.pointer (some ⟨r, 0, none⟩), .slice la hl.length lc, .int .i64 n] y fun e w' => e = .returned (.string (ownI ms ds n (hl.map lkOf))) ∧ Jz W0 r q ds ms hb ha hc hl la w' := by
  obtain ⟨pp, g⟩ := h
  have h0 := ref14_Owner hE g.rq la lc (hl.map lkOf) n g.lq (by have := g.lp.ld.sm; simp; omega) (fun ad e => by have := g.bl ad e; have := g.hr; omega)
  rw [List.length_map] at h0
  refine h0.mono ?_
  rintro e w' ⟨rfl, k⟩
  exact ⟨rfl, g.rr k⟩
theorem jz_Leaves (hE : RE W0 r q ds ms rt) (hN : (N : Int) = mulK (fun k => leas ds k) ms.length 4) (h : Jz W0 r q ds ms hb ha hc hl la y) : Calls Tryz.prog 33 #[.pointer (some ⟨r, 0, none⟩)] y fun e w' => e = .returned (.int .i64 (N : Int)) ∧ Jz W0 r q ds ms hb ha hc hl la w' := by
  obtain ⟨pp, g⟩ := h
  refine (r7_Leaves hE g.rq).mono ?_
  rintro e w' ⟨rfl, ⟨B, H, h1, h2⟩, c⟩
  exact ⟨by rw [hN], some (B, H), g.rr' h1 h2 c⟩
theorem jz_Within (hS : SW W0 s p ds ms tp rv) (h : Jz W0 r q ds ms hb ha hc hl la y) : Calls Tryz.prog 36 #[.agg #[.slice ha hl.length hc], .pointer (some ⟨s, 0, none⟩), clV x, .string u] y fun e w' => e = .returned (.bool ((hl.map lkOf).any fun z => wiP ms ds x u z)) ∧ Jz W0 r q ds ms hb ha hc hl la w' := by
  obtain ⟨pp, g⟩ := h
  refine (lock_Within (hS.keep g.rq.kp) ha hc hl x u g.lp.pq (by have := g.lp.ld.sm; omega)).mono ?_
  rintro e w' ⟨rfl, k⟩
  exact ⟨rfl, pp, g.keep k⟩
theorem jz_RWithin (hE : RE W0 r q ds ms rt) (h : Jz W0 r q ds ms hb ha hc hl la y) : Calls Tryz.prog 37 #[.pointer (some ⟨r, 0, none⟩), .slice la hl.length lc, clV x, .string u] y fun e w' => e = .returned (.bool ((hl.map lkOf).any fun z => wiP ms ds x u z)) ∧ Jz W0 r q ds ms hb ha hc hl la w' := by
  obtain ⟨pp, g⟩ := h
  have h0 := ref14_Within hE g.rq la lc (hl.map lkOf) x u g.lq (by have := g.lp.ld.sm; simp; omega) (fun ad e => by have := g.bl ad e; have := g.hr; omega)
  rw [List.length_map] at h0
  refine h0.mono ?_
  rintro e w' ⟨rfl, k⟩
  exact ⟨rfl, g.rr k⟩
theorem jz_Foreign (hS : SW W0 s p ds ms tp rv) (sm : Sm13 ds ms.length) (h : Jz W0 r q ds ms hb ha hc hl la y) : Calls Tryz.prog 38 #[.agg #[.slice ha hl.length hc], .pointer (some ⟨s, 0, none⟩), .string u] y fun e w' => (∃ a n c, e = .returned (.agg #[.slice a n c]) ∧ FgQ ms ds hl u (.agg #[.slice a n c]) w') ∧ Jz W0 r q ds ms hb ha hc hl la w' := by
  obtain ⟨pp, g⟩ := h
  refine (lock_Foreign (hS.keep g.rq.kp) ha hc hl u g.lp.pq (by have := g.lp.ld.sm; omega) (und_few hS.ct sm)).mono ?_
  rintro e w' ⟨v', m, rfl, hs, h1, h2, h3, k, _⟩
  obtain ⟨a, c, rfl, h4⟩ := hs
  exact ⟨⟨a, _, c, rfl, m, ⟨a, c, rfl, h4⟩, h1, h2, h3⟩, pp, g.keep k⟩
theorem jz_All (hct : Ct ds ms) (hN : (N : Int) = mulK (fun k => leas ds k) ms.length 4) (hN6 : N ≤ 1000) {v : Value} (hv : FgQ ms ds hl u v y) (h : Jz W0 r q ds ms hb ha hc hl la y) : Calls Tryz.prog 22 #[v] y fun e w' => (∃ a c, e = .returned (.slice a (foK ms ds (hl.map lkOf) u N).length c) ∧ AlJ r (foK ms ds (hl.map lkOf) u N) a w') ∧ Jz W0 r q ds ms hb ha hc hl la w' := by
  obtain ⟨pp, g⟩ := h
  obtain ⟨m, h1, h2, h3, h4⟩ := hv
  have e1 := expd_foK hct g.lp.ld u hN h2 h3
  have e2 := foK_len ms ds (hl.map lkOf) u N
  refine (region_AllJ v m y h1 h2 (by rw [e1]; omega) (by omega)).mono ?_
  rw [e1]
  rintro e w' ⟨a, c, rfl, hs, hf, k⟩
  exact ⟨⟨a, c, rfl, hs, fun ad e => by have := hf ad e; have := g.lt; have := g.hr; omega⟩, pp, g.keep k⟩
theorem jz_RForeign (hE : RE W0 r q ds ms rt) (hN : (N : Int) = mulK (fun k => leas ds k) ms.length 4) (hN6 : N ≤ 1000) {a : Option Addr} (hv : AlJ r (foK ms ds (hl.map lkOf) u N) a y) (h : Jz W0 r q ds ms hb ha hc hl la y) : Calls Tryz.prog 39 #[.pointer (some ⟨r, 0, none⟩), .slice la hl.length lc, .string u] y fun e w' => (∃ va vc, e = .returned (.agg #[.slice va (foK ms ds (hl.map lkOf) u N).length vc]) ∧ Sl .i64 w' va (foK ms ds (hl.map lkOf) u N).length (foK ms ds (hl.map lkOf) u N) ∧ AlJ r (foK ms ds (hl.map lkOf) u N) a w') ∧ Jz W0 r q ds ms hb ha hc hl la w' := by
  obtain ⟨pp, g⟩ := h
  have h0 := ref14_Foreign hE g.rq la lc (hl.map lkOf) u g.lq (by have := g.lp.ld.sm; simp; omega) (fun ad e => by have := g.bl ad e; have := g.hr; omega) N hN hN6
  rw [List.length_map] at h0
  refine h0.mono ?_
  rintro e w' ⟨⟨va, vc, rfl, hs, _⟩, k⟩
  exact ⟨⟨va, vc, rfl, hs, hv.1.chg k.2 (fun _ ad e f => hv.2 ad e f), hv.2⟩, g.rr k⟩
theorem jz_Ints {L : List Int} {a b : Option Addr} {c d : Nat} (ha' : AlJ r L a y) (hb' : Sl .i64 y b L.length L) (h : Jz W0 r q ds ms hb ha hc hl la y) : Calls Tryz.prog 20 #[.slice a L.length c, .slice b L.length d] y fun e w' => e = .returned (.bool true) ∧ Jz W0 r q ds ms hb ha hc hl la w' := by
  refine (ref_Ints a b L.length L.length c d L L y ha'.1 hb').mono ?_
  rintro e w' ⟨rfl, k⟩
  exact ⟨by simp, h.keep k⟩
theorem jz_Same (h : Jz W0 r q ds ms hb ha hc hl la y) : Calls Tryz.prog 40 #[.agg #[.slice ha hl.length hc], .agg #[.slice ha hl.length hc]] y fun e w' => e = .returned (.bool true) ∧ Jz W0 r q ds ms hb ha hc hl la w' := by
  obtain ⟨pp, g⟩ := h
  refine (lock_Same ha ha hc hc hl hl y g.lp.pq g.lp.pq (by have := g.lp.ld.sm; omega) (by have := g.lp.ld.sm; omega)).mono ?_
  rintro e w' ⟨rfl, k⟩
  exact ⟨by simp, pp, g.keep k⟩
theorem jz_known (h : Jz W0 r q ds ms hb ha hc hl la y) : Calls Tryz.prog 26 #[] y fun e w' => e = .returned (.bool true) ∧ Jz W0 r q ds ms hb ha hc hl la w' := by
  refine (law14_known y).mono ?_
  rintro e w' ⟨rfl, k⟩
  exact ⟨rfl, h.keep k⟩
end
end Go.Proofs.YtmedgkccicbieaaGreat
