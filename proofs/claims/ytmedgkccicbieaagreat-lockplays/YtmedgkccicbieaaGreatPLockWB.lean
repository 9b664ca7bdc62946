/- Acts of users that came in, as the frame reads them. · moietylaw14: locks in a block of the caller's. · Who has locked a leaf. -/
import Derived.Test.YtmedgkccicbieaaGreatPLaw14K
import Derived.Test.YtmedgkccicbieaaGreatPCellsFr
namespace Go.Proofs.YtmedgkccicbieaaGreat
open Go.RowKit Go.Maps
set_option linter.unusedSimpArgs false
set_option linter.unusedVariables false

abbrev Au := Cl × ByteArray × Bool
def auF (x : Au) : List Value := clF x.1 ++ [.string x.2.1, .bool x.2.2]
def auA (l : List Au) (i : Nat) : Au := l.getD i ((0, 0, 0, 0, 0), ByteArray.empty, false)
structure Uq (w : World) (a : Option Addr) (n : Nat) (l : List Au) : Prop where
  len : l.length = n
  big : n ≤ maxLen
  sz : ∀ i, i < l.length → (auA l i).2.1.size ≤ maxLen
  cells : 0 < l.length → ∃ b o, a = some ⟨b, o, none⟩ ∧ b < w.heap.size ∧ ∀ i, i < l.length → ∀ t, t < 7 → ∀ u, (auF (auA l i))[t]? = some u → w.cell? ⟨b, o + i * 7 + t, none⟩ = some u
theorem Uq.kept {w w' : World} {a : Option Addr} {n : Nat} {l : List Au} (h : Uq w a n l) (g : Kept w w') : Uq w' a n l :=
  ⟨h.len, h.big, h.sz, fun hp => by
    obtain ⟨c, o, h1, h2, h3⟩ := h.cells hp
    exact ⟨c, o, h1, Nat.lt_of_lt_of_le h2 g.size, fun i hi t ht u hu => g.cellp (h3 i hi t ht u hu)⟩⟩
theorem Uq.at {w : World} {b o n : Nat} {l : List Au} (h : Uq w (some ⟨b, o, none⟩) n l) {i : Nat} (hi : i < l.length) : b < w.heap.size ∧ w.cell? ⟨b, o + i * 7, none⟩ = some (.int .i64 (auA l i).1.1) ∧ w.cell? ⟨b, o + i * 7 + 1, none⟩ = some (.int .i64 (auA l i).1.2.1) ∧ w.cell? ⟨b, o + i * 7 + 2, none⟩ = some (.int .i64 (auA l i).1.2.2.1) ∧ w.cell? ⟨b, o + i * 7 + 3, none⟩ = some (.int .i64 (auA l i).1.2.2.2.1) ∧ w.cell? ⟨b, o + i * 7 + 4, none⟩ = some (.int .i64 (auA l i).1.2.2.2.2) ∧ w.cell? ⟨b, o + i * 7 + 5, none⟩ = some (.string (auA l i).2.1) ∧ w.cell? ⟨b, o + i * 7 + 6, none⟩ = some (.bool (auA l i).2.2) := by
  obtain ⟨b', o', e, hl, h3⟩ := h.cells (by omega)
  cases e
  exact ⟨hl, h3 i hi 0 (by omega) _ rfl, h3 i hi 1 (by omega) _ rfl, h3 i hi 2 (by omega) _ rfl, h3 i hi 3 (by omega) _ rfl, h3 i hi 4 (by omega) _ rfl, h3 i hi 5 (by omega) _ rfl, h3 i hi 6 (by omega) _ rfl⟩
theorem Uq.form {w : World} {a : Option Addr} {n : Nat} {l : List Au} (h : Uq w a n l) (hp : 0 < l.length) : ∃ b o, a = some ⟨b, o, none⟩ := by
  obtain ⟨b, o, e, _⟩ := h.cells hp
  exact ⟨b, o, e⟩
section
variable {H : Type} {enc : TypeId × Value → H} {w : World} {base : Nat} {spare : Nat → Bool} {held : Bool} {fuel : Nat} {x : DataW H × List MemPlace}
theorem au_sz : Tryz.prog.cellsOf 69 = 7 := by kernel_rfl
set_option maxRecDepth 100000 in
theorem au_cells {cs : List Value} (hl : cs.length = 7) (h : DataW.trod enc Tryz.prog w base spare held fuel 69 cs = some x) : ∃ y : Au, cs = auF y ∧ y.2.1.size ≤ maxLen := by
  obtain ⟨c0, c1, c2, c3, c4, c5, c6, rfl⟩ : ∃ c0 c1 c2 c3 c4 c5 c6, cs = [c0, c1, c2, c3, c4, c5, c6] := by
    match cs, hl with
    | [a, b, c, d, e, f, g], _ => exact ⟨a, b, c, d, e, f, g, rfl⟩
  obtain ⟨y0, y1, y2, n, _, _, g0, g1, g2⟩ := Go.Deep.trod_struct3 Tryz.underlying69 h
  replace g0 : DataW.trod enc Tryz.prog w base spare held n 29 [c0, c1, c2, c3, c4] = some y0 := g0
  replace g1 : DataW.trod enc Tryz.prog w base spare held n 9 [c5] = some y1 := g1
  replace g2 : DataW.trod enc Tryz.prog w base spare held n 4 [c6] = some y2 := g2
  obtain ⟨y, e0⟩ := cl_cells rfl g0
  obtain ⟨s1, e1, _, hz⟩ := DataW.trod_string Tryz.underlying9 g1
  obtain ⟨i1, e2, _⟩ := DataW.trod_bool Tryz.underlying4 g2
  simp only [List.cons.injEq, and_true] at e1 e2
  subst e1 e2
  exact ⟨(y, s1, i1), by rw [show [c0, c1, c2, c3, c4, Value.string s1, Value.bool i1] = [c0, c1, c2, c3, c4] ++ [.string s1, .bool i1] from rfl, e0]; rfl, hz⟩
theorem acts_openU {a : Option Addr} {n c : Nat} (h : DataW.trod enc Tryz.prog w base spare held fuel 63 [.slice a n c] = some x) : ∃ l : List Au, Uq w a n l := by
  rcases Go.Deep.open_slice Tryz.underlying63 h with ⟨hcs, _⟩ | ⟨ad, len, cap, m, k, D, Pl, hcs, _, hl, hm, hmm, _, hall⟩
  · simp at hcs
    obtain ⟨rfl, rfl, rfl⟩ := hcs
    exact ⟨[], rfl, Nat.zero_le _, fun i hi => absurd hi (by simp), fun hp => absurd hp (by simp)⟩
  · simp at hcs
    obtain ⟨rfl, rfl, rfl⟩ := hcs
    have hlm : n ≤ m := by rw [hmm]; split <;> omega
    have each : ∀ i, i < n → ∃ q : Au, w.cells? base (ad.add (i * 7)) 7 = some (auF q) ∧ q.2.1.size ≤ maxLen := fun i hi => by
      obtain ⟨cs', h1, h2⟩ := hall i (by omega)
      rw [au_sz] at h1
      obtain ⟨q, h4, h5⟩ := au_cells (World.cells?_some h1).2.1 h2
      exact ⟨q, by rw [← h4]; exact h1, h5⟩
    haveI : Inhabited Au := ⟨((0, 0, 0, 0, 0), ByteArray.empty, false)⟩
    obtain ⟨q, hq⟩ := Go.Deep.choose_lt each
    have hget : ∀ i, i < n → auA ((List.range n).map q) i = q i := fun i hi => by simp [auA, List.getD, hi]
    refine ⟨(List.range n).map q, by simp, by omega, fun i hi => (by rw [List.length_map, List.length_range] at hi; rw [hget i hi]; exact (hq i hi).2), fun hp => ?_⟩
    rw [List.length_map, List.length_range] at hp
    obtain ⟨b, off, spot⟩ := ad
    have h0 := (World.cells?_some (hq 0 hp).1).2.2 0 (by omega)
    have hspot : spot = none := by
      have : w.cell? (((⟨b, off, spot⟩ : Addr).add (0 * 7)).add 0) = some (.int .i64 (q 0).1.1) := h0
      simpa [Addr.add] using World.cell?_spot this
    subst hspot
    refine ⟨b, off, rfl, ?_, fun i hi t ht u hu => ?_⟩
    · have : w.cell? (((⟨b, off, none⟩ : Addr).add (0 * 7)).add 0) = some (.int .i64 (q 0).1.1) := h0
      exact cell_lt (p := ⟨b, off, none⟩) (by simpa [Addr.add] using this)
    · rw [List.length_map, List.length_range] at hi
      rw [hget i hi] at hu
      have := (World.cells?_some (hq i hi).1).2.2 t ht
      rw [hu, Go.WideShapes.add_plain, Go.WideShapes.add_plain] at this
      exact this
end

structure Lv (w0 w : World) (ms : List ByteArray) (ds : List Dm) (hb : Nat) (a : Option Addr) (c : Nat) (l : List Pk) : Prop where
  cell : w.cell? ⟨hb, 0, none⟩ = some (.slice a l.length c)
  fz : w.frozen? ⟨hb, 0, none⟩ = false
  lp : Lp w ms ds a c l
  ap : ∀ ad, a = some ad → ad.block ≠ hb
  kp : Kept w0 w
  nw : w0.heap.size ≤ hb
section
variable {w0 w : World} {ms : List ByteArray} {ds : List Dm} {hb : Nat} {a : Option Addr} {c : Nat} {l : List Pk}
theorem Lv.lt (h : Lv w0 w ms ds hb a c l) : hb < w.heap.size := cell_lt h.cell
theorem Lv.keep (h : Lv w0 w ms ds hb a c l) {w' : World} (k : Kept w w') : Lv w0 w' ms ds hb a c l :=
  ⟨k.cellp h.cell, (k.frozen (p := ⟨hb, 0, none⟩) h.lt).trans h.fz, h.lp.kept k, h.ap, h.kp.trans k, h.nw⟩
theorem Lv.set (h : Lv w0 w ms ds hb a c l) {a' : Option Addr} {c' : Nat} {l' : List Pk} {n : Nat} (hn : n = l'.length) (lp : Lp w ms ds a' c' l') (ap : ∀ ad, a' = some ad → ad.block ≠ hb) : Lv w0 (w.setCell ⟨hb, 0, none⟩ (.slice a' n c')) ms ds hb a' c' l' := by
  subst hn
  have k : Chg (· = hb) w (w.setCell ⟨hb, 0, none⟩ (.slice a' l'.length c')) := chg_set _ _ _ _
  exact ⟨World.cell?_setCell_same _ _ _ h.cell, by simpa using h.fz, lp.chg k (fun ad e f => ap ad e f), ap, k.kept h.kp (fun j e => by have := h.nw; omega), h.nw⟩
end
def LAddQ (w : World) (ms : List ByteArray) (ds : List Dm) (l : List Pk) (x : Cl) (u : ByteArray) (e : Ending) (w' : World) : Prop :=
  ∃ (a' : Option Addr) (n' c' : Nat) (r : Int), e = .returned (.tuple #[.agg #[.slice a' n' c'], .int .i64 r]) ∧ (r = laddE ms ds (l.map lkOf) x u ∧ ∃ l', n' = l'.length ∧ Lp w' ms ds a' c' l' ∧ (∀ y, y ∈ l' ↔ laddE ms ds (l.map lkOf) x u = 0 ∧ (y = (x, u, ixC ms ds x) ∨ y ∈ l)) ∧ (laddE ms ds (l.map lkOf) x u = 0 → l'.length = l.length + 1) ∧ ∀ ad, a' = some ad → w.heap.size ≤ ad.block) ∧ Kept w w'
def LDropQ (w : World) (ms : List ByteArray) (ds : List Dm) (l : List Pk) (x : Cl) (u : ByteArray) (e : Ending) (w' : World) : Prop :=
  ∃ (a' : Option Addr) (n' c' : Nat) (r : Int), e = .returned (.tuple #[.agg #[.slice a' n' c'], .int .i64 r]) ∧ (r = ldropE ms ds (l.map lkOf) x u ∧ ∃ l', n' = l'.length ∧ Lp w' ms ds a' c' l' ∧ (∀ y, y ∈ l' ↔ ldropE ms ds (l.map lkOf) x u = 0 ∧ y ∈ l ∧ y.1 ≠ x) ∧ ∀ ad, a' = some ad → w.heap.size ≤ ad.block) ∧ Kept w w'
section
variable {w : World} {s p : Nat} {ds : List Dm} {ms : List ByteArray} {tp : Nat → Nat} {rv : Nat → Option Addr × Nat}
theorem lp_AddQ (h : SW w s p ds ms tp rv) (sm : Sm13 ds ms.length) {a : Option Addr} {c : Nat} {l : List Pk} (hd : Lp w ms ds a c l) (x : Cl) (u : ByteArray) (huz : u.size ≤ maxLen) :
    Calls Tryz.prog 29 #[.agg #[.slice a l.length c], .pointer (some ⟨s, 0, none⟩), clV x, .string u] w (LAddQ w ms ds l x u) := by
  refine (lp_Add h (und_few h.ct sm) hd x u huz).mono ?_
  rintro e w' ⟨a', c', l', rfl, h1, h2, h3, h4, h5⟩
  exact ⟨a', _, c', _, rfl, ⟨rfl, l', rfl, h1, h2, h3, h5⟩, h4⟩
theorem lp_DropQ (h : SW w s p ds ms tp rv) {a : Option Addr} {c : Nat} {l : List Pk} (hd : Lp w ms ds a c l) (x : Cl) (u : ByteArray) (huz : u.size ≤ maxLen) :
    Calls Tryz.prog 27 #[.agg #[.slice a l.length c], .pointer (some ⟨s, 0, none⟩), clV x, .string u] w (LDropQ w ms ds l x u) := by
  refine (lp_Drop h hd x u huz).mono ?_
  rintro e w' ⟨a', c', l', rfl, h1, h2, h4, h5⟩
  exact ⟨a', _, c', _, rfl, ⟨rfl, l', rfl, h1, h2, h5⟩, h4⟩
end
theorem ladd_ask {ms : List ByteArray} {ds : List Dm} {L : List Lk} {x : Cl} {u : ByteArray} (h : laddE ms ds L x u = 0) : askE ms ds x u = 0 := by
  unfold laddE at h
  by_cases g : askE ms ds x u = 0
  · exact g
  · rw [if_neg g] at h; exact h

def WhoI (ms : List ByteArray) (ds : List Dm) (L : List Lk) (n : Int) (j : Nat) (who : ByteArray) : Prop := (who = ⟨#[]⟩ ∧ ∀ t, t < j → ¬ n ∈ undC ms ds (lkA L t).1) ∨ ∃ t, t < j ∧ n ∈ undC ms ds (lkA L t).1 ∧ who = (lkA L t).2
theorem one_lk {ms : List ByteArray} {ds : List Dm} {l : List Pk} (h : Ld ms ds l) : (∀ i, i < (l.map lkOf).length → ∀ j, j < (l.map lkOf).length → ∀ n, n ∈ undC ms ds (lkA (l.map lkOf) i).1 → n ∈ undC ms ds (lkA (l.map lkOf) j).1 → (lkA (l.map lkOf) i).2 = (lkA (l.map lkOf) j).2) ∧ True := by
  refine ⟨fun i hi j hj n h1 h2 => ?_, trivial⟩
  rw [List.length_map] at hi hj
  rw [lkA_map hi] at h1 ⊢
  rw [lkA_map hj] at h2 ⊢
  exact h.one (pkA l i) (by rw [pkA_get hi]; exact List.getElem_mem hi) (pkA l j) (by rw [pkA_get hj]; exact List.getElem_mem hj) n h1 h2
theorem who_own {ms : List ByteArray} {ds : List Dm} {L : List Lk} {n : Int} {who : ByteArray} (ho : ∀ i, i < L.length → ∀ j, j < L.length → ∀ n, n ∈ undC ms ds (lkA L i).1 → n ∈ undC ms ds (lkA L j).1 → (lkA L i).2 = (lkA L j).2) (h : WhoI ms ds L n L.length who) : ownI ms ds n L = who := by
  rcases h with ⟨e, h⟩ | ⟨t, ht, h1, h2⟩
  · rw [ownI_no h, e]; rfl
  · obtain ⟨k, hk, hkn, hmin⟩ : ∃ k, k < L.length ∧ n ∈ undC ms ds (lkA L k).1 ∧ ∀ t, t < k → ¬ n ∈ undC ms ds (lkA L t).1 := by
      have : ∀ m, m ≤ t → (∃ k, k < m ∧ n ∈ undC ms ds (lkA L k).1 ∧ ∀ t, t < k → ¬ n ∈ undC ms ds (lkA L t).1) ∨ ∀ s, s < m → ¬ n ∈ undC ms ds (lkA L s).1 := by
        intro m
        induction m with
        | zero => intro _; exact .inr fun s hs => absurd hs (by omega)
        | succ m ih =>
          intro hm
          rcases ih (by omega) with ⟨k, hk, g⟩ | g
          · exact .inl ⟨k, by omega, g⟩
          · by_cases c : n ∈ undC ms ds (lkA L m).1
            · exact .inl ⟨m, by omega, c, g⟩
            · refine .inr fun s hs => ?_
              by_cases e : s = m
              · subst e; exact c
              · exact g s (by omega)
      rcases this t (Nat.le_refl _) with ⟨k, hk, g⟩ | g
      · exact ⟨k, by omega, g⟩
      · exact ⟨t, ht, h1, g⟩
    rw [ownI_at hk hkn hmin, h2]
    exact ho k hk t ht n hkn h1
end Go.Proofs.YtmedgkccicbieaaGreat
