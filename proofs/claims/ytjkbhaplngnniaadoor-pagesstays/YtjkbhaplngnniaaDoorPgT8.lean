/- The state of a play; what Keep and Drop make of the counts. -/
import Derived.Test.YtjkbhaplngnniaaDoorPgT7
import Derived.Test.YtjkbhaplngnniaaDoorPg15
namespace Go.Proofs.YtjkbhaplngnniaaDoor
open Go.RowKit Go.Maps
set_option linter.unusedSimpArgs false
set_option linter.unusedVariables false

theorem tL_set : ∀ (l : List (Int × Int)) (k : Nat) (c : Int), k < l.length → (tL l).set (k * 3 + 2) (.int .i64 c) = tL (l.set k ((l.getD k (0, 0)).1, c)) := by
  intro l
  induction l with
  | nil => intro k c h; simp at h
  | cons e r ih =>
    intro k c h
    cases k with
    | zero => rfl
    | succ k =>
      have := ih k c (by simpa using h)
      rw [show (k + 1) * 3 + 2 = k * 3 + 2 + 1 + 1 + 1 by omega]
      show .int .i64 e.1 :: .int .i64 e.1 :: .int .i64 e.2 :: (tL r).set (k * 3 + 2) (.int .i64 c) = .int .i64 e.1 :: .int .i64 e.1 :: .int .i64 e.2 :: tL (r.set k ((r.getD k (0, 0)).1, c))
      rw [this]
/-- Once more. -/
theorem PInv.keepZ {n : Nat} {rf : Int → Nat} {nd : Int → ANd} {T T' lev : Int → Nat} {L : Nat} (h : PInv n rf nd T lev L) {x : Int} (hx : x = 0 ∨ rf x ≠ 0) (hT : ∀ i, i ≠ 0 → T' i = T i + if x = i then 1 else 0) : PInv n (KeepZ rf x) nd T' lev L := by
  unfold KeepZ KeepR
  by_cases h0 : x = 0
  · rw [if_pos h0]
    refine ⟨h.ok, h.kok, fun i hi => ?_, h.shp⟩
    rw [hT i hi, if_neg (fun e => hi (by rw [← e]; exact h0))]
    exact h.cnt i hi
  · have hz := hx.resolve_left h0
    rw [if_neg h0, if_neg hz]
    have hl : ∀ i, setR rf x (rf x + 1) i = 0 ↔ rf i = 0 := fun i => by
      unfold setR; split
      · next e => subst e; omega
      · exact Iff.rfl
    refine ⟨fun i hi => (hl i).2 (h.ok i hi), h.kok, fun i hi => ?_, fun i hi => h.shp i (fun e => hi ((hl i).2 e))⟩
    have e1 : cntK (kdA nd) (setR rf x (rf x + 1)) i n = cntK (kdA nd) rf i n := cntK_congr _ (fun j _ _ => ⟨hl j, fun _ => rfl⟩)
    rw [e1, hT i hi]
    have := h.cnt i hi
    unfold setR
    by_cases e : i = x
    · subst e; rw [if_pos rfl, if_pos rfl]; omega
    · rw [if_neg e, if_neg (fun e' => e e'.symm)]; omega
/-- Once less. -/
theorem PInv.dropZ {n : Nat} {rf r : Int → Nat} {nd : Int → ANd} {T T' lev : Int → Nat} {L : Nat} (h : PInv n rf nd T lev L) {x : Int} (hd : DropZ nd rf x r) (hT : ∀ i, i ≠ 0 → T i = T' i + if x = i then 1 else 0) : PInv n r nd T' lev L ∧ ∀ i, r i ≤ rf i := by
  have hle : ∀ i, r i ≤ rf i := fun i => by
    rcases hd with ⟨_, e1⟩ | ⟨_, K, hK⟩
    · rw [e1]; exact Nat.le_refl _
    · exact drops_le K hK i
  refine ⟨⟨fun i hi => by have := hle i; have := h.ok i hi; omega, h.kok, fun i hi => ?_, fun i hi => h.shp i (fun e => hi (by have := hle i; omega))⟩, hle⟩
  have hc := h.cnt i hi
  have ht := hT i hi
  rcases hd with ⟨e0, e1⟩ | ⟨e0, K, hK⟩
  · rw [e0, if_neg (fun e => hi e.symm)] at ht
    rw [e1]; omega
  · refine drops_cnt K hK h.ok ?_
    rw [hc, ht]
    by_cases e1 : x = i
    · rw [if_pos e1, e1]; simp; omega
    · rw [if_neg e1]
      have : [x].count i = 0 := List.count_eq_zero.2 (by simpa using fun e => e1 e.symm)
      omega
/-- Both sides come to the same counts. -/
theorem drop_both {n n2 : Nat} {rf r r2 : Int → Nat} {nd nd2 : Int → ANd} {T T' lev : Int → Nat} {L : Nat} (h : PInv n rf nd T lev L) (hn : ∀ i, rf i ≠ 0 → nd2 i = nd i) (ok2 : RfOk n2 rf) (kok2 : ∀ i, (nd2 i).kids.length = 8 ∧ (nd2 i).vals.length = 8) {x : Int} (hd : DropZ nd rf x r) (hd2 : DropZ nd2 rf x r2) (hT : ∀ i, i ≠ 0 → T i = T' i + if x = i then 1 else 0) : r2 = r := by
  obtain ⟨a, ale⟩ := h.dropZ hd hT
  obtain ⟨b, ble⟩ := (h.transfer hn ok2 kok2).dropZ hd2 hT
  exact cnt_unique (T := T') (lev := lev) (lev0 := lev) (L := L) b.ok a.ok b.cnt a.cnt b.levOk a.levOk (fun _ _ => rfl) (fun i hi => hn i (fun e => hi (by have := ale i; omega)))
/-- The state of a play. -/
structure JS (w0 W : World) (t g p q tb cap : Nat) (codes room : Int) (l : List (Int × Int)) (n : Nat) (rf : Int → Nat) (nd : Int → ANd) (n2 : Nat) (nd2 : Int → ANd) (M : Nat) (lev : Int → Nat) : Prop where
  ba : BA w0 W p q (fun j => j = g ∨ j = t ∨ j = tb) room n rf nd M n2 rf nd2 M
  sm : ∀ i, rf i ≠ 0 → nd2 i = nd i
  iv : PInv n rf nd (tC l) lev (lvls codes)
  pg : PG W g p codes
  pl : PlayM W t g q codes (.slice (some ⟨tb, 0, none⟩) l.length cap)
  ow : W.ownsRow w0.heap.size 49 3 (.slice (some ⟨tb, 0, none⟩) l.length cap) l.length (tL l)
  d1 : t ≠ tb
  d2 : t ≠ g
  d3 : g ≠ tb
  rt : ∀ k, k < l.length → 0 < (l.getD k (0, 0)).2 → RootOk rf lev (lvls codes) (l.getD k (0, 0)).1
  nn : ∀ k, 0 ≤ (l.getD k (0, 0)).2
  fs : 1 ≤ l.length ∧ (l.getD 0 (0, 0)).1 = 0 ∧ 0 < (l.getD 0 (0, 0)).2
  cp : (usd rf n : Int) ≤ room
  hz : ∀ k, k < l.length → 0 < (l.getD k (0, 0)).2 → ∀ o : Nat, codes ≤ (o : Int) → o < 8 ^ lvls codes → entL nd (lvls codes) (l.getD k (0, 0)).1 o = (0, false)
section
variable {w0 W : World} {t g p q tb cap : Nat} {codes room : Int} {l : List (Int × Int)} {n : Nat} {rf : Int → Nat} {nd : Int → ANd} {n2 : Nat} {nd2 : Int → ANd} {M : Nat} {lev : Int → Nat}
theorem JS.cells (h : JS w0 W t g p q tb cap codes room l n rf nd n2 nd2 M lev) {k : Nat} (hk : k < l.length) : W.cell? ⟨tb, k * 3, none⟩ = some (.int .i64 (l.getD k (0, 0)).1) ∧ W.cell? ⟨tb, k * 3 + 1, none⟩ = some (.int .i64 (l.getD k (0, 0)).1) ∧ W.cell? ⟨tb, k * 3 + 2, none⟩ = some (.int .i64 (l.getD k (0, 0)).2) := by
  have hl := tL_len l
  obtain ⟨a, b, c⟩ := tL_get l k hk
  exact ⟨by rw [h.ow.cellAt (k * 3) (by omega)]; exact a, by rw [h.ow.cellAt (k * 3 + 1) (by omega)]; exact b, by rw [h.ow.cellAt (k * 3 + 2) (by omega)]; exact c⟩
theorem JS.keep (h : JS w0 W t g p q tb cap codes room l n rf nd n2 nd2 M lev) {Y : World} (k : Kept W Y) : JS w0 Y t g p q tb cap codes room l n rf nd n2 nd2 M lev := by
  have hlt := h.ba.flt
  have ht := hlt t (.inr (.inl rfl))
  have htb := hlt tb (.inr (.inr rfl))
  refine ⟨h.ba.keep k, h.sm, h.iv, h.pg.kept k, ⟨k.cellp h.pl.c0, k.cellp h.pl.c1, k.cellp h.pl.c2, k.cellp h.pl.c3, k.cellp h.pl.c4, fun j => (k.frozen (p := ⟨t, j, none⟩) ht).trans (h.pl.fz j)⟩, ?_, h.d1, h.d2, h.d3, h.rt, h.nn, h.fs, h.cp, h.hz⟩
  obtain ⟨h0, ⟨h1, _⟩ | ⟨b, cp, cur, hv, hb', hh, r⟩⟩ := h.ow
  · cases h1
  · cases hv
    exact ⟨h0, .inr ⟨tb, _, cur, rfl, hb', by rw [k.block tb htb]; exact hh, r⟩⟩
theorem js_pick (h : JS w0 W t g p q tb cap codes room l n rf nd n2 nd2 M lev) (hl : l.length ≤ 60) (i : Int) : Calls Tryd.prog 20 #[.pointer (some ⟨t, 0, none⟩), .int .i64 i] W (PickP W l.length (fun k => (l.getD k (0, 0)).2)) :=
  l10_pick h.pl h.fs.1 hl (fun i hi => (h.cells hi).2.2) h.fs.2.2 i
end
end Go.Proofs.YtjkbhaplngnniaaDoor
