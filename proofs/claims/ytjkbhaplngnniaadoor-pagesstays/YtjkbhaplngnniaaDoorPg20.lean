/- moietylaw10: acts that came in, as the frame reads them. · moietylaw10: acts, one after another; what is left when all is dropped. -/
import Derived.Test.YtjkbhaplngnniaaDoorPg19
import Derived.Deep.Strs
import Derived.Deep.Slices
import Derived.OpenShut
import Derived.WideShapes
namespace Go.Proofs.YtjkbhaplngnniaaDoor
open Go.RowKit Go.WideShapes
set_option linter.unusedSimpArgs false
set_option linter.unusedVariables false

/-- An act. -/
structure AcP where
  kd : Int
  of : Int
  cd : Int
  v : Int
  hd : Bool
def AcP.L (x : AcP) : List Value := [.int .i64 x.kd, .int .i64 x.of, .int .i64 x.cd, .int .i64 x.v, .bool x.hd]
def AcsP (w : World) (a : Option Addr) (n : Nat) (f : Nat → AcP) : Prop :=
  n ≤ maxLen ∧ (0 < n → ∃ b off, a = some ⟨b, off, none⟩ ∧ b < w.heap.size ∧ ∀ i, i < n → w.rangeAt b (off + i * 5) (f i).L)
theorem acsP_at {w : World} {a : Option Addr} {n : Nat} {f : Nat → AcP} (h : AcsP w a n f) {k : Nat} (hk : k < n) : ∃ b off, a = some ⟨b, off, none⟩ ∧ w.rangeAt b (off + k * 5) (f k).L := by
  obtain ⟨h1, h3⟩ := h
  obtain ⟨b, off, e, _, h4⟩ := h3 (by omega)
  exact ⟨b, off, e, h4 k hk⟩
section
variable {H : Type} {enc : TypeId × Value → H} {w : World} {base : Nat} {spare : Nat → Bool} {held : Bool} {fuel : Nat} {x : DataW H × List MemPlace}
theorem acP_cells : Tryd.prog.cellsOf 41 = 5 := by kernel_rfl
theorem acE_cells : Tryd.prog.cellsOf 39 = 2 := by kernel_rfl
set_option maxRecDepth 100000 in
theorem actP_cells {cs : List Value} (h : DataW.trod enc Tryd.prog w base spare held fuel 41 cs = some x) : ∃ a : AcP, cs = a.L := by
  obtain ⟨xs, n, _, _, hl, hlen, hf⟩ := DataW.trod_struct Tryd.underlying41 h
  rw [acP_cells] at hl
  match cs, hl with
  | [c0, c1, c2, c3, c4], _ =>
    have hx5 : xs.length = 4 := hlen
    have g0 := hf 0 _ rfl
    have g1 := hf 1 _ rfl
    have g2 := hf 2 _ rfl
    have g3 := hf 3 _ rfl
    rw [List.getElem?_eq_getElem (by omega)] at g0 g1 g2 g3
    replace g0 : DataW.trod enc Tryd.prog w base spare held n 3 [c0] = some xs[0] := g0
    replace g1 : DataW.trod enc Tryd.prog w base spare held n 3 [c1] = some xs[1] := g1
    replace g2 : DataW.trod enc Tryd.prog w base spare held n 3 [c2] = some xs[2] := g2
    replace g3 : DataW.trod enc Tryd.prog w base spare held n 39 [c3, c4] = some xs[3] := g3
    obtain ⟨i0, e0, _⟩ := DataW.trod_int Tryd.underlying3 g0
    obtain ⟨i1, e1, _⟩ := DataW.trod_int Tryd.underlying3 g1
    obtain ⟨i2, e2, _⟩ := DataW.trod_int Tryd.underlying3 g2
    obtain ⟨ys, m, _, _, hl2, hlen2, hq⟩ := DataW.trod_struct Tryd.underlying39 g3
    have hy2 : ys.length = 2 := hlen2
    have q0 := hq 0 _ rfl
    have q1 := hq 1 _ rfl
    rw [List.getElem?_eq_getElem (by omega)] at q0 q1
    replace q0 : DataW.trod enc Tryd.prog w base spare held m 2 [c3] = some ys[0] := q0
    replace q1 : DataW.trod enc Tryd.prog w base spare held m 4 [c4] = some ys[1] := q1
    obtain ⟨i3, e3, _⟩ := DataW.trod_int Tryd.underlying2 q0
    obtain ⟨i4, e4, _⟩ := DataW.trod_bool Tryd.underlying4 q1
    simp only [List.cons.injEq, and_true] at e0 e1 e2 e3 e4
    subst e0 e1 e2 e3 e4
    exact ⟨⟨i0, i1, i2, i3, i4⟩, rfl⟩
theorem acts_openP {a : Option Addr} {n c : Nat} (h : DataW.trod enc Tryd.prog w base spare held fuel 34 [.slice a n c] = some x) : ∃ f, AcsP w a n f := by
  rcases Go.Deep.open_slice Tryd.underlying34 h with ⟨hcs, _⟩ | ⟨ad, len, cap, m, k, D, Pl, hcs, _, hl, hm, hmm, _, hall⟩
  · simp at hcs
    obtain ⟨rfl, rfl, rfl⟩ := hcs
    exact ⟨fun _ => ⟨0, 0, 0, 0, false⟩, Nat.zero_le _, fun hp => absurd hp (by omega)⟩
  · simp at hcs
    obtain ⟨rfl, rfl, rfl⟩ := hcs
    have hlm : n ≤ m := by rw [hmm]; split <;> omega
    have each : ∀ i, i < n → ∃ q : AcP, w.cells? base (ad.add (i * 5)) 5 = some q.L := fun i hi => by
      obtain ⟨cs', h1, h2⟩ := hall i (by omega)
      rw [acP_cells] at h1
      obtain ⟨q, h4⟩ := actP_cells h2
      exact ⟨q, by rw [← h4]; exact h1⟩
    haveI : Inhabited AcP := ⟨⟨0, 0, 0, 0, false⟩⟩
    obtain ⟨q, hq⟩ := Go.Deep.choose_lt each
    refine ⟨q, by omega, fun hp => ?_⟩
    obtain ⟨b, off, spot⟩ := ad
    have h0 := (World.cells?_some (hq 0 hp)).2.2 0 (by omega)
    have hspot : spot = none := by
      have : w.cell? (((⟨b, off, spot⟩ : Addr).add (0 * 5)).add 0) = some (.int .i64 (q 0).kd) := h0
      simpa [Addr.add] using World.cell?_spot this
    subst hspot
    refine ⟨b, off, rfl, ?_, fun i hi j v hv => ?_⟩
    · have : w.cell? (((⟨b, off, none⟩ : Addr).add (0 * 5)).add 0) = some (.int .i64 (q 0).kd) := h0
      exact cell_lt (p := ⟨b, off, none⟩) (by simpa [Addr.add] using this)
    · have hlen : (q i).L.length = 5 := rfl
      have hj : j < 5 := by have := (List.getElem?_eq_some_iff.1 hv).1; omega
      have := (World.cells?_some (hq i hi)).2.2 j hj
      rw [hv, Go.WideShapes.add_plain, Go.WideShapes.add_plain] at this
      exact this
end
end Go.Proofs.YtjkbhaplngnniaaDoor
namespace Go.Proofs.YtjkbhaplngnniaaDoor
open Go.RowKit Go.Maps
set_option linter.unusedSimpArgs false
set_option linter.unusedVariables false

section
variable {w0 W : World} {t g p q tb cap : Nat} {codes room : Int} {l : List (Int × Int)} {n : Nat} {rf : Int → Nat} {nd : Int → ANd} {n2 : Nat} {nd2 : Int → ANd} {M : Nat} {lev : Int → Nat}
theorem do_all (hV : Vars w0) (h : JS w0 W t g p q tb cap codes room l n rf nd n2 nd2 M lev) (hl : l.length ≤ 60) (hM : M + 60 ≤ 4611686018427387904) (C : Int) (hC : 0 ≤ C ∧ C ≤ 1000000) (hcs : ∀ k, (l.getD k (0, 0)).2 ≤ C) (x : AcP) :
    Calls Tryd.prog 17 #[.pointer (some ⟨t, 0, none⟩), .agg x.L.toArray] W (DoP w0 t g p q codes room l.length M C) := by
  by_cases h0 : x.kd.tmod 3 = 0
  · exact do_set hV h hl hM C hC hcs x.kd x.of x.cd x.v x.hd h0
  · by_cases h1 : x.kd.tmod 3 = 1
    · exact do_keep h hl hM C hC hcs x.kd x.of x.cd x.v x.hd h1
    · exact do_drop h hl hM C hC hcs x.kd x.of x.cd x.v x.hd h0 h1
/-- A play behind k acts. -/
def LP (w0 W : World) (t g p q : Nat) (codes room : Int) (k : Nat) : Prop :=
  ∃ tb cap l n rf nd n2 nd2 M lev, JS w0 W t g p q tb cap codes room l n rf nd n2 nd2 M lev ∧ l.length ≤ k + 1 ∧ M ≤ 60 * k ∧ ∀ j, (l.getD j (0, 0)).2 ≤ k + 1
theorem LP.keep {k : Nat} (h : LP w0 W t g p q codes room k) {Y : World} (kY : Kept W Y) : LP w0 Y t g p q codes room k := by
  obtain ⟨tb, cap, l, n, rf, nd, n2, nd2, M, lev, h1, h2⟩ := h
  exact ⟨tb, cap, l, n, rf, nd, n2, nd2, M, lev, h1.keep kY, h2⟩
theorem LP.kept {k : Nat} (h : LP w0 W t g p q codes room k) : Kept w0 W := by
  obtain ⟨tb, cap, l, n, rf, nd, n2, nd2, M, lev, h1, h2⟩ := h
  exact h1.ba.kept
theorem LP.cell0 {k : Nat} (h : LP w0 W t g p q codes room k) : W.cell? ⟨t, 0, none⟩ = some (.pointer (some ⟨g, 0, none⟩)) := by
  obtain ⟨tb, cap, l, n, rf, nd, n2, nd2, M, lev, h1, h2⟩ := h
  exact h1.pl.c0
theorem lp_do (hV : Vars w0) {k : Nat} (h : LP w0 W t g p q codes room k) (hk : k ≤ 50) (x : AcP) :
    Calls Tryd.prog 17 #[.pointer (some ⟨t, 0, none⟩), .agg x.L.toArray] W fun e w' => e = .returned (.bool true) ∧ LP w0 w' t g p q codes room (k + 1) := by
  obtain ⟨tb, cap, l, n, rf, nd, n2, nd2, M, lev, h1, h2, h3, h4⟩ := h
  refine (do_all hV h1 (by omega) (by omega) ((k : Int) + 1) (by omega) h4 x).mono ?_
  rintro e w' ⟨rfl, tb', cap', l', n', rf', nd', n2', nd2', M', lev', j1, j2, j3, j4⟩
  exact ⟨rfl, tb', cap', l', n', rf', nd', n2', nd2', M', lev', j1, by omega, by omega, fun j => by have := j4 j; push_cast; omega⟩
theorem lp_begin (h : BegP w0 room codes t g p q tb W) (hr : 1 ≤ room) : LP w0 W t g p q codes room 0 := by
  refine ⟨tb, 1, [(0, 1)], 0, fun _ => 0, fun _ => zNd, 0, fun _ => zNd, 0, fun _ => 0, ⟨h.ba, fun _ _ => rfl, ⟨h.ba.ok.1, h.ba.ok.2, fun i hi => ?_, fun i hi => absurd rfl hi⟩, h.pg, h.pl, h.ow, h.d1, h.d2, h.d3, fun k hk hp => ?_, fun k => ?_, ⟨by simp, rfl, by show (0 : Int) < 1; omega⟩, ?_, fun k hk hp o h1 h2 => ?_⟩, by simp, by omega, fun j => ?_⟩
  · show 0 = (if (0 : Int) = i then _ else 0) + 0 + _
    rw [if_neg (fun e => hi e.symm)]
    rfl
  · have : k = 0 := by simp at hk; omega
    subst this
    exact .inl rfl
  · match k with
    | 0 => show (0 : Int) ≤ 1; omega
    | k + 1 => exact Int.le_refl 0
  · show ((0 : Nat) : Int) ≤ room; omega
  · have : k = 0 := by simp at hk; omega
    subst this
    exact entL_zero _ _ _
  · match j with
    | 0 => show (1 : Int) ≤ _; omega
    | j + 1 => show (0 : Int) ≤ _; omega
/-- Only the program's trees are dropped. -/
structure ES (w0 W : World) (t g p q tb cap : Nat) (codes room : Int) (l : List (Int × Int)) (n : Nat) (rf : Int → Nat) (nd : Int → ANd) (n2 : Nat) (rf2 : Int → Nat) (nd2 : Int → ANd) (M : Nat) (lev : Int → Nat) : Prop where
  ba : BA w0 W p q (fun j => j = g ∨ j = t ∨ j = tb) room n rf nd M n2 rf2 nd2 M
  iv : PInv n rf nd (tC l) lev (lvls codes)
  pg : PG W g p codes
  pl : PlayM W t g q codes (.slice (some ⟨tb, 0, none⟩) l.length cap)
  ow : W.ownsRow w0.heap.size 49 3 (.slice (some ⟨tb, 0, none⟩) l.length cap) l.length (tL l)
  d1 : t ≠ tb
  d3 : g ≠ tb
  nn : ∀ k, 0 ≤ (l.getD k (0, 0)).2
  fs : (l.getD 0 (0, 0)).1 = 0
theorem JS.es (h : JS w0 W t g p q tb cap codes room l n rf nd n2 nd2 M lev) : ES w0 W t g p q tb cap codes room l n rf nd n2 rf nd2 M lev := ⟨h.ba, h.iv, h.pg, h.pl, h.ow, h.d1, h.d3, h.nn, h.fs.2.1⟩
end
section
variable {w0 W : World} {t g p q tb cap : Nat} {codes room : Int} {l : List (Int × Int)} {n : Nat} {rf : Int → Nat} {nd : Int → ANd} {n2 : Nat} {rf2 : Int → Nat} {nd2 : Int → ANd} {M : Nat} {lev : Int → Nat}
theorem ES.cells (h : ES w0 W t g p q tb cap codes room l n rf nd n2 rf2 nd2 M lev) {k : Nat} (hk : k < l.length) : W.cell? ⟨tb, k * 3, none⟩ = some (.int .i64 (l.getD k (0, 0)).1) ∧ W.cell? ⟨tb, k * 3 + 1, none⟩ = some (.int .i64 (l.getD k (0, 0)).1) ∧ W.cell? ⟨tb, k * 3 + 2, none⟩ = some (.int .i64 (l.getD k (0, 0)).2) := by
  have hl := tL_len l
  obtain ⟨a, b, c⟩ := tL_get l k hk
  exact ⟨by rw [h.ow.cellAt (k * 3) (by omega)]; exact a, by rw [h.ow.cellAt (k * 3 + 1) (by omega)]; exact b, by rw [h.ow.cellAt (k * 3 + 2) (by omega)]; exact c⟩
theorem ES.frozen (h : ES w0 W t g p q tb cap codes room l n rf nd n2 rf2 nd2 M lev) (o : Nat) : W.frozen? ⟨tb, o, none⟩ = false := by
  obtain ⟨_, ⟨h1, _⟩ | ⟨b, cp', cur, hv, hb', hh, r⟩⟩ := h.ow
  · cases h1
  · cases hv; simp [World.frozen?, hh]
theorem es_drop (h : ES w0 W t g p q tb cap codes room l n rf nd n2 rf2 nd2 M lev) {k : Nat} (hk : k < l.length) (hc : 0 < (l.getD k (0, 0)).2) {X : World} (kX : Kept W X) :
    ∃ r, Calls Tryd.prog 26 #[.pointer (some ⟨g, 0, none⟩), .int .i64 (l.getD k (0, 0)).1] X (fun e w' => e = .returned (.int .i64 0) ∧ BA w0 w' p q (fun j => j = g ∨ j = t ∨ j = tb) room n r nd M n2 rf2 nd2 M ∧ Fx (fun j => j = g ∨ j = t ∨ j = tb) W w') ∧ PInv n r nd (tC (l.set k ((l.getD k (0, 0)).1, (l.getD k (0, 0)).2 - 1))) lev (lvls codes) := by
  obtain ⟨x, hx⟩ : ∃ x, x = (l.getD k (0, 0)).1 := ⟨_, rfl⟩
  obtain ⟨cc, hcc⟩ : ∃ x, x = (l.getD k (0, 0)).2 := ⟨_, rfl⟩
  have hxr : x = 0 ∨ rf x ≠ 0 := by
    by_cases e : x = 0
    · exact .inl e
    · right
      have h1 := h.iv.cnt x e
      have h2 := tC_pos l k hk
      rw [← hx] at h2
      omega
  have hDZ : ∃ r, DropZ nd rf x r := by
    by_cases e : x = 0
    · exact ⟨rf, .inl ⟨e, rfl⟩⟩
    · obtain ⟨K, r, hr⟩ := drops_ex (kdA nd) (fun i => (h.iv.kok i).1) n (9 * totR rf n + 1) rf [x] h.iv.ok (by simp)
      exact ⟨r, .inr ⟨e, K, hr⟩⟩
  obtain ⟨r, hr⟩ := hDZ
  have hT : ∀ i, i ≠ 0 → tC l i = tC (l.set k ((l.getD k (0, 0)).1, cc - 1)) i + if x = i then 1 else 0 := fun i hi => by
    have := tC_set l k (cc - 1) i hk
    rw [← hx, ← hcc] at this
    rw [← hx]
    have h1 : cc.toNat = (cc - 1).toNat + 1 := by rw [hcc]; omega
    rw [h1] at this
    by_cases e : x = i
    · rw [if_pos e] at this ⊢; rw [if_pos e] at this; omega
    · rw [if_neg e] at this ⊢; rw [if_neg e] at this; omega
  refine ⟨r, ?_, by rw [← hcc]; exact (h.iv.dropZ hr hT).1⟩
  rw [← hx]
  refine (pg_Drop (h.ba.keep kX) (h.pg.kept kX) x r hr).mono ?_
  rintro e w' ⟨rfl, b1, b2⟩
  refine ⟨?_, b1, (Fx.of_kept kX h.ba.flt).trans b2⟩
  have e : (if x = 0 then 0 else atE rf x) = 0 := by
    by_cases e : x = 0
    · rw [if_pos e]
    · rw [if_neg e]; unfold atE; rw [if_neg (hxr.resolve_left e)]
  rw [e]
theorem ES.stored (h : ES w0 W t g p q tb cap codes room l n rf nd n2 rf2 nd2 M lev) {W2 : World} {r : Int → Nat} {k : Nat} (hk : k < l.length) (c : Int)
    (hb : BA w0 W2 p q (fun j => j = g ∨ j = t ∨ j = tb) room n r nd M n2 rf2 nd2 M) (hx : Fx (fun j => j = g ∨ j = t ∨ j = tb) W W2) (iv : PInv n r nd (tC (l.set k ((l.getD k (0, 0)).1, c))) lev (lvls codes)) (hc : 0 ≤ c) :
    ES w0 (W2.setCell ⟨tb, k * 3 + 2, none⟩ (.int .i64 c)) t g p q tb cap codes room (l.set k ((l.getD k (0, 0)).1, c)) n r nd n2 rf2 nd2 M lev := by
  have hch : Chg (fun j => j = tb) W2 (W2.setCell ⟨tb, k * 3 + 2, none⟩ (.int .i64 c)) := chg_setCells (S := fun j => j = tb) rfl [.int .i64 c] (k * 3 + 2) (Chg.refl _ _)
  have hpg := hx.pg h.pg (.inl rfl)
  have ht := hb.flt t (.inr (.inl rfl))
  have hg1 : ∀ j, (l.set k ((l.getD k (0, 0)).1, c)).getD j (0, 0) = if j = k then ((l.getD k (0, 0)).1, c) else l.getD j (0, 0) := fun j => by
    by_cases e : j = k
    · subst e; rw [if_pos rfl, List.getD_eq_getElem?_getD, List.getElem?_set_self hk]; rfl
    · rw [if_neg e, List.getD_eq_getElem?_getD, List.getElem?_set_ne (fun e' => e e'.symm), ← List.getD_eq_getElem?_getD]
  have hlen : (l.set k ((l.getD k (0, 0)).1, c)).length = l.length := by simp
  refine ⟨hb.poke (b := tb) (.inr (.inr rfl)) hch, iv, ⟨hch.cellp hpg.c0 h.d3, hch.cellp hpg.c1 h.d3, hch.cellp hpg.c2 h.d3, hpg.k1, hpg.k2⟩, ?_, ?_, h.d1, h.d3, fun j => ?_, ?_⟩
  · have hc0 : ∀ {o : Nat} {v : Value}, W.cell? ⟨t, o, none⟩ = some v → (W2.setCell ⟨tb, k * 3 + 2, none⟩ (.int .i64 c)).cell? ⟨t, o, none⟩ = some v := fun hv => hch.cellp (hx.cell (.inr (.inl rfl)) hv) h.d1
    refine ⟨hc0 h.pl.c0, hc0 h.pl.c1, hc0 h.pl.c2, hc0 h.pl.c3, ?_, fun j => ?_⟩
    · rw [hlen]; exact hc0 h.pl.c4
    · rw [hch.frozen (p := ⟨t, j, none⟩) ht h.d1]
      have e2 : W2.frozen? ⟨t, j, none⟩ = W.frozen? ⟨t, j, none⟩ := by simp only [World.frozen?, hx t (.inr (.inl rfl))]
      rw [e2]; exact h.pl.fz j
  · have ho2 : W2.ownsRow w0.heap.size 49 3 (.slice (some ⟨tb, 0, none⟩) l.length cap) l.length (tL l) := by
      obtain ⟨h0', ⟨h1, _⟩ | ⟨b, cp', cur, hv, hb', hh, r⟩⟩ := h.ow
      · cases h1
      · cases hv
        exact ⟨h0', .inr ⟨tb, _, cur, rfl, hb', by rw [hx tb (.inr (.inr rfl))]; exact hh, r⟩⟩
    have := own_setL [.int .i64 c] (k * 3 + 2) ho2
    rw [hlen, ← tL_set l k c hk]
    exact this
  · rw [hg1 j]; split
    · exact hc
    · exact h.nn j
  · rw [hg1 0]; split
    · next e => subst e; exact h.fs
    · exact h.fs
theorem ES.keep (h : ES w0 W t g p q tb cap codes room l n rf nd n2 rf2 nd2 M lev) {Y : World} (k : Kept W Y) : ES w0 Y t g p q tb cap codes room l n rf nd n2 rf2 nd2 M lev := by
  have hlt := h.ba.flt
  have ht := hlt t (.inr (.inl rfl))
  have htb := hlt tb (.inr (.inr rfl))
  refine ⟨h.ba.keep k, h.iv, h.pg.kept k, ⟨k.cellp h.pl.c0, k.cellp h.pl.c1, k.cellp h.pl.c2, k.cellp h.pl.c3, k.cellp h.pl.c4, fun j => (k.frozen (p := ⟨t, j, none⟩) ht).trans (h.pl.fz j)⟩, ?_, h.d1, h.d3, h.nn, h.fs⟩
  obtain ⟨h0, ⟨h1, _⟩ | ⟨b, cp, cur, hv, hb', hh, r⟩⟩ := h.ow
  · cases h1
  · cases hv
    exact ⟨h0, .inr ⟨tb, _, cur, rfl, hb', by rw [k.block tb htb]; exact hh, r⟩⟩
theorem tC_none : ∀ (l : List (Int × Int)) (i : Int), (∀ j, j < l.length → (l.getD j (0, 0)).2 = 0) → tC l i = 0 := by
  intro l i
  induction l with
  | nil => intro _; rfl
  | cons e r ih =>
    intro h
    have h0 : e.2 = 0 := h 0 (by simp)
    have := ih (fun j hj => h (j + 1) (by simpa using hj))
    show (if e.1 = i then e.2.toNat else 0) + tC r i = 0
    rw [this, h0]; simp
/-- When all is dropped. -/
theorem es_Used (h : ES w0 W t g p q tb cap codes room l n rf nd n2 rf2 nd2 M lev) (hz : ∀ j, 1 ≤ j → j < l.length → (l.getD j (0, 0)).2 = 0) : Calls Tryd.prog 18 #[.pointer (some ⟨p, 0, none⟩)] W fun e w' => e = .returned (.int .i64 0) ∧ w' = W := by
  have hT : ∀ i, i ≠ 0 → tC l i = 0 := fun i hi => by
    have hf := h.fs
    cases l with
    | nil => rfl
    | cons e r =>
      have e0 : e.1 = 0 := hf
      show (if e.1 = i then e.2.toNat else 0) + tC r i = 0
      rw [if_neg (fun e' => hi (by rw [← e', e0])), tC_none r i (fun j hj => hz (j + 1) (by omega) (by simpa using hj))]
  have hr : rf = fun _ => 0 := cnt_end h.iv.ok (fun i hi => by rw [h.iv.cnt i hi, hT i hi]; omega) h.iv.levOk
  obtain ⟨ow, hAS⟩ := h.ba.as
  have := as_Used hAS
  have hu : usd rf n = 0 := by
    rw [hr]
    have : ∀ m, usd (fun _ => 0) m = 0 := fun m => by
      induction m with
      | zero => rfl
      | succ m ih => show usd (fun _ => 0) m + (if (0 : Nat) = 0 then 0 else 1) = 0; rw [ih]; rfl
    exact this n
  rw [hu] at this
  exact this
end
end Go.Proofs.YtjkbhaplngnniaaDoor
