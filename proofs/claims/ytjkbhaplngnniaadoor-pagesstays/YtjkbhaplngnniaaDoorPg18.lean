/- moietylaw10: both Sets of one play. · The state of a play behind a Set. -/
import Derived.Test.YtjkbhaplngnniaaDoorPgT8
import Derived.Test.YtjkbhaplngnniaaDoorPg17
namespace Go.Proofs.YtjkbhaplngnniaaDoor
open Go.RowKit Go.Maps
set_option linter.unusedSimpArgs false
set_option linter.unusedVariables false

section
variable {w0 W : World} {g p q : Nat} {F : Nat → Prop} {codes most : Int} {n : Nat} {rf : Int → Nat} {nd : Int → ANd} {M : Nat} {n2 : Nat} {rf2 : Int → Nat} {nd2 : Int → ANd} {M2 : Nat}
theorem BA.raiseL (h : BA w0 W p q F most n rf nd M n2 rf2 nd2 M2) {M' : Nat} (h1 : M ≤ M') (h2 : M' ≤ 4611686018427387904) : BA w0 W p q F most n rf nd M' n2 rf2 nd2 M2 := by
  obtain ⟨ow, bL, bN, cL, cN, xs, a1, a2, a3, a4⟩ := h
  exact ⟨ow, bL, bN, cL, cN, xs, a1.raise h1 h2, a2, a3, a4⟩
/-- What the program's Set comes to. -/
def MidR (most : Int) (n : Nat) (rf : Int → Nat) (nd : Int → ANd) (c root : Int) (L : Nat) (e : Int × Bool) (t : PSt) : Prop :=
  (entN (wN nd c root L 1) c = e ∧ t = ⟨n, KeepZ rf root, nd, root, 0⟩) ∨ (entN (wN nd c root L 1) c ≠ e ∧ SetEnd most (newN nd c root L e) L 1 ⟨n, rf, nd, 0, 0⟩ t)
def SetP1 (w0 W : World) (p q : Nat) (F : Nat → Prop) (most : Int) (n : Nat) (rf : Int → Nat) (nd : Int → ANd) (M n2 : Nat) (rf2 : Int → Nat) (nd2 : Int → ANd) (c root : Int) (L : Nat) (e : Int × Bool) (r : Ending) (w' : World) : Prop :=
  ∃ t : PSt, r = .returned (.tuple #[.int .i64 t.id, .int .i64 t.er]) ∧ MidR most n rf nd c root L e t ∧ BA w0 w' p q F most t.n t.rf t.nd (M + 60) n2 rf2 nd2 M ∧ Fx F W w'
theorem set_one (h : BA w0 W p q F most n rf nd M n2 rf2 nd2 M) (hV : Vars w0) (hG : PG W g p codes) (hF : F g) (hM : M + 60 ≤ 4611686018427387904) (root c : Int) (h0 : 0 ≤ c) (hc : c < codes) (hw : WayOk rf nd c root (lvls codes)) (ea : Int) (ec : Bool) :
    Calls Tryd.prog 28 #[.pointer (some ⟨g, 0, none⟩), .int .i64 root, .int .i64 c, .agg #[.int .i64 ea, .bool ec]] W (SetP1 w0 W p q F most n rf nd M n2 rf2 nd2 c root (lvls codes) (ea, ec)) := by
  have hlv := lvls_le codes
  by_cases he : entN (wN nd c root (lvls codes) 1) c = (ea, ec)
  · refine (pg_SetSame h hG hF (by omega) root c h0 hc hw ea ec he).mono ?_
    rintro e w' ⟨rfl, a1, a2⟩
    exact ⟨⟨n, KeepZ rf root, nd, root, 0⟩, rfl, .inl ⟨he, rfl⟩, a1.raiseL (by omega) hM, a2⟩
  · refine (pg_Set h hV hG hF hM root c h0 hc hw ea ec he).mono ?_
    rintro e w' ⟨t, a1, a2, a3, a4⟩
    exact ⟨t, a2, .inr ⟨he, a1⟩, a3.raiseL (by omega) hM, a4⟩
theorem keepZ_live {rf : Int → Nat} {x : Int} (hx : x = 0 ∨ rf x ≠ 0) (i : Int) : KeepZ rf x i = 0 ↔ rf i = 0 := by
  unfold KeepZ KeepR
  by_cases h0 : x = 0
  · rw [if_pos h0]
  · have hz := hx.resolve_left h0
    rw [if_neg h0, if_neg hz]
    unfold setR; split
    · next e => subst e; omega
    · exact Iff.rfl
/-- What comes of both. -/
def SetFin (most : Int) (rf : Int → Nat) (nd : Int → ANd) (T lev : Int → Nat) (L : Nat) (c root : Int) (e : Int × Bool) (t : PSt) (nd2 : Int → ANd) : Prop :=
  (∀ i, t.rf i ≠ 0 → nd2 i = t.nd i) ∧ (usd t.rf t.n : Int) ≤ most ∧ (∀ i, rf i ≠ 0 → t.nd i = nd i) ∧
  ((t.er = 0 ∧ (∀ o : Nat, o < 8 ^ L → entL t.nd L t.id o = if (o : Int) = c then e else entL nd L root o) ∧ ∃ lev', PInv t.n t.rf t.nd (pend T t.id) lev' L ∧ RootOk t.rf lev' L t.id ∧ ∀ i, rf i ≠ 0 → t.rf i ≠ 0 ∧ lev' i = lev i) ∨ (t.er = 14 ∧ t.id = 0 ∧ t.rf = rf ∧ PInv t.n t.rf t.nd T lev L))
def SetP2 (w0 W : World) (p q : Nat) (F : Nat → Prop) (most : Int) (M : Nat) (rf : Int → Nat) (nd : Int → ANd) (T lev : Int → Nat) (L : Nat) (c root : Int) (e : Int × Bool) (t : PSt) (r : Ending) (w' : World) : Prop :=
  r = .returned (.tuple #[.int .i64 t.id, .int .i64 t.er]) ∧ ∃ n2 nd2, BA w0 w' p q F most t.n t.rf t.nd (M + 60) n2 t.rf nd2 (M + 60) ∧ Fx F W w' ∧ SetFin most rf nd T lev L c root e t nd2
theorem set_two {T lev : Int → Nat} {L : Nat} {root c ea : Int} {ec : Bool} {t : PSt} (h : BA w0 W p q F most t.n t.rf t.nd (M + 60) n2 rf nd2 M) (iv : PInv n rf nd T lev L) (hr : RootOk rf lev L root) (hn : ∀ i, rf i ≠ 0 → nd2 i = nd i) (hcap : (usd rf n : Int) ≤ most) (hM : M + 60 ≤ 4611686018427387904) (h0 : 0 ≤ c) (hc : c ≤ 1000000) (hl1 : 1 ≤ L) (hl5 : L ≤ 5) (hc8 : c < ((8 ^ L : Nat) : Int)) (ht : MidR most n rf nd c root L (ea, ec) t) :
    Calls Tryd.prog 32 #[.pointer (some ⟨q, 0, none⟩), .int .i64 root, .int .i64 c, .agg #[.int .i64 ea, .bool ec], .int .i64 L] W (SetP2 w0 W p q F most M rf nd T lev L c root (ea, ec) t) := by
  obtain ⟨_, _, _, _, _, hq⟩ := h.rq
  have ok2 := hq.ok
  have kok2 := hq.kok
  have hwc : wN nd2 c root L 1 = wN nd c root L 1 := wN_congr iv hr hn (Nat.le_refl 1) hl1
  have iv2 := iv.transfer hn ok2 kok2
  have hw2 := iv2.wayOk hr c
  obtain ⟨cn, hcn⟩ : ∃ cn : Nat, c = (cn : Int) := ⟨c.toNat, by omega⟩
  have hcn8 : cn < 8 ^ L := by rw [hcn] at hc8; exact Int.ofNat_lt.1 hc8
  rcases ht with ⟨he, rfl⟩ | ⟨he, hs⟩
  · refine (r10_SetSame h (by omega) root c L h0 hc hl1 hl5 hw2 ea ec (by rw [hwc]; exact he)).mono ?_
    rintro e w' ⟨rfl, a1, a2⟩
    have hrx : root = 0 ∨ rf root ≠ 0 := hr.imp id (fun e => e.1)
    have hlv := fun i => keepZ_live hrx i
    refine ⟨rfl, n2, nd2, a1.raiseR (by omega) hM, a2, fun i hi => hn i (fun e => hi ((hlv i).2 e)), ?_, fun _ _ => rfl, .inl ⟨rfl, fun o ho => ?_, lev, iv.keepZ hrx (fun i hi => ?_), ?_, fun i hi => ⟨fun e => hi ((hlv i).1 e), rfl⟩⟩⟩
    · show (usd (KeepZ rf root) n : Int) ≤ most
      rw [usd_congr n (rf' := rf) (fun i _ _ => hlv i)]
      exact hcap
    · show entL nd L root o = _
      split
      · next e =>
        rw [← he, hcn, ent_get nd cn root L hl1 hcn8]
        rw [show o = cn by omega]
      · rfl
    · show pend T root i = T i + if root = i then 1 else 0
      unfold pend
      by_cases e : root = i
      · rw [if_pos e, if_pos ⟨e.symm, fun e' => hi (by rw [← e]; exact e')⟩]
      · rw [if_neg e, if_neg (fun e' => e e'.1.symm)]
    · rcases hr with e | ⟨e1, e2⟩
      · exact .inl e
      · exact .inr ⟨fun e => e1 ((hlv root).1 e), e2⟩
  · refine (r10_Set h hM root c L h0 hc hl1 hl5 hw2 ea ec (by rw [hwc]; exact he) (fun hroom => hch_both iv hr hn ok2 kok2 hcap hroom)).mono ?_
    rintro e w' (⟨hroom, rfl, a1, a2⟩ | ⟨hroom, v, hv, rfl, a1, a2⟩)
    · obtain ⟨b1, b2, b3, b4, b5⟩ := full_both iv hr hn ok2 kok2 hcap hroom hs
      have hok := a1.ok
      rw [b3] at hok
      have hu := usd_both iv.ok hok.1
      refine ⟨by rw [b1, b2], n2, nd2, ?_, a2, ?_, ?_, b5, .inr ⟨b1, b2, b3, ?_⟩⟩
      · rw [b3] at a1 ⊢
        exact a1.raiseR (by omega) hM
      · intro i hi
        rw [b3] at hi
        rw [hn i hi, b5 i hi]
      · rw [b3, hu]; exact hcap
      · rw [b3]
        exact iv.transfer b5 hok.1 hok.2
    · obtain ⟨b1, b2, b3, b4, lev', b5, b6, b7, b8⟩ := end_both iv hr hn ok2 kok2 hcap hroom hs hv
      have hsem := sem_set (c := cn) iv hr hcap hl1 hcn8 (by rw [← hcn]; exact hs) b1
      refine ⟨by rw [b1, b2], v.n, v.nd, ?_, a2, b4, b7, hsem.1, .inl ⟨b1, fun o ho => ?_, lev', b5, b6, b8⟩⟩
      rotate_left
      · rw [hsem.2 o ho, hcn]
        by_cases e : o = cn
        · rw [if_pos e, if_pos (by rw [e])]
        · rw [if_neg e, if_neg (by omega)]
      rw [b3] at a1
      exact a1.raiseR (by omega) hM
end
end Go.Proofs.YtjkbhaplngnniaaDoor
namespace Go.Proofs.YtjkbhaplngnniaaDoor
open Go.RowKit Go.Maps
set_option linter.unusedSimpArgs false
set_option linter.unusedVariables false

theorem tdinfo : ∃ i0, Tryd.prog.info? 49 = some i0 ∧ i0.zero = some (.agg #[.int .i64 0, .int .i64 0, .int .i64 0]) ∧ i0.size = 3 ∧ i0.bytes = 24 := by
  have h : (Tryd.prog.info? 49).map (fun i => (i.zero, i.size, i.bytes)) = some (some (.agg #[.int .i64 0, .int .i64 0, .int .i64 0]), 3, 24) := by kernel_rfl
  exact info_parts h
/-- One more root behind those of a row. -/
theorem wpl_pushT {ops : Array Oper} {rest : List Oper} {o : Oper} {a : Act} {Q : Exit → Act → World → Prop} (w : World) (hgd : o.guard = none) (s x : Operand)
    (ho : o.op = .call { callee := .builtin .append, args := #[s, x], argTypes := #[43, 43] })
    (B : Nat) (v : Value) (n : Nat) (xs : List Value) (hs : a.eval s = v) (hv : w.ownsRow B 49 3 v n xs) (hB : B ≤ w.heap.size) (g : Nat) (L : List Value) (hL : L.length = 3) (h1 : ∀ u ∈ L, u.oneCell' = true) (hx : a.eval x = .slice (some ⟨g, 0, none⟩) 1 1)
    (hr : w.rangeAt g 0 L) (h47 : n ≤ 20001) (H : Nat) (hH : w.heap.size = H)
    (h : ∀ g' cap w', w'.ownsRow B 49 3 (.slice (some ⟨g', 0, none⟩) (n + 1) cap) (n + 1) (xs ++ L) → Chg (fun k => v.ownBlock = some k) w w' → (v.ownBlock = some g' ∨ g' = H) → g' < w'.heap.size → wpList Tryd.prog ops Q rest (a.put o.dst (.slice (some ⟨g', 0, none⟩) (n + 1) cap)) w') : wpList Tryd.prog ops Q (o :: rest) a w := by
  obtain ⟨i0, hi0, hz0, hz1, hz2⟩ := tdinfo
  refine wpList_append_lies w hgd s x 43 ho B 49 i0 _ 3 24 Tryd.underlying43 hi0 hz0 hz1 hz2 (by rfl) (by decide) v _ _ hs hv ⟨g, 0, none⟩ 1 1 L hx (by omega) (fun j u hu => ?_) h1 (by omega) (by unfold maxLen; omega) (by omega) hB H hH ?_
  · rw [Addr.add_lit]; exact hr j u hu
  · intro g' cap w' h2 h3 h4 h5
    exact h g' cap w' h2 ((Chg.refl _ w).grown h3 (fun k hk => .inl hk)) h4 h5
section
variable {w0 W : World} {p q : Nat} {F : Nat → Prop} {most : Int} {n : Nat} {rf : Int → Nat} {nd : Int → ANd} {M : Nat} {n2 : Nat} {rf2 : Int → Nat} {nd2 : Int → ANd} {M2 : Nat}
theorem BA.pokeW {W' : World} {F' : Nat → Prop} {b : Nat} (h : BA w0 W p q F most n rf nd M n2 rf2 nd2 M2) (hb : F b) (c : Chg (fun j => j = b) W W') (hF : ∀ j, F' j → F j ∨ (W.heap.size ≤ j ∧ j < W'.heap.size)) : BA w0 W' p q F' most n rf nd M n2 rf2 nd2 M2 := by
  obtain ⟨ow, bL, bN, cL, cN, xs, h1, h2, h3, h4⟩ := h
  obtain ⟨f1, f2, f3, f4⟩ := h4 b hb
  refine ⟨ow, bL, bN, cL, cN, xs, h1.chg c (fun j e => by omega) (fun e => f3 (.inl e.symm)) (fun g hg e => f3 (.inr (by rw [← e]; exact hg))), h2.chg c (fun e => f4 (.inl e.symm)) (fun e => f4 (.inr (.inl e.symm))) (fun e => f4 (.inr (.inr e.symm))), h3, fun j hj => ?_⟩
  rcases hF j hj with e | ⟨e1, e2⟩
  · exact ⟨(h4 j e).1, Nat.lt_of_lt_of_le (h4 j e).2.1 c.size, (h4 j e).2.2⟩
  · have g1 := h1.ok.2.2.2.2.2.2.1
    have g2 := h1.ok.2.2.2.2.2.2.2
    have g3 := h2.lts
    have g4 := h1.1.size
    refine ⟨by omega, e2, ?_, by omega⟩
    rintro (e | e)
    · omega
    · have := (g2 j e).1; omega
end
section
variable {w0 W : World} {t g p q tb cap : Nat} {codes room : Int} {l : List (Int × Int)} {n : Nat} {rf : Int → Nat} {nd : Int → ANd} {n2 : Nat} {nd2 : Int → ANd} {M : Nat} {lev : Int → Nat}
/-- What lies in memory beside the arenas, where its blocks are as they were. -/
theorem JS.mem (h : JS w0 W t g p q tb cap codes room l n rf nd n2 nd2 M lev) {W2 : World} (hx : Fx (fun j => j = g ∨ j = t ∨ j = tb) W W2) :
    PG W2 g p codes ∧ PlayM W2 t g q codes (.slice (some ⟨tb, 0, none⟩) l.length cap) ∧ W2.ownsRow w0.heap.size 49 3 (.slice (some ⟨tb, 0, none⟩) l.length cap) l.length (tL l) := by
  refine ⟨hx.pg h.pg (.inl rfl), ⟨hx.cell (.inr (.inl rfl)) h.pl.c0, hx.cell (.inr (.inl rfl)) h.pl.c1, hx.cell (.inr (.inl rfl)) h.pl.c2, hx.cell (.inr (.inl rfl)) h.pl.c3, hx.cell (.inr (.inl rfl)) h.pl.c4, fun j => ?_⟩, ?_⟩
  · have e2 : W2.frozen? ⟨t, j, none⟩ = W.frozen? ⟨t, j, none⟩ := by simp only [World.frozen?, hx t (.inr (.inl rfl))]
    rw [e2]; exact h.pl.fz j
  · obtain ⟨h0', ⟨h1, _⟩ | ⟨b, cp', cur, hv, hb', hh, r⟩⟩ := h.ow
    · cases h1
    · cases hv
      exact ⟨h0', .inr ⟨tb, _, cur, rfl, hb', by rw [hx tb (.inr (.inr rfl))]; exact hh, r⟩⟩
theorem JS.failed (h : JS w0 W t g p q tb cap codes room l n rf nd n2 nd2 M lev) {W2 : World} {s : PSt} {n2' : Nat} {nd2' : Int → ANd} {M' : Nat} (hb : BA w0 W2 p q (fun j => j = g ∨ j = t ∨ j = tb) room s.n s.rf s.nd M' n2' s.rf nd2' M') (hx : Fx (fun j => j = g ∨ j = t ∨ j = tb) W W2)
    {cd rt0 : Int} {en : Int × Bool} (hf : SetFin room rf nd (tC l) lev (lvls codes) cd rt0 en s nd2') (her : s.er ≠ 0) : JS w0 W2 t g p q tb cap codes room l s.n s.rf s.nd n2' nd2' M' lev := by
  obtain ⟨f1, f2, fn, ⟨f3, _⟩ | ⟨f3, f4, f5, f6⟩⟩ := hf
  · exact absurd f3 her
  · obtain ⟨m1, m2, m3⟩ := h.mem hx
    exact ⟨hb, f1, f6, m1, m2, m3, h.d1, h.d2, h.d3, by rw [f5]; exact h.rt, h.nn, h.fs, f2, fun k hk hp o h1 h2 => by rw [entL_congr h.iv fn _ _ _ (h.rt k hk hp)]; exact h.hz k hk hp o h1 h2⟩
theorem JS.pushed (h : JS w0 W t g p q tb cap codes room l n rf nd n2 nd2 M lev) {W2 W5 W6 : World} {s : PSt} {n2' : Nat} {nd2' : Int → ANd} {M' g' cap' : Nat} (hb : BA w0 W2 p q (fun j => j = g ∨ j = t ∨ j = tb) room s.n s.rf s.nd M' n2' s.rf nd2' M') (hx : Fx (fun j => j = g ∨ j = t ∨ j = tb) W W2)
    {cd rt0 : Int} {en : Int × Bool} (hcd : cd < codes) (hrz : ∀ o : Nat, codes ≤ (o : Int) → o < 8 ^ lvls codes → entL nd (lvls codes) rt0 o = (0, false)) (hf : SetFin room rf nd (tC l) lev (lvls codes) cd rt0 en s nd2') (her : s.er = 0) (k5 : Kept W2 W5) (o6 : W6.ownsRow w0.heap.size 49 3 (.slice (some ⟨g', 0, none⟩) (l.length + 1) cap') (l.length + 1) (tL l ++ [.int .i64 s.id, .int .i64 s.id, .int .i64 1]))
    (c6 : Chg (fun j => j = tb) W5 W6) (hg : g' = tb ∨ W5.heap.size ≤ g') (hlt : g' < W6.heap.size) :
    ∃ lev', JS w0 (W6.setCell ⟨t, 4, none⟩ (.slice (some ⟨g', 0, none⟩) (l.length + 1) cap')) t g p q g' cap' codes room (l ++ [(s.id, 1)]) s.n s.rf s.nd n2' nd2' M' lev' := by
  obtain ⟨f1, f2, fn, ⟨f3, fs, lev', f4, f5, f6⟩ | ⟨f3, _⟩⟩ := hf
  rotate_left
  · rw [her] at f3; cases f3
  obtain ⟨m1, m2, m3⟩ := h.mem hx
  have hb5 := hb.keep k5
  have ht5 := hb5.flt t (.inr (.inl rfl))
  have hg5 := hb5.flt g (.inl rfl)
  have htb5 := hb5.flt tb (.inr (.inr rfl))
  have d1 : t ≠ g' := fun e => by
    rcases hg with e' | e'
    · exact h.d1 (e.trans e')
    · omega
  have d3 : g ≠ g' := fun e => by
    rcases hg with e' | e'
    · exact h.d3 (e.trans e')
    · omega
  have hb6 : BA w0 W6 p q (fun j => j = g ∨ j = t ∨ j = g') room s.n s.rf s.nd M' n2' s.rf nd2' M' := hb5.pokeW (b := tb) (.inr (.inr rfl)) c6 (fun j hj => by
    rcases hj with e | e | e
    · exact .inl (.inl e)
    · exact .inl (.inr (.inl e))
    · rcases hg with e' | e'
      · exact .inl (.inr (.inr (e.trans e')))
      · exact .inr ⟨by omega, by omega⟩)
  have c7 : Chg (fun j => j = t) W6 (W6.setCell ⟨t, 4, none⟩ (.slice (some ⟨g', 0, none⟩) (l.length + 1) cap')) := Chg.setCell (S := fun j => j = t) (Chg.refl _ W6) (p := ⟨t, 4, none⟩) (.inl rfl) _
  have ht6 : t < W6.heap.size := Nat.lt_of_lt_of_le ht5 c6.size
  have gt : ∀ {o : Nat} {v : Value}, W2.cell? ⟨t, o, none⟩ = some v → W6.cell? ⟨t, o, none⟩ = some v := fun hv => c6.cellp (k5.cellp hv) h.d1
  have gg : ∀ {o : Nat} {v : Value}, W2.cell? ⟨g, o, none⟩ = some v → (W6.setCell ⟨t, 4, none⟩ (.slice (some ⟨g', 0, none⟩) (l.length + 1) cap')).cell? ⟨g, o, none⟩ = some v := fun hv => c7.cellp (c6.cellp (k5.cellp hv) h.d3) (Ne.symm h.d2)
  have hfz : ∀ j, W6.frozen? ⟨t, j, none⟩ = false := fun j => by
    rw [c6.frozen (p := ⟨t, j, none⟩) ht5 h.d1]
    exact (k5.frozen (p := ⟨t, j, none⟩) (hb.flt t (.inr (.inl rfl)))).trans (m2.fz j)
  have hl1 : (l ++ [(s.id, (1 : Int))]).length = l.length + 1 := by simp
  have hgA : ∀ j, j < l.length → (l ++ [(s.id, (1 : Int))]).getD j (0, 0) = l.getD j (0, 0) := fun j hj => by
    rw [List.getD_eq_getElem?_getD, List.getElem?_append_left hj, ← List.getD_eq_getElem?_getD]
  have hgB : (l ++ [(s.id, (1 : Int))]).getD l.length (0, 0) = (s.id, 1) := by
    rw [List.getD_eq_getElem?_getD, List.getElem?_append_right (Nat.le_refl _)]; simp
  refine ⟨lev', hb6.poke (b := t) (.inr (.inl rfl)) c7, f1, ⟨f4.ok, f4.kok, fun i hi => ?_, f4.shp⟩, ⟨gg m1.c0, gg m1.c1, gg m1.c2, m1.k1, m1.k2⟩, ⟨?_, ?_, ?_, ?_, ?_, fun j => ?_⟩, ?_, d1, h.d2, d3, fun k hk hp => ?_, fun k => ?_, ?_, f2, fun k hk hp o h1 h2 => ?_⟩
  · rw [f4.cnt i hi, tC_app]
    congr 1
    unfold pend
    by_cases e : s.id = i
    · rw [if_pos e, if_pos ⟨e.symm, fun e' => hi (by rw [← e]; exact e')⟩]; rfl
    · rw [if_neg e, if_neg (fun e' => e e'.1.symm)]
  · rw [World.cell?_setCell_other _ _ _ _ (by simp)]; exact gt m2.c0
  · rw [World.cell?_setCell_other _ _ _ _ (by simp)]; exact gt m2.c1
  · rw [World.cell?_setCell_other _ _ _ _ (by simp)]; exact gt m2.c2
  · rw [World.cell?_setCell_other _ _ _ _ (by simp)]; exact gt m2.c3
  · rw [hl1]
    exact World.cell?_setCell_same _ _ _ (gt m2.c4)
  · rw [World.frozen?_setCell]; exact hfz j
  · rw [hl1, tL_app]
    obtain ⟨h0', ⟨h1, _⟩ | ⟨b, cp', cur, hv, hb', hh, r⟩⟩ := o6
    · cases h1
    · cases hv
      exact ⟨h0', .inr ⟨g', _, cur, rfl, hb', by rw [c7.block g' hlt (fun e => d1 e.symm)]; exact hh, r⟩⟩
  · rw [hl1] at hk
    by_cases hk' : k < l.length
    · rw [hgA k hk'] at hp ⊢
      rcases h.rt k hk' hp with e | ⟨e1, e2⟩
      · exact .inl e
      · obtain ⟨e3, e4⟩ := f6 _ e1
        exact .inr ⟨e3, e4.trans e2⟩
    · have : k = l.length := by omega
      subst this
      rw [hgB]; exact f5
  · by_cases hk' : k < l.length
    · rw [hgA k hk']; exact h.nn k
    · by_cases hk2 : k = l.length
      · subst hk2; rw [hgB]; show (0 : Int) ≤ 1; omega
      · rw [List.getD_eq_getElem?_getD, List.getElem?_eq_none (by rw [hl1]; omega)]; exact Int.le_refl 0
  · have h1 := h.fs.1
    refine ⟨by rw [hl1]; omega, ?_, ?_⟩
    · rw [hgA 0 (by omega)]; exact h.fs.2.1
    · rw [hgA 0 (by omega)]; exact h.fs.2.2
  · rw [hl1] at hk
    by_cases hk' : k < l.length
    · rw [hgA k hk'] at hp ⊢
      rw [entL_congr h.iv fn _ _ _ (h.rt k hk' hp)]
      exact h.hz k hk' hp o h1 h2
    · have : k = l.length := by omega
      subst this
      rw [hgB]
      show entL s.nd (lvls codes) s.id o = _
      rw [fs o h2, if_neg (by omega)]
      exact hrz o h1 h2
end
end Go.Proofs.YtjkbhaplngnniaaDoor
