/- slices.Clone and slices.IndexFunc of bytes; wire.New, wire.number. -/
import Derived.Test.YtolihnipoggokaaWire2
import Derived.Deep.DeepAppendWide
import Derived.Shelf.GgClosure.Gives
import Derived.Deep.Draws
namespace Go.Proofs.Ytolihnipoggokaa
open Go.RowKit
set_option linter.unusedSimpArgs false
set_option linter.unusedVariables false

theorem sl_news {w : World} {a : Option Addr} {n : Nat} {l : List Int} (h : Sl .u8 w a n l) {ad : Addr} (ha : a = some ad) : ∀ (j : Nat) u, (l.map (Value.int .u8))[j]? = some u → w.cell? (ad.add j) = some u := by
  intro j u hj
  have hjn : j < n := by
    have := (List.getElem?_eq_some_iff.1 hj).1
    have := h.len
    simp at *; omega
  obtain ⟨bb, oo, e, _, hcs⟩ := h.cells (by omega)
  rw [ha] at e
  cases e
  have hl := h.len
  rw [Addr.add_lit, hcs j hjn, ← hj, List.getElem?_map, List.getElem?_eq_getElem (by omega)]
  simp [List.getD, List.getElem?_eq_getElem (show j < l.length by omega)]
theorem u8s_one (l : List Int) : ∀ u ∈ l.map (Value.int .u8), u.oneCell' = true := by
  intro u hu
  obtain ⟨x, _, rfl⟩ := List.mem_map.1 hu
  rfl

set_option maxHeartbeats 400000 in
theorem slices_Clone (a : Option Addr) (n c : Nat) (l : List Int) (w : World) (hs : Sl .u8 w a n l) (hl : (n + n / 4 + 192) ≤ 281474976710656) :
    Calls Try.prog 28 #[.slice a n c] w fun e w' => ∃ v, e = .returned v ∧ Owned w w' v l ∧ Kept w w' := by
  obtain ⟨i0, hi0, hz0, hz1, hz2⟩ := u8info
  have q : ∀ (w : World) (a : Option Addr) (n c n' c' : Nat), (binOp .eql 22 (.slice a n c) (.slice none n' c')).run Try.prog w = .ok (.bool a.isNone) w := fun w a n c n' c' => Lib.run_eql_slice_nil w _ _ a n c n' c' Try.underlying22
  have H := hidMk hs
  have HA := hidMk hi0
  have HZ := hidMk hz0
  have hlen := hs.len
  have hbig := hs.big
  clear hs hi0 hz0
  cases a with
  | none =>
    have hn : n = 0 := by
      by_cases hn : 0 < n
      · obtain ⟨b, o, e, _⟩ := H.out.cells hn
        cases e
      · omega
    subst hn
    have HN := hidMk (show l = [] from List.eq_nil_of_length_eq_zero hlen)
    go_enter Try.func28, Try.ntmps28
    go_wp2
    go_ret
    refine ⟨_, rfl, ?_, Kept.refl _⟩
    rw [HN.out]
    exact World.ownsRow_nil _ _ _ _
  | some ad =>
    go_enter Try.func28, Try.ntmps28
    go_wp2_with (at_builtin; refine wpList_append_own_wide _ rfl _ _ 22 rfl w.heap.size 5 i0 (.int .u8 0) 1 1 Try.underlying22 HA.out HZ.out hz1 hz2 rfl (by decide) _ _ _ rfl (World.ownsRow_made w #[] 0 (Nat.le_refl _) (Nat.zero_le _) (by simp)) ad n c (l.map (Value.int .u8)) rfl ?c1 ?c2 ?c3 ?c4 ?c5 ?c6 ?_)
    case c1 => simpa using hlen
    case c2 => exact sl_news (H.out.kept ((Kept.refl w).alloc _)) rfl
    case c3 => exact u8s_one l
    case c4 => rw [Nat.zero_add]; exact hbig
    case c5 => rw [Nat.zero_add]; omega
    case c6 => simp
    intro v' w1 hown hgrow hnil
    have H4 := hidMk hown
    have H5 := hidMk (show Kept w w1 from ((Below.refl _ w).alloc (Nat.le_refl _) _).grown hgrow (by simp) (by intro k hk; simp [Value.ownBlock] at hk; omega))
    clear hown hgrow hnil
    go_wp2
    go_ret
    refine ⟨_, rfl, ?_, H5.out⟩
    show Owned w w1 v' l
    unfold Owned
    rw [hlen]
    simpa using H4.out

/-- An own row's slice: where it lies. -/
theorem owned_sl {w0 w : World} {v : Value} {l : List Int} (h : Owned w0 w v l) (hm : l.length ≤ maxLen) :
    ∃ a c, v = .slice a l.length c ∧ Sl .u8 w a l.length l ∧ l.length ≤ c ∧ (∀ ad, a = some ad → w0.heap.size ≤ ad.block ∧ ad.block < w.heap.size) := by
  have h' := h
  obtain ⟨a, c, e, hs⟩ := own_sl rfl hm h'
  refine ⟨a, c, e, hs, ?_, ?_⟩
  · subst e
    obtain ⟨_, ⟨e, hz⟩ | ⟨g, cap, cur, hv, hb, hheap, hc, r⟩⟩ := h
    · omega
    · cases hv; exact hc
  · subst e
    intro ad ha
    subst ha
    have h2 := World.ownsRow.lt h ad.block rfl
    exact h2

/-- A reader: a block b of two cells, and bytes in a block from B on, ahead of b. -/
structure Rd (w : World) (B b : Nat) (l : List Int) (y : Int) : Prop where
  ex : ∃ a n c, Box w b (.slice a n c) (.int .i64 y) ∧ Sl .u8 w a n l ∧ n ≤ c ∧ (0 < n → ∀ ad, a = some ad → B ≤ ad.block ∧ ad.block < b)
  ok : ∀ x ∈ l, isB x
/-- All but one block is as it was. -/
structure But (b : Nat) (w w' : World) : Prop where
  os : w'.os = w.os
  tape : w'.tape = w.tape
  output : w'.output = w.output
  size : w.heap.size ≤ w'.heap.size
  block : ∀ j, j < w.heap.size → j ≠ b → w'.heap[j]? = w.heap[j]?
theorem But.refl (b : Nat) (w : World) : But b w w := ⟨rfl, rfl, rfl, Nat.le_refl _, fun _ _ _ => rfl⟩
theorem But.trans {b : Nat} {x y z : World} (h : But b x y) (k : But b y z) : But b x z :=
  ⟨k.os.trans h.os, k.tape.trans h.tape, k.output.trans h.output, Nat.le_trans h.size k.size, fun j hj hb => (k.block j (Nat.lt_of_lt_of_le hj h.size) hb).trans (h.block j hj hb)⟩
theorem But.of_kept {b : Nat} {x y : World} (h : Kept x y) : But b x y := ⟨h.os, h.tape, h.output, Below.size h, fun j hj _ => h.block j hj⟩
theorem But.setCell (b : Nat) (w : World) (o : Nat) (u : Value) : But b w (w.setCell ⟨b, o, none⟩ u) :=
  ⟨rfl, rfl, rfl, by simp [World.setCell], fun j hj hb => Below.heap_setCell _ _ _ _ (by simpa using hb)⟩
theorem But.kept {b : Nat} {w0 x y : World} (h : Kept w0 x) (hb : w0.heap.size ≤ b) (k : But b x y) : Kept w0 y :=
  Below.trans h ⟨k.os, k.tape, k.output, k.size, fun j hj => k.block j (Nat.lt_of_lt_of_le hj h.size) (by omega)⟩
theorem But.cell {b : Nat} {w w' : World} (h : But b w w') {p : Addr} (hp : p.block < w.heap.size) (hb : p.block ≠ b) : w'.cell? p = w.cell? p := by
  simp only [World.cell?, h.block p.block hp hb]
theorem But.frozen {b : Nat} {w w' : World} (h : But b w w') {p : Addr} (hp : p.block < w.heap.size) (hb : p.block ≠ b) : w'.frozen? p = w.frozen? p := by
  simp only [World.frozen?, h.block p.block hp hb]
theorem Sl.but {k : IntKind} {b : Nat} {w w' : World} {a : Option Addr} {n : Nat} {l : List Int} (h : Sl k w a n l) (g : But b w w') (hb : 0 < n → ∀ ad, a = some ad → ad.block ≠ b) : Sl k w' a n l :=
  ⟨h.len, h.big, fun hp => by
    obtain ⟨c, o, h1, h2, h3⟩ := h.cells hp
    refine ⟨c, o, h1, Nat.lt_of_lt_of_le h2 g.size, fun i hi => ?_⟩
    have hne : c ≠ b := hb hp ⟨c, o, none⟩ h1
    rw [g.cell (p := ⟨c, o + i, none⟩) h2 hne]
    exact h3 i hi⟩
theorem Box.but {b c : Nat} {w w' : World} {u v : Value} (h : Box w b u v) (g : But c w w') (hne : b ≠ c) : Box w' b u v :=
  ⟨(g.cell (p := ⟨b, 0, none⟩) h.lt hne).trans h.z, (g.cell (p := ⟨b, 1, none⟩) h.lt hne).trans h.o, (g.frozen (p := ⟨b, 0, none⟩) h.lt hne).trans h.fz, (g.frozen (p := ⟨b, 1, none⟩) h.lt hne).trans h.fo, Nat.lt_of_lt_of_le h.lt g.size⟩
theorem Rd.but {w w' : World} {B b c : Nat} {l : List Int} {y : Int} (h : Rd w B b l y) (g : But c w w') (hc : c < B ∨ b < c) (hcb : c ≠ b) : Rd w' B b l y := by
  obtain ⟨⟨a, n, m, h1, h2, h3, h4⟩, h5⟩ := h
  exact ⟨⟨a, n, m, h1.but g (Ne.symm hcb), h2.but g (fun hn ad ha => by have := h4 hn ad ha; omega), h3, h4⟩, h5⟩
theorem Rd.kept {w w' : World} {B b : Nat} {l : List Int} {y : Int} (h : Rd w B b l y) (g : Kept w w') : Rd w' B b l y := by
  obtain ⟨⟨a, n, m, h1, h2, h3, h4⟩, h5⟩ := h
  exact ⟨⟨a, n, m, h1.kept g, h2.kept g, h3, h4⟩, h5⟩
theorem Rd.lt {w : World} {B b : Nat} {l : List Int} {y : Int} (h : Rd w B b l y) : b < w.heap.size := by
  obtain ⟨⟨a, n, m, h1, _⟩, _⟩ := h
  exact h1.lt

set_option maxHeartbeats 400000 in
theorem wire_New (a : Option Addr) (n c : Nat) (l : List Int) (w : World) (hs : Sl .u8 w a n l) (hb : ∀ x ∈ l, isB x) (hl : (n + n / 4 + 192) ≤ 281474976710656) :
    Calls Try.prog 16 #[.slice a n c] w fun e w' => ∃ p, e = .returned (.pointer (some ⟨p, 0, none⟩)) ∧ w.heap.size ≤ p ∧ Rd w' w.heap.size p l 0 ∧ Kept w w' := by
  have H := hidMk hs
  have HB := hidMk hb
  have hlen := hs.len
  have hbig := hs.big
  clear hs hb
  go_enter Try.func16, Try.ntmps16
  go_wp2_with (go_at_call 28; refine (slices_Clone a n c l _ H.out hl).mono ?_; rintro e w1 ⟨v1, rfl, ho, hk⟩; obtain ⟨a1, c1, rfl, hs1, hn1, hb1⟩ := owned_sl ho (by rw [hlen]; exact hbig); rw [hlen] at hs1 hn1; have H1 := hidMk hs1; have H2 := hidMk hk; have H3 := hidMk hb1; clear ho hs1 hk hb1)
  go_ret
  refine ⟨w1.heap.size, rfl, H2.out.size, ⟨⟨a1, n, c1, ⟨by simp, by simp, by simp, by simp, by simp⟩, ?_, hn1, ?_⟩, HB.out⟩, H2.out.alloc _⟩
  · exact H1.out.kept ((Kept.refl w1).alloc _)
  · intro _ ad ha
    exact H3.out ad ha

theorem number_fn (c : Int) (w : World) : Calls Try.prog 34 #[.int .u8 c] w fun e w' => e = .returned (.bool (decide (c < 128))) ∧ w' = w := by
  go_enter Try.func34, Try.ntmps34
  go_wp2
  go_ret
  exact ⟨rfl, rfl⟩

def ixI (l : List Int) : Int := match lastIx l with | none => -1 | some k => k

set_option maxHeartbeats 400000 in
theorem slices_IndexFunc (a : Option Addr) (n c : Nat) (l : List Int) (w : World) (hs : Sl .u8 w a n l) :
    Calls Try.prog 33 #[.slice a n c, .func (.func 34) #[] #[]] w fun e w' => e = .returned (.int .i64 (ixI l)) ∧ w' = w := by
  have H := hidMk hs
  have hbig := hs.big
  have hlen := hs.len
  unfold maxLen at hbig
  clear hs
  go_enter Try.func33, Try.ntmps33
  go_wp2
  go_loopw [5, 8] (fun _ i wr => ∃ k : Nat, k ≤ n ∧ i = .int .i64 k ∧ wr = w ∧ Hid (∀ j, j < k → 128 ≤ l.getD j 0)) (fun _ i _ => n - (intOf i).toNat)
  case atStart => exact ⟨0, Nat.zero_le _, rfl, rfl, hidMk fun j hj => absurd hj (by omega)⟩
  case round =>
    obtain ⟨k, hk, rfl, rfl, HJ⟩ := hrel
    by_cases hkn : k < n
    · obtain ⟨b, o, rfl, hb, hcs⟩ := H.out.cells (by omega)
      have hcell := hcs k hkn
      clear hcs
      have HX := hidMk (show l.getD k 0 = l.getD k 0 from rfl)
      generalize hx : l.getD k 0 = x at hcell
      have H1 := hidMk hx
      clear hx
      by_cases h128 : x < 128
      · have hd : decide (x < 128) = true := by simpa using h128
        have hc := number_fn x
        rw [hd] at hc
        have HC := hidMk hc
        clear hc
        go_wp2_with (go_at_call 34; refine (HC.out _).mono ?_; rintro e w1 ⟨rfl, rfl⟩)
        go_ret
        refine ⟨?_, rfl⟩
        have e := lastIx_at (l := l) (k := k) (by omega) (by rw [H1.out]; exact h128) HJ.out
        unfold ixI
        rw [e]
        rfl
      · have hd : decide (x < 128) = false := by simpa using h128
        have hc := number_fn x
        rw [hd] at hc
        have HC := hidMk hc
        clear hc
        go_wp2_with (go_at_call 34; refine (HC.out _).mono ?_; rintro e w1 ⟨rfl, rfl⟩)
        refine ⟨⟨k + 1, by omega, by go_num, trivial, hidMk fun j hj => ?_⟩, by simp [intOf]; omega⟩
        by_cases e : j = k
        · subst e; rw [H1.out]; omega
        · exact HJ.out j (by omega)
    · have hkn' : k = n := by omega
      subst hkn'
      go_wp2
      go_ret
      refine ⟨?_, rfl⟩
      have e := lastIx_no (l := l) (by rw [hlen]; exact HJ.out)
      unfold ixI
      rw [e]
      rfl
end Go.Proofs.Ytolihnipoggokaa
