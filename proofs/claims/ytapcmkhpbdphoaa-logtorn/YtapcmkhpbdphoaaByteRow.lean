/- Rows of bytes: slices.Clone, own rows, a reader in memory, a text of bytes. -/
import Derived.Test.YtapcmkhpbdphoaaWire2
import Derived.Deep.DeepAppendWide
import Derived.Deep.Draws
import Derived.Laws.IdiomStrings
namespace Go.Proofs.Ytapcmkhpbdphoaa
open Go.RowKit
set_option linter.unusedSimpArgs false
set_option linter.unusedVariables false

theorem sl_news {w : World} {a : Option Addr} {n : Nat} {l : List Int} (h : Sl .u8 w a n l) {ad : Addr} (ha : a = some ad) : ∀ (j : Nat) u, (l.map (Value.int .u8))[j]? = some u → w.cell? (ad.add j) = some u := by
  intro j u hj
  have hjn : j < n := by
    have := (List.getElem?_eq_some_iff.1 hj).1
    have := h.len
    simp at *; omega
  obtain ⟨bb, oo, e, _, hcs⟩ := h.cells (by omega)
  rw [ha] at e
  cases e
  have hl := h.len
  rw [Addr.add_lit, hcs j hjn, ← hj, List.getElem?_map, List.getElem?_eq_getElem (by omega)]
  simp [List.getD, List.getElem?_eq_getElem (show j < l.length by omega)]
theorem u8s_one (l : List Int) : ∀ u ∈ l.map (Value.int .u8), u.oneCell' = true := by
  intro u hu
  obtain ⟨x, _, rfl⟩ := List.mem_map.1 hu
  rfl

set_option maxHeartbeats 400000 in
theorem slices_Clone (a : Option Addr) (n c : Nat) (l : List Int) (w : World) (hs : Sl .u8 w a n l) (hl : (n + n / 4 + 192) ≤ 281474976710656) :
    Calls Try.prog 34 #[.slice a n c] w fun e w' => ∃ v, e = .returned v ∧ Owned w w' v l ∧ Kept w w' := by
  obtain ⟨i0, hi0, hz0, hz1, hz2⟩ := u8info
  have q : ∀ (w : World) (a : Option Addr) (n c n' c' : Nat), (binOp .eql 33 (.slice a n c) (.slice none n' c')).run Try.prog w = .ok (.bool a.isNone) w := fun w a n c n' c' => Lib.run_eql_slice_nil w _ _ a n c n' c' Try.underlying33
  have H := hidMk hs
  have HA := hidMk hi0
  have HZ := hidMk hz0
  have hlen := hs.len
  have hbig := hs.big
  clear hs hi0 hz0
  cases a with
  | none =>
    have hn : n = 0 := by
      by_cases hn : 0 < n
      · obtain ⟨b, o, e, _⟩ := H.out.cells hn
        cases e
      · omega
    subst hn
    have HN := hidMk (show l = [] from List.eq_nil_of_length_eq_zero hlen)
    go_enter Try.func34, Try.ntmps34
    go_wp2
    go_ret
    refine ⟨_, rfl, ?_, Kept.refl _⟩
    rw [HN.out]
    exact World.ownsRow_nil _ _ _ _
  | some ad =>
    go_enter Try.func34, Try.ntmps34
    go_wp2_with (at_builtin; refine wpList_append_own_wide _ rfl _ _ 33 rfl w.heap.size 5 i0 (.int .u8 0) 1 1 Try.underlying33 HA.out HZ.out hz1 hz2 rfl (by decide) _ _ _ rfl (World.ownsRow_made w #[] 0 (Nat.le_refl _) (Nat.zero_le _) (by simp)) ad n c (l.map (Value.int .u8)) rfl ?c1 ?c2 ?c3 ?c4 ?c5 ?c6 ?_)
    case c1 => simpa using hlen
    case c2 => exact sl_news (H.out.kept ((Kept.refl w).alloc _)) rfl
    case c3 => exact u8s_one l
    case c4 => rw [Nat.zero_add]; exact hbig
    case c5 => rw [Nat.zero_add]; omega
    case c6 => simp
    intro v' w1 hown hgrow hnil
    have H4 := hidMk hown
    have H5 := hidMk (show Kept w w1 from ((Below.refl _ w).alloc (Nat.le_refl _) _).grown hgrow (by simp) (by intro k hk; simp [Value.ownBlock] at hk; omega))
    clear hown hgrow hnil
    go_wp2
    go_ret
    refine ⟨_, rfl, ?_, H5.out⟩
    show Owned w w1 v' l
    unfold Owned
    rw [hlen]
    simpa using H4.out

/-- An own row's slice: where it lies. -/
theorem owned_sl {w0 w : World} {v : Value} {l : List Int} (h : Owned w0 w v l) (hm : l.length ≤ maxLen) :
    ∃ a c, v = .slice a l.length c ∧ Sl .u8 w a l.length l ∧ l.length ≤ c ∧ (∀ ad, a = some ad → w0.heap.size ≤ ad.block ∧ ad.block < w.heap.size) := by
  have h' := h
  obtain ⟨a, c, e, hs⟩ := own_sl rfl hm h'
  refine ⟨a, c, e, hs, ?_, ?_⟩
  · subst e
    obtain ⟨_, ⟨e, hz⟩ | ⟨g, cap, cur, hv, hb, hheap, hc, r⟩⟩ := h
    · omega
    · cases hv; exact hc
  · subst e
    intro ad ha
    subst ha
    have h2 := World.ownsRow.lt h ad.block rfl
    exact h2

/-- A reader: a block b of two cells, and bytes in a block from B on, ahead of b. -/
structure Rd (w : World) (B b : Nat) (l : List Int) (y : Int) : Prop where
  ex : ∃ a n c, Box w b (.slice a n c) (.int .i64 y) ∧ Sl .u8 w a n l ∧ n ≤ c ∧ (0 < n → ∀ ad, a = some ad → B ≤ ad.block ∧ ad.block < b)
  ok : ∀ x ∈ l, isB x
/-- All but one block is as it was. -/
structure But (b : Nat) (w w' : World) : Prop where
  os : w'.os = w.os
  tape : w'.tape = w.tape
  output : w'.output = w.output
  size : w.heap.size ≤ w'.heap.size
  block : ∀ j, j < w.heap.size → j ≠ b → w'.heap[j]? = w.heap[j]?
theorem But.refl (b : Nat) (w : World) : But b w w := ⟨rfl, rfl, rfl, Nat.le_refl _, fun _ _ _ => rfl⟩
theorem But.trans {b : Nat} {x y z : World} (h : But b x y) (k : But b y z) : But b x z :=
  ⟨k.os.trans h.os, k.tape.trans h.tape, k.output.trans h.output, Nat.le_trans h.size k.size, fun j hj hb => (k.block j (Nat.lt_of_lt_of_le hj h.size) hb).trans (h.block j hj hb)⟩
theorem But.of_kept {b : Nat} {x y : World} (h : Kept x y) : But b x y := ⟨h.os, h.tape, h.output, Below.size h, fun j hj _ => h.block j hj⟩
theorem But.setCell (b : Nat) (w : World) (o : Nat) (u : Value) : But b w (w.setCell ⟨b, o, none⟩ u) :=
  ⟨rfl, rfl, rfl, by simp [World.setCell], fun j hj hb => Below.heap_setCell _ _ _ _ (by simpa using hb)⟩
theorem But.kept {b : Nat} {w0 x y : World} (h : Kept w0 x) (hb : w0.heap.size ≤ b) (k : But b x y) : Kept w0 y :=
  Below.trans h ⟨k.os, k.tape, k.output, k.size, fun j hj => k.block j (Nat.lt_of_lt_of_le hj h.size) (by omega)⟩
theorem But.cell {b : Nat} {w w' : World} (h : But b w w') {p : Addr} (hp : p.block < w.heap.size) (hb : p.block ≠ b) : w'.cell? p = w.cell? p := by
  simp only [World.cell?, h.block p.block hp hb]
theorem But.frozen {b : Nat} {w w' : World} (h : But b w w') {p : Addr} (hp : p.block < w.heap.size) (hb : p.block ≠ b) : w'.frozen? p = w.frozen? p := by
  simp only [World.frozen?, h.block p.block hp hb]
theorem Sl.but {k : IntKind} {b : Nat} {w w' : World} {a : Option Addr} {n : Nat} {l : List Int} (h : Sl k w a n l) (g : But b w w') (hb : 0 < n → ∀ ad, a = some ad → ad.block ≠ b) : Sl k w' a n l :=
  ⟨h.len, h.big, fun hp => by
    obtain ⟨c, o, h1, h2, h3⟩ := h.cells hp
    refine ⟨c, o, h1, Nat.lt_of_lt_of_le h2 g.size, fun i hi => ?_⟩
    have hne : c ≠ b := hb hp ⟨c, o, none⟩ h1
    rw [g.cell (p := ⟨c, o + i, none⟩) h2 hne]
    exact h3 i hi⟩
theorem Box.but {b c : Nat} {w w' : World} {u v : Value} (h : Box w b u v) (g : But c w w') (hne : b ≠ c) : Box w' b u v :=
  ⟨(g.cell (p := ⟨b, 0, none⟩) h.lt hne).trans h.z, (g.cell (p := ⟨b, 1, none⟩) h.lt hne).trans h.o, (g.frozen (p := ⟨b, 0, none⟩) h.lt hne).trans h.fz, (g.frozen (p := ⟨b, 1, none⟩) h.lt hne).trans h.fo, Nat.lt_of_lt_of_le h.lt g.size⟩
theorem Rd.but {w w' : World} {B b c : Nat} {l : List Int} {y : Int} (h : Rd w B b l y) (g : But c w w') (hc : c < B ∨ b < c) (hcb : c ≠ b) : Rd w' B b l y := by
  obtain ⟨⟨a, n, m, h1, h2, h3, h4⟩, h5⟩ := h
  exact ⟨⟨a, n, m, h1.but g (Ne.symm hcb), h2.but g (fun hn ad ha => by have := h4 hn ad ha; omega), h3, h4⟩, h5⟩
theorem Rd.kept {w w' : World} {B b : Nat} {l : List Int} {y : Int} (h : Rd w B b l y) (g : Kept w w') : Rd w' B b l y := by
  obtain ⟨⟨a, n, m, h1, h2, h3, h4⟩, h5⟩ := h
  exact ⟨⟨a, n, m, h1.kept g, h2.kept g, h3, h4⟩, h5⟩
theorem Rd.lt {w : World} {B b : Nat} {l : List Int} {y : Int} (h : Rd w B b l y) : b < w.heap.size := by
  obtain ⟨⟨a, n, m, h1, _⟩, _⟩ := h
  exact h1.lt

def str (l : List Int) : ByteArray := ⟨(l.map fun x => UInt8.ofNat x.toNat).toArray⟩
theorem str_byt (s : ByteArray) : str (byt s) = s := by
  have h : (byt s).map (fun x => UInt8.ofNat x.toNat) = s.data.toList := by
    unfold byt
    rw [List.map_map]
    conv => rhs; rw [← List.map_id s.data.toList]
    refine List.map_congr_left fun b _ => ?_
    simp
  unfold str
  rw [h]
theorem byt_str {l : List Int} (h : ∀ x ∈ l, isB x) : byt (str l) = l := by
  unfold byt str
  simp only [List.map_map]
  conv => rhs; rw [← List.map_id l]
  refine List.map_congr_left fun x hx => ?_
  have := h x hx
  unfold isB at this
  simp
  omega
theorem run_string_sl {w : World} {a : Option Addr} {n c : Nat} {l : List Int} (hs : Sl .u8 w a n l) (hb : ∀ x ∈ l, isB x) :
    (convert 33 9 (.slice a n c)).run Try.prog w = .ok (.string (str l)) w := by
  have hl := hs.len
  cases a with
  | none =>
    have hn : n = 0 := by
      by_cases hn : 0 < n
      · obtain ⟨b, o, e, _⟩ := hs.cells hn
        cases e
      · omega
    subst hn
    have : l = [] := List.eq_nil_of_length_eq_zero hl
    subst this
    rw [run_convert_bytes_string w _ _ 5 none 0 c Try.underlying33 Try.underlying5 Try.underlying9]
    rfl
  | some ad =>
    have h := run_convert_bytes_back (P := Try.prog) w 33 9 5 ad c (l.map fun x => UInt8.ofNat x.toNat) Try.underlying33 Try.underlying5 Try.underlying9 (fun j hj => by
      have hj' : j < l.length := by simpa using hj
      obtain ⟨b, o, e, _, hcs⟩ := hs.cells (by omega)
      cases e
      rw [Addr.add_lit, hcs j (by omega)]
      have hx := hb _ (getD_in hj')
      have e2 : l.getD j 0 = l[j] := by rw [List.getD_eq_getElem?_getD, List.getElem?_eq_getElem hj']; rfl
      rw [e2] at hx ⊢
      unfold isB at hx
      simp
      omega)
    rw [List.length_map, hl] at h
    exact h

end Go.Proofs.Ytapcmkhpbdphoaa
