/- The definition's space: rows of rows in memory, each in an interval of blocks of its own. -/
import Derived.Test.YtmmdfpafkmhgcaaGreatCoM1
namespace Go.Proofs.YtmmdfpafkmhgcaaGreat
open Go.RowKit Go.Maps
set_option linter.unusedSimpArgs false
set_option linter.unusedVariables false

/-- R holds, whatever happens outside the blocks from lo on up to ahead of hi. -/
structure Sol (lo hi : Nat) (R : World → Prop) (w : World) : Prop where
  hi_le : hi ≤ w.heap.size
  all : ∀ (S : Nat → Prop) (y : World), Chg S w y → (∀ j, lo ≤ j → j < hi → ¬ S j) → R y
theorem Sol.here {lo hi : Nat} {R : World → Prop} {w : World} (h : Sol lo hi R w) : R w := h.all (fun _ => False) w (Chg.refl _ w) (fun _ _ _ e => e)
theorem Sol.chg {lo hi : Nat} {R : World → Prop} {w y : World} {S : Nat → Prop} (h : Sol lo hi R w) (k : Chg S w y) (hS : ∀ j, lo ≤ j → j < hi → ¬ S j) : Sol lo hi R y :=
  ⟨Nat.le_trans h.hi_le k.size, fun S' z k' hS' => h.all (fun j => S j ∨ S' j) z ((k.mono (fun j _ e => .inl e)).trans (k'.mono (fun j _ e => .inr e))) (fun j h1 h2 e => by
    rcases e with e | e
    · exact hS j h1 h2 e
    · exact hS' j h1 h2 e)⟩
/-- A row of n values from block B on; what its k-th value reaches lies in an interval of its own. -/
structure Rw (w : World) (B : Nat) (e : TypeId) (v : Value) (n : Nat) (val : Nat → Value) (lo hi : Nat → Nat) (R : Nat → World → Prop) : Prop where
  own : w.ownsRow B e 1 v n ((List.range n).map val)
  el : ∀ k, k < n → Sol (lo k) (hi k) (R k) w ∧ (lo k < hi k → B ≤ lo k) ∧ ∀ g, v.ownBlock = some g → ¬ (lo k ≤ g ∧ g < hi k)
section
variable {w y : World} {B : Nat} {e : TypeId} {v : Value} {n : Nat} {val : Nat → Value} {lo hi : Nat → Nat} {R : Nat → World → Prop}
theorem rw_nil (w : World) (B : Nat) (e : TypeId) (val : Nat → Value) (lo hi : Nat → Nat) (R : Nat → World → Prop) : Rw w B e (.slice none 0 0) 0 val lo hi R := ⟨World.ownsRow_nil _ _ _ _, fun k hk => absurd hk (by omega)⟩
theorem Rw.lt (h : Rw w B e v n val lo hi R) : ∀ g, v.ownBlock = some g → B ≤ g ∧ g < w.heap.size := World.ownsRow.lt h.own
theorem Rw.form (h : Rw w B e v n val lo hi R) : ∃ a c, v = .slice a n c := ownsRow_form h.own
theorem Rw.chg {S : Nat → Prop} (h : Rw w B e v n val lo hi R) (k : Chg S w y) (h1 : ∀ g, v.ownBlock = some g → ¬ S g) (h2 : ∀ i, i < n → ∀ j, lo i ≤ j → j < hi i → ¬ S j) : Rw y B e v n val lo hi R :=
  ⟨ownsRow_chg h.own k h1, fun i hi' => ⟨(h.el i hi').1.chg k (h2 i hi'), (h.el i hi').2⟩⟩
theorem Rw.kept (h : Rw w B e v n val lo hi R) (k : Kept w y) : Rw y B e v n val lo hi R := h.chg (S := fun _ => False) (Chg.of_kept k) (fun _ _ e => e) (fun _ _ _ _ _ e => e)
/-- All of it lies from B on. -/
theorem Rw.sol (h : Rw w B e v n val lo hi R) : Sol B w.heap.size (fun y => Rw y B e v n val lo hi R) w :=
  ⟨Nat.le_refl _, fun S y k hS => h.chg k (fun g hg => by have := h.lt g hg; exact hS g this.1 this.2) (fun i hi' j h1 h2 => by
    have h3 := (h.el i hi').2.1 (by omega)
    have h4 := (h.el i hi').1.hi_le
    exact hS j (by omega) (by omega))⟩
/-- What a value is, where the row is not empty. -/
theorem Rw.cell (h : Rw w B e v n val lo hi R) {a : Option Addr} {c : Nat} (hv : v = .slice a n c) {k : Nat} (hk : k < n) : ∃ g, a = some ⟨g, 0, none⟩ ∧ B ≤ g ∧ g < w.heap.size ∧ w.cell? ⟨g, k, none⟩ = some (val k) := by
  subst hv
  obtain ⟨g, cap, e', h1, h2⟩ := h.own.form (by omega)
  cases e'
  exact ⟨g, rfl, h1, h2, by rw [h.own.cellAt k (by omega)]; simp [hk]⟩
/-- One more value behind the row. -/
theorem Rw.next (h : Rw w B e v n val lo hi R) {x : Value} {l u : Nat} {Q : World → Prop} (hs : Sol l u Q w) (hB : l < u → B ≤ l) (hx : ∀ g, v.ownBlock = some g → ¬ (l ≤ g ∧ g < u)) {g' cap : Nat}
    (h2 : y.ownsRow B e 1 (.slice (some ⟨g', 0, none⟩) (n + 1) cap) (n + 1) ((List.range n).map val ++ [x])) (h3 : Chg (fun k => v.ownBlock = some k) w y) (h4 : v.ownBlock = some g' ∨ g' = w.heap.size) :
    Rw y B e (.slice (some ⟨g', 0, none⟩) (n + 1) cap) (n + 1) (fun k => if k = n then x else val k) (fun k => if k = n then l else lo k) (fun k => if k = n then u else hi k) (fun k => if k = n then Q else R k) := by
  refine ⟨?_, fun k hk => ?_⟩
  · have e : (List.range (n + 1)).map (fun k => if k = n then x else val k) = (List.range n).map val ++ [x] := by
      rw [List.range_succ, List.map_append]
      congr 1
      · apply List.map_congr_left
        intro k hk
        rw [List.mem_range] at hk
        have e : ¬ k = n := by omega
        simp only [if_neg e]
      · simp
    rw [e]
    exact h2
  · have hg : ∀ g, (Value.slice (some ⟨g', 0, none⟩) (n + 1) cap).ownBlock = some g → g = g' := fun g hg => by simp only [Value.ownBlock, Option.some.injEq] at hg; exact hg.symm
    by_cases e : k = n
    · subst e
      simp only [if_true]
      refine ⟨hs.chg h3 (fun j h5 h6 e => hx j e ⟨h5, h6⟩), hB, fun g hgg => ?_⟩
      rw [hg g hgg]
      rcases h4 with h4 | h4
      · exact hx g' h4
      · have := hs.hi_le; omega
    · simp only [if_neg e]
      obtain ⟨e1, e2, e3⟩ := h.el k (by omega)
      refine ⟨e1.chg h3 (fun j h5 h6 e => e3 j e ⟨h5, h6⟩), e2, fun g hgg => ?_⟩
      rw [hg g hgg]
      rcases h4 with h4 | h4
      · exact e3 g' h4
      · have := e1.hi_le; omega
end
/-- Two rows: no block of the one's own is the other's. -/
def Apt (v : Value) (v' : Value) (n' : Nat) (lo' hi' : Nat → Nat) : Prop := ∀ g, v.ownBlock = some g → v'.ownBlock ≠ some g ∧ ∀ k, k < n' → ¬ (lo' k ≤ g ∧ g < hi' k)
theorem sol_true (w : World) : Sol 0 0 (fun _ => True) w := ⟨Nat.zero_le _, fun _ _ _ _ => trivial⟩
/-- A row of numbers, as such a row. -/
def RwI (w : World) (B : Nat) (v : Value) (l : List Int) : Prop := Rw w B 3 v l.length (fun k => .int .i64 (l.getD k 0)) (fun _ => 0) (fun _ => 0) (fun _ _ => True)
theorem ints_vals (l : List Int) : (List.range l.length).map (fun k => Value.int .i64 (l.getD k 0)) = l.map (Value.int .i64) := by
  apply List.ext_getElem
  · simp
  · intro j h1 h2
    simp at h1 h2
    simp [List.getD, List.getElem?_eq_getElem h2]
theorem rwI_of {w : World} {B : Nat} {v : Value} {l : List Int} (h : OwnI w B v l) : RwI w B v l := ⟨by rw [ints_vals]; exact h, fun k hk => ⟨sol_true w, fun e => absurd e (by omega), fun g _ e => by omega⟩⟩
theorem RwI.own' {w : World} {B : Nat} {v : Value} {l : List Int} (h : RwI w B v l) : OwnI w B v l := by have := h.own; rw [ints_vals] at this; exact this
theorem Rw.imp {w : World} {B : Nat} {e : TypeId} {v : Value} {n : Nat} {val : Nat → Value} {lo hi : Nat → Nat} {R R' : Nat → World → Prop} (h : Rw w B e v n val lo hi R) (hR : ∀ k, k < n → ∀ y, R k y → R' k y) : Rw w B e v n val lo hi R' :=
  ⟨h.own, fun k hk => ⟨⟨(h.el k hk).1.hi_le, fun S y c hS => hR k hk y ((h.el k hk).1.all S y c hS)⟩, (h.el k hk).2⟩⟩
/-- What a type's one cell is at first. -/
def One (e : TypeId) (z : Value) (bytes : Nat) : Prop := ∃ i0, Tryz.prog.info? e = some i0 ∧ i0.zero = some z ∧ i0.size = 1 ∧ i0.bytes = bytes
theorem one_of {e : TypeId} {z : Value} {bytes : Nat} (h : (Tryz.prog.info? e).map (fun i => (i.zero, i.size, i.bytes)) = some (some z, 1, bytes)) : One e z bytes := info_parts h
/-- One more value behind a row. -/
theorem wpList_pushR {ops : Array Oper} {rest : List Oper} {o : Oper} {a : Act} {Q : Exit → Act → World → Prop} (w : World) (hgd : o.guard = none) (s x : Operand) (t e : TypeId)
    (ho : o.op = .call { callee := .builtin .append, args := #[s, x], argTypes := #[t, t] }) (z : Value) (bytes : Nat) (hu : Tryz.prog.underlying t = some (.slice e)) (hi0 : One e z bytes) (hz : z.cells.size = 1) (hby : bytes ≤ 100)
    (B : Nat) (v : Value) (n : Nat) (val : Nat → Value) (lo hi : Nat → Nat) (R : Nat → World → Prop) (hs : a.eval s = v) (hv : Rw w B e v n val lo hi R) (hB : B ≤ w.heap.size) (g : Nat) (xv : Value) (hx : a.eval x = .slice (some ⟨g, 0, none⟩) 1 1) (hcell : w.cell? ⟨g, 0, none⟩ = some xv) (h1 : xv.oneCell' = true)
    (l u : Nat) (P : World → Prop) (hP : Sol l u P w) (hPB : l < u → B ≤ l) (hPx : ∀ g, v.ownBlock = some g → ¬ (l ≤ g ∧ g < u)) (hn : n ≤ 1000)
    (h : ∀ g' cap w', Rw w' B e (.slice (some ⟨g', 0, none⟩) (n + 1) cap) (n + 1) (fun k => if k = n then xv else val k) (fun k => if k = n then l else lo k) (fun k => if k = n then u else hi k) (fun k => if k = n then P else R k) → Chg (fun k => v.ownBlock = some k) w w' → (v.ownBlock = some g' ∨ g' = w.heap.size) → wpList Tryz.prog ops Q rest (a.put o.dst (.slice (some ⟨g', 0, none⟩) (n + 1) cap)) w') : wpList Tryz.prog ops Q (o :: rest) a w := by
  obtain ⟨i0, hi1, hz0, hz1, hz2⟩ := hi0
  refine wpList_append_lies w hgd s x t ho B e i0 z 1 bytes hu hi1 hz0 hz1 hz2 hz (by decide) v _ _ hs hv.own ⟨g, 0, none⟩ 1 1 [xv] hx rfl (one_news hcell) (by intro u hu; simp at hu; subst hu; exact h1) (by omega) (by unfold maxLen; omega) (Nat.le_trans (Nat.mul_le_mul (show n + 1 ≤ 1001 by omega) hby) (by decide)) hB w.heap.size rfl ?_
  intro g' cap w' h2 h3 h4 h5
  have hc : Chg (fun k => v.ownBlock = some k) w w' := (Chg.refl _ w).grown h3 (fun k hk => .inl hk)
  exact h g' cap w' (hv.next hP hPB hPx h2 hc h4) hc h4
theorem step_pushR {ops : Array Oper} {o : Oper} {a : Act} {K : Act → World → Prop} {Q : Exit → Act → World → Prop} {E : Prop} (w : World) (hgd : o.guard = none) (s x : Operand) (t e : TypeId)
    (ho : o.op = .call { callee := .builtin .append, args := #[s, x], argTypes := #[t, t] }) (z : Value) (bytes : Nat) (hu : Tryz.prog.underlying t = some (.slice e)) (hi0 : One e z bytes) (hz : z.cells.size = 1) (hby : bytes ≤ 100)
    (B : Nat) (v : Value) (n : Nat) (val : Nat → Value) (lo hi : Nat → Nat) (R : Nat → World → Prop) (hs : a.eval s = v) (hv : Rw w B e v n val lo hi R) (hB : B ≤ w.heap.size) (g : Nat) (xv : Value) (hx : a.eval x = .slice (some ⟨g, 0, none⟩) 1 1) (hcell : w.cell? ⟨g, 0, none⟩ = some xv) (h1 : xv.oneCell' = true)
    (l u : Nat) (P : World → Prop) (hP : Sol l u P w) (hPB : l < u → B ≤ l) (hPx : ∀ g, v.ownBlock = some g → ¬ (l ≤ g ∧ g < u)) (hn : n ≤ 1000)
    (h : ∀ g' cap w', Rw w' B e (.slice (some ⟨g', 0, none⟩) (n + 1) cap) (n + 1) (fun k => if k = n then xv else val k) (fun k => if k = n then l else lo k) (fun k => if k = n then u else hi k) (fun k => if k = n then P else R k) → Chg (fun k => v.ownBlock = some k) w w' → (v.ownBlock = some g' ∨ g' = w.heap.size) → K (a.put o.dst (.slice (some ⟨g', 0, none⟩) (n + 1) cap)) w') :
    if Region.wanted o (yielded ops a.tmps) = true then Oper.wp Tryz.prog o a w K Q else E := by
  obtain ⟨i0, hi1, hz0, hz1, hz2⟩ := hi0
  refine step_append_lies w hgd s x t ho B e i0 z 1 bytes hu hi1 hz0 hz1 hz2 hz (by decide) v _ _ hs hv.own ⟨g, 0, none⟩ 1 1 [xv] hx rfl (one_news hcell) (by intro u hu; simp at hu; subst hu; exact h1) (by omega) (by unfold maxLen; omega) (Nat.le_trans (Nat.mul_le_mul (show n + 1 ≤ 1001 by omega) hby) (by decide)) hB w.heap.size rfl ?_
  intro g' cap w' h2 h3 h4 h5
  have hc : Chg (fun k => v.ownBlock = some k) w w' := (Chg.refl _ w).grown h3 (fun k hk => .inl hk)
  exact h g' cap w' (hv.next hP hPB hPx h2 hc h4) hc h4
theorem one_int : One 3 (.int .i64 0) 8 := one_of (by kernel_rfl)
theorem one_ints : One 40 (.slice none 0 0) 24 := one_of (by kernel_rfl)
theorem one_bool : One 4 (.bool false) 1 := one_of (by kernel_rfl)
theorem one_bools : One 64 (.slice none 0 0) 24 := one_of (by kernel_rfl)
theorem one_bools2 : One 96 (.slice none 0 0) 24 := one_of (by kernel_rfl)
/-- A row of bools. -/
def RwB (w : World) (B : Nat) (v : Value) (l : List Bool) : Prop := Rw w B 4 v l.length (fun k => .bool (l.getD k false)) (fun _ => 0) (fun _ => 0) (fun _ _ => True)
/-- The ranks of a tree's members; which members one is within. -/
def rkL (l : List Nd) : List Int := (List.range l.length).map fun (i : Nat) => rankI l i
def inR (l : List Nd) (i : Nat) : List Bool := (List.range l.length).map fun (j : Nat) => decide ((j : Int) ∈ abvA l (i : Int))
theorem rkL_len (l : List Nd) : (rkL l).length = l.length := by simp [rkL]
theorem inR_len (l : List Nd) (i : Nat) : (inR l i).length = l.length := by simp [inR]
theorem rkL_get {l : List Nd} {i : Nat} (h : i < l.length) : (rkL l).getD i 0 = rankI l i := by simp [rkL, List.getD, h]
theorem inR_get {l : List Nd} {i j : Nat} (h : j < l.length) : (inR l i).getD j false = decide ((j : Int) ∈ abvA l (i : Int)) := by simp [inR, List.getD, h]
def RwT (w : World) (B : Nat) (v : Value) (l : List Nd) : Prop := ∃ val lo hi, Rw w B 64 v l.length val lo hi (fun i y => RwB y (lo i) (val i) (inR l i))
theorem apt_new {w : World} {B : Nat} {e : TypeId} {v v' : Value} {n' : Nat} {val : Nat → Value} {lo' hi' : Nat → Nat} {R : Nat → World → Prop} (h : Apt v v' n' lo' hi') (hr : Rw w B e v' n' val lo' hi' R) {g' n cap : Nat} (h4 : v.ownBlock = some g' ∨ g' = w.heap.size) : Apt (.slice (some ⟨g', 0, none⟩) n cap) v' n' lo' hi' := fun g hg => by
  have e : g = g' := by simp only [Value.ownBlock, Option.some.injEq] at hg; exact hg.symm
  subst e
  rcases h4 with h4 | h4
  · exact h g h4
  · refine ⟨fun e => by have := (hr.lt g e).2; omega, fun k hk e => by have := (hr.el k hk).1.hi_le; omega⟩
theorem apt_old {w : World} {B : Nat} {e : TypeId} {v v' : Value} {n n' : Nat} {val : Nat → Value} {lo hi lo' hi' : Nat → Nat} {R : Nat → World → Prop} (h : Apt v v' n' lo' hi') (hr : Rw w B e v n val lo hi R) {g' cap l u : Nat} (h4 : v'.ownBlock = some g' ∨ g' = w.heap.size) (hx : ∀ g, v.ownBlock = some g → ¬ (l ≤ g ∧ g < u)) : Apt v (.slice (some ⟨g', 0, none⟩) (n' + 1) cap) (n' + 1) (fun k => if k = n' then l else lo' k) (fun k => if k = n' then u else hi' k) := fun g hg => by
  refine ⟨fun e => ?_, fun k hk => ?_⟩
  · have e' : g' = g := by simpa only [Value.ownBlock, Option.some.injEq] using e
    subst e'
    rcases h4 with h4 | h4
    · exact (h g' hg).1 h4
    · have := (hr.lt g' hg).2; omega
  · by_cases e : k = n'
    · subst e; simp only [if_true]; exact hx g hg
    · simp only [if_neg e]; exact (h g hg).2 k (by omega)
/-- The tables of the first dimensions. -/
structure RTab (w : World) (B : Nat) (ds : List Dm) (n1 n2 n3 : Nat) (v1 v2 v3 : Value) (x1 x2 x3 : Nat → Value) (l1 l2 l3 u1 u2 u3 : Nat → Nat) : Prop where
  r1 : Rw w B 40 v1 n1 x1 l1 u1 (fun k y => RwI y (l1 k) (x1 k) (ints (lvsN (dmL ds k))))
  r2 : Rw w B 40 v2 n2 x2 l2 u2 (fun k y => RwI y (l2 k) (x2 k) (rkL (dmL ds k)))
  r3 : Rw w B 96 v3 n3 x3 l3 u3 (fun k y => RwT y (l3 k) (x3 k) (dmL ds k))
  a12 : Apt v1 v2 n2 l2 u2
  a13 : Apt v1 v3 n3 l3 u3
  a21 : Apt v2 v1 n1 l1 u1
  a23 : Apt v2 v3 n3 l3 u3
  a31 : Apt v3 v1 n1 l1 u1
  a32 : Apt v3 v2 n2 l2 u2
section
variable {w y : World} {B : Nat} {ds : List Dm} {n1 n2 n3 : Nat} {v1 v2 v3 : Value} {x1 x2 x3 : Nat → Value} {l1 l2 l3 u1 u2 u3 : Nat → Nat}
theorem RTab.kept (h : RTab w B ds n1 n2 n3 v1 v2 v3 x1 x2 x3 l1 l2 l3 u1 u2 u3) (k : Kept w y) : RTab y B ds n1 n2 n3 v1 v2 v3 x1 x2 x3 l1 l2 l3 u1 u2 u3 :=
  ⟨h.r1.kept k, h.r2.kept k, h.r3.kept k, h.a12, h.a13, h.a21, h.a23, h.a31, h.a32⟩
theorem RTab.chg {S : Nat → Prop} (h : RTab w B ds n1 n2 n3 v1 v2 v3 x1 x2 x3 l1 l2 l3 u1 u2 u3) (k : Chg S w y) (hS : ∀ j, S j → j < B) : RTab y B ds n1 n2 n3 v1 v2 v3 x1 x2 x3 l1 l2 l3 u1 u2 u3 := by
  have f : ∀ {e : TypeId} {v : Value} {n : Nat} {val : Nat → Value} {lo hi : Nat → Nat} {R : Nat → World → Prop}, Rw w B e v n val lo hi R → Rw y B e v n val lo hi R := fun hr => hr.chg k (fun g hg e => by have h1 := (hr.lt g hg).1; have h2 := hS g e; omega) (fun i hi j h1 h2 e => by have h3 := (hr.el i hi).2.1 (by omega); have h4 := hS j e; omega)
  exact ⟨f h.r1, f h.r2, f h.r3, h.a12, h.a13, h.a21, h.a23, h.a31, h.a32⟩
theorem RTab.push1 (h : RTab w B ds n1 n2 n3 v1 v2 v3 x1 x2 x3 l1 l2 l3 u1 u2 u3) {x : Value} {l u g' cap : Nat} (hr : Rw y B 40 (.slice (some ⟨g', 0, none⟩) (n1 + 1) cap) (n1 + 1) (fun k => if k = n1 then x else x1 k) (fun k => if k = n1 then l else l1 k) (fun k => if k = n1 then u else u1 k) (fun k => if k = n1 then (fun y => RwI y l x (ints (lvsN (dmL ds n1)))) else (fun k y => RwI y (l1 k) (x1 k) (ints (lvsN (dmL ds k)))) k))
    (hc : Chg (fun k => v1.ownBlock = some k) w y) (h4 : v1.ownBlock = some g' ∨ g' = w.heap.size) (hx : ∀ g, (v2.ownBlock = some g ∨ v3.ownBlock = some g) → ¬ (l ≤ g ∧ g < u)) : RTab y B ds (n1 + 1) n2 n3 (.slice (some ⟨g', 0, none⟩) (n1 + 1) cap) v2 v3 (fun k => if k = n1 then x else x1 k) x2 x3 (fun k => if k = n1 then l else l1 k) l2 l3 (fun k => if k = n1 then u else u1 k) u2 u3 := by
  have hr' := hr.imp (R' := fun k y => RwI y ((fun k => if k = n1 then l else l1 k) k) ((fun k => if k = n1 then x else x1 k) k) (ints (lvsN (dmL ds k)))) (fun k hk y hh => by
    by_cases e : k = n1
    · subst e; simpa using hh
    · simp only [if_neg e] at hh ⊢; exact hh)
  have c2 := h.r2.chg hc (fun g hg e => (h.a12 g e).1 hg) (fun i hi j h1 h2 e => (h.a12 j e).2 i hi ⟨h1, h2⟩)
  have c3 := h.r3.chg hc (fun g hg e => (h.a13 g e).1 hg) (fun i hi j h1 h2 e => (h.a13 j e).2 i hi ⟨h1, h2⟩)
  have p2 := apt_new (n := n1 + 1) (cap := cap) h.a12 h.r2 h4
  have p3 := apt_new (n := n1 + 1) (cap := cap) h.a13 h.r3 h4
  have q2 := apt_old (cap := cap) h.a21 h.r2 h4 (fun g hg => hx g (.inl hg))
  have q3 := apt_old (cap := cap) h.a31 h.r3 h4 (fun g hg => hx g (.inr hg))
  exact ⟨hr', c2, c3, p2, p3, q2, h.a23, q3, h.a32⟩
theorem RTab.push2 (h : RTab w B ds n1 n2 n3 v1 v2 v3 x1 x2 x3 l1 l2 l3 u1 u2 u3) {x : Value} {l u g' cap : Nat} (hr : Rw y B 40 (.slice (some ⟨g', 0, none⟩) (n2 + 1) cap) (n2 + 1) (fun k => if k = n2 then x else x2 k) (fun k => if k = n2 then l else l2 k) (fun k => if k = n2 then u else u2 k) (fun k => if k = n2 then (fun y => RwI y l x (rkL (dmL ds n2))) else (fun k y => RwI y (l2 k) (x2 k) (rkL (dmL ds k))) k))
    (hc : Chg (fun k => v2.ownBlock = some k) w y) (h4 : v2.ownBlock = some g' ∨ g' = w.heap.size) (hx : ∀ g, (v1.ownBlock = some g ∨ v3.ownBlock = some g) → ¬ (l ≤ g ∧ g < u)) : RTab y B ds n1 (n2 + 1) n3 v1 (.slice (some ⟨g', 0, none⟩) (n2 + 1) cap) v3 x1 (fun k => if k = n2 then x else x2 k) x3 l1 (fun k => if k = n2 then l else l2 k) l3 u1 (fun k => if k = n2 then u else u2 k) u3 := by
  have hr' := hr.imp (R' := fun k y => RwI y ((fun k => if k = n2 then l else l2 k) k) ((fun k => if k = n2 then x else x2 k) k) (rkL (dmL ds k))) (fun k hk y hh => by
    by_cases e : k = n2
    · subst e; simpa using hh
    · simp only [if_neg e] at hh ⊢; exact hh)
  have c1 := h.r1.chg hc (fun g hg e => (h.a21 g e).1 hg) (fun i hi j h1 h2 e => (h.a21 j e).2 i hi ⟨h1, h2⟩)
  have c3 := h.r3.chg hc (fun g hg e => (h.a23 g e).1 hg) (fun i hi j h1 h2 e => (h.a23 j e).2 i hi ⟨h1, h2⟩)
  have p1 := apt_new (n := n2 + 1) (cap := cap) h.a21 h.r1 h4
  have p3 := apt_new (n := n2 + 1) (cap := cap) h.a23 h.r3 h4
  have q1 := apt_old (cap := cap) h.a12 h.r1 h4 (fun g hg => hx g (.inl hg))
  have q3 := apt_old (cap := cap) h.a32 h.r3 h4 (fun g hg => hx g (.inr hg))
  exact ⟨c1, hr', c3, q1, h.a13, p1, p3, h.a31, q3⟩
theorem RTab.push3 (h : RTab w B ds n1 n2 n3 v1 v2 v3 x1 x2 x3 l1 l2 l3 u1 u2 u3) {x : Value} {l u g' cap : Nat} (hr : Rw y B 96 (.slice (some ⟨g', 0, none⟩) (n3 + 1) cap) (n3 + 1) (fun k => if k = n3 then x else x3 k) (fun k => if k = n3 then l else l3 k) (fun k => if k = n3 then u else u3 k) (fun k => if k = n3 then (fun y => RwT y l x (dmL ds n3)) else (fun k y => RwT y (l3 k) (x3 k) (dmL ds k)) k))
    (hc : Chg (fun k => v3.ownBlock = some k) w y) (h4 : v3.ownBlock = some g' ∨ g' = w.heap.size) (hx : ∀ g, (v1.ownBlock = some g ∨ v2.ownBlock = some g) → ¬ (l ≤ g ∧ g < u)) : RTab y B ds n1 n2 (n3 + 1) v1 v2 (.slice (some ⟨g', 0, none⟩) (n3 + 1) cap) x1 x2 (fun k => if k = n3 then x else x3 k) l1 l2 (fun k => if k = n3 then l else l3 k) u1 u2 (fun k => if k = n3 then u else u3 k) := by
  have hr' := hr.imp (R' := fun k y => RwT y ((fun k => if k = n3 then l else l3 k) k) ((fun k => if k = n3 then x else x3 k) k) (dmL ds k)) (fun k hk y hh => by
    by_cases e : k = n3
    · subst e; simpa using hh
    · simp only [if_neg e] at hh ⊢; exact hh)
  have c1 := h.r1.chg hc (fun g hg e => (h.a31 g e).1 hg) (fun i hi j h1 h2 e => (h.a31 j e).2 i hi ⟨h1, h2⟩)
  have c2 := h.r2.chg hc (fun g hg e => (h.a32 g e).1 hg) (fun i hi j h1 h2 e => (h.a32 j e).2 i hi ⟨h1, h2⟩)
  have p1 := apt_new (n := n3 + 1) (cap := cap) h.a31 h.r1 h4
  have p2 := apt_new (n := n3 + 1) (cap := cap) h.a32 h.r2 h4
  have q1 := apt_old (cap := cap) h.a13 h.r1 h4 (fun g hg => hx g (.inl hg))
  have q2 := apt_old (cap := cap) h.a23 h.r2 h4 (fun g hg => hx g (.inr hg))
  exact ⟨c1, c2, hr', h.a12, q1, h.a21, q2, p1, p2⟩
end
end Go.Proofs.YtmmdfpafkmhgcaaGreat
