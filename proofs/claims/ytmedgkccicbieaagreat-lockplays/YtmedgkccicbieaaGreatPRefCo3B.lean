/- The definition's space: rows of rows in memory, each in an interval of blocks of its own. · The definition's space: prepare. · The definition's space: Leaves, Cells, Index, Code. -/
import Derived.Test.YtmedgkccicbieaaGreatPTk
import Derived.Test.YtmedgkccicbieaaGreatPCoM1
namespace Go.Proofs.YtmedgkccicbieaaGreat
open Go.RowKit Go.Maps
set_option linter.unusedSimpArgs false
set_option linter.unusedVariables false

structure Sol (lo hi : Nat) (R : World → Prop) (w : World) : Prop where
  hi_le : hi ≤ w.heap.size
  all : ∀ (S : Nat → Prop) (y : World), Chg S w y → (∀ j, lo ≤ j → j < hi → ¬ S j) → R y
theorem Sol.here {lo hi : Nat} {R : World → Prop} {w : World} (h : Sol lo hi R w) : R w := h.all (fun _ => False) w (Chg.refl _ w) (fun _ _ _ e => e)
theorem Sol.chg {lo hi : Nat} {R : World → Prop} {w y : World} {S : Nat → Prop} (h : Sol lo hi R w) (k : Chg S w y) (hS : ∀ j, lo ≤ j → j < hi → ¬ S j) : Sol lo hi R y :=
  ⟨Nat.le_trans h.hi_le k.size, fun S' z k' hS' => h.all (fun j => S j ∨ S' j) z ((k.mono (fun j _ e => .inl e)).trans (k'.mono (fun j _ e => .inr e))) (fun j h1 h2 e => by
    rcases e with e | e
    · exact hS j h1 h2 e
    · exact hS' j h1 h2 e)⟩
structure Rw (w : World) (B : Nat) (e : TypeId) (v : Value) (n : Nat) (val : Nat → Value) (lo hi : Nat → Nat) (R : Nat → World → Prop) : Prop where
  own : w.ownsRow B e 1 v n ((List.range n).map val)
  el : ∀ k, k < n → Sol (lo k) (hi k) (R k) w ∧ (lo k < hi k → B ≤ lo k) ∧ ∀ g, v.ownBlock = some g → ¬ (lo k ≤ g ∧ g < hi k)
section
variable {w y : World} {B : Nat} {e : TypeId} {v : Value} {n : Nat} {val : Nat → Value} {lo hi : Nat → Nat} {R : Nat → World → Prop}
theorem rw_nil (w : World) (B : Nat) (e : TypeId) (val : Nat → Value) (lo hi : Nat → Nat) (R : Nat → World → Prop) : Rw w B e (.slice none 0 0) 0 val lo hi R := ⟨World.ownsRow_nil _ _ _ _, fun k hk => absurd hk (by omega)⟩
theorem Rw.lt (h : Rw w B e v n val lo hi R) : ∀ g, v.ownBlock = some g → B ≤ g ∧ g < w.heap.size := World.ownsRow.lt h.own
theorem Rw.form (h : Rw w B e v n val lo hi R) : ∃ a c, v = .slice a n c := ownsRow_form h.own
theorem Rw.chg {S : Nat → Prop} (h : Rw w B e v n val lo hi R) (k : Chg S w y) (h1 : ∀ g, v.ownBlock = some g → ¬ S g) (h2 : ∀ i, i < n → ∀ j, lo i ≤ j → j < hi i → ¬ S j) : Rw y B e v n val lo hi R :=
  ⟨ownsRow_chg h.own k h1, fun i hi' => ⟨(h.el i hi').1.chg k (h2 i hi'), (h.el i hi').2⟩⟩
theorem Rw.kept (h : Rw w B e v n val lo hi R) (k : Kept w y) : Rw y B e v n val lo hi R := h.chg (S := fun _ => False) (Chg.of_kept k) (fun _ _ e => e) (fun _ _ _ _ _ e => e)
theorem Rw.sol (h : Rw w B e v n val lo hi R) : Sol B w.heap.size (fun y => Rw y B e v n val lo hi R) w :=
  ⟨Nat.le_refl _, fun S y k hS => h.chg k (fun g hg => by have := h.lt g hg; exact hS g this.1 this.2) (fun i hi' j h1 h2 => by
    have h3 := (h.el i hi').2.1 (by omega)
    have h4 := (h.el i hi').1.hi_le
    exact hS j (by omega) (by omega))⟩
theorem Rw.cell (h : Rw w B e v n val lo hi R) {a : Option Addr} {c : Nat} (hv : v = .slice a n c) {k : Nat} (hk : k < n) : ∃ g, a = some ⟨g, 0, none⟩ ∧ B ≤ g ∧ g < w.heap.size ∧ w.cell? ⟨g, k, none⟩ = some (val k) := by
  subst hv
  obtain ⟨g, cap, e', h1, h2⟩ := h.own.form (by omega)
  cases e'
  exact ⟨g, rfl, h1, h2, by rw [h.own.cellAt k (by omega)]; simp [hk]⟩
theorem Rw.next (h : Rw w B e v n val lo hi R) {x : Value} {l u : Nat} {Q : World → Prop} (hs : Sol l u Q w) (hB : l < u → B ≤ l) (hx : ∀ g, v.ownBlock = some g → ¬ (l ≤ g ∧ g < u)) {g' cap : Nat}
    (h2 : y.ownsRow B e 1 (.slice (some ⟨g', 0, none⟩) (n + 1) cap) (n + 1) ((List.range n).map val ++ [x])) (h3 : Chg (fun k => v.ownBlock = some k) w y) (h4 : v.ownBlock = some g' ∨ g' = w.heap.size) :
    Rw y B e (.slice (some ⟨g', 0, none⟩) (n + 1) cap) (n + 1) (fun k => if k = n then x else val k) (fun k => if k = n then l else lo k) (fun k => if k = n then u else hi k) (fun k => if k = n then Q else R k) := by
  refine ⟨?_, fun k hk => ?_⟩
  · have e : (List.range (n + 1)).map (fun k => if k = n then x else val k) = (List.range n).map val ++ [x] := by
      rw [List.range_succ, List.map_append]
      congr 1
      · apply List.map_congr_left
        intro k hk
        rw [List.mem_range] at hk
        have e : ¬ k = n := by omega
        simp only [if_neg e]
      · simp
    rw [e]
    exact h2
  · have hg : ∀ g, (Value.slice (some ⟨g', 0, none⟩) (n + 1) cap).ownBlock = some g → g = g' := fun g hg => by simp only [Value.ownBlock, Option.some.injEq] at hg; exact hg.symm
    by_cases e : k = n
    · subst e
      simp only [if_true]
      refine ⟨hs.chg h3 (fun j h5 h6 e => hx j e ⟨h5, h6⟩), hB, fun g hgg => ?_⟩
      rw [hg g hgg]
      rcases h4 with h4 | h4
      · exact hx g' h4
      · have := hs.hi_le; omega
    · simp only [if_neg e]
      obtain ⟨e1, e2, e3⟩ := h.el k (by omega)
      refine ⟨e1.chg h3 (fun j h5 h6 e => e3 j e ⟨h5, h6⟩), e2, fun g hgg => ?_⟩
      rw [hg g hgg]
      rcases h4 with h4 | h4
      · exact e3 g' h4
      · have := e1.hi_le; omega
end
def Apt (v : Value) (v' : Value) (n' : Nat) (lo' hi' : Nat → Nat) : Prop := ∀ g, v.ownBlock = some g → v'.ownBlock ≠ some g ∧ ∀ k, k < n' → ¬ (lo' k ≤ g ∧ g < hi' k)
theorem sol_true (w : World) : Sol 0 0 (fun _ => True) w := ⟨Nat.zero_le _, fun _ _ _ _ => trivial⟩
def RwI (w : World) (B : Nat) (v : Value) (l : List Int) : Prop := Rw w B 3 v l.length (fun k => .int .i64 (l.getD k 0)) (fun _ => 0) (fun _ => 0) (fun _ _ => True)
theorem ints_vals (l : List Int) : (List.range l.length).map (fun k => Value.int .i64 (l.getD k 0)) = l.map (Value.int .i64) := by
  apply List.ext_getElem
  · simp
  · intro j h1 h2
    simp at h1 h2
    simp [List.getD, List.getElem?_eq_getElem h2]
theorem rwI_of {w : World} {B : Nat} {v : Value} {l : List Int} (h : OwnI w B v l) : RwI w B v l := ⟨by rw [ints_vals]; exact h, fun k hk => ⟨sol_true w, fun e => absurd e (by omega), fun g _ e => by omega⟩⟩
theorem RwI.own' {w : World} {B : Nat} {v : Value} {l : List Int} (h : RwI w B v l) : OwnI w B v l := by have := h.own; rw [ints_vals] at this; exact this
theorem Rw.imp {w : World} {B : Nat} {e : TypeId} {v : Value} {n : Nat} {val : Nat → Value} {lo hi : Nat → Nat} {R R' : Nat → World → Prop} (h : Rw w B e v n val lo hi R) (hR : ∀ k, k < n → ∀ y, R k y → R' k y) : Rw w B e v n val lo hi R' :=
  ⟨h.own, fun k hk => ⟨⟨(h.el k hk).1.hi_le, fun S y c hS => hR k hk y ((h.el k hk).1.all S y c hS)⟩, (h.el k hk).2⟩⟩
def One (e : TypeId) (z : Value) (bytes : Nat) : Prop := ∃ i0, Tryz.prog.info? e = some i0 ∧ i0.zero = some z ∧ i0.size = 1 ∧ i0.bytes = bytes
theorem one_of {e : TypeId} {z : Value} {bytes : Nat} (h : (Tryz.prog.info? e).map (fun i => (i.zero, i.size, i.bytes)) = some (some z, 1, bytes)) : One e z bytes := info_parts h
theorem wpList_pushR {ops : Array Oper} {rest : List Oper} {o : Oper} {a : Act} {Q : Exit → Act → World → Prop} (w : World) (hgd : o.guard = none) (s x : Operand) (t e : TypeId)
    (ho : o.op = .call { callee := .builtin .append, args := #[s, x], argTypes := #[t, t] }) (z : Value) (bytes : Nat) (hu : Tryz.prog.underlying t = some (.slice e)) (hi0 : One e z bytes) (hz : z.cells.size = 1) (hby : bytes ≤ 100)
    (B : Nat) (v : Value) (n : Nat) (val : Nat → Value) (lo hi : Nat → Nat) (R : Nat → World → Prop) (hs : a.eval s = v) (hv : Rw w B e v n val lo hi R) (hB : B ≤ w.heap.size) (g : Nat) (xv : Value) (hx : a.eval x = .slice (some ⟨g, 0, none⟩) 1 1) (hcell : w.cell? ⟨g, 0, none⟩ = some xv) (h1 : xv.oneCell' = true)
    (l u : Nat) (P : World → Prop) (hP : Sol l u P w) (hPB : l < u → B ≤ l) (hPx : ∀ g, v.ownBlock = some g → ¬ (l ≤ g ∧ g < u)) (hn : n ≤ 1000)
    (h : ∀ g' cap w', Rw w' B e (.slice (some ⟨g', 0, none⟩) (n + 1) cap) (n + 1) (fun k => if k = n then xv else val k) (fun k => if k = n then l else lo k) (fun k => if k = n then u else hi k) (fun k => if k = n then P else R k) → Chg (fun k => v.ownBlock = some k) w w' → (v.ownBlock = some g' ∨ g' = w.heap.size) → wpList Tryz.prog ops Q rest (a.put o.dst (.slice (some ⟨g', 0, none⟩) (n + 1) cap)) w') : wpList Tryz.prog ops Q (o :: rest) a w := by
  obtain ⟨i0, hi1, hz0, hz1, hz2⟩ := hi0
  refine wpList_append_lies w hgd s x t ho B e i0 z 1 bytes hu hi1 hz0 hz1 hz2 hz (by decide) v _ _ hs hv.own ⟨g, 0, none⟩ 1 1 [xv] hx rfl (one_news hcell) (by intro u hu; simp at hu; subst hu; exact h1) (by omega) (by unfold maxLen; omega) (Nat.le_trans (Nat.mul_le_mul (show n + 1 ≤ 1001 by omega) hby) (by decide)) hB w.heap.size rfl ?_
  intro g' cap w' h2 h3 h4 h5
  have hc : Chg (fun k => v.ownBlock = some k) w w' := (Chg.refl _ w).grown h3 (fun k hk => .inl hk)
  exact h g' cap w' (hv.next hP hPB hPx h2 hc h4) hc h4
theorem step_pushR {ops : Array Oper} {o : Oper} {a : Act} {K : Act → World → Prop} {Q : Exit → Act → World → Prop} {E : Prop} (w : World) (hgd : o.guard = none) (s x : Operand) (t e : TypeId)
    (ho : o.op = .call { callee := .builtin .append, args := #[s, x], argTypes := #[t, t] }) (z : Value) (bytes : Nat) (hu : Tryz.prog.underlying t = some (.slice e)) (hi0 : One e z bytes) (hz : z.cells.size = 1) (hby : bytes ≤ 100)
    (B : Nat) (v : Value) (n : Nat) (val : Nat → Value) (lo hi : Nat → Nat) (R : Nat → World → Prop) (hs : a.eval s = v) (hv : Rw w B e v n val lo hi R) (hB : B ≤ w.heap.size) (g : Nat) (xv : Value) (hx : a.eval x = .slice (some ⟨g, 0, none⟩) 1 1) (hcell : w.cell? ⟨g, 0, none⟩ = some xv) (h1 : xv.oneCell' = true)
    (l u : Nat) (P : World → Prop) (hP : Sol l u P w) (hPB : l < u → B ≤ l) (hPx : ∀ g, v.ownBlock = some g → ¬ (l ≤ g ∧ g < u)) (hn : n ≤ 1000)
    (h : ∀ g' cap w', Rw w' B e (.slice (some ⟨g', 0, none⟩) (n + 1) cap) (n + 1) (fun k => if k = n then xv else val k) (fun k => if k = n then l else lo k) (fun k => if k = n then u else hi k) (fun k => if k = n then P else R k) → Chg (fun k => v.ownBlock = some k) w w' → (v.ownBlock = some g' ∨ g' = w.heap.size) → K (a.put o.dst (.slice (some ⟨g', 0, none⟩) (n + 1) cap)) w') :
    if Region.wanted o (yielded ops a.tmps) = true then Oper.wp Tryz.prog o a w K Q else E := by
  obtain ⟨i0, hi1, hz0, hz1, hz2⟩ := hi0
  refine step_append_lies w hgd s x t ho B e i0 z 1 bytes hu hi1 hz0 hz1 hz2 hz (by decide) v _ _ hs hv.own ⟨g, 0, none⟩ 1 1 [xv] hx rfl (one_news hcell) (by intro u hu; simp at hu; subst hu; exact h1) (by omega) (by unfold maxLen; omega) (Nat.le_trans (Nat.mul_le_mul (show n + 1 ≤ 1001 by omega) hby) (by decide)) hB w.heap.size rfl ?_
  intro g' cap w' h2 h3 h4 h5
  have hc : Chg (fun k => v.ownBlock = some k) w w' := (Chg.refl _ w).grown h3 (fun k hk => .inl hk)
  exact h g' cap w' (hv.next hP hPB hPx h2 hc h4) hc h4
theorem one_int : One 3 (.int .i64 0) 8 := one_of (by kernel_rfl)
theorem one_ints : One 52 (.slice none 0 0) 24 := one_of (by kernel_rfl)
theorem one_bool : One 4 (.bool false) 1 := one_of (by kernel_rfl)
theorem one_bools : One 105 (.slice none 0 0) 24 := one_of (by kernel_rfl)
theorem one_bools2 : One 174 (.slice none 0 0) 24 := one_of (by kernel_rfl)
def RwB (w : World) (B : Nat) (v : Value) (l : List Bool) : Prop := Rw w B 4 v l.length (fun k => .bool (l.getD k false)) (fun _ => 0) (fun _ => 0) (fun _ _ => True)
def rkL (l : List Nd) : List Int := (List.range l.length).map fun (i : Nat) => rankI l i
def inR (l : List Nd) (i : Nat) : List Bool := (List.range l.length).map fun (j : Nat) => decide ((j : Int) ∈ abvA l (i : Int))
theorem rkL_len (l : List Nd) : (rkL l).length = l.length := by simp [rkL]
theorem inR_len (l : List Nd) (i : Nat) : (inR l i).length = l.length := by simp [inR]
theorem rkL_get {l : List Nd} {i : Nat} (h : i < l.length) : (rkL l).getD i 0 = rankI l i := by simp [rkL, List.getD, h]
theorem inR_get {l : List Nd} {i j : Nat} (h : j < l.length) : (inR l i).getD j false = decide ((j : Int) ∈ abvA l (i : Int)) := by simp [inR, List.getD, h]
def RwT (w : World) (B : Nat) (v : Value) (l : List Nd) : Prop := ∃ val lo hi, Rw w B 105 v l.length val lo hi (fun i y => RwB y (lo i) (val i) (inR l i))
theorem apt_new {w : World} {B : Nat} {e : TypeId} {v v' : Value} {n' : Nat} {val : Nat → Value} {lo' hi' : Nat → Nat} {R : Nat → World → Prop} (h : Apt v v' n' lo' hi') (hr : Rw w B e v' n' val lo' hi' R) {g' n cap : Nat} (h4 : v.ownBlock = some g' ∨ g' = w.heap.size) : Apt (.slice (some ⟨g', 0, none⟩) n cap) v' n' lo' hi' := fun g hg => by
  have e : g = g' := by simp only [Value.ownBlock, Option.some.injEq] at hg; exact hg.symm
  subst e
  rcases h4 with h4 | h4
  · exact h g h4
  · refine ⟨fun e => by have := (hr.lt g e).2; omega, fun k hk e => by have := (hr.el k hk).1.hi_le; omega⟩
theorem apt_old {w : World} {B : Nat} {e : TypeId} {v v' : Value} {n n' : Nat} {val : Nat → Value} {lo hi lo' hi' : Nat → Nat} {R : Nat → World → Prop} (h : Apt v v' n' lo' hi') (hr : Rw w B e v n val lo hi R) {g' cap l u : Nat} (h4 : v'.ownBlock = some g' ∨ g' = w.heap.size) (hx : ∀ g, v.ownBlock = some g → ¬ (l ≤ g ∧ g < u)) : Apt v (.slice (some ⟨g', 0, none⟩) (n' + 1) cap) (n' + 1) (fun k => if k = n' then l else lo' k) (fun k => if k = n' then u else hi' k) := fun g hg => by
  refine ⟨fun e => ?_, fun k hk => ?_⟩
  · have e' : g' = g := by simpa only [Value.ownBlock, Option.some.injEq] using e
    subst e'
    rcases h4 with h4 | h4
    · exact (h g' hg).1 h4
    · have := (hr.lt g' hg).2; omega
  · by_cases e : k = n'
    · subst e; simp only [if_true]; exact hx g hg
    · simp only [if_neg e]; exact (h g hg).2 k (by omega)
structure RTab (w : World) (B : Nat) (ds : List Dm) (n1 n2 n3 : Nat) (v1 v2 v3 : Value) (x1 x2 x3 : Nat → Value) (l1 l2 l3 u1 u2 u3 : Nat → Nat) : Prop where
  r1 : Rw w B 52 v1 n1 x1 l1 u1 (fun k y => RwI y (l1 k) (x1 k) (ints (lvsN (dmL ds k))))
  r2 : Rw w B 52 v2 n2 x2 l2 u2 (fun k y => RwI y (l2 k) (x2 k) (rkL (dmL ds k)))
  r3 : Rw w B 174 v3 n3 x3 l3 u3 (fun k y => RwT y (l3 k) (x3 k) (dmL ds k))
  a12 : Apt v1 v2 n2 l2 u2
  a13 : Apt v1 v3 n3 l3 u3
  a21 : Apt v2 v1 n1 l1 u1
  a23 : Apt v2 v3 n3 l3 u3
  a31 : Apt v3 v1 n1 l1 u1
  a32 : Apt v3 v2 n2 l2 u2
section
variable {w y : World} {B : Nat} {ds : List Dm} {n1 n2 n3 : Nat} {v1 v2 v3 : Value} {x1 x2 x3 : Nat → Value} {l1 l2 l3 u1 u2 u3 : Nat → Nat}
theorem RTab.kept (h : RTab w B ds n1 n2 n3 v1 v2 v3 x1 x2 x3 l1 l2 l3 u1 u2 u3) (k : Kept w y) : RTab y B ds n1 n2 n3 v1 v2 v3 x1 x2 x3 l1 l2 l3 u1 u2 u3 :=
  ⟨h.r1.kept k, h.r2.kept k, h.r3.kept k, h.a12, h.a13, h.a21, h.a23, h.a31, h.a32⟩
theorem RTab.chg {S : Nat → Prop} (h : RTab w B ds n1 n2 n3 v1 v2 v3 x1 x2 x3 l1 l2 l3 u1 u2 u3) (k : Chg S w y) (hS : ∀ j, S j → j < B) : RTab y B ds n1 n2 n3 v1 v2 v3 x1 x2 x3 l1 l2 l3 u1 u2 u3 := by
  have f : ∀ {e : TypeId} {v : Value} {n : Nat} {val : Nat → Value} {lo hi : Nat → Nat} {R : Nat → World → Prop}, Rw w B e v n val lo hi R → Rw y B e v n val lo hi R := fun hr => hr.chg k (fun g hg e => by have h1 := (hr.lt g hg).1; have h2 := hS g e; omega) (fun i hi j h1 h2 e => by have h3 := (hr.el i hi).2.1 (by omega); have h4 := hS j e; omega)
  exact ⟨f h.r1, f h.r2, f h.r3, h.a12, h.a13, h.a21, h.a23, h.a31, h.a32⟩
theorem RTab.push1 (h : RTab w B ds n1 n2 n3 v1 v2 v3 x1 x2 x3 l1 l2 l3 u1 u2 u3) {x : Value} {l u g' cap : Nat} (hr : Rw y B 52 (.slice (some ⟨g', 0, none⟩) (n1 + 1) cap) (n1 + 1) (fun k => if k = n1 then x else x1 k) (fun k => if k = n1 then l else l1 k) (fun k => if k = n1 then u else u1 k) (fun k => if k = n1 then (fun y => RwI y l x (ints (lvsN (dmL ds n1)))) else (fun k y => RwI y (l1 k) (x1 k) (ints (lvsN (dmL ds k)))) k))
    (hc : Chg (fun k => v1.ownBlock = some k) w y) (h4 : v1.ownBlock = some g' ∨ g' = w.heap.size) (hx : ∀ g, (v2.ownBlock = some g ∨ v3.ownBlock = some g) → ¬ (l ≤ g ∧ g < u)) : RTab y B ds (n1 + 1) n2 n3 (.slice (some ⟨g', 0, none⟩) (n1 + 1) cap) v2 v3 (fun k => if k = n1 then x else x1 k) x2 x3 (fun k => if k = n1 then l else l1 k) l2 l3 (fun k => if k = n1 then u else u1 k) u2 u3 := by
  have hr' := hr.imp (R' := fun k y => RwI y ((fun k => if k = n1 then l else l1 k) k) ((fun k => if k = n1 then x else x1 k) k) (ints (lvsN (dmL ds k)))) (fun k hk y hh => by
    by_cases e : k = n1
    · subst e; simpa using hh
    · simp only [if_neg e] at hh ⊢; exact hh)
  have c2 := h.r2.chg hc (fun g hg e => (h.a12 g e).1 hg) (fun i hi j h1 h2 e => (h.a12 j e).2 i hi ⟨h1, h2⟩)
  have c3 := h.r3.chg hc (fun g hg e => (h.a13 g e).1 hg) (fun i hi j h1 h2 e => (h.a13 j e).2 i hi ⟨h1, h2⟩)
  have p2 := apt_new (n := n1 + 1) (cap := cap) h.a12 h.r2 h4
  have p3 := apt_new (n := n1 + 1) (cap := cap) h.a13 h.r3 h4
  have q2 := apt_old (cap := cap) h.a21 h.r2 h4 (fun g hg => hx g (.inl hg))
  have q3 := apt_old (cap := cap) h.a31 h.r3 h4 (fun g hg => hx g (.inr hg))
  exact ⟨hr', c2, c3, p2, p3, q2, h.a23, q3, h.a32⟩
theorem RTab.push2 (h : RTab w B ds n1 n2 n3 v1 v2 v3 x1 x2 x3 l1 l2 l3 u1 u2 u3) {x : Value} {l u g' cap : Nat} (hr : Rw y B 52 (.slice (some ⟨g', 0, none⟩) (n2 + 1) cap) (n2 + 1) (fun k => if k = n2 then x else x2 k) (fun k => if k = n2 then l else l2 k) (fun k => if k = n2 then u else u2 k) (fun k => if k = n2 then (fun y => RwI y l x (rkL (dmL ds n2))) else (fun k y => RwI y (l2 k) (x2 k) (rkL (dmL ds k))) k))
    (hc : Chg (fun k => v2.ownBlock = some k) w y) (h4 : v2.ownBlock = some g' ∨ g' = w.heap.size) (hx : ∀ g, (v1.ownBlock = some g ∨ v3.ownBlock = some g) → ¬ (l ≤ g ∧ g < u)) : RTab y B ds n1 (n2 + 1) n3 v1 (.slice (some ⟨g', 0, none⟩) (n2 + 1) cap) v3 x1 (fun k => if k = n2 then x else x2 k) x3 l1 (fun k => if k = n2 then l else l2 k) l3 u1 (fun k => if k = n2 then u else u2 k) u3 := by
  have hr' := hr.imp (R' := fun k y => RwI y ((fun k => if k = n2 then l else l2 k) k) ((fun k => if k = n2 then x else x2 k) k) (rkL (dmL ds k))) (fun k hk y hh => by
    by_cases e : k = n2
    · subst e; simpa using hh
    · simp only [if_neg e] at hh ⊢; exact hh)
  have c1 := h.r1.chg hc (fun g hg e => (h.a21 g e).1 hg) (fun i hi j h1 h2 e => (h.a21 j e).2 i hi ⟨h1, h2⟩)
  have c3 := h.r3.chg hc (fun g hg e => (h.a23 g e).1 hg) (fun i hi j h1 h2 e => (h.a23 j e).2 i hi ⟨h1, h2⟩)
  have p1 := apt_new (n := n2 + 1) (cap := cap) h.a21 h.r1 h4
  have p3 := apt_new (n := n2 + 1) (cap := cap) h.a23 h.r3 h4
  have q1 := apt_old (cap := cap) h.a12 h.r1 h4 (fun g hg => hx g (.inl hg))
  have q3 := apt_old (cap := cap) h.a32 h.r3 h4 (fun g hg => hx g (.inr hg))
  exact ⟨c1, hr', c3, q1, h.a13, p1, p3, h.a31, q3⟩
theorem RTab.push3 (h : RTab w B ds n1 n2 n3 v1 v2 v3 x1 x2 x3 l1 l2 l3 u1 u2 u3) {x : Value} {l u g' cap : Nat} (hr : Rw y B 174 (.slice (some ⟨g', 0, none⟩) (n3 + 1) cap) (n3 + 1) (fun k => if k = n3 then x else x3 k) (fun k => if k = n3 then l else l3 k) (fun k => if k = n3 then u else u3 k) (fun k => if k = n3 then (fun y => RwT y l x (dmL ds n3)) else (fun k y => RwT y (l3 k) (x3 k) (dmL ds k)) k))
    (hc : Chg (fun k => v3.ownBlock = some k) w y) (h4 : v3.ownBlock = some g' ∨ g' = w.heap.size) (hx : ∀ g, (v1.ownBlock = some g ∨ v2.ownBlock = some g) → ¬ (l ≤ g ∧ g < u)) : RTab y B ds n1 n2 (n3 + 1) v1 v2 (.slice (some ⟨g', 0, none⟩) (n3 + 1) cap) x1 x2 (fun k => if k = n3 then x else x3 k) l1 l2 (fun k => if k = n3 then l else l3 k) u1 u2 (fun k => if k = n3 then u else u3 k) := by
  have hr' := hr.imp (R' := fun k y => RwT y ((fun k => if k = n3 then l else l3 k) k) ((fun k => if k = n3 then x else x3 k) k) (dmL ds k)) (fun k hk y hh => by
    by_cases e : k = n3
    · subst e; simpa using hh
    · simp only [if_neg e] at hh ⊢; exact hh)
  have c1 := h.r1.chg hc (fun g hg e => (h.a31 g e).1 hg) (fun i hi j h1 h2 e => (h.a31 j e).2 i hi ⟨h1, h2⟩)
  have c2 := h.r2.chg hc (fun g hg e => (h.a32 g e).1 hg) (fun i hi j h1 h2 e => (h.a32 j e).2 i hi ⟨h1, h2⟩)
  have p1 := apt_new (n := n3 + 1) (cap := cap) h.a31 h.r1 h4
  have p2 := apt_new (n := n3 + 1) (cap := cap) h.a32 h.r2 h4
  have q1 := apt_old (cap := cap) h.a13 h.r1 h4 (fun g hg => hx g (.inl hg))
  have q2 := apt_old (cap := cap) h.a23 h.r2 h4 (fun g hg => hx g (.inr hg))
  exact ⟨c1, c2, hr', h.a12, q1, h.a21, q2, p1, p2⟩
end

theorem Rw.vals {w : World} {B : Nat} {e : TypeId} {v : Value} {n n' : Nat} {val val' : Nat → Value} {lo hi lo' hi' : Nat → Nat} {R R' : Nat → World → Prop} (h : Rw w B e v n val lo hi R) (hn : n' = n) (hv : ∀ k, k < n → val' k = val k ∧ lo' k = lo k ∧ hi' k = hi k ∧ ∀ y, R k y → R' k y) : Rw w B e v n' val' lo' hi' R' := by
  subst hn
  refine ⟨?_, fun k hk => ?_⟩
  · have e : (List.range n').map val' = (List.range n').map val := List.map_congr_left (fun k hk => (hv k (by simpa using hk)).1)
    rw [e]
    exact h.own
  · obtain ⟨_, h2, h3, h4⟩ := hv k hk
    rw [h2, h3]
    exact ⟨⟨(h.el k hk).1.hi_le, fun S y c hS => h4 y ((h.el k hk).1.all S y c hS)⟩, (h.el k hk).2⟩
structure PS (W0 X : World) (r q : Nat) (ds : List Dm) (n1 n2 n3 : Nat) (y4 y5 : Value) (wr : World) : Prop where
  kp : Kept W0 wr
  ch : Chg (fun j => j = r) X wr
  c0 : wr.cell? ⟨r, 0, none⟩ = some (.pointer (some ⟨q, 0, none⟩))
  c4 : wr.cell? ⟨r, 4, none⟩ = some y4
  c5 : wr.cell? ⟨r, 5, none⟩ = some y5
  fz : ∀ k, wr.frozen? ⟨r, k, none⟩ = false
  tb : ∃ v1 v2 v3 x1 x2 x3 l1 l2 l3 t1 t2 t3, wr.cell? ⟨r, 1, none⟩ = some v1 ∧ wr.cell? ⟨r, 2, none⟩ = some v2 ∧ wr.cell? ⟨r, 3, none⟩ = some v3 ∧ RTab wr X.heap.size ds n1 n2 n3 v1 v2 v3 x1 x2 x3 l1 l2 l3 t1 t2 t3
section
variable {W0 X wr y0 y : World} {r q : Nat} {ds : List Dm} {n1 n2 n3 m1 m2 m3 : Nat} {y4 y5 : Value}
theorem PS.lt (h : PS W0 X r q ds n1 n2 n3 y4 y5 wr) : r < wr.heap.size := cell_lt h.c0
theorem PS.keep (h : PS W0 X r q ds n1 n2 n3 y4 y5 wr) (k : Kept wr y) : PS W0 X r q ds n1 n2 n3 y4 y5 y := by
  obtain ⟨v1, v2, v3, x1, x2, x3, l1, l2, l3, t1, t2, t3, a1, a2, a3, hT⟩ := h.tb
  exact ⟨h.kp.trans k, h.ch.trans (Chg.of_kept k), k.cellp h.c0, k.cellp h.c4, k.cellp h.c5, fun j => (k.frozen (p := ⟨r, j, none⟩) h.lt).trans (h.fz j), ⟨v1, v2, v3, x1, x2, x3, l1, l2, l3, t1, t2, t3, k.cellp a1, k.cellp a2, k.cellp a3, hT.kept k⟩⟩
theorem PS.put (h : PS W0 X r q ds n1 n2 n3 y4 y5 wr) (hr : W0.heap.size ≤ r) (hX : r < X.heap.size) (k : Kept wr y0) {v : Value} (hc : Chg (fun k => v.ownBlock = some k) y0 y) (ho : ∀ g, v.ownBlock = some g → X.heap.size ≤ g) {f : Nat} (hf : f = 1 ∨ f = 2 ∨ f = 3) {v' v1 v2 v3 : Value} {x1 x2 x3 : Nat → Value} {l1 l2 l3 t1 t2 t3 : Nat → Nat}
    (a1 : (if f = 1 then some v' else wr.cell? ⟨r, 1, none⟩) = some v1) (a2 : (if f = 2 then some v' else wr.cell? ⟨r, 2, none⟩) = some v2) (a3 : (if f = 3 then some v' else wr.cell? ⟨r, 3, none⟩) = some v3) (hT : RTab y X.heap.size ds m1 m2 m3 v1 v2 v3 x1 x2 x3 l1 l2 l3 t1 t2 t3) : PS W0 X r q ds m1 m2 m3 y4 y5 (y.setCell ⟨r, f, none⟩ v') := by
  have hlt := h.lt
  have n0 : ¬ v.ownBlock = some r := fun e => by have := ho r e; omega
  have cy : ∀ {o : Nat} {u : Value}, wr.cell? ⟨r, o, none⟩ = some u → y.cell? ⟨r, o, none⟩ = some u := fun hu => hc.cellp (k.cellp hu) n0
  have co : ∀ {o : Nat} {u : Value}, o ≠ f → wr.cell? ⟨r, o, none⟩ = some u → (y.setCell ⟨r, f, none⟩ v').cell? ⟨r, o, none⟩ = some u := fun ho hu => by
    rw [World.cell?_setCell_other _ _ _ _ (by intro e; injection e with _ e1 _; exact ho e1.symm)]; exact cy hu
  obtain ⟨w1, w2, w3, _, _, _, _, _, _, _, _, _, b1, b2, b3, _⟩ := h.tb
  have cf : ∃ u, y.cell? ⟨r, f, none⟩ = some u := by
    rcases hf with rfl | rfl | rfl
    · exact ⟨_, cy b1⟩
    · exact ⟨_, cy b2⟩
    · exact ⟨_, cy b3⟩
  obtain ⟨uf, hcf⟩ := cf
  have cn : (y.setCell ⟨r, f, none⟩ v').cell? ⟨r, f, none⟩ = some v' := World.cell?_setCell_same _ _ _ hcf
  have c1 : Chg (fun j => j = r) X y := ⟨hc.os.trans (k.os.trans h.ch.os), hc.tape.trans (k.tape.trans h.ch.tape), hc.output.trans (k.output.trans h.ch.output), Nat.le_trans h.ch.size (Nat.le_trans k.size hc.size), fun j hj hb => by
    have e1 : j < wr.heap.size := Nat.lt_of_lt_of_le hj h.ch.size
    rw [hc.block j (Nat.lt_of_lt_of_le e1 k.size) (fun e => by have := ho j e; omega), k.block j e1, h.ch.block j hj hb]⟩
  have get : ∀ (o : Nat) (u : Value), (o = 1 ∨ o = 2 ∨ o = 3) → (if f = o then some v' else wr.cell? ⟨r, o, none⟩) = some u → (y.setCell ⟨r, f, none⟩ v').cell? ⟨r, o, none⟩ = some u := fun o u _ hu => by
    by_cases e : f = o
    · subst e; rw [if_pos rfl] at hu; rw [cn]; exact hu
    · rw [if_neg e] at hu; exact co (fun e' => e e'.symm) hu
  refine ⟨Chg.kept h.kp (((Chg.of_kept k : Chg (fun j => v.ownBlock = some j ∨ j = r) _ _).trans (hc.mono (fun j _ e => .inl e))).setCell (p := ⟨r, f, none⟩) (.inl (.inr rfl)) _) (fun j e => ?_), c1.setCell (p := ⟨r, f, none⟩) (.inl rfl) _, co (by omega) h.c0, co (by omega) h.c4, co (by omega) h.c5, fun j => ?_, ⟨v1, v2, v3, x1, x2, x3, l1, l2, l3, t1, t2, t3, get 1 _ (.inl rfl) a1, get 2 _ (.inr (.inl rfl)) a2, get 3 _ (.inr (.inr rfl)) a3, ?_⟩⟩
  · rcases e with e | e
    · have := ho j e; omega
    · omega
  · rw [World.frozen?_setCell]
    exact ((hc.frozen (p := ⟨r, j, none⟩) (Nat.lt_of_lt_of_le hlt k.size) n0).trans (k.frozen (p := ⟨r, j, none⟩) hlt)).trans (h.fz j)
  · exact hT.chg (S := fun j => j = r) (Chg.setCell (S := fun j => j = r) (Chg.refl _ y) (p := ⟨r, f, none⟩) (.inl rfl) _) (fun j e => by omega)
end
structure TS (WI : World) (l : List Nd) (k : Nat) (v4 v5 : Value) (xv : Nat → Value) (lo hi : Nat → Nat) (wr : World) : Prop where
  rk : Rw wr WI.heap.size 3 v4 k (fun j => .int .i64 (rankI l (j : Nat))) (fun _ => 0) (fun _ => 0) (fun _ _ => True)
  rn : Rw wr WI.heap.size 105 v5 k xv lo hi (fun i y => RwB y (lo i) (xv i) (inR l i))
  a45 : Apt v4 v5 k lo hi
  a54 : Apt v5 v4 k (fun _ => 0) (fun _ => 0)
  kp : Kept WI wr
def BR (w : World) (B : Nat) (v : Value) (l : List Nd) (i j : Nat) : Prop := Rw w B 4 v j (fun t => .bool (decide ((t : Int) ∈ abvA l (i : Int)))) (fun _ => 0) (fun _ => 0) (fun _ _ => True)
theorem br_done {w : World} {B : Nat} {v : Value} {l : List Nd} {i : Nat} (h : BR w B v l i l.length) : RwB w B v (inR l i) := h.vals (inR_len l i) (fun k hk => ⟨by rw [inR_get hk], rfl, rfl, fun _ h => h⟩)
theorem rk_done {w : World} {B : Nat} {v : Value} {l : List Nd} (h : Rw w B 3 v l.length (fun j => .int .i64 (rankI l (j : Nat))) (fun _ => 0) (fun _ => 0) (fun _ _ => True)) : RwI w B v (rkL l) := h.vals (rkL_len l) (fun k hk => ⟨by rw [rkL_get hk], rfl, rfl, fun _ h => h⟩)
theorem TS.keep {WI wr y : World} {l : List Nd} {k : Nat} {v4 v5 : Value} {xv : Nat → Value} {lo hi : Nat → Nat} (h : TS WI l k v4 v5 xv lo hi wr) (kk : Kept wr y) : TS WI l k v4 v5 xv lo hi y := ⟨h.rk.kept kk, h.rn.kept kk, h.a45, h.a54, h.kp.trans kk⟩
set_option maxHeartbeats 8000000 in
set_option maxRecDepth 100000 in
theorem r7_prep {W0 X : World} {r q : Nat} {ds : List Dm} {ms : List ByteArray} {rt : Nat → Nat} {y4 y5 : Value} (hr : r = W0.heap.size) (hX : r < X.heap.size) (hd : RDm W0 q ds rt ms) (hc : Ct ds ms) (h : PS W0 X r q ds 0 0 0 y4 y5 X) : Calls Tryz.prog 79 #[.pointer (some ⟨r, 0, none⟩)] X fun e w' => e = .returned (.tuple #[]) ∧ PS W0 X r q ds ds.length ds.length ds.length y4 y5 w' := by
  have hd1 := hc.d1
  have hd4 := hc.d4
  obtain ⟨ta, tc, hT0, hT1⟩ := hd.c4
  obtain ⟨tb, htb, hTc⟩ := hT1 (by omega)
  subst htb
  have HT0 := hidMk (fun Y (k : Kept W0 Y) => k.cellp hT0)
  have HTC := hidMk (fun Y (k : Kept W0 Y) i (hi : i < ds.length) => k.cellp (hTc i hi))
  have HRT := hidMk (fun Y (k : Kept W0 Y) i (hi : i < ds.length) => (hd.tr i hi).kept k)
  have HTR := hidMk hc.tr
  have HRW := hidMk (show W0.heap.size ≤ r by omega)
  have HX := hidMk hX
  have HPS := hidMk h
  obtain ⟨D, hD⟩ : ∃ D, D = ds.length := ⟨_, rfl⟩
  rw [← hD] at HT0 hd1 hd4 ⊢
  have HDD := hidMk hD
  have hne : ((0 : Int) == (D : Int)) = false := by simp; omega
  obtain ⟨v1, v2, v3, x1, x2, x3, l1, l2, l3, t1, t2, t3, a1, a2, a3, hT⟩ := h.tb
  obtain ⟨f1, g1, e1⟩ := hT.r1.form
  subst e1
  have c0 := h.c0
  have q4 := HT0.out X h.kp
  clear hT0 hT1 hTc hd hc hr hX h hT a2 a3 hD
  go_enter Tryz.func79, Tryz.ntmps79
  go_wp2_with fail
  go_quiet (fail)
  have HP0 := hidMk (HPS.out.keep ((Kept.refl X).drewN nq))
  clear c0 q4 a1 HPS
  go_wp2_with fail
  go_loopg [2] (D + 1) (fun gg x wr => ∃ i : Nat, i + gg = D + 1 ∧ i ≤ D ∧ x = .int .i64 i ∧ Hid (PS W0 X r q ds i i i y4 y5 wr))
  case atStart => exact ⟨0, by omega, by omega, rfl, HP0⟩
  case round =>
    clear HP0
    obtain ⟨i, hig, hiD, rfl, HS⟩ := hrel
    obtain ⟨ga, hga⟩ : ∃ g, g = gk := ⟨_, rfl⟩
    subst hga
    have HG := hidMk hig
    clear hig
    have q4 := HT0.out wr HS.out.kp
    have c0 := HS.out.c0
    by_cases hi : i < D
    · have hi' : (i : Int) < (D : Int) := by omega
      have hid : i < ds.length := by have := HDD.out; omega
      have qe := HTC.out wr HS.out.kp i hid
      have HTI := hidMk (HTR.out i hid)
      go_upto_region 5 with fail
      clear q4 qe c0
      go_cut [] from 45 to 110 (fun W' => Hid (PS W0 X r q ds (i + 1) i i y4 y5 W'))
      case first =>
        obtain ⟨v1, v2, v3, x1, x2, x3, l1, l2, l3, t1, t2, t3, a1, a2, a3, hT⟩ := HS.out.tb
        obtain ⟨f1, g1, e1⟩ := hT.r1.form
        subst e1
        have HA1 := hidMk a1
        have HA2 := hidMk a2
        have HA3 := hidMk a3
        have HTB := hidMk hT
        have HLV := hidMk (r_Leaves (HRT.out wr.drew HS.out.kp.drew i hid) HTI.out)
        have HLL := hidMk (show (ints (lvsN (dmL ds i))).length ≤ maxLen from by rw [ints_len]; have h1 := lvs_len HTI.out; have h2 := (HRT.out wr HS.out.kp i hid).big; unfold maxLen; omega)
        clear a1 a2 a3 hT
        refine wp_region_held_drew (S := (fun _ => True)) (by kernel_rfl) ?_ (fun hHeld => ?_)
        · trivial
        refine tkL 0 45 (v := ?_) rfl ?_ ?_
        rotate_left
        · (intro w9 hSw; go_simp; (try with_reducible rfl))
        (try simp only [tkS])
        refine tkL 1 46 (v := ?_) rfl ?_ ?_
        rotate_left
        · (intro w9 hSw; go_simp; (try with_reducible rfl))
        (try simp only [tkS])
        refine tkL 2 47 (v := ?_) rfl ?_ ?_
        rotate_left
        · (intro w9 hSw; go_simp; (try with_reducible rfl))
        (try simp only [tkS])
        refine tkL 3 48 (v := ?_) rfl ?_ ?_
        rotate_left
        · (intro w9 hSw; go_simp; (try with_reducible rfl))
        (try simp only [tkS])
        refine tkL 5 50 (v := ?_) rfl ?_ ?_
        rotate_left
        · (intro w9 hSw; go_simp; (try with_reducible rfl))
        (try simp only [tkS])
        refine wpAnyH_ready (rs := [4, 6]) (by kernel_rfl) (by simp) ?_
        refine (AllReadyH.cons (o := ⟨some 49, _, _, _, _, _⟩) rfl (fun K hK => ?_) (AllReadyH.cons (o := ⟨some 51, _, _, _, _, _⟩) rfl (fun K hK => ?_) AllReadyH.nil))
        · have b1 := ((Kept.refl wr).drew).cellp HA1.out
          go_simp
          clear b1
          refine hK.out _ _ ?_ (fun hHeld => ?_)
          · trivial
          clear hK K
          (try simp only [tkS])
          refine wpAnyH_ready (rs := [6]) (by kernel_rfl) (by simp) ?_
          refine (AllReadyH.cons (o := ⟨some 51, _, _, _, _, _⟩) rfl (fun K hK => ?_) AllReadyH.nil)
          go_simp
          refine HLV.out.mono ?_
          rintro e wN ⟨v, rfl, hoN, kN⟩
          obtain ⟨na, nc, hna, hns⟩ := hoN.sl HLL.out
          subst hna
          have HKN := hidMk (((Kept.refl wr).drew).trans kN)
          have HSN := hidMk (show Sol wr.heap.size wN.heap.size (fun y => RwI y wr.heap.size (.slice na (ints (lvsN (dmL ds i))).length nc) (ints (lvsN (dmL ds i)))) wN from (rwI_of hoN).sol)
          clear hns hoN kN
          (try go_wp2_with fail)
          refine hK.out _ _ ?_ (fun hHeld => ?_)
          · trivial
          clear hK K
          (try simp only [tkS])
          refine wpAnyH_ready (rs := [7]) (by kernel_rfl) (by simp) ?_
          refine (AllReadyH.cons (o := ⟨some 52, _, _, _, _, _⟩) rfl (fun K hK => ?_) AllReadyH.nil)
          go_simp
          refine hK.out _ _ ?_ (fun hHeld => ?_)
          · trivial
          clear hK K
          (try simp only [tkS])
          refine wpAnyH_ready (rs := [8]) (by kernel_rfl) (by simp) ?_
          refine (AllReadyH.cons (o := ⟨some 53, _, _, _, _, _⟩) rfl (fun K hK => ?_) AllReadyH.nil)
          refine step_pushR _ (by rfl) _ _ 103 52 (by rfl) (.slice none 0 0) 24 Tryz.underlying103 one_ints rfl (by decide) X.heap.size (.slice f1 i g1) i x1 l1 t1 _ (by rfl) (HTB.out.r1.kept (HKN.out.alloc _)) (by have h1 := HS.out.ch.size; have h2 := HKN.out.size; rw [World.size_alloc]; omega) wN.heap.size _ (by rfl) (new_cell _ _ _ _ 0 _ rfl rfl) rfl wr.heap.size wN.heap.size _ (HSN.out.chg (S := fun _ => False) (Chg.of_kept ((Kept.refl wN).alloc _)) (fun _ _ _ e => e)) (fun _ => HS.out.ch.size) (fun g hg e => by have := (HTB.out.r1.lt g hg).2; omega) (by omega) ?_
          intro g' cap wP hrP hcP hgP
          have HRP := hidMk hrP
          have HCP := hidMk hcP
          have HGP := hidMk hgP
          have HXX := hidMk (show ∀ g, (v2.ownBlock = some g ∨ v3.ownBlock = some g) → ¬ (wr.heap.size ≤ g ∧ g < wN.heap.size) from fun g hg e => by
              rcases hg with hg | hg
              · have := (HTB.out.r2.lt g hg).2; omega
              · have := (HTB.out.r3.lt g hg).2; omega)
          clear hrP hcP hgP
          refine hK.out _ _ ?_ (fun hHeld => ?_)
          · trivial
          clear hK K
          (try simp only [tkS])
          refine tkL 9 54 (v := ?_) rfl ?_ ?_
          rotate_left
          · (intro w9 hSw; go_simp; (try with_reducible rfl))
          (try simp only [tkS])
          refine tkL 10 55 (v := ?_) rfl ?_ ?_
          rotate_left
          · (intro w9 hSw; go_simp; (try with_reducible rfl))
          (try simp only [tkS])
          refine wpAnyH_ready (rs := [11]) (by kernel_rfl) (by simp) ?_
          refine (AllReadyH.cons (o := ⟨none, _, _, _, _, _⟩) rfl (fun K hK => ?_) AllReadyH.nil)
          have n1 : ¬ (Value.slice f1 i g1).ownBlock = some r := fun e => by have h1 := (HTB.out.r1.lt r e).1; have h2 := HX.out; omega
          have b1 := HCP.out.cellp ((HKN.out.alloc (.cells #[.slice na (ints (lvsN (dmL ds i))).length nc] 52)).cellp HA1.out) n1
          have bf : wP.frozen? ⟨r, 1, none⟩ = false := ((HCP.out.frozen (p := ⟨r, 1, none⟩) (cell_lt ((HKN.out.alloc (.cells #[.slice na (ints (lvsN (dmL ds i))).length nc] 52)).cellp HA1.out)) n1).trans ((HKN.out.alloc (.cells #[.slice na (ints (lvsN (dmL ds i))).length nc] 52)).frozen (p := ⟨r, 1, none⟩) HS.out.lt)).trans (HS.out.fz 1)
          go_simp
          clear b1 bf
          refine hK.out _ _ ?_ (fun hHeld => ?_)
          · trivial
          clear hK K
          (try simp only [tkS])
          refine wpAnyH_done (by kernel_rfl) ?_ _
          go_wp2_with fail
          go_meet
          exact hidMk (HS.out.put HRW.out HX.out (HKN.out.alloc (.cells #[.slice na (ints (lvsN (dmL ds i))).length nc] 52)) HCP.out (fun g hg => (HTB.out.r1.lt g hg).1) (f := 1) (.inl rfl) rfl HA2.out HA3.out ((HTB.out.kept (HKN.out.alloc (.cells #[.slice na (ints (lvsN (dmL ds i))).length nc] 52))).push1 HRP.out HCP.out HGP.out HXX.out))
        · go_simp
          refine HLV.out.mono ?_
          rintro e wN ⟨v, rfl, hoN, kN⟩
          obtain ⟨na, nc, hna, hns⟩ := hoN.sl HLL.out
          subst hna
          have HKN := hidMk (((Kept.refl wr).drew).trans kN)
          have HSN := hidMk (show Sol wr.heap.size wN.heap.size (fun y => RwI y wr.heap.size (.slice na (ints (lvsN (dmL ds i))).length nc) (ints (lvsN (dmL ds i)))) wN from (rwI_of hoN).sol)
          clear hns hoN kN
          (try go_wp2_with fail)
          refine hK.out _ _ ?_ (fun hHeld => ?_)
          · trivial
          clear hK K
          (try simp only [tkS])
          refine wpAnyH_ready (rs := [4, 7]) (by kernel_rfl) (by simp) ?_
          refine (AllReadyH.cons (o := ⟨some 49, _, _, _, _, _⟩) rfl (fun K hK => ?_) (AllReadyH.cons (o := ⟨some 52, _, _, _, _, _⟩) rfl (fun K hK => ?_) AllReadyH.nil))
          · have b1 := HKN.out.cellp HA1.out
            go_simp
            clear b1
            refine hK.out _ _ ?_ (fun hHeld => ?_)
            · trivial
            clear hK K
            (try simp only [tkS])
            refine wpAnyH_ready (rs := [7]) (by kernel_rfl) (by simp) ?_
            refine (AllReadyH.cons (o := ⟨some 52, _, _, _, _, _⟩) rfl (fun K hK => ?_) AllReadyH.nil)
            go_simp
            refine hK.out _ _ ?_ (fun hHeld => ?_)
            · trivial
            clear hK K
            (try simp only [tkS])
            refine wpAnyH_ready (rs := [8]) (by kernel_rfl) (by simp) ?_
            refine (AllReadyH.cons (o := ⟨some 53, _, _, _, _, _⟩) rfl (fun K hK => ?_) AllReadyH.nil)
            refine step_pushR _ (by rfl) _ _ 103 52 (by rfl) (.slice none 0 0) 24 Tryz.underlying103 one_ints rfl (by decide) X.heap.size (.slice f1 i g1) i x1 l1 t1 _ (by rfl) (HTB.out.r1.kept (HKN.out.alloc _)) (by have h1 := HS.out.ch.size; have h2 := HKN.out.size; rw [World.size_alloc]; omega) wN.heap.size _ (by rfl) (new_cell _ _ _ _ 0 _ rfl rfl) rfl wr.heap.size wN.heap.size _ (HSN.out.chg (S := fun _ => False) (Chg.of_kept ((Kept.refl wN).alloc _)) (fun _ _ _ e => e)) (fun _ => HS.out.ch.size) (fun g hg e => by have := (HTB.out.r1.lt g hg).2; omega) (by omega) ?_
            intro g' cap wP hrP hcP hgP
            have HRP := hidMk hrP
            have HCP := hidMk hcP
            have HGP := hidMk hgP
            have HXX := hidMk (show ∀ g, (v2.ownBlock = some g ∨ v3.ownBlock = some g) → ¬ (wr.heap.size ≤ g ∧ g < wN.heap.size) from fun g hg e => by
                rcases hg with hg | hg
                · have := (HTB.out.r2.lt g hg).2; omega
                · have := (HTB.out.r3.lt g hg).2; omega)
            clear hrP hcP hgP
            refine hK.out _ _ ?_ (fun hHeld => ?_)
            · trivial
            clear hK K
            (try simp only [tkS])
            refine tkL 9 54 (v := ?_) rfl ?_ ?_
            rotate_left
            · (intro w9 hSw; go_simp; (try with_reducible rfl))
            (try simp only [tkS])
            refine tkL 10 55 (v := ?_) rfl ?_ ?_
            rotate_left
            · (intro w9 hSw; go_simp; (try with_reducible rfl))
            (try simp only [tkS])
            refine wpAnyH_ready (rs := [11]) (by kernel_rfl) (by simp) ?_
            refine (AllReadyH.cons (o := ⟨none, _, _, _, _, _⟩) rfl (fun K hK => ?_) AllReadyH.nil)
            have n1 : ¬ (Value.slice f1 i g1).ownBlock = some r := fun e => by have h1 := (HTB.out.r1.lt r e).1; have h2 := HX.out; omega
            have b1 := HCP.out.cellp ((HKN.out.alloc (.cells #[.slice na (ints (lvsN (dmL ds i))).length nc] 52)).cellp HA1.out) n1
            have bf : wP.frozen? ⟨r, 1, none⟩ = false := ((HCP.out.frozen (p := ⟨r, 1, none⟩) (cell_lt ((HKN.out.alloc (.cells #[.slice na (ints (lvsN (dmL ds i))).length nc] 52)).cellp HA1.out)) n1).trans ((HKN.out.alloc (.cells #[.slice na (ints (lvsN (dmL ds i))).length nc] 52)).frozen (p := ⟨r, 1, none⟩) HS.out.lt)).trans (HS.out.fz 1)
            go_simp
            clear b1 bf
            refine hK.out _ _ ?_ (fun hHeld => ?_)
            · trivial
            clear hK K
            (try simp only [tkS])
            refine wpAnyH_done (by kernel_rfl) ?_ _
            go_wp2_with fail
            go_meet
            exact hidMk (HS.out.put HRW.out HX.out (HKN.out.alloc (.cells #[.slice na (ints (lvsN (dmL ds i))).length nc] 52)) HCP.out (fun g hg => (HTB.out.r1.lt g hg).1) (f := 1) (.inl rfl) rfl HA2.out HA3.out ((HTB.out.kept (HKN.out.alloc (.cells #[.slice na (ints (lvsN (dmL ds i))).length nc] 52))).push1 HRP.out HCP.out HGP.out HXX.out))
          · go_simp
            refine hK.out _ _ ?_ (fun hHeld => ?_)
            · trivial
            clear hK K
            (try simp only [tkS])
            refine wpAnyH_ready (rs := [4]) (by kernel_rfl) (by simp) ?_
            refine (AllReadyH.cons (o := ⟨some 49, _, _, _, _, _⟩) rfl (fun K hK => ?_) AllReadyH.nil)
            have b1 := (HKN.out.alloc (.cells #[.slice na (ints (lvsN (dmL ds i))).length nc] 52)).cellp HA1.out
            go_simp
            clear b1
            refine hK.out _ _ ?_ (fun hHeld => ?_)
            · trivial
            clear hK K
            (try simp only [tkS])
            refine wpAnyH_ready (rs := [8]) (by kernel_rfl) (by simp) ?_
            refine (AllReadyH.cons (o := ⟨some 53, _, _, _, _, _⟩) rfl (fun K hK => ?_) AllReadyH.nil)
            refine step_pushR _ (by rfl) _ _ 103 52 (by rfl) (.slice none 0 0) 24 Tryz.underlying103 one_ints rfl (by decide) X.heap.size (.slice f1 i g1) i x1 l1 t1 _ (by rfl) (HTB.out.r1.kept (HKN.out.alloc _)) (by have h1 := HS.out.ch.size; have h2 := HKN.out.size; rw [World.size_alloc]; omega) wN.heap.size _ (by rfl) (new_cell _ _ _ _ 0 _ rfl rfl) rfl wr.heap.size wN.heap.size _ (HSN.out.chg (S := fun _ => False) (Chg.of_kept ((Kept.refl wN).alloc _)) (fun _ _ _ e => e)) (fun _ => HS.out.ch.size) (fun g hg e => by have := (HTB.out.r1.lt g hg).2; omega) (by omega) ?_
            intro g' cap wP hrP hcP hgP
            have HRP := hidMk hrP
            have HCP := hidMk hcP
            have HGP := hidMk hgP
            have HXX := hidMk (show ∀ g, (v2.ownBlock = some g ∨ v3.ownBlock = some g) → ¬ (wr.heap.size ≤ g ∧ g < wN.heap.size) from fun g hg e => by
                rcases hg with hg | hg
                · have := (HTB.out.r2.lt g hg).2; omega
                · have := (HTB.out.r3.lt g hg).2; omega)
            clear hrP hcP hgP
            refine hK.out _ _ ?_ (fun hHeld => ?_)
            · trivial
            clear hK K
            (try simp only [tkS])
            refine tkL 9 54 (v := ?_) rfl ?_ ?_
            rotate_left
            · (intro w9 hSw; go_simp; (try with_reducible rfl))
            (try simp only [tkS])
            refine tkL 10 55 (v := ?_) rfl ?_ ?_
            rotate_left
            · (intro w9 hSw; go_simp; (try with_reducible rfl))
            (try simp only [tkS])
            refine wpAnyH_ready (rs := [11]) (by kernel_rfl) (by simp) ?_
            refine (AllReadyH.cons (o := ⟨none, _, _, _, _, _⟩) rfl (fun K hK => ?_) AllReadyH.nil)
            have n1 : ¬ (Value.slice f1 i g1).ownBlock = some r := fun e => by have h1 := (HTB.out.r1.lt r e).1; have h2 := HX.out; omega
            have b1 := HCP.out.cellp ((HKN.out.alloc (.cells #[.slice na (ints (lvsN (dmL ds i))).length nc] 52)).cellp HA1.out) n1
            have bf : wP.frozen? ⟨r, 1, none⟩ = false := ((HCP.out.frozen (p := ⟨r, 1, none⟩) (cell_lt ((HKN.out.alloc (.cells #[.slice na (ints (lvsN (dmL ds i))).length nc] 52)).cellp HA1.out)) n1).trans ((HKN.out.alloc (.cells #[.slice na (ints (lvsN (dmL ds i))).length nc] 52)).frozen (p := ⟨r, 1, none⟩) HS.out.lt)).trans (HS.out.fz 1)
            go_simp
            clear b1 bf
            refine hK.out _ _ ?_ (fun hHeld => ?_)
            · trivial
            clear hK K
            (try simp only [tkS])
            refine wpAnyH_done (by kernel_rfl) ?_ _
            go_wp2_with fail
            go_meet
            exact hidMk (HS.out.put HRW.out HX.out (HKN.out.alloc (.cells #[.slice na (ints (lvsN (dmL ds i))).length nc] 52)) HCP.out (fun g hg => (HTB.out.r1.lt g hg).1) (f := 1) (.inl rfl) rfl HA2.out HA3.out ((HTB.out.kept (HKN.out.alloc (.cells #[.slice na (ints (lvsN (dmL ds i))).length nc] 52))).push1 HRP.out HCP.out HGP.out HXX.out))
      case rest =>
        have HI := hcut
        clear hcut HS
        obtain ⟨L, hL⟩ : ∃ L, L = (dmL ds i).length := ⟨_, rfl⟩
        have HLD := hidMk hL
        have HRI := hidMk (fun Y (k : Kept wc Y) => HRT.out Y (HI.out.kp.trans k) i hid)
        have HL60 := hidMk (show L ≤ 60 from by rw [hL]; exact (HRI.out wc (Kept.refl _)).big)
        have HTL := hidMk (show ∃ b c, ∀ Y, Kept wc Y → Y.cell? ⟨rt i, 0, none⟩ = some (.slice (some ⟨b, 0, none⟩) L c) from by
          obtain ⟨b, c, h1, _⟩ := (HRI.out wc (Kept.refl _)).ex
          rw [← hL] at h1
          exact ⟨b, c, fun Y k => k.cellp h1⟩)
        obtain ⟨nb, nc, hNL⟩ := HTL.out
        have HNL := hidMk hNL
        clear hNL HTL hL
        go_wp2_with fail
        go_loopg [4, 5, 6] (L + 1) (fun gg s4 s5 x wr => ∃ (k : Nat) (xv : Nat → Value) (lo hi : Nat → Nat), k + gg = L + 1 ∧ k ≤ L ∧ x = .int .i64 k ∧ Hid (TS wc (dmL ds i) k s4 s5 xv lo hi wr))
        case atStart => exact ⟨0, fun _ => undef, fun _ => 0, fun _ => 0, by omega, by omega, rfl, hidMk ⟨rw_nil _ _ _ _ _ _ _, rw_nil _ _ _ _ _ _ _, fun g hg => (by simp [Value.ownBlock] at hg), fun g hg => (by simp [Value.ownBlock] at hg), Kept.refl _⟩⟩
        case round =>
          obtain ⟨k, xv, lo, hi2, hkg, hkL, rfl, HT⟩ := hrel
          obtain ⟨gb, hgb⟩ : ∃ g, g = gk := ⟨_, rfl⟩
          subst hgb
          have HG2 := hidMk hkg
          clear hkg
          have qn := HNL.out wr HT.out.kp
          obtain ⟨f4, g4, e4⟩ := HT.out.rk.form
          subst e4
          obtain ⟨f5, g5, e5⟩ := HT.out.rn.form
          subst e5
          by_cases hk : k < L
          · have hk' : (k : Int) < (L : Int) := by omega
            have hk6 : k ≤ 1000 := by have := HL60.out; omega
            have HRK := hidMk (fun Y (kk : Kept wc Y) => r_Rank (HRI.out Y kk) HTI.out (k : Int))
            go_wp2_with fail
            refine (HRK.out _ HT.out.kp).mono ?_
            rintro e wR ⟨rfl, kR⟩
            have HTR2 := hidMk (HT.out.keep kR)
            clear kR qn
            go_upto_region 12 with (at_builtin; refine wpList_pushR _ (by rfl) _ _ 52 3 (by rfl) (.int .i64 0) 8 Tryz.underlying52 one_int rfl (by decide) wc.heap.size (.slice f4 k g4) k _ _ _ _ (by rfl) (HTR2.out.rk.kept ((Kept.refl wR).alloc _)) (by have := HTR2.out.kp.size; rw [World.size_alloc]; omega) wR.heap.size _ (by rfl) (new_cell _ _ _ _ 0 _ rfl rfl) rfl 0 0 (fun _ => True) (sol_true _) (fun e => absurd e (by omega)) (fun g _ e => by omega) hk6 ?_; intro g' cap wP hrP hcP hgP; have HRP := hidMk hrP; have HCP := hidMk hcP; have HGP := hidMk hgP; clear hrP hcP hgP)
            have HK4 := hidMk (show Rw wP wc.heap.size 3 (.slice (some ⟨g', 0, none⟩) (k + 1) cap) (k + 1) (fun j => .int .i64 (rankI (dmL ds i) (j : Nat))) (fun _ => 0) (fun _ => 0) (fun _ _ => True) from HRP.out.vals rfl (fun j hj => by
              by_cases e : j = k
              · subst e; simp
              · simp [e]))
            have hkR := (HTR2.out.rk.kept ((Kept.refl wR).alloc (.cells #[.int .i64 (rankI (dmL ds i) (k : Int))] 3)))
            have hnR := (HTR2.out.rn.kept ((Kept.refl wR).alloc (.cells #[.int .i64 (rankI (dmL ds i) (k : Int))] 3)))
            have HN5 := hidMk (hnR.chg HCP.out (fun g hg e => (HTR2.out.a45 g e).1 hg) (fun t ht j h1 h2 e => (HTR2.out.a45 j e).2 t ht ⟨h1, h2⟩))
            have HA45 := hidMk (apt_new (n := k + 1) (cap := cap) HTR2.out.a45 hnR HGP.out)
            have HA54 := hidMk (show Apt (.slice f5 k g5) (.slice (some ⟨g', 0, none⟩) (k + 1) cap) (k + 1) (fun _ => 0) (fun _ => 0) from fun g hg => ⟨(apt_old (cap := cap) (l := 0) (u := 0) HTR2.out.a54 hnR HGP.out (fun _ _ e => by omega) g hg).1, fun _ _ e => by omega⟩)
            have HKP := hidMk (Chg.kept (HTR2.out.kp.alloc _) HCP.out (fun j e => (HTR2.out.rk.lt j e).1))
            clear hkR hnR HRP HCP HGP HTR2 HT
            generalize Value.slice (some ⟨g', 0, none⟩) (k + 1) cap = v4n at *
            go_wp2_with fail
            go_loopg [7, 8] (L + 1) (fun gg s7 x wr => ∃ j : Nat, j + gg = L + 1 ∧ j ≤ L ∧ x = .int .i64 j ∧ Hid (BR wr wP.heap.size s7 (dmL ds i) k j ∧ Kept wP wr))
            case atStart => exact ⟨0, by omega, by omega, rfl, hidMk ⟨rw_nil _ _ _ _ _ _ _, Kept.refl _⟩⟩
            case round =>
              obtain ⟨j, hjg, hjL, rfl, HB⟩ := hrel
              have HG3 := hidMk hjg
              clear hjg
              have qn := HNL.out wr (HKP.out.trans HB.out.2)
              obtain ⟨f7, g7, e7⟩ := HB.out.1.form
              subst e7
              by_cases hj : j < L
              · have hj' : (j : Int) < (L : Int) := by omega
                have hj6 : j ≤ 1000 := by have := HL60.out; omega
                have HWI := hidMk (r_Within (HRI.out wr (HKP.out.trans HB.out.2)) (k : Int) (j : Int))
                go_wp2_with fail
                refine HWI.out.mono ?_
                rintro e wV ⟨rfl, kV⟩
                have HBV := hidMk (show BR wV wP.heap.size (.slice f7 j g7) (dmL ds i) k j from HB.out.1.kept kV)
                have HKV := hidMk (HB.out.2.trans kV)
                clear kV qn HWI
                go_wp2_with (at_builtin; refine wpList_pushR _ (by rfl) _ _ 105 4 (by rfl) (.bool false) 1 Tryz.underlying105 one_bool rfl (by decide) wP.heap.size (.slice f7 j g7) j _ _ _ _ (by rfl) (Rw.kept HBV.out ((Kept.refl wV).alloc _)) (by have := HKV.out.size; rw [World.size_alloc]; omega) wV.heap.size _ (by rfl) (new_cell _ _ _ _ 0 _ rfl rfl) rfl 0 0 (fun _ => True) (sol_true _) (fun e => absurd e (by omega)) (fun g _ e => by omega) hj6 ?_; intro h' cap7 wQ hrQ hcQ hgQ; have HRQ := hidMk hrQ; have HCQ := hidMk (Chg.kept (HKV.out.alloc _) hcQ (fun t e => (Rw.lt HBV.out t e).1)); clear hrQ hcQ hgQ)
                go_roundg (gk - 1)
                case measure => have := HG3.out; omega
                case rel => exact ⟨j + 1, by have := HG3.out; omega, by omega, by go_num, hidMk ⟨Rw.vals HRQ.out rfl (fun t ht => by
                  by_cases e : t = j
                  · subst e; simp
                  · simp [e]), HCQ.out⟩⟩
              · have hje : j = L := by omega
                subst hje
                have hj' : ¬ ((j : Int) < (j : Int)) := by omega
                have HBD := hidMk (show RwB wr wP.heap.size (.slice f7 j g7) (inR (dmL ds i) k) from br_done (by have := HB.out.1; rw [← HLD.out]; exact this))
                have HN6 := hidMk (HN5.out.kept HB.out.2)
                have HK6 := hidMk (HK4.out.kept HB.out.2)
                have HKW := hidMk (HKP.out.trans HB.out.2)
                have HBK := hidMk HB.out.2
                clear HB
                go_wp2_with (at_builtin; refine wpList_pushR _ (by rfl) _ _ 174 105 (by rfl) (.slice none 0 0) 24 Tryz.underlying174 one_bools rfl (by decide) wc.heap.size (.slice f5 k g5) k _ _ _ _ (by rfl) (HN6.out.kept ((Kept.refl wr).alloc _)) (by have := HKW.out.size; rw [World.size_alloc]; omega) wr.heap.size _ (by rfl) (new_cell _ _ _ _ 0 _ rfl rfl) rfl wP.heap.size wr.heap.size _ ((Rw.sol HBD.out).chg (S := fun _ => False) (Chg.of_kept ((Kept.refl wr).alloc _)) (fun _ _ _ e => e)) (fun _ => HKP.out.size) (fun g hg e => by have := (HN5.out.lt g hg).2; omega) hk6 ?_; intro h' cap5 wQ hrQ hcQ hgQ; have HRQ := hidMk hrQ; have HCQ := hidMk hcQ; have HGQ := hidMk hgQ; clear hrQ hcQ hgQ)
                go_roundg (gb - 1)
                case measure => have := HG2.out; omega
                case rel =>
                  have hk9 := HK6.out.kept ((Kept.refl wr).alloc (.cells #[.slice f7 j g7] 105))
                  refine ⟨k + 1, _, _, _, by have := HG2.out; omega, by omega, by go_num, hidMk ⟨hk9.chg HCQ.out (fun g hg e => (HA54.out g e).1 hg) (fun t ht j' h1 h2 e => by omega), HRQ.out.imp (fun t ht y hh => ?_), apt_old HA45.out hk9 HGQ.out (fun g hg e => by have := (HK4.out.lt g hg).2; omega), apt_new HA54.out hk9 HGQ.out, Chg.kept (HKW.out.alloc _) HCQ.out (fun t e => (HN5.out.lt t e).1)⟩⟩
                  by_cases e : t = k
                  · subst e; simp only [if_true] at hh ⊢; exact hh
                  · simp only [if_neg e] at hh ⊢; exact hh
          · have hke : k = L := by omega
            subst hke
            have hk' : ¬ ((k : Int) < (k : Int)) := by omega
            obtain ⟨v1, v2, v3, x1, x2, x3, l1, l2, l3, t1, t2, t3, a1, a2, a3, hT⟩ := HI.out.tb
            obtain ⟨f2, g2, e2⟩ := hT.r2.form
            subst e2
            obtain ⟨f3, g3, e3⟩ := hT.r3.form
            subst e3
            have HPW := hidMk (HI.out.keep HT.out.kp)
            have HTB := hidMk hT
            have HSK := hidMk (show Sol wc.heap.size wr.heap.size (fun y => RwI y wc.heap.size (.slice f4 k g4) (rkL (dmL ds i))) wr from Rw.sol (rk_done (by have := HT.out.rk; rw [← HLD.out]; exact this)))
            have HSI := hidMk (show Sol wc.heap.size wr.heap.size (fun y => RwT y wc.heap.size (.slice f5 k g5) (dmL ds i)) wr from ⟨Nat.le_refl _, fun S y c hS => ⟨xv, lo, hi2, by have := (Rw.sol HT.out.rn).all S y c hS; rw [← HLD.out]; exact this⟩⟩)
            have HKW := hidMk HT.out.kp
            have b1 := HKW.out.cellp a1
            have b2 := HKW.out.cellp a2
            have b3 := HKW.out.cellp a3
            have HB1 := hidMk b1
            have HB2 := hidMk b2
            have HB3 := hidMk b3
            clear a1 a2 a3 hT b1 b3
            have hi6 : i ≤ 1000 := by omega
            go_upto_region 19 with (at_builtin; refine wpList_pushR _ (by rfl) _ _ 103 52 (by rfl) (.slice none 0 0) 24 Tryz.underlying103 one_ints rfl (by decide) X.heap.size (.slice f2 i g2) i _ _ _ _ (by rfl) ((HTB.out.r2.kept HKW.out).kept ((Kept.refl wr).alloc _)) (by have h1 := HI.out.ch.size; have h2 := HKW.out.size; rw [World.size_alloc]; omega) wr.heap.size _ (by rfl) (new_cell _ _ _ _ 0 _ rfl rfl) rfl wc.heap.size wr.heap.size _ (HSK.out.chg (S := fun _ => False) (Chg.of_kept ((Kept.refl wr).alloc _)) (fun _ _ _ e => e)) (fun _ => HI.out.ch.size) (fun g hg e => by have := (HTB.out.r2.lt g hg).2; omega) hi6 ?_; intro g' cap wP hrP hcP hgP; have n1 : ¬ (Value.slice f2 i g2).ownBlock = some r := (fun e => by have h1 := (HTB.out.r2.lt r e).1; have h2 := HX.out; omega); have b9 := hcP.cellp (((Kept.refl wr).alloc _).cellp HB2.out) n1; have bf : wP.frozen? ⟨r, 2, none⟩ = false := ((hcP.frozen (p := ⟨r, 2, none⟩) (cell_lt (((Kept.refl wr).alloc _).cellp HB2.out)) n1).trans (((Kept.refl wr).alloc _).frozen (p := ⟨r, 2, none⟩) HPW.out.lt)).trans (HPW.out.fz 2); have HRP := hidMk hrP; have HCP := hidMk hcP; have HGP := hidMk hgP; clear hrP hcP hgP n1)
            clear b2 qn
            have HTB2 := hidMk (((HTB.out.kept HKW.out).kept ((Kept.refl wr).alloc (.cells #[.slice f4 k g4] 52))).push2 HRP.out HCP.out HGP.out (fun g hg e => by
              rcases hg with hg | hg
              · have := (HTB.out.r1.lt g hg).2; omega
              · have := (HTB.out.r3.lt g hg).2; omega))
            have HP2 := hidMk (HPW.out.put HRW.out HX.out ((Kept.refl wr).alloc (.cells #[.slice f4 k g4] 52)) HCP.out (fun g hg => (HTB.out.r2.lt g hg).1) (f := 2) (.inr (.inl rfl)) HB1.out rfl HB3.out HTB2.out)
            have HSI2 := hidMk (((HSI.out.chg (S := fun _ => False) (Chg.of_kept ((Kept.refl wr).alloc (.cells #[.slice f4 k g4] 52))) (fun _ _ _ e => e)).chg HCP.out (fun j h1 h2 e => by have := (HTB.out.r2.lt j e).2; omega)).chg (S := fun j => j = r) (Chg.setCell (S := fun j => j = r) (Chg.refl _ wP) (p := ⟨r, 2, none⟩) (.inl rfl) (.slice (some ⟨g', 0, none⟩) (i + 1) cap)) (fun j h1 h2 e => by have := HI.out.lt; omega))
            have HT3 := hidMk (HTB2.out.chg (S := fun j => j = r) (Chg.setCell (S := fun j => j = r) (Chg.refl _ wP) (p := ⟨r, 2, none⟩) (.inl rfl) (.slice (some ⟨g', 0, none⟩) (i + 1) cap)) (fun j e => by have := HX.out; omega))
            have b3 : (wP.setCell ⟨r, 2, none⟩ (.slice (some ⟨g', 0, none⟩) (i + 1) cap)).cell? ⟨r, 3, none⟩ = some (.slice f3 i g3) := by
              rw [World.cell?_setCell_other _ _ _ _ (by intro e; injection e with _ e1 _; omega)]
              exact HCP.out.cellp (((Kept.refl wr).alloc _).cellp HB3.out) (fun e => by have h1 := (HTB.out.r2.lt r e).1; have h2 := HX.out; omega)
            have b1 : (wP.setCell ⟨r, 2, none⟩ (.slice (some ⟨g', 0, none⟩) (i + 1) cap)).cell? ⟨r, 1, none⟩ = some v1 := by
              rw [World.cell?_setCell_other _ _ _ _ (by intro e; injection e with _ e1 _; omega)]
              exact HCP.out.cellp (((Kept.refl wr).alloc _).cellp HB1.out) (fun e => by have h1 := (HTB.out.r2.lt r e).1; have h2 := HX.out; omega)
            have b2 : (wP.setCell ⟨r, 2, none⟩ (.slice (some ⟨g', 0, none⟩) (i + 1) cap)).cell? ⟨r, 2, none⟩ = some (.slice (some ⟨g', 0, none⟩) (i + 1) cap) := World.cell?_setCell_same _ _ _ b9
            have HOG := hidMk (show ∀ g, (Value.slice (some ⟨g', 0, none⟩) (i + 1) cap).ownBlock = some g → ¬ (wc.heap.size ≤ g ∧ g < wr.heap.size) from fun g hg e => by
              have e' : g' = g := by simpa only [Value.ownBlock, Option.some.injEq] using hg
              subst e'
              rcases HGP.out with h4 | h4
              · have := (HTB.out.r2.lt g' h4).2; omega
              · rw [World.size_alloc] at h4; omega)
            have HC1 := hidMk b1
            have HC2 := hidMk b2
            have HC3 := hidMk b3
            have HSZ := hidMk (show X.heap.size ≤ (wP.setCell ⟨r, 2, none⟩ (.slice (some ⟨g', 0, none⟩) (i + 1) cap)).heap.size from HP2.out.ch.size)
            clear b1 b2 b9 bf HB1 HB2 HB3 HCP HGP HRP HTB2 HSI HSK HPW
            generalize wP.setCell ⟨r, 2, none⟩ (.slice (some ⟨g', 0, none⟩) (i + 1) cap) = wY at *
            go_wp2_with (at_builtin; refine wpList_pushR _ (by rfl) _ _ 104 174 (by rfl) (.slice none 0 0) 24 Tryz.underlying104 one_bools2 rfl (by decide) X.heap.size (.slice f3 i g3) i _ _ _ _ (by rfl) (HT3.out.r3.kept ((Kept.refl wY).alloc _)) (by have h1 := HSZ.out; rw [World.size_alloc]; omega) wY.heap.size _ (by rfl) (new_cell _ _ _ _ 0 _ rfl rfl) rfl wc.heap.size wr.heap.size _ (HSI2.out.chg (S := fun _ => False) (Chg.of_kept ((Kept.refl wY).alloc _)) (fun _ _ _ e => e)) (fun _ => HI.out.ch.size) (fun g hg e => by have := (HTB.out.r3.lt g hg).2; omega) hi6 ?_; intro g9 cap9 wP hrP hcP hgP; have n1 : ¬ (Value.slice f3 i g3).ownBlock = some r := (fun e => by have h1 := (HTB.out.r3.lt r e).1; have h2 := HX.out; omega); have b9 := hcP.cellp (((Kept.refl wY).alloc _).cellp HC3.out) n1; have bf : wP.frozen? ⟨r, 3, none⟩ = false := ((hcP.frozen (p := ⟨r, 3, none⟩) (cell_lt (((Kept.refl wY).alloc _).cellp HC3.out)) n1).trans (((Kept.refl wY).alloc _).frozen (p := ⟨r, 3, none⟩) HP2.out.lt)).trans (HP2.out.fz 3); have HRP := hidMk hrP; have HCP := hidMk hcP; have HGP := hidMk hgP; clear hrP hcP hgP n1)
            go_roundg (ga - 1)
            case measure => have := HG.out; omega
            case rel =>
              have hT4 := (HT3.out.kept ((Kept.refl wY).alloc (.cells #[.slice f5 k g5] 174))).push3 HRP.out HCP.out HGP.out (fun g hg e => by
                rcases hg with hg | hg
                · have := (HTB.out.r1.lt g hg).2; omega
                · exact HOG.out g hg e)
              exact ⟨i + 1, by have := HG.out; omega, by omega, by go_num, hidMk (HP2.out.put HRW.out HX.out ((Kept.refl wY).alloc (.cells #[.slice f5 k g5] 174)) HCP.out (fun g hg => (HTB.out.r3.lt g hg).1) (f := 3) (.inr (.inr rfl)) HC1.out HC2.out rfl hT4)⟩
    · have hie : i = D := by omega
      subst hie
      go_wp2_with fail
      go_end0
      exact ⟨rfl, HS.out⟩

structure RQ (W0 : World) (r q : Nat) (ds : List Dm) (y4 y5 : Value) (pp : Option (Nat × Nat)) (X : World) : Prop where
  kp : Kept W0 X
  c0 : X.cell? ⟨r, 0, none⟩ = some (.pointer (some ⟨q, 0, none⟩))
  c4 : X.cell? ⟨r, 4, none⟩ = some y4
  c5 : X.cell? ⟨r, 5, none⟩ = some y5
  fz : ∀ k, X.frozen? ⟨r, k, none⟩ = false
  tn : pp = none → X.cell? ⟨r, 1, none⟩ = some (.slice none 0 0) ∧ X.cell? ⟨r, 2, none⟩ = some (.slice none 0 0) ∧ X.cell? ⟨r, 3, none⟩ = some (.slice none 0 0)
  tb : ∀ B H, pp = some (B, H) → r < B ∧ ∃ v1 v2 v3 x1 x2 x3 l1 l2 l3 t1 t2 t3, X.cell? ⟨r, 1, none⟩ = some v1 ∧ X.cell? ⟨r, 2, none⟩ = some v2 ∧ X.cell? ⟨r, 3, none⟩ = some v3 ∧ Sol B H (fun y => RTab y B ds ds.length ds.length ds.length v1 v2 v3 x1 x2 x3 l1 l2 l3 t1 t2 t3) X
structure RE (W0 : World) (r q : Nat) (ds : List Dm) (ms : List ByteArray) (rt : Nat → Nat) : Prop where
  rr : r = W0.heap.size
  rd : RDm W0 q ds rt ms
  ct : Ct ds ms
section
variable {W0 X Y : World} {r q : Nat} {ds : List Dm} {ms : List ByteArray} {rt : Nat → Nat} {y4 y5 : Value} {pp : Option (Nat × Nat)} {B H : Nat}
theorem RQ.lt (h : RQ W0 r q ds y4 y5 pp X) : r < X.heap.size := cell_lt h.c0
theorem RQ.hole (h : RQ W0 r q ds y4 y5 pp X) (e : pp = some (B, H)) : r < B ∧ H ≤ X.heap.size := by
  obtain ⟨h1, v1, v2, v3, x1, x2, x3, l1, l2, l3, t1, t2, t3, a1, a2, a3, hT⟩ := h.tb B H e
  exact ⟨h1, hT.hi_le⟩
theorem RQ.chg {S : Nat → Prop} (h : RQ W0 r q ds y4 y5 pp X) (k : Chg S X Y) (hS : ∀ j, S j → W0.heap.size ≤ j ∧ j ≠ r) (hB : ∀ B H, pp = some (B, H) → ∀ j, S j → ¬ (B ≤ j ∧ j < H)) : RQ W0 r q ds y4 y5 pp Y := by
  have nr : ¬ S r := fun e => (hS r e).2 rfl
  refine ⟨Chg.kept h.kp k (fun j e => (hS j e).1), k.cellp h.c0 nr, k.cellp h.c4 nr, k.cellp h.c5 nr, fun j => (k.frozen (p := ⟨r, j, none⟩) h.lt nr).trans (h.fz j), fun e => ⟨k.cellp (h.tn e).1 nr, k.cellp (h.tn e).2.1 nr, k.cellp (h.tn e).2.2 nr⟩, fun B H e => ?_⟩
  obtain ⟨h1, v1, v2, v3, x1, x2, x3, l1, l2, l3, t1, t2, t3, a1, a2, a3, hT⟩ := h.tb B H e
  exact ⟨h1, v1, v2, v3, x1, x2, x3, l1, l2, l3, t1, t2, t3, k.cellp a1 nr, k.cellp a2 nr, k.cellp a3 nr, hT.chg k (fun j h2 h3 e' => hB B H e j e' ⟨h2, h3⟩)⟩
theorem RQ.keep (h : RQ W0 r q ds y4 y5 pp X) (k : Kept X Y) : RQ W0 r q ds y4 y5 pp Y := h.chg (S := fun _ => False) (Chg.of_kept k) (fun _ e => e.elim) (fun _ _ _ _ e => e.elim)
theorem RTab.sol {n1 n2 n3 : Nat} {v1 v2 v3 : Value} {x1 x2 x3 : Nat → Value} {l1 l2 l3 u1 u2 u3 : Nat → Nat} (h : RTab X B ds n1 n2 n3 v1 v2 v3 x1 x2 x3 l1 l2 l3 u1 u2 u3) : Sol B X.heap.size (fun y => RTab y B ds n1 n2 n3 v1 v2 v3 x1 x2 x3 l1 l2 l3 u1 u2 u3) X :=
  ⟨Nat.le_refl _, fun S y k hS => ⟨h.r1.sol.all S y k hS, h.r2.sol.all S y k hS, h.r3.sol.all S y k hS, h.a12, h.a13, h.a21, h.a23, h.a31, h.a32⟩⟩
theorem rq_of_ps (h : PS W0 X r q ds ds.length ds.length ds.length y4 y5 Y) (hX : r < X.heap.size) : RQ W0 r q ds y4 y5 (some (X.heap.size, Y.heap.size)) Y := by
  obtain ⟨v1, v2, v3, x1, x2, x3, l1, l2, l3, t1, t2, t3, a1, a2, a3, hT⟩ := h.tb
  exact ⟨h.kp, h.c0, h.c4, h.c5, h.fz, fun e => (by cases e), fun B H e => by
    cases e
    exact ⟨hX, v1, v2, v3, x1, x2, x3, l1, l2, l3, t1, t2, t3, a1, a2, a3, hT.sol⟩⟩
theorem ps_of_rq (h : RQ W0 r q ds y4 y5 none X) : PS W0 X r q ds 0 0 0 y4 y5 X := by
  obtain ⟨a1, a2, a3⟩ := h.tn rfl
  exact ⟨h.kp, Chg.refl _ _, h.c0, h.c4, h.c5, h.fz, ⟨_, _, _, fun _ => undef, fun _ => undef, fun _ => undef, fun _ => 0, fun _ => 0, fun _ => 0, fun _ => 0, fun _ => 0, fun _ => 0, a1, a2, a3, rw_nil _ _ _ _ _ _ _, rw_nil _ _ _ _ _ _ _, rw_nil _ _ _ _ _ _ _, fun g hg => (by simp [Value.ownBlock] at hg), fun g hg => (by simp [Value.ownBlock] at hg), fun g hg => (by simp [Value.ownBlock] at hg), fun g hg => (by simp [Value.ownBlock] at hg), fun g hg => (by simp [Value.ownBlock] at hg), fun g hg => (by simp [Value.ownBlock] at hg)⟩⟩
def Nx (pp pp' : Option (Nat × Nat)) (N : Nat) : Prop := pp' = pp ∨ (pp = none ∧ ∀ B H, pp' = some (B, H) → N ≤ B)
theorem Nx.get {pp pp' : Option (Nat × Nat)} {N B H : Nat} (h : Nx pp pp' N) (e : pp' = some (B, H)) : pp = some (B, H) ∨ N ≤ B := by
  rcases h with h | h
  · exact .inl (by rw [← h, e])
  · exact .inr (h.2 B H e)
theorem Nx.refl (pp : Option (Nat × Nat)) (N : Nat) : Nx pp pp N := .inl rfl
theorem Nx.trans {p1 p2 p3 : Option (Nat × Nat)} {N M : Nat} (h : Nx p1 p2 N) (k : Nx p2 p3 M) (hN : N ≤ M) : Nx p1 p3 N := by
  rcases k with k | k
  · rw [k]; exact h
  · rcases h with h | h
    · exact .inr ⟨by rw [← h]; exact k.1, fun B H e => Nat.le_trans hN (k.2 B H e)⟩
    · exact .inr ⟨h.1, fun B H e => Nat.le_trans hN (k.2 B H e)⟩
theorem Nx.le {p1 p2 : Option (Nat × Nat)} {N M : Nat} (h : Nx p1 p2 M) (hN : N ≤ M) : Nx p1 p2 N := by
  rcases h with h | h
  · exact .inl h
  · exact .inr ⟨h.1, fun B H e => Nat.le_trans hN (h.2 B H e)⟩
theorem Nx.same {p1 : Option (Nat × Nat)} {B H N : Nat} (h : Nx (some (B, H)) p1 N) : p1 = some (B, H) := by
  rcases h with h | h
  · exact h
  · cases h.1
def RR (W0 : World) (r q : Nat) (ds : List Dm) (y4 y5 : Value) (pp : Option (Nat × Nat)) (X w' : World) : Prop := (∃ pp', RQ W0 r q ds y4 y5 pp' w' ∧ Nx pp pp' X.heap.size) ∧ Chg (fun j => j = r) X w'
theorem RQ.rr (h : RQ W0 r q ds y4 y5 pp X) (k : Kept X Y) : RR W0 r q ds y4 y5 pp X Y := ⟨⟨pp, h.keep k, Nx.refl _ _⟩, Chg.of_kept k⟩
theorem RE.get (h : RE W0 r q ds ms rt) : ∃ tb tc ma mc, ∀ Y, Kept W0 Y → Y.cell? ⟨q, 4, none⟩ = some (.slice (some ⟨tb, 0, none⟩) ds.length tc) ∧ Y.cell? ⟨q, 1, none⟩ = some (.slice ma ms.length mc) ∧ ∀ k, k < ds.length → Y.cell? ⟨tb, k, none⟩ = some (.pointer (some ⟨rt k, 0, none⟩)) ∧ ∃ b c, Y.cell? ⟨rt k, 0, none⟩ = some (.slice (some ⟨b, 0, none⟩) (dmL ds k).length c) := by
  obtain ⟨ta, tc, hT0, hT1⟩ := h.rd.c4
  obtain ⟨tb, htb, hTc⟩ := hT1 (by have := h.ct.d1; omega)
  subst htb
  obtain ⟨ma, mc, hM, _⟩ := h.rd.c1
  refine ⟨tb, tc, ma, mc, fun Y k => ⟨k.cellp hT0, k.cellp hM, fun i hi => ⟨k.cellp (hTc i hi), ?_⟩⟩⟩
  obtain ⟨b, c, h1, _⟩ := (h.rd.tr i hi).ex
  exact ⟨b, c, k.cellp h1⟩
theorem RQ.leaf (h : RQ W0 r q ds y4 y5 (some (B, H)) X) (hd : 1 ≤ ds.length) : ∃ g c, X.cell? ⟨r, 1, none⟩ = some (.slice (some ⟨g, 0, none⟩) ds.length c) ∧ ∀ k, k < ds.length → ∃ a c', X.cell? ⟨g, k, none⟩ = some (.slice a (lvsN (dmL ds k)).length c') ∧ Sl .i64 X a (lvsN (dmL ds k)).length (ints (lvsN (dmL ds k))) := by
  obtain ⟨_, v1, v2, v3, x1, x2, x3, l1, l2, l3, t1, t2, t3, a1, a2, a3, hT0⟩ := h.tb B H rfl
  have hT := hT0.here
  obtain ⟨a, c, e⟩ := hT.r1.form
  obtain ⟨g, e2, _, _, _⟩ := hT.r1.cell e (show 0 < ds.length by omega)
  subst e2
  rw [e] at a1
  refine ⟨g, c, a1, fun k hk => ?_⟩
  obtain ⟨g', e3, _, _, hcell⟩ := hT.r1.cell e hk
  cases e3
  have hR := RwI.own' (hT.r1.el k hk).1.here
  obtain ⟨a5, c5, e5, hs⟩ := hR.sl (by
    obtain ⟨_, ⟨_, hz⟩ | ⟨_, cap, _, _, _, _, h1, h2, _⟩⟩ := hR
    · rw [hz]; exact Nat.zero_le _
    · omega)
  rw [ints_len] at e5 hs
  exact ⟨a5, c5, by rw [hcell, e5], hs⟩
theorem RQ.rank (h : RQ W0 r q ds y4 y5 (some (B, H)) X) (ho : ∀ k, k < ds.length → 1 ≤ (dmL ds k).length) (hd : 1 ≤ ds.length) : ∃ g c, X.cell? ⟨r, 2, none⟩ = some (.slice (some ⟨g, 0, none⟩) ds.length c) ∧ ∀ k, k < ds.length → ∃ g' c', X.cell? ⟨g, k, none⟩ = some (.slice (some ⟨g', 0, none⟩) (dmL ds k).length c') ∧ ∀ i : Nat, i < (dmL ds k).length → X.cell? ⟨g', i, none⟩ = some (.int .i64 (rankI (dmL ds k) i)) := by
  obtain ⟨_, v1, v2, v3, x1, x2, x3, l1, l2, l3, t1, t2, t3, a1, a2, a3, hT0⟩ := h.tb B H rfl
  have hT := hT0.here
  obtain ⟨a, c, e⟩ := hT.r2.form
  obtain ⟨g, e2, _, _, _⟩ := hT.r2.cell e (show 0 < ds.length by omega)
  subst e2
  rw [e] at a2
  refine ⟨g, c, a2, fun k hk => ?_⟩
  obtain ⟨g', e3, _, _, hcell⟩ := hT.r2.cell e hk
  cases e3
  have hR : Rw X (l2 k) 3 (x2 k) _ _ _ _ _ := (hT.r2.el k hk).1.here
  obtain ⟨a5, c5, e5⟩ := hR.form
  obtain ⟨g5, e6, _, _, _⟩ := hR.cell e5 (show 0 < (rkL (dmL ds k)).length by rw [rkL_len]; have := ho k hk; omega)
  subst e6
  refine ⟨g5, c5, by rw [hcell, e5, rkL_len], fun i hi => ?_⟩
  obtain ⟨g6, e7, _, _, h6⟩ := hR.cell e5 (show i < (rkL (dmL ds k)).length by rw [rkL_len]; exact hi)
  cases e7
  rw [h6, rkL_get hi]
theorem RQ.inn (h : RQ W0 r q ds y4 y5 (some (B, H)) X) (ho : ∀ k, k < ds.length → 1 ≤ (dmL ds k).length) (hd : 1 ≤ ds.length) : ∃ g c, X.cell? ⟨r, 3, none⟩ = some (.slice (some ⟨g, 0, none⟩) ds.length c) ∧ ∀ k, k < ds.length → ∃ g' c', X.cell? ⟨g, k, none⟩ = some (.slice (some ⟨g', 0, none⟩) (dmL ds k).length c') ∧ ∀ i : Nat, i < (dmL ds k).length → ∃ g2 c2, X.cell? ⟨g', i, none⟩ = some (.slice (some ⟨g2, 0, none⟩) (dmL ds k).length c2) ∧ ∀ j : Nat, j < (dmL ds k).length → X.cell? ⟨g2, j, none⟩ = some (.bool (decide ((j : Int) ∈ abvA (dmL ds k) (i : Int)))) := by
  obtain ⟨_, v1, v2, v3, x1, x2, x3, l1, l2, l3, t1, t2, t3, a1, a2, a3, hT0⟩ := h.tb B H rfl
  have hT := hT0.here
  obtain ⟨a, c, e⟩ := hT.r3.form
  obtain ⟨g, e2, _, _, _⟩ := hT.r3.cell e (show 0 < ds.length by omega)
  subst e2
  rw [e] at a3
  refine ⟨g, c, a3, fun k hk => ?_⟩
  obtain ⟨g', e3, _, _, hcell⟩ := hT.r3.cell e hk
  cases e3
  obtain ⟨val, lo, hi, hR⟩ := (hT.r3.el k hk).1.here
  have hL := ho k hk
  obtain ⟨a5, c5, e5⟩ := hR.form
  obtain ⟨g5, e6, _, _, _⟩ := hR.cell e5 (show 0 < (dmL ds k).length by omega)
  subst e6
  refine ⟨g5, c5, by rw [hcell, e5], fun i hi' => ?_⟩
  obtain ⟨g6, e7, _, _, h6⟩ := hR.cell e5 hi'
  cases e7
  have hB : Rw X (lo i) 4 (val i) _ _ _ _ _ := (hR.el i hi').1.here
  obtain ⟨a8, c8, e8⟩ := hB.form
  obtain ⟨g8, e9, _, _, _⟩ := hB.cell e8 (show 0 < (inR (dmL ds k) i).length by rw [inR_len]; omega)
  subst e9
  refine ⟨g8, c8, by rw [h6, e8, inR_len], fun j hj => ?_⟩
  obtain ⟨g9, e10, _, _, h9⟩ := hB.cell e8 (show j < (inR (dmL ds k) i).length by rw [inR_len]; exact hj)
  cases e10
  rw [h9, inR_get hj]
theorem mulK_step {f : Nat → Int} {m : Int} (h0 : 0 ≤ m ∧ m ≤ 1000) (hf : ∀ k, 0 ≤ f k ∧ f k ≤ 1000) {k : Nat} (hk : k < 4) : wrap64 (mulK f m k * f k) = mulK f m (k + 1) := by
  obtain ⟨b0, b1, b2, b3, b4⟩ := mulK_bound h0 hf
  have : k = 0 ∨ k = 1 ∨ k = 2 ∨ k = 3 := by omega
  rcases this with rfl | rfl | rfl | rfl
  · exact wrap_c (by show -4611686018427387904 ≤ mulK f m 1; omega) (by show mulK f m 1 ≤ _; omega)
  · exact wrap_c (by show -4611686018427387904 ≤ mulK f m 2; omega) (by show mulK f m 2 ≤ _; omega)
  · exact wrap_c (by show -4611686018427387904 ≤ mulK f m 3; omega) (by show mulK f m 3 ≤ _; omega)
  · exact wrap_c (by show -4611686018427387904 ≤ mulK f m 4; omega) (by show mulK f m 4 ≤ _; omega)
theorem numK_step {f a : Nat → Int} {m : Int} (h0 : 0 ≤ m ∧ m ≤ 1000) (hf : ∀ k, 0 ≤ f k ∧ f k ≤ 1000) (ha : ∀ k, 0 ≤ a k ∧ a k ≤ 1000) {k : Nat} (hk : k < 4) : wrap64 (numK f a m k * f k) = numK f a m k * f k ∧ wrap64 (numK f a m k * f k + a k) = numK f a m (k + 1) := by
  obtain ⟨b1, b2, b3, b4⟩ := numK_bound h0 hf ha
  have b0 : 0 ≤ numK f a m k ∧ numK f a m k ≤ 1001001001000 := by
    have : k = 0 ∨ k = 1 ∨ k = 2 ∨ k = 3 := by omega
    rcases this with rfl | rfl | rfl | rfl
    · show 0 ≤ m ∧ m ≤ _; omega
    · omega
    · omega
    · omega
  have h1 := hf k
  have h2 := ha k
  have h3 := Int.mul_nonneg b0.1 h1.1
  have h4 : numK f a m k * f k ≤ 1001001001000 * 1000 := Int.mul_le_mul b0.2 h1.2 h1.1 (by omega)
  exact ⟨wrap_c (by omega) (by omega), wrap_c (by omega) (by omega)⟩
theorem mulK_out {f : Nat → Int} {m : Int} {d : Nat} (hd : d ≤ 4) (hf : ∀ k, d ≤ k → f k = 1) : mulK f m d = mulK f m 4 := by
  have st : ∀ j, mulK f m (d + j) = mulK f m d := fun j => by
    induction j with
    | zero => rfl
    | succ j ih => show mulK f m (d + j) * f (d + j) = _; rw [ih, hf _ (by omega), Int.mul_one]
  have := st (4 - d)
  rw [show d + (4 - d) = 4 by omega] at this
  exact this.symm
theorem numK_out {f a : Nat → Int} {m : Int} {d : Nat} (hd : d ≤ 4) (hf : ∀ k, d ≤ k → f k = 1) (ha : ∀ k, d ≤ k → k < 4 → a k = 0) : numK f a m d = numK f a m 4 := by
  have st : ∀ j, d + j ≤ 4 → numK f a m (d + j) = numK f a m d := fun j => by
    induction j with
    | zero => intro _; rfl
    | succ j ih => intro h; show numK f a m (d + j) * f (d + j) + a (d + j) = _; rw [ih (by omega), hf _ (by omega), ha _ (by omega) (by omega), Int.mul_one]; omega
  have := st (4 - d) (by omega)
  rw [show d + (4 - d) = 4 by omega] at this
  exact this.symm
theorem leasB (h : Ct ds ms) (k : Nat) : 0 ≤ (leas ds k : Int) ∧ (leas ds k : Int) ≤ 1000 := by
  unfold leas; split
  · next e => have h1 := lvs_len (h.tr k e); have h2 := h.le k e; omega
  · omega
theorem manyB (h : Ct ds ms) (k : Nat) : 0 ≤ (many ds k : Int) ∧ (many ds k : Int) ≤ 1000 := by
  unfold many; split
  · next e => have h2 := h.le k e; omega
  · omega
set_option maxHeartbeats 4000000 in
set_option maxRecDepth 100000 in
theorem r7_prepare (hE : RE W0 r q ds ms rt) (h : RQ W0 r q ds y4 y5 pp X) : Calls Tryz.prog 79 #[.pointer (some ⟨r, 0, none⟩)] X fun e w' => e = .returned (.tuple #[]) ∧ (∃ B H, RQ W0 r q ds y4 y5 (some (B, H)) w' ∧ Nx pp (some (B, H)) X.heap.size) ∧ Chg (fun j => j = r) X w' := by
  cases pp with
  | none =>
    refine (r7_prep hE.rr h.lt hE.rd hE.ct (ps_of_rq h)).mono ?_
    rintro e w' ⟨he, hp⟩
    exact ⟨he, ⟨_, _, rq_of_ps hp h.lt, .inr ⟨rfl, fun B H e => by cases e; exact Nat.le_refl _⟩⟩, hp.ch⟩
  | some bh =>
    obtain ⟨B, H⟩ := bh
    obtain ⟨tb, tc, ma, mc, hg⟩ := hE.get
    obtain ⟨q4, _, _⟩ := hg X h.kp
    obtain ⟨g, c, a1, _⟩ := h.leaf hE.ct.d1
    have c0 := h.c0
    have HQ := hidMk h
    have hd4 := hE.ct.d4
    generalize hD : ds.length = D at *
    clear hg hE h
    go_enter Tryz.func79, Tryz.ntmps79
    go_wp2_with fail
    go_quiet (fail)
    go_wp2_with fail
    refine bodyPost_ret (v := .tuple #[]) (results_none rfl _ _ _) rfl ⟨rfl, ⟨B, H, HQ.out.keep ((Kept.refl X).drewN nq), Nx.refl _ _⟩, Chg.of_kept ((Kept.refl X).drewN nq)⟩
set_option maxHeartbeats 4000000 in
set_option maxRecDepth 100000 in
theorem r7_Leaves (hE : RE W0 r q ds ms rt) (h : RQ W0 r q ds y4 y5 pp X) : Calls Tryz.prog 33 #[.pointer (some ⟨r, 0, none⟩)] X fun e w' => e = .returned (.int .i64 (mulK (fun k => leas ds k) ms.length 4)) ∧ (∃ B H, RQ W0 r q ds y4 y5 (some (B, H)) w' ∧ Nx pp (some (B, H)) X.heap.size) ∧ Chg (fun j => j = r) X w' := by
  have HP := hidMk (r7_prepare hE h)
  obtain ⟨tb, tc, ma, mc, hg⟩ := hE.get
  have HGT := hidMk hg
  have HE := hidMk hE
  have hm4 := hE.ct.m4
  have hd4 := hE.ct.d4
  rw [← mulK_out (f := fun k => (leas ds k : Int)) hd4 (fun k hk => by show (leas ds k : Int) = 1; rw [leas_out (by omega)]; rfl)]
  obtain ⟨D, hD⟩ : ∃ D, D = ds.length := ⟨_, rfl⟩
  obtain ⟨mk, hmk⟩ : ∃ mk : Nat → Int, mk = mulK (fun k => (leas ds k : Int)) (ms.length : Int) := ⟨_, rfl⟩
  rw [← hD] at hd4
  rw [← hmk, ← hD]
  have HDD := hidMk hD
  have HMK := hidMk hmk
  clear hg hE h hmk hD
  go_enter Tryz.func33, Tryz.ntmps33
  go_wp2_with fail
  refine HP.out.mono ?_
  rintro e w1 ⟨rfl, ⟨B1, H1, hq, hnx⟩, hch⟩
  have HQ := hidMk hq
  have HNX := hidMk hnx
  clear hnx
  have HC := hidMk hch
  have c0 := hq.c0
  obtain ⟨q4, q1, HTE⟩ := HGT.out w1 hq.kp
  obtain ⟨g, c, a1, hlf⟩ := hq.leaf HE.out.ct.d1
  have HLF := hidMk hlf
  have HST := hidMk (show ∀ k, k < 4 → wrap64 (mulK (fun k => leas ds k) ms.length k * leas ds k) = mulK (fun k => leas ds k) ms.length (k + 1) from fun k hk => mulK_step (by omega) (fun k => leasB HE.out.ct k) hk)
  have HLI := hidMk (show ∀ k, k < ds.length → leas ds k = (lvsN (dmL ds k)).length from fun k hk => leas_in hk)
  clear hq hch hlf HTE HP HGT
  rw [← HDD.out] at q4 a1 HLF HLI
  rw [← HMK.out] at HST
  have HM0 := hidMk (show mk 0 = (ms.length : Int) from by rw [HMK.out]; rfl)
  go_wp2_with fail
  go_loopg [3, 4] (D + 1) (fun gg s x wr => ∃ i : Nat, i + gg = D + 1 ∧ i ≤ D ∧ s = .int .i64 (mk i) ∧ x = .int .i64 i ∧ wr = w1)
  case atStart => exact ⟨0, by omega, by omega, by rw [HM0.out], rfl, rfl⟩
  case round =>
    obtain ⟨i, hig, hiD, rfl, rfl, rfl⟩ := hrel
    have HG := hidMk hig
    clear hig
    by_cases hi : i < D
    · have hi' : (i : Int) < (D : Int) := by omega
      obtain ⟨a5, c5, hc5, _⟩ := HLF.out i hi
      have hst := HST.out i (by omega)
      rw [HLI.out i hi] at hst
      generalize (lvsN (dmL ds i)).length = n5 at *
      obtain ⟨mi1, hmi1⟩ : ∃ z, z = mk (i + 1) := ⟨_, rfl⟩
      rw [← hmi1] at hst
      have HMI := hidMk hmi1
      clear hmi1
      generalize mk i = mi at *
      go_wp2_with fail
      go_roundg (gk - 1)
      case measure => have := HG.out; omega
      case rel => exact ⟨i + 1, by have := HG.out; omega, by omega, by rw [← HMI.out, hst], by go_num, rfl⟩
    · have hie : i = D := by omega
      subst hie
      have hi' : ¬ ((i : Int) < (i : Int)) := by omega
      go_wp2_with fail
      go_ret
      exact ⟨rfl, ⟨B1, H1, HQ.out, HNX.out⟩, HC.out⟩
end
end Go.Proofs.YtmedgkccicbieaaGreat
