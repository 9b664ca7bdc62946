/- Plain numbers for layer 1: what fits in 64 bits, and wide numbers of 128 bits. No program is named here. · Slices that a call makes by append: what they hold, as a slice of integers. -/
import Derived.WalkKit
import Derived.Below
import Derived.ProofKit
import Derived.OpenShut
namespace Go.Proofs.YtmedgkccicbieaaGreat
open Go.RowKit
set_option linter.unusedSimpArgs false
set_option linter.unusedVariables false

def isI (x : Int) : Prop := -9223372036854775808 ≤ x ∧ x ≤ 9223372036854775807
theorem isI_of {a : Int} (h : (Lit.int .i64 a).wf = true) : isI a := by
  simp [Lit.wf, IntKind.min, IntKind.max, IntKind.bits, IntKind.signed] at h
  unfold isI; omega
def wide (hi lo : Int) : Int := hi * 18446744073709551616 + lo

theorem hidMk {p : Prop} (h : p) : Hid p := h
theorem ret_int {k : IntKind} {a b : Int} (h : a = b) : Ending.returned (.int k a) = .returned (.int k b) := by rw [h]
def Kept (w w' : World) : Prop := Below w.heap.size w w'
theorem Kept.refl (w : World) : Kept w w := Below.refl _ _
theorem Kept.trans {a b c : World} (h : Kept a b) (k : Kept b c) : Kept a c := Below.trans h (Below.mono k h.size)
theorem Kept.drew {a w : World} (h : Kept a w) : Kept a w.drew := Below.drew h
theorem Kept.alloc {a w : World} (h : Kept a w) (o : Obj) : Kept a (w.alloc o) := Below.alloc h h.size o
theorem Kept.setCell {a w : World} (h : Kept a w) {p : Addr} (hp : a.heap.size ≤ p.block) (u : Value) : Kept a (w.setCell p u) := Below.setCell h hp u
theorem Kept.size {a w : World} (h : Kept a w) : a.heap.size ≤ w.heap.size := Below.size h
theorem Kept.cell {a w : World} (h : Kept a w) {p : Addr} (hp : p.block < a.heap.size) : w.cell? p = a.cell? p := Below.cell h hp
theorem Kept.frozen {a w : World} (h : Kept a w) {p : Addr} (hp : p.block < a.heap.size) : w.frozen? p = a.frozen? p := Below.frozen h hp

structure Box (w : World) (b : Nat) (u v : Value) : Prop where
  z : w.cell? ⟨b, 0, none⟩ = some u
  o : w.cell? ⟨b, 1, none⟩ = some v
  fz : w.frozen? ⟨b, 0, none⟩ = false
  fo : w.frozen? ⟨b, 1, none⟩ = false
  lt : b < w.heap.size
theorem Box.kept {w w' : World} {b : Nat} {u v : Value} (h : Box w b u v) (k : Kept w w') : Box w' b u v :=
  ⟨(k.cell (p := ⟨b, 0, none⟩) h.lt).trans h.z, (k.cell (p := ⟨b, 1, none⟩) h.lt).trans h.o, (k.frozen (p := ⟨b, 0, none⟩) h.lt).trans h.fz, (k.frozen (p := ⟨b, 1, none⟩) h.lt).trans h.fo, Nat.lt_of_lt_of_le h.lt k.size⟩
theorem Box.drew {w : World} {b : Nat} {u v : Value} (h : Box w b u v) : Box w.drew b u v := ⟨h.z, h.o, h.fz, h.fo, h.lt⟩
theorem Box.set {w : World} {b : Nat} {u v : Value} (h : Box w b u v) (x y : Value) : Box ((w.setCell ⟨b, 0, none⟩ x).setCell ⟨b, 1, none⟩ y) b x y := by
  have h1 : (w.setCell ⟨b, 0, none⟩ x).cell? ⟨b, 0, none⟩ = some x := World.cell?_setCell_same _ _ _ h.z
  have h2 : (w.setCell ⟨b, 0, none⟩ x).cell? ⟨b, 1, none⟩ = some v := (World.cell?_setCell_other _ _ _ _ (by simp)).trans h.o
  refine ⟨(World.cell?_setCell_other _ _ _ _ (by simp)).trans h1, World.cell?_setCell_same _ _ _ h2, ?_, ?_, ?_⟩
  · simp [h.fz]
  · simp [h.fo]
  · simpa [World.setCell] using h.lt
theorem Box.other {w : World} {b c : Nat} {u v : Value} (h : Box w b u v) (hne : c ≠ b) (x y : Value) : Box ((w.setCell ⟨c, 0, none⟩ x).setCell ⟨c, 1, none⟩ y) b u v := by
  refine ⟨(World.cell?_setCell_other _ _ _ _ (by simp [hne])).trans ((World.cell?_setCell_other _ _ _ _ (by simp [hne])).trans h.z), (World.cell?_setCell_other _ _ _ _ (by simp [hne])).trans ((World.cell?_setCell_other _ _ _ _ (by simp [hne])).trans h.o), ?_, ?_, ?_⟩
  · simp [h.fz]
  · simp [h.fo]
  · simpa [World.setCell] using h.lt

structure Sl (k : IntKind) (w : World) (a : Option Addr) (n : Nat) (l : List Int) : Prop where
  len : l.length = n
  big : n ≤ maxLen
  cells : 0 < n → ∃ b o, a = some ⟨b, o, none⟩ ∧ b < w.heap.size ∧ ∀ i, i < n → w.cell? ⟨b, o + i, none⟩ = some (.int k (l.getD i 0))
theorem Sl.kept {k : IntKind} {w w' : World} {a : Option Addr} {len : Nat} {l : List Int} (h : Sl k w a len l) (g : Kept w w') : Sl k w' a len l :=
  ⟨h.len, h.big, fun hp => by
    obtain ⟨b, o, h1, h2, h3⟩ := h.cells hp
    exact ⟨b, o, h1, Nat.lt_of_lt_of_le h2 g.size, fun i hi => by rw [g.cell (p := ⟨b, o + i, none⟩) h2]; exact h3 i hi⟩⟩
end Go.Proofs.YtmedgkccicbieaaGreat
namespace Go.Proofs.YtmedgkccicbieaaGreat
open Go.RowKit
set_option linter.unusedSimpArgs false
set_option linter.unusedVariables false

theorem own_sl {w : World} {base : Nat} {e : TypeId} {v : Value} {k : IntKind} {l : List Int} {n : Nat} (hn : l.length = n) (hm : n ≤ maxLen) (h : w.ownsRow base e 1 v n (l.map (Value.int k))) :
    ∃ a cap, v = .slice a n cap ∧ Sl k w a n l := by
  have h' := h
  obtain ⟨_, ⟨rfl, rfl⟩ | ⟨g, cap, cur, rfl, hb, hheap, hc, hcm, hsz, htk⟩⟩ := h
  · exact ⟨_, _, rfl, ⟨hn, hm, fun hp => absurd hp (by omega)⟩⟩
  · refine ⟨_, _, rfl, ⟨hn, hm, fun hp => ⟨g, 0, rfl, ?_, fun i hi => ?_⟩⟩⟩
    · by_cases hlt : g < w.heap.size
      · exact hlt
      · rw [Array.getElem?_eq_none (by omega)] at hheap; cases hheap
    · rw [Nat.zero_add, h'.cellAt i (by omega)]
      simp [List.getElem?_map, List.getElem?_eq_getElem (show i < l.length by omega), List.getD]
theorem cell_lt {w : World} {p : Addr} {v : Value} (h : w.cell? p = some v) : p.block < w.heap.size := by
  by_cases hlt : p.block < w.heap.size
  · exact hlt
  · simp only [World.cell?] at h
    rw [Array.getElem?_eq_none (by omega)] at h
    cases h
end Go.Proofs.YtmedgkccicbieaaGreat
