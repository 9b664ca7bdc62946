/- Plain numbers for layer 1: what fits in 64 bits, and wide numbers of 128 bits. No program is named here. -/
import Derived.WalkKit
import Derived.Below
namespace Go.Proofs.Ytbhojgodkblflaa
open Go.RowKit
set_option linter.unusedSimpArgs false
set_option linter.unusedVariables false

def fitV (x : Int) : Int := if -9223372036854775808 ≤ x ∧ x ≤ 9223372036854775807 then x else 0
def fitE (x : Int) : Int := if -9223372036854775808 ≤ x ∧ x ≤ 9223372036854775807 then 0 else 8
def isI (x : Int) : Prop := -9223372036854775808 ≤ x ∧ x ≤ 9223372036854775807
def isU (x : Int) : Prop := 0 ≤ x ∧ x ≤ 18446744073709551615

theorem isI_of {a : Int} (h : (Lit.int .i64 a).wf = true) : isI a := by
  simp [Lit.wf, IntKind.min, IntKind.max, IntKind.bits, IntKind.signed] at h
  unfold isI; omega
theorem isU_of {a : Int} (h : (Lit.int .u64 a).wf = true) : isU a := by
  simp [Lit.wf, IntKind.min, IntKind.max, IntKind.bits, IntKind.signed] at h
  unfold isU; omega

theorem fitV_in {x : Int} (h : isI x) : fitV x = x := if_pos h
theorem fitE_in {x : Int} (h : isI x) : fitE x = 0 := if_pos h
theorem fitV_out {x : Int} (h : ¬ isI x) : fitV x = 0 := if_neg h
theorem fitE_out {x : Int} (h : ¬ isI x) : fitE x = 8 := if_neg h

/-- The upper and the lower half of a wide number. -/
def wHi (v : Int) : Int := wrap64 (v / 18446744073709551616)
def wLo (v : Int) : Int := v % 18446744073709551616
def wide (hi lo : Int) : Int := hi * 18446744073709551616 + lo

theorem wHi_is (v : Int) : isI (wHi v) := by unfold isI wHi wrap64; omega
theorem wLo_is (v : Int) : isU (wLo v) := by unfold isU wLo; omega
theorem wHi_wide (hi lo : Int) (h : isI hi) (l : isU lo) : wHi (wide hi lo) = hi := by unfold isI isU at *; unfold wHi wide wrap64; omega
theorem wLo_wide (hi lo : Int) (l : isU lo) : wLo (wide hi lo) = lo := by unfold isU at *; unfold wLo wide; omega
/-- More of what is already wrapped. -/
theorem wHi_more (v n : Int) : wHi (wide (wHi v) (wLo v) + n) = wHi (v + n) := by unfold wide wHi wLo wrap64; omega
theorem wLo_more (v n : Int) : wLo (wide (wHi v) (wLo v) + n) = wLo (v + n) := by unfold wide wHi wLo wrap64; omega

def sumL : List Int → Int
  | [] => 0
  | x :: r => x + sumL r
theorem sumL_append (l m : List Int) : sumL (l ++ m) = sumL l + sumL m := by
  induction l with
  | nil => simp [sumL]
  | cons x r ih => simp [sumL, ih]; omega
theorem sumL_take (l : List Int) (k : Nat) (h : k < l.length) : sumL (l.take (k + 1)) = sumL (l.take k) + l.getD k 0 := by
  rw [List.take_succ_eq_append_getElem h, sumL_append]
  simp [sumL, List.getD, List.getElem?_eq_getElem h]
theorem sumL_reverse (l : List Int) : sumL l.reverse = sumL l := by
  induction l with
  | nil => rfl
  | cons x r ih => rw [List.reverse_cons, sumL_append, ih]; simp [sumL]; omega
theorem sumL_bound (l : List Int) (h : ∀ x ∈ l, isI x) : -(9223372036854775808 * (l.length : Int)) ≤ sumL l ∧ sumL l ≤ 9223372036854775808 * (l.length : Int) := by
  induction l with
  | nil => simp [sumL]
  | cons x r ih =>
    have h1 := ih fun y hy => h y (List.mem_cons_of_mem _ hy)
    have h2 := h x (List.mem_cons_self ..)
    unfold isI at h2
    simp [sumL]
    omega

/-- What Fits answers of a wide number's halves. -/
theorem fits_val (v : Int) (h : -170141183460469231731687303715884105728 ≤ v ∧ v < 170141183460469231731687303715884105728) : wide (wHi v) (wLo v) = v := by unfold wide wHi wLo wrap64; omega

theorem hidMk {p : Prop} (h : p) : Hid p := h
theorem ret_int {k : IntKind} {a b : Int} (h : a = b) : Ending.returned (.int k a) = .returned (.int k b) := by rw [h]
theorem ret_two {k l : IntKind} {a b c d : Int} (h : a = c) (h' : b = d) : Ending.returned (.tuple #[.int k a, .int l b]) = .returned (.tuple #[.int k c, .int l d]) := by rw [h, h']
theorem ret_agg {k l : IntKind} {a b c d : Int} (h : a = c) (h' : b = d) : Ending.returned (.agg #[.int k a, .int l b]) = .returned (.agg #[.int k c, .int l d]) := by rw [h, h']
theorem ret_ib {k : IntKind} {a c : Int} {b d : Bool} (h : a = c) (h' : b = d) : Ending.returned (.tuple #[.int k a, .bool b]) = .returned (.tuple #[.int k c, .bool d]) := by rw [h, h']

/-- Nothing that was there has turned. -/
def Kept (w w' : World) : Prop := Below w.heap.size w w'
theorem Kept.refl (w : World) : Kept w w := Below.refl _ _
theorem Kept.trans {a b c : World} (h : Kept a b) (k : Kept b c) : Kept a c := Below.trans h (Below.mono k h.size)
theorem Kept.drew {a w : World} (h : Kept a w) : Kept a w.drew := Below.drew h
theorem Kept.alloc {a w : World} (h : Kept a w) (o : Obj) : Kept a (w.alloc o) := Below.alloc h h.size o
theorem Kept.setCell {a w : World} (h : Kept a w) {p : Addr} (hp : a.heap.size ≤ p.block) (u : Value) : Kept a (w.setCell p u) := Below.setCell h hp u
theorem Kept.size {a w : World} (h : Kept a w) : a.heap.size ≤ w.heap.size := Below.size h
theorem Kept.cell {a w : World} (h : Kept a w) {p : Addr} (hp : p.block < a.heap.size) : w.cell? p = a.cell? p := Below.cell h hp
theorem Kept.frozen {a w : World} (h : Kept a w) {p : Addr} (hp : p.block < a.heap.size) : w.frozen? p = a.frozen? p := Below.frozen h hp

/-- A block of the call's own with two cells in use: a struct of two fields. -/
structure Box (w : World) (b : Nat) (u v : Value) : Prop where
  z : w.cell? ⟨b, 0, none⟩ = some u
  o : w.cell? ⟨b, 1, none⟩ = some v
  fz : w.frozen? ⟨b, 0, none⟩ = false
  fo : w.frozen? ⟨b, 1, none⟩ = false
  lt : b < w.heap.size
theorem Box.kept {w w' : World} {b : Nat} {u v : Value} (h : Box w b u v) (k : Kept w w') : Box w' b u v :=
  ⟨(k.cell (p := ⟨b, 0, none⟩) h.lt).trans h.z, (k.cell (p := ⟨b, 1, none⟩) h.lt).trans h.o, (k.frozen (p := ⟨b, 0, none⟩) h.lt).trans h.fz, (k.frozen (p := ⟨b, 1, none⟩) h.lt).trans h.fo, Nat.lt_of_lt_of_le h.lt k.size⟩
theorem Box.drew {w : World} {b : Nat} {u v : Value} (h : Box w b u v) : Box w.drew b u v := ⟨h.z, h.o, h.fz, h.fo, h.lt⟩
theorem Box.set {w : World} {b : Nat} {u v : Value} (h : Box w b u v) (x y : Value) : Box ((w.setCell ⟨b, 0, none⟩ x).setCell ⟨b, 1, none⟩ y) b x y := by
  have h1 : (w.setCell ⟨b, 0, none⟩ x).cell? ⟨b, 0, none⟩ = some x := World.cell?_setCell_same _ _ _ h.z
  have h2 : (w.setCell ⟨b, 0, none⟩ x).cell? ⟨b, 1, none⟩ = some v := (World.cell?_setCell_other _ _ _ _ (by simp)).trans h.o
  refine ⟨(World.cell?_setCell_other _ _ _ _ (by simp)).trans h1, World.cell?_setCell_same _ _ _ h2, ?_, ?_, ?_⟩
  · simp [h.fz]
  · simp [h.fo]
  · simpa [World.setCell] using h.lt
theorem Box.other {w : World} {b c : Nat} {u v : Value} (h : Box w b u v) (hne : c ≠ b) (x y : Value) : Box ((w.setCell ⟨c, 0, none⟩ x).setCell ⟨c, 1, none⟩ y) b u v := by
  refine ⟨(World.cell?_setCell_other _ _ _ _ (by simp [hne])).trans ((World.cell?_setCell_other _ _ _ _ (by simp [hne])).trans h.z), (World.cell?_setCell_other _ _ _ _ (by simp [hne])).trans ((World.cell?_setCell_other _ _ _ _ (by simp [hne])).trans h.o), ?_, ?_, ?_⟩
  · simp [h.fz]
  · simp [h.fo]
  · simpa [World.setCell] using h.lt

/-- A slice of integers as the walk meets it: its list of numbers, each in its cell. -/
structure Sl (k : IntKind) (w : World) (a : Option Addr) (n : Nat) (l : List Int) : Prop where
  len : l.length = n
  big : n ≤ maxLen
  cells : 0 < n → ∃ b o, a = some ⟨b, o, none⟩ ∧ b < w.heap.size ∧ ∀ i, i < n → w.cell? ⟨b, o + i, none⟩ = some (.int k (l.getD i 0))
theorem Sl.kept {k : IntKind} {w w' : World} {a : Option Addr} {len : Nat} {l : List Int} (h : Sl k w a len l) (g : Kept w w') : Sl k w' a len l :=
  ⟨h.len, h.big, fun hp => by
    obtain ⟨b, o, h1, h2, h3⟩ := h.cells hp
    exact ⟨b, o, h1, Nat.lt_of_lt_of_le h2 g.size, fun i hi => by rw [g.cell (p := ⟨b, o + i, none⟩) h2]; exact h3 i hi⟩⟩
theorem wrap64_is (x : Int) : isI (wrap64 x) := by unfold isI wrap64; omega
theorem u64_is (x : Int) : isU (IntKind.u64.wrap x) := by rw [IntKind.wrap_u64]; unfold isU; omega
/-- A new block of integers, as a slice. -/
theorem sl_new (k : IntKind) (w : World) (l : List Int) (T : TypeId) (h : l.length ≤ maxLen) : Sl k (w.alloc (.cells (l.map (Value.int k)).toArray T)) (some ⟨w.heap.size, 0, none⟩) l.length l := by
  refine ⟨rfl, h, fun hp => ⟨_, _, rfl, by simp, fun i hi => ?_⟩⟩
  simp [List.getElem?_eq_getElem hi, List.getD]
end Go.Proofs.Ytbhojgodkblflaa
