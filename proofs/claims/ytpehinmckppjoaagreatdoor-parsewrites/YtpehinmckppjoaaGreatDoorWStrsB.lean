/- Plain numbers for layer 1: what fits in 64 bits, and wide numbers of 128 bits. No program is named here. · Texts as bytes: letters, names, which one is ahead. No program is named here. · Members above each other: plain definitions. No program is named here. · Ways up: where they end, where they run round. · Numbers in digits. No program is named here. · Slices that a call makes by append: what they hold, as a slice of integers. · Slices of texts. -/
import Derived.WalkKit
import Derived.Below
import Derived.Laws.Strings
import Derived.Laws.Concat
import Derived.Laws.IdiomStrings
import Derived.ProofKit
import Derived.OpenShut
namespace Go.Proofs.YtpehinmckppjoaaGreatDoor
open Go.RowKit
set_option linter.unusedSimpArgs false
set_option linter.unusedVariables false

def isI (x : Int) : Prop := -9223372036854775808 ≤ x ∧ x ≤ 9223372036854775807
def isU (x : Int) : Prop := 0 ≤ x ∧ x ≤ 18446744073709551615

theorem isI_of {a : Int} (h : (Lit.int .i64 a).wf = true) : isI a := by
  simp [Lit.wf, IntKind.min, IntKind.max, IntKind.bits, IntKind.signed] at h
  unfold isI; omega
def wide (hi lo : Int) : Int := hi * 18446744073709551616 + lo

theorem hidMk {p : Prop} (h : p) : Hid p := h
theorem ret_int {k : IntKind} {a b : Int} (h : a = b) : Ending.returned (.int k a) = .returned (.int k b) := by rw [h]
/-- Nothing that was there has turned. -/
def Kept (w w' : World) : Prop := Below w.heap.size w w'
theorem Kept.refl (w : World) : Kept w w := Below.refl _ _
theorem Kept.trans {a b c : World} (h : Kept a b) (k : Kept b c) : Kept a c := Below.trans h (Below.mono k h.size)
theorem Kept.drew {a w : World} (h : Kept a w) : Kept a w.drew := Below.drew h
theorem Kept.alloc {a w : World} (h : Kept a w) (o : Obj) : Kept a (w.alloc o) := Below.alloc h h.size o
theorem Kept.setCell {a w : World} (h : Kept a w) {p : Addr} (hp : a.heap.size ≤ p.block) (u : Value) : Kept a (w.setCell p u) := Below.setCell h hp u
theorem Kept.size {a w : World} (h : Kept a w) : a.heap.size ≤ w.heap.size := Below.size h
theorem Kept.cell {a w : World} (h : Kept a w) {p : Addr} (hp : p.block < a.heap.size) : w.cell? p = a.cell? p := Below.cell h hp
theorem Kept.frozen {a w : World} (h : Kept a w) {p : Addr} (hp : p.block < a.heap.size) : w.frozen? p = a.frozen? p := Below.frozen h hp

/-- A block of the call's own with two cells in use: a struct of two fields. -/
structure Box (w : World) (b : Nat) (u v : Value) : Prop where
  z : w.cell? ⟨b, 0, none⟩ = some u
  o : w.cell? ⟨b, 1, none⟩ = some v
  fz : w.frozen? ⟨b, 0, none⟩ = false
  fo : w.frozen? ⟨b, 1, none⟩ = false
  lt : b < w.heap.size
theorem Box.kept {w w' : World} {b : Nat} {u v : Value} (h : Box w b u v) (k : Kept w w') : Box w' b u v :=
  ⟨(k.cell (p := ⟨b, 0, none⟩) h.lt).trans h.z, (k.cell (p := ⟨b, 1, none⟩) h.lt).trans h.o, (k.frozen (p := ⟨b, 0, none⟩) h.lt).trans h.fz, (k.frozen (p := ⟨b, 1, none⟩) h.lt).trans h.fo, Nat.lt_of_lt_of_le h.lt k.size⟩
theorem Box.drew {w : World} {b : Nat} {u v : Value} (h : Box w b u v) : Box w.drew b u v := ⟨h.z, h.o, h.fz, h.fo, h.lt⟩
theorem Box.set {w : World} {b : Nat} {u v : Value} (h : Box w b u v) (x y : Value) : Box ((w.setCell ⟨b, 0, none⟩ x).setCell ⟨b, 1, none⟩ y) b x y := by
  have h1 : (w.setCell ⟨b, 0, none⟩ x).cell? ⟨b, 0, none⟩ = some x := World.cell?_setCell_same _ _ _ h.z
  have h2 : (w.setCell ⟨b, 0, none⟩ x).cell? ⟨b, 1, none⟩ = some v := (World.cell?_setCell_other _ _ _ _ (by simp)).trans h.o
  refine ⟨(World.cell?_setCell_other _ _ _ _ (by simp)).trans h1, World.cell?_setCell_same _ _ _ h2, ?_, ?_, ?_⟩
  · simp [h.fz]
  · simp [h.fo]
  · simpa [World.setCell] using h.lt
theorem Box.other {w : World} {b c : Nat} {u v : Value} (h : Box w b u v) (hne : c ≠ b) (x y : Value) : Box ((w.setCell ⟨c, 0, none⟩ x).setCell ⟨c, 1, none⟩ y) b u v := by
  refine ⟨(World.cell?_setCell_other _ _ _ _ (by simp [hne])).trans ((World.cell?_setCell_other _ _ _ _ (by simp [hne])).trans h.z), (World.cell?_setCell_other _ _ _ _ (by simp [hne])).trans ((World.cell?_setCell_other _ _ _ _ (by simp [hne])).trans h.o), ?_, ?_, ?_⟩
  · simp [h.fz]
  · simp [h.fo]
  · simpa [World.setCell] using h.lt

/-- A slice of integers as the walk meets it: its list of numbers, each in its cell. -/
structure Sl (k : IntKind) (w : World) (a : Option Addr) (n : Nat) (l : List Int) : Prop where
  len : l.length = n
  big : n ≤ maxLen
  cells : 0 < n → ∃ b o, a = some ⟨b, o, none⟩ ∧ b < w.heap.size ∧ ∀ i, i < n → w.cell? ⟨b, o + i, none⟩ = some (.int k (l.getD i 0))
theorem Sl.kept {k : IntKind} {w w' : World} {a : Option Addr} {len : Nat} {l : List Int} (h : Sl k w a len l) (g : Kept w w') : Sl k w' a len l :=
  ⟨h.len, h.big, fun hp => by
    obtain ⟨b, o, h1, h2, h3⟩ := h.cells hp
    exact ⟨b, o, h1, Nat.lt_of_lt_of_le h2 g.size, fun i hi => by rw [g.cell (p := ⟨b, o + i, none⟩) h2]; exact h3 i hi⟩⟩
theorem wrap64_is (x : Int) : isI (wrap64 x) := by unfold isI wrap64; omega
end Go.Proofs.YtpehinmckppjoaaGreatDoor
namespace Go.Proofs.YtpehinmckppjoaaGreatDoor
open Go.RowKit
set_option linter.unusedSimpArgs false
set_option linter.unusedVariables false

/-- A text's bytes as numbers. -/
def byt (s : ByteArray) : List Int := s.data.toList.map fun b => (b.toNat : Int)
theorem byt_len (s : ByteArray) : (byt s).length = s.size := by unfold byt; rw [List.length_map, Array.length_toList]; rfl
def bat (s : ByteArray) (i : Nat) : Int := (byt s).getD i 0
theorem bat_get (s : ByteArray) (i : Nat) (h : i < s.size) : bat s i = ((s[i]'h).toNat : Int) := by
  unfold bat byt
  have h' : i < s.data.toList.length := by rw [Array.length_toList]; exact h
  rw [List.getD_eq_getElem?_getD, List.getElem?_map, List.getElem?_eq_getElem h']
  rfl
theorem bat_is (s : ByteArray) (i : Nat) : 0 ≤ bat s i ∧ bat s i ≤ 255 := by
  by_cases h : i < s.size
  · rw [bat_get s i h]
    have := (s[i]'h).toNat_lt
    omega
  · unfold bat
    rw [List.getD_eq_getElem?_getD, List.getElem?_eq_none (by rw [byt_len]; omega)]
    simp
theorem run_at {P : Program} {t : TypeId} (ht : P.underlying t = some .string) (s : ByteArray) (k : IntKind) (i : Nat) (h : i < s.size) (w : World) :
    (Instr.index t (.string s) (.int k (i : Int))).run P w = .ok (.int .u8 (bat s i)) w := by
  rw [run_index_string w t s k i ht, dif_pos (by omega), bat_get s i h]
  rfl

def letB (c : Int) : Bool := decide (97 ≤ c ∧ c ≤ 122) || decide (65 ≤ c ∧ c ≤ 90)
def digB (c : Int) : Bool := decide (48 ≤ c ∧ c ≤ 57)
def okB (c : Int) : Bool := letB c || digB c || decide (c = 95)
/-- Can it be a name? -/
def nameB (s : ByteArray) : Bool := decide (1 ≤ s.size ∧ s.size ≤ 12) && letB (bat s 0) && decide (∀ i, i < s.size → okB (bat s i) = true)
theorem nameB_no {s : ByteArray} {i : Nat} (hi : i < s.size) (h : okB (bat s i) = false) : nameB s = false := by
  unfold nameB
  rw [Bool.and_eq_false_iff]
  right
  simp only [decide_eq_false_iff_not]
  intro hall
  have := hall i hi
  rw [h] at this
  cases this
theorem nameB_yes {s : ByteArray} (h1 : 1 ≤ s.size ∧ s.size ≤ 12) (h2 : letB (bat s 0) = true) (h3 : ∀ i, i < s.size → okB (bat s i) = true) : nameB s = true := by
  unfold nameB
  rw [h2, decide_eq_true h1, decide_eq_true h3]
  rfl
end Go.Proofs.YtpehinmckppjoaaGreatDoor
namespace Go.Proofs.YtpehinmckppjoaaGreatDoor
open Go.RowKit
set_option linter.unusedSimpArgs false
set_option linter.unusedVariables false

/-- A member: its name, and the place of the one above it. -/
abbrev Nd := ByteArray × Int
def nmA (l : List Nd) (i : Nat) : ByteArray := (l.getD i (ByteArray.empty, 0)).1
def upA (l : List Nd) (i : Nat) : Int := (l.getD i (ByteArray.empty, 0)).2
abbrev isP (l : List Nd) (i : Int) : Prop := 0 ≤ i ∧ i < l.length
def upI (l : List Nd) (i : Int) : Int := if isP l i then upA l i.toNat else -1
def upN (l : List Nd) : Nat → Int → Int
  | 0, i => i
  | k + 1, i => upI l (upN l k i)
/-- The first place of a name, or how many there are. -/
def fstN (l : List Nd) (s : ByteArray) : Nat := l.findIdx fun x => decide (x.1 = s)
def findI (l : List Nd) (s : ByteArray) : Int := if fstN l s < l.length then fstN l s else -1
/-- One and all above it. -/
def abv (l : List Nd) : Nat → Int → List Int
  | 0, _ => []
  | f + 1, i => if isP l i then i :: abv l f (upI l i) else []
def abvA (l : List Nd) (i : Int) : List Int := abv l (l.length + 1) i
def dep (l : List Nd) (i : Int) : Nat := (abvA l i).length - 1
def loopB (l : List Nd) (i : Int) : Bool := decide (∃ k, k < l.length ∧ upN l (k + 1) i = i)
def chk (l : List Nd) (q i : Nat) : Int :=
  if q = 0 then (if nameB (nmA l i) then 0 else 3)
  else if q = 1 then (if fstN l (nmA l i) = i then 0 else 4)
  else if q = 2 then (if upA l i = -1 ∨ isP l (upA l i) then 0 else 17)
  else if q = 3 then (if loopB l i then 15 else 0)
  else (if 6 ≤ dep l i then 16 else 0)
def Good (l : List Nd) : Prop := ∀ q, q < 5 → ∀ i, i < l.length → chk l q i = 0
def BadAt (l : List Nd) (q i : Nat) : Prop := q < 5 ∧ i < l.length ∧ chk l q i ≠ 0 ∧ (∀ q', q' < q → ∀ i', i' < l.length → chk l q' i' = 0) ∧ ∀ i', i' < i → chk l q i' = 0
/-- What New answers: where, and why. -/
def NewIs (l : List Nd) (at_ e : Int) : Prop := (l.length < 1 ∨ 32 < l.length) ∧ at_ = 0 ∧ e = 5 ∨ (1 ≤ l.length ∧ l.length ≤ 32) ∧ (Good l ∧ at_ = 0 ∧ e = 0 ∨ ∃ q i, BadAt l q i ∧ at_ = (i : Nat) ∧ e = chk l q i)
theorem bad_one {l : List Nd} {q i q' i' : Nat} (h : BadAt l q i) (h' : BadAt l q' i') : q = q' ∧ i = i' := by
  obtain ⟨a1, a2, a3, a4, a5⟩ := h
  obtain ⟨b1, b2, b3, b4, b5⟩ := h'
  have hq : q = q' := by
    rcases Nat.lt_trichotomy q q' with h | h | h
    · exact absurd (b4 q h i a2) a3
    · exact h
    · exact absurd (a4 q' h i' b2) b3
  subst hq
  refine ⟨rfl, ?_⟩
  rcases Nat.lt_trichotomy i i' with h | h | h
  · exact absurd (b5 i h) a3
  · exact h
  · exact absurd (a5 i' h) b3
theorem good_bad {l : List Nd} {q i : Nat} (h : Good l) (h' : BadAt l q i) : False := h'.2.2.1 (h q h'.1 i h'.2.1)
theorem newIs_one {l : List Nd} {a e a' e' : Int} (h : NewIs l a e) (h' : NewIs l a' e') : a = a' ∧ e = e' := by
  rcases h with ⟨h1, rfl, rfl⟩ | ⟨h1, ⟨g, rfl, rfl⟩ | ⟨q, i, g, rfl, rfl⟩⟩ <;> rcases h' with ⟨h1', rfl, rfl⟩ | ⟨h1', ⟨g', rfl, rfl⟩ | ⟨q', i', g', rfl, rfl⟩⟩
  all_goals first | exact ⟨rfl, rfl⟩ | omega | exact absurd g' (fun x => good_bad g x) | exact absurd g (fun x => good_bad g' x) | skip
  obtain ⟨rfl, rfl⟩ := bad_one g g'
  exact ⟨rfl, rfl⟩
end Go.Proofs.YtpehinmckppjoaaGreatDoor
namespace Go.Proofs.YtpehinmckppjoaaGreatDoor
open Go.RowKit
set_option linter.unusedSimpArgs false
set_option linter.unusedVariables false

theorem upN_shift (l : List Nd) (k : Nat) (i : Int) : upN l k (upI l i) = upN l (k + 1) i := by
  induction k with
  | zero => rfl
  | succ k ih => show upI l (upN l k (upI l i)) = upI l (upN l (k + 1) i); rw [ih]
theorem upN_add (l : List Nd) (a b : Nat) (i : Int) : upN l a (upN l b i) = upN l (b + a) i := by
  induction a with
  | zero => rfl
  | succ k ih => show upI l (upN l k (upN l b i)) = upI l (upN l (b + k) i); rw [ih]
/-- The way up from i is of m places, and ends. -/
def Ends (l : List Nd) (m : Nat) (i : Int) : Prop := ¬ isP l (upN l m i) ∧ ∀ j, j < m → isP l (upN l j i)
theorem abv_ends {l : List Nd} {m f : Nat} {i : Int} (h : Ends l m i) (hf : m ≤ f) : abv l f i = (List.range m).map fun j => upN l j i := by
  induction f generalizing i m with
  | zero =>
    have : m = 0 := by omega
    subst this
    rfl
  | succ f ih =>
    cases m with
    | zero =>
      have h0 : ¬ isP l i := h.1
      simp [abv, h0]
    | succ m =>
      have h0 : isP l i := h.2 0 (by omega)
      have h1 : Ends l m (upI l i) := ⟨by rw [upN_shift]; exact h.1, fun j hj => by rw [upN_shift]; exact h.2 (j + 1) (by omega)⟩
      rw [abv, if_pos h0, ih h1 (by omega), List.range_succ_eq_map]
      simp only [List.map_cons, List.map_map]
      congr 1
      apply List.map_congr_left
      intro j _
      exact upN_shift l j i
theorem pig : ∀ (n : Nat) (f : Nat → Nat), (∀ j, j ≤ n → f j < n) → ∃ a b, a < b ∧ b ≤ n ∧ f a = f b
  | 0, f, h => absurd (h 0 (Nat.le_refl _)) (by omega)
  | n + 1, f, h => by
    by_cases hx : ∃ a, a ≤ n ∧ f a = f (n + 1)
    · obtain ⟨a, h1, h2⟩ := hx
      exact ⟨a, n + 1, by omega, Nat.le_refl _, h2⟩
    · have hno : ∀ a, a ≤ n → f a ≠ f (n + 1) := fun a ha e => hx ⟨a, ha, e⟩
      obtain ⟨a, b, h1, h2, h3⟩ := pig n (fun j => if f j = n then f (n + 1) else f j) (fun j hj => by
        have a1 := h j (by omega)
        have a2 := h (n + 1) (Nat.le_refl _)
        have a3 := hno j hj
        show (if f j = n then f (n + 1) else f j) < n
        split <;> omega)
      refine ⟨a, b, h1, by omega, ?_⟩
      have n1 := hno a (by omega)
      have n2 := hno b (by omega)
      split at h3 <;> split at h3 <;> omega
def noLoop (l : List Nd) : Prop := ∀ i : Nat, i < l.length → ∀ k, k < l.length → upN l (k + 1) i ≠ i
theorem ends_of {l : List Nd} (h : noLoop l) (i : Int) : ∃ m, m ≤ l.length ∧ Ends l m i := by
  by_cases hx : ∃ m, m ≤ l.length ∧ ¬ isP l (upN l m i)
  · obtain ⟨m, h1, h2⟩ := hx
    induction m using Nat.strongRecOn with
    | _ m ih =>
      by_cases hj : ∃ j, j < m ∧ ¬ isP l (upN l j i)
      · obtain ⟨j, h3, h4⟩ := hj
        exact ih j h3 (by omega) h4
      · exact ⟨m, h1, h2, fun j hj' => by
          by_cases hp : isP l (upN l j i)
          · exact hp
          · exact absurd ⟨j, hj', hp⟩ hj⟩
  · exfalso
    have hall : ∀ m, m ≤ l.length → isP l (upN l m i) := fun m hm => by
      by_cases hp : isP l (upN l m i)
      · exact hp
      · exact absurd ⟨m, hm, hp⟩ hx
    obtain ⟨a, b, h1, h2, h3⟩ := pig l.length (fun j => (upN l j i).toNat) (fun j hj => by
      have := hall j hj
      unfold isP at this
      show (upN l j i).toNat < l.length
      omega)
    have pa := hall a (by omega)
    have pb := hall b h2
    unfold isP at pa pb
    have he : upN l a i = upN l b i := by omega
    refine h (upN l a i).toNat (by omega) (b - a - 1) (by omega) ?_
    have : ((upN l a i).toNat : Int) = upN l a i := by omega
    rw [this, upN_add, show a + (b - a - 1 + 1) = b by omega, he]
theorem ends_unique {l : List Nd} {m m' : Nat} {i : Int} (h : Ends l m i) (h' : Ends l m' i) : m = m' := by
  rcases Nat.lt_trichotomy m m' with g | g | g
  · exact absurd (h'.2 m g) h.1
  · exact g
  · exact absurd (h.2 m' g) h'.1
theorem abvA_ends {l : List Nd} {m : Nat} {i : Int} (h : Ends l m i) (hm : m ≤ l.length) : abvA l i = (List.range m).map fun j => upN l j i := abv_ends h (by omega)
theorem abvA_len {l : List Nd} {m : Nat} {i : Int} (h : Ends l m i) (hm : m ≤ l.length) : (abvA l i).length = m := by rw [abvA_ends h hm]; simp
theorem dep_ends {l : List Nd} {m : Nat} {i : Int} (h : Ends l m i) (hm : m ≤ l.length) : dep l i = m - 1 := by unfold dep; rw [abvA_len h hm]
theorem loop_chk {l : List Nd} {i : Nat} (h : chk l 3 i = 0) : ∀ k, k < l.length → upN l (k + 1) i ≠ i := by
  intro k hk e
  have : loopB l i = true := decide_eq_true ⟨k, hk, e⟩
  simp [chk, this] at h
theorem good_noLoop {l : List Nd} (h : ∀ i, i < l.length → chk l 3 i = 0) : noLoop l := fun i hi => loop_chk (h i hi)
end Go.Proofs.YtpehinmckppjoaaGreatDoor
namespace Go.Proofs.YtpehinmckppjoaaGreatDoor
open Go.RowKit
set_option linter.unusedSimpArgs false
set_option linter.unusedVariables false

def isB (x : Int) : Prop := 0 ≤ x ∧ x ≤ 255
def str (l : List Int) : ByteArray := ⟨(l.map fun x => UInt8.ofNat x.toNat).toArray⟩
theorem str_app (l m : List Int) : str l ++ str m = str (l ++ m) := by
  unfold str
  rw [ByteArray.mk_append_mk, List.map_append]
theorem str_size (l : List Int) : (str l).size = l.length := by
  unfold str
  show (l.map fun x => UInt8.ofNat x.toNat).toArray.size = _
  simp
theorem byt_str {l : List Int} (h : ∀ x ∈ l, isB x) : byt (str l) = l := by
  unfold byt str
  simp only [List.map_map]
  conv => rhs; rw [← List.map_id l]
  refine List.map_congr_left fun x hx => ?_
  have := h x hx
  unfold isB at this
  simp
  omega
def digs (n : Nat) : List Int := if h : n < 10 then [48 + (n : Int)] else digs (n / 10) ++ [48 + ((n % 10 : Nat) : Int)]
termination_by n
decreasing_by omega
theorem digs_lt {n : Nat} (h : n < 10) : digs n = [48 + (n : Int)] := by rw [digs, dif_pos h]
theorem digs_ge {n : Nat} (h : 10 ≤ n) : digs n = digs (n / 10) ++ [48 + ((n % 10 : Nat) : Int)] := by rw [digs, dif_neg (by omega)]
theorem digs_ind {p : Nat → Prop} (h0 : ∀ u, u < 10 → p u) (h1 : ∀ u, 10 ≤ u → p (u / 10) → p u) (u : Nat) : p u := by
  induction u using Nat.strongRecOn with
  | ind u ih =>
    by_cases h : u < 10
    · exact h0 u h
    · exact h1 u (by omega) (ih (u / 10) (by omega))
theorem digs_pos (n : Nat) : 0 < (digs n).length := by
  by_cases h : n < 10
  · rw [digs_lt h]; simp
  · rw [digs_ge (by omega)]; simp
theorem digs_two {n : Nat} (h : 10 ≤ n) : 2 ≤ (digs n).length := by
  rw [digs_ge h, List.length_append]
  have := digs_pos (n / 10)
  simp; omega
theorem digs_len (n : Nat) : ∀ k, 1 ≤ k → n < 10 ^ k → (digs n).length ≤ k := by
  refine digs_ind (p := fun n => ∀ k, 1 ≤ k → n < 10 ^ k → (digs n).length ≤ k) (fun u h k hk _ => ?_) (fun u h ih k hk hu => ?_) n
  · rw [digs_lt h]; simpa using hk
  · rw [digs_ge h, List.length_append]
    by_cases h1 : k = 1
    · subst h1; simp at hu; omega
    · have := ih (k - 1) (by omega) (by
        obtain ⟨m, rfl⟩ : ∃ m, k = m + 1 := ⟨k - 1, by omega⟩
        rw [Nat.pow_succ] at hu
        rw [show m + 1 - 1 = m by omega]
        exact Nat.div_lt_of_lt_mul (by rw [Nat.mul_comm]; exact hu))
      simp; omega
theorem digs_dig (n : Nat) : ∀ x ∈ digs n, 48 ≤ x ∧ x ≤ 57 := by
  refine digs_ind (p := fun n => ∀ x ∈ digs n, 48 ≤ x ∧ x ≤ 57) (fun u h => ?_) (fun u h ih => ?_) n
  · rw [digs_lt h]; intro x hx; simp at hx; omega
  · rw [digs_ge h]; intro x hx
    rcases List.mem_append.1 hx with hx | hx
    · exact ih x hx
    · simp at hx; omega
def numL (x : Int) : List Int := if x < 0 then 45 :: digs (-x).toNat else digs x.toNat
def numS (x : Int) : ByteArray := str (numL x)
theorem numL_isB (x : Int) : ∀ y ∈ numL x, isB y := by
  intro y hy
  unfold numL at hy
  unfold isB
  split at hy
  · rcases List.mem_cons.1 hy with rfl | hy
    · omega
    · have := digs_dig _ y hy; omega
  · have := digs_dig _ y hy; omega
theorem numS_byt (x : Int) : byt (numS x) = numL x := byt_str (numL_isB x)

/-- What digits tell. -/
def valD (acc : Nat) : List Int → Nat
  | [] => acc
  | c :: r => valD (acc * 10 + (c - 48).toNat) r
theorem valD_app (acc : Nat) (l m : List Int) : valD acc (l ++ m) = valD (valD acc l) m := by
  induction l generalizing acc with
  | nil => rfl
  | cons c r ih => exact ih _
theorem valD_digs (n : Nat) : valD 0 (digs n) = n := by
  refine digs_ind (p := fun n => valD 0 (digs n) = n) (fun u h => ?_) (fun u h ih => ?_) n
  · rw [digs_lt h]; simp [valD]; omega
  · rw [digs_ge h, valD_app, ih]
    simp [valD]
    omega
theorem run_string_gen {P : Program} {ts td te : TypeId} (hts : P.underlying ts = some (.slice te)) (hte : P.underlying te = some (.int .u8)) (htd : P.underlying td = some .string)
    {w : World} {a : Option Addr} {n c : Nat} {l : List Int} (hs : Sl .u8 w a n l) (hb : ∀ x ∈ l, isB x) :
    (convert ts td (.slice a n c)).run P w = .ok (.string (str l)) w := by
  have hl := hs.len
  cases a with
  | none =>
    have hn : n = 0 := by
      by_cases hn : 0 < n
      · obtain ⟨b, o, e, _⟩ := hs.cells hn
        cases e
      · omega
    subst hn
    have : l = [] := List.eq_nil_of_length_eq_zero hl
    subst this
    rw [run_convert_bytes_string w _ _ te none 0 c hts hte htd]
    rfl
  | some ad =>
    have h := run_convert_bytes_back (P := P) w ts td te ad c (l.map fun x => UInt8.ofNat x.toNat) hts hte htd (fun j hj => by
      have hj' : j < l.length := by simpa using hj
      obtain ⟨b, o, e, _, hcs⟩ := hs.cells (by omega)
      cases e
      rw [Addr.add_lit, hcs j (by omega)]
      have e2 : l.getD j 0 = l[j] := by rw [List.getD_eq_getElem?_getD, List.getElem?_eq_getElem hj']; rfl
      have hx := hb _ (List.getElem_mem hj')
      rw [e2]
      unfold isB at hx
      simp
      omega)
    rw [List.length_map, hl] at h
    exact h
end Go.Proofs.YtpehinmckppjoaaGreatDoor
namespace Go.Proofs.YtpehinmckppjoaaGreatDoor
open Go.RowKit
set_option linter.unusedSimpArgs false
set_option linter.unusedVariables false

theorem own_ge {w : World} {base : Nat} {e : TypeId} {size n : Nat} {v : Value} {xs : List Value} (h : w.ownsRow base e size v n xs) : ∀ k, v.ownBlock = some k → base ≤ k := by
  intro k hk
  obtain ⟨_, h | ⟨g, cap, cur, rfl, hb, _⟩⟩ := h
  · obtain ⟨rfl, _⟩ := h
    simp [Value.ownBlock] at hk
  · simp [Value.ownBlock] at hk
    omega
theorem kept_grown {a w w' : World} {e : TypeId} {size n : Nat} {v : Value} {xs : List Value} (h : Kept a w) (ho : w.ownsRow a.heap.size e size v n xs) (hg : w.grownBy w' v.ownBlock) : Kept a w' :=
  Below.grown h hg h.size (own_ge ho)
theorem own_sl {w : World} {base : Nat} {e : TypeId} {v : Value} {k : IntKind} {l : List Int} {n : Nat} (hn : l.length = n) (hm : n ≤ maxLen) (h : w.ownsRow base e 1 v n (l.map (Value.int k))) :
    ∃ a cap, v = .slice a n cap ∧ Sl k w a n l := by
  have h' := h
  obtain ⟨_, ⟨rfl, rfl⟩ | ⟨g, cap, cur, rfl, hb, hheap, hc, hcm, hsz, htk⟩⟩ := h
  · exact ⟨_, _, rfl, ⟨hn, hm, fun hp => absurd hp (by omega)⟩⟩
  · refine ⟨_, _, rfl, ⟨hn, hm, fun hp => ⟨g, 0, rfl, ?_, fun i hi => ?_⟩⟩⟩
    · by_cases hlt : g < w.heap.size
      · exact hlt
      · rw [Array.getElem?_eq_none (by omega)] at hheap; cases hheap
    · rw [Nat.zero_add, h'.cellAt i (by omega)]
      simp [List.getElem?_map, List.getElem?_eq_getElem (show i < l.length by omega), List.getD]
theorem cell_lt {w : World} {p : Addr} {v : Value} (h : w.cell? p = some v) : p.block < w.heap.size := by
  by_cases hlt : p.block < w.heap.size
  · exact hlt
  · simp only [World.cell?] at h
    rw [Array.getElem?_eq_none (by omega)] at h
    cases h
end Go.Proofs.YtpehinmckppjoaaGreatDoor
namespace Go.Proofs.YtpehinmckppjoaaGreatDoor
open Go.RowKit
set_option linter.unusedSimpArgs false
set_option linter.unusedVariables false

/-- A slice of texts. -/
structure Ss (w : World) (a : Option Addr) (n : Nat) (l : List ByteArray) : Prop where
  len : l.length = n
  big : n ≤ maxLen
  cells : 0 < n → ∃ b o, a = some ⟨b, o, none⟩ ∧ b < w.heap.size ∧ ∀ i, i < n → w.cell? ⟨b, o + i, none⟩ = some (.string (l.getD i ByteArray.empty))
theorem Ss.kept {w w' : World} {a : Option Addr} {n : Nat} {l : List ByteArray} (h : Ss w a n l) (g : Kept w w') : Ss w' a n l :=
  ⟨h.len, h.big, fun hp => by
    obtain ⟨b, o, h1, h2, h3⟩ := h.cells hp
    exact ⟨b, o, h1, Nat.lt_of_lt_of_le h2 g.size, fun i hi => by rw [g.cell (p := ⟨b, o + i, none⟩) h2]; exact h3 i hi⟩⟩

/-- A slice of texts that came in. -/
theorem isStrs_ss {w : World} {x : Addr} {len cap : Nat} {Sx : Nat → ByteArray} (hl : len ≤ cap) (hm : cap ≤ maxLen) (h : ∀ i, i < cap → w.cell? (x.add i) = some (.string (Sx i)) ∧ (Sx i).size ≤ maxLen) :
    ∃ l, Ss w (some x) len l ∧ ∀ s ∈ l, s.size ≤ maxLen := by
  refine ⟨(List.range len).map Sx, ⟨by simp, by omega, fun hp => ?_⟩, fun s hs => ?_⟩
  · obtain ⟨b, off, spot⟩ := x
    have hspot : spot = none := by simpa [Addr.add] using World.cell?_spot (h 0 (by omega)).1
    subst hspot
    refine ⟨b, off, rfl, cell_lt (p := ⟨b, off, none⟩) (by simpa [Addr.add] using (h 0 (by omega)).1), fun i hi => ?_⟩
    have h1 := (h i (by omega)).1
    rw [Go.WideShapes.add_plain] at h1
    rw [h1]
    simp [List.getD, hi]
  · simp only [List.mem_map, List.mem_range] at hs
    obtain ⟨i, hi, rfl⟩ := hs
    exact (h i (by omega)).2
end Go.Proofs.YtpehinmckppjoaaGreatDoor
