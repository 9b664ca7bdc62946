/- A certified evaluator of closed calls, part P7. -/
import Derived.Test.YthmaejcpadoljaaGreatEvP6
import Derived.Calls
namespace Go.Ev
open Go Go.RowKit
set_option linter.unusedVariables false
set_option linter.unusedSimpArgs false
variable {P : Program} {I : FuncId → List AV → Option AV} {w0 : World} {E : Env} {h : T AB} {nx : Nat} {w : World}

/-- the operands' values -/
def OvR (E : Env) (t : T AV) (ρ : Operand → Value) (xs : List Operand) : Prop := ∀ x ∈ xs, ∀ v, (opn x).ev t = some v → Is E v (ρ x)
theorem OvR.evl {t : T AV} {ρ : Operand → Value} : ∀ {xs : List Operand} {l : List AV}, OvR E t ρ xs → Opn.evl t (opns xs) = some l → IsL E l (xs.map ρ)
  | [], l, _, e => by simp [opns, Opn.evl] at e; subst e; exact .nil
  | x :: xs, l, hr, e => by
    simp only [opns, Opn.evl] at e
    split at e
    · rename_i v hv
      split at e
      · rename_i r hr'
        cases e
        exact .cons _ _ _ _ (hr x (by simp) v hv) (OvR.evl (fun y hy => hr y (by simp [hy])) hr')
      · cases e
    · cases e
theorem OvR.evs {t : T AV} {ρ : Operand → Value} : ∀ {xs : List (Nat × Operand)} {l : List (Nat × AV)}, OvR E t ρ (xs.map (·.2)) → Opn.evs t (opnps xs) = some l → PsIs E l (xs.map fun p => (p.1, ρ p.2))
  | [], l, _, e => by simp [opnps, Opn.evs] at e; subst e; exact .nil
  | (i, x) :: xs, l, hr, e => by
    simp only [opnps, Opn.evs] at e
    split at e
    · rename_i v hv
      split at e
      · rename_i r hr'
        cases e
        exact .cons _ _ _ _ _ (hr x (by simp) v hv) (OvR.evs (fun y hy => hr y (by simp only [List.map_cons, List.mem_cons]; exact .inr hy)) hr')
      · cases e
    · cases e
theorem OvR.opt {t : T AV} {ρ : Operand → Value} {x : Option Operand} {v : Option AV} (hr : OvR E t ρ x.toList) (e : oev t (oopn x) = some v) : OIs' E v (x.map ρ) := by
  cases x with
  | none => simp [oopn, oev] at e; subst e; trivial
  | some x =>
    simp only [oopn, oev] at e
    split at e
    · rename_i u hu; cases e; exact hr x (by simp) u hu
    · cases e

def Flat (E : Env) : Prop := ∀ k v, E.ov k = some v → v.oneCell' = true
def PureOk (P : Program) (o : Oper) (f : T AV → Option AV) : Prop := ∀ E t ρ v, Flat E → OvR E t ρ o.op.operands.toList → f t = some v → ∀ w, ∃ x, (execOp ρ o).run P w = .ok (.value x) w ∧ Is E v x
def ReadOk (P : Program) (o : Oper) (f : T AV → T AB → Option AV) : Prop := ∀ w0 E h nx w t ρ v, St P w0 E h nx w → OvR E t ρ o.op.operands.toList → f t h = some v → ∃ x, (execOp ρ o).run P w = .ok (.value x) w ∧ Is E v x

/-! ### operations of values alone -/
theorem on1_some {x : Option AV} {k : AV → Option AV} {v : AV} (e : on1 x k = some v) : ∃ y, x = some y ∧ k y = some v := by
  unfold on1 at e
  split at e
  · exact ⟨_, rfl, e⟩
  · cases e
theorem run_v {s : Sem Value} {x : Value} {w' : World} (e : s.run P w = .ok x w') : (do pure (Next.value (← s)) : Sem Next).run P w = .ok (.value x) w' := by simp [e]

theorem pick_ok {c : Option AV} {a b : Operand} {t : T AV} {ρ : Operand → Value} {v : AV} {cv : Value} (hc : ∀ u, c = some u → Is E u cv) (hr : OvR E t ρ [a, b]) (e : pick c (opn a) (opn b) t = some v) :
    ∃ q, cv = .bool q ∧ Is E v (if q then ρ a else ρ b) := by
  unfold pick at e
  split at e
  · have := hc _ rfl; cases this; exact ⟨true, rfl, hr a (by simp) v e⟩
  · have := hc _ rfl; cases this; exact ⟨false, rfl, hr b (by simp) v e⟩
  · cases e
theorem fa_ok {off : Nat} {a : Option AV} {v : AV} {x : Value} (hx : ∀ u, a = some u → Is E u x) (e : fa off a = some v) : ∃ r o, x = .pointer (some ⟨r, o, none⟩) ∧ Is E v (.pointer (some ⟨r, o + off, none⟩)) := by
  unfold fa at e
  split at e
  · rename_i b o
    rw [fNat_eq] at e; cases e
    have := hx _ rfl
    cases this with | ptr _ _ r hb => exact ⟨r, o, rfl, .ptr _ _ r hb⟩
  · cases e
theorem un_ok {op : UnOp} {a : Option AV} {v : AV} {x : Value} (hx : ∀ u, a = some u → Is E u x) (e : unA op a = some v) : ∃ y, (Op.unary op x).run P w = .ok y w ∧ Is E v y := by
  unfold unA at e
  split at e
  · have := hx _ rfl; cases this; cases e; exact ⟨_, by simp [Op.unary] <;> rfl, .b _⟩
  · rename_i k n
    have := hx _ rfl; cases this; rw [mkI_eq e]
    exact ⟨.int k (k.wrap (Int.sub 0 n)), rfl, .i _ _⟩
  · rename_i k n
    have := hx _ rfl; cases this
    split at e
    · rename_i h1 h2
      cases e
      have h1 := not_ble h1
      refine ⟨.int k (.negSucc n), ?_, .i _ _⟩
      have hs : k.signed = true := by cases k <;> simp_all [isS, IntKind.signed]
      have l1 := Nat.lt_of_lt_of_le h1 (topN_le k)
      have hv : k.wrap ((BitVec.ofInt k.bits (-1) ^^^ BitVec.ofInt k.bits (Int.ofNat n)).toNat : Int) = .negSucc n := by
        have e1 : (BitVec.ofInt k.bits (-1) ^^^ BitVec.ofInt k.bits (Int.ofNat n)).toNat = 2 ^ k.bits - 1 - n := by
          have : BitVec.ofInt k.bits (-1) = BitVec.allOnes k.bits := by cases k <;> rfl
          rw [this, BitVec.allOnes_xor, BitVec.toNat_not, ofInt_nat _ _ l1]
        rw [e1]
        cases k <;> simp only [isS] at h2 <;> (first | (cases h2; done) | skip) <;> simp only [topN] at h1 <;> simp only [IntKind.wrap, IntKind.bits, IntKind.signed] <;> simp <;> omega
      simp only [Op.unary, hs, if_true, Op.intBits, Sem.run_pure]
      rw [hv]
    · rename_i h1 h2
      rw [fNat_eq] at e
      cases e
      have h1 := not_ble h1
      refine ⟨.int k (.ofNat (Nat.sub (Nat.pred (topN k)) n)), ?_, .i _ _⟩
      have hs : k.signed = false := by cases k <;> simp_all [isS, IntKind.signed]
      have l1 := Nat.lt_of_lt_of_le h1 (topN_le k)
      have ht : topN k = 2 ^ k.bits := by cases k <;> simp_all [isS] <;> rfl
      have hmax : k.max = ((2 ^ k.bits - 1 : Nat) : Int) := by cases k <;> simp_all [isS] <;> rfl
      have l2 : 2 ^ k.bits - 1 < 2 ^ k.bits := by have := Nat.two_pow_pos k.bits; omega
      have hv : k.wrap ((BitVec.ofInt k.bits k.max ^^^ BitVec.ofInt k.bits (Int.ofNat n)).toNat : Int) = .ofNat (Nat.sub (Nat.pred (topN k)) n) := by
        have e1 : (BitVec.ofInt k.bits k.max ^^^ BitVec.ofInt k.bits (Int.ofNat n)).toNat = 2 ^ k.bits - 1 - n := by
          have : BitVec.ofInt k.bits k.max = BitVec.allOnes k.bits := by
            apply BitVec.eq_of_toNat_eq
            rw [hmax]
            have := ofInt_nat k.bits (2 ^ k.bits - 1) l2
            rw [BitVec.toNat_allOnes]
            exact this
          rw [this, BitVec.allOnes_xor, BitVec.toNat_not, ofInt_nat _ _ l1]
        rw [e1]
        have : Nat.sub (Nat.pred (topN k)) n = 2 ^ k.bits - 1 - n := by rw [ht]; rfl
        rw [this]
        exact wrap_nat k _ (by rw [ht]; omega)
      simp only [Op.unary, hs, Bool.false_eq_true, if_false, Op.intBits, Sem.run_pure]
      rw [hv]
    · cases e
  · rename_i k n
    have := hx _ rfl; cases this
    split at e
    · rename_i h1 h2
      cases e
      have h1 := not_ble h1
      refine ⟨.int k (.ofNat n), ?_, .i _ _⟩
      have hs : k.signed = true := by cases k <;> simp_all [isS, IntKind.signed]
      have l1 := Nat.lt_of_lt_of_le h1 (topN_le k)
      have hv : k.wrap ((BitVec.ofInt k.bits (-1) ^^^ BitVec.ofInt k.bits (Int.negSucc n)).toNat : Int) = .ofNat n := by
        have e1 : (BitVec.ofInt k.bits (-1) ^^^ BitVec.ofInt k.bits (Int.negSucc n)).toNat = n := by
          have : BitVec.ofInt k.bits (-1) = BitVec.allOnes k.bits := by cases k <;> rfl
          rw [this, BitVec.allOnes_xor, BitVec.ofInt_negSucc_eq_not_ofNat, BitVec.not_not, BitVec.toNat_ofNat, Nat.mod_eq_of_lt l1]
        rw [e1]
        exact wrap_nat k n h1
      simp only [Op.unary, hs, if_true, Op.intBits, Sem.run_pure]
      rw [hv]
    · cases e
  · cases e
theorem sameK_eq {k k' : IntKind} (e : sameK k k' = true) : k = k' := by cases k <;> cases k' <;> simp_all [sameK]
theorem bin2_int {op : BinOp} {ty : TypeId} {a b : Option AV} {x y : Value} {v : AV} (ha : ∀ u, a = some u → Is E u x) (hb : ∀ u, b = some u → Is E u y) (e : bin2 (binI op) noV a b = some v) :
    ∃ z, (Go.binOp op ty x y).run P w = .ok z w ∧ Is E v z ∧ ∃ k a b, x = .int k a ∧ y = .int k b := by
  unfold bin2 at e
  split at e
  · cases e
  · rename_i u
    split at e
    · cases e
    · rename_i u2
      split at e
      · rename_i k n
        split at e
        · rename_i k' m
          split at e
          · rename_i hk
            have := sameK_eq hk; subst this
            have h1 := ha _ rfl
            have h2 := hb _ rfl
            cases h1; cases h2
            obtain ⟨z, q1, q2⟩ := binI_ok (P := P) (E := E) (w := w) (ty := ty) e
            exact ⟨z, q1, q2, _, _, _, rfl, rfl⟩
          · cases e
        · cases e
      · unfold noV at e; cases e
theorem bin2_str {op : BinOp} {ty : TypeId} {a b : Option AV} {x y : Value} {v : AV} (ha : ∀ u, a = some u → Is E u x) (hb : ∀ u, b = some u → Is E u y) (hop : op ≠ .shl ∧ op ≠ .shr) (e : bin2 noI (strFb op) a b = some v) :
    ∃ z, (Go.binOp op ty x y).run P w = .ok z w ∧ Is E v z ∧ ∃ s t, x = .string s ∧ y = .string t := by
  unfold bin2 at e
  split at e
  · cases e
  · rename_i u
    split at e
    · cases e
    · rename_i u2
      split at e
      · rename_i k n
        split at e
        · split at e
          · unfold noI at e; cases e
          · cases e
        · cases e
      · unfold strFb at e
        split at e
        · have h1 := ha _ rfl
          have h2 := hb _ rfl
          cases h1 with | s _ q1 => cases h2 with | s _ q2 =>
          obtain ⟨z, k1, k2⟩ := str_ok (P := P) (E := E) (w := w) q1 q2 e
          refine ⟨z, ?_, k2, _, _, rfl, rfl⟩
          cases op <;> first | exact k1 | simp_all
        · cases e
theorem bin3_ok {op : BinOp} (hop : op = .shl ∨ op = .shr) {ty : TypeId} {a b : Option AV} {x y : Value} {v : AV} (ha : ∀ u, a = some u → Is E u x) (hb : ∀ u, b = some u → Is E u y) (e : bin3 (shI op) a b = some v) :
    ∃ z, (Go.binOp op ty x y).run P w = .ok z w ∧ Is E v z ∧ ∃ k a k' b, x = .int k a ∧ y = .int k' b := by
  unfold bin3 at e
  split at e
  · have h1 := ha _ rfl
    have h2 := hb _ rfl
    cases h1; cases h2
    obtain ⟨z, q1, q2⟩ := shI_ok (P := P) (E := E) (w := w) (ty := ty) e
    exact ⟨z, q1, q2, _, _, _, _, rfl, rfl⟩
  · cases e
theorem eqGuard_int {op : BinOp} {ty : TypeId} {x y : Operand} {k k' : IntKind} {a b : Int} : (eqGuard op ty x y (.int k a) (.int k' b)).run P w = .ok () w := by
  cases op <;> simp [eqGuard]
theorem eqGuard_str {op : BinOp} {ty : TypeId} {x y : Operand} {a b : ByteArray} : (eqGuard op ty x y (.string a) (.string b)).run P w = .ok () w := by
  cases op <;> simp [eqGuard]
end Go.Ev
