/- A certified evaluator of closed calls, part P4. -/
import Derived.Test.YthmaejcpadoljaaGreatEvP3
namespace Go.Ev
open Go Go.RowKit
set_option linter.unusedVariables false
set_option linter.unusedSimpArgs false
variable {P : Program} {E : Env} {w : World}

theorem fNat_eq {α : Type} (k : Nat → α) (n : Nat) : fNat k n = k n := by cases n <;> rfl
theorem wrap_nat (k : IntKind) (m : Nat) (h : m < topN k) : k.wrap (.ofNat m) = .ofNat m := by
  have e : (Int.ofNat m) = (m : Int) := rfl
  cases k <;> simp only [topN] at h <;> simp only [IntKind.wrap, IntKind.bits, IntKind.signed, e] <;> simp <;> omega
theorem wrap_neg (k : IntKind) (m : Nat) (hs : isS k = true) (h : m < topN k) : k.wrap (.negSucc m) = .negSucc m := by
  have e : (Int.negSucc m) = -(m : Int) - 1 := by omega
  cases k <;> simp only [isS] at hs <;> (first | (cases hs; done) | skip) <;> simp only [topN] at h <;> simp only [IntKind.wrap, IntKind.bits, IntKind.signed, e] <;> simp <;> omega
theorem mkI_eq {k : IntKind} {n : Int} {v : AV} (e : mkI k n = some v) : v = .i k (k.wrap n) := by
  unfold mkI at e
  split at e
  · rename_i m
    split at e
    · rename_i hb; rw [fNat_eq] at e; cases e; rw [wrap_nat k m (not_ble hb)]
    · cases e; rfl
  · rename_i m
    split at e
    · rename_i hs
      split at e
      · rename_i hb; rw [fNat_eq] at e; cases e; rw [wrap_neg k m hs (not_ble hb)]
      · cases e; rfl
    · cases e; rfl
theorem eqI_iff (a b : Int) : eqI a b = (a == b) := by
  have key : eqI a b = true ↔ a = b := by
    cases a <;> cases b <;> simp only [eqI, Nat.beq_eq]
    · exact ⟨fun h => by rw [h], fun h => Int.ofNat.inj h⟩
    · constructor <;> intro h <;> cases h
    · constructor <;> intro h <;> cases h
    · exact ⟨fun h => by rw [h], fun h => Int.negSucc.inj h⟩
  by_cases h : a = b
  · rw [key.2 h]; simp [h]
  · have : eqI a b = false := by cases q : eqI a b with | true => exact absurd (key.1 q) h | false => rfl
    rw [this]; simp [h]
theorem ltI_iff (a b : Int) : ltI a b = decide (a < b) := by
  have key : ltI a b = true ↔ a < b := by
    cases a <;> cases b <;> simp only [ltI, Nat.ble_eq]
    · constructor <;> intro h <;> simp at * <;> omega
    · rename_i m n; constructor
      · intro h; cases h
      · intro h; have : Int.negSucc n < 0 := Int.negSucc_lt_zero n; have : (0 : Int) ≤ Int.ofNat m := Int.natCast_nonneg m; omega
    · rename_i m n; constructor
      · intro _; have : Int.negSucc m < 0 := Int.negSucc_lt_zero m; have : (0 : Int) ≤ Int.ofNat n := Int.natCast_nonneg n; omega
      · intro _; trivial
    · rename_i m n; have e1 : Int.negSucc m = -(m : Int) - 1 := by omega
      have e2 : Int.negSucc n = -(n : Int) - 1 := by omega
      rw [e1, e2]; constructor <;> intro h <;> omega
  by_cases h : a < b
  · rw [key.2 h]; simp [h]
  · have : ltI a b = false := by cases q : ltI a b with | true => exact absurd (key.1 q) h | false => rfl
    rw [this]; simp [h]

theorem ofInt_nat (n m : Nat) (h : m < 2 ^ n) : (BitVec.ofInt n (.ofNat m)).toNat = m := by
  have : (BitVec.ofInt n (.ofNat m)) = BitVec.ofNat n m := by
    apply BitVec.eq_of_toNat_eq
    simp [BitVec.toNat_ofInt]
  rw [this, BitVec.toNat_ofNat, Nat.mod_eq_of_lt h]
theorem topN_le (k : IntKind) : topN k ≤ 2 ^ k.bits := by cases k <;> decide
theorem topN_pow (k : IntKind) : ∃ n, topN k = 2 ^ n := by
  cases k
  · exact ⟨7, rfl⟩
  · exact ⟨15, rfl⟩
  · exact ⟨31, rfl⟩
  · exact ⟨63, rfl⟩
  · exact ⟨8, rfl⟩
  · exact ⟨16, rfl⟩
  · exact ⟨32, rfl⟩
  · exact ⟨64, rfl⟩
theorem bits_ok {op : BinOp} {g : Nat → Nat → Nat} (hg : (op = .and ∧ g = Nat.land) ∨ (op = .or ∧ g = Nat.lor) ∨ (op = .xor ∧ g = Nat.xor) ∨ (op = .andNot ∧ g = fun a b => Nat.xor a (Nat.land a b)))
    {k : IntKind} {a b : Int} {v : AV} (e : bitI g k a b = some v) : ∃ n, v = .i k n ∧ (Op.intBits op k a b).run P w = .ok (.int k n) w := by
  unfold bitI at e
  split at e
  · rename_i a b
    split at e
    · rename_i h1 h2
      have h1 := not_ble h1
      have h2 := not_ble h2
      rw [fNat_eq] at e
      cases e
      have l1 := Nat.lt_of_lt_of_le h1 (topN_le k)
      have l2 := Nat.lt_of_lt_of_le h2 (topN_le k)
      obtain ⟨m, hm⟩ := topN_pow k
      refine ⟨_, rfl, ?_⟩
      have key : ∀ (r : BitVec k.bits) (c : Nat), r.toNat = c → c < topN k → k.wrap (r.toNat : Int) = .ofNat c := by
        intro r c h1 h2; rw [h1]; exact wrap_nat k c h2
      have ta := ofInt_nat k.bits a l1
      have tb := ofInt_nat k.bits b l2
      rcases hg with ⟨rfl, rfl⟩ | ⟨rfl, rfl⟩ | ⟨rfl, rfl⟩ | ⟨rfl, rfl⟩
      · simp only [Op.intBits, Sem.run_pure]
        rw [key _ (a &&& b) (by rw [BitVec.toNat_and, ta, tb]) (Nat.lt_of_le_of_lt Nat.and_le_left h1)]
        rfl
      · simp only [Op.intBits, Sem.run_pure]
        rw [key _ (a ||| b) (by rw [BitVec.toNat_or, ta, tb]) (by rw [hm] at h1 h2 ⊢; exact Nat.or_lt_two_pow h1 h2)]
        rfl
      · simp only [Op.intBits, Sem.run_pure]
        rw [key _ (a ^^^ b) (by rw [BitVec.toNat_xor, ta, tb]) (by rw [hm] at h1 h2 ⊢; exact Nat.xor_lt_two_pow h1 h2)]
        rfl
      · simp only [Op.intBits, Sem.run_pure]
        have e1 : ∀ x y : BitVec k.bits, x &&& ~~~y = x ^^^ (x &&& y) := by
          intro x y
          apply BitVec.eq_of_getLsbD_eq
          intro i hi
          simp [hi]
          generalize x[i] = p
          generalize y[i] = q
          cases p <;> cases q <;> rfl
        rw [e1, key _ (a ^^^ (a &&& b)) (by rw [BitVec.toNat_xor, BitVec.toNat_and, ta, tb]) (by rw [hm] at h1 h2 ⊢; exact Nat.xor_lt_two_pow h1 (Nat.lt_of_le_of_lt Nat.and_le_left h1))]
        rfl
    · cases e
  · cases e

theorem binI_ok {op : BinOp} {k : IntKind} {ty : TypeId} {a b : Int} {v : AV} (e : binI op k a b = some v) : ∃ x, (Go.binOp op ty (.int k a) (.int k b)).run P w = .ok x w ∧ Is E v x := by
  unfold binI at e
  split at e
  · rw [mkI_eq e]; exact ⟨_, by simp [Go.binOp, Op.intArith] <;> rfl, .i _ _⟩
  · rw [mkI_eq e]; exact ⟨_, by simp [Go.binOp, Op.intArith] <;> rfl, .i _ _⟩
  · rw [mkI_eq e]; exact ⟨_, by simp [Go.binOp, Op.intArith] <;> rfl, .i _ _⟩
  · split at e
    · cases e
    · rename_i h0
      rw [eqI_iff] at h0
      have h0 : b ≠ 0 := by simpa using h0
      rw [mkI_eq e]; exact ⟨_, by simp [Go.binOp, Op.intDiv, h0] <;> rfl, .i _ _⟩
  · split at e
    · cases e
    · rename_i h0
      rw [eqI_iff] at h0
      have h0 : b ≠ 0 := by simpa using h0
      cases e; exact ⟨_, by simp [Go.binOp, Op.intDiv, h0] <;> rfl, .i _ _⟩
  · cases e; exact ⟨_, by simp [Go.binOp, Op.intCmp, eqI_iff] <;> rfl, .b _⟩
  · cases e; exact ⟨_, by simp [Go.binOp, Op.intCmp, eqI_iff] <;> rfl, .b _⟩
  · cases e; exact ⟨_, by simp [Go.binOp, Op.intCmp, ltI_iff] <;> rfl, .b _⟩
  · cases e; refine ⟨.bool (decide (a ≤ b)), by simp [Go.binOp, Op.intCmp], ?_⟩
    have : (!ltI b a) = decide (a ≤ b) := by rw [ltI_iff, Bool.eq_iff_iff]; simp
    rw [this]; exact .b _
  · cases e; exact ⟨_, by simp [Go.binOp, Op.intCmp, ltI_iff] <;> rfl, .b _⟩
  · cases e; refine ⟨.bool (decide (a ≥ b)), by simp [Go.binOp, Op.intCmp], ?_⟩
    have : (!ltI a b) = decide (a ≥ b) := by rw [ltI_iff, Bool.eq_iff_iff]; simp
    rw [this]; exact .b _
  · obtain ⟨n, rfl, q⟩ := bits_ok (P := P) (w := w) (.inl ⟨rfl, rfl⟩) e; exact ⟨_, by simpa [Go.binOp] using q, .i _ _⟩
  · obtain ⟨n, rfl, q⟩ := bits_ok (P := P) (w := w) (.inr (.inl ⟨rfl, rfl⟩)) e; exact ⟨_, by simpa [Go.binOp] using q, .i _ _⟩
  · obtain ⟨n, rfl, q⟩ := bits_ok (P := P) (w := w) (.inr (.inr (.inl ⟨rfl, rfl⟩))) e; exact ⟨_, by simpa [Go.binOp] using q, .i _ _⟩
  · obtain ⟨n, rfl, q⟩ := bits_ok (P := P) (w := w) (.inr (.inr (.inr ⟨rfl, rfl⟩))) e; exact ⟨_, by simpa [Go.binOp] using q, .i _ _⟩
  · cases e
theorem bitsN_eq (k : IntKind) : bitsN k = k.bits := by cases k <;> rfl
theorem shI_ok {op : BinOp} {k k' : IntKind} {ty : TypeId} {a b : Int} {v : AV} (e : shI op k a b = some v) : ∃ x, (Go.binOp op ty (.int k a) (.int k' b)).run P w = .ok x w ∧ Is E v x := by
  unfold shI at e
  split at e
  · rename_i n
    split at e
    · cases e
    · rename_i hn
      have hn := ble_le hn
      rw [bitsN_eq] at hn
      have hmin : min n k.bits = n := Nat.min_eq_left hn
      have hneg : ¬ ((n : Int) < 0) := by omega
      have hpow : ((2 ^ n : Nat) : Int) = (2 : Int) ^ n := by simp
      split at e
      · rw [mkI_eq e]
        refine ⟨.int k (k.wrap (Int.mul a (Int.ofNat (Nat.pow 2 n)))), ?_, .i _ _⟩
        have : Int.mul a (Int.ofNat (Nat.pow 2 n)) = a * 2 ^ n := by rw [← hpow]; rfl
        rw [this]
        simp [Go.binOp, Op.shift, hneg, hmin]
      · split at e
        · rename_i a
          rw [fNat_eq] at e; cases e
          refine ⟨.int k (.ofNat (Nat.div a (Nat.pow 2 n))), ?_, .i _ _⟩
          have : Int.ofNat (Nat.div a (Nat.pow 2 n)) = (Int.ofNat a).fdiv (2 ^ n) := by
            rw [← hpow]; exact Int.ofNat_fdiv a (2 ^ n)
          rw [this]
          simp [Go.binOp, Op.shift, hneg, hmin]
        · rename_i a
          rw [fNat_eq] at e; cases e
          refine ⟨.int k (.negSucc (Nat.div a (Nat.pow 2 n))), ?_, .i _ _⟩
          have : Int.negSucc (Nat.div a (Nat.pow 2 n)) = (Int.negSucc a).fdiv (2 ^ n) := by
            rw [← hpow]
            obtain ⟨m, hm⟩ : ∃ m, 2 ^ n = m + 1 := ⟨2 ^ n - 1, by have := Nat.two_pow_pos n; omega⟩
            show Int.negSucc (a / 2 ^ n) = _
            rw [hm]; rfl
          rw [this]
          simp [Go.binOp, Op.shift, hneg, hmin]
      · cases e
  · cases e
end Go.Ev
