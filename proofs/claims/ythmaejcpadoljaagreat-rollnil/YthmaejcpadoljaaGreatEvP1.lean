/- A certified evaluator of closed calls, part P1. -/
import Derived.Test.YthmaejcpadoljaaGreatEvC
import Derived.Below
import Derived.Laws.World
namespace Go.Ev
open Go
set_option linter.unusedVariables false
set_option linter.unusedSimpArgs false

/-! ### tries -/
theorem T.get_setP {α : Type} (x : α) : ∀ (p q : List Bool) (t : T α), T.getP q (T.setP x p t) = if p = q then some x else T.getP q t := by
  have leaf : ∀ (p q : List Bool), T.getP q (T.setP x p (.leaf : T α)) = if p = q then some x else none := by
    intro p
    induction p with
    | nil => intro q; cases q <;> simp [T.setP, T.getP]
             rename_i b q; cases b <;> cases q <;> simp [T.getP]
    | cons b p ih =>
      intro q
      cases q with
      | nil => cases b <;> simp [T.setP, T.getP]
      | cons c q =>
        have lf : ∀ q : List Bool, T.getP q (.leaf : T α) = none := by intro q; cases q <;> rfl
        cases b <;> cases c <;> simp [T.setP, T.getP, ih, lf]
  have lf : ∀ q : List Bool, T.getP q (.leaf : T α) = none := by intro q; cases q <;> rfl
  intro p
  induction p with
  | nil => intro q t; cases t with
    | leaf => rw [leaf]; simp [lf]
    | node v l r => cases q with
      | nil => simp [T.setP, T.getP]
      | cons c q => cases c <;> simp [T.setP, T.getP]
  | cons b p ih =>
    intro q t
    cases t with
    | leaf => rw [leaf]; simp [lf]
    | node v l r => cases q with
      | nil => cases b <;> simp [T.setP, T.getP]
      | cons c q => cases b <;> cases c <;> simp [T.setP, T.getP, ih]

theorem path_inj : ∀ (d j e k : Nat), j < d → k < e → path d j = path e k → j = k := by
  intro d
  induction d with
  | zero => intro j e k h; omega
  | succ d ih =>
    intro j e k hj hk h
    cases e with
    | zero => omega
    | succ e =>
      cases j with
      | zero => cases k with
        | zero => rfl
        | succ k => simp [path] at h
      | succ j => cases k with
        | zero => simp [path] at h
        | succ k =>
          simp only [path, List.cons.injEq] at h
          obtain ⟨h1, h2⟩ := h
          have hdj : Nat.div j 2 = j / 2 := rfl
          have hdk : Nat.div k 2 = k / 2 := rfl
          have hmj : Nat.mod j 2 = j % 2 := rfl
          have hmk : Nat.mod k 2 = k % 2 := rfl
          rw [hdj, hdk] at h2
          rw [hmj, hmk] at h1
          have h3 := ih (j / 2) e (k / 2) (by omega) (by omega) h2
          have h4 : (j % 2 = 0) ↔ (k % 2 = 0) := by
            have e1 : Nat.beq (j % 2) 0 = true ↔ j % 2 = 0 := by simp [Nat.beq_eq]
            have e2 : Nat.beq (k % 2) 0 = true ↔ k % 2 = 0 := by simp [Nat.beq_eq]
            rw [← e1, ← e2, h1]
          omega
theorem pth_inj {j k : Nat} (h : pth j = pth k) : j = k := path_inj _ _ _ _ (Nat.lt_succ_self _) (Nat.lt_succ_self _) h

theorem T.get_set {α : Type} (t : T α) (j k : Nat) (x : α) : (t.set j x).get k = if j = k then some x else t.get k := by
  unfold T.get T.set
  rw [T.get_setP]
  by_cases h : j = k
  · subst h; simp
  · have : pth j ≠ pth k := fun e => h (pth_inj e)
    simp [h, this]
theorem T.get_leaf {α : Type} (k : Nat) : (T.leaf : T α).get k = none := by
  unfold T.get; cases pth k <;> rfl

theorem get_setAll (l : List AV) : ∀ (c : T AV) (o k : Nat), (setAll c o l).get k = if o ≤ k ∧ k < o + l.length then l[k - o]? else c.get k := by
  induction l with
  | nil => intro c o k; have : ¬ (o ≤ k ∧ k < o + 0) := by omega
           simp [setAll]; intro h1 h2; omega
  | cons v l ih =>
    intro c o k
    rw [setAll, ih, T.get_set]
    by_cases h : o = k
    · subst h
      have : ¬ (o.succ ≤ o ∧ o < o.succ + l.length) := by omega
      simp [this]
    · by_cases h2 : o + 1 ≤ k ∧ k < o + 1 + l.length
      · have h3 : o ≤ k ∧ k < o + (l.length + 1) := by omega
        have h4 : k - o = (k - (o + 1)) + 1 := by omega
        simp [h2, h3, h4, Nat.succ_eq_add_one]
      · have h3 : ¬ (o ≤ k ∧ k < o + (l.length + 1)) := by omega
        simp [h2, h3, h, Nat.succ_eq_add_one]

/-! ### what an abstract value stands for -/
structure Env where
  at_ : Nat → Option Nat
  cap : Nat → Nat
  ov : Nat → Option Value

def IsF (E : Env) : Fn → Fn → Prop
  | .yield l, f => ∃ r, E.at_ l = some r ∧ f = .yield r
  | g, f => f = g
/-- a text's bytes -/
def byts (l : List Nat) : ByteArray := ⟨(l.map UInt8.ofNat).toArray⟩

mutual
inductive Is (E : Env) : AV → Value → Prop
  | b (x : Bool) : Is E (.b x) (.bool x)
  | i (k : IntKind) (n : Int) : Is E (.i k n) (.int k n)
  | s (l : List Nat) (h : ∀ x ∈ l, x < 256) : Is E (.s l) (.string (byts l))
  | np : Is E .np (.pointer none)
  | ns : Is E .ns (.slice none 0 0)
  | nm : Is E .nm (.map none)
  | ni : Is E .ni .nilIface
  | nf : Is E .nf .nilFunc
  | undef : Is E .undef (.tuple #[])
  | es (a : Addr) (c : Nat) : Is E .es (.slice (some a) 0 c)
  | o (k : Nat) (v : Value) (h : E.ov k = some v) : Is E (.o k) v
  | ptr (b o r : Nat) (h : E.at_ b = some r) : Is E (.ptr b o) (.pointer (some ⟨r, o, none⟩))
  | sl (b o n c r : Nat) (h : E.at_ b = some r) (hn : n ≤ c) : Is E (.sl b o n c false) (.slice (some ⟨r, o, none⟩) n c)
  | slo (b o n c r : Nat) (h : E.at_ b = some r) (hc : c + n ≤ E.cap b) : Is E (.sl b o n c true) (.slice (some ⟨r, o, none⟩) n (E.cap b - c))
  | mp (b r : Nat) (h : E.at_ b = some r) : Is E (.mp b) (.map (some r))
  | fn (f g : Fn) (l m : List AV) (vs ws : List Value) (h : IsF E f g) (h1 : IsL E l vs) (h2 : IsL E m ws) : Is E (.fn f l m) (.func g vs.toArray ws.toArray)
  | ifc (t : TypeId) (v : AV) (x : Value) (h : Is E v x) : Is E (.ifc t v) (.iface t x)
  | agg (l : List AV) (vs : List Value) (h : IsL E l vs) : Is E (.agg l) (.agg vs.toArray)
  | tup (l : List AV) (vs : List Value) (h : IsL E l vs) : Is E (.tup l) (.tuple vs.toArray)
inductive IsL (E : Env) : List AV → List Value → Prop
  | nil : IsL E [] []
  | cons (v : AV) (x : Value) (l : List AV) (vs : List Value) (h : Is E v x) (hl : IsL E l vs) : IsL E (v :: l) (x :: vs)
end

/-- E' knows all that E knows -/
structure Env.le (E E' : Env) : Prop where
  at_ : ∀ b r, E.at_ b = some r → E'.at_ b = some r
  cap : ∀ b r, E.at_ b = some r → E'.cap b = E.cap b
  ov : E'.ov = E.ov
theorem Env.le.refl (E : Env) : E.le E := ⟨fun _ _ h => h, fun _ _ _ => rfl, rfl⟩
theorem Env.le.trans {A B C : Env} (h : A.le B) (k : B.le C) : A.le C :=
  ⟨fun b r e => k.at_ b r (h.at_ b r e), fun b r e => (k.cap b r (h.at_ b r e)).trans (h.cap b r e), k.ov.trans h.ov⟩
theorem IsF.le {E E' : Env} (h : E.le E') {f g : Fn} (k : IsF E f g) : IsF E' f g := by
  cases f <;> first | exact k | (obtain ⟨r, a, b⟩ := k; exact ⟨r, h.at_ _ _ a, b⟩)

mutual
theorem Is.le {E E' : Env} (h : E.le E') {v : AV} {x : Value} (k : Is E v x) : Is E' v x := by
  cases k with
  | b x => exact .b x
  | i k n => exact .i k n
  | s l h => exact .s l h
  | np => exact .np
  | ns => exact .ns
  | nm => exact .nm
  | ni => exact .ni
  | nf => exact .nf
  | undef => exact .undef
  | es a c => exact .es a c
  | o k v e => exact .o k _ (by rw [h.ov]; exact e)
  | ptr b o r e => exact .ptr b o r (h.at_ _ _ e)
  | sl b o n c r e hn => exact .sl b o n c r (h.at_ _ _ e) hn
  | slo b o n c r e hc => rw [← h.cap b r e]; exact .slo b o n c r (h.at_ _ _ e) (by rw [h.cap b r e]; exact hc)
  | mp b r e => exact .mp b r (h.at_ _ _ e)
  | fn f g l m vs ws a b c => exact .fn f g l m vs ws (a.le h) (IsL.le h b) (IsL.le h c)
  | ifc t v x a => exact .ifc t v x (Is.le h a)
  | agg l vs a => exact .agg l vs (IsL.le h a)
  | tup l vs a => exact .tup l vs (IsL.le h a)
theorem IsL.le {E E' : Env} (h : E.le E') {v : List AV} {x : List Value} (k : IsL E v x) : IsL E' v x := by
  cases k with
  | nil => exact .nil
  | cons v x l vs a b => exact .cons v x l vs (Is.le h a) (IsL.le h b)
end

theorem IsL.length {E : Env} : ∀ {l : List AV} {vs : List Value}, IsL E l vs → l.length = vs.length
  | _, _, .nil => rfl
  | _, _, .cons _ _ _ _ _ h => by simp [h.length]
theorem IsL.get {E : Env} : ∀ {l : List AV} {vs : List Value}, IsL E l vs → ∀ (k : Nat) (v : AV), l[k]? = some v → ∃ x, vs[k]? = some x ∧ Is E v x
  | _, _, .nil, k, v, h => by simp at h
  | _, _, .cons a x l vs h hl, 0, v, e => by simp at e; subst e; exact ⟨x, rfl, h⟩
  | _, _, .cons a x l vs h hl, k + 1, v, e => by simpa using hl.get k v (by simpa using e)
theorem IsL.app {E : Env} : ∀ {l : List AV} {vs : List Value} {m : List AV} {ws : List Value}, IsL E l vs → IsL E m ws → IsL E (l ++ m) (vs ++ ws)
  | _, _, _, _, .nil, h => h
  | _, _, _, _, .cons a x l vs h hl, k => .cons a x _ _ h (hl.app k)
theorem IsL.drop {E : Env} : ∀ {l : List AV} {vs : List Value}, IsL E l vs → ∀ n, IsL E (l.drop n) (vs.drop n)
  | _, _, h, 0 => h
  | _, _, .nil, n + 1 => .nil
  | _, _, .cons a x l vs h hl, n + 1 => hl.drop n
theorem IsL.take {E : Env} : ∀ {l : List AV} {vs : List Value}, IsL E l vs → ∀ n, IsL E (l.take n) (vs.take n)
  | _, _, _, 0 => .nil
  | _, _, .nil, n + 1 => .nil
  | _, _, .cons a x l vs h hl, n + 1 => .cons a x _ _ h (hl.take n)

/-! ### constants -/
theorem byts_toNat (s : ByteArray) : byts (s.data.toList.map UInt8.toNat) = s := by
  cases s with
  | mk d =>
    unfold byts
    congr 1
    rw [List.map_map]
    have : (UInt8.ofNat ∘ UInt8.toNat) = id := by funext x; simp
    rw [this, List.map_id]

mutual
theorem ofValue_is (E : Env) : ∀ (v : Value) (x : AV), ofValue v = some x → Is E x v
  | .bool x, _, h => by simp [ofValue] at h; subst h; exact .b x
  | .int k n, _, h => by simp [ofValue] at h; subst h; exact .i k n
  | .string s, _, h => by
      simp only [ofValue, Option.some.injEq] at h; subst h
      have := Is.s (E := E) (s.data.toList.map UInt8.toNat) (by intro x hx; obtain ⟨y, _, rfl⟩ := List.mem_map.1 hx; exact y.toNat_lt)
      rwa [byts_toNat] at this
  | .pointer none, _, h => by simp [ofValue] at h; subst h; exact .np
  | .slice none 0 0, _, h => by simp [ofValue] at h; subst h; exact .ns
  | .map none, _, h => by simp [ofValue] at h; subst h; exact .nm
  | .nilIface, _, h => by simp [ofValue] at h; subst h; exact .ni
  | .nilFunc, _, h => by simp [ofValue] at h; subst h; exact .nf
  | .agg ⟨cs⟩, x, h => by
      simp only [ofValue] at h
      split at h
      · rename_i l hl; simp at h; subst h; exact .agg l cs (ofValues_is E cs l hl)
      · simp at h
  | .tuple ⟨[]⟩, x, h => by simp [ofValue] at h; subst h; exact .undef
  | .tuple ⟨c :: cs⟩, x, h => by
      simp only [ofValue] at h
      split at h
      · rename_i l hl; simp at h; subst h; exact .tup l (c :: cs) (ofValues_is E (c :: cs) l hl)
      · simp at h
  | .func f ⟨a⟩ ⟨b⟩, x, h => by
      simp only [ofValue] at h
      split at h
      · rename_i l m hy hl hm
        simp at h; subst h
        refine .fn f f l m a b ?_ (ofValues_is E a l hl) (ofValues_is E b m hm)
        cases f <;> simp_all [isYield, IsF]
      · simp at h
  | .iface t v, x, h => by
      simp only [ofValue] at h
      split at h
      · rename_i y hy; simp at h; subst h; exact .ifc t y v (ofValue_is E v y hy)
      · simp at h
  | .float .., _, h | .complex .., _, h | .pointer (some _), _, h | .chan _, _, h | .map (some _), _, h | .slice (some _) _ _, _, h => by simp [ofValue] at h
  | .slice none (n + 1) _, _, h | .slice none 0 (n + 1), _, h => by simp [ofValue] at h
theorem ofValues_is (E : Env) : ∀ (v : List Value) (x : List AV), ofValues v = some x → IsL E x v
  | [], _, h => by simp [ofValues] at h; subst h; exact .nil
  | v :: vs, x, h => by
      simp only [ofValues] at h
      split at h
      · rename_i y l hy hl; simp at h; subst h; exact .cons y v l vs (ofValue_is E v y hy) (ofValues_is E vs l hl)
      · simp at h
end
end Go.Ev
