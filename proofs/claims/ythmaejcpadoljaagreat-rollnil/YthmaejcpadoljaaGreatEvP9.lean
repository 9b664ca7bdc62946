/- A certified evaluator of closed calls, part P9. -/
import Derived.Test.YthmaejcpadoljaaGreatEvP8
namespace Go.Ev
open Go Go.RowKit
set_option linter.unusedVariables false
set_option linter.unusedSimpArgs false
variable {P : Program} {I : FuncId → List AV → Option AV} {w0 : World} {E : Env} {h : T AB} {nx : Nat} {w : World}

/-! ### built-in functions of values alone -/
def callOp (b : Builtin) (c : Call) (ty : TypeId) (ρ : Operand → Value) : Sem Next := Go.builtin b c.argTypes ty (c.args.map fun | .const _ => true | _ => false) (c.args.map ρ)
theorem exec_builtin {dst : Option Tmp} {c : Call} {ty : TypeId} {pos : String} {af : Array Edge} {g : Option (Nat × Bool)} {ρ : Operand → Value} {b : Builtin} (hc : c.callee = .builtin b) :
    execOp ρ ⟨dst, .call c, ty, pos, af, g⟩ = callOp b c ty ρ := by
  simp only [execOp, resolve, hc]; rfl
theorem args1 {c : Call} {x : Opn} (e : opns c.args.toList = [x]) : ∃ a, c.args = #[a] ∧ x = opn a := by
  cases hl : c.args.toList with
  | nil => rw [hl] at e; cases e
  | cons a l => cases l with
    | nil => rw [hl] at e; simp [opns] at e; exact ⟨a, Array.ext' (by simpa using hl), e.symm⟩
    | cons b l => rw [hl] at e; simp [opns] at e
theorem args2 {c : Call} {x y : Opn} (e : opns c.args.toList = [x, y]) : ∃ a b, c.args = #[a, b] ∧ x = opn a ∧ y = opn b := by
  cases hl : c.args.toList with
  | nil => rw [hl] at e; cases e
  | cons a l => cases l with
    | nil => rw [hl] at e; simp [opns] at e
    | cons b l => cases l with
      | nil => rw [hl] at e; simp [opns] at e; exact ⟨a, b, Array.ext' (by simpa using hl), e.1.symm, e.2.symm⟩
      | cons d l => rw [hl] at e; simp [opns] at e
theorem lenA_ok {ty : TypeId} {x : AV} {y : Value} {n : Nat} (hm : ∀ k v, und P ty ≠ some (.map k v)) (hx : Is E x y) (e : lenA P h ty x = some n) {ats : Array TypeId} (ha : ats[0]? = some ty) {rt : TypeId} :
    (Builtin.len_ ats rt #[y]).run P w = .ok (goInt n) w := by
  unfold lenA at e
  split at e
  · rename_i hu; have hu : P.underlying ty = _ := hu
    split at e
    · cases e; cases hx; simp [Builtin.len_, ha, run_underlying hu, byts_size]
    · cases e
  · rename_i hu; have hu : P.underlying ty = _ := hu
    cases e; simp [Builtin.len_, ha, run_underlying hu]
  · rename_i a hu; have hu : P.underlying ty = _ := hu
    split at e
    · rename_i hu2; have hu2 : P.underlying a = _ := hu2
      cases e; simp [Builtin.len_, ha, run_underlying hu, run_underlying hu2]
    · cases e
  · rename_i hu; have hu : P.underlying ty = _ := hu
    split at e <;> (first | (cases e; done) | (cases e; cases hx <;> simp [Builtin.len_, ha, run_underlying hu]))
  · rename_i k v hu; exact absurd hu (hm k v)
  · cases e
theorem capA_ok {ty el : TypeId} (hu : P.underlying ty = some (.slice el)) {x : Option AV} {v : AV} {y : Value} (hx : ∀ u, x = some u → Is E u y) (e : capA x = some v) {ats : Array TypeId} (ha : ats[0]? = some ty) {rt : TypeId} :
    ∃ z, (Builtin.cap_ ats rt #[y]).run P w = .ok z w ∧ Is E v z := by
  unfold capA at e
  split at e
  · cases e; have := hx _ rfl; cases this; exact ⟨_, by simp [Builtin.cap_, ha, run_underlying hu]; rfl, .i _ _⟩
  · cases e; have := hx _ rfl; cases this; exact ⟨_, by simp [Builtin.cap_, ha, run_underlying hu]; rfl, .i _ _⟩
  · cases e
theorem foldMin_ok {mx : Bool} : ∀ {l : List AV} {x v : AV} {y : Value} {vs : List Value}, Is E x y → IsL E l vs → foldMin mx x l = some v → ∃ z, (vs.foldlM (if mx then Builtin.max2 else Builtin.min2) y).run P w = .ok z w ∧ Is E v z
  | [], x, v, y, _, hx, .nil, e => by simp [foldMin] at e; subst e; exact ⟨y, rfl, hx⟩
  | u :: l, x, v, y, _, hx, .cons _ z _ vs hu hl, e => by
    unfold foldMin at e
    split at e
    · rename_i q; cases q
    · rename_i k a k' b l' hh
      cases hh
      cases hx; cases hu
      obtain ⟨zz, q1, q2⟩ := foldMin_ok (Is.i _ _) hl e
      refine ⟨zz, ?_, q2⟩
      cases mx
      · simp only [Bool.false_eq_true, if_false] at q1 ⊢
        simp only [List.foldlM_cons, Builtin.min2, Sem.run_bind, Sem.run_pure, Result.andThen_ok]
        rw [ltI_iff] at q1
        by_cases hlt : b < a <;> simp [hlt] at q1 ⊢ <;> exact q1
      · simp only [if_true] at q1 ⊢
        simp only [List.foldlM_cons, Builtin.max2, Sem.run_bind, Sem.run_pure, Result.andThen_ok]
        rw [ltI_iff] at q1
        by_cases hlt : a < b <;> simp [hlt] at q1 ⊢ <;> exact q1
    · cases e
theorem usd_some {ats : Array TypeId} {rt : TypeId} {a : Addr} {n c : Nat} (hc : c ≠ 0) : (Builtin.unsafeSliceData_ ats rt #[.slice (some a) n c]).run P w = .ok (.pointer (some a)) w := by
  have : Builtin.unsafeSliceData_ ats rt #[.slice (some a) n c] = if c ≠ 0 then pure (.pointer (some a)) else (do if (← viewAt a.block).isSome then pure (.pointer (some a)) else pure (.pointer (some ⟨← newObj (.view a (← elemOf rt)), 0, none⟩))) := rfl
  rw [this, if_pos hc]; rfl
theorem usDat_ok {x : Option AV} {v : AV} {y : Value} (hx : ∀ u, x = some u → Is E u y) (e : usDat x = some v) {ats : Array TypeId} {rt : TypeId} :
    ∃ z, (Builtin.unsafeSliceData_ ats rt #[y]).run P w = .ok z w ∧ Is E v z := by
  unfold usDat at e
  split at e
  · cases e; have := hx _ rfl; cases this; exact ⟨.pointer none, rfl, .np⟩
  · rename_i b o n c q
    cases e; have := hx _ rfl
    cases this with
    | sl _ _ _ _ r hb hn => exact ⟨_, usd_some (by omega), .ptr _ _ r hb⟩
    | slo _ _ _ _ r hb hn => exact ⟨_, usd_some (by omega), .ptr _ _ r hb⟩
  · cases e; have := hx _ rfl; cases this with
    | sl _ _ _ _ r hb hn => exact ⟨_, usd_some (by omega), .ptr _ _ r hb⟩
  · cases e
theorem copB_pure {c : Call} {b : Builtin} {f : T AV → Option AV} (hc : c.callee = .builtin b) (e : copB P b c.argTypes (opns c.args.toList) = .p f) {dst : Option Tmp} {ty : TypeId} {pos : String} {af : Array Edge} {g : Option (Nat × Bool)} :
    PureOk P ⟨dst, .call c, ty, pos, af, g⟩ f := by
  intro E t ρ v hf hr hv w
  have hargs : ∀ x ∈ c.args.toList, ∀ v, (opn x).ev t = some v → Is E v (ρ x) := fun x hx => hr x (by simp [Op.operands, Call.operands, hc]; exact Array.mem_toList_iff.1 hx)
  rw [exec_builtin hc]
  unfold copB at e
  split at e
  · split at e
    · rename_i x ty' hx ha
      obtain ⟨a, h1, rfl⟩ := args1 hx
      unfold copLen at e
      split at e
      · cases e
      · rename_i hnm
        cases e
        obtain ⟨y, hy, hv⟩ := on1_some hv
        split at hv
        · rename_i n hn
          cases hv
          have := lenA_ok (w := w) (fun k v q => hnm k v q) (hargs a (by simp [h1]) y hy) hn ha (rt := ty)
          exact ⟨goInt n, by simp [callOp, Go.builtin, h1, this], .i _ _⟩
        · cases hv
    · cases e
  · split at e
    · rename_i x ty' hx ha
      obtain ⟨a, h1, rfl⟩ := args1 hx
      split at e
      · rename_i el hu
        cases e
        obtain ⟨z, q1, q2⟩ := capA_ok (w := w) hu (fun u hu => hargs a (by simp [h1]) u hu) hv ha (rt := ty)
        exact ⟨z, by simp [callOp, Go.builtin, h1, q1], q2⟩
      · cases e
    · cases e
  · cases e
    dsimp only at hv
    unfold mmA at hv
    split at hv
    · rename_i x l hl
      have hl' := OvR.evl (ρ := ρ) hargs hl
      cases hm : c.args.toList.map ρ with
      | nil => rw [hm] at hl'; cases hl'
      | cons y ys =>
        rw [hm] at hl'
        cases hl' with
        | cons _ _ _ _ k1 k2 =>
        obtain ⟨z, q1, q2⟩ := foldMin_ok (P := P) (w := w) k1 k2 hv
        have hm' : (c.args.map ρ).toList = y :: ys := by simpa using hm
        have q1' : (List.foldlM Builtin.min2 y ys).run P w = .ok z w := by simpa using q1
        exact ⟨z, by simp [callOp, Go.builtin, Builtin.min_, hm, q1'], q2⟩
    · cases hv
  · cases e
    dsimp only at hv
    unfold mmA at hv
    split at hv
    · rename_i x l hl
      have hl' := OvR.evl (ρ := ρ) hargs hl
      cases hm : c.args.toList.map ρ with
      | nil => rw [hm] at hl'; cases hl'
      | cons y ys =>
        rw [hm] at hl'
        cases hl' with
        | cons _ _ _ _ k1 k2 =>
        obtain ⟨z, q1, q2⟩ := foldMin_ok (P := P) (w := w) k1 k2 hv
        have q1' : (List.foldlM Builtin.max2 y ys).run P w = .ok z w := by simpa using q1
        exact ⟨z, by simp [callOp, Go.builtin, Builtin.max_, hm, q1'], q2⟩
    · cases hv
  · split at e
    · rename_i x hx
      obtain ⟨a, h1, rfl⟩ := args1 hx
      cases e
      obtain ⟨z, q1, q2⟩ := usDat_ok (P := P) (w := w) (fun u hu => hargs a (by simp [h1]) u hu) hv (ats := c.argTypes) (rt := ty)
      exact ⟨z, by simp [callOp, Go.builtin, h1, q1], q2⟩
    · cases e
  · split at e
    · split at e
      · split at e
        · unfold copApp at e; (repeat' split at e) <;> cases e
        · cases e
      · cases e
    · cases e
  · cases e
  · cases e

/-! ### the operations of values alone, all together -/
theorem convA_str {s d : TypeId} {x v : AV} {y : Value} (hs : und P s = some .string) (hd : und P d = some .string) (hx : Is E x y) (e : convA P h s d x = some v) : (convert s d y).run P w = .ok y w ∧ Is E v y := by
  have hs' : P.underlying s = _ := hs
  have hd' : P.underlying d = _ := hd
  unfold convA at e
  rw [hs, hd] at e
  simp only at e
  split at e
  · cases e; have k := hx; cases hx; exact ⟨by simp [convert, run_underlying hs', run_underlying hd'], k⟩
  · cases e
theorem cop_pure {o : Oper} {f : T AV → Option AV} (e : cop P I o = .p f) : PureOk P o f := by
  obtain ⟨dst, op, type, pos, af, g⟩ := o
  cases op with
  | move x =>
    cases e
    intro E t ρ v hf hr hv w
    exact ⟨ρ x, rfl, hr x (by simp [Op.operands]) v hv⟩
  | assign x =>
    cases e
    intro E t ρ v hf hr hv w
    exact ⟨ρ x, rfl, hr x (by simp [Op.operands]) v hv⟩
  | pick c a b =>
    cases e
    intro E t ρ v hf hr hv w
    obtain ⟨q, h1, h2⟩ := pick_ok (cv := ρ c) (fun u hu => hr c (by simp [Op.operands]) u hu) (fun x hx => hr x (by simp [Op.operands] at hx ⊢; exact .inr hx)) hv
    exact ⟨_, by simp [execOp, h1, asBool], h2⟩
  | alloc ty => simp only [cop] at e; (repeat' split at e) <;> cases e
  | box ty x => simp only [cop, cop.bxC] at e; cases e
  | build ty ps =>
    cases e
    intro E t ρ v hf hr hv w
    dsimp only at hv
    split at hv
    · rename_i l hl
      have hp := OvR.evs (ρ := ρ) (xs := ps.toList) (fun x hx => hr x (by simpa [Op.operands] using hx)) hl
      obtain ⟨x, q1, q2⟩ := build_ok (P := P) (w := w) hf (qs := ps.map fun (i, x) => (i, ρ x)) (by simpa using hp) hv
      exact ⟨x, by simp [execOp, q1], q2⟩
    · cases hv
  | buildSlice ty n ps => simp only [cop] at e; (repeat' split at e) <;> cases e
  | insert ty m k x => simp only [cop] at e; (repeat' split at e) <;> cases e
  | load ty a => simp only [cop, cop.ldC] at e; (repeat' split at e) <;> cases e
  | store ty a x => simp only [cop, cop.stC] at e; (repeat' split at e) <;> cases e
  | ready n => cases e
  | waits n => cases e
  | nilCheck x =>
    cases e
    intro E t ρ v hf hr hv w
    exact ⟨ρ x, nilChk_ok (fun u hu => hr x (by simp [Op.operands]) u hu) hv rfl rfl⟩
  | binOp op ty x y yt =>
    have ex : ∀ {ρ : Operand → Value} {E : Env} {t : T AV}, OvR E t ρ (Op.binOp op ty x y yt).operands.toList → (∀ u, (opn x).ev t = some u → Is E u (ρ x)) ∧ (∀ u, (opn y).ev t = some u → Is E u (ρ y)) :=
      fun hr => ⟨fun u hu => hr x (by simp [Op.operands]) u hu, fun u hu => hr y (by simp [Op.operands]) u hu⟩
    simp only [cop, copBin] at e
    split at e
    · cases e
      intro E t ρ v hf hr hv w
      obtain ⟨h1, h2⟩ := ex hr
      obtain ⟨z, q1, q2, _, _, _, _, q3, q4⟩ := bin3_ok (P := P) (w := w) (ty := ty) (.inl rfl) h1 h2 hv
      rw [q3, q4] at q1
      exact ⟨z, by simp [execOp, q3, q4, eqGuard_int, q1], q2⟩
    · cases e
      intro E t ρ v hf hr hv w
      obtain ⟨h1, h2⟩ := ex hr
      obtain ⟨z, q1, q2, _, _, _, _, q3, q4⟩ := bin3_ok (P := P) (w := w) (ty := ty) (.inr rfl) h1 h2 hv
      rw [q3, q4] at q1
      exact ⟨z, by simp [execOp, q3, q4, eqGuard_int, q1], q2⟩
    · rename_i hn1 hn2
      split at e
      · cases e
        intro E t ρ v hf hr hv w
        obtain ⟨h1, h2⟩ := ex hr
        obtain ⟨z, q1, q2, _, _, _, q3, q4⟩ := bin2_int (P := P) (w := w) (ty := ty) h1 h2 hv
        rw [q3, q4] at q1
        exact ⟨z, by simp [execOp, q3, q4, eqGuard_int, q1], q2⟩
      · cases e
        intro E t ρ v hf hr hv w
        obtain ⟨h1, h2⟩ := ex hr
        obtain ⟨z, q1, q2, _, _, q3, q4⟩ := bin2_str (P := P) (w := w) (ty := ty) h1 h2 ⟨hn1, hn2⟩ hv
        rw [q3, q4] at q1
        exact ⟨z, by simp [execOp, q3, q4, eqGuard_str, q1], q2⟩
      · split at e <;> cases e
      · cases e
  | unOp op ty x =>
    cases e
    intro E t ρ v hf hr hv w
    obtain ⟨z, q1, q2⟩ := un_ok (P := P) (w := w) (fun u hu => hr x (by simp [Op.operands]) u hu) hv
    exact ⟨z, by simp [execOp, q1], q2⟩
  | convert s d x =>
    simp only [cop] at e
    split at e
    · rename_i hs
      split at e <;> cases e
    · rename_i kk hs
      have hs' : P.underlying s = _ := hs
      split at e
      · rename_i k hd
        have hd' : P.underlying d = _ := hd
        cases e
        intro E t ρ v hf hr hv w
        dsimp only at hv
        split at hv
        · rename_i k' n hx
          have := hr x (by simp [Op.operands]) _ hx
          cases hq : ρ x with
          | int k2 n2 =>
            rw [hq] at this; cases this
            rw [mkI_eq hv]
            exact ⟨_, by simp [execOp, convert, run_underlying hs', run_underlying hd', hq, Conv.intToInt] <;> rfl, .i _ _⟩
          | _ => rw [hq] at this; cases this
        · cases hv
      · cases e
    · cases e
    · cases e
  | sliceToArrayPointer ty x => cases e
  | makeInterface ty x =>
    simp only [cop] at e
    split at e
    · cases e
    · cases e
    · rename_i d hd1 hu
      have hu' : P.underlying ty = _ := hu
      cases e
      intro E t ρ v hf hr hv w
      obtain ⟨y, hy, hv⟩ := on1_some hv
      cases hv
      have := hr x (by simp [Op.operands]) y hy
      refine ⟨.iface ty (ρ x), ?_, .ifc _ _ _ this⟩
      simp only [execOp, Instr.makeInterface, Sem.run_bind, run_underlying hu', Result.andThen_ok]
      cases d <;> simp_all
  | makeFunc f a b =>
    simp only [cop] at e
    split at e
    · cases e
    · rename_i hy
      cases e
      intro E t ρ v hf hr hv w
      dsimp only at hv
      split at hv
      · rename_i x y hx hy'
        cases hv
        have h1 := OvR.evl (ρ := ρ) (fun z hz => hr z (by simp [Op.operands]; exact .inl (Array.mem_toList_iff.1 hz))) hx
        have h2 := OvR.evl (ρ := ρ) (fun z hz => hr z (by simp [Op.operands]; exact .inr (Array.mem_toList_iff.1 hz))) hy'
        refine ⟨.func f (a.map ρ) (b.map ρ), by simp [execOp, Instr.makeFunc], ?_⟩
        have e1 : a.map ρ = (a.toList.map ρ).toArray := Array.ext' (by simp)
        have e2 : b.map ρ = (b.toList.map ρ).toArray := Array.ext' (by simp)
        rw [e1, e2]
        refine .fn _ _ _ _ _ _ ?_ h1 h2
        cases f <;> simp_all [isYield, IsF]
      · cases hv
  | makeMap ty r => simp only [cop, cop.mmC] at e; (repeat' split at e) <;> cases e
  | makeChan ty x => cases e
  | makeSlice ty l c => simp only [cop] at e; (repeat' split at e) <;> cases e
  | slice ty x lo hi mx =>
    cases e
    intro E t ρ v hf hr hv w
    dsimp only at hv
    split at hv
    · rename_i u a b c h1 h2 h3 h4
      have i1 := hr x (by simp [Op.operands]) u h1
      have i2 := OvR.opt (ρ := ρ) (x := lo) (fun z hz => hr z (by simp at hz; simp [Op.operands, hz])) h2
      have i3 := OvR.opt (ρ := ρ) (x := hi) (fun z hz => hr z (by simp at hz; simp [Op.operands, hz])) h3
      have i4 := OvR.opt (ρ := ρ) (x := mx) (fun z hz => hr z (by simp at hz; simp [Op.operands, hz])) h4
      obtain ⟨z, q1, q2⟩ := slice_ok (P := P) (w := w) i1 i2 i3 i4 hv
      exact ⟨z, by simp [execOp, q1], q2⟩
    · cases hv
  | fieldAddr ty x f =>
    simp only [cop] at e
    split at e
    · rename_i fs hu
      have hu' : P.underlying ty = _ := hu
      split at e
      · rename_i fl hfl
        split at e
        · rename_i n hn
          cases e
          intro E t ρ v hf hr hv w
          obtain ⟨r, o, h1, h2⟩ := fa_ok (x := ρ x) (fun u hu => hr x (by simp [Op.operands]) u hu) hv
          refine ⟨_, ?_, h2⟩
          have hne : ¬ (n + 1 = 0) := by omega
          simp [execOp, Instr.fieldAt, run_underlying hu', hfl, h1, Instr.sureAddr, fieldPlace, run_size hn, hne, add_addr]
        · cases e
      · cases e
    · cases e
  | field ty x f =>
    simp only [cop] at e
    split at e
    · rename_i fs hu
      have hu' : P.underlying ty = _ := hu
      split at e
      · rename_i fl hfl
        cases e
        intro E t ρ v hf hr hv w
        dsimp only at hv
        split at hv
        · rename_i l hl
          obtain ⟨vs, h1, h2⟩ := is_agg (hr x (by simp [Op.operands]) _ hl)
          obtain ⟨z, q1, q2⟩ := part_ok (P := P) (w := w) hv h2
          exact ⟨z, by simp [execOp, Instr.field, run_underlying hu', hfl, h1, asAgg, q1], q2⟩
        · cases hv
      · cases e
    · cases e
  | indexAddr ty x ix =>
    simp only [cop] at e
    split at e
    · rename_i n el hu
      have hu' : P.underlying ty = _ := hu
      split at e
      · rename_i sz hsz
        cases e
        intro E t ρ v hf hr hv w
        dsimp only at hv
        unfold ixA at hv
        split at hv
        · rename_i b o k' k h1 h2
          split at hv
          · rename_i hle
            rw [fNat_eq] at hv
            cases hv
            have hle := ble_le hle
            have i1 := hr x (by simp [Op.operands]) _ h1
            have i2 := hr ix (by simp [Op.operands]) _ h2
            cases q1 : ρ x <;> rw [q1] at i1 <;> cases i1
            cases q2 : ρ ix <;> rw [q2] at i2 <;> cases i2
            rename_i r hb
            refine ⟨_, ?_, .ptr _ _ r hb⟩
            have hk : (0 : Int) ≤ Int.ofNat k ∧ Int.ofNat k < (n : Int) := ⟨Int.natCast_nonneg k, by simp; omega⟩
            have hk1 : 0 ≤ (k : Int) ∧ (k : Int) < (n : Int) := hk
            simp [execOp, Instr.indexAt, run_underlying hu', q1, q2, asIntOf, Instr.sureAddr, run_size hsz, add_addr]
            omega
          · cases hv
        · cases hv
      · cases e
    · rename_i el hu
      have hu' : P.underlying ty = _ := hu
      split at e
      · rename_i sz hsz
        cases e
        intro E t ρ v hf hr hv w
        dsimp only at hv
        unfold ixS at hv
        split at hv
        · rename_i b o n c op k' k h1 h2
          split at hv
          · rename_i hle
            rw [fNat_eq] at hv
            cases hv
            have hle := ble_le hle
            have i1 := hr x (by simp [Op.operands]) _ h1
            have i2 := hr ix (by simp [Op.operands]) _ h2
            cases q2 : ρ ix <;> rw [q2] at i2 <;> cases i2
            obtain ⟨r, cc, q1, hb⟩ : ∃ r cc, ρ x = .slice (some ⟨r, o, none⟩) n cc ∧ E.at_ b = some r := by
              cases q1 : ρ x <;> rw [q1] at i1 <;> cases i1 <;> exact ⟨_, _, rfl, by assumption⟩
            refine ⟨_, ?_, .ptr _ _ r hb⟩
            simp [execOp, Instr.indexAt, run_underlying hu', q1, q2, asIntOf, run_size hsz, add_addr]
            omega
          · cases hv
        · cases hv
      · cases e
    · cases e
  | index ty x ix =>
    simp only [cop] at e
    split at e
    · rename_i n el hu
      have hu' : P.underlying ty = _ := hu
      split at e
      · rename_i sz hsz
        cases e
        intro E t ρ v hf hr hv w
        dsimp only at hv
        split at hv
        · rename_i l k' k h1 h2
          split at hv
          · rename_i hle
            have hle := ble_le hle
            obtain ⟨vs, q1, j1⟩ := is_agg (hr x (by simp [Op.operands]) _ h1)
            have i2 := hr ix (by simp [Op.operands]) _ h2
            cases q2 : ρ ix <;> rw [q2] at i2 <;> cases i2
            obtain ⟨z, r1, r2⟩ := part_ok (P := P) (w := w) hv j1
            refine ⟨z, ?_, r2⟩
            have hk : (0 : Int) ≤ Int.ofNat k ∧ Int.ofNat k < (n : Int) := ⟨Int.natCast_nonneg k, by simp; omega⟩
            simp only [execOp, Instr.index, q1, q2, asIntOf, Sem.run_bind, Sem.run_pure, Result.andThen_ok, run_underlying hu', Sem.run_ite]
            rw [if_pos hk]
            simp only [Sem.run_bind, run_size hsz, Result.andThen_ok]
            have : (Int.ofNat k).toNat = k := rfl
            rw [this, r1]; rfl
          · cases hv
        · cases hv
      · cases e
    · rename_i hu
      have hu' : P.underlying ty = _ := hu
      cases e
      intro E t ρ v hf hr hv w
      dsimp only at hv
      split at hv
      · rename_i l k' k h1 h2
        split at hv
        · rename_i b hb
          cases hv
          have i1 := hr x (by simp [Op.operands]) _ h1
          have i2 := hr ix (by simp [Op.operands]) _ h2
          cases q1 : ρ x <;> rw [q1] at i1 <;> cases i1
          rename_i hlt
          cases q2 : ρ ix <;> rw [q2] at i2 <;> cases i2
          have hkl : k < l.length := (List.getElem?_eq_some_iff.1 hb).1
          have hbl : b < 256 := hlt b (List.mem_of_getElem? hb)
          have hbb : (byts l)[k]? = some (UInt8.ofNat b) := by
            have hs : k < (byts l).size := by rw [byts_size]; exact hkl
            have : (byts l)[k]? = (u8 l)[k]? := by
              rw [getElem?_pos (byts l) k hs, ← byts_data, Array.getElem?_toList]
              exact (Array.getElem?_eq_getElem hs).symm
            rw [this]; simp [u8, hb]
          refine ⟨_, ?_, .i _ _⟩
          have h0 : (0 : Int) ≤ Int.ofNat k := Int.natCast_nonneg k
          simp only [execOp, Instr.index, q1, q2, asIntOf, Sem.run_bind, Sem.run_pure, Result.andThen_ok, run_underlying hu']
          rw [if_pos h0]
          have : (Int.ofNat k).toNat = k := rfl
          rw [this, hbb]
          simp [UInt8.toNat_ofNat, Nat.mod_eq_of_lt hbl]
        · cases hv
      · cases hv
    · cases e
  | lookup ty x ix ok => simp only [cop] at e; (repeat' split at e) <;> cases e
  | mapUpdate ty m k x => simp only [cop] at e; (repeat' split at e) <;> cases e
  | mapEntry ty m k => cases e
  | entryStore ty m k x => cases e
  | range ty x => cases e
  | next x s => cases e
  | entry x => cases e
  | typeAssert x xt ty ok =>
    simp only [cop] at e
    split at e
    · cases e
    · cases e
    · rename_i d hd1 hu
      have hu' : P.underlying ty = _ := hu
      cases e
      intro E t ρ v hf hr hv w
      dsimp only at hv
      split at hv
      · rename_i dt u hx
        have i1 := hr x (by simp [Op.operands]) _ hx
        cases q1 : ρ x <;> rw [q1] at i1 <;> cases i1
        rename_i xx hxx
        split at hv
        · rename_i b1 b2 hq
          cases hv
          have := beq_eq hq; subst this
          refine ⟨.tuple #[xx, .bool true], ?_, .tup _ [xx, .bool true] (.cons _ _ _ _ hxx (.cons _ _ _ _ (.b _) .nil))⟩
          simp only [execOp, Instr.typeAssert, Sem.run_bind, run_underlying hu', Result.andThen_ok, q1]
          cases d <;> first | (exact absurd rfl (hd1 _)) | simp
        · rename_i b1 b2 hq
          cases hv
          have := beq_eq hq; subst this
          refine ⟨xx, ?_, hxx⟩
          simp only [execOp, Instr.typeAssert, Sem.run_bind, run_underlying hu', Result.andThen_ok, q1]
          cases d <;> first | (exact absurd rfl (hd1 _)) | simp
        · rename_i b1 b2 hq
          have hne := not_beq hq
          split at hv
          · rename_i z hz
            cases hv
            obtain ⟨y, y1, y2⟩ := run_zero (P := P) (E := E) (w := w) hz
            refine ⟨.tuple #[y, .bool false], ?_, .tup _ [y, .bool false] (.cons _ _ _ _ y2 (.cons _ _ _ _ (.b _) .nil))⟩
            simp only [execOp, Instr.typeAssert, Sem.run_bind, run_underlying hu', Result.andThen_ok, q1]
            cases d <;> first | (exact absurd rfl (hd1 _)) | simp [hne, y1]
          · cases hv
        · cases hv
      · cases hv
  | extract x i =>
    cases e
    intro E t ρ v hf hr hv w
    dsimp only at hv
    unfold extA at hv
    split at hv
    · rename_i l hl
      have i1 := hr x (by simp [Op.operands]) _ hl
      cases q1 : ρ x <;> rw [q1] at i1 <;> cases i1
      rename_i vs hvs
      obtain ⟨z, r1, r2⟩ := hvs.get i v hv
      exact ⟨z, by simp [execOp, Instr.extract, q1, r1], r2⟩
    · cases hv
  | call c =>
    simp only [cop, copCall] at e
    split at e
    · rename_i b hc; exact copB_pure hc e
    · split at e <;> cases e
    · cases e
  | go c => cases e
  | defer c => simp only [cop] at e; split at e <;> cases e
  | panic x => cases e
  | send c x => cases e
  | recv t c k => cases e
  | select cs b => cases e
end Go.Ev
