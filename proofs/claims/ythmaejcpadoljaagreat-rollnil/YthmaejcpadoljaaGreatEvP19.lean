/- A certified evaluator of closed calls, part P19. -/
import Derived.Test.YthmaejcpadoljaaGreatEvP18
namespace Go.Ev
open Go Go.RowKit
set_option linter.unusedVariables false
set_option linter.unusedSimpArgs false
variable {P : Program} {I : FuncId → List AV → Option AV} {w0 : World} {E : Env} {h : T AB} {nx : Nat} {w : World} {f0 : Nat} {cs0 : List Frame}

def putV (d : Option Tmp) (v : Value) (ts : Array Value) : Array Value := match d with | some d => ts.setIfInBounds d v | none => ts
theorem putV_size {d : Option Tmp} {v : Value} {ts : Array Value} : (putV d v ts).size = ts.size := by cases d <;> simp [putV]
theorem finish_region {fr : Frame} {ops : Array Oper} {i : Nat} {rest : List Nat} {k : List Item} (ht : fr.todo = .inRegion ops (i :: rest) :: k) (v : Value) :
    fr.finish v = { fr with tmps := putV (dstAt ops i) v fr.tmps, todo := .inRegion ops rest :: k } := by
  unfold Frame.finish
  rw [ht]
  simp only [dstAt, putV]
  cases ops[i]? with
  | none => rfl
  | some o => cases ho : o.dst <;> simp [ho]
theorem TR.put {t : T AV} {ts : Array Value} {d : Option Tmp} {nt : Nat} {v : AV} {x : Value} (ht : TR E t ts) (hd : okDst nt d = true) (hn : nt ≤ ts.size) (hv : Is E v x) : TR E (put (pdst d) v t) (putV d x ts) := by
  cases d with
  | none => exact ht
  | some d =>
    have hlt : d < ts.size := by have := ble_le hd; exact Nat.lt_of_lt_of_le this hn
    intro k u q
    have q' : (t.set d v).get k = some u := q
    rw [T.get_set] at q'
    split at q'
    · rename_i e; subst e; cases q'; exact ⟨x, by simp [putV, hlt], hv⟩
    · rename_i e
      obtain ⟨y, y1, y2⟩ := ht k u q'
      exact ⟨y, by simp only [putV]; rw [Array.getElem?_setIfInBounds_ne e]; exact y1, y2⟩
theorem opn_is (hg : ∀ g, g < 256 → E.at_ g = some g) {t : T AV} {fr : Frame} {x : Operand} (ht : ∀ k v, x = .tmp k → t.get k = some v → ∃ y, fr.tmps[k]? = some y ∧ Is E v y) {v : AV} (e : (opn x).ev t = some v) : Is E v (fr.eval x) := by
  cases x with
  | tmp k =>
    obtain ⟨y, y1, y2⟩ := ht k v rfl e
    simp only [Frame.eval, Array.getD_eq_getD_getElem?, y1, Option.getD_some]
    exact y2
  | const c =>
    simp only [opn] at e
    split at e
    · rename_i u hu; cases e; exact ofValue_is E c _ hu
    · cases e
  | global g =>
    simp only [opn] at e
    split at e
    · cases e
    · rename_i hb; cases e; exact .ptr _ _ g (hg g (not_ble hb))
  | func f => cases e; exact .fn _ _ _ _ [] [] rfl .nil .nil
theorem ovr_of (hg : ∀ g, g < 256 → E.at_ g = some g) {t : T AV} {fr : Frame} (ht : TR E t fr.tmps) (xs : List Operand) : OvR E t fr.eval xs :=
  fun x _ v e => opn_is hg (fun k v _ q => ht k v q) e

theorem coAt_cases {nt : Nat} {ops : Array Oper} {i : Nat} {o : Oper} (ho : ops[i]? = some o) :
    ((coAt P I nt ops i).op = .bad ∧ (coAt P I nt ops i).guard = none) ∨ (okDst nt (dstAt ops i) = true ∧ (coAt P I nt ops i).dst = pdst (dstAt ops i) ∧ (coAt P I nt ops i).op = cop P I o ∧
      ((o.guard = none ∧ (coAt P I nt ops i).guard = none) ∨ ∃ j wn d, o.guard = some (j, wn) ∧ (ops[j]?).bind (·.dst) = some d ∧ (coAt P I nt ops i).guard = some (pth d, wn) ∧ d ∈ looksAt ops i)) := by
  have hd : dstAt ops i = o.dst := by simp [dstAt, ho]
  simp only [coAt, ho, co, hd]
  split
  · exact .inl ⟨rfl, rfl⟩
  · rename_i hok
    split
    · rename_i hg; exact .inr ⟨hok, rfl, rfl, .inl ⟨hg, rfl⟩⟩
    · rename_i j wn hg
      split
      · exact .inl ⟨rfl, rfl⟩
      · rename_i g hj
        split
        · exact .inl ⟨rfl, rfl⟩
        · rename_i d hgd
          refine .inr ⟨hok, rfl, rfl, .inr ⟨j, wn, d, hg, by simp [hj, hgd], rfl, ?_⟩⟩
          simp [looksAt, ho, looksO, hg, hj, hgd]
/-- is it wanted -/
theorem guard_is {nt : Nat} {ops : Array Oper} {i : Nat} {o : Oper} (ho : ops[i]? = some o) {t : T AV} {ts : Array Value} {b : Bool} (ht : ∀ k ∈ looksAt ops i, ∀ v, t.get k = some v → ∃ y, ts[k]? = some y ∧ Is E v y)
    (hb : (coAt P I nt ops i).op ≠ .bad ∨ b = false) (e : guardOk (coAt P I nt ops i).guard t = some b) : Region.wanted o (yielded ops ts) = b := by
  rcases coAt_cases (P := P) (I := I) (nt := nt) ho with ⟨h1, h2⟩ | ⟨_, _, _, h4⟩
  · rw [h2] at e
    simp only [guardOk, Option.some.injEq] at e
    rcases hb with q | q
    · exact absurd h1 q
    · rw [q] at e; cases e
  · rcases h4 with ⟨g1, g2⟩ | ⟨j, wn, d, g1, g2, g3, g4⟩
    · rw [g2] at e
      simp only [guardOk, Option.some.injEq] at e
      subst e
      simp [Region.wanted, g1]
    · rw [g3] at e
      unfold guardOk at e
      simp only at e
      split at e
      · rename_i x hx
        obtain ⟨y, y1, y2⟩ := ht d g4 _ hx
        cases y2
        have : yielded ops ts j = some x := by simp [yielded, g2, y1]
        simp only [Region.wanted, g1, this]
        cases e
        cases x <;> cases wn <;> rfl
      · rename_i hx
        obtain ⟨y, y1, y2⟩ := ht d g4 _ hx
        cases y2
        have : yielded ops ts j = none := by simp [yielded, g2, y1]
        simp only [Region.wanted, g1, this]
        cases e
        cases wn <;> rfl
      · cases e
theorem cop_defer {o : Oper} {c : Call} (hd : o.op = .defer c) : (∃ f, cop P I o = .cl f ∧ ∀ t h nx r, f t h nx = some r → ∃ d, r.1 = .defer d) ∨ cop P I o = .bad := by
  obtain ⟨dst, op, type, pos, af, g⟩ := o
  simp only at hd; subst hd
  simp only [cop]
  split
  · refine .inl ⟨_, rfl, fun t h nx r q => ?_⟩
    unfold deferA at q
    split at q
    · cases q; exact ⟨_, rfl⟩
    · cases q
  · exact .inr rfl

/-! ### what a call does to the frame that makes it -/
theorem enter_ok {K : K} {f : FuncId} {args : List AV} {F : Fr} {t : T AV} {todo : List AItem} {h : T AB} {nx : Nat} {kind : CallKind} {res : R} {v : AV} {h' : T AB} {nx' : Nat} (hr : res = .done v h' nx') (e : enter P K f args kind F t todo h nx = res) :
    ∃ fn c, P.funcs[f]? = some fn ∧ fn.body = some c ∧ K (.mk f fn.ntmps [] kind none t todo F) (setAll .leaf 0 args) [.code c] h nx = res := by
  unfold enter at e
  split at e
  · rename_i c n hf
    unfold fnOf at hf
    split at hf
    · rename_i fn hfn
      split at hf
      · rename_i c' hc; cases hf; exact ⟨fn, _, hfn, hc, e⟩
      · cases hf
    · cases hf
  · rw [hr] at e; cases e
theorem setAll_tr {args : List AV} {vs : List Value} (hv : IsL E args vs) (n : Nat) : TR E (setAll .leaf 0 args) (vs.toArray ++ Array.replicate n undef) := by
  intro k v q
  rw [get_setAll] at q
  split at q
  · rename_i hk
    obtain ⟨x, x1, x2⟩ := hv.get k v (by simpa using q)
    have := hv.length
    exact ⟨x, by rw [Array.getElem?_append_left (by simp; omega)]; simpa using x1, x2⟩
  · rw [T.get_leaf] at q; cases q
/-- a frame that is entered -/
theorem entered {f : FuncId} {fn : Func} {c : Code} (hfn : P.funcs[f]? = some fn) (hb : fn.body = some c) {args : List AV} {vs : List Value} (hv : IsL E args vs) (kind : CallKind) (h : T AB) (nx : Nat) :
    FrIs E (Frame.enter P f vs.toArray kind) f fn.ntmps [] kind none ∧ Td P I E h nx fn.ntmps (setAll .leaf 0 args) (Frame.enter P f vs.toArray kind) [.code c] [] := by
  have he : Frame.enter P f vs.toArray kind = { fn := f, tmps := vs.toArray ++ Array.replicate (fn.ntmps - vs.toArray.size) undef, todo := [.code c], defers := [], mode := .run, kind } := by
    simp [Frame.enter, hfn, hb]
  rw [he]
  exact ⟨⟨rfl, rfl, by simp; omega, .nil, trivial⟩, .plain _ rfl (setAll_tr hv _) (.code _ _ _ .nil)⟩
end Go.Ev
