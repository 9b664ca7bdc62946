/- A certified evaluator of closed calls, part P18. -/
import Derived.Test.YthmaejcpadoljaaGreatEvP17
namespace Go.Ev
open Go Go.RowKit
set_option linter.unusedVariables false
set_option linter.unusedSimpArgs false
variable {P : Program} {I : FuncId → List AV → Option AV} {w0 : World} {E : Env} {h : T AB} {nx : Nat} {w : World}

/-- later, as far as the blocks Z go that are told of and not made yet -/
structure Lat (Z : List Nat) (E : Env) (h : T AB) (nx : Nat) (E' : Env) (h' : T AB) (nx' : Nat) : Prop where
  le : E.le E'
  nle : nx ≤ nx'
  pend : ∀ b ∈ Z, b < nx → E.at_ b = none → E'.at_ b = none ∧ ∀ ab, h'.get b = some ab → h.get b = some ab
theorem Ext.lat {E E' : Env} {h h' : T AB} {nx nx' : Nat} (e : Ext E h nx E' h' nx') (Z : List Nat) : Lat Z E h nx E' h' nx' := ⟨e.le, e.nle, fun b _ hb q => e.pend b hb q⟩

/-- what is known of an operation that is told of ahead: the value that it will have -/
def hasDst (ops : Array Oper) (i : Nat) (v : AV) (t : T AV) : Prop := ∀ d, dstAt ops i = some d → t.get d = some v
def agree (ops : Array Oper) (i : Nat) (ti t : T AV) : Prop := ∀ k ∈ looksAt ops i, ti.get k = t.get k
def Ver (P : Program) (I : FuncId → List AV → Option AV) (E : Env) (h : T AB) (nx : Nat) (nt : Nat) (ops : Array Oper) (bo : Nat → Nat) (t : T AV) (i : Nat) : Prop :=
  ∃ ti, agree ops i ti t ∧ ((guardOk (coAt P I nt ops i).guard ti = some false ∧ hasDst ops i .undef t) ∨ (guardOk (coAt P I nt ops i).guard ti = some true ∧ match (coAt P I nt ops i).op with
    | .p f => ∃ v, f ti = some v ∧ hasDst ops i v t
    | .q f => ∃ h' v, f ti h' = some v ∧ hasDst ops i v t ∧ ∀ b ab, h'.get b = some ab → h.get b = some ab
    | .fr f => ∃ ab v, f ti (bo i) = some (ab, v) ∧ hasDst ops i v t ∧ E.at_ (bo i) = none ∧ bo i < nx ∧ ∀ ab', h.get (bo i) = some ab' → ab' = ab
    | _ => False))
def isFrC (c : CO) : Bool := match c.op with | .fr _ => true | _ => false
def deps (o : Oper) (S : List Nat) : Prop := ∀ e ∈ o.after, Region.binds .any e = true → e.on ∈ S
/-- a region whose order was drawn, and where it stands: dn is done, rest is to do -/
structure Dr (P : Program) (I : FuncId → List AV → Option AV) (E : Env) (h : T AB) (nx : Nat) (nt : Nat) (ops : Array Oper) (Q L V : List Nat) (bo : Nat → Nat) (t : T AV) (ts : Array Value) (dn rest : List Nat) : Prop where
  ok : okOps ops (coAt P I nt ops) = true
  nodup : (dn ++ rest).Nodup
  all : ∀ i, i ∈ dn ++ rest ↔ i < ops.size
  valid : ∀ a i b, dn ++ rest = a ++ i :: b → ∀ o, ops[i]? = some o → deps o a
  dnQ : ∀ i ∈ dn, i ∈ Q
  Ldn : ∀ i ∈ L, i ∈ dn
  VQ : ∀ i ∈ V, i ∈ Q
  loudQ : ∀ i ∈ Q, loudAt ops ops.size (coAt P I nt ops) i = true → i ∈ L
  closed : ∀ i ∈ Q, ∀ o, ops[i]? = some o → deps o Q
  self : ∀ i ∈ Q, i ∈ rest → dstIn (dstAt ops i) (looksAt ops i) = false
  tr : ∀ k v, t.get k = some v → (∀ i ∈ rest, i ∈ Q → dstAt ops i ≠ some k) → ∃ x, ts[k]? = some x ∧ Is E v x
  ver : ∀ i ∈ V, i ∈ rest → Ver P I E h nx nt ops bo t i
  bo : ∀ i ∈ V, ∀ j ∈ V, i ∈ rest → j ∈ rest → isFrC (coAt P I nt ops i) = true → isFrC (coAt P I nt ops j) = true → bo i = bo j → i = j
/-- the blocks that a region told of -/
def pends (P : Program) (I : FuncId → List AV → Option AV) (nt : Nat) (ops : Array Oper) (V rest : List Nat) (bo : Nat → Nat) : List Nat := (V.filter fun i => rest.contains i && isFrC (coAt P I nt ops i)).map bo

theorem Ver.lat {E' : Env} {h' : T AB} {nx' : Nat} {nt : Nat} {ops : Array Oper} {bo : Nat → Nat} {t : T AV} {i : Nat} {Z : List Nat} (l : Lat Z E h nx E' h' nx') (hz : isFrC (coAt P I nt ops i) = true → bo i ∈ Z) (hq : isReadC (coAt P I nt ops i) = false ∨ ∀ b ab, h.get b = some ab → h'.get b = some ab) (v : Ver P I E h nx nt ops bo t i) : Ver P I E' h' nx' nt ops bo t i := by
  obtain ⟨ti, ha, hv⟩ := v
  refine ⟨ti, ha, ?_⟩
  rcases hv with hv | ⟨hg, hv⟩
  · exact .inl hv
  · refine .inr ⟨hg, ?_⟩
    split
    · rename_i f hf; rw [hf] at hv; exact hv
    · rename_i f hf
      rw [hf] at hv
      rcases hq with q | q
      · simp [isReadC, hf] at q
      · obtain ⟨h0, v, h1, h2, h3⟩ := hv; exact ⟨h0, v, h1, h2, fun b ab e => q b ab (h3 b ab e)⟩
    · rename_i f hf
      rw [hf] at hv
      obtain ⟨ab, v, h1, h2, h3, h4, h5⟩ := hv
      obtain ⟨k1, k2⟩ := l.pend _ (hz (by simp [isFrC, hf])) h4 h3
      exact ⟨ab, v, h1, h2, k1, Nat.lt_of_lt_of_le h4 l.nle, fun ab' q => h5 ab' (k2 ab' q)⟩
    · rename_i h1 h2 h3
      revert hv
      split <;> first | (rename_i f hf; intro; exact absurd hf (by first | exact h1 f | exact h2 f | exact h3 f)) | (intro hv; exact hv)

/-! ### frames -/
def RIs (E : Env) : Option Nat → Option Nat → Prop
  | none, none => True
  | some a, some r => E.at_ a = some r
  | _, _ => False
structure FrIs (E : Env) (c : Frame) (f nt : Nat) (ds : List ADef) (kind : CallKind) (round : Option Nat) : Prop where
  fn : c.fn = f
  kind : c.kind = kind
  nt : nt ≤ c.tmps.size
  ds : DsIs E ds c.defers
  round : RIs E round c.roundOf
theorem RIs.le {E E' : Env} (l : E.le E') {a b : Option Nat} (h : RIs E a b) : RIs E' a b := by
  cases a <;> cases b <;> first | exact h | exact l.at_ _ _ h
theorem FrIs.le {E E' : Env} (l : E.le E') {c : Frame} {f nt : Nat} {ds : List ADef} {kind : CallKind} {round : Option Nat} (h : FrIs E c f nt ds kind round) : FrIs E' c f nt ds kind round :=
  ⟨h.fn, h.kind, h.nt, h.ds.le l, h.round.le l⟩
/-- a frame that waits for what it called -/
inductive Wt (P : Program) (I : FuncId → List AV → Option AV) (E : Env) (h : T AB) (nx : Nat) (nt : Nat) (t : T AV) (ts : Array Value) : List AItem → List Item → List Nat → Prop
  | wait (ops : Array Oper) (i : Nat) (rest : List Nat) (k : List AItem) (l : List Item) (ht : TR E t ts) (hk : KIs k l) (hi : i < ops.size) (hr : ∀ j ∈ rest, j < ops.size) (hd : okDst nt (dstAt ops i) = true) :
      Wt P I E h nx nt t ts (.wait (pdst (dstAt ops i)) (rest.map (coAt P I nt ops)) :: k) (.inRegion ops (i :: rest) :: l) []
  | inRF (a r : Nat) (k : List AItem) (l : List Item) (ht : TR E t ts) (hk : KIs k l) (ha : E.at_ a = some r) : Wt P I E h nx nt t ts (.inRF a :: k) (.inRangeFunc r :: l) []
  | waitD (ops : Array Oper) (i : Nat) (ps : List PS) (Q L V : List Nat) (bo : Nat → Nat) (dn rest : List Nat) (k : List AItem) (l : List Item) (hk : KIs k l)
      (hd : okDst nt (dstAt ops i) = true) (hV : ∀ j ∈ V, isReadC (coAt P I nt ops j) = false) (dr : Dr P I E h nx nt ops Q L V bo t ts dn (i :: rest)) (hi : i ∉ Q) (hdi : ∀ o, ops[i]? = some o → deps o Q) (hl : loudAt ops ops.size (coAt P I nt ops) i = true)
      (hp : okPlan ops ops.size (coAt P I nt ops) (i :: Q) (i :: L) V ps = true) :
      Wt P I E h nx nt t ts (.waitD (pdst (dstAt ops i)) (dsOf (coAt P I nt ops) ps) :: k) (.inRegion ops (i :: rest) :: l) (pends P I nt ops V (i :: rest) bo)
theorem Dr.lat {E' : Env} {h' : T AB} {nx' : Nat} {nt : Nat} {ops : Array Oper} {Q L V : List Nat} {bo : Nat → Nat} {t : T AV} {ts : Array Value} {dn rest : List Nat} {Z : List Nat} (l : Lat Z E h nx E' h' nx') (hz : ∀ i ∈ V, i ∈ rest → isFrC (coAt P I nt ops i) = true → bo i ∈ Z)
    (hV : ∀ j ∈ V, isReadC (coAt P I nt ops j) = false) (d : Dr P I E h nx nt ops Q L V bo t ts dn rest) : Dr P I E' h' nx' nt ops Q L V bo t ts dn rest :=
  ⟨d.ok, d.nodup, d.all, d.valid, d.dnQ, d.Ldn, d.VQ, d.loudQ, d.closed, d.self, fun k v a b => let ⟨x, x1, x2⟩ := d.tr k v a b; ⟨x, x1, x2.le l.le⟩, fun i a b => (d.ver i a b).lat l (hz i a b) (.inl (hV i a)), d.bo⟩
theorem mem_pends {nt : Nat} {ops : Array Oper} {V rest : List Nat} {bo : Nat → Nat} {i : Nat} (a : i ∈ V) (b : i ∈ rest) (c : isFrC (coAt P I nt ops i) = true) : bo i ∈ pends P I nt ops V rest bo := by
  unfold pends
  exact List.mem_map.2 ⟨i, List.mem_filter.2 ⟨a, by simp [b, c]⟩, rfl⟩
theorem Wt.lat {E' : Env} {h' : T AB} {nx' : Nat} {nt : Nat} {t : T AV} {ts : Array Value} {a : List AItem} {b : List Item} {z Z : List Nat} (l : Lat Z E h nx E' h' nx') (hz : ∀ x ∈ z, x ∈ Z) (q : Wt P I E h nx nt t ts a b z) : Wt P I E' h' nx' nt t ts a b z := by
  cases q with
  | wait ops i rest k l' ht hk hi hr hd => exact .wait ops i rest k l' (ht.le l.le) hk hi hr hd
  | inRF a r k l' ht hk ha => exact .inRF a r k l' (ht.le l.le) hk (l.le.at_ _ _ ha)
  | waitD ops i ps Q L V bo dn rest k l' hk hd hV dr hi hdi hl hp =>
    exact .waitD ops i ps Q L V bo dn rest k l' hk hd hV (dr.lat l (fun j a b c => hz _ (mem_pends a b c)) hV) hi hdi hl hp
/-- the frames below -/
inductive Stk (P : Program) (I : FuncId → List AV → Option AV) (E : Env) (h : T AB) (nx : Nat) (f0 : Nat) (cs0 : List Frame) : Fr → List Frame → List Nat → Prop
  | base (nt : Nat) (ds : List ADef) (ut : T AV) (utodo : List AItem) : Stk P I E h nx f0 cs0 (.mk f0 nt ds .normal none ut utodo .bot) cs0 []
  | call (f nt : Nat) (ds : List ADef) (round : Option Nat) (ut : T AV) (utodo : List AItem) (f' nt' : Nat) (ds' : List ADef) (k' : CallKind) (r' : Option Nat) (ut' : T AV) (ud' : List AItem) (up' : Fr) (c : Frame) (rest : List Frame) (z Z : List Nat)
      (hf : FrIs E c f' nt' ds' k' r') (hm : c.mode = .run) (hw : Wt P I E h nx nt' ut c.tmps utodo c.todo z) (hs : Stk P I E h nx f0 cs0 (.mk f' nt' ds' k' r' ut' ud' up') rest Z) (hz : ∀ x ∈ z, x ∉ Z ∧ x < nx ∧ E.at_ x = none) :
      Stk P I E h nx f0 cs0 (.mk f nt ds .normal round ut utodo (.mk f' nt' ds' k' r' ut' ud' up')) (c :: rest) (z ++ Z)
  | deferred (f nt : Nat) (ds : List ADef) (ut : T AV) (k : List AItem) (f' nt' : Nat) (ds' : List ADef) (k' : CallKind) (ut' : T AV) (ud' : List AItem) (up' : Fr) (c : Frame) (rest : List Frame) (Z : List Nat)
      (hf : FrIs E c f' nt' ds' k' none) (hm : c.mode = .returning) (ht : TR E ut c.tmps) (hs : Stk P I E h nx f0 cs0 (.mk f' nt' ds' k' none ut' ud' up') rest Z) :
      Stk P I E h nx f0 cs0 (.mk f nt ds .deferred none ut (.unw :: k) (.mk f' nt' ds' k' none ut' ud' up')) (c :: rest) Z

theorem Stk.lat {E' : Env} {h' : T AB} {nx' : Nat} {f0 : Nat} {cs0 : List Frame} {F : Fr} {cs : List Frame} {Z : List Nat} (l : Lat Z E h nx E' h' nx') (s : Stk P I E h nx f0 cs0 F cs Z) : Stk P I E' h' nx' f0 cs0 F cs Z := by
  induction s with
  | base nt ds ut utodo => exact .base nt ds ut utodo
  | call f nt ds round ut utodo f' nt' ds' k' r' ut' ud' up' c rest z Z hf hm hw hs hz ih =>
    exact .call f nt ds round ut utodo f' nt' ds' k' r' ut' ud' up' c rest z Z (hf.le l.le) hm (hw.lat l (fun x hx => List.mem_append_left _ hx))
      (ih ⟨l.le, l.nle, fun b hb => l.pend b (List.mem_append_right _ hb)⟩)
      (fun x hx => ⟨(hz x hx).1, Nat.lt_of_lt_of_le (hz x hx).2.1 l.nle, (l.pend x (List.mem_append_left _ hx) (hz x hx).2.1 (hz x hx).2.2).1⟩)
  | deferred f nt ds ut k f' nt' ds' k' ut' ud' up' c rest Z hf hm ht hs ih =>
    exact .deferred f nt ds ut k f' nt' ds' k' ut' ud' up' c rest Z (hf.le l.le) hm (ht.le l.le) (ih l)

/-! ### a machine, as a whole -/
/-- what the frame that runs stands at -/
inductive Td (P : Program) (I : FuncId → List AV → Option AV) (E : Env) (h : T AB) (nx : Nat) (nt : Nat) (t : T AV) (fr : Frame) : List AItem → List Nat → Prop
  | plain (k : List AItem) (hm : fr.mode = .run) (ht : TR E t fr.tmps) (hk : KIs k fr.todo) : Td P I E h nx nt t fr k []
  | reg (ops : Array Oper) (rest : List Nat) (k : List AItem) (l : List Item) (hm : fr.mode = .run) (ht : TR E t fr.tmps) (hk : KIs k l) (hr : ∀ j ∈ rest, j < ops.size) (hq : fr.todo = .inRegion ops rest :: l) :
      Td P I E h nx nt t fr (.reg (rest.map (coAt P I nt ops)) :: k) []
  | endRF (a r : Nat) (k : List AItem) (l : List Item) (hm : fr.mode = .run) (ht : TR E t fr.tmps) (hk : KIs k l) (ha : E.at_ a = some r) (hq : fr.todo = .endRangeFunc r :: l) : Td P I E h nx nt t fr (.endRF a :: k) []
  | unw (k : List AItem) (hm : fr.mode = .returning) (ht : TR E t fr.tmps) : Td P I E h nx nt t fr (.unw :: k) []
  | dr (ops : Array Oper) (ps : List PS) (Q L V : List Nat) (bo : Nat → Nat) (dn rest : List Nat) (k : List AItem) (l : List Item) (hm : fr.mode = .run) (hk : KIs k l) (dr : Dr P I E h nx nt ops Q L V bo t fr.tmps dn rest)
      (hp : okPlan ops ops.size (coAt P I nt ops) Q L V ps = true) (hq : fr.todo = .inRegion ops rest :: l) :
      Td P I E h nx nt t fr (.dr (dsOf (coAt P I nt ops) ps) :: k) (pends P I nt ops V rest bo)
structure Rl (P : Program) (I : FuncId → List AV → Option AV) (w0 : World) (f0 : Nat) (cs0 : List Frame) (F : Fr) (t : T AV) (todo : List AItem) (h : T AB) (nx : Nat) (fr : Frame) (cs : List Frame) (w : World) (E : Env) (z Z : List Nat) : Prop where
  st : St P w0 E h nx w
  fr : ∃ f nt ds kind round ut utodo up, F = .mk f nt ds kind round ut utodo up ∧ FrIs E fr f nt ds kind round ∧ Td P I E h nx nt t fr todo z
  stk : Stk P I E h nx f0 cs0 F cs Z
  z : ∀ x ∈ z, x ∉ Z ∧ x < nx ∧ E.at_ x = none
/-- it comes to an end as it should, or to where K goes on -/
def Good (P : Program) (I : FuncId → List AV → Option AV) (w0 : World) (f0 : Nat) (cs0 : List Frame) (K : K) (res : R) (m : Machine) : Prop :=
  (∃ F t todo h nx fr cs w E z Z, Steps P m (lone fr cs w) ∧ Rl P I w0 f0 cs0 F t todo h nx fr cs w E z Z ∧ K F t todo h nx = res) ∨
  (∃ v h nx fr w E x, res = .done v h nx ∧ Steps P m (lone fr cs0 w) ∧ fr.fn = f0 ∧ fr.leaving P w (.returned x) ∧ Is E v x ∧ St P w0 E h nx w)
theorem Good.head {f0 : Nat} {cs0 : List Frame} {K : K} {res : R} {m m' : Machine} (hs : Steps P m m') (g : Good P I w0 f0 cs0 K res m') : Good P I w0 f0 cs0 K res m := by
  rcases g with ⟨F, t, todo, h, nx, fr, cs, w, E, z, Z, a, b⟩ | ⟨v, h, nx, fr, w, E, x, e, a, b⟩
  · exact .inl ⟨F, t, todo, h, nx, fr, cs, w, E, z, Z, hs.trans a, b⟩
  · exact .inr ⟨v, h, nx, fr, w, E, x, e, hs.trans a, b⟩
end Go.Ev
