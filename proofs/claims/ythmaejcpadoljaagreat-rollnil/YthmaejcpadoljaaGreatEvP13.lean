/- A certified evaluator of closed calls, part P13. -/
import Derived.Test.YthmaejcpadoljaaGreatEvP12
namespace Go.Ev
open Go Go.RowKit
set_option linter.unusedVariables false
set_option linter.unusedSimpArgs false
variable {P : Program} {I : FuncId → List AV → Option AV} {w0 : World} {E : Env} {h : T AB} {nx : Nat} {w : World}

def StateOk (P : Program) (o : Oper) (f : T AV → T AB → Nat → Option (AV × T AB × Nat)) : Prop := ∀ w0 E h nx w t ρ v h' nx', St P w0 E h nx w → OvR E t ρ o.op.operands.toList → f t h nx = some (v, h', nx') →
  ∃ E' w' n, (execOp ρ o).run P w = .ok n w' ∧ (∃ x, (n = .value x ∧ Is E' v x) ∨ (n = .skip ∧ v = .undef)) ∧ St P w0 E' h' nx' w' ∧ Ext E h nx E' h' nx'

/-! ### append -/
theorem strBytes_is {l : List Nat} (h : ∀ x ∈ l, x < 256) : IsL E (strBytes l) ((byts l).data.map fun b => Value.int .u8 b.toNat).toList := by
  have : ((byts l).data.map fun b => Value.int .u8 b.toNat).toList = l.map fun n => Value.int .u8 (.ofNat n) := by
    rw [Array.toList_map, byts_data, u8, List.map_map]
    apply List.map_congr_left
    intro x hx
    simp [UInt8.toNat_ofNat, Nat.mod_eq_of_lt (h x hx)]
  rw [this]
  unfold strBytes
  clear this h
  induction l with
  | nil => exact .nil
  | cons a l ih => exact .cons _ _ _ _ (.i _ _) ih
theorem firstA_ok (s : St P w0 E h nx w) {sz n : Nat} {x : AV} {y : Value} {l : List AV} (hx : Is E x y) (e : firstA h sz n x = some l) : ∃ vs : List Value, (∀ w' : World, (∀ k : Nat, w'.heap[k]? = w.heap[k]?) → (Builtin.firstCells sz n y).run P w' = .ok vs.toArray w') ∧ IsL E l vs ∧ l.length = n * sz := by
  unfold firstA at e
  split at e
  · split at e
    · cases e; cases hx; exact ⟨[], fun w' _ => by simp [Builtin.firstCells], .nil, by simp⟩
    · cases e
  · split at e
    · cases e; cases hx with | es a c => exact ⟨[], fun w' _ => by simp [Builtin.firstCells, loadCells, loadCellsFrom], .nil, by simp⟩
    · cases e
  · rename_i b o m c op
    obtain ⟨r, cc, rfl, hb⟩ : ∃ r cc, y = .slice (some ⟨r, o, none⟩) m cc ∧ E.at_ b = some r := by
      cases hx <;> exact ⟨_, _, rfl, by assumption⟩
    split at e
    · rename_i q cs hr
      obtain ⟨arr, t, fz, hg, hi⟩ := s.row hb hr
      split at e
      · rename_i hle
        obtain ⟨vs, h1, h2, h3⟩ := range_is hi _ o l e (ble_le hle)
        refine ⟨vs, fun w' hw => ?_, h1, by rw [h1.length, h2]⟩
        have hrun := run_loads (P := P) (w := w') (by rw [hw]; exact hg) h3
        rw [h2] at hrun
        simpa [Builtin.firstCells] using hrun
      · cases e
    · cases e
  · rename_i t
    split at e
    · rename_i hn hsz
      cases e
      have := beq_eq hn
      subst this
      have hsz := beq_eq hsz
      cases hx with
      | s _ hb =>
      refine ⟨_, fun w' _ => ?_, strBytes_is (E := E) hb, by simp [strBytes, hsz]⟩
      have : (byts t).extract 0 t.length = byts t := by
        apply ByteArray.ext; apply Array.ext'
        have : t.length = (t.map UInt8.ofNat).length := by simp
        simp only [byts, ByteArray.data_extract, List.extract_toArray, List.extract_eq_take_drop, List.drop_zero, Nat.sub_zero]
        rw [this, List.take_length]
      simp only [Builtin.firstCells, this, Sem.run_pure]
    · cases e
  · cases e
theorem nextcap_le (n c : Nat) (h : c < n) : Builtin.nextslicecap n c ≤ 3 * n + 2000 := by
  have grow : ∀ r k, k ≤ 2 * n → Builtin.growBy n r k ≤ 3 * n + 2000 := by
    intro r
    induction r with
    | zero => intro k hk; simp [Builtin.growBy]; omega
    | succ r ih =>
      intro k hk
      simp only [Builtin.growBy]
      split
      · omega
      · rcases Nat.lt_or_ge (2 * n) (k + (k + 768) / 4) with q | q
        · -- one more round is the last
          have : Builtin.growBy n r (k + (k + 768) / 4) = k + (k + 768) / 4 := by
            cases r with
            | zero => rfl
            | succ r => simp only [Builtin.growBy]; rw [if_pos (by omega)]
          rw [this]; omega
        · exact ih _ q
  unfold Builtin.nextslicecap
  split
  · omega
  · split
    · omega
    · exact grow 4 c (by omega)
theorem zeroCells_size (z : Array Value) (n : Nat) : (Builtin.zeroCells z n).size = n * z.size := by simp [Builtin.zeroCells]

/-- a row of the program's own whose room is not known -/
theorem row_open (E : Env) {nx : Nat} {l : List AV} {vs : List Value} (hl : IsL E l vs) (e sz n cap : Nat) (hsz : size P e = some sz) (hn : vs.length = n * sz) (hc : n ≤ cap) (rest : Array Value) (hr : rest.size = (cap - n) * sz) (hcap : E.cap nx = cap) :
    OIs P E nx (.cells l.length (setAll .leaf 0 l) true e 0 0) (.cells (vs.toArray ++ rest) e (0, 0)) := by
  have hn' := hl.length
  have hsize : (vs.toArray ++ rest).size = cap * sz := by
    simp only [Array.size_append, List.size_toArray, hn, hr]
    rw [← Nat.add_mul]; congr 1; omega
  refine ⟨_, rfl, by simp; omega, fun q => (by cases q), fun _ => ⟨sz, hsz, by rw [hsize, hcap]⟩, fun k v hk hv => ?_⟩
  rw [get_setAll] at hv
  simp only [Nat.zero_le, Nat.zero_add, true_and, hk, if_true, Nat.sub_zero] at hv
  obtain ⟨x, h1, h2⟩ := hl.get k v hv
  refine ⟨x, ?_, h2⟩
  rw [Array.getElem?_append_left (by simp; omega)]
  simpa using h1

structure AppOk (P : Program) (e sz : Nat) : Prop where
  size : size P e = some sz
  info : ∃ i, P.info? e = some i ∧ i.bytes ≤ 1048576 ∧ i.size = sz
  zero : ∀ E, Flat E → ∃ v, (∀ w, (zeroValue e).run P w = .ok v w) ∧ v.cells.size = sz
theorem appOk_ok {e sz : Nat} (h1 : size P e = some sz) (h : appOk P e sz = true) : AppOk P e sz := by
  unfold appOk at h
  split at h
  · rename_i i z hi hz
    simp only [Bool.and_eq_true] at h
    obtain ⟨i', hi', his⟩ := size_info h1
    rw [hi] at hi'; cases hi'
    refine ⟨h1, ⟨i, hi, ble_le h.1, his⟩, fun E hf => ?_⟩
    obtain ⟨v, v1, v2⟩ := zero_cells (E := E) hf hz
    refine ⟨v, v1, ?_⟩
    have := v2.length
    have h2 := beq_eq h.2
    simp at this; omega
  · cases h

theorem mkRow_some {nx n e : Nat} {l : List AV} {h : T AB} {v : AV} {h' : T AB} {nx' : Nat} (q : mkRow nx n e l h = some (v, h', nx')) : n ≤ 1048576 ∧ v = .sl nx 0 n 0 true ∧ h' = h.set nx (.cells l.length (setAll .leaf 0 l) true e 0 0) ∧ nx' = nx + 1 := by
  unfold mkRow at q
  split at q
  · rename_i hle; cases q; exact ⟨ble_le hle, rfl, rfl, rfl⟩
  · cases q

/-- append, as the model has it, once it is known how much is appended and which cells -/
def appTail (e : TypeId) (size : Nat) (base : Option Addr) (sLen sCap n : Nat) (s : Value) (new : Sem (Array Value)) (zeros : Prop) [Decidable zeros] (x : Value) : Sem Value :=
  if sLen + n ≤ sCap then do
    let new ← new
    if let some a := base then storeCells (a.add (sLen * size)) new.toList
    pure (.slice base (sLen + n) sCap)
  else do
    if ((sLen + n : Nat) : Int) > IntKind.i64.max ∧ (zeros ∨ (← typeInfo e).bytes = 0) then runtimePanic (.error "growslice: len out of range")
    if Builtin.nextslicecap (sLen + n) sCap * (← typeInfo e).bytes > 2 ^ 48 then (if zeros then runtimePanic (.error "growslice: len out of range") else do
      if !(← Builtin.mayShare size sLen n base x) then mark .noRoom
      unsupported (.resourceLimit "append: a slice or a string whose bytes no memory bears"))
    let newCap ← choose (.appendCap (sLen + n) sCap e)
    askRoom (newCap * (← typeInfo e).bytes)
    let old ← Builtin.firstCells size sLen s
    let new ← new
    let rest := Builtin.zeroCells (← zeroValue e).cells (newCap - (sLen + n))
    pure (.slice (some (← Go.newRow e (old ++ new ++ rest))) (sLen + n) newCap)

theorem appTail_in {e sz sLen sCap n : Nat} {base : Option Addr} {y x0 : Value} {newS : Sem (Array Value)} {z : Prop} [Decidable z] {vs : List Value} {w' : World} (hle : sLen + n ≤ sCap) (hnew : newS.run P w = .ok vs.toArray w)
    (hst : ∀ a, base = some a → (storeCells (a.add (sLen * sz)) vs).run P w = .ok () w') (hnone : base = none → w' = w) : (appTail e sz base sLen sCap n y newS z x0).run P w = .ok (.slice base (sLen + n) sCap) w' := by
  unfold appTail
  rw [if_pos hle]
  cases base with
  | none => simp [hnew, hnone rfl]
  | some a => simp [hnew, hst a rfl]
theorem appTail_out {e sz : Nat} (ha : AppOk P e sz) (hf : Flat E) {sLen sCap n : Nat} {base : Option Addr} {y x0 : Value} {newS : Sem (Array Value)} {z : Prop} [Decidable z] {os vs : List Value} (hle : ¬ (sLen + n ≤ sCap)) (hsmall : sLen + n ≤ 1048576)
    (hold : (Builtin.firstCells sz sLen y).run P w.drew = .ok os.toArray w.drew) (hnew : newS.run P w.drew = .ok vs.toArray w.drew) :
    ∃ cap rest, sLen + n ≤ cap ∧ rest.size = (cap - (sLen + n)) * sz ∧
      (appTail e sz base sLen sCap n y newS z x0).run P w = .ok (.slice (some ⟨w.heap.size, 0, none⟩) (sLen + n) cap) (w.drew.alloc (.cells ((os ++ vs).toArray ++ rest) e)) := by
  obtain ⟨i, hi, hb, _⟩ := ha.info
  obtain ⟨zv, z1, z2⟩ := ha.zero E hf
  refine ⟨(Question.appendCap (sLen + n) sCap e).cut (w.tape w.drawn (.appendCap (sLen + n) sCap e)), Builtin.zeroCells zv.cells ((Question.appendCap (sLen + n) sCap e).cut (w.tape w.drawn (.appendCap (sLen + n) sCap e)) - (sLen + n)), Nat.le_add_right _ _, by rw [zeroCells_size, z2], ?_⟩
  unfold appTail
  rw [if_neg hle]
  have ti : (typeInfo e).run P w = .ok i w := by simp [typeInfo, hi]
  have ti2 : ∀ w : World, (typeInfo e).run P w = .ok i w := fun w => by simp [typeInfo, hi]
  have c1 : ¬ (((sLen + n : Nat) : Int) > IntKind.i64.max ∧ (z ∨ i.bytes = 0)) := by
    have : IntKind.i64.max = 9223372036854775807 := by decide
    rw [this]; omega
  have hnc := nextcap_le (sLen + n) sCap (by omega)
  have c2 : ¬ (Builtin.nextslicecap (sLen + n) sCap * i.bytes > 2 ^ 48) := by
    have : Builtin.nextslicecap (sLen + n) sCap * i.bytes ≤ (3 * 1048576 + 2000) * 1048576 := Nat.mul_le_mul (by omega) hb
    omega
  have hq : (Question.appendCap (sLen + n) sCap e).forced = false := rfl
  have ch : (choose (.appendCap (sLen + n) sCap e)).run P w = .ok ((Question.appendCap (sLen + n) sCap e).cut (w.tape w.drawn (.appendCap (sLen + n) sCap e))) w.drew := by
    simp only [choose, Sem.run, hq, Bool.false_eq_true, if_false]; rfl
  simp only [Sem.run_bind, ti2, Result.andThen_ok, Sem.run_ite, if_neg c1, if_neg c2, Sem.run_pure, ch, run_askRoom, hold, hnew, z1, run_newRow]
  simp

theorem heap_drew (w : World) (k : Nat) : w.drew.heap[k]? = w.heap[k]? := rfl
/-- a row that moves: a new block -/
theorem moved_ok {e sz : Nat} (s : St P w0 E h nx w) (ha : AppOk P e sz) {l : List AV} {vs : List Value} {n cap : Nat} {rest : Array Value} (hl : IsL E l vs) (hn : vs.length = n * sz) (hc : n ≤ cap) (hr : rest.size = (cap - n) * sz) :
    St P w0 (E.upd nx w.heap.size cap) (h.set nx (.cells l.length (setAll .leaf 0 l) true e 0 0)) (Nat.succ nx) (w.drew.alloc (.cells (vs.toArray ++ rest) e)) ∧
      Ext E h nx (E.upd nx w.heap.size cap) (h.set nx (.cells l.length (setAll .leaf 0 l) true e 0 0)) (Nat.succ nx) ∧ Is (E.upd nx w.heap.size cap) (.sl nx 0 n 0 true) (.slice (some ⟨w.heap.size, 0, none⟩) n cap) := by
  have hle := E.upd_le w.heap.size cap (s.new nx (Nat.le_refl _))
  have o := row_open (P := P) (E.upd nx w.heap.size cap) (nx := nx) (hl.le hle) e sz n cap ha.size hn hc rest hr (by simp)
  obtain ⟨k1, k2⟩ := s.drew.alloc (.cells (vs.toArray ++ rest) e) _ cap o
  refine ⟨k1, k2, ?_⟩
  have := Is.slo (E := E.upd nx w.heap.size cap) nx 0 n 0 w.heap.size (by simp) (by simpa using hc)
  simpa using this

/-- a row whose room holds what is appended, and is then known by a new number -/
theorem St.rename (s : St P w0 E h nx w) {b r : Nat} {ab ab' : AB} (hb : E.at_ b = some r) (hg : h.get b = some ab) (hd : ab ≠ .dead) (hro : ∀ n c, ab ≠ .ro n c) (c : Nat) {w' : World} {o : Obj}
    (hs : w'.heap.size = w.heap.size) (ho : w'.heap[r]? = some o) (hk : ∀ k, k ≠ r → w'.heap[k]? = w.heap[k]?) (hos : w'.os = w.os) (htp : w'.tape = w.tape) (hou : w'.output = w.output)
    (hab : OIs P (E.upd nx r c) nx ab' o) : St P w0 (E.upd nx r c) ((h.set b .dead).set nx ab') (Nat.succ nx) w' ∧ Ext E h nx (E.upd nx r c) ((h.set b .dead).set nx ab') (Nat.succ nx) := by
  have hn := s.new nx (Nat.le_refl _)
  have hle := E.upd_le r c hn
  have hr : w0.heap.size ≤ r := by
    rcases s.own b r ab hb hg with ⟨n, c', q⟩ | q
    · exact absurd q (hro n c')
    · exact q
  have hbn : b ≠ nx := fun q => by subst q; rw [hn] at hb; cases hb
  have get : ∀ k ab2, ((h.set b .dead).set nx ab').get k = some ab2 → (k = nx ∧ ab2 = ab') ∨ (k ≠ nx ∧ k = b ∧ ab2 = .dead) ∨ (k ≠ nx ∧ k ≠ b ∧ h.get k = some ab2) := by
    intro k ab2 q
    rw [T.get_set] at q
    split at q
    · rename_i x; cases q; exact .inl ⟨x.symm, rfl⟩
    · rename_i x
      rw [T.get_set] at q
      split at q
      · rename_i y; cases q; exact .inr (.inl ⟨fun z => x z.symm, y.symm, rfl⟩)
      · rename_i y; exact .inr (.inr ⟨fun z => x z.symm, fun z => y z.symm, q⟩)
  have at' : ∀ k q, (E.upd nx r c).at_ k = some q → (k = nx ∧ q = r) ∨ (k ≠ nx ∧ E.at_ k = some q) := by
    intro k q e
    by_cases hk : k = nx
    · subst hk; simp at e; exact .inl ⟨rfl, e.symm⟩
    · simp only [Env.upd, hk, if_false] at e; exact .inr ⟨hk, e⟩
  refine ⟨⟨⟨hos.trans s.below.os, htp.trans s.below.tape, hou.trans s.below.output, by rw [hs]; exact s.below.size, fun k hk' => by rw [hk k (by omega)]; exact s.below.block k hk'⟩, fun k q => ?_, fun k q ab2 e1 e2 => ?_, fun k k' q ab2 ab3 e1 e2 e3 e4 d1 d2 => ?_, fun k q ab2 e1 e2 => ?_, s.flat, fun g hg' => hle.at_ _ _ (s.gl g hg'), fun k hk => ?_⟩, ⟨hle, Nat.le_succ _, fun k q e => ⟨?_, fun ab2 g => ?_⟩⟩⟩
  · have : k ≠ nx := by simp only [Nat.succ_eq_add_one] at q; omega
    simp only [Env.upd, this, if_false]; exact s.new k (by simp only [Nat.succ_eq_add_one] at q; omega)
  · rcases at' k q e1 with ⟨_, rfl⟩ | ⟨x, e⟩
    · exact .inr hr
    · rcases get k ab2 e2 with ⟨y, _⟩ | ⟨_, y, z⟩ | ⟨_, _, z⟩
      · exact absurd y x
      · subst y; rw [hb] at e; cases e; exact .inr hr
      · exact s.own k q ab2 e z
  · have alone : ∀ k ab2, k ≠ nx → E.at_ k = some r → ((h.set b .dead).set nx ab').get k = some ab2 → ab2 ≠ .dead → False := by
      intro k ab2 x e g d
      rcases get k ab2 g with ⟨y, _⟩ | ⟨_, y, z⟩ | ⟨_, y, z⟩
      · exact x y
      · exact d z
      · exact y (s.inj k b r ab2 ab e hb z hg d hd)
    rcases at' k q e1 with ⟨rfl, rfl⟩ | ⟨x, e⟩
    · rcases at' k' _ e2 with ⟨rfl, _⟩ | ⟨x', e'⟩
      · rfl
      · exact (alone k' ab3 x' e' e4 d2).elim
    · rcases at' k' q e2 with ⟨rfl, rfl⟩ | ⟨x', e'⟩
      · exact (alone k ab2 x e e3 d1).elim
      · rcases get k ab2 e3 with ⟨y, _⟩ | ⟨_, y, z⟩ | ⟨_, _, z⟩
        · exact absurd y x
        · exact absurd z d1
        · rcases get k' ab3 e4 with ⟨y', _⟩ | ⟨_, y', z'⟩ | ⟨_, _, z'⟩
          · exact absurd y' x'
          · exact absurd z' d2
          · exact s.inj k k' q ab2 ab3 e e' z z' d1 d2
  · rcases at' k q e1 with ⟨rfl, rfl⟩ | ⟨x, e⟩
    · rcases get k ab2 e2 with ⟨_, rfl⟩ | ⟨y, _⟩ | ⟨y, _⟩
      · exact ⟨o, ho, hab⟩
      · exact absurd rfl y
      · exact absurd rfl y
    · rcases get k ab2 e2 with ⟨y, _⟩ | ⟨_, y, z⟩ | ⟨_, y, z⟩
      · exact absurd y x
      · subst z; subst y; rw [hb] at e; cases e; exact ⟨o, ho, trivial⟩
      · obtain ⟨o', g1, g2⟩ := s.obj k q ab2 e z
        by_cases hq : q = r
        · subst hq
          by_cases hdd : ab2 = .dead
          · subst hdd; exact ⟨o, ho, trivial⟩
          · exact absurd (s.inj k b q ab2 ab e hb z hg hdd hd) y
        · exact ⟨o', by rw [hk q hq]; exact g1, g2.le hle e⟩
  · cases q : ((h.set b .dead).set nx ab').get k with
    | none => rfl
    | some cb =>
      simp only [Nat.succ_eq_add_one] at hk
      rcases get k cb q with ⟨x, _⟩ | ⟨_, x, _⟩ | ⟨_, _, x⟩
      · omega
      · subst x; rw [s.new _ (by omega)] at hb; cases hb
      · rw [s.top k (by omega)] at x; cases x
  · have : k ≠ nx := by omega
    simp only [Env.upd, this, if_false]; exact e
  · rcases get k ab2 g with ⟨y, _⟩ | ⟨_, y, z⟩ | ⟨_, _, z⟩
    · omega
    · subst y; rw [hb] at e; cases e
    · exact z

theorem appendA_ok {e sz : Nat} (s : St P w0 E h nx w) (ha : AppOk P e sz) {sv : AV} {y x0 : Value} (hy : Is E sv y) {n : Nat} {new : List AV} {v : AV} {h' : T AB} {nx' : Nat} (q : appendA h nx e sz sv n new = some (v, h', nx'))
    {newS : Sem (Array Value)} {z : Prop} [Decidable z] {vs : List Value} (hnew : ∀ w' : World, (∀ k : Nat, w'.heap[k]? = w.heap[k]?) → newS.run P w' = .ok vs.toArray w') (hvs : IsL E new vs) (hlen : vs.length = n * sz) (hflat : allFlat new = true) :
    ∃ base sLen sCap E' w' x, y = .slice base sLen sCap ∧ (appTail e sz base sLen sCap n y newS z x0).run P w = .ok x w' ∧ Is E' v x ∧ St P w0 E' h' nx' w' ∧ Ext E h nx E' h' nx' := by
  have hn0 := hnew w (fun _ => rfl)
  unfold appendA at q
  split at q
  · have hv0 : vs = [] := List.length_eq_zero_iff.1 (by simpa using hlen)
    subst hv0
    split at q
    · cases q
      cases hy
      exact ⟨none, 0, 0, E, w, _, rfl, appTail_in (by omega) hn0 (fun a q => by cases q) (fun _ => rfl), .ns, s, .refl _ _ _⟩
    · cases q
      cases hy with | es a c =>
      exact ⟨some a, 0, c, E, w, _, rfl, appTail_in (by omega) hn0 (fun a q => by simp [storeCells]) (fun _ => rfl), .es a c, s, .refl _ _ _⟩
    · cases q
      have hy' := hy
      cases hy with
      | sl b o m c r hb hm => exact ⟨_, _, _, E, w, _, rfl, appTail_in (by omega) hn0 (fun a q => by simp [storeCells]) (fun q => by cases q), hy', s, .refl _ _ _⟩
      | slo b o m c r hb hm => exact ⟨_, _, _, E, w, _, rfl, appTail_in (by omega) hn0 (fun a q => by simp [storeCells]) (fun q => by cases q), hy', s, .refl _ _ _⟩
    · cases q
  · rename_i hn
    have hn1 : 0 < n := Nat.pos_of_ne_zero hn
    split at q
    · cases hy
      obtain ⟨hle, rfl, rfl, rfl⟩ := mkRow_some q
      obtain ⟨cap, rest, c1, c2, c3⟩ := appTail_out (P := P) (E := E) (w := w) ha s.flat (sLen := 0) (sCap := 0) (n := n) (base := none) (y := .slice none 0 0) (x0 := x0) (z := z) (newS := newS) (os := []) (vs := vs) (by omega) (by omega) (by simp [Builtin.firstCells]) (hnew _ (heap_drew w))
      simp only [Nat.zero_add, List.nil_append] at c1 c2 c3
      obtain ⟨k1, k2, k3⟩ := moved_ok (P := P) s ha hvs hlen c1 c2
      exact ⟨none, 0, 0, _, _, _, rfl, c3, k3, k1, k2⟩
    · rename_i b o sn c
      have hy' := hy
      cases hy with
      | sl _ _ _ _ r hb hm =>
      split at q
      · rename_i hle
        have hle : sn + n ≤ c := ble_le hle
        split at q
        · rename_i h1 hst
          cases q
          obtain ⟨w', k1, k2, k3⟩ := storeA_ok s hb hst hvs hflat
          refine ⟨_, _, _, E, w', _, rfl, appTail_in hle hn0 (fun a q => by cases q; rw [add_addr]; exact k1) (fun q => by cases q), .sl _ _ _ _ r hb hle, k2, k3⟩
        · cases q
      · rename_i hle
        have hle := not_ble hle
        split at q
        · rename_i old hold
          obtain ⟨hsm, rfl, rfl, rfl⟩ := mkRow_some q
          obtain ⟨os, o1, o2, o3⟩ := firstA_ok (P := P) s hy' hold
          have hlt : ¬ (sn + n ≤ c) := by have : c < Nat.add sn n := hle; show ¬ (sn + n ≤ c); have e : Nat.add sn n = sn + n := rfl; omega
          obtain ⟨cap, rest, c1, c2, c3⟩ := appTail_out (P := P) (E := E) (w := w) ha s.flat (sLen := sn) (sCap := c) (n := n) (base := some ⟨r, o, none⟩) (y := .slice (some ⟨r, o, none⟩) sn c) (x0 := x0) (z := z) (newS := newS) (os := os) (vs := vs) hlt hsm (o1 _ (heap_drew w)) (hnew _ (heap_drew w))
          obtain ⟨k1, k2, k3⟩ := moved_ok (P := P) s ha (o2.app hvs) (by simp only [List.length_append, hlen]; have := o2.length; rw [← this, o3, Nat.add_mul]) c1 c2
          exact ⟨_, _, _, _, _, _, rfl, c3, k3, k1, k2⟩
        · cases q
    · rename_i b sn
      have hy' := hy
      cases hy with
      | slo _ _ _ _ r hb hm =>
      split at q
      · rename_i m cs e' hg
        split at q
        · rename_i old he hold
          have := beq_eq he; subst this
          obtain ⟨hsm, rfl, rfl, rfl⟩ := mkRow_some q
          obtain ⟨os, o1, o2, o3⟩ := firstA_ok (P := P) s hy' hold
          have hos := o2.length
          rcases Nat.lt_or_ge (E.cap b - 0) (sn + n) with hlt | hge
          · -- it moves
            obtain ⟨cap, rest, c1, c2, c3⟩ := appTail_out (P := P) (E := E) (w := w) ha s.flat (sLen := sn) (sCap := E.cap b - 0) (n := n) (base := some ⟨r, 0, none⟩) (y := .slice (some ⟨r, 0, none⟩) sn (E.cap b - 0)) (x0 := x0) (z := z) (newS := newS) (os := os) (vs := vs) (by omega) hsm (o1 _ (heap_drew w)) (hnew _ (heap_drew w))
            -- the old block is left alone
            have s' : St P w0 E (h.set b .dead) nx w := by
              refine ⟨s.below, s.new, fun k q ab e1 e2 => ?_, fun k k' q ab ab' e1 e2 e3 e4 d1 d2 => ?_, fun k q ab e1 e2 => ?_, s.flat, s.gl, fun k hk => by rw [T.get_set, if_neg (fun x => by subst x; rw [s.new _ hk] at hb; cases hb)]; exact s.top k hk⟩
              · rw [T.get_set] at e2
                split at e2
                · rename_i x; subst x; rw [hb] at e1; cases e1
                  rcases s.own b r _ hb hg with ⟨_, _, z⟩ | z
                  · cases z
                  · exact .inr z
                · exact s.own k q ab e1 e2
              · rw [T.get_set] at e3 e4
                split at e3
                · cases e3; exact absurd rfl d1
                · split at e4
                  · cases e4; exact absurd rfl d2
                  · exact s.inj k k' q ab ab' e1 e2 e3 e4 d1 d2
              · rw [T.get_set] at e2
                split at e2
                · rename_i x; subst x; cases e2
                  obtain ⟨ob, g1, _⟩ := s.obj b r _ hb hg
                  rw [hb] at e1; cases e1
                  exact ⟨ob, g1, trivial⟩
                · exact s.obj k q ab e1 e2
            obtain ⟨k1, k2, k3⟩ := moved_ok (P := P) s' ha (o2.app hvs) (by simp only [List.length_append, hlen]; rw [← hos, o3, Nat.add_mul]) c1 c2
            exact ⟨_, _, _, _, _, _, rfl, c3, k3, k1, (Ext.turn s _ hb).trans k2⟩
          · -- there is room
            obtain ⟨ob, g1, arr, rfl, g2, _, g4, g5⟩ := s.obj b r _ hb hg
            obtain ⟨sz', z1, z2⟩ := g4 rfl
            have : sz' = sz := by have := ha.size; rw [z1] at this; cases this; rfl
            subst this
            have hroom : (sn + n) * sz' ≤ arr.size := by rw [z2]; exact Nat.mul_le_mul_right _ (by omega)
            have hmul : (sn + n) * sz' = sn * sz' + n * sz' := Nat.add_mul ..
            have hrun := run_storeCells_at P r (sn * sz') e' vs 0 arr w g1 (by omega) (flat_all s.flat hvs hflat)
            have hrun' := hrun
            have hadd : (⟨r, sn * sz', none⟩ : Addr) = (⟨r, 0, none⟩ : Addr).add (sn * sz') := by rw [add_addr, Nat.zero_add]
            rw [hadd] at hrun'
            have hle := E.upd_le r (E.cap b) (s.new nx (Nat.le_refl _))
            -- the cells ahead stay
            have hfc := o1 w (fun _ => rfl)
            have hold_cells : arr.toList.take (sn * sz') = os := by
              have hr2 : os.length = sn * sz' := by omega
              have hfc' : (loadCells ⟨r, 0, none⟩ (sn * sz')).run P w = .ok os.toArray w := by simpa [Builtin.firstCells] using hfc
              have h2 := run_loads (P := P) (o := 0) g1 (vs := arr.toList.take (sn * sz')) (fun j x hj => by
                rw [List.getElem?_take] at hj
                split at hj
                · simpa using hj
                · cases hj)
              have hl2 : (arr.toList.take (sn * sz')).length = sn * sz' := by simp; omega
              rw [hl2, hfc'] at h2
              injection h2 with h2 _
              have := congrArg Array.toList h2
              simpa using this.symm
            have hcur : (arr.toList.take (sn * sz' + 0) ++ vs ++ arr.toList.drop (sn * sz' + 0 + vs.length)).toArray = (os ++ vs).toArray ++ (arr.toList.drop (sn * sz' + vs.length)).toArray := by
              rw [Nat.add_zero, hold_cells]
              apply Array.ext'
              simp
            rw [hcur] at hrun'
            have horow := row_open (P := P) (E.upd nx r (E.cap b)) (nx := nx) ((o2.app hvs).le hle) e' sz' (sn + n) (E.cap b) ha.size (by simp only [List.length_append, hlen]; omega) (by omega) (arr.toList.drop (sn * sz' + vs.length)).toArray (by simp only [List.size_toArray, List.length_drop, Array.length_toList, z2, hlen]; rw [Nat.sub_mul]; omega) (by simp)
            obtain ⟨k1, k2⟩ := s.rename hb hg (by simp) (by simp) (E.cap b) (w' := w.setRow r ((os ++ vs).toArray ++ (arr.toList.drop (sn * sz' + vs.length)).toArray)) (setRow_size ..) (setRow_heap w r arr _ e' (0, 0) g1) (fun k hk => setRow_other w r k _ hk) rfl rfl rfl horow
            refine ⟨_, _, _, _, _, _, rfl, appTail_in hge hn0 (fun a q => by cases q; exact hrun') (fun q => by cases q), ?_, k1, k2⟩
            have := Is.slo (E := E.upd nx r (E.cap b)) nx 0 (sn + n) 0 r (by simp) (by simp; omega)
            simpa using this
        · cases q
      · cases q
    · cases q
end Go.Ev
