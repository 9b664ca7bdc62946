/- A certified evaluator of closed calls, part P6. -/
import Derived.Test.YthmaejcpadoljaaGreatEvP5
import Derived.Laws.Tables
namespace Go.Ev
open Go Go.RowKit
set_option linter.unusedVariables false
set_option linter.unusedSimpArgs false
variable {P : Program} {w0 : World} {E : Env} {h : T AB} {nx : Nat} {w : World}

/-! ### structs and arrays that are built -/
inductive PsIs (E : Env) : List (Nat × AV) → List (Nat × Value) → Prop
  | nil : PsIs E [] []
  | cons (i : Nat) (v : AV) (x : Value) (l : List (Nat × AV)) (m : List (Nat × Value)) (h : Is E v x) (hl : PsIs E l m) : PsIs E ((i, v) :: l) ((i, x) :: m)
theorem fold_set (off : Nat) : ∀ (c : List Value) (j : Nat) (cs : Array Value), off + j + c.length ≤ cs.size →
    ((c.zipIdx j).foldl (fun (cs : Array Value) (p : Value × Nat) => cs.setIfInBounds (off + p.2) p.1) cs).toList = cs.toList.take (off + j) ++ c ++ cs.toList.drop (off + j + c.length)
  | [], j, cs, _ => by simp
  | x :: c, j, cs, hl => by
    simp only [List.length_cons] at hl
    have ih := fold_set off c (j + 1) (cs.setIfInBounds (off + j) x) (by simp; omega)
    rw [List.zipIdx_cons, List.foldl_cons, ih]
    have e := list_seg_step cs.toList (off + j) x c (by simp; omega)
    simpa [Array.toList_setIfInBounds, Nat.add_assoc] using e
theorem fill_ok (hf : ∀ k v, E.ov k = some v → v.oneCell' = true) (place : Nat → Option (Nat × Nat)) : ∀ (ps : List (Nat × AV)) (qs : List (Nat × Value)) (cs l : List AV) (vs : List Value), PsIs E ps qs → IsL E cs vs → fillA place cs ps = some l →
    ∃ ws : List Value, Instr.fill place vs.toArray qs = some ws.toArray ∧ IsL E l ws
  | _, _, cs, l, vs, .nil, hc, e => by simp [fillA] at e; subst e; exact ⟨vs, rfl, hc⟩
  | _, _, cs, l, vs, .cons i v x ps qs hv hl, hc, e => by
    rw [fillA] at e
    split at e
    · cases e
    · rename_i off sz hp
      split at e
      · rename_i h1 h2
        have h1 := beq_eq h1
        have h2 : off + sz ≤ cs.length := ble_le h2
        have hcl := is_cells hf hv
        have hcn := hcl.length
        have hvn := hc.length
        have hsz : x.cells.size = sz := by have : x.cells.toList.length = x.cells.size := by simp
                                           omega
        have key : (x.cells.zipIdx.foldl (fun (cs : Array Value) (p : Value × Nat) => cs.setIfInBounds (off + p.2) p.1) vs.toArray) = (vs.take off ++ x.cells.toList ++ vs.drop (off + sz)).toArray := by
          apply Array.ext'
          have := fold_set off x.cells.toList 0 vs.toArray (by simp; omega)
          have e2 : x.cells.zipIdx.toList = x.cells.toList.zipIdx 0 := by simp
          rw [← Array.foldl_toList, e2, this]
          simp [hsz]
        obtain ⟨ws, k1, k2⟩ := fill_ok hf place ps qs _ l (vs.take off ++ x.cells.toList ++ vs.drop (off + sz)) hl (((hc.take off).app hcl).app (hc.drop (off + sz))) e
        refine ⟨ws, ?_, k2⟩
        rw [Instr.fill]
        simp only [hp]
        rw [if_neg (by simp only [ne_eq, Bool.or_eq_true, decide_eq_true_eq, not_or]; simp; omega)]
        have : (x.cells.zipIdx.foldl (fun cs (c, j) => cs.setIfInBounds (off + j) c) vs.toArray) = (x.cells.zipIdx.foldl (fun (cs : Array Value) (p : Value × Nat) => cs.setIfInBounds (off + p.2) p.1) vs.toArray) := rfl
        rw [this, key]
        exact k1
      · cases e
theorem places_ok : ∀ (fs : List Field), sizesOk P fs = true → ∃ places : List (Nat × Nat), fs.mapM (fun (f : Field) => (P.info? f.type).map fun i => (f.offset, i.size)) = some places ∧
    ∀ i : Nat, places[i]? = (match fs[i]? with | some f => (match size P f.type with | some n => some (f.offset, n) | none => none) | none => none)
  | [], _ => ⟨[], rfl, by simp⟩
  | f :: fs, e => by
    rw [sizesOk] at e
    split at e
    · rename_i n hn
      obtain ⟨i, hi, him⟩ := size_info hn
      obtain ⟨ps, h1, h2⟩ := places_ok fs e
      refine ⟨(f.offset, i.size) :: ps, by simp [List.mapM_cons, hi, h1], fun k => ?_⟩
      cases k with
      | zero => simp [hn, him]
      | succ k => simpa using h2 k
    · cases e
theorem build_ok (hf : ∀ k v, E.ov k = some v → v.oneCell' = true) {t : TypeId} {ps : List (Nat × AV)} {qs : Array (Nat × Value)} {v : AV} (hp : PsIs E ps qs.toList) (e : buildA P t ps = some v) :
    ∃ x, (Instr.build t qs).run P w = .ok x w ∧ Is E v x := by
  unfold buildA at e
  split at e
  · rename_i z fs hz hu
    have hu : P.underlying t = _ := hu
    split at e
    · rename_i hs
      split at e
      · rename_i l hl
        cases e
        unfold zeroA at hz
        split at hz
        · rename_i i hi
          split at hz
          · rename_i zv hzv
            have iz := is_cells hf (ofValue_is E _ _ hz)
            obtain ⟨places, p1, p2⟩ := places_ok fs.toList hs
            have hplace : placeS P fs = fun i => places[i]? := by
              funext i
              rw [p2, Array.getElem?_toList]
              rfl
            rw [hplace] at hl
            obtain ⟨ws, k1, k2⟩ := fill_ok hf _ _ _ _ _ _ hp iz hl
            refine ⟨.agg ws.toArray, run_build w t qs ws.toArray ?_, .agg _ _ k2⟩
            simp only [Program.built, hi, hu, hzv, p1]
            have : (fun (x : Nat) => places.toArray[x]?) = fun (i : Nat) => places[i]? := by funext i; simp
            rw [this]
            simpa using k1
          · cases hz
        · cases hz
      · cases e
    · cases e
  · rename_i z n el hz hu
    have hu : P.underlying t = _ := hu
    split at e
    · rename_i m hm
      obtain ⟨ie, hie, him⟩ := size_info hm
      split at e
      · rename_i l hl
        cases e
        unfold zeroA at hz
        split at hz
        · rename_i i hi
          split at hz
          · rename_i zv hzv
            have iz := is_cells hf (ofValue_is E _ _ hz)
            obtain ⟨ws, k1, k2⟩ := fill_ok hf _ _ _ _ _ _ hp iz hl
            refine ⟨.agg ws.toArray, run_build w t qs ws.toArray ?_, .agg _ _ k2⟩
            simp only [Program.built, hi, hu, hzv, hie, him]
            simpa using k1
          · cases hz
        · cases hz
      · cases e
    · cases e
  · cases e

/-! ### slices -/
theorem natOf_is {v : AV} {x : Value} {n : Nat} (hv : Is E v x) (e : natOf v = some n) : ∃ k, x = .int k (.ofNat n) := by
  cases v with
  | i k m => cases m with
    | ofNat m => simp [natOf] at e; subst e; cases hv; exact ⟨_, rfl⟩
    | negSucc m => simp [natOf] at e
  | _ => simp [natOf] at e
/-- an operand that need not be there -/
def OIs' (E : Env) : Option AV → Option Value → Prop
  | none, none => True
  | some v, some x => Is E v x
  | _, _ => False
theorem bnd_some {d m n : Nat} {v : AV} {x : Value} (hv : Is E v x) (e : bnd d m (some v) = some n) (c : BoundsCode) : (Instr.sliceBound x m c).run P w = .ok n w ∧ n ≤ m := by
  unfold bnd at e
  simp only at e
  split at e
  · rename_i k hk
    obtain ⟨kk, rfl⟩ := natOf_is hv hk
    split at e
    · rename_i hle
      cases e
      have hle := ble_le hle
      have : (0 : Int) ≤ .ofNat n ∧ (Int.ofNat n) ≤ (m : Int) := ⟨Int.natCast_nonneg n, by simp; omega⟩
      refine ⟨?_, hle⟩
      simp only [Instr.sliceBound, asIntOf, Sem.run_bind, Sem.run_pure, Result.andThen_ok, Sem.run_ite]
      rw [if_pos this]
      rfl
    · cases e
  · cases e
theorem bnd_mono {d d' m m' n : Nat} {v : AV} (e : bnd d m (some v) = some n) (hm : m ≤ m') : bnd d' m' (some v) = some n := by
  unfold bnd at e
  simp only at e
  split at e
  · rename_i k hk
    split at e
    · rename_i hle
      cases e
      have := ble_le hle
      show (match natOf v with | some n => (match Nat.ble n m' with | true => some n | false => none) | none => none) = some n
      rw [hk]
      show (match Nat.ble n m' with | true => some n | false => none) = some n
      rw [Nat.ble_eq_true_of_le (by omega)]
    · cases e
  · cases e
theorem bounds_ok {s : Bool} {n c m hh l : Nat} {lo hi mx : Option AV} {lo' hi' mx' : Option Value} (h1 : OIs' E lo lo') (h2 : OIs' E hi hi') (h3 : OIs' E mx mx')
    (e0 : (isNone hi && !isNone mx) = false) (em : bnd c c mx = some m) (eh : bnd n m hi = some hh) (el : bnd 0 hh lo = some l) :
    (Instr.sliceBounds s n c lo' hi' mx').run P w = .ok (l, hh, m) w := by
  unfold Instr.sliceBounds
  cases mx with
  | none =>
    cases mx' with
    | some _ => exact h3.elim
    | none =>
      simp [bnd] at em; subst em
      cases hi with
      | none =>
        cases hi' with
        | some _ => exact h2.elim
        | none =>
          simp [bnd] at eh; subst eh
          cases lo with
          | none => cases lo' with
            | some _ => exact h1.elim
            | none => simp [bnd] at el; subst el; simp
          | some v => cases lo' with
            | none => exact h1.elim
            | some x => simp [(bnd_some (P := P) (w := w) h1 el _).1]
      | some u =>
        cases hi' with
        | none => exact h2.elim
        | some y =>
          have k2 := fun cd => (bnd_some (P := P) (w := w) h2 eh cd).1
          cases lo with
          | none => cases lo' with
            | some _ => exact h1.elim
            | none => simp [bnd] at el; subst el; cases s <;> simp [k2]
          | some v => cases lo' with
            | none => exact h1.elim
            | some x => cases s <;> simp [k2, (bnd_some (P := P) (w := w) h1 el _).1]
  | some z =>
    cases mx' with
    | none => exact h3.elim
    | some zz =>
      have k3 := fun cd => (bnd_some (P := P) (w := w) h3 em cd).1
      cases hi with
      | none => simp [isNone] at e0
      | some u =>
        cases hi' with
        | none => exact h2.elim
        | some y =>
          have k2 := fun cd => (bnd_some (P := P) (w := w) h2 eh cd).1
          cases lo with
          | none => cases lo' with
            | some _ => exact h1.elim
            | none => simp [bnd] at el; subst el; cases s <;> simp [k2, k3]
          | some v => cases lo' with
            | none => exact h1.elim
            | some x => cases s <;> simp [k2, k3, (bnd_some (P := P) (w := w) h1 el _).1]
theorem slRow_ok {b o n c sz r : Nat} {lo hi mx : Option AV} {lo' hi' mx' : Option Value} {v : AV} (h1 : OIs' E lo lo') (h2 : OIs' E hi hi') (h3 : OIs' E mx mx') (hn : n ≤ c)
    (e : slRow b o n c sz lo hi mx = some v) : ∃ l hh m, (∀ s, (Instr.sliceBounds s n c lo' hi' mx').run P w = .ok (l, hh, m) w) ∧ l ≤ hh ∧ hh ≤ m ∧ m ≤ c ∧
      v = .sl b (if m = l then o else o + l * sz) (hh - l) (m - l) false := by
  unfold slRow at e
  split at e
  · cases e
  · rename_i e0
    split at e
    · cases e
    · rename_i m em
      split at e
      · cases e
      · rename_i hh eh
        split at e
        · cases e
        · rename_i l el
          have b1 : m ≤ c := by
            cases mx with
            | none => simp [bnd] at em; omega
            | some z => cases mx' with
              | none => exact h3.elim
              | some zz => exact (bnd_some (P := P) (w := default) h3 em .index).2
          have b2 : hh ≤ m := by
            cases hi with
            | none =>
              simp [bnd] at eh; subst eh
              cases mx with
              | none => simp [bnd] at em; omega
              | some z => simp [isNone] at e0
            | some z => cases hi' with
              | none => exact h2.elim
              | some zz => exact (bnd_some (P := P) (w := default) h2 eh .index).2
          have b3 : l ≤ hh := by
            cases lo with
            | none => simp [bnd] at el; omega
            | some z => cases lo' with
              | none => exact h1.elim
              | some zz => exact (bnd_some (P := P) (w := default) h1 el .index).2
          refine ⟨l, hh, m, fun s => bounds_ok h1 h2 h3 e0 em eh el, b3, b2, b1, ?_⟩
          split at e
          · rename_i q; rw [if_pos (beq_eq q)]; cases e; rfl
          · rename_i q; rw [if_neg (not_beq q)]; cases e; rfl
theorem add_addr (r o k : Nat) : (⟨r, o, none⟩ : Addr).add k = ⟨r, o + k, none⟩ := add_off r o k
/-- execOp's slice, at a string or a slice or an array's address -/
theorem slice_ok {t : TypeId} {x : AV} {x' : Value} {lo hi mx : Option AV} {lo' hi' mx' : Option Value} {v : AV} (hx : Is E x x') (h1 : OIs' E lo lo') (h2 : OIs' E hi hi') (h3 : OIs' E mx mx')
    (e : sliceA P t x lo hi mx = some v) : ∃ y, (Instr.sliceAt t x' lo' hi' mx').run P w = .ok y w ∧ Is E v y := by
  unfold sliceA at e
  split at e
  · rename_i hu
    have hu : P.underlying t = _ := hu
    split at e
    · rename_i l
      cases hx with
      | s _ hb =>
      unfold slStr at e
      split at e
      · cases e
      · cases mx' with
        | some _ => exact h3.elim
        | none =>
          split at e
          · rename_i hh eh
            split at e
            · rename_i a ea
              cases e
              have k := bounds_ok (P := P) (w := w) (s := false) (n := l.length) (c := l.length) (m := l.length) h1 h2 (mx := none) (mx' := none) trivial (by simp [isNone]) (by simp [bnd]) eh ea
              refine ⟨.string ((byts l).extract a hh), by simp [Instr.sliceAt, Instr.slice, run_underlying hu, byts_size, k], ?_⟩
              have : (byts l).extract a hh = byts ((l.drop a).take (hh - a)) := by
                apply ByteArray.ext
                apply Array.ext'
                simp [byts, ByteArray.data_extract, List.extract_eq_take_drop, List.map_take, List.map_drop]
              rw [this]
              exact .s _ fun x hx => hb x (List.mem_of_mem_drop (List.mem_of_mem_take hx))
            · cases e
          · cases e
    · cases e
  · rename_i el hu
    have hu : P.underlying t = _ := hu
    split at e
    · rename_i sz hsz
      split at e
      · split at e
        · rename_i u hq
          cases e
          cases hx
          obtain ⟨l, hh, m, k1, k2, k3, k4, rfl⟩ := slRow_ok (P := P) (w := w) (r := 0) h1 h2 h3 (Nat.le_refl 0) hq
          have : l = 0 := by omega
          have : hh = 0 := by omega
          have : m = 0 := by omega
          subst_vars
          exact ⟨.slice none 0 0, by simp [Instr.sliceAt, Instr.slice, run_underlying hu, k1, run_size hsz], .ns⟩
        · cases e
      · split at e
        · split at e
          · rename_i u hq
            cases e
            cases mx' with
            | some _ => exact h3.elim
            | none =>
              cases hx with
              | es a c =>
              -- the bounds are 0, whatever the capacity
              have hz : (Instr.sliceBounds true 0 c lo' hi' none).run P w = .ok (0, 0, c) w := by
                have z : ∀ (x : AV) (y : Value) (n : Nat) (cd : BoundsCode) (mm : Nat), Is E x y → bnd 0 0 (some x) = some n → (Instr.sliceBound y mm cd).run P w = .ok 0 w := by
                  intro x y n cd mm hi e
                  unfold bnd at e
                  simp only at e
                  split at e
                  · rename_i k hk
                    obtain ⟨kk, rfl⟩ := natOf_is hi hk
                    split at e
                    · rename_i hle
                      have := ble_le hle
                      have : k = 0 := by omega
                      subst this
                      simp [Instr.sliceBound, asIntOf]
                    · cases e
                  · cases e
                unfold slRow at hq
                simp only [isNone, Bool.not_true, Bool.and_false] at hq
                simp only [bnd] at hq
                unfold Instr.sliceBounds
                cases hi with
                | none => cases hi' with
                  | some _ => exact h2.elim
                  | none =>
                    simp only [bnd] at hq
                    cases lo with
                    | none => cases lo' with
                      | some _ => exact h1.elim
                      | none => simp
                    | some y => cases lo' with
                      | none => exact h1.elim
                      | some yy =>
                        cases q : bnd 0 0 (some y) with
                        | none => simp only [bnd] at q; simp only [q] at hq; cases hq
                        | some n => simp [z y yy n _ _ h1 q]
                | some u => cases hi' with
                  | none => exact h2.elim
                  | some uu =>
                    cases q2 : bnd 0 0 (some u) with
                    | none => simp only [bnd] at q2; simp only [q2] at hq; cases hq
                    | some hh =>
                      have hh0 : hh = 0 := by have := (bnd_some (P := P) (w := w) h2 q2 .index).2; omega
                      subst hh0
                      have q2' := q2
                      simp only [bnd] at q2
                      simp only [q2] at hq
                      cases lo with
                      | none => cases lo' with
                        | some _ => exact h1.elim
                        | none => simp [z u uu 0 _ _ h2 q2']
                      | some y => cases lo' with
                        | none => exact h1.elim
                        | some yy =>
                          cases q : bnd 0 0 (some y) with
                          | none => simp only [bnd] at q; simp only [q] at hq; cases hq
                          | some n => simp [z u uu 0 _ _ h2 q2', z y yy n _ _ h1 q]
              refine ⟨_, by simp [Instr.sliceAt, Instr.slice, run_underlying hu, hz, run_size hsz]; rfl, ?_⟩
              by_cases hc : c = 0
              · simp only [hc, if_true]; exact .es a 0
              · simp only [hc, if_false, Option.map]; exact .es _ _
          · cases e
        · cases e
      · rename_i b o n c
        cases hx with
        | sl _ _ _ _ r hb hnc =>
        obtain ⟨l, hh, m, k1, k2, k3, k4, rfl⟩ := slRow_ok (P := P) (w := w) (r := r) h1 h2 h3 hnc e
        refine ⟨_, by simp [Instr.sliceAt, Instr.slice, run_underlying hu, k1, run_size hsz]; rfl, ?_⟩
        by_cases hml : m = l
        · simp only [hml, if_true]; exact .sl _ _ _ _ r hb (by omega)
        · simp only [hml, if_false, Option.map_some, add_addr]; exact .sl _ _ _ _ r hb (by omega)
      · rename_i b o n c
        cases hx with
        | slo _ _ _ _ r hb hcap =>
        unfold slOpn at e
        split at e
        · rename_i z
          cases mx' with
          | none => exact h3.elim
          | some zz =>
            -- its length stands for its capacity: a bound is at most that
            obtain ⟨l, hh, m, k1, k2, k3, k4, rfl⟩ := slRow_ok (P := P) (w := w) (r := r) h1 h2 h3 (Nat.le_refl n) e
            have k1' : (Instr.sliceBounds true n (E.cap b - c) lo' hi' (some zz)).run P w = .ok (l, hh, m) w := by
              have := k1 true
              unfold Instr.sliceBounds at this ⊢
              simp only [Sem.run_bind] at this ⊢
              have hz : (Instr.sliceBound zz (E.cap b - c) .slice3Acap).run P w = (Instr.sliceBound zz n .slice3Acap).run P w := by
                unfold slRow at e
                split at e
                · cases e
                · split at e
                  · cases e
                  · rename_i m' em
                    have a1 := bnd_some (P := P) (w := w) h3 em .slice3Acap
                    have a2 : bnd (E.cap b - c) (E.cap b - c) (some z) = some m' := bnd_mono em (by omega)
                    rw [a1.1, (bnd_some (P := P) (w := w) h3 a2 .slice3Acap).1]
              simpa [hz] using this
            refine ⟨_, by simp [Instr.sliceAt, Instr.slice, run_underlying hu, k1', run_size hsz]; rfl, ?_⟩
            by_cases hml : m = l
            · simp only [hml, if_true]; exact .sl _ _ _ _ r hb (by omega)
            · simp only [hml, if_false, Option.map_some, add_addr]; exact .sl _ _ _ _ r hb (by omega)
        · cases mx' with
          | some _ => exact h3.elim
          | none =>
            split at e
            · cases e
            · rename_i hh eh
              split at e
              · cases e
              · rename_i l el
                have bl : l ≤ hh := by
                  cases lo with
                  | none => simp [bnd] at el; omega
                  | some z => cases lo' with
                    | none => exact h1.elim
                    | some zz => exact (bnd_some (P := P) (w := default) h1 el .index).2
                have bh : hh ≤ n := by
                  cases hi with
                  | none => simp [bnd] at eh; omega
                  | some z => cases hi' with
                    | none => exact h2.elim
                    | some zz => exact (bnd_some (P := P) (w := default) h2 eh .index).2
                have eh' : bnd n (E.cap b - c) hi = some hh := by
                  cases hi with
                  | none => exact eh
                  | some z => exact bnd_mono eh (by omega)
                have k := bounds_ok (P := P) (w := w) (s := true) (n := n) (c := E.cap b - c) (m := E.cap b - c) h1 h2 (mx := none) (mx' := none) trivial (by simp [isNone]) (by simp [bnd]) eh' el
                refine ⟨_, by simp [Instr.sliceAt, Instr.slice, run_underlying hu, k, run_size hsz]; rfl, ?_⟩
                split at e
                · rename_i q
                  have := beq_eq q; subst this
                  cases e
                  have : (if E.cap b - c = 0 then some (⟨r, o, none⟩ : Addr) else some ((⟨r, o, none⟩ : Addr).add (0 * sz))) = some ⟨r, o, none⟩ := by
                    split
                    · rfl
                    · simp [add_addr]
                  rw [this]
                  simp only [Nat.sub_zero]
                  exact .slo b o hh c r hb (by omega)
                · rename_i q1 q2
                  cases e
                  have q1 := not_beq q1
                  have q2 := not_ble q2
                  have hne : ¬ (E.cap b - c = l) := by omega
                  simp only [hne, if_false, Option.map_some, add_addr]
                  have := Is.slo (E := E) b (o + l * sz) (hh - l) (c + l) r hb (by omega)
                  rwa [show E.cap b - (c + l) = E.cap b - c - l by omega] at this
                · rename_i q1 q2
                  split at e
                  · rename_i q3
                    cases e
                    have := beq_eq q3; subst this
                    simp only [Nat.sub_self]
                    by_cases hc : E.cap b - c = hh
                    · simp only [hc, if_true]; exact .es _ _
                    · simp only [hc, if_false, Option.map_some]; exact .es _ _
                  · cases e
      · cases e
    · cases e
  · rename_i n el hu
    have hu : P.underlying t = _ := hu
    split at e
    · rename_i sz hsz
      split at e
      · rename_i b o
        cases hx with
        | ptr _ _ r hb =>
        obtain ⟨l, hh, m, k1, k2, k3, k4, rfl⟩ := slRow_ok (P := P) (w := w) (r := r) h1 h2 h3 (Nat.le_refl n) e
        refine ⟨_, by simp [Instr.sliceAt, run_underlying hu, Instr.sureAddr, k1, run_size hsz]; rfl, ?_⟩
        by_cases hml : m = l
        · simp only [hml, if_true]; exact .sl _ _ _ _ r hb (by omega)
        · simp only [hml, if_false, add_addr]; exact .sl _ _ _ _ r hb (by omega)
      · cases e
    · cases e
  · cases e
end Go.Ev
