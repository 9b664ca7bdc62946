/- A certified evaluator of closed calls, part P3. -/
import Derived.Test.YthmaejcpadoljaaGreatEvP2
namespace Go.Ev
open Go Go.RowKit
set_option linter.unusedVariables false
set_option linter.unusedSimpArgs false
variable {P : Program} {w0 : World} {E : Env} {h : T AB} {nx : Nat} {w : World}

theorem add_off (r o j : Nat) : (⟨r, o, none⟩ : Addr).add j = ⟨r, o + j, none⟩ := by unfold Addr.add; split <;> simp_all
theorem is_agg {l : List AV} {x : Value} (k : Is E (.agg l) x) : ∃ vs, x = .agg vs.toArray ∧ IsL E l vs := by cases k; exact ⟨_, rfl, by assumption⟩
theorem is_cells (hf : ∀ k v, E.ov k = some v → v.oneCell' = true) {v : AV} {x : Value} (k : Is E v x) : IsL E (cells v) x.cells.toList := by
  have k' : IsL E [v] [x] := .cons _ _ _ _ k .nil
  cases k with
  | agg l vs h => simpa [cells, Value.cells] using h
  | o k x e =>
    have := hf _ _ e
    cases x <;> first | exact k' | (simp [Value.oneCell'] at this; done)
  | _ => exact k'
theorem flat_one (hf : ∀ k v, E.ov k = some v → v.oneCell' = true) {v : AV} {x : Value} (k : Is E v x) (q : isFlat v = true) : x.oneCell' = true := by
  cases k <;> first | rfl | (simp [isFlat] at q; done) | skip
  rename_i k e; exact hf _ _ e
theorem flat_all (hf : ∀ k v, E.ov k = some v → v.oneCell' = true) : ∀ {l : List AV} {vs : List Value}, IsL E l vs → allFlat l = true → ∀ x ∈ vs, x.oneCell' = true
  | _, _, .nil, _, x, hx => by simp at hx
  | _, _, .cons v y l vs hv hl, q, x, hx => by
    simp only [allFlat, Bool.and_eq_true] at q
    rcases List.mem_cons.1 hx with rfl | hx
    · exact flat_one hf hv q.1
    · exact flat_all hf hl q.2 x hx

/-! ### rows -/
/-- cells that a trie tells -/
def RowIs (E : Env) (n : Nat) (c : T AV) (arr : Array Value) : Prop := n ≤ arr.size ∧ ∀ k v, k < n → c.get k = some v → ∃ x, arr[k]? = some x ∧ Is E v x
theorem St.row (s : St P w0 E h nx w) {b r n : Nat} {c : T AV} (hb : E.at_ b = some r) (hr : rowOf h b = some (n, c)) :
    ∃ arr e fz, w.heap[r]? = some (.cells arr e fz) ∧ RowIs E n c arr := by
  unfold rowOf at hr
  split at hr
  · rename_i n' c' _ e lo hi hg
    cases hr
    obtain ⟨o, h1, arr, rfl, h2, _, _, h3⟩ := s.obj b r _ hb hg
    exact ⟨arr, _, _, h1, h2, h3⟩
  · rename_i n' c' hg
    cases hr
    obtain ⟨o, h1, arr, e, fz, rfl, h2, h3⟩ := s.obj b r _ hb hg
    exact ⟨arr, _, _, h1, h2, h3⟩
  · cases hr
theorem range_is {arr : Array Value} {m : Nat} {c : T AV} (hr : RowIs E m c arr) : ∀ (n o : Nat) (l : List AV), range c o n = some l → o + n ≤ m →
    ∃ vs, IsL E l vs ∧ vs.length = n ∧ ∀ j x, vs[j]? = some x → arr[o + j]? = some x
  | 0, o, l, e, _ => by simp [range] at e; subst e; exact ⟨[], .nil, rfl, by simp⟩
  | n + 1, o, l, e, hm => by
    simp only [range] at e
    split at e
    · rename_i v hv
      split at e
      · rename_i l' hl
        cases e
        obtain ⟨x, hx, hi⟩ := hr.2 o v (by omega) hv
        obtain ⟨vs, h1, h2, h3⟩ := range_is hr n (o + 1) l' hl (by omega)
        refine ⟨x :: vs, .cons _ _ _ _ hi h1, by simp [h2], fun j y hy => ?_⟩
        cases j with
        | zero => simp at hy; subst hy; simpa using hx
        | succ j => have := h3 j y (by simpa using hy); rwa [show o + (j + 1) = o + 1 + j by omega]
      · cases e
    · cases e
theorem run_loads {arr : Array Value} {e : TypeId} {fz : Nat × Nat} {r o : Nat} (hg : w.heap[r]? = some (.cells arr e fz)) {vs : List Value} (hv : ∀ j x, vs[j]? = some x → arr[o + j]? = some x) :
    (loadCells ⟨r, o, none⟩ vs.length).run P w = .ok vs.toArray w :=
  run_loadCells_list w _ vs fun j v hj => by rw [add_off]; simp [World.cell?, hg, hv j v hj]
theorem run_ld {arr : Array Value} {e : TypeId} {fz : Nat × Nat} {r o : Nat} (hg : w.heap[r]? = some (.cells arr e fz)) {x : Value} (hv : arr[o]? = some x) :
    (load ⟨r, o, none⟩).run P w = .ok x w := by
  have : w.cell? ⟨r, o, none⟩ = some x := by simp [World.cell?, hg, hv]
  simp [this]

theorem ble_le {a b : Nat} (e : Nat.ble a b = true) : a ≤ b := Nat.le_of_ble_eq_true e
theorem not_ble {a b : Nat} (e : Nat.ble a b = false) : b < a := by
  rcases Nat.lt_or_ge b a with h | h
  · exact h
  · rw [Nat.ble_eq_true_of_le h] at e; cases e
theorem beq_eq {a b : Nat} (e : Nat.beq a b = true) : a = b := Nat.eq_of_beq_eq_true e
theorem not_beq {a b : Nat} (e : Nat.beq a b = false) : a ≠ b := Nat.ne_of_beq_eq_false e

theorem ld1_ok (s : St P w0 E h nx w) {a v : AV} {x : Value} (e : ld1 h (some a) = some v) (ha : Is E a x) :
    ∃ r o y, x = .pointer (some ⟨r, o, none⟩) ∧ (load ⟨r, o, none⟩).run P w = .ok y w ∧ Is E v y := by
  unfold ld1 at e
  split at e
  · rename_i b o ha'
    cases ha'
    cases ha with
    | ptr _ _ r hb =>
      split at e
      · rename_i n c hr
        obtain ⟨arr, t, fz, hg, hi⟩ := s.row hb hr
        split at e
        · rename_i hle
          obtain ⟨y, h1, h2⟩ := hi.2 o v (ble_le hle) e
          exact ⟨r, o, y, rfl, run_ld hg h1, h2⟩
        · cases e
      · cases e
  · cases e
theorem ldN_ok (s : St P w0 E h nx w) {a v : AV} {x : Value} {n : Nat} (e : ldN n h (some a) = some v) (ha : Is E a x) :
    ∃ r o y, x = .pointer (some ⟨r, o, none⟩) ∧ (loadCells ⟨r, o, none⟩ n).run P w = .ok y w ∧ Is E v (.agg y) := by
  unfold ldN at e
  split at e
  · rename_i b o ha'
    cases ha'
    cases ha with
    | ptr _ _ r hb =>
      split at e
      · rename_i m c hr
        obtain ⟨arr, t, fz, hg, hi⟩ := s.row hb hr
        split at e
        · rename_i hle
          split at e
          · rename_i l hl
            cases e
            obtain ⟨vs, h1, h2, h3⟩ := range_is hi n o l hl (ble_le hle)
            have := run_loads (P := P) hg h3
            rw [h2] at this
            exact ⟨r, o, vs.toArray, rfl, this, .agg _ _ h1⟩
          · cases e
        · cases e
      · cases e
  · cases e

theorem run_und {t : TypeId} {d : TypeDesc} (e : und P t = some d) : (underlying t).run P w = .ok d w := run_underlying e w
theorem run_size {t : TypeId} {n : Nat} (e : size P t = some n) : (sizeOf t).run P w = .ok n w := by
  unfold size at e
  split at e
  · rename_i i hi; cases e; simp [sizeOf, typeInfo, hi]
  · cases e
theorem run_agg {t : TypeId} {b : Bool} (e : isAgg P t = some b) : (Go.isAgg t).run P w = .ok b w := by
  unfold isAgg at e
  unfold Go.isAgg
  split at e
  · rename_i hu; cases e; simp [run_underlying hu]
  · rename_i hu; cases e; simp [run_underlying hu]
  · rename_i d h1 h2 hu
    cases e
    simp only [Sem.run_bind, run_underlying hu, Result.andThen_ok]
    cases d <;> simp_all
  · cases e
theorem run_zero {t : TypeId} {z : AV} (e : zeroA P t = some z) : ∃ v, (zeroValue t).run P w = .ok v w ∧ Is E z v := by
  unfold zeroA at e
  split at e
  · rename_i i hi
    split at e
    · rename_i v hv; exact ⟨v, by simp [zeroValue, typeInfo, hi, hv], ofValue_is E v z e⟩
    · cases e
  · cases e
theorem loadVar_ok (s : St P w0 E h nx w) {t : TypeId} {a v : AV} {x : Value} (e : loadA P h t (some a) = some v) (ha : Is E a x) :
    ∃ r o y, x = .pointer (some ⟨r, o, none⟩) ∧ (loadVar t ⟨r, o, none⟩).run P w = .ok y w ∧ Is E v y := by
  unfold loadA at e
  split at e
  · rename_i n h1 h2
    obtain ⟨r, o, y, rfl, k1, k2⟩ := ldN_ok s e ha
    exact ⟨r, o, .agg y, rfl, by simp [loadVar, run_agg h1, run_size h2, k1], k2⟩
  · rename_i h1
    obtain ⟨r, o, y, rfl, k1, k2⟩ := ld1_ok s e ha
    exact ⟨r, o, y, rfl, by simp [loadVar, run_agg h1]; simpa using k1, k2⟩
  · cases e

/-! ### writing -/
theorem RowIs.set {arr : Array Value} {n o : Nat} {c : T AV} (hr : RowIs E n c arr) {l : List AV} {vs : List Value} (hl : IsL E l vs) (ho : o + l.length ≤ n) :
    RowIs E n (setAll c o l) (arr.toList.take o ++ vs ++ arr.toList.drop (o + vs.length)).toArray := by
  have hlen := hl.length
  have hn := hr.1
  refine ⟨by simp; omega, fun k v hk e => ?_⟩
  rw [get_setAll] at e
  split at e
  · rename_i hko
    obtain ⟨x, h1, h2⟩ := hl.get _ v e
    refine ⟨x, ?_, h2⟩
    have e1 : (List.take o arr.toList).length = o := by simp; omega
    simp only [List.getElem?_toArray, List.append_assoc]
    rw [List.getElem?_append_right (by omega), e1, List.getElem?_append_left (by omega)]
    exact h1
  · rename_i hko
    obtain ⟨x, h1, h2⟩ := hr.2 k v hk e
    refine ⟨x, ?_, h2⟩
    have e1 : (List.take o arr.toList).length = o := by simp; omega
    simp only [List.getElem?_toArray, List.append_assoc]
    rcases Nat.lt_or_ge k o with hlt | hge
    · rw [List.getElem?_append_left (by omega), List.getElem?_take_of_lt hlt]; simpa using h1
    · rw [List.getElem?_append_right (by omega), e1, List.getElem?_append_right (by omega), List.getElem?_drop]
      rw [show o + vs.length + (k - o - vs.length) = k by omega]; simpa using h1
theorem storeA_ok (s : St P w0 E h nx w) {b o r : Nat} {l : List AV} {vs : List Value} {h' : T AB} (hb : E.at_ b = some r) (e : storeA h b o l = some h') (hl : IsL E l vs) (hf : allFlat l = true) :
    ∃ w', (storeCells ⟨r, o, none⟩ vs).run P w = .ok () w' ∧ St P w0 E h' nx w' ∧ Ext E h nx E h' nx := by
  unfold storeA at e
  split at e
  · rename_i n c op t hg
    split at e
    · rename_i hle
      cases e
      obtain ⟨ob, h1, arr, rfl, h2, h3, h4, h5⟩ := s.obj b r _ hb hg
      have hle' : o + l.length ≤ n := ble_le hle
      have hlen := hl.length
      have hrun := run_storeCells_at P r o t vs 0 arr w h1 (by omega) (flat_all s.flat hl hf)
      have hown : w0.heap.size ≤ r := by
        rcases s.own b r _ hb hg with ⟨_, _, q⟩ | q
        · cases q
        · exact q
      have hrow := RowIs.set (E := E) ⟨h2, h5⟩ hl hle'
      refine ⟨_, hrun, ?_, Ext.turn s _ hb⟩
      refine s.turn hb hown ⟨_, hg, by simp⟩ (setRow_size ..) (setRow_heap w r arr _ t (0, 0) h1) (fun k hk => setRow_other w r k _ hk) rfl rfl rfl ?_
      have hsz : (arr.toList.take (o + 0) ++ vs ++ arr.toList.drop (o + 0 + vs.length)).toArray.size = arr.size := by simp; omega
      exact ⟨_, rfl, by rw [hsz]; exact h2, fun q => by rw [hsz]; exact h3 q, fun q => by rw [hsz]; exact h4 q, by simpa using hrow.2⟩
    · cases e
  · cases e
end Go.Ev
