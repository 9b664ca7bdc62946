/- A certified evaluator of closed calls, part P5. -/
import Derived.Test.YthmaejcpadoljaaGreatEvP4
import Derived.ChangeKeysEq
import Derived.Laws.StructEq
namespace Go.Ev
open Go Go.RowKit
set_option linter.unusedVariables false
set_option linter.unusedSimpArgs false
variable {P : Program} {w0 : World} {E : Env} {h : T AB} {nx : Nat} {w : World}

/-! ### texts -/
def u8 (l : List Nat) : List UInt8 := l.map UInt8.ofNat
theorem byts_data (l : List Nat) : (byts l).data.toList = u8 l := by simp [byts, u8]
theorem byts_toList (l : List Nat) : (byts l).toList = u8 l := by rw [ByteArray.toList_eq, byts_data]
theorem byts_size (l : List Nat) : (byts l).size = l.length := by simp [byts, ByteArray.size]
theorem ofNat_inj {a b : Nat} (ha : a < 256) (hb : b < 256) : UInt8.ofNat a = UInt8.ofNat b ↔ a = b := by
  constructor
  · intro e
    have := congrArg UInt8.toNat e
    simpa [UInt8.toNat_ofNat, Nat.mod_eq_of_lt ha, Nat.mod_eq_of_lt hb] using this
  · rintro rfl; rfl
theorem ofNat_lt {a b : Nat} (ha : a < 256) (hb : b < 256) : UInt8.ofNat a < UInt8.ofNat b ↔ a < b := by
  rw [UInt8.lt_iff_toNat_lt]
  simp [UInt8.toNat_ofNat, Nat.mod_eq_of_lt ha, Nat.mod_eq_of_lt hb]
theorem bytesEq_u8 : ∀ (a b : List Nat), (∀ x ∈ a, x < 256) → (∀ x ∈ b, x < 256) → bytesEq a b = (u8 a == u8 b)
  | [], [], _, _ => rfl
  | [], _ :: _, _, _ => rfl
  | _ :: _, [], _, _ => rfl
  | a :: x, b :: y, ha, hb => by
    have ih := bytesEq_u8 x y (fun c hc => ha c (by simp [hc])) (fun c hc => hb c (by simp [hc]))
    have h1 := ofNat_inj (ha a (by simp)) (hb b (by simp))
    simp only [bytesEq, ih, u8, List.map_cons, List.cons_beq_cons]
    congr 1
    rw [Bool.eq_iff_iff, Nat.beq_eq, beq_iff_eq, h1]
theorem bytesLt_u8 : ∀ (a b : List Nat), (∀ x ∈ a, x < 256) → (∀ x ∈ b, x < 256) → bytesLt a b = Op.bytesLess (u8 a) (u8 b)
  | [], [], _, _ => rfl
  | [], _ :: _, _, _ => rfl
  | _ :: _, [], _, _ => rfl
  | a :: x, b :: y, ha, hb => by
    have ih := bytesLt_u8 x y (fun c hc => ha c (by simp [hc])) (fun c hc => hb c (by simp [hc]))
    have h1 := ofNat_inj (ha a (by simp)) (hb b (by simp))
    have h2 := ofNat_lt (ha a (by simp)) (hb b (by simp))
    simp only [bytesLt, ih, u8, List.map_cons, Op.bytesLess]
    congr 1
    · rw [Bool.eq_iff_iff, Nat.ble_eq, decide_eq_true_eq, h2]
      exact Nat.succ_le_iff
    · congr 1
      rw [Bool.eq_iff_iff, Nat.beq_eq, beq_iff_eq, h1]
theorem less_total : ∀ (x y : List UInt8), (Op.bytesLess x y || x == y) = !(Op.bytesLess y x)
  | [], [] => rfl
  | _ :: _, [] => rfl
  | [], _ :: _ => rfl
  | a :: x, b :: y => by
    have ih := less_total x y
    simp only [Op.bytesLess, List.cons_beq_cons]
    have hsym : (b == a) = (a == b) := BEq.comm
    rw [hsym]
    rcases Nat.lt_trichotomy a.toNat b.toNat with q | q | q
    · have h1 : a < b := UInt8.lt_iff_toNat_lt.2 q
      have h2 : ¬ b < a := by rw [UInt8.lt_iff_toNat_lt]; omega
      have h3 : (a == b) = false := by rw [beq_eq_false_iff_ne]; rintro rfl; omega
      simp [h1, h2, h3]
    · have e : a = b := UInt8.toNat_inj.1 q
      subst e
      have h2 : ¬ a < a := by rw [UInt8.lt_iff_toNat_lt]; omega
      simp only [h2, decide_false, beq_self_eq_true, Bool.true_and, Bool.false_or]
      exact ih
    · have h1 : ¬ a < b := by rw [UInt8.lt_iff_toNat_lt]; omega
      have h2 : b < a := UInt8.lt_iff_toNat_lt.2 q
      have h3 : (a == b) = false := by rw [beq_eq_false_iff_ne]; rintro rfl; omega
      simp [h1, h2, h3]
theorem str_ok {op : BinOp} {a b : List Nat} {v : AV} (ha : ∀ x ∈ a, x < 256) (hb : ∀ x ∈ b, x < 256) (e : strOp op a b = some v) :
    ∃ x, (Op.stringOp op (byts a) (byts b)).run P w = .ok x w ∧ Is E v x := by
  unfold strOp at e
  split at e
  · split at e
    · rename_i hle
      cases e
      have hle : a.length + b.length ≤ 1048576 := ble_le hle
      have h1 : ¬ ((((byts a).size + (byts b).size : Nat) : Int) > IntKind.i64.max) := by
        rw [byts_size, byts_size]
        have : IntKind.i64.max = 9223372036854775807 := by decide
        rw [this]; omega
      refine ⟨.string (byts a ++ byts b), by simp only [Op.stringOp, Sem.run_ite, if_neg h1, Sem.run_pure], ?_⟩
      have : byts a ++ byts b = byts (a ++ b) := by
        apply ByteArray.ext
        simp [byts, ByteArray.data_append]
      rw [this]
      exact .s _ (fun x hx => by rcases List.mem_append.1 hx with q | q; exact ha x q; exact hb x q)
    · cases e
  · cases e; exact ⟨_, by simp only [Op.stringOp, Sem.run_pure, byts_toList, ← bytesEq_u8 a b ha hb], .b _⟩
  · cases e; exact ⟨_, by simp only [Op.stringOp, Sem.run_pure, byts_toList, ← bytesEq_u8 a b ha hb], .b _⟩
  · cases e; exact ⟨_, by simp only [Op.stringOp, Sem.run_pure, byts_toList, ← bytesLt_u8 a b ha hb], .b _⟩
  · cases e; exact ⟨_, by simp only [Op.stringOp, Sem.run_pure, byts_toList, less_total, ← bytesLt_u8 b a hb ha], .b _⟩
  · cases e; refine ⟨.bool (bytesLt b a), ?_, .b _⟩
    simp only [Op.stringOp, Sem.run_pure, byts_toList, less_total, ← bytesLt_u8 b a hb ha, Bool.not_not]
  · cases e; exact ⟨_, by simp only [Op.stringOp, Sem.run_pure, byts_toList, ← bytesLt_u8 a b ha hb], .b _⟩
  · cases e

/-! ### parts -/
theorem part_ok {t : TypeId} {l : List AV} {o : Nat} {v : AV} {vs : List Value} (e : part P t l o = some v) (hl : IsL E l vs) :
    ∃ x, (Go.part t vs.toArray o).run P w = .ok x w ∧ Is E v x := by
  unfold part at e
  split at e
  · rename_i n h1 h2
    split at e
    · rename_i r hr
      cases e
      unfold sub at hr
      split at hr
      · cases hr
        refine ⟨.agg (vs.toArray.extract o (o + n)), by simp [Go.part, run_agg h1, run_size h2], ?_⟩
        have : vs.toArray.extract o (o + n) = ((vs.drop o).take n).toArray := by
          apply Array.ext'
          simp [List.extract_eq_take_drop, Nat.add_sub_cancel_left]
        rw [this]
        exact .agg _ _ ((hl.drop o).take n)
      · cases hr
    · cases e
  · rename_i h1
    obtain ⟨x, k1, k2⟩ := hl.get o v e
    exact ⟨x, by simp [Go.part, run_agg h1, k1], k2⟩
  · cases e

/-! ### '==' -/
theorem live_ok (s : St P w0 E h nx w) {b r : Nat} (hb : E.at_ b = some r) (e : live h b = true) : ∃ arr t, w.heap[r]? = some (.cells arr t (0, 0)) ∧ h.get b ≠ some .dead := by
  unfold live at e
  split at e
  · rename_i n c op t hg
    obtain ⟨o, h1, arr, rfl, _⟩ := s.obj b r _ hb hg
    exact ⟨arr, _, h1, by rw [hg]; simp⟩
  · cases e
theorem mayBeOne_no {a b : Addr} {xa xb : Array Value} {ta tb : TypeId} (ha : w.heap[a.block]? = some (.cells xa ta (0, 0))) (hb : w.heap[b.block]? = some (.cells xb tb (0, 0))) :
    (mayBeOne a b).run P w = .ok false w := by
  simp [mayBeOne, stringish, World.frozen?, World.shape?, ha, hb]
theorem noView_ok {a : Addr} {xa : Array Value} {ta : TypeId} {fz : Nat × Nat} (ha : w.heap[a.block]? = some (.cells xa ta fz)) : (noView a).run P w = .ok () w := by
  simp [noView, viewAt, World.shape?, ha]
theorem sameAddr_ok (s : St P w0 E h nx w) {a i b j ra rb : Nat} {q : Bool} (e : eqPtr h a i b j = some q) (ha : E.at_ a = some ra) (hb : E.at_ b = some rb) :
    (sameAddr ⟨ra, i, none⟩ ⟨rb, j, none⟩).run P w = .ok q w := by
  unfold eqPtr at e
  split at e
  · rename_i hab
    have := beq_eq hab; subst this
    rw [ha] at hb; cases hb
    cases e
    have : ((⟨ra, i, none⟩ : Addr) == ⟨ra, j, none⟩) = Nat.beq i j := by
      rw [Bool.eq_iff_iff, Nat.beq_eq]; simp
    simp [sameAddr, this]
  · rename_i hab
    have hne := not_beq hab
    split at e
    · rename_i l1 l2
      cases e
      obtain ⟨xa, ta, ga, da⟩ := live_ok s ha l1
      obtain ⟨xb, tb, gb, db⟩ := live_ok s hb l2
      have hr : ra ≠ rb := by
        rintro rfl
        unfold live at l1 l2
        split at l1
        · rename_i g1
          split at l2
          · rename_i g2
            exact hne (s.inj a b ra _ _ ha hb g1 g2 (by simp) (by simp))
          · cases l2
        · cases l1
      have n1 := noView_ok (P := P) (a := ⟨ra, i, none⟩) ga
      have n2 := noView_ok (P := P) (a := ⟨rb, j, none⟩) gb
      have n3 := mayBeOne_no (P := P) (a := ⟨ra, i, none⟩) (b := ⟨rb, j, none⟩) ga gb
      simp [sameAddr, hr, World.frozen?, ga, gb, n1, n2, n3]
    · cases e

theorem eqFs_ok {D : Nat} {eq : TypeId → AV → AV → Option Bool}
    (heq : ∀ t x y r vx vy, eq t x y = some r → Is E x vx → Is E y vy → (Op.equalIn D t vx vy).run P w = .ok r w) {xs ys : List AV} {vs ws : List Value} (h1 : IsL E xs vs) (h2 : IsL E ys ws) :
    ∀ (fs : List Field) (r : Bool), eqFs P eq xs ys fs = some r → (Op.eqFields D vs.toArray ws.toArray fs).run P w = .ok r w
  | [], r, e => by simp [eqFs] at e; subst e; simp [Op.eqFields]
  | f :: fs, r, e => by
    rw [eqFs] at e
    rw [Op.eqFields]
    split at e
    · rename_i hn
      simp only [hn, ne_eq, not_true_eq_false, if_false]
      exact eqFs_ok heq h1 h2 fs r e
    · rename_i hn
      simp only [ne_eq, hn, not_false_eq_true, if_true]
      split at e
      · rename_i x y hx hy
        obtain ⟨vx, k1, i1⟩ := part_ok (w := w) hx h1
        obtain ⟨vy, k2, i2⟩ := part_ok (w := w) hy h2
        simp only [Sem.run_bind, k1, k2, Result.andThen_ok]
        split at e
        · rename_i hr
          simp only [heq _ _ _ _ _ _ hr i1 i2, Result.andThen_ok, Bool.not_true, Bool.false_eq_true, if_false]
          exact eqFs_ok heq h1 h2 fs r e
        · rename_i r' hr hne
          cases hq : eq f.type x y with
          | none => rw [hq] at e; cases e
          | some q =>
            rw [hq] at e; cases e
            cases r with
            | true => exact absurd hq hne
            | false => simp only [heq _ _ _ _ _ _ hq i1 i2, Result.andThen_ok, Bool.not_false, if_true, Sem.run_pure]
      · cases e
theorem eqEs_ok {D : Nat} {eq : TypeId → AV → AV → Option Bool}
    (heq : ∀ t x y r vx vy, eq t x y = some r → Is E x vx → Is E y vy → (Op.equalIn D t vx vy).run P w = .ok r w) {xs ys : List AV} {vs ws : List Value} (h1 : IsL E xs vs) (h2 : IsL E ys ws) (t : TypeId) (m : Nat) :
    ∀ (n i : Nat) (r : Bool), eqEs P eq t m xs ys n i = some r → (Op.eqItems D t m vs.toArray ws.toArray (List.range' i n)).run P w = .ok r w
  | 0, i, r, e => by simp [eqEs] at e; subst e; simp [Op.eqItems]
  | n + 1, i, r, e => by
    rw [eqEs] at e
    rw [List.range'_succ, Op.eqItems]
    split at e
    · rename_i x y hx hy
      obtain ⟨vx, k1, i1⟩ := part_ok (w := w) hx h1
      obtain ⟨vy, k2, i2⟩ := part_ok (w := w) hy h2
      simp only [Sem.run_bind, k1, k2, Result.andThen_ok]
      split at e
      · rename_i hr
        simp only [heq _ _ _ _ _ _ hr i1 i2, Result.andThen_ok, Bool.not_true, Bool.false_eq_true, if_false]
        exact eqEs_ok heq h1 h2 t m n (i + 1) r e
      · rename_i r' hr hne
        cases hq : eq t x y with
        | none => rw [hq] at e; cases e
        | some q =>
          rw [hq] at e; cases e
          cases r with
          | true => exact absurd hq hne
          | false => simp only [heq _ _ _ _ _ _ hq i1 i2, Result.andThen_ok, Bool.not_false, if_true, Sem.run_pure]
    · cases e

theorem size_info {t : TypeId} {n : Nat} (e : size P t = some n) : ∃ i, P.info? t = some i ∧ i.size = n := by
  unfold size at e
  split at e
  · rename_i i hi; cases e; exact ⟨i, hi, rfl⟩
  · cases e
theorem eq_sl1 {D t el : Nat} (hu : P.underlying t = some (.slice el)) {a : Option Addr} {l c : Nat} : (Op.equalIn (D + 1) t (.slice none 0 0) (.slice a l c)).run P w = .ok a.isNone w := by
  simp [Op.equalIn, run_underlying hu]
theorem eq_sl2 {D t el : Nat} (hu : P.underlying t = some (.slice el)) {a : Addr} {l c : Nat} : (Op.equalIn (D + 1) t (.slice (some a) l c) (.slice none 0 0)).run P w = .ok false w := by
  simp [Op.equalIn, run_underlying hu]
theorem eq_mp1 {D t k el : Nat} (hu : P.underlying t = some (.map k el)) {a : Option Nat} : (Op.equalIn (D + 1) t (.map none) (.map a)).run P w = .ok a.isNone w := by
  simp [Op.equalIn, run_underlying hu]
theorem eq_mp2 {D t k el : Nat} (hu : P.underlying t = some (.map k el)) {a : Nat} : (Op.equalIn (D + 1) t (.map (some a)) (.map none)).run P w = .ok false w := by
  simp [Op.equalIn, run_underlying hu]
theorem eqv_ok (s : St P w0 E h nx w) : ∀ (d : Nat) (t : TypeId) (x y : AV) (r : Bool), eqv P h d t x y = some r → ∀ (D : Nat), d ≤ D → ∀ vx vy, Is E x vx → Is E y vy →
    (Op.equalIn D t vx vy).run P w = .ok r w
  | 0, t, x, y, r, e, _, _, _, _, _, _ => by simp [eqv] at e
  | d + 1, t, x, y, r, e, D, hD, vx, vy, ix, iy => by
    obtain ⟨D, rfl⟩ : ∃ D', D = D' + 1 := ⟨D - 1, by omega⟩
    unfold eqv at e
    split at e
    · rename_i hu
      have hu : P.underlying t = _ := hu
      split at e
      · cases ix; cases iy; cases e; exact run_equalIn_bool w D t _ _ hu
      · cases e
    · rename_i kk hu
      have hu : P.underlying t = _ := hu
      split at e
      · split at e
        · rename_i hk; subst hk; cases ix; cases iy; cases e; rw [eqI_iff]; exact run_equalIn_int w D t _ _ _ _ hu
        · cases e
      · cases e
    · rename_i hu
      have hu : P.underlying t = _ := hu
      split at e
      · cases ix with | s _ h1 => cases iy with | s _ h2 => cases e; rw [run_equalIn_string w D t _ _ hu, byts_toList, byts_toList, bytesEq_u8 _ _ h1 h2]
      · cases e
    · rename_i el hu
      have hu : P.underlying t = _ := hu
      split at e
      · cases ix; cases iy; cases e; simp [Op.equalIn, run_underlying hu]
      · cases ix; cases iy; cases e; simp [Op.equalIn, run_underlying hu]
      · cases ix; cases iy; cases e; simp [Op.equalIn, run_underlying hu]
      · split at e
        · rename_i q hq
          cases ix with | ptr _ _ ra ha => cases iy with | ptr _ _ rb hb =>
          have := sameAddr_ok s e ha hb
          simp [Op.equalIn, run_underlying hu, run_size hq, this]
        · cases e
      · cases e
    · rename_i ms hu
      have hu : P.underlying t = _ := hu
      split at e
      · cases ix; cases iy; cases e; simp [Op.equalIn, run_underlying hu]
      · cases ix; cases iy; cases e; simp [Op.equalIn, run_underlying hu]
      · cases ix; cases iy; cases e; simp [Op.equalIn, run_underlying hu]
      · split at e
        · rename_i hab; subst hab
          split at e
          · rename_i i hi
            split at e
            · rename_i hc
              cases ix with | ifc _ _ _ h1 => cases iy with | ifc _ _ _ h2 =>
              have := eqv_ok s d _ _ _ _ e D (by omega) _ _ h1 h2
              simp [Op.equalIn, run_underlying hu, typeInfo, hi, hc, this]
            · cases e
          · cases e
        · rename_i hab
          cases ix; cases iy; cases e; simp [Op.equalIn, run_underlying hu, hab]
      · cases e
    · rename_i fs hu
      have hu : P.underlying t = _ := hu
      split at e
      · split at e
        · cases e
        · rename_i hst
          obtain ⟨vs, rfl, h1⟩ := is_agg ix
          obtain ⟨ws, rfl, h2⟩ := is_agg iy
          have hf : P.fieldsOf t = fs := by simp [Program.fieldsOf, hu]
          rw [run_equalIn_struct w D t _ _ (by rw [hf]; exact hu) (by simpa using hst), hf]
          exact eqFs_ok (fun t x y r vx vy q a b => eqv_ok s d t x y r q D (by omega) vx vy a b) h1 h2 _ _ e
      · cases e
    · rename_i n el hu
      have hu : P.underlying t = _ := hu
      split at e
      · split at e
        · rename_i m hm
          obtain ⟨i, hi, him⟩ := size_info hm
          obtain ⟨vs, rfl, h1⟩ := is_agg ix
          obtain ⟨ws, rfl, h2⟩ := is_agg iy
          have hc : P.cellsOf el = m := by simp [Program.cellsOf, hi, him]
          rw [run_equalIn_array w D _ _ hu hi, hc, List.range_eq_range']
          exact eqEs_ok (fun t x y r vx vy q a b => eqv_ok s d t x y r q D (by omega) vx vy a b) h1 h2 _ _ _ _ _ e
        · cases e
      · cases e
    · rename_i el hu
      have hu : P.underlying t = _ := hu
      split at e
      · cases ix; cases iy; cases e; exact eq_sl1 hu
      · cases e; cases ix; cases iy <;> exact eq_sl1 hu
      · cases e; cases iy; cases ix <;> exact eq_sl2 hu
      · cases ix; cases iy; cases e; exact eq_sl1 hu
      · cases ix; cases iy; cases e; exact eq_sl2 hu
      · cases e
    · rename_i k el hu
      have hu : P.underlying t = _ := hu
      split at e
      · cases ix; cases iy; cases e; exact eq_mp1 hu
      · cases ix; cases iy; cases e; exact eq_mp1 hu
      · cases ix; cases iy; cases e; exact eq_mp2 hu
      · cases e
    · rename_i a b c hu
      have hu : P.underlying t = _ := hu
      split at e
      · cases ix; cases iy; cases e; simp [Op.equalIn, run_underlying hu]
      · cases ix; cases iy; cases e; simp [Op.equalIn, run_underlying hu]
      · cases ix; cases iy; cases e; simp [Op.equalIn, run_underlying hu]
      · cases e
    · cases e
end Go.Ev
