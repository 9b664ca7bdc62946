/- lex: Text; the definition's. · Commands as lines: what a command is written as; written and read again. No function of the program is named here. -/
import Derived.Test.YtpehinmckppjoaaGreatDoorWRfStB
import Derived.Test.YtpehinmckppjoaaGreatDoorWPsMath
namespace Go.Proofs.YtpehinmckppjoaaGreatDoor
open Go Go.RowKit Go.Maps
set_option linter.unusedSimpArgs false
set_option linter.unusedVariables false

def blankB : ByteArray := ⟨#[32]⟩
def sizes (l : List ByteArray) : Nat := (l.map (·.size)).sum
theorem joinB_le (sep : ByteArray) (l : List ByteArray) : (joinB sep l).size ≤ sizes l + l.length * sep.size := by
  rw [joinB_size]
  unfold datas sizes
  have h4 : ∀ s : ByteArray, s.data.toList.length = s.size := fun s => by rw [Array.length_toList]; rfl
  have : ∀ xs : List ByteArray, (sep.data.toList.intercalate (xs.map (·.data.toList))).length ≤ (xs.map (·.size)).sum + xs.length * sep.size := by
    intro xs
    induction xs with
    | nil => rw [List.map_nil, join_nil]; simp
    | cons x r ih =>
      cases r with
      | nil => rw [List.map_cons, List.map_nil, join_one, h4]; simp
      | cons y t =>
        rw [List.map_cons, List.map_cons, join_cons2, List.length_append, List.length_append, h4, h4]
        rw [List.map_cons (l := t)] at ih
        show _ ≤ (x.size + ((y :: t).map (·.size)).sum) + ((y :: t).length + 1) * sep.size
        rw [Nat.add_mul]
        omega
  exact this l
end Go.Proofs.YtpehinmckppjoaaGreatDoor
namespace Go.Proofs.YtpehinmckppjoaaGreatDoor
open Go.RowKit Go.Maps
set_option linter.unusedSimpArgs false
set_option linter.unusedVariables false

theorem nameB_mem {t : ByteArray} (h : nameB t = true) {c : UInt8} (hc : c ∈ t.data.toList) : okB (c.toNat : Int) = true := by
  unfold nameB at h
  simp only [Bool.and_eq_true, decide_eq_true_eq] at h
  obtain ⟨i, hi, rfl⟩ := List.mem_iff_getElem.1 hc
  have hi' : i < t.size := by rw [Array.length_toList] at hi; exact hi
  have := h.2 i hi'
  rw [bat_get t i hi'] at this
  exact this
theorem name_no32 {t : ByteArray} (h : nameB t = true) : (32 : UInt8) ∉ t.data.toList := fun hc => absurd (nameB_mem h hc) (by decide)
theorem name_no47 {t : ByteArray} (h : nameB t = true) : (47 : UInt8) ∉ t.data.toList := fun hc => absurd (nameB_mem h hc) (by decide)
theorem name_head {t : ByteArray} (h : nameB t = true) : ∃ c r, t.data.toList = c :: r ∧ letB (c.toNat : Int) = true := by
  unfold nameB at h
  simp only [Bool.and_eq_true, decide_eq_true_eq] at h
  have h1 := h.1.2
  rw [bat_get t 0 (by omega)] at h1
  cases hl : t.data.toList with
  | nil =>
    have : t.data.toList.length = t.size := data_len t
    rw [hl] at this
    simp at this
    omega
  | cons c r =>
    refine ⟨c, r, rfl, ?_⟩
    have : t[0]'(by omega) = c := by
      have e : t.data.toList[0]? = some c := by rw [hl]; rfl
      rw [List.getElem?_eq_getElem (by rw [hl]; simp)] at e
      have e2 : t.data[0]'(by have : 0 < t.size := by omega
                              exact this) = c := by simpa using e
      exact e2
    rw [this] at h1
    exact h1
theorem u8s_num (v : Int) : (numS v).data.toList = u8s (numL v) := str_data _
theorem num_byte (v : Int) {c : UInt8} (hc : c ∈ (numS v).data.toList) : c = 45 ∨ (48 ≤ c.toNat ∧ c.toNat ≤ 57) := by
  rw [u8s_num] at hc
  unfold u8s at hc
  obtain ⟨x, hx, rfl⟩ := List.mem_map.1 hc
  have hd : x = 45 ∨ (48 ≤ x ∧ x ≤ 57) := by
    unfold numL at hx
    split at hx
    · rcases List.mem_cons.1 hx with rfl | hx
      · exact Or.inl rfl
      · exact Or.inr (digs_dig _ x hx)
    · exact Or.inr (digs_dig _ x hx)
  rcases hd with rfl | hd
  · exact Or.inl rfl
  · refine Or.inr ?_
    have := u8_val (c := x) (by unfold isB; omega)
    omega
theorem num_no32 (v : Int) : (32 : UInt8) ∉ (numS v).data.toList := fun hc => by
  rcases num_byte v hc with h | h
  · exact absurd h (by decide)
  · exact absurd h.1 (by decide)
theorem num_ne (v : Int) : (numS v).data.toList ≠ [] := by
  rw [u8s_num]
  unfold u8s
  intro h
  have h1 := congrArg List.length h
  rw [List.length_map] at h1
  have h2 := (numL_head v).1
  rw [h1] at h2
  exact absurd h2 (by decide)
theorem let_no {s : ByteArray} {c : UInt8} {r : List UInt8} (h : s.data.toList = c :: r) (hc : letB (c.toNat : Int) = true) : ¬ isNum s := by
  intro hn
  have h1 : c ∈ (numS (refV s)).data.toList := by rw [hn.1, h]; simp
  have h2 := num_byte _ h1
  have : 65 ≤ c.toNat := by
    unfold letB at hc
    simp at hc
    omega
  rcases h2 with rfl | h2
  · exact absurd this (by decide)
  · omega
theorem name_num {t : ByteArray} (h : nameB t = true) : ¬ isNum t := by
  obtain ⟨c, r, h1, h2⟩ := name_head h
  exact let_no h1 h2
theorem name_ne {t : ByteArray} (h : nameB t = true) : t.data.toList ≠ [] := by
  obtain ⟨c, r, h1, h2⟩ := name_head h
  rw [h1]; simp
theorem rdK_name {t : ByteArray} (h : nameB t = true) : rdK t = 1 := by unfold rdK; rw [if_neg (name_num h), if_pos h]
theorem rdK_1 {t : ByteArray} (h : rdK t = 1) : nameB t = true := by
  unfold rdK at h
  split at h
  · omega
  · split at h
    · assumption
    · split at h <;> omega
theorem rdK_2 {t : ByteArray} (h : rdK t = 2) : isNum t := by
  unfold rdK at h
  split at h
  · assumption
  · split at h
    · omega
    · split at h <;> omega
theorem rdK_3 {t : ByteArray} (h : rdK t = 3) : cellB t = true ∧ rdP t = slP t := by
  unfold rdK at h
  unfold rdP
  split at h
  · omega
  · split at h
    · omega
    · rename_i h1 h2
      split at h
      · rename_i h3
        rw [if_neg h1, if_neg h2, if_pos h3]
        exact ⟨h3, rfl⟩
      · omega
theorem isNum_num {v : Int} (hv : isI v) : isNum (numS v) := ⟨by rw [refV_num v hv], numS_size v hv⟩
theorem rdK_num {v : Int} (hv : isI v) : rdK (numS v) = 2 ∧ rdN (numS v) = v := by
  unfold rdK rdN
  rw [if_pos (isNum_num hv), if_pos (isNum_num hv)]
  exact ⟨rfl, refV_num v hv⟩
theorem num_rdN {t : ByteArray} (h : rdK t = 2) : numS (rdN t) = t ∧ isI (rdN t) := by
  have hn := rdK_2 h
  unfold rdN
  rw [if_pos hn]
  exact ⟨hn.1, refV_is t⟩
theorem slP_join {l : List ByteArray} (h0 : l ≠ []) (h : ∀ x ∈ l, nameB x = true) : slP (joinB slash l) = l := by
  rw [slP_spl]
  have e : (joinB slash l).data.toList = [47].intercalate (l.map (·.data.toList)) := by
    unfold joinB datas
    simp [slash]
  rw [e, spl_join 47 _ (by simpa using h0) (fun p hp => by
    obtain ⟨x, hx, rfl⟩ := List.mem_map.1 hp
    exact name_no47 (h x hx))]
  exact bstrs_datas l
theorem join_slP (t : ByteArray) : joinB slash (slP t) = t := by
  apply data_inj
  unfold joinB datas
  rw [slP_tie]
  show ([47].intercalate (spl 47 t.data.toList)) = _
  exact unspl 47 _
theorem cell_text {l : List ByteArray} (h2 : 2 ≤ l.length) (h : ∀ x ∈ l, nameB x = true) : rdK (joinB slash l) = 3 ∧ rdP (joinB slash l) = l := by
  have h0 : l ≠ [] := fun e => by rw [e] at h2; simp at h2
  have hs := slP_join h0 h
  have hc : cellB (joinB slash l) = true := by
    unfold cellB
    rw [hs, Bool.and_eq_true, decide_eq_true_eq, List.all_eq_true]
    exact ⟨by omega, h⟩
  have hn : ¬ nameB (joinB slash l) = true := fun e => by
    have h1 : slP (joinB slash l) = [joinB slash l] := by
      rw [slP_spl, spl_no (name_no47 e)]
      unfold bstrs
      rw [List.map_cons, List.map_nil, data_bstr]
    rw [hs] at h1
    rw [h1] at h2
    simp at h2
  have hm : ¬ isNum (joinB slash l) := by
    cases l with
    | nil => exact absurd rfl h0
    | cons x r =>
      obtain ⟨c, q, e1, e2⟩ := name_head (h x (List.mem_cons_self ..))
      cases r with
      | nil => simp at h2
      | cons y s =>
        refine let_no (c := c) (r := q ++ ([47] ++ [47].intercalate ((y :: s).map (·.data.toList)))) ?_ e2
        unfold joinB datas
        show ([47].intercalate (x.data.toList :: y.data.toList :: s.map (·.data.toList))) = _
        rw [join_cons2, e1]
        simp
  unfold rdK rdP
  rw [if_neg hm, if_neg hn, if_pos hc, if_neg hm, if_neg hn, if_pos hc]
  exact ⟨rfl, hs⟩
theorem cell_no32 {l : List ByteArray} (h : ∀ x ∈ l, nameB x = true) : (32 : UInt8) ∉ (joinB slash l).data.toList := by
  have : (joinB slash l).data.toList = [47].intercalate (l.map (·.data.toList)) := by
    unfold joinB datas
    simp [slash]
  rw [this]
  clear this
  induction l with
  | nil => simp [List.intercalate, List.intersperse]
  | cons x r ih =>
    have hr := ih fun y hy => h y (List.mem_cons_of_mem _ hy)
    have hx := name_no32 (h x (List.mem_cons_self ..))
    cases r with
    | nil => rw [List.map_cons, List.map_nil, join_one]; exact hx
    | cons y s =>
      rw [List.map_cons, List.map_cons, join_cons2]
      rw [List.map_cons] at hr
      intro hc
      rcases List.mem_append.1 hc with hc | hc
      · rcases List.mem_append.1 hc with hc | hc
        · exact hx hc
        · simp at hc
      · exact hr hc
theorem cell_ne {l : List ByteArray} (h2 : 2 ≤ l.length) (h : ∀ x ∈ l, nameB x = true) : (joinB slash l).data.toList ≠ [] := fun e => by
  have h1 := (cell_text h2 h).2
  have h3 : joinB slash l = ⟨#[]⟩ := data_inj (by rw [e])
  have := (cell_text h2 h).1
  rw [h3] at this
  exact absurd this (by decide +kernel)
/-! What a field is written as. -/
def atC (x : Cm) (k : Nat) : Int := if k = 0 then x.c1 else if k = 1 then x.c2 else if k = 2 then x.c3 else x.c4
section
variable (ms : List ByteArray) (ds : List Dm)
def cellW (x : Cm) : ByteArray := joinB slash (showL ms ds x.c0 (atC x) ds.length)
def pickW (ws : List ByteArray) (k : Int) : Option (List ByteArray) := if 0 ≤ k ∧ k < ws.length then some [msA ws k.toNat] else none
def chW (ws : List ByteArray) (k : Int) : Option (List ByteArray) := if k = 0 then some [] else pickW ws k
def catW (a b : Option (List ByteArray)) : Option (List ByteArray) := match a with
  | none => none
  | some l => match b with
    | none => none
    | some m => some (l ++ m)
def oneW (b : Int) (x : Cm) : Option (List ByteArray) :=
  if b = 117 ∨ b = 115 ∨ b = 111 then (if nameB (getT b x) = true then some [getT b x] else none)
  else if b = 99 then (if rightB ms ds x.c0 (atC x) = true then some [cellW ms ds x] else none)
  else if b = 110 then some [numS x.n]
  else if b = 104 then catW (chW spW x.h) (if x.h = 2 then pickW ms x.m else some [])
  else if b = 109 then chW mtW x.h
  else pickW (lbl ds) x.m
def foldW : List Int → Cm → Option (List ByteArray)
  | [], _ => some []
  | b :: bs, x => catW (oneW ms ds b x) (foldW bs x)
/-- A command's words; none: it has no line. -/
def writeP (x : Cm) : Option (List ByteArray) := if (kwI x.k).size = 0 then none else catW (some [kwI x.k]) (foldW ms ds (shapeL x.k) x)
/-- A command's line. -/
def lineP (x : Cm) : ByteArray × Int := match writeP ms ds x with
  | none => (⟨#[]⟩, 2)
  | some l => (joinB blankB l, 0)
end
/-- A field of a command, put into another. -/
def bareO (x : Cm) (y : Cm) (b : Int) : Cm :=
  if b = 117 ∨ b = 115 ∨ b = 111 then putT b (getT b x) y
  else if b = 99 then putC x.c0 x.c1 x.c2 x.c3 x.c4 y
  else if b = 110 then { y with n := x.n }
  else if b = 104 then (if x.h = 2 then { y with h := x.h, m := x.m } else { y with h := x.h })
  else if b = 109 then { y with h := x.h }
  else { y with m := x.m }
/-- A command without what its kind does not name. -/
def bareP (x : Cm) : Cm := (shapeL x.k).foldl (bareO x) { cm0 with k := x.k }
def isLet (b : Int) : Prop := b = 117 ∨ b = 115 ∨ b = 111 ∨ b = 99 ∨ b = 110 ∨ b = 104 ∨ b = 109 ∨ b = 100
/-- Choices stand last. -/
def lastC : List Int → Prop
  | [] => True
  | b :: bs => isLet b ∧ (b = 104 ∨ b = 109 → bs = []) ∧ (∀ c ∈ bs, c ≠ b ∧ ¬ (b = 100 ∧ c = 104)) ∧ lastC bs
theorem shape_cases (k : Int) : shapeL k = [117, 115, 99, 110, 104] ∨ shapeL k = [115, 99] ∨ shapeL k = [117, 115, 99] ∨ shapeL k = [115] ∨ shapeL k = [115, 111] ∨ shapeL k = [117, 115, 111, 109] ∨ shapeL k = [115, 99, 100] ∨ shapeL k = [115, 99, 110] ∨ shapeL k = [] := by
  unfold shapeL
  repeat' split
  all_goals simp
theorem shape_last (k : Int) : lastC (shapeL k) := by
  rcases shape_cases k with h | h | h | h | h | h | h | h | h <;> rw [h] <;> simp [lastC, isLet]
theorem bareO_k (x y : Cm) (b : Int) : (bareO x y b).k = y.k := by
  unfold bareO putT putC
  repeat' split
  all_goals rfl
theorem bareL_k (x : Cm) : ∀ (bs : List Int) (y : Cm), (bs.foldl (bareO x) y).k = y.k
  | [], _ => rfl
  | b :: bs, y => by rw [List.foldl_cons, bareL_k x bs, bareO_k]
theorem bareP_k (x : Cm) : (bareP x).k = x.k := bareL_k x _ _
theorem foldW_bare (ms : List ByteArray) (ds : List Dm) (x : Cm) : foldW ms ds (shapeL x.k) (bareP x) = foldW ms ds (shapeL x.k) x := by
  unfold bareP
  have e : ∀ y : Cm, atC y = fun k => if k = 0 then y.c1 else if k = 1 then y.c2 else if k = 2 then y.c3 else y.c4 := fun y => rfl
  rcases shape_cases x.k with h | h | h | h | h | h | h | h | h <;> rw [h]
  · by_cases h2 : x.h = 2 <;> simp [foldW, oneW, bareO, putT, getT, putC, cellW, e, h2]
  all_goals simp [foldW, oneW, bareO, putT, getT, putC, cellW, e]
theorem write_bare (ms : List ByteArray) (ds : List Dm) (x : Cm) : writeP ms ds (bareP x) = writeP ms ds x := by
  unfold writeP
  rw [bareP_k, foldW_bare]
end Go.Proofs.YtpehinmckppjoaaGreatDoor
