/- Nothing. · dims.Cell. · text.Join, for a seat whose alias is Try; strings.Join is laid by tools/joinshelf.sh. · dims.Show. · dims.Tree. -/
import Derived.Test.YtmmdfpafkmhgcaaGreatChecked
import Derived.Test.YtmmdfpafkmhgcaaGreatDims8B
namespace Go.Proofs.YtmmdfpafkmhgcaaGreat
end Go.Proofs.YtmmdfpafkmhgcaaGreat
namespace Go.Proofs.YtmmdfpafkmhgcaaGreat
open Go.RowKit Go.Maps
set_option linter.unusedSimpArgs false
set_option linter.unusedVariables false

def fdK (ds : List Dm) (xs : List ByteArray) (k : Nat) : Int := findI (dmL ds k) (msA xs k)
def atK (ds : List Dm) (xs : List ByteArray) (n : Nat) (j : Nat) : Int := if j < n then fdK ds xs j else 0
theorem atK_zero (ds : List Dm) (xs : List ByteArray) : (fun _ => 0) = atK ds xs 0 := by funext j; simp [atK]
/-- What Cell answers. -/
def CellIs (ms : List ByteArray) (ds : List Dm) (s : ByteArray) (xs : List ByteArray) (r : Value) (er : Int) : Prop :=
  (idxI ms s = -1 ∧ r = cellV 0 (fun _ => 0) ∧ er = 10) ∨ (idxI ms s ≠ -1 ∧ xs.length ≠ ds.length ∧ r = cellV 0 (fun _ => 0) ∧ er = 5) ∨
  (idxI ms s ≠ -1 ∧ xs.length = ds.length ∧ (∃ k, k < ds.length ∧ fdK ds xs k = -1) ∧ r = cellV 0 (fun _ => 0) ∧ er = 10) ∨
  (idxI ms s ≠ -1 ∧ xs.length = ds.length ∧ (∀ k, k < ds.length → fdK ds xs k ≠ -1) ∧ r = cellV (idxI ms s) (atK ds xs ds.length) ∧ er = 0)
def CellPost (w : World) (ms : List ByteArray) (ds : List Dm) (s : ByteArray) (xs : List ByteArray) (e : Ending) (w' : World) : Prop :=
  ∃ r er, e = .returned (.tuple #[r, .int .i64 er]) ∧ CellIs ms ds s xs r er ∧ Kept w w'
theorem cell_load {w : World} {g : Nat} {v0 v1 v2 v3 v4 : Value} (c0 : w.cell? ⟨g, 0, none⟩ = some v0) (c1 : w.cell? ⟨g, 1, none⟩ = some v1) (c2 : w.cell? ⟨g, 2, none⟩ = some v2) (c3 : w.cell? ⟨g, 3, none⟩ = some v3) (c4 : w.cell? ⟨g, 4, none⟩ = some v4) :
    (loadVar 28 ⟨g, 0, none⟩).run Tryz.prog w = .ok (.agg #[v0, v1, v2, v3, v4]) w := by
  have hl := run_loadCells_list (P := Tryz.prog) w ⟨g, 0, none⟩ [v0, v1, v2, v3, v4] (fun j v hv => by
    have hadd : (⟨g, 0, none⟩ : Addr).add j = ⟨g, j, none⟩ := by unfold Addr.add; split <;> simp_all
    rw [hadd]
    have : j = 0 ∨ j = 1 ∨ j = 2 ∨ j = 3 ∨ j = 4 := by
      have := (List.getElem?_eq_some_iff.1 hv).1
      simp at this
      omega
    rcases this with rfl | rfl | rfl | rfl | rfl <;> simp_all)
  have hi : (Tryz.prog.info? 28).map (·.size) = some 5 := by kernel_rfl
  obtain ⟨i, h1, h2⟩ := Option.map_eq_some_iff.1 hi
  simp only [List.length_cons, List.length_nil, Nat.reduceAdd] at hl
  simp [loadVar, Sem.run_bind, Tryz.isAgg28, sizeOf, typeInfo, h1, h2, hl]
theorem results_cell_tmp {P : Program} {fn : Func} {p : Tmp} {ty : TypeId} {u : Tmp} (h : fn.results = #[.cell p ty, .tmp u]) (tmps : Array Value) (w : World) (g : Nat) (v : Value)
    (hp : tmps.getD p undef = .pointer (some ⟨g, 0, none⟩)) (hg : (loadVar ty ⟨g, 0, none⟩).run P w = .ok v w) :
    (results fn tmps).run P w = .ok (.tuple #[v, tmps.getD u undef]) w := by
  have hp' : tmps[p]?.getD undef = .pointer (some ⟨g, 0, none⟩) := by simpa using hp
  simp [results, h, hp', asAddr, hg]
/-- The two blocks that Cell makes: its result's (zeros), and the cell's. -/
structure CB (w y : World) (ix : Int) (f : Nat → Int) : Prop where
  kept : Kept w y
  sz : w.heap.size + 2 ≤ y.heap.size
  z : ∀ j, j < 5 → y.cell? ⟨w.heap.size, j, none⟩ = some (.int .i64 0)
  zf : ∀ j, y.frozen? ⟨w.heap.size, j, none⟩ = false
  c0 : y.cell? ⟨w.heap.size + 1, 0, none⟩ = some (.int .i64 ix)
  c : ∀ j, j < 4 → y.cell? ⟨w.heap.size + 1, 1 + j, none⟩ = some (.int .i64 (f j))
  cf : ∀ j, y.frozen? ⟨w.heap.size + 1, j, none⟩ = false
theorem CB.mk0 (w : World) (ix : Int) (t : TypeId) : CB w ((w.alloc (.cells #[.int .i64 0, .int .i64 0, .int .i64 0, .int .i64 0, .int .i64 0] t)).alloc (.cells #[.int .i64 ix, .int .i64 0, .int .i64 0, .int .i64 0, .int .i64 0] t)) ix (fun _ => 0) where
  kept := ((Kept.refl w).alloc _).alloc _
  sz := by simp
  z := fun j hj => by
    have : j = 0 ∨ j = 1 ∨ j = 2 ∨ j = 3 ∨ j = 4 := by omega
    rcases this with rfl | rfl | rfl | rfl | rfl <;> simp
  zf := fun j => by simp
  c0 := by simp
  c := fun j hj => by
    have : j = 0 ∨ j = 1 ∨ j = 2 ∨ j = 3 := by omega
    rcases this with rfl | rfl | rfl | rfl <;> simp
  cf := fun j => by simp
theorem CB.keep {w y y' : World} {ix : Int} {f : Nat → Int} (h : CB w y ix f) (k : Kept y y') : CB w y' ix f where
  kept := h.kept.trans k
  sz := Nat.le_trans h.sz (Below.size k)
  z := fun j hj => k.cellp (h.z j hj)
  zf := fun j => by have := h.sz; rw [show y'.frozen? ⟨w.heap.size, j, none⟩ = y.frozen? ⟨w.heap.size, j, none⟩ from (Chg.of_kept (S := fun _ => False) k).frozen (p := ⟨w.heap.size, j, none⟩) (by show w.heap.size < _; omega) (fun e => e)]; exact h.zf j
  c0 := k.cellp h.c0
  c := fun j hj => k.cellp (h.c j hj)
  cf := fun j => by have := h.sz; rw [show y'.frozen? ⟨w.heap.size + 1, j, none⟩ = y.frozen? ⟨w.heap.size + 1, j, none⟩ from (Chg.of_kept (S := fun _ => False) k).frozen (p := ⟨w.heap.size + 1, j, none⟩) (by show w.heap.size + 1 < _; omega) (fun e => e)]; exact h.cf j
theorem CB.set {w y : World} {ix : Int} {f : Nat → Int} (h : CB w y ix f) (k : Nat) (hk : k < 4) (v : Int) : CB w (y.setCell ⟨w.heap.size + 1, 1 + k, none⟩ (.int .i64 v)) ix (fun j => if j = k then v else f j) := by
  have hz := h.sz
  have hc := (Chg.refl (· = w.heap.size + 1) y).setCell (p := ⟨w.heap.size + 1, 1 + k, none⟩) (.inl rfl) (.int .i64 v)
  refine ⟨Chg.kept h.kept hc (fun j e => by omega), Nat.le_trans hz hc.size, fun j hj => ?_, fun j => ?_, ?_, fun j hj => ?_, fun j => ?_⟩
  · rw [hc.cell (p := ⟨w.heap.size, j, none⟩) (by show w.heap.size < _; omega) (by show ¬ w.heap.size = _; omega)]; exact h.z j hj
  · rw [hc.frozen (p := ⟨w.heap.size, j, none⟩) (by show w.heap.size < _; omega) (by show ¬ w.heap.size = _; omega)]; exact h.zf j
  · rw [cell_set (h.c k hk), if_neg (by intro e; simp only [Addr.mk.injEq] at e; omega)]; exact h.c0
  · rw [cell_set (h.c k hk)]
    by_cases e : j = k
    · subst e; simp
    · rw [if_neg (by intro e'; simp only [Addr.mk.injEq] at e'; omega)]
      simp only [e, if_false]
      exact h.c j hj
  · rw [World.frozen?_setCell]; exact h.cf j
theorem set_row {y : World} {s : Nat} {g : Nat → Value} (h : ∀ j, j < 5 → y.cell? ⟨s, j, none⟩ = some (g j)) (k : Nat) (hk : k < 5) (v : Value) : ∀ j, j < 5 → (y.setCell ⟨s, k, none⟩ v).cell? ⟨s, j, none⟩ = some (if j = k then v else g j) := fun j hj => by
  rw [cell_set (h k hk)]
  by_cases e : j = k
  · subst e; simp
  · rw [if_neg (by intro e'; simp only [Addr.mk.injEq] at e'; omega), h j hj, if_neg e]
theorem CB.out {w y : World} {ix : Int} {f : Nat → Int} (h : CB w y ix f) (v0 v1 v2 v3 v4 : Value) :
    let W := ((((y.setCell ⟨w.heap.size, 0, none⟩ v0).setCell ⟨w.heap.size, 1, none⟩ v1).setCell ⟨w.heap.size, 2, none⟩ v2).setCell ⟨w.heap.size, 3, none⟩ v3).setCell ⟨w.heap.size, 4, none⟩ v4
    Kept w W ∧ W.cell? ⟨w.heap.size, 0, none⟩ = some v0 ∧ W.cell? ⟨w.heap.size, 1, none⟩ = some v1 ∧ W.cell? ⟨w.heap.size, 2, none⟩ = some v2 ∧ W.cell? ⟨w.heap.size, 3, none⟩ = some v3 ∧ W.cell? ⟨w.heap.size, 4, none⟩ = some v4 := by
  have hr := set_row (set_row (set_row (set_row (set_row h.z 0 (by omega) v0) 1 (by omega) v1) 2 (by omega) v2) 3 (by omega) v3) 4 (by omega) v4
  have hc := (((((Chg.refl (· = w.heap.size) y).setCell (p := ⟨w.heap.size, 0, none⟩) (.inl rfl) v0).setCell (p := ⟨w.heap.size, 1, none⟩) (.inl rfl) v1).setCell (p := ⟨w.heap.size, 2, none⟩) (.inl rfl) v2).setCell (p := ⟨w.heap.size, 3, none⟩) (.inl rfl) v3).setCell (p := ⟨w.heap.size, 4, none⟩) (.inl rfl) v4
  refine ⟨Chg.kept h.kept hc (fun j e => by omega), ?_, ?_, ?_, ?_, ?_⟩
  · simpa using hr 0 (by omega)
  · simpa using hr 1 (by omega)
  · simpa using hr 2 (by omega)
  · simpa using hr 3 (by omega)
  · simpa using hr 4 (by omega)
theorem cell_oth {w : World} {a b : Addr} {u : Value} (h : w.cell? b = some u) (hne : a.block ≠ b.block) (v : Value) : (w.setCell a v).cell? b = some u := (World.cell?_setCell_other _ _ _ _ (fun e => hne (by rw [e]))).trans h
end Go.Proofs.YtmmdfpafkmhgcaaGreat
namespace Go.Proofs.YtmmdfpafkmhgcaaGreat
open Go.RowKit Go.Maps
set_option linter.unusedSimpArgs false
set_option linter.unusedVariables false

def datas (l : List ByteArray) : List (List UInt8) := l.map (·.data.toList)
def joinB (sep : ByteArray) (l : List ByteArray) : ByteArray := ⟨(sep.data.toList.intercalate (datas l)).toArray⟩
theorem joinB_data (sep : ByteArray) (l : List ByteArray) : (joinB sep l).data.toList = sep.data.toList.intercalate (datas l) := by simp [joinB]
theorem joinB_size (sep : ByteArray) (l : List ByteArray) : (joinB sep l).size = (sep.data.toList.intercalate (datas l)).length := by
  rw [← joinB_data, Array.length_toList]; rfl

end Go.Proofs.YtmmdfpafkmhgcaaGreat
namespace Go.Proofs.YtmmdfpafkmhgcaaGreat
open Go.RowKit Go.Maps
set_option linter.unusedSimpArgs false
set_option linter.unusedVariables false

def slash : ByteArray := ⟨#[47]⟩
def nmK (ds : List Dm) (at_ : Nat → Int) (k : Nat) : ByteArray := nmI (dmL ds k) (at_ k)
def showL (ms : List ByteArray) (ds : List Dm) (cm : Int) (at_ : Nat → Int) (k : Nat) : List ByteArray := msA ms cm.toNat :: (List.range k).map (nmK ds at_)
theorem showL_len (ms : List ByteArray) (ds : List Dm) (cm : Int) (at_ : Nat → Int) (k : Nat) : (showL ms ds cm at_ k).length = k + 1 := by simp [showL]
theorem showL_succ (ms : List ByteArray) (ds : List Dm) (cm : Int) (at_ : Nat → Int) (k : Nat) : showL ms ds cm at_ (k + 1) = showL ms ds cm at_ k ++ [nmK ds at_ k] := by simp [showL, List.range_succ]
def OwnS (w : World) (B : Nat) (v : Value) (l : List ByteArray) : Prop := w.ownsRow B 9 1 v l.length (l.map .string)
theorem one_news {w : World} {g : Nat} {y : Value} (h : w.cell? ⟨g, 0, none⟩ = some y) : ∀ (j : Nat) u, [y][j]? = some u → w.cell? ((⟨g, 0, none⟩ : Addr).add j) = some u := by
  intro j u hj
  have : j = 0 ∨ 1 ≤ j := by omega
  rcases this with rfl | h1
  · simp at hj; subst hj; simpa [Addr.add] using h
  · rw [List.getElem?_eq_none (by simpa using h1)] at hj; cases hj
theorem step_pushS {ops : Array Oper} {o : Oper} {a : Act} {K : Act → World → Prop} {Q : Exit → Act → World → Prop} {E : Prop} (w : World) (hgd : o.guard = none) (s x : Operand)
    (ho : o.op = .call { callee := .builtin .append, args := #[s, x], argTypes := #[23, 23] })
    (B : Nat) (v : Value) (l : List ByteArray) (hs : a.eval s = v) (hv : OwnS w B v l) (hB : B ≤ w.heap.size) (g : Nat) (y : ByteArray) (hx : a.eval x = .slice (some ⟨g, 0, none⟩) 1 1) (hcell : w.cell? ⟨g, 0, none⟩ = some (.string y))
    (h47 : (l.length + 1) * 16 ≤ 140737488355328) (H : Nat) (hH : w.heap.size = H)
    (h : ∀ g' cap w', OwnS w' B (.slice (some ⟨g', 0, none⟩) (l.length + 1) cap) (l ++ [y]) → Chg (fun k => v.ownBlock = some k) w w' → (v.ownBlock = some g' ∨ g' = H) → g' < w'.heap.size → K (a.put o.dst (.slice (some ⟨g', 0, none⟩) (l.length + 1) cap)) w') :
    if Region.wanted o (yielded ops a.tmps) = true then Oper.wp Tryz.prog o a w K Q else E := by
  obtain ⟨i0, hi0, hz0, hz1, hz2⟩ := sinfo
  refine step_append_lies w hgd s x 23 ho B 9 i0 (.string ⟨#[]⟩) 1 16 Tryz.underlying23 hi0 hz0 hz1 hz2 rfl (by decide) v _ _ hs hv ⟨g, 0, none⟩ 1 1 [.string y] hx rfl (one_news hcell) (by intro u hu; simp at hu; subst hu; rfl) (by omega) (by unfold maxLen; omega) (by omega) hB H hH ?_
  intro g' cap w' h2 h3 h4 h5
  refine h g' cap w' ?_ ((Chg.refl _ w).grown h3 (fun k hk => .inl hk)) h4 h5
  unfold OwnS
  simpa using h2
theorem OwnS.kept {w w' : World} {B : Nat} {v : Value} {l : List ByteArray} (h : OwnS w B v l) (g : Kept w w') : OwnS w' B v l := by
  unfold OwnS at *
  exact h.kept (row := none) ⟨g.os, g.tape, g.output, Below.size g, fun j hj _ => g.block j hj⟩ (by cases v.ownBlock <;> simp)
theorem OwnS.lt {w : World} {B : Nat} {v : Value} {l : List ByteArray} (h : OwnS w B v l) : ∀ g, v.ownBlock = some g → B ≤ g ∧ g < w.heap.size := World.ownsRow.lt h
theorem own_cap {w : World} {B : Nat} {a : Option Addr} {n c : Nat} {l : List ByteArray} (h : OwnS w B (.slice a n c) l) : l.length ≤ c := by
  unfold OwnS at h
  obtain ⟨_, ⟨h1, hz⟩ | ⟨g, cap, cur, h1, hb, hheap, hc, hcm, hsz, htk⟩⟩ := h
  · cases h1; omega
  · cases h1; omega
end Go.Proofs.YtmmdfpafkmhgcaaGreat
namespace Go.Proofs.YtmmdfpafkmhgcaaGreat
open Go.RowKit Go.Maps
set_option linter.unusedSimpArgs false
set_option linter.unusedVariables false

def treeP (ds : List Dm) (tp : Nat → Nat) (k : Int) : Option Addr := if 0 ≤ k ∧ k < ds.length then some ⟨tp k.toNat, 0, none⟩ else none
set_option maxHeartbeats 1000000 in
theorem dims_Tree {w0 w : World} {p : Nat} {ds : List Dm} {tp : Nat → Nat} {ma : Option Addr} {mc : Nat} {ms : List ByteArray} {lv sc : Int} {dv : Value} (h : DP w0 w p ds tp ma mc ms lv sc dv) (hm : ds.length ≤ 4) (k : Int) :
    Calls Tryz.prog 44 #[.pointer (some ⟨p, 0, none⟩), .int .i64 k] w fun e w' => e = .returned (.pointer (treeP ds tp k)) ∧ w' = w := by
  have HMN := hidMk (dims_Many h (by omega))
  obtain ⟨da, dc, rfl, hrows⟩ := h.rows (by omega)
  have t0 := h.c0
  clear h
  by_cases h1 : k < 0
  · have HT : treeP ds tp k = none := if_neg (by omega)
    rw [HT]
    clear HT hrows HMN t0
    go_enter Tryz.func44, Tryz.ntmps44
    go_wp2_with fail
    go_ret
    exact ⟨rfl, rfl⟩
  · by_cases h2 : k < ds.length
    · obtain ⟨i, rfl⟩ : ∃ i : Nat, k = i := ⟨k.toNat, by omega⟩
      have HT : treeP ds tp i = some ⟨tp i, 0, none⟩ := (if_pos (by omega)).trans (by rw [Int.toNat_natCast])
      rw [HT]
      obtain ⟨b, rfl, hb⟩ := hrows (by omega)
      obtain ⟨c1, c2⟩ := hb i (by omega)
      have h3 : ¬ ((ds.length : Int) ≤ i) := by omega
      clear HT hb
      generalize tp i = q at *
      go_enter Tryz.func44, Tryz.ntmps44
      go_wp2_with (go_at_call 39; refine HMN.out.mono ?_; rintro e w1 ⟨rfl, rfl⟩)
      go_ret
      exact ⟨rfl, rfl⟩
    · have HT : treeP ds tp k = none := if_neg (by omega)
      rw [HT]
      have h3 : (ds.length : Int) ≤ k := by omega
      clear HT hrows t0
      go_enter Tryz.func44, Tryz.ntmps44
      go_wp2_with (go_at_call 39; refine HMN.out.mono ?_; rintro e w1 ⟨rfl, rfl⟩)
      go_ret
      exact ⟨rfl, rfl⟩
end Go.Proofs.YtmmdfpafkmhgcaaGreat
