/- The definition's file of blocks: New, Read, Stop, Up. -/
import Derived.Test.YtapcmkhpbdphoaaBk5
import Derived.Test.YtapcmkhpbdphoaaRefWire1
import Derived.Deep.AppendLies
namespace Go.Proofs.Ytapcmkhpbdphoaa
open Go.RowKit Go.Maps
set_option linter.unusedSimpArgs false
set_option linter.unusedVariables false

def upd {α : Type} (f : Nat → α) (n : Nat) (x : α) (k : Nat) : α := if k = n then x else f k
theorem upd_same {α : Type} (f : Nat → α) (n : Nat) (x : α) : upd f n x n = x := if_pos rfl
theorem upd_other {α : Type} (f : Nat → α) {n k : Nat} (x : α) (h : k ≠ n) : upd f n x k = f k := if_neg h
theorem Kept.cellq {w W : World} {p : Addr} {v : Value} (k : Kept w W) (h : w.cell? p = some v) : W.cell? p = some v := (k.cell (cell_lt h)).trans h
theorem ownsRow_chgB {S : Nat → Prop} {w w' : World} {B : Nat} {e : TypeId} {size : Nat} {v : Value} {n : Nat} {xs : List Value} (h : w.ownsRow B e size v n xs) (g : Chg S w w') (hb : ∀ k, v.ownBlock = some k → ¬ S k) : w'.ownsRow B e size v n xs := by
  obtain ⟨h0, h1 | ⟨k, cap, cur, hv, hb', hh, r⟩⟩ := h
  · exact ⟨h0, .inl h1⟩
  · subst hv
    refine ⟨h0, .inr ⟨k, cap, cur, rfl, hb', ?_, r⟩⟩
    have hlt : k < w.heap.size := by
      by_cases hlt : k < w.heap.size
      · exact hlt
      · rw [Array.getElem?_eq_none (by omega)] at hh; cases hh
    rw [g.block k hlt (hb k rfl)]
    exact hh
def rvl (gs cs : Nat → Nat) (n : Nat) : List Value := (List.range n).map fun k => .slice (some ⟨gs k, 0, none⟩) 32 (cs k)
/-- Rows of bytes, each in a block of its own. -/
structure Rb (w : World) (B : Nat) (v : Value) (n : Nat) (gs cs : Nat → Nat) (R : Nat → List Int) : Prop where
  own : w.ownsRow B 33 1 v n (rvl gs cs n)
  row : ∀ k, k < n → Dt w (gs k) (R k) ∧ (R k).length = 32 ∧ B ≤ gs k
  ap : ∀ k, k < n → v.ownBlock ≠ some (gs k)
  ne : ∀ i j, i < n → j < n → gs i = gs j → i = j
section
variable {w y : World} {B : Nat} {v : Value} {n : Nat} {gs cs : Nat → Nat} {R : Nat → List Int}
theorem Rb.olt (h : Rb w B v n gs cs R) : ∀ g, v.ownBlock = some g → B ≤ g ∧ g < w.heap.size := fun g hg => by
  obtain ⟨_, ⟨rfl, _⟩ | ⟨k, cap, cur, rfl, hb', hh, r⟩⟩ := h.own
  · simp [Value.ownBlock] at hg
  · simp only [Value.ownBlock, Option.some.injEq] at hg
    subst hg
    refine ⟨hb', ?_⟩
    by_cases hlt : k < w.heap.size
    · exact hlt
    · rw [Array.getElem?_eq_none (by omega)] at hh; cases hh
theorem Rb.chg {S : Nat → Prop} (h : Rb w B v n gs cs R) (k : Chg S w y) (h1 : ∀ g, v.ownBlock = some g → ¬ S g) (h2 : ∀ i, i < n → ¬ S (gs i)) : Rb y B v n gs cs R :=
  ⟨ownsRow_chgB h.own k h1, fun i hi => ⟨(h.row i hi).1.chg k (h2 i hi), (h.row i hi).2⟩, h.ap, h.ne⟩
theorem Rb.kept (h : Rb w B v n gs cs R) (k : Kept w y) : Rb y B v n gs cs R := h.chg (S := fun _ => False) (Chg.of_kept k) (fun _ _ e => e) (fun _ _ e => e)
theorem Rb.imp {R' : Nat → List Int} (h : Rb w B v n gs cs R) (e : ∀ k, k < n → R k = R' k) : Rb w B v n gs cs R' := ⟨h.own, fun k hk => by rw [← e k hk]; exact h.row k hk, h.ap, h.ne⟩
theorem Rb.cell (h : Rb w B v n gs cs R) (hn : 0 < n) : ∃ g cap, v = .slice (some ⟨g, 0, none⟩) n cap ∧ B ≤ g ∧ g < w.heap.size ∧ ∀ k, k < n → w.cell? ⟨g, k, none⟩ = some (.slice (some ⟨gs k, 0, none⟩) 32 (cs k)) := by
  have ho := h.own
  obtain ⟨_, ⟨_, e⟩ | ⟨g, cap, cur, hv, hb', hh, r⟩⟩ := h.own
  · omega
  · subst hv
    have hl := h.olt g rfl
    refine ⟨g, cap, rfl, hl.1, hl.2, fun k hk => ?_⟩
    rw [ho.cellAt k (by omega)]
    simp [rvl, hk]
theorem Rb.next (h : Rb w B v n gs cs R) {gx cx : Nat} {X : List Int} (hX : Dt w gx X) (hXl : X.length = 32) (hBX : B ≤ gx) (hgx : v.ownBlock ≠ some gx) (hne : ∀ k, k < n → gs k ≠ gx) {g' cap : Nat}
    (h2 : y.ownsRow B 33 1 (.slice (some ⟨g', 0, none⟩) (n + 1) cap) (n + 1) (rvl gs cs n ++ [.slice (some ⟨gx, 0, none⟩) 32 cx])) (h3 : Chg (fun k => v.ownBlock = some k) w y) (h4 : v.ownBlock = some g' ∨ g' = w.heap.size) :
    Rb y B (.slice (some ⟨g', 0, none⟩) (n + 1) cap) (n + 1) (upd gs n gx) (upd cs n cx) (upd R n X) := by
  have hg : ∀ g, (Value.slice (some ⟨g', 0, none⟩) (n + 1) cap).ownBlock = some g → g = g' := fun g hg => by simp only [Value.ownBlock, Option.some.injEq] at hg; exact hg.symm
  refine ⟨?_, fun k hk => ?_, fun k hk e => ?_, fun i j hi hj e => ?_⟩
  · have e : rvl (upd gs n gx) (upd cs n cx) (n + 1) = rvl gs cs n ++ [.slice (some ⟨gx, 0, none⟩) 32 cx] := by
      unfold rvl
      rw [List.range_succ, List.map_append]
      congr 1
      · apply List.map_congr_left
        intro k hk
        rw [List.mem_range] at hk
        rw [upd_other _ _ (by omega), upd_other _ _ (by omega)]
      · simp [upd_same]
    rw [e]
    exact h2
  · by_cases e : k = n
    · subst e
      rw [upd_same, upd_same]
      exact ⟨hX.chg h3 (fun e => hgx e), hXl, hBX⟩
    · rw [upd_other _ _ e, upd_other _ _ e]
      exact ⟨(h.row k (by omega)).1.chg h3 (fun e => h.ap k (by omega) e), (h.row k (by omega)).2⟩
  · have e2 := hg _ e
    by_cases e3 : k = n
    · subst e3
      rw [upd_same] at e2
      rcases h4 with q | q
      · exact hgx (by rw [q, e2])
      · have := hX.lt; omega
    · rw [upd_other _ _ e3] at e2
      rcases h4 with q | q
      · exact h.ap k (by omega) (by rw [q, e2])
      · have := (h.row k (by omega)).1.lt; omega
  · by_cases e1 : i = n
    · by_cases e2 : j = n
      · omega
      · subst e1
        rw [upd_same, upd_other _ _ e2] at e
        exact absurd e.symm (hne j (by omega))
    · by_cases e2 : j = n
      · subst e2
        rw [upd_same, upd_other _ _ e1] at e
        exact absurd e (hne i (by omega))
      · rw [upd_other _ _ e1, upd_other _ _ e2] at e
        exact h.ne i j (by omega) (by omega) e
end
theorem bsinfo : ∃ i0, Try.prog.info? 33 = some i0 ∧ i0.zero = some (.slice none 0 0) ∧ i0.size = 1 ∧ i0.bytes = 24 := by
  have h : (Try.prog.info? 33).map (fun i => (i.zero, i.size, i.bytes)) = some (some (.slice none 0 0), 1, 24) := by kernel_rfl
  exact info_parts h
theorem one_newsB {w : World} {g : Nat} {y : Value} (h : w.cell? ⟨g, 0, none⟩ = some y) : ∀ (j : Nat) u, [y][j]? = some u → w.cell? ((⟨g, 0, none⟩ : Addr).add j) = some u := by
  intro j u hj
  have : j = 0 ∨ 1 ≤ j := by omega
  rcases this with rfl | h1
  · simp at hj; subst hj; simpa [Addr.add] using h
  · rw [List.getElem?_eq_none (by simpa using h1)] at hj; cases hj
theorem step_pushB {ops : Array Oper} {o : Oper} {a : Act} {K : Act → World → Prop} {Q : Exit → Act → World → Prop} {E : Prop} (w : World) (hgd : o.guard = none) (s x : Operand)
    (ho : o.op = .call { callee := .builtin .append, args := #[s, x], argTypes := #[22, 22] })
    (B : Nat) (v : Value) (n : Nat) (gs cs : Nat → Nat) (R : Nat → List Int) (hs : a.eval s = v) (hv : Rb w B v n gs cs R) (hB : B ≤ w.heap.size) (g gx cx : Nat) (X : List Int) (hx : a.eval x = .slice (some ⟨g, 0, none⟩) 1 1) (hcell : w.cell? ⟨g, 0, none⟩ = some (.slice (some ⟨gx, 0, none⟩) 32 cx))
    (hX : Dt w gx X) (hXl : X.length = 32) (hBX : B ≤ gx) (hgx : v.ownBlock ≠ some gx) (hne : ∀ k, k < n → gs k ≠ gx) (hn : n ≤ 1000)
    (h : ∀ g' cap w', Rb w' B (.slice (some ⟨g', 0, none⟩) (n + 1) cap) (n + 1) (upd gs n gx) (upd cs n cx) (upd R n X) → Chg (fun k => v.ownBlock = some k) w w' → (v.ownBlock = some g' ∨ g' = w.heap.size) → K (a.put o.dst (.slice (some ⟨g', 0, none⟩) (n + 1) cap)) w') :
    if Region.wanted o (yielded ops a.tmps) = true then Oper.wp Try.prog o a w K Q else E := by
  obtain ⟨i0, hi1, hz0, hz1, hz2⟩ := bsinfo
  refine step_append_lies w hgd s x 22 ho B 33 i0 (.slice none 0 0) 1 24 Try.underlying22 hi1 hz0 hz1 hz2 rfl (by decide) v _ _ hs hv.own ⟨g, 0, none⟩ 1 1 [.slice (some ⟨gx, 0, none⟩) 32 cx] hx rfl (one_newsB hcell) (by intro u hu; simp at hu; subst hu; rfl) (by omega) (by unfold maxLen; omega) (by omega) hB w.heap.size rfl ?_
  intro g' cap w' h2 h3 h4 h5
  have hc : Chg (fun k => v.ownBlock = some k) w w' := (Chg.refl _ w).grown h3 (fun k hk => .inl hk)
  exact h g' cap w' (hv.next hX hXl hBX hgx hne h2 hc h4) hc h4
/-- The definition's file in memory. -/
structure Rf (w : World) (B r : Nat) (v : Value) (n : Nat) (gs cs : Nat → Nat) (R : Nat → List Int) (dk : Bool) (u y m : Int) : Prop where
  c0 : w.cell? ⟨r, 0, none⟩ = some v
  c1 : w.cell? ⟨r, 1, none⟩ = some (.bool dk)
  c2 : w.cell? ⟨r, 2, none⟩ = some (.int .i64 u)
  c3 : w.cell? ⟨r, 3, none⟩ = some (.int .i64 y)
  c4 : w.cell? ⟨r, 4, none⟩ = some (.int .i64 m)
  fz : ∀ i, i < 5 → w.frozen? ⟨r, i, none⟩ = false
  lt : r < w.heap.size
  rb : Rb w B v n gs cs R
  br : B ≤ r
  nr1 : v.ownBlock ≠ some r
  nr2 : ∀ k, k < n → gs k ≠ r
/-- The blocks of it. -/
def RS (r : Nat) (v : Value) (n : Nat) (gs : Nat → Nat) (j : Nat) : Prop := j = r ∨ v.ownBlock = some j ∨ ∃ k, k < n ∧ j = gs k
section
variable {w W : World} {B r : Nat} {v : Value} {n : Nat} {gs cs : Nat → Nat} {R : Nat → List Int} {dk : Bool} {u y m : Int}
theorem Rf.chg {S : Nat → Prop} (h : Rf w B r v n gs cs R dk u y m) (g : Chg S w W) (hS : ∀ j, RS r v n gs j → ¬ S j) : Rf W B r v n gs cs R dk u y m :=
  ⟨(g.cell (p := ⟨r, 0, none⟩) h.lt (hS r (.inl rfl))).trans h.c0, (g.cell (p := ⟨r, 1, none⟩) h.lt (hS r (.inl rfl))).trans h.c1, (g.cell (p := ⟨r, 2, none⟩) h.lt (hS r (.inl rfl))).trans h.c2, (g.cell (p := ⟨r, 3, none⟩) h.lt (hS r (.inl rfl))).trans h.c3, (g.cell (p := ⟨r, 4, none⟩) h.lt (hS r (.inl rfl))).trans h.c4,
   fun i hi => (g.frozen (p := ⟨r, i, none⟩) h.lt (hS r (.inl rfl))).trans (h.fz i hi), Nat.lt_of_lt_of_le h.lt g.size, h.rb.chg g (fun k e => hS k (.inr (.inl e))) (fun k hk => hS _ (.inr (.inr ⟨k, hk, rfl⟩))), h.br, h.nr1, h.nr2⟩
theorem Rf.kept (h : Rf w B r v n gs cs R dk u y m) (g : Kept w W) : Rf W B r v n gs cs R dk u y m := h.chg (S := fun _ => False) (Chg.of_kept g) (fun _ _ e => e)
theorem Rf.drew (h : Rf w B r v n gs cs R dk u y m) : Rf w.drew B r v n gs cs R dk u y m := h.kept ((Kept.refl _).drew)
theorem Rf.imp {R' : Nat → List Int} (h : Rf w B r v n gs cs R dk u y m) (e : ∀ k, k < n → R k = R' k) : Rf w B r v n gs cs R' dk u y m := ⟨h.c0, h.c1, h.c2, h.c3, h.c4, h.fz, h.lt, h.rb.imp e, h.br, h.nr1, h.nr2⟩
theorem Rf.rset (h : Rf w B r v n gs cs R dk u y m) (i : Nat) (x : Value) : Rb (w.setCell ⟨r, i, none⟩ x) B v n gs cs R := h.rb.chg (S := fun j => j = r) ((Chg.refl _ _).own i x) (fun g hg e => h.nr1 (by rw [hg, e])) (fun k hk e => h.nr2 k hk e)
theorem Rf.fset (h : Rf w B r v n gs cs R dk u y m) (i : Nat) (x : Value) : ∀ j, j < 5 → (w.setCell ⟨r, i, none⟩ x).frozen? ⟨r, j, none⟩ = false := fun j hj => by rw [World.frozen?_setCell]; exact h.fz j hj
theorem Rf.lset (h : Rf w B r v n gs cs R dk u y m) (i : Nat) (x : Value) : r < (w.setCell ⟨r, i, none⟩ x).heap.size := by simpa [World.setCell] using h.lt
theorem Rf.set1 (h : Rf w B r v n gs cs R dk u y m) (b : Bool) : Rf (w.setCell ⟨r, 1, none⟩ (.bool b)) B r v n gs cs R b u y m :=
  ⟨so h.c0 (by simp), World.cell?_setCell_same _ _ _ h.c1, so h.c2 (by simp), so h.c3 (by simp), so h.c4 (by simp), h.fset _ _, h.lset _ _, h.rset _ _, h.br, h.nr1, h.nr2⟩
theorem Rf.set2 (h : Rf w B r v n gs cs R dk u y m) (x : Int) : Rf (w.setCell ⟨r, 2, none⟩ (.int .i64 x)) B r v n gs cs R dk x y m :=
  ⟨so h.c0 (by simp), so h.c1 (by simp), World.cell?_setCell_same _ _ _ h.c2, so h.c3 (by simp), so h.c4 (by simp), h.fset _ _, h.lset _ _, h.rset _ _, h.br, h.nr1, h.nr2⟩
theorem Rf.set3 (h : Rf w B r v n gs cs R dk u y m) (x : Int) : Rf (w.setCell ⟨r, 3, none⟩ (.int .i64 x)) B r v n gs cs R dk u x m :=
  ⟨so h.c0 (by simp), so h.c1 (by simp), so h.c2 (by simp), World.cell?_setCell_same _ _ _ h.c3, so h.c4 (by simp), h.fset _ _, h.lset _ _, h.rset _ _, h.br, h.nr1, h.nr2⟩
theorem Rf.set4 (h : Rf w B r v n gs cs R dk u y m) (x : Int) : Rf (w.setCell ⟨r, 4, none⟩ (.int .i64 x)) B r v n gs cs R dk u y x :=
  ⟨so h.c0 (by simp), so h.c1 (by simp), so h.c2 (by simp), so h.c3 (by simp), World.cell?_setCell_same _ _ _ h.c4, h.fset _ _, h.lset _ _, h.rset _ _, h.br, h.nr1, h.nr2⟩
/-- One row more. -/
theorem Rf.step (h : Rf w B r v n gs cs R dk u y m) {v' : Value} {n' : Nat} {gs' cs' : Nat → Nat} {R' : Nat → List Int} (hc : Chg (fun k => v.ownBlock = some k) w W) (hr : Rb W B v' n' gs' cs' R') (h1 : v'.ownBlock ≠ some r) (h2 : ∀ k, k < n' → gs' k ≠ r) :
    Rf (W.setCell ⟨r, 0, none⟩ v') B r v' n' gs' cs' R' dk u y m := by
  have n1 : ¬ v.ownBlock = some r := h.nr1
  have z := fun i => hc.cell (p := ⟨r, i, none⟩) h.lt n1
  refine ⟨World.cell?_setCell_same _ _ _ ((z 0).trans h.c0), so ((z 1).trans h.c1) (by simp), so ((z 2).trans h.c2) (by simp), so ((z 3).trans h.c3) (by simp), so ((z 4).trans h.c4) (by simp), fun i hi => ?_, ?_, ?_, h.br, h1, h2⟩
  · rw [World.frozen?_setCell, hc.frozen (p := ⟨r, i, none⟩) h.lt n1]
    exact h.fz i hi
  · have h3 := hc.size
    have h4 := h.lt
    simp [World.setCell]; omega
  · exact hr.chg (S := fun j => j = r) ((Chg.refl _ _).own _ _) (fun g hg e => h1 (by rw [hg, e])) (fun k hk e => h2 k hk e)
theorem ob_ne {v : Value} {g' n cap r H : Nat} (hG : v.ownBlock = some g' ∨ g' = H) (hn : v.ownBlock ≠ some r) (hr : r < H) : (Value.slice (some ⟨g', 0, none⟩) n cap).ownBlock ≠ some r := by
  intro e
  have e2 : g' = r := by simpa [Value.ownBlock] using e
  rcases hG with q | q
  · exact hn (by rw [q, e2])
  · omega
theorem upd_ne {gs : Nat → Nat} {k r x : Nat} (h : ∀ j, j < k → gs j ≠ r) (hx : x ≠ r) : ∀ j, j < k + 1 → upd gs k x j ≠ r := fun j hj => by
  unfold upd
  split
  · exact hx
  · exact h j (by omega)
def z32 : Array Value := madeCells #[Value.int .u8 0] 32
theorem z32_get (i : Nat) (hi : i < 32) : z32[i]? = some (.int .u8 0) := by simp [z32, madeCells, hi, Nat.mod_one]
theorem run_make32b (w : World) : (Instr.makeSlice 33 (.int .i64 32) (.int .i64 32)).run Try.prog w = .ok (.slice (some ⟨w.heap.size, 0, none⟩) 32 32) (w.alloc (.cells z32 5)) := by
  obtain ⟨i0, hi0, hz0, hz1, hz2⟩ := u8info
  have h := run_make (P := Try.prog) w 33 5 i0 _ Try.underlying33 hi0 hz0 .i64 .i64 32 32 (by omega) (by omega) (by rw [hz2]; omega) (by omega)
  rw [hz1] at h
  exact h
theorem z32_dt (w : World) : Dt (w.alloc (.cells z32 5)) w.heap.size (List.replicate 32 0) := by
  refine .of (by simp) (fun i hi => ?_) (fun i hi => by simp)
  rw [List.length_replicate] at hi
  have h2 : (List.replicate 32 (0 : Int)).getD i 0 = 0 := by rw [List.getD_eq_getElem?_getD, List.getElem?_replicate]; split <;> rfl
  rw [h2]
  simp [z32_get i hi]
theorem new_rf (w : World) (t : TypeId) : Rf (w.alloc (.cells #[.slice none 0 0, .bool false, .int .i64 (-1), .int .i64 0, .int .i64 0] t)) w.heap.size w.heap.size (.slice none 0 0) 0 (fun _ => 0) (fun _ => 0) (fun _ => List.replicate 32 0) false (-1) 0 0 := by
  refine ⟨by simp, by simp, by simp, by simp, by simp, fun i hi => by simp, by simp, ⟨World.ownsRow_nil _ _ _ _, fun k hk => absurd hk (by omega), fun k hk => absurd hk (by omega), fun i j hi => absurd hi (by omega)⟩, Nat.le_refl _, by simp [Value.ownBlock], fun k hk => absurd hk (by omega)⟩
set_option maxHeartbeats 8000000 in
set_option maxRecDepth 100000 in
theorem r23_New (N : Nat) (h1 : 1 ≤ N) (h2 : N ≤ 100) (w : World) : Calls Try.prog 21 #[.int .i64 N] w fun e w' => ∃ v gs cs, e = .returned (.tuple #[.pointer (some ⟨w.heap.size, 0, none⟩), .int .i64 0]) ∧ Rf w' w.heap.size w.heap.size v N gs cs (fun _ => List.replicate 32 0) false (-1) 0 0 ∧ Kept w w' := by
  have h1' : (1 : Int) ≤ (N : Int) := by omega
  have h2' : (N : Int) ≤ 4096 := by omega
  have hmk := fun W => run_make32b W
  have HN := hidMk (new_rf w 76)
  go_enter Try.func21, Try.ntmps21
  go_wp2_with fail
  go_loopg [5] N (fun gg i wr => ∃ (k : Nat) (v : Value) (gs cs : Nat → Nat), k + gg = N ∧ i = .int .i64 (k : Int) ∧ Hid (Rf wr w.heap.size w.heap.size v k gs cs (fun _ => List.replicate 32 0) false (-1) 0 0) ∧ Hid (Kept w wr))
  case atStart => exact ⟨0, _, _, _, by omega, rfl, HN, hidMk ((Kept.refl _).alloc _)⟩
  case round =>
    obtain ⟨k, v, gs, cs, hkg, rfl, HRF, HKW⟩ := hrel
    have HKG := hidMk hkg
    by_cases hk : k < N
    · have hk' : (k : Int) < (N : Int) := by omega
      have HC0 := hidMk HRF.out.c0
      have HZ := hidMk (show ∀ o, Dt ((wr.alloc (.cells z32 5)).alloc o).drew wr.heap.size (List.replicate 32 0) from fun o => (z32_dt wr).kept (((Kept.refl _).alloc o).drew))
      have HOW := hidMk (show v.ownBlock ≠ some wr.heap.size from fun e => by have := (HRF.out.rb.olt _ e).2; omega)
      have HGW := hidMk (show ∀ j, j < k → gs j ≠ wr.heap.size from fun j hj e => by have := (HRF.out.rb.row j hj).1.lt; omega)
      clear hkg
      go_wp2_with fail
      refine wp_region_held_drew (S := (fun _ => True)) (by kernel_rfl) ?_ (fun hHeld => ?_)
      · trivial
      refine wpAnyH_take (i := 0) (oi := { dst := some 19, op := _, type := _, pos := _, after := _, guard := _ }) (v := ?_) rfl (by kernel_rfl) (by kernel_rfl) (by kernel_rfl) (fun _ _ _ h => h) (Or.inl ⟨by rfl, ?_⟩) (by assumption) ?_
      rotate_left
      · (intro w9 hSw; go_simp; (try with_reducible rfl))
      (try simp only [Act.put, List.setIfInBounds_toArray, List.set_cons_zero, List.set_cons_succ])
      refine wpAnyH_take (i := 1) (oi := { dst := some 20, op := _, type := _, pos := _, after := _, guard := _ }) (v := ?_) rfl (by kernel_rfl) (by kernel_rfl) (by kernel_rfl) (fun _ _ _ h => h) (Or.inl ⟨by rfl, ?_⟩) (by assumption) ?_
      rotate_left
      · (intro w9 hSw; go_simp; (try with_reducible rfl))
      (try simp only [Act.put, List.setIfInBounds_toArray, List.set_cons_zero, List.set_cons_succ])
      refine wpAnyH_take (i := 2) (oi := { dst := some 21, op := _, type := _, pos := _, after := _, guard := _ }) (v := ?_) rfl (by kernel_rfl) (by kernel_rfl) (by kernel_rfl) (fun _ _ _ h => h) (Or.inl ⟨by rfl, ?_⟩) (by assumption) ?_
      rotate_left
      · (intro w9 hSw; go_simp; (try with_reducible rfl))
      (try simp only [Act.put, List.setIfInBounds_toArray, List.set_cons_zero, List.set_cons_succ])
      refine wpAnyH_take (i := 3) (oi := { dst := some 22, op := _, type := _, pos := _, after := _, guard := _ }) (v := ?_) rfl (by kernel_rfl) (by kernel_rfl) (by kernel_rfl) (fun _ _ _ h => h) (Or.inl ⟨by rfl, ?_⟩) (by assumption) ?_
      rotate_left
      · (intro w9 hSw; go_simp; (try with_reducible rfl))
      (try simp only [Act.put, List.setIfInBounds_toArray, List.set_cons_zero, List.set_cons_succ])
      refine wpAnyH_ready (rs := [4, 5]) (by kernel_rfl) (by simp) ?_
      refine (AllReadyH.cons (o := { dst := some 23, op := _, type := _, pos := _, after := _, guard := _ }) rfl (fun K hK => ?_) (AllReadyH.cons (o := { dst := some 24, op := _, type := _, pos := _, after := _, guard := _ }) rfl (fun K hK => ?_) AllReadyH.nil))
      · have b1 := ((Kept.refl wr).drew).cellq HC0.out
        go_simp
        clear b1
        refine hK.out _ _ ?_ (fun hHeld => ?_)
        · trivial
        clear hK K
        (try simp only [Act.put, List.setIfInBounds_toArray, List.set_cons_zero, List.set_cons_succ])
        refine wpAnyH_ready (rs := [5]) (by kernel_rfl) (by simp) ?_
        refine (AllReadyH.cons (o := { dst := some 24, op := _, type := _, pos := _, after := _, guard := _ }) rfl (fun K hK => ?_) AllReadyH.nil)
        go_simp
        refine hK.out _ _ ?_ (fun hHeld => ?_)
        · trivial
        clear hK K
        (try simp only [Act.put, List.setIfInBounds_toArray, List.set_cons_zero, List.set_cons_succ])
        refine wpAnyH_ready (rs := [6]) (by kernel_rfl) (by simp) ?_
        refine (AllReadyH.cons (o := { dst := some 25, op := _, type := _, pos := _, after := _, guard := _ }) rfl (fun K hK => ?_) AllReadyH.nil)
        go_simp
        refine hK.out _ _ ?_ (fun hHeld => ?_)
        · trivial
        clear hK K
        (try simp only [Act.put, List.setIfInBounds_toArray, List.set_cons_zero, List.set_cons_succ])
        refine wpAnyH_ready (rs := [7]) (by kernel_rfl) (by simp) ?_
        refine (AllReadyH.cons (o := { dst := some 26, op := _, type := _, pos := _, after := _, guard := _ }) rfl (fun K hK => ?_) AllReadyH.nil)
        refine step_pushB _ (by rfl) _ _ (by rfl) w.heap.size v k gs cs (fun _ => List.replicate 32 0) (by rfl) (HRF.out.rb.kept ((((Kept.refl wr).alloc (.cells z32 5)).alloc (.cells #[.slice (some ⟨wr.heap.size, 0, none⟩) 32 32] 33)).drew)) (by have h1 := HKW.out.size; have h2 := ((((Kept.refl wr).alloc (.cells z32 5)).alloc (.cells #[.slice (some ⟨wr.heap.size, 0, none⟩) 32 32] 33)).drew).size; omega) (wr.heap.size + 1) wr.heap.size 32 (List.replicate 32 0) (by first | rfl | simp) (by first | simp | (simp; done)) (HZ.out _) (by simp) (by have h1 := HKW.out.size; omega) HOW.out HGW.out (by omega) ?_
        intro g' cap' wP hRB hCP hG
        have HRB := hidMk hRB
        have HCP := hidMk hCP
        have HOB := hidMk (ob_ne (n := k + 1) (cap := cap') hG HRF.out.nr1 (by have h2 := HRF.out.lt; have h3 := ((((Kept.refl wr).alloc (.cells z32 5)).alloc (.cells #[.slice (some ⟨wr.heap.size, 0, none⟩) 32 32] 33)).drew).size; omega))
        have HGR := hidMk (upd_ne HRF.out.nr2 (x := wr.heap.size) (by have h2 := HRF.out.lt; omega))
        clear hRB hCP hG
        refine hK.out _ _ ?_ (fun hHeld => ?_)
        · trivial
        clear hK K
        (try simp only [Act.put, List.setIfInBounds_toArray, List.set_cons_zero, List.set_cons_succ])
        refine wpAnyH_take (i := 8) (oi := { dst := some 27, op := _, type := _, pos := _, after := _, guard := _ }) (v := ?_) rfl (by kernel_rfl) (by kernel_rfl) (by kernel_rfl) (fun _ _ _ h => h) (Or.inl ⟨by rfl, ?_⟩) (by assumption) ?_
        rotate_left
        · (intro w9 hSw; go_simp; (try with_reducible rfl))
        (try simp only [Act.put, List.setIfInBounds_toArray, List.set_cons_zero, List.set_cons_succ])
        refine wpAnyH_take (i := 9) (oi := { dst := some 28, op := _, type := _, pos := _, after := _, guard := _ }) (v := ?_) rfl (by kernel_rfl) (by kernel_rfl) (by kernel_rfl) (fun _ _ _ h => h) (Or.inl ⟨by rfl, ?_⟩) (by assumption) ?_
        rotate_left
        · (intro w9 hSw; go_simp; (try with_reducible rfl))
        (try simp only [Act.put, List.setIfInBounds_toArray, List.set_cons_zero, List.set_cons_succ])
        refine wpAnyH_ready (rs := [10]) (by kernel_rfl) (by simp) ?_
        refine (AllReadyH.cons (o := { dst := none, op := _, type := _, pos := _, after := _, guard := _ }) rfl (fun K hK => ?_) AllReadyH.nil)
        have n1 : ¬ v.ownBlock = some w.heap.size := HRF.out.nr1
        have b1 := (HCP.out.cell (p := ⟨w.heap.size, 0, none⟩) (by show w.heap.size < _; have h2 := HRF.out.lt; have h3 := ((((Kept.refl wr).alloc (.cells z32 5)).alloc (.cells #[.slice (some ⟨wr.heap.size, 0, none⟩) 32 32] 33)).drew).size; omega) n1).trans (((((Kept.refl wr).alloc (.cells z32 5)).alloc (.cells #[.slice (some ⟨wr.heap.size, 0, none⟩) 32 32] 33)).drew).cellq HC0.out)
        have bf : wP.frozen? ⟨w.heap.size, 0, none⟩ = false := (HCP.out.frozen (p := ⟨w.heap.size, 0, none⟩) (by show w.heap.size < _; have h2 := HRF.out.lt; have h3 := ((((Kept.refl wr).alloc (.cells z32 5)).alloc (.cells #[.slice (some ⟨wr.heap.size, 0, none⟩) 32 32] 33)).drew).size; omega) n1).trans ((((((Kept.refl wr).alloc (.cells z32 5)).alloc (.cells #[.slice (some ⟨wr.heap.size, 0, none⟩) 32 32] 33)).drew).frozen (p := ⟨w.heap.size, 0, none⟩) HRF.out.lt).trans (HRF.out.fz 0 (by omega)))
        go_simp
        clear b1 bf
        refine hK.out _ _ ?_ (fun hHeld => ?_)
        · trivial
        clear hK K
        (try simp only [Act.put, List.setIfInBounds_toArray, List.set_cons_zero, List.set_cons_succ])
        refine wpAnyH_done (by kernel_rfl) ?_ _
        go_wp2_with fail
        go_roundg (gk - 1)
        case measure => have := HKG.out; omega
        case rel =>
          refine ⟨k + 1, .slice (some ⟨g', 0, none⟩) (k + 1) cap', upd gs k wr.heap.size, upd cs k 32, by have := HKG.out; omega, by go_num, hidMk ?_, hidMk ?_⟩
          · exact ((HRF.out.kept ((((Kept.refl wr).alloc (.cells z32 5)).alloc (.cells #[.slice (some ⟨wr.heap.size, 0, none⟩) 32 32] 33)).drew)).step HCP.out HRB.out HOB.out HGR.out).imp (fun j hj => by unfold upd; split <;> rfl)
          · exact ((Chg.kept (HKW.out.trans ((((Kept.refl wr).alloc (.cells z32 5)).alloc (.cells #[.slice (some ⟨wr.heap.size, 0, none⟩) 32 32] 33)).drew)) HCP.out (fun j e => (HRF.out.rb.olt j e).1)).setCell (Nat.le_refl _) _)
      · go_simp
        refine hK.out _ _ ?_ (fun hHeld => ?_)
        · trivial
        clear hK K
        (try simp only [Act.put, List.setIfInBounds_toArray, List.set_cons_zero, List.set_cons_succ])
        refine wpAnyH_ready (rs := [4, 6]) (by kernel_rfl) (by simp) ?_
        refine (AllReadyH.cons (o := { dst := some 23, op := _, type := _, pos := _, after := _, guard := _ }) rfl (fun K hK => ?_) (AllReadyH.cons (o := { dst := some 25, op := _, type := _, pos := _, after := _, guard := _ }) rfl (fun K hK => ?_) AllReadyH.nil))
        · have b1 := (((Kept.refl wr).alloc (.cells z32 5)).drew).cellq HC0.out
          go_simp
          clear b1
          refine hK.out _ _ ?_ (fun hHeld => ?_)
          · trivial
          clear hK K
          (try simp only [Act.put, List.setIfInBounds_toArray, List.set_cons_zero, List.set_cons_succ])
          refine wpAnyH_ready (rs := [6]) (by kernel_rfl) (by simp) ?_
          refine (AllReadyH.cons (o := { dst := some 25, op := _, type := _, pos := _, after := _, guard := _ }) rfl (fun K hK => ?_) AllReadyH.nil)
          go_simp
          refine hK.out _ _ ?_ (fun hHeld => ?_)
          · trivial
          clear hK K
          (try simp only [Act.put, List.setIfInBounds_toArray, List.set_cons_zero, List.set_cons_succ])
          refine wpAnyH_ready (rs := [7]) (by kernel_rfl) (by simp) ?_
          refine (AllReadyH.cons (o := { dst := some 26, op := _, type := _, pos := _, after := _, guard := _ }) rfl (fun K hK => ?_) AllReadyH.nil)
          refine step_pushB _ (by rfl) _ _ (by rfl) w.heap.size v k gs cs (fun _ => List.replicate 32 0) (by rfl) (HRF.out.rb.kept ((((Kept.refl wr).alloc (.cells z32 5)).alloc (.cells #[.slice (some ⟨wr.heap.size, 0, none⟩) 32 32] 33)).drew)) (by have h1 := HKW.out.size; have h2 := ((((Kept.refl wr).alloc (.cells z32 5)).alloc (.cells #[.slice (some ⟨wr.heap.size, 0, none⟩) 32 32] 33)).drew).size; omega) (wr.heap.size + 1) wr.heap.size 32 (List.replicate 32 0) (by first | rfl | simp) (by first | simp | (simp; done)) (HZ.out _) (by simp) (by have h1 := HKW.out.size; omega) HOW.out HGW.out (by omega) ?_
          intro g' cap' wP hRB hCP hG
          have HRB := hidMk hRB
          have HCP := hidMk hCP
          have HOB := hidMk (ob_ne (n := k + 1) (cap := cap') hG HRF.out.nr1 (by have h2 := HRF.out.lt; have h3 := ((((Kept.refl wr).alloc (.cells z32 5)).alloc (.cells #[.slice (some ⟨wr.heap.size, 0, none⟩) 32 32] 33)).drew).size; omega))
          have HGR := hidMk (upd_ne HRF.out.nr2 (x := wr.heap.size) (by have h2 := HRF.out.lt; omega))
          clear hRB hCP hG
          refine hK.out _ _ ?_ (fun hHeld => ?_)
          · trivial
          clear hK K
          (try simp only [Act.put, List.setIfInBounds_toArray, List.set_cons_zero, List.set_cons_succ])
          refine wpAnyH_take (i := 8) (oi := { dst := some 27, op := _, type := _, pos := _, after := _, guard := _ }) (v := ?_) rfl (by kernel_rfl) (by kernel_rfl) (by kernel_rfl) (fun _ _ _ h => h) (Or.inl ⟨by rfl, ?_⟩) (by assumption) ?_
          rotate_left
          · (intro w9 hSw; go_simp; (try with_reducible rfl))
          (try simp only [Act.put, List.setIfInBounds_toArray, List.set_cons_zero, List.set_cons_succ])
          refine wpAnyH_take (i := 9) (oi := { dst := some 28, op := _, type := _, pos := _, after := _, guard := _ }) (v := ?_) rfl (by kernel_rfl) (by kernel_rfl) (by kernel_rfl) (fun _ _ _ h => h) (Or.inl ⟨by rfl, ?_⟩) (by assumption) ?_
          rotate_left
          · (intro w9 hSw; go_simp; (try with_reducible rfl))
          (try simp only [Act.put, List.setIfInBounds_toArray, List.set_cons_zero, List.set_cons_succ])
          refine wpAnyH_ready (rs := [10]) (by kernel_rfl) (by simp) ?_
          refine (AllReadyH.cons (o := { dst := none, op := _, type := _, pos := _, after := _, guard := _ }) rfl (fun K hK => ?_) AllReadyH.nil)
          have n1 : ¬ v.ownBlock = some w.heap.size := HRF.out.nr1
          have b1 := (HCP.out.cell (p := ⟨w.heap.size, 0, none⟩) (by show w.heap.size < _; have h2 := HRF.out.lt; have h3 := ((((Kept.refl wr).alloc (.cells z32 5)).alloc (.cells #[.slice (some ⟨wr.heap.size, 0, none⟩) 32 32] 33)).drew).size; omega) n1).trans (((((Kept.refl wr).alloc (.cells z32 5)).alloc (.cells #[.slice (some ⟨wr.heap.size, 0, none⟩) 32 32] 33)).drew).cellq HC0.out)
          have bf : wP.frozen? ⟨w.heap.size, 0, none⟩ = false := (HCP.out.frozen (p := ⟨w.heap.size, 0, none⟩) (by show w.heap.size < _; have h2 := HRF.out.lt; have h3 := ((((Kept.refl wr).alloc (.cells z32 5)).alloc (.cells #[.slice (some ⟨wr.heap.size, 0, none⟩) 32 32] 33)).drew).size; omega) n1).trans ((((((Kept.refl wr).alloc (.cells z32 5)).alloc (.cells #[.slice (some ⟨wr.heap.size, 0, none⟩) 32 32] 33)).drew).frozen (p := ⟨w.heap.size, 0, none⟩) HRF.out.lt).trans (HRF.out.fz 0 (by omega)))
          go_simp
          clear b1 bf
          refine hK.out _ _ ?_ (fun hHeld => ?_)
          · trivial
          clear hK K
          (try simp only [Act.put, List.setIfInBounds_toArray, List.set_cons_zero, List.set_cons_succ])
          refine wpAnyH_done (by kernel_rfl) ?_ _
          go_wp2_with fail
          go_roundg (gk - 1)
          case measure => have := HKG.out; omega
          case rel =>
            refine ⟨k + 1, .slice (some ⟨g', 0, none⟩) (k + 1) cap', upd gs k wr.heap.size, upd cs k 32, by have := HKG.out; omega, by go_num, hidMk ?_, hidMk ?_⟩
            · exact ((HRF.out.kept ((((Kept.refl wr).alloc (.cells z32 5)).alloc (.cells #[.slice (some ⟨wr.heap.size, 0, none⟩) 32 32] 33)).drew)).step HCP.out HRB.out HOB.out HGR.out).imp (fun j hj => by unfold upd; split <;> rfl)
            · exact ((Chg.kept (HKW.out.trans ((((Kept.refl wr).alloc (.cells z32 5)).alloc (.cells #[.slice (some ⟨wr.heap.size, 0, none⟩) 32 32] 33)).drew)) HCP.out (fun j e => (HRF.out.rb.olt j e).1)).setCell (Nat.le_refl _) _)
        · go_simp
          refine hK.out _ _ ?_ (fun hHeld => ?_)
          · trivial
          clear hK K
          (try simp only [Act.put, List.setIfInBounds_toArray, List.set_cons_zero, List.set_cons_succ])
          refine wpAnyH_ready (rs := [4]) (by kernel_rfl) (by simp) ?_
          refine (AllReadyH.cons (o := { dst := some 23, op := _, type := _, pos := _, after := _, guard := _ }) rfl (fun K hK => ?_) AllReadyH.nil)
          have b1 := ((((Kept.refl wr).alloc (.cells z32 5)).alloc (.cells #[.slice (some ⟨wr.heap.size, 0, none⟩) 32 32] 33)).drew).cellq HC0.out
          go_simp
          clear b1
          refine hK.out _ _ ?_ (fun hHeld => ?_)
          · trivial
          clear hK K
          (try simp only [Act.put, List.setIfInBounds_toArray, List.set_cons_zero, List.set_cons_succ])
          refine wpAnyH_ready (rs := [7]) (by kernel_rfl) (by simp) ?_
          refine (AllReadyH.cons (o := { dst := some 26, op := _, type := _, pos := _, after := _, guard := _ }) rfl (fun K hK => ?_) AllReadyH.nil)
          refine step_pushB _ (by rfl) _ _ (by rfl) w.heap.size v k gs cs (fun _ => List.replicate 32 0) (by rfl) (HRF.out.rb.kept ((((Kept.refl wr).alloc (.cells z32 5)).alloc (.cells #[.slice (some ⟨wr.heap.size, 0, none⟩) 32 32] 33)).drew)) (by have h1 := HKW.out.size; have h2 := ((((Kept.refl wr).alloc (.cells z32 5)).alloc (.cells #[.slice (some ⟨wr.heap.size, 0, none⟩) 32 32] 33)).drew).size; omega) (wr.heap.size + 1) wr.heap.size 32 (List.replicate 32 0) (by first | rfl | simp) (by first | simp | (simp; done)) (HZ.out _) (by simp) (by have h1 := HKW.out.size; omega) HOW.out HGW.out (by omega) ?_
          intro g' cap' wP hRB hCP hG
          have HRB := hidMk hRB
          have HCP := hidMk hCP
          have HOB := hidMk (ob_ne (n := k + 1) (cap := cap') hG HRF.out.nr1 (by have h2 := HRF.out.lt; have h3 := ((((Kept.refl wr).alloc (.cells z32 5)).alloc (.cells #[.slice (some ⟨wr.heap.size, 0, none⟩) 32 32] 33)).drew).size; omega))
          have HGR := hidMk (upd_ne HRF.out.nr2 (x := wr.heap.size) (by have h2 := HRF.out.lt; omega))
          clear hRB hCP hG
          refine hK.out _ _ ?_ (fun hHeld => ?_)
          · trivial
          clear hK K
          (try simp only [Act.put, List.setIfInBounds_toArray, List.set_cons_zero, List.set_cons_succ])
          refine wpAnyH_take (i := 8) (oi := { dst := some 27, op := _, type := _, pos := _, after := _, guard := _ }) (v := ?_) rfl (by kernel_rfl) (by kernel_rfl) (by kernel_rfl) (fun _ _ _ h => h) (Or.inl ⟨by rfl, ?_⟩) (by assumption) ?_
          rotate_left
          · (intro w9 hSw; go_simp; (try with_reducible rfl))
          (try simp only [Act.put, List.setIfInBounds_toArray, List.set_cons_zero, List.set_cons_succ])
          refine wpAnyH_take (i := 9) (oi := { dst := some 28, op := _, type := _, pos := _, after := _, guard := _ }) (v := ?_) rfl (by kernel_rfl) (by kernel_rfl) (by kernel_rfl) (fun _ _ _ h => h) (Or.inl ⟨by rfl, ?_⟩) (by assumption) ?_
          rotate_left
          · (intro w9 hSw; go_simp; (try with_reducible rfl))
          (try simp only [Act.put, List.setIfInBounds_toArray, List.set_cons_zero, List.set_cons_succ])
          refine wpAnyH_ready (rs := [10]) (by kernel_rfl) (by simp) ?_
          refine (AllReadyH.cons (o := { dst := none, op := _, type := _, pos := _, after := _, guard := _ }) rfl (fun K hK => ?_) AllReadyH.nil)
          have n1 : ¬ v.ownBlock = some w.heap.size := HRF.out.nr1
          have b1 := (HCP.out.cell (p := ⟨w.heap.size, 0, none⟩) (by show w.heap.size < _; have h2 := HRF.out.lt; have h3 := ((((Kept.refl wr).alloc (.cells z32 5)).alloc (.cells #[.slice (some ⟨wr.heap.size, 0, none⟩) 32 32] 33)).drew).size; omega) n1).trans (((((Kept.refl wr).alloc (.cells z32 5)).alloc (.cells #[.slice (some ⟨wr.heap.size, 0, none⟩) 32 32] 33)).drew).cellq HC0.out)
          have bf : wP.frozen? ⟨w.heap.size, 0, none⟩ = false := (HCP.out.frozen (p := ⟨w.heap.size, 0, none⟩) (by show w.heap.size < _; have h2 := HRF.out.lt; have h3 := ((((Kept.refl wr).alloc (.cells z32 5)).alloc (.cells #[.slice (some ⟨wr.heap.size, 0, none⟩) 32 32] 33)).drew).size; omega) n1).trans ((((((Kept.refl wr).alloc (.cells z32 5)).alloc (.cells #[.slice (some ⟨wr.heap.size, 0, none⟩) 32 32] 33)).drew).frozen (p := ⟨w.heap.size, 0, none⟩) HRF.out.lt).trans (HRF.out.fz 0 (by omega)))
          go_simp
          clear b1 bf
          refine hK.out _ _ ?_ (fun hHeld => ?_)
          · trivial
          clear hK K
          (try simp only [Act.put, List.setIfInBounds_toArray, List.set_cons_zero, List.set_cons_succ])
          refine wpAnyH_done (by kernel_rfl) ?_ _
          go_wp2_with fail
          go_roundg (gk - 1)
          case measure => have := HKG.out; omega
          case rel =>
            refine ⟨k + 1, .slice (some ⟨g', 0, none⟩) (k + 1) cap', upd gs k wr.heap.size, upd cs k 32, by have := HKG.out; omega, by go_num, hidMk ?_, hidMk ?_⟩
            · exact ((HRF.out.kept ((((Kept.refl wr).alloc (.cells z32 5)).alloc (.cells #[.slice (some ⟨wr.heap.size, 0, none⟩) 32 32] 33)).drew)).step HCP.out HRB.out HOB.out HGR.out).imp (fun j hj => by unfold upd; split <;> rfl)
            · exact ((Chg.kept (HKW.out.trans ((((Kept.refl wr).alloc (.cells z32 5)).alloc (.cells #[.slice (some ⟨wr.heap.size, 0, none⟩) 32 32] 33)).drew)) HCP.out (fun j e => (HRF.out.rb.olt j e).1)).setCell (Nat.le_refl _) _)
    · have hkN : k = N := by omega
      subst hkN
      go_wp2_with fail
      go_ret2
      exact ⟨v, gs, cs, rfl, HRF.out, HKW.out⟩
/-- Why a block can not be reached. -/
def badR (dk : Bool) (N : Nat) (n : Int) : Int := if dk then 21 else if n < 0 ∨ (N : Int) ≤ n then 17 else 0
def stER (dk : Bool) (x z : Int) : Int := if x < 0 ∨ z < 0 ∨ 32 < z then 2 else if dk then 21 else 0
end
end Go.Proofs.Ytapcmkhpbdphoaa
