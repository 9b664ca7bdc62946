/- block: a file of blocks in memory; New, Size, Off, Writes, Up, Stop, reach, comes. -/
import Derived.Test.YtapcmkhpbdphoaaByteRow
import Derived.Test.YtapcmkhpbdphoaaChgI
import Derived.Laws.MakeOwn
import Derived.Deep.MidRow
import Derived.Deep.RegionHeld3
import Derived.Deep.DeepMust
namespace Go.Proofs.Ytapcmkhpbdphoaa
open Go.RowKit Go.Maps
set_option linter.unusedSimpArgs false
set_option linter.unusedVariables false

/-- Bytes as cells. -/
def bv (l : List Int) : List Value := l.map (Value.int .u8)
theorem bv_len (l : List Int) : (bv l).length = l.length := by simp [bv]
theorem bv_one (l : List Int) : ∀ u ∈ bv l, u.oneCell' = true := u8s_one l
theorem bv_get {l : List Int} {i : Nat} (h : i < l.length) : (bv l)[i]? = some (.int .u8 (l.getD i 0)) := by
  simp [bv, List.getElem?_eq_getElem h, List.getD]
/-- Bytes of a block's own from its head on. -/
structure Dt (w : World) (d : Nat) (F : List Int) : Prop where
  lt : d < w.heap.size
  at_ : w.rangeAt d 0 (bv F)
  fr : ∀ i, i < F.length → w.frozen? ⟨d, i, none⟩ = false
theorem Dt.cell {w : World} {d : Nat} {F : List Int} (h : Dt w d F) {i : Nat} (hi : i < F.length) : w.cell? ⟨d, i, none⟩ = some (.int .u8 (F.getD i 0)) := by
  have := h.at_ i _ (bv_get hi)
  rwa [Nat.zero_add] at this
theorem Dt.of {w : World} {d : Nat} {F : List Int} (h1 : d < w.heap.size) (h2 : ∀ i, i < F.length → w.cell? ⟨d, i, none⟩ = some (.int .u8 (F.getD i 0))) (h3 : ∀ i, i < F.length → w.frozen? ⟨d, i, none⟩ = false) : Dt w d F :=
  ⟨h1, fun j v hv => by
    have hj : j < F.length := by have := (List.getElem?_eq_some_iff.1 hv).1; rwa [bv_len] at this
    rw [bv_get hj] at hv
    cases hv
    rw [Nat.zero_add]
    exact h2 j hj, h3⟩
theorem Dt.chg {S : Nat → Prop} {w w' : World} {d : Nat} {F : List Int} (h : Dt w d F) (g : Chg S w w') (hd : ¬ S d) : Dt w' d F :=
  .of (Nat.lt_of_lt_of_le h.lt g.size) (fun i hi => (g.cell (p := ⟨d, i, none⟩) h.lt hd).trans (h.cell hi)) (fun i hi => (g.frozen (p := ⟨d, i, none⟩) h.lt hd).trans (h.fr i hi))
theorem Dt.kept {w w' : World} {d : Nat} {F : List Int} (h : Dt w d F) (g : Kept w w') : Dt w' d F := h.chg (S := fun _ => False) (Chg.of_kept g) (fun e => e)
theorem Dt.there {w : World} {d : Nat} {F : List Int} (h : Dt w d F) {o n : Nat} (hn : o + n ≤ F.length) : w.there d o n := fun j hj => by
  rw [h.cell (by omega)]
  exact ⟨rfl, h.fr _ (by omega)⟩
theorem Dt.range {w : World} {d : Nat} {F : List Int} (h : Dt w d F) (o n : Nat) : w.rangeAt d o (bv ((F.drop o).take n)) := fun j v hv => by
  have hj : j < ((F.drop o).take n).length := by have := (List.getElem?_eq_some_iff.1 hv).1; rwa [bv_len] at this
  have hj2 : o + j < F.length := by simp at hj; omega
  rw [bv_get hj] at hv
  cases hv
  rw [h.cell hj2]
  simp at hj
  rw [List.getD_eq_getElem?_getD, List.getD_eq_getElem?_getD, List.getElem?_take_of_lt (by omega), List.getElem?_drop]
theorem Dt.sl {w : World} {d : Nat} {F : List Int} (h : Dt w d F) (o n : Nat) (hn : o + n ≤ F.length) (hb : n ≤ maxLen) : Sl .u8 w (some ⟨d, o, none⟩) n ((F.drop o).take n) := by
  refine ⟨by simp; omega, hb, fun _ => ⟨d, o, rfl, h.lt, fun i hi => ?_⟩⟩
  rw [h.cell (by omega), List.getD_eq_getElem?_getD, List.getD_eq_getElem?_getD, List.getElem?_take_of_lt hi, List.getElem?_drop]
/-- What is written into bytes at a place. -/
def putL (F : List Int) (o : Nat) (v : List Int) : List Int := F.take o ++ v ++ F.drop (o + v.length)
theorem putL_len {F v : List Int} {o : Nat} (h : o + v.length ≤ F.length) : (putL F o v).length = F.length := by simp [putL]; omega
theorem putL_out {F v : List Int} {o i : Nat} (h : o + v.length ≤ F.length) (hi : i < o ∨ o + v.length ≤ i) : (putL F o v).getD i 0 = F.getD i 0 := by
  rw [List.getD_eq_getElem?_getD, List.getD_eq_getElem?_getD]
  unfold putL
  rcases hi with hi | hi
  · rw [List.append_assoc, List.getElem?_append_left (by simp; omega), List.getElem?_take_of_lt hi]
  · rw [List.getElem?_append_right (by simp; omega), List.getElem?_drop]
    congr 2
    simp
    omega
theorem putL_in {F v : List Int} {o i : Nat} (h : o + v.length ≤ F.length) (h1 : o ≤ i) (h2 : i < o + v.length) : (putL F o v).getD i 0 = v.getD (i - o) 0 := by
  rw [List.getD_eq_getElem?_getD, List.getD_eq_getElem?_getD]
  unfold putL
  rw [List.append_assoc, List.getElem?_append_right (by simp; omega), List.getElem?_append_left (by simp; omega)]
  congr 2
  simp
  omega
theorem setCells_size (b : Nat) : ∀ (vs : List Value) (o : Nat) (w : World), (w.setCells b o vs).heap.size = w.heap.size
  | [], _, _ => rfl
  | v :: r, o, w => by rw [World.setCells, setCells_size b r]; simp [World.setCell]
theorem Chg.setCells {S : Nat → Prop} {x : World} {b : Nat} (hp : S b ∨ x.heap.size ≤ b) : ∀ (vs : List Value) (o : Nat) (y : World), Chg S x y → Chg S x (y.setCells b o vs)
  | [], _, _, h => h
  | v :: r, o, y, h => by
    rw [World.setCells]
    exact Chg.setCells hp r (o + 1) _ (h.setCell (p := ⟨b, o, none⟩) hp v)
theorem Dt.put {w : World} {d : Nat} {F : List Int} (h : Dt w d F) (o : Nat) (v : List Int) (ho : o + v.length ≤ F.length) : Dt (w.setCells d o (bv v)) d (putL F o v) := by
  have hl := putL_len ho
  refine .of (by rw [setCells_size]; exact h.lt) (fun i hi => ?_) (fun i hi => by rw [World.frozen?_setCells]; exact h.fr i (by omega))
  by_cases hin : o ≤ i ∧ i < o + v.length
  · obtain ⟨j, rfl⟩ : ∃ j, i = o + j := ⟨i - o, by omega⟩
    rw [World.cell?_setCells_in d (bv v) o w (fun j hj => (h.there (o := o) (n := v.length) ho j (by rwa [bv_len] at hj)).1) j (by rw [bv_len]; omega), putL_in ho (by omega) (by omega), show o + j - o = j by omega]
    have := bv_get (l := v) (i := j) (by omega)
    rw [List.getElem?_eq_getElem (by rw [bv_len]; omega)] at this
    exact this
  · rw [World.cell?_setCells_out d (bv v) o w ⟨d, i, none⟩ (fun _ _ => by rw [bv_len]; show i < o ∨ o + v.length ≤ i; omega), h.cell (by omega), putL_out ho (by omega)]
/-- Block i of them. -/
def blk (F : List Int) (i : Nat) : List Int := (F.drop (i * 32)).take 32
theorem blk_len {F : List Int} {N i : Nat} (h : F.length = N * 32) (hi : i < N) : (blk F i).length = 32 := by simp [blk]; omega
theorem ext_getD {l m : List Int} (h : l.length = m.length) (g : ∀ j, j < l.length → l.getD j 0 = m.getD j 0) : l = m := by
  refine List.ext_getElem h fun i h1 h2 => ?_
  have := g i h1
  simpa [List.getD, h1, h2] using this
theorem blk_getD {F : List Int} {i j : Nat} (hj : j < 32) : (blk F i).getD j 0 = F.getD (i * 32 + j) 0 := by
  rw [List.getD_eq_getElem?_getD, List.getD_eq_getElem?_getD]
  unfold blk
  rw [List.getElem?_take_of_lt hj, List.getElem?_drop]
theorem blk_putL {F v : List Int} {N n i : Nat} (h : F.length = N * 32) (hn : n < N) (hi : i < N) (hv : v.length ≤ 32) : blk (putL F (n * 32) v) i = if i = n then v ++ (blk F n).drop v.length else blk F i := by
  have hl := putL_len (F := F) (v := v) (o := n * 32) (by omega)
  have e1 := blk_len (F := putL F (n * 32) v) (N := N) (by omega) hi
  by_cases hin : i = n
  · subst hin
    rw [if_pos rfl]
    have e2 := blk_len h hi
    refine ext_getD (by simp [e1, e2]; omega) fun j hj => ?_
    rw [blk_getD (by omega)]
    by_cases hjv : j < v.length
    · rw [putL_in (by omega) (by omega) (by omega), show i * 32 + j - i * 32 = j by omega, List.getD_eq_getElem?_getD, List.getD_eq_getElem?_getD, List.getElem?_append_left hjv]
    · rw [putL_out (by omega) (by omega), ← blk_getD (by omega), List.getD_eq_getElem?_getD, List.getD_eq_getElem?_getD, List.getElem?_append_right (by omega), List.getElem?_drop]
      congr 2
      omega
  · rw [if_neg hin]
    have e2 := blk_len h hi
    refine ext_getD (by omega) fun j hj => ?_
    rw [blk_getD (by omega), blk_getD (by omega), putL_out (by omega) (by omega)]

/-- A file: its bytes, whether its power is off, the stop that waits, how many writes. -/
structure Bf where
  F : List Int
  off : Bool
  wt : Bool
  be : Int
  by_ : Int
  wr : Int
/-- A file in memory: its own block f, its bytes in d. -/
structure Fl (w : World) (f d N : Nat) (s : Bf) : Prop where
  c0 : ∃ K, w.cell? ⟨f, 0, none⟩ = some (.slice (some ⟨d, 0, none⟩) N K)
  c1 : w.cell? ⟨f, 1, none⟩ = some (.bool s.off)
  c2 : w.cell? ⟨f, 2, none⟩ = some (.bool s.wt)
  c3 : w.cell? ⟨f, 3, none⟩ = some (.int .i64 s.be)
  c4 : w.cell? ⟨f, 4, none⟩ = some (.int .i64 s.by_)
  c5 : w.cell? ⟨f, 5, none⟩ = some (.int .i64 s.wr)
  fz : ∀ i, i < 6 → w.frozen? ⟨f, i, none⟩ = false
  lt : f < w.heap.size
  dt : Dt w d s.F
  ne : d ≠ f
  len : s.F.length = N * 32
  big : N ≤ 4096
  isb : ∀ x ∈ s.F, isB x
theorem Fl.chg {S : Nat → Prop} {w w' : World} {f d N : Nat} {s : Bf} (h : Fl w f d N s) (g : Chg S w w') (hf : ¬ S f) (hd : ¬ S d) : Fl w' f d N s :=
  ⟨h.c0.imp fun K e => (g.cell (p := ⟨f, 0, none⟩) h.lt hf).trans e, (g.cell (p := ⟨f, 1, none⟩) h.lt hf).trans h.c1, (g.cell (p := ⟨f, 2, none⟩) h.lt hf).trans h.c2, (g.cell (p := ⟨f, 3, none⟩) h.lt hf).trans h.c3, (g.cell (p := ⟨f, 4, none⟩) h.lt hf).trans h.c4, (g.cell (p := ⟨f, 5, none⟩) h.lt hf).trans h.c5,
   fun i hi => (g.frozen (p := ⟨f, i, none⟩) h.lt hf).trans (h.fz i hi), Nat.lt_of_lt_of_le h.lt g.size, h.dt.chg g hd, h.ne, h.len, h.big, h.isb⟩
theorem Fl.kept {w w' : World} {f d N : Nat} {s : Bf} (h : Fl w f d N s) (g : Kept w w') : Fl w' f d N s := h.chg (S := fun _ => False) (Chg.of_kept g) (fun e => e) (fun e => e)
/-- The blocks of a file. -/
def Of (f d : Nat) (j : Nat) : Prop := j = f ∨ j = d

theorem made_get {z : Array Value} {m i : Nat} (hi : i < m) : (madeCells z m)[i]? = some (z[i % z.size]!) := by
  simp [madeCells, hi]
def zerosD : Array Value := Array.replicate 32 (.int .u8 0)
theorem dinfo : ∃ i0, Try.prog.info? 90 = some i0 ∧ i0.zero = some (.agg zerosD) ∧ i0.size = 32 ∧ i0.bytes = 32 := by
  have h : (Try.prog.info? 90).map (fun i => (i.zero, i.size, i.bytes)) = some (some (.agg zerosD), 32, 32) := by kernel_rfl
  exact info_parts h
theorem zerosD_get (k : Nat) (h : k < 32) : zerosD[k]! = .int .u8 0 := by simp [zerosD, h]
theorem run_make32 (n : Nat) (hn : n ≤ 4096) (w : World) : (Instr.makeSlice 69 (.int .i64 n) (.int .i64 n)).run Try.prog w = .ok (.slice (some ⟨w.heap.size, 0, none⟩) n n) (w.alloc (.cells (madeCells zerosD (n * 32)) 90)) := by
  obtain ⟨i0, hi0, hz0, hz1, hz2⟩ := dinfo
  have h := run_make (P := Try.prog) w 69 90 i0 _ Try.underlying69 hi0 hz0 .i64 .i64 n n (by omega) (by omega) (by rw [hz2]; omega) (by omega)
  simpa [hz1, Value.cells] using h
theorem new_dt (w : World) (n : Nat) (t : TypeId) : Dt (w.alloc (.cells (madeCells zerosD (n * 32)) t)) w.heap.size (List.replicate (n * 32) 0) := by
  refine .of (by simp) (fun i hi => ?_) (fun i hi => ?_)
  · rw [List.length_replicate] at hi
    have h1 := made_get (z := zerosD) hi
    have h2 := zerosD_get (i % 32) (Nat.mod_lt _ (by omega))
    rw [show zerosD.size = 32 by simp [zerosD], h2] at h1
    simp [h1, List.getD, hi]
  · simp
def news (N : Nat) : Bf := ⟨List.replicate (N * 32) 0, false, false, 0, 0, 0⟩
theorem rep_isB (n : Nat) : ∀ x ∈ List.replicate n (0 : Int), isB x := by
  intro x hx
  rw [List.eq_of_mem_replicate hx]
  unfold isB; omega
theorem new_fl (w : World) (m : Nat) (hm : m ≤ 4096) (t t' : TypeId) : Fl ((w.alloc (.cells (madeCells zerosD (m * 32)) t)).alloc (.cells #[.slice (some ⟨w.heap.size, 0, none⟩) m m, .bool false, .bool false, .int .i64 0, .int .i64 0, .int .i64 0] t')) (w.heap.size + 1) w.heap.size m (news m) := by
  have hs : (w.alloc (.cells (madeCells zerosD (m * 32)) t)).heap.size = w.heap.size + 1 := by simp
  generalize hW : w.alloc (.cells (madeCells zerosD (m * 32)) t) = W at *
  have hd : Dt W w.heap.size (news m).F := by rw [← hW]; exact new_dt w m t
  rw [← hs]
  refine ⟨?_, ?_, ?_, ?_, ?_, ?_, fun i hi => ?_, ?_, hd.kept ((Kept.refl _).alloc _), by omega, by simp [news], hm, rep_isB _⟩
  all_goals simp [news]
set_option maxHeartbeats 1000000 in
theorem bk_New (n : Int) (w : World) : Calls Try.prog 20 #[.int .i64 n] w fun e w' =>
    if 1 ≤ n ∧ n ≤ 4096 then ∃ f d, e = .returned (.tuple #[.pointer (some ⟨f, 0, none⟩), .int .i64 0]) ∧ w.heap.size ≤ f ∧ w.heap.size ≤ d ∧ Fl w' f d n.toNat (news n.toNat) ∧ Kept w w'
    else e = .returned (.tuple #[.pointer none, .int .i64 2]) ∧ w' = w := by
  by_cases h : 1 ≤ n ∧ n ≤ 4096
  · simp only [if_pos h]
    obtain ⟨h1, h2⟩ := h
    obtain ⟨m, rfl⟩ : ∃ m : Nat, n = m := ⟨n.toNat, by omega⟩
    rw [Int.toNat_natCast]
    have hmk := fun W => run_make32 m (by omega) W
    have HF := hidMk (new_fl w m (by omega) 90 73)
    go_enter Try.func20, Try.ntmps20
    go_wp2_with fail
    go_ret2
    exact ⟨_, _, rfl, Nat.le_succ _, Nat.le_refl _, HF.out, ((Kept.refl _).alloc _).alloc _⟩
  · simp only [if_neg h]
    by_cases h1 : n < 1
    · go_enter Try.func20, Try.ntmps20
      go_wp2_with fail
      go_ret2
      exact ⟨rfl, rfl⟩
    · have h2 : 4096 < n := by omega
      have h3 : 1 ≤ n := by omega
      clear h h1
      go_enter Try.func20, Try.ntmps20
      go_wp2_with fail
      go_ret2
      exact ⟨rfl, rfl⟩

theorem Chg.own {f : Nat} {x y : World} (h : Chg (fun j => j = f) x y) (i : Nat) (u : Value) : Chg (fun j => j = f) x (y.setCell ⟨f, i, none⟩ u) := h.setCell (p := ⟨f, i, none⟩) (.inl (show f = f from rfl)) u
section
variable {w : World} {f d N : Nat} {s : Bf}
theorem so {w : World} {p q : Addr} {u v : Value} (h : w.cell? q = some v) (hne : p ≠ q) : (w.setCell p u).cell? q = some v := (World.cell?_setCell_other _ _ _ _ hne).trans h
theorem Fl.dset (h : Fl w f d N s) (i : Nat) (u : Value) : Dt (w.setCell ⟨f, i, none⟩ u) d s.F := h.dt.chg (S := fun j => j = f) ((Chg.refl _ _).own i u) h.ne
theorem Fl.lset (h : Fl w f d N s) (i : Nat) (u : Value) : f < (w.setCell ⟨f, i, none⟩ u).heap.size := by simpa [World.setCell] using h.lt
theorem Fl.fset (h : Fl w f d N s) (i : Nat) (u : Value) : ∀ j, j < 6 → (w.setCell ⟨f, i, none⟩ u).frozen? ⟨f, j, none⟩ = false := fun j hj => by rw [World.frozen?_setCell]; exact h.fz j hj
theorem Fl.set1 (h : Fl w f d N s) (b : Bool) : Fl (w.setCell ⟨f, 1, none⟩ (.bool b)) f d N { s with off := b } :=
  ⟨h.c0.imp fun K e => so e (by simp), World.cell?_setCell_same _ _ _ h.c1, so h.c2 (by simp), so h.c3 (by simp), so h.c4 (by simp), so h.c5 (by simp), h.fset _ _, h.lset _ _, h.dset _ _, h.ne, h.len, h.big, h.isb⟩
theorem Fl.set2 (h : Fl w f d N s) (b : Bool) : Fl (w.setCell ⟨f, 2, none⟩ (.bool b)) f d N { s with wt := b } :=
  ⟨h.c0.imp fun K e => so e (by simp), so h.c1 (by simp), World.cell?_setCell_same _ _ _ h.c2, so h.c3 (by simp), so h.c4 (by simp), so h.c5 (by simp), h.fset _ _, h.lset _ _, h.dset _ _, h.ne, h.len, h.big, h.isb⟩
theorem Fl.set3 (h : Fl w f d N s) (x : Int) : Fl (w.setCell ⟨f, 3, none⟩ (.int .i64 x)) f d N { s with be := x } :=
  ⟨h.c0.imp fun K e => so e (by simp), so h.c1 (by simp), so h.c2 (by simp), World.cell?_setCell_same _ _ _ h.c3, so h.c4 (by simp), so h.c5 (by simp), h.fset _ _, h.lset _ _, h.dset _ _, h.ne, h.len, h.big, h.isb⟩
theorem Fl.set4 (h : Fl w f d N s) (x : Int) : Fl (w.setCell ⟨f, 4, none⟩ (.int .i64 x)) f d N { s with by_ := x } :=
  ⟨h.c0.imp fun K e => so e (by simp), so h.c1 (by simp), so h.c2 (by simp), so h.c3 (by simp), World.cell?_setCell_same _ _ _ h.c4, so h.c5 (by simp), h.fset _ _, h.lset _ _, h.dset _ _, h.ne, h.len, h.big, h.isb⟩
theorem Fl.set5 (h : Fl w f d N s) (x : Int) : Fl (w.setCell ⟨f, 5, none⟩ (.int .i64 x)) f d N { s with wr := x } :=
  ⟨h.c0.imp fun K e => so e (by simp), so h.c1 (by simp), so h.c2 (by simp), so h.c3 (by simp), so h.c4 (by simp), World.cell?_setCell_same _ _ _ h.c5, h.fset _ _, h.lset _ _, h.dset _ _, h.ne, h.len, h.big, h.isb⟩
theorem Fl.put (h : Fl w f d N s) (o : Nat) (v : List Int) (ho : o + v.length ≤ s.F.length) (hv : ∀ x ∈ v, isB x) : Fl (w.setCells d o (bv v)) f d N { s with F := putL s.F o v } := by
  have g : Chg (fun j => j = d) w (w.setCells d o (bv v)) := Chg.setCells (S := fun j => j = d) (.inl (show d = d from rfl)) _ _ _ (Chg.refl _ _)
  have hf : ¬ f = d := fun e => h.ne e.symm
  refine ⟨h.c0.imp fun K e => (g.cell (p := ⟨f, 0, none⟩) h.lt hf).trans e, (g.cell (p := ⟨f, 1, none⟩) h.lt hf).trans h.c1, (g.cell (p := ⟨f, 2, none⟩) h.lt hf).trans h.c2, (g.cell (p := ⟨f, 3, none⟩) h.lt hf).trans h.c3, (g.cell (p := ⟨f, 4, none⟩) h.lt hf).trans h.c4, (g.cell (p := ⟨f, 5, none⟩) h.lt hf).trans h.c5,
    fun i hi => (g.frozen (p := ⟨f, i, none⟩) h.lt hf).trans (h.fz i hi), Nat.lt_of_lt_of_le h.lt g.size, h.dt.put o v ho, h.ne, (putL_len ho).trans h.len, h.big, fun x hx => ?_⟩
  rcases List.mem_append.1 hx with hx | hx
  · rcases List.mem_append.1 hx with hx | hx
    · exact h.isb x (List.mem_of_mem_take hx)
    · exact hv x hx
  · exact h.isb x (List.mem_of_mem_drop hx)

theorem bk_Size (h : Fl w f d N s) : Calls Try.prog 44 #[.pointer (some ⟨f, 0, none⟩)] w fun e w' => e = .returned (.int .i64 N) ∧ w' = w := by
  obtain ⟨KC, c0⟩ := h.c0
  clear h
  go_enter Try.func44, Try.ntmps44
  go_wp2_with fail
  go_ret
  exact ⟨rfl, rfl⟩
theorem bk_Off (h : Fl w f d N s) : Calls Try.prog 32 #[.pointer (some ⟨f, 0, none⟩)] w fun e w' => e = .returned (.bool s.off) ∧ w' = w := by
  have c0 := h.c1
  clear h
  generalize s.off = b at *
  go_enter Try.func32, Try.ntmps32
  go_wp2_with fail
  go_ret
  exact ⟨rfl, rfl⟩
theorem bk_Writes (h : Fl w f d N s) : Calls Try.prog 30 #[.pointer (some ⟨f, 0, none⟩)] w fun e w' => e = .returned (.int .i64 s.wr) ∧ w' = w := by
  have c0 := h.c5
  clear h
  generalize s.wr = b at *
  go_enter Try.func30, Try.ntmps30
  go_wp2_with fail
  go_ret
  exact ⟨rfl, rfl⟩
def upS (s : Bf) : Bf := ⟨s.F, false, false, 0, 0, s.wr⟩
theorem bk_Up (h : Fl w f d N s) : Calls Try.prog 16 #[.pointer (some ⟨f, 0, none⟩)] w fun e w' => e = .returned (.int .i64 0) ∧ Fl w' f d N (upS s) ∧ Chg (fun j => j = f) w w' := by
  have H := hidMk h
  obtain ⟨_, c1, c2, c3, c4, c5, fz, _, _, _, _, _, _⟩ := h
  have f1 := fz 1 (by omega)
  have f2 := fz 2 (by omega)
  have f3 := fz 3 (by omega)
  have f4 := fz 4 (by omega)
  clear fz
  go_enter Try.func16, Try.ntmps16
  go_wp2_with fail
  go_ret
  exact ⟨rfl, (((H.out.set1 false).set2 false).set3 0).set4 0, ((((Chg.refl _ _).own _ _).own _ _).own _ _).own _ _⟩
def stE (s : Bf) (x y : Int) : Int := if x < 0 ∨ y < 0 ∨ 32 < y then 2 else if s.off then 21 else 0
def stS (s : Bf) (x y : Int) : Bf := if stE s x y = 0 then ⟨s.F, s.off, true, x, y, s.wr⟩ else s
set_option maxHeartbeats 1000000 in
theorem bk_Stop (h : Fl w f d N s) (x y : Int) : Calls Try.prog 15 #[.pointer (some ⟨f, 0, none⟩), .int .i64 x, .int .i64 y] w fun e w' => e = .returned (.int .i64 (stE s x y)) ∧ Fl w' f d N (stS s x y) ∧ Chg (fun j => j = f) w w' := by
  have H := hidMk h
  obtain ⟨_, c1, c2, c3, c4, c5, fz, _, _, _, _, _, _⟩ := h
  have f2 := fz 2 (by omega)
  have f3 := fz 3 (by omega)
  have f4 := fz 4 (by omega)
  clear fz
  by_cases hb : x < 0 ∨ y < 0 ∨ 32 < y
  · have HE := hidMk (show stE s x y = 2 from if_pos hb)
    have HS := hidMk (show stS s x y = s by unfold stS; rw [HE.out]; rfl)
    by_cases h1 : x < 0
    · clear hb
      go_enter Try.func15, Try.ntmps15
      go_wp2_with fail
      go_ret
      rw [HE.out, HS.out]
      exact ⟨rfl, H.out, Chg.refl _ _⟩
    · have h1' : 0 ≤ x := by omega
      by_cases h2 : y < 0
      · clear hb h1
        go_enter Try.func15, Try.ntmps15
        go_wp2_with fail
        go_ret
        rw [HE.out, HS.out]
        exact ⟨rfl, H.out, Chg.refl _ _⟩
      · have h2' : 0 ≤ y := by omega
        have h3 : 32 < y := by omega
        clear hb h1 h2
        go_enter Try.func15, Try.ntmps15
        go_wp2_with fail
        go_ret
        rw [HE.out, HS.out]
        exact ⟨rfl, H.out, Chg.refl _ _⟩
  · have h1 : 0 ≤ x := by omega
    have h2 : 0 ≤ y := by omega
    have h3 : y ≤ 32 := by omega
    cases ho : s.off with
    | true =>
      have HE := hidMk (show stE s x y = 21 by unfold stE; rw [if_neg hb, ho]; rfl)
      have HS := hidMk (show stS s x y = s by unfold stS; rw [HE.out]; rfl)
      rw [ho] at c1
      clear hb ho
      go_enter Try.func15, Try.ntmps15
      go_wp2_with fail
      go_ret
      rw [HE.out, HS.out]
      exact ⟨rfl, H.out, Chg.refl _ _⟩
    | false =>
      have HE := hidMk (show stE s x y = 0 by unfold stE; rw [if_neg hb, ho]; rfl)
      have HS := hidMk (show stS s x y = ⟨s.F, s.off, true, x, y, s.wr⟩ by unfold stS; rw [HE.out]; rfl)
      rw [ho] at c1
      clear hb ho
      go_enter Try.func15, Try.ntmps15
      go_wp2_with fail
      go_ret
      rw [HE.out, HS.out]
      exact ⟨rfl, (((H.out.set2 true).set3 x).set4 y), (((Chg.refl _ _).own _ _).own _ _).own _ _⟩
/-- Why a block can not be reached. -/
def bad (s : Bf) (N : Nat) (n : Int) : Int := if s.off then 21 else if n < 0 ∨ (N : Int) ≤ n then 17 else 0
set_option maxHeartbeats 1000000 in
theorem bk_reach (h : Fl w f d N s) (n : Int) : Calls Try.prog 50 #[.pointer (some ⟨f, 0, none⟩), .int .i64 n] w fun e w' => e = .returned (.int .i64 (bad s N n)) ∧ w' = w := by
  obtain ⟨KC, c0⟩ := h.c0
  have c1 := h.c1
  clear h
  unfold bad
  cases ho : s.off with
  | true =>
    rw [ho] at c1
    rw [if_pos rfl]
    clear ho
    go_enter Try.func50, Try.ntmps50
    go_wp2_with fail
    go_ret
    exact ⟨rfl, rfl⟩
  | false =>
    rw [ho] at c1
    rw [if_neg (by simp)]
    clear ho
    by_cases h1 : n < 0
    · rw [if_pos (.inl h1)]
      go_enter Try.func50, Try.ntmps50
      go_wp2_with fail
      go_ret
      exact ⟨rfl, rfl⟩
    · have h1' : 0 ≤ n := by omega
      by_cases h2 : (N : Int) ≤ n
      · rw [if_pos (.inr h2)]
        clear h1
        go_enter Try.func50, Try.ntmps50
        go_wp2_with fail
        go_ret
        exact ⟨rfl, rfl⟩
      · rw [if_neg (by omega)]
        have h2' : n < (N : Int) := by omega
        clear h1 h2
        go_enter Try.func50, Try.ntmps50
        go_wp2_with fail
        go_ret
        exact ⟨rfl, rfl⟩
/-- The stop that waits, behind the next write. -/
def cmS (s : Bf) : Bf := { s with be := if s.wt = true ∧ s.be ≠ 0 then s.be - 1 else s.be }
def cmB (s : Bf) : Bool := s.wt && decide (s.be = 0)
set_option maxHeartbeats 1000000 in
theorem bk_comes (h : Fl w f d N s) (h0 : 0 ≤ s.be) (h1 : s.be ≤ 9223372036854775807) : Calls Try.prog 51 #[.pointer (some ⟨f, 2, none⟩)] w fun e w' => e = .returned (.bool (cmB s)) ∧ Fl w' f d N (cmS s) ∧ Chg (fun j => j = f) w w' := by
  have H := hidMk h
  obtain ⟨F, off, wt, be, by_, wr⟩ := s
  obtain ⟨_, c1, c2, c3, c4, c5, fz, _, _, _, _, _, _⟩ := h
  have f3 := fz 3 (by omega)
  clear fz
  dsimp only at *
  cases wt with
  | false =>
    have HS := hidMk (show cmS ⟨F, off, false, be, by_, wr⟩ = ⟨F, off, false, be, by_, wr⟩ by simp [cmS])
    have HB := hidMk (show cmB ⟨F, off, false, be, by_, wr⟩ = false by rfl)
    go_enter Try.func51, Try.ntmps51
    go_wp2_with fail
    go_ret
    rw [HS.out, HB.out]
    exact ⟨rfl, H.out, Chg.refl _ _⟩
  | true =>
    by_cases hz : be = 0
    · subst hz
      have HS := hidMk (show cmS ⟨F, off, true, 0, by_, wr⟩ = ⟨F, off, true, 0, by_, wr⟩ by simp [cmS])
      have HB := hidMk (show cmB ⟨F, off, true, 0, by_, wr⟩ = true by rfl)
      go_enter Try.func51, Try.ntmps51
      go_wp2_with fail
      go_ret
      rw [HS.out, HB.out]
      exact ⟨rfl, H.out, Chg.refl _ _⟩
    · have HS := hidMk (show cmS ⟨F, off, true, be, by_, wr⟩ = ⟨F, off, true, be - 1, by_, wr⟩ by simp [cmS, hz])
      have HB := hidMk (show cmB ⟨F, off, true, be, by_, wr⟩ = false by simp [cmB, hz])
      have hz' : (be == 0) = false := by simpa using hz
      have hwp : wrap64 (be - 1) = be - 1 := by unfold wrap64; omega
      go_enter Try.func51, Try.ntmps51
      go_wp2_with fail
      go_ret
      rw [HS.out, HB.out]
      exact ⟨rfl, H.out.set3 _, (Chg.refl _ _).own _ _⟩
end
end Go.Proofs.Ytapcmkhpbdphoaa
