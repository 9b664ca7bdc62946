/- rec: sums as bytes, bytes that are equal, numbers ahead of a record. -/
import Derived.Test.YtapcmkhpbdphoaaRec1
namespace Go.Proofs.Ytapcmkhpbdphoaa
open Go.RowKit Go.Maps
set_option linter.unusedSimpArgs false
set_option linter.unusedVariables false

/-- Four bytes in a block of their own. -/
structure Y4 (w : World) (g : Nat) (m : Nat → Int) : Prop where
  lt : g < w.heap.size
  c : ∀ j, j < 4 → w.cell? ⟨g, j, none⟩ = some (.int .u8 (m j)) ∧ w.frozen? ⟨g, j, none⟩ = false
theorem Y4.set {w : World} {g : Nat} {m : Nat → Int} (h : Y4 w g m) (k : Nat) (hk : k < 4) (x : Int) : Y4 (w.setCell ⟨g, k, none⟩ (.int .u8 x)) g (fun j => if j = k then x else m j) :=
  ⟨by simpa [World.setCell] using h.lt, fun j hj => by
    refine ⟨?_, by rw [World.frozen?_setCell]; exact (h.c j hj).2⟩
    by_cases e : j = k
    · subst e
      rw [if_pos rfl]
      exact World.cell?_setCell_same _ _ _ (h.c j hj).1
    · rw [if_neg e]
      exact (World.cell?_setCell_other _ _ _ _ (by simp <;> omega)).trans (h.c j hj).1⟩
theorem Y4.congr {w : World} {g : Nat} {m m' : Nat → Int} (h : Y4 w g m) (e : ∀ j, j < 4 → m j = m' j) : Y4 w g m' := ⟨h.lt, fun j hj => by rw [← e j hj]; exact h.c j hj⟩
def z4 : Array Value := madeCells #[Value.int .u8 0] 4
theorem z4_get (i : Nat) (hi : i < 4) : z4[i]? = some (.int .u8 0) := by simp [z4, madeCells, hi, Nat.mod_one]
theorem run_make4 (w : World) : (Instr.makeSlice 33 (.int .i64 4) (.int .i64 4)).run Try.prog w = .ok (.slice (some ⟨w.heap.size, 0, none⟩) 4 4) (w.alloc (.cells z4 5)) := by
  obtain ⟨i0, hi0, hz0, hz1, hz2⟩ := u8info
  have h := run_make (P := Try.prog) w 33 5 i0 _ Try.underlying33 hi0 hz0 .i64 .i64 4 4 (by omega) (by omega) (by rw [hz2]; omega) (by omega)
  rw [hz1] at h
  exact h
def sbA (s : Nat) (j : Nat) : Int := (sb s).getD j 0
set_option maxHeartbeats 2000000 in
theorem rec_sumBytes (a : Option Addr) (n c : Nat) (l : List Int) (w : World) (hs : Sl .u8 w a n l) (hb : ∀ x ∈ l, isB x) :
    Calls Try.prog 41 #[.slice a n c] w fun e w' => ∃ g, e = .returned (.slice (some ⟨g, 0, none⟩) 4 4) ∧ w.heap.size ≤ g ∧ Sl .u8 w' (some ⟨g, 0, none⟩) 4 (sb (sumN l)) ∧ Kept w w' := by
  have HS := hidMk (rec_Sum a n c l w hs hb)
  have hlt := sumN_lt hb
  have HY0 := hidMk (show Y4 (w.alloc (.cells z4 5)) w.heap.size (fun j => if j < 0 then sbA (sumN l) j else 0) from ⟨by simp, fun j hj => by simp [z4_get j hj]⟩)
  have hmk := fun W => run_make4 W
  clear hs hb
  generalize sumN l = s at *
  go_enter Try.func41, Try.ntmps41
  go_wp2_with (go_at_call 56; refine HS.out.mono ?_; rintro e w1 ⟨rfl, rfl⟩)
  go_loopg [9] 4 (fun gg i wr => ∃ k : Nat, k + gg = 4 ∧ i = .int .i64 (k : Int) ∧ Hid (Y4 wr w1.heap.size (fun j => if j < k then sbA s j else 0)) ∧ Hid (Kept w1 wr))
  case atStart => exact ⟨0, by omega, rfl, HY0, hidMk ((Kept.refl _).alloc _)⟩
  case round =>
    obtain ⟨k, hkg, rfl, HY, HK⟩ := hrel
    have HKG := hidMk hkg
    by_cases hk : k < 4
    · obtain ⟨z1, z2⟩ := HY.out.c k hk
      have hk' : (k : Int) < 4 := by omega
      generalize (if k < k then sbA s k else 0) = y0 at *
      rcases (by omega : k = 0 ∨ k = 1 ∨ k = 2 ∨ k = 3) with rfl | rfl | rfl | rfl
      · clear hkg
        go_wp2_with fail
        go_roundg (gk - 1)
        case measure => have := HKG.out; omega
        case rel => exact ⟨1, by have := HKG.out; omega, by go_num, hidMk ((HY.out.set 0 (by omega) _).congr (fun j hj => by rcases (by omega : j = 0 ∨ j = 1 ∨ j = 2 ∨ j = 3) with rfl | rfl | rfl | rfl <;> simp [sbA, sb] <;> omega)), hidMk (HK.out.setCell (Nat.le_refl _) _)⟩
      · clear hkg
        go_wp2_with fail
        go_roundg (gk - 1)
        case measure => have := HKG.out; omega
        case rel => exact ⟨2, by have := HKG.out; omega, by go_num, hidMk ((HY.out.set 1 (by omega) _).congr (fun j hj => by rcases (by omega : j = 0 ∨ j = 1 ∨ j = 2 ∨ j = 3) with rfl | rfl | rfl | rfl <;> simp [sbA, sb] <;> omega)), hidMk (HK.out.setCell (Nat.le_refl _) _)⟩
      · clear hkg
        go_wp2_with fail
        go_roundg (gk - 1)
        case measure => have := HKG.out; omega
        case rel => exact ⟨3, by have := HKG.out; omega, by go_num, hidMk ((HY.out.set 2 (by omega) _).congr (fun j hj => by rcases (by omega : j = 0 ∨ j = 1 ∨ j = 2 ∨ j = 3) with rfl | rfl | rfl | rfl <;> simp [sbA, sb] <;> omega)), hidMk (HK.out.setCell (Nat.le_refl _) _)⟩
      · clear hkg
        go_wp2_with fail
        go_roundg (gk - 1)
        case measure => have := HKG.out; omega
        case rel => exact ⟨4, by have := HKG.out; omega, by go_num, hidMk ((HY.out.set 3 (by omega) _).congr (fun j hj => by rcases (by omega : j = 0 ∨ j = 1 ∨ j = 2 ∨ j = 3) with rfl | rfl | rfl | rfl <;> simp [sbA, sb] <;> omega)), hidMk (HK.out.setCell (Nat.le_refl _) _)⟩
    · have hk4 : k = 4 := by omega
      subst hk4
      go_wp2_with fail
      go_ret
      refine ⟨_, rfl, Nat.le_refl _, ⟨rfl, by unfold maxLen; omega, fun _ => ⟨_, _, rfl, HY.out.lt, fun i hi => ?_⟩⟩, HK.out⟩
      have := (HY.out.c i hi).1
      rw [if_pos hi] at this
      rw [Nat.zero_add]
      exact this

set_option maxHeartbeats 2000000 in
theorem slices_EqualB (a b : Option Addr) (n m c d : Nat) (l t : List Int) (w : World) (hl : Sl .u8 w a n l) (ht : Sl .u8 w b m t) :
    Calls Try.prog 62 #[.slice a n c, .slice b m d] w fun e w' => e = .returned (.bool (decide (l = t))) ∧ Kept w w' := by
  obtain ⟨r, hr⟩ : ∃ r, decide (l = t) = r := ⟨_, rfl⟩
  rw [hr]
  have HR := hidMk hr
  have HL := hidMk hl
  have HM := hidMk ht
  have n1 := hl.len
  have n2 := ht.len
  have b1 := hl.big
  have b2 := ht.big
  unfold maxLen at b1 b2
  clear hr hl ht
  by_cases hlen : n = m
  · have hne : ((n : Int) != (m : Int)) = false := by simp [hlen]
    go_enter Try.func62, Try.ntmps62
    have HLEN := hidMk hlen
    clear hlen
    go_wp2_with fail
    go_loopg [13] n (fun g x wr => ∃ (k q : Nat), k + g = n ∧ x = .int .i64 k ∧ wr = w.drewN q ∧ Hid (∀ j, j < k → l.getD j 0 = t.getD j 0))
    case atStart => exact ⟨0, 0, by omega, rfl, rfl, hidMk fun j hj => absurd hj (by omega)⟩
    case round =>
      obtain ⟨k, q, hkg, rfl, hwr, HJ⟩ := hrel
      have HKG := hidMk hkg
      subst hwr
      by_cases hkn : k < n
      · have hkm : k < m := by have := HLEN.out; omega
        obtain ⟨b1', o1, rfl, hlt1, hc1⟩ := HL.out.cells (by omega)
        obtain ⟨b2', o2, rfl, hlt2, hc2⟩ := HM.out.cells (by omega)
        have e1 := hc1 k hkn
        have e2 := hc2 k hkm
        have hn1 : (k : Int) < (n : Int) := by omega
        have hn2 : (k : Int) < (m : Int) := by omega
        clear hkg hc1 hc2
        by_cases he : l.getD k 0 = t.getD k 0
        · have HJ2 := hidMk (show ∀ j, j < k + 1 → l.getD j 0 = t.getD j 0 from fun j hj => by
            by_cases e : j = k
            · subst e; exact he
            · exact HJ.out j (by omega))
          rw [he] at e1
          clear he
          generalize t.getD k 0 = x at *
          go_wp2_with fail
          go_quiet (fail)
          go_wp2_with fail
          go_roundg (gk - 1)
          case measure => have := HKG.out; omega
          case rel => exact ⟨k + 1, q + nq, by have := HKG.out; omega, by go_num, by first | rfl | simp, HJ2⟩
        · have HF := hidMk (show r = false by rw [← HR.out]; exact decide_eq_false fun e => he (by rw [e]))
          have he' : (l.getD k 0 != t.getD k 0) = true := by simpa using he
          have he'' : (l.getD k 0 == t.getD k 0) = false := by simpa using he
          clear he
          generalize l.getD k 0 = x at *
          generalize t.getD k 0 = y at *
          go_wp2_with fail
          go_quiet (fail)
          go_wp2_with fail
          go_ret
          exact ⟨by rw [HF.out]; rfl, (((Kept.refl w).drewN q).drewN nq)⟩
      · have HF := hidMk (show r = true by
          rw [← HR.out]
          refine decide_eq_true (List.ext_getElem (by have := HLEN.out; omega) fun i h1 h2 => ?_)
          have := HJ.out i (by omega)
          simpa [List.getD, h1, h2] using this)
        have hkk : ¬ ((k : Int) < (n : Int)) := by omega
        go_wp2_with fail
        go_ret
        exact ⟨by rw [HF.out]; rfl, (Kept.refl w).drewN q⟩
  · have hne : ((n : Int) != (m : Int)) = true := by simp; omega
    have hne2 : ((n : Int) == (m : Int)) = false := by simp; omega
    have HF := hidMk (show r = false by rw [← HR.out]; exact decide_eq_false fun e => hlen (by rw [← n1, ← n2, e]))
    clear hlen
    go_enter Try.func62, Try.ntmps62
    go_wp2_with fail
    go_ret
    exact ⟨by rw [HF.out]; rfl, Kept.refl _⟩

theorem num_o (l : List Int) : numOV l 0 = numV l ∧ numOS l 0 = numS l ∧ numOE l 0 = numE l := by
  have h := numE_cases l
  unfold numOV numOS numOE
  rcases h with ⟨h1, h2⟩ | ⟨h1, h2, h3⟩
  · simp [h1]
  · have : numE l ≠ 0 := by omega
    simp [this, h2, h3]
set_option maxHeartbeats 1000000 in
theorem rec_number (a : Option Addr) (n c : Nat) (l : List Int) (w : World) (hs : Sl .u8 w a n l) (hb : ∀ x ∈ l, isB x) (hl : n ≤ 100000) :
    Calls Try.prog 64 #[.slice a n c] w fun e w' => e = .returned (.tuple #[.int .i64 (numV l), .int .i64 (numS l), .int .i64 (numE l)]) ∧ Kept w w' := by
  have HN := hidMk (wire_New a n c l w hs hb (by omega))
  obtain ⟨o1, o2, o3⟩ := num_o l
  have hlen := hs.len
  have hsz := numS_le l
  clear hs hb
  go_enter Try.func64, Try.ntmps64
  go_wp2_with fail
  refine HN.out.mono ?_
  rintro e w1 ⟨p, rfl, hp, r1, k1⟩
  have R1 := hidMk r1
  have K1 := hidMk k1
  clear r1 k1
  go_wp2_with fail
  refine (num_at R1.out).mono ?_
  rintro e w2 ⟨rfl, r2, b2⟩
  rw [o2, o3] at r2
  rw [o1]
  have R2 := hidMk r2
  have K2 := hidMk (But.kept K1.out hp b2)
  have HD := hidMk (show (l.drop (numS l)).length = n - numS l by rw [List.length_drop, hlen])
  clear r2 b2 o1 o2 o3 R1
  have HW := hidMk (show (n : Int) - ((n - numS l : Nat) : Int) = (numS l : Int) by omega)
  go_wp2_with (first
    | (go_at_call 67; refine (left_at R2.out).mono ?_; rintro e w3 ⟨rfl, hw3⟩; rw [hw3, HD.out]; clear hw3 w3)
    | (go_at_call 68; refine (why_at R2.out).mono ?_; rintro e w4 ⟨rfl, hw4⟩; rw [hw4]; clear hw4 w4))
  go_ret3
  refine ⟨?_, K2.out⟩
  show Ending.returned (.tuple #[.int .i64 (numV l), .int .i64 ((n : Int) - ((n - numS l : Nat) : Int)), .int .i64 (numE l)]) = _
  rw [HW.out]
/-- The number that the first bytes begin with is that of all. -/
theorem num_take (l : List Int) (k : Nat) (h : numE (l.take k) = 0) : numV (l.take k) = numV l ∧ numS (l.take k) = numS l ∧ numE l = 0 := by
  unfold numE at h
  cases hx : lastIx (l.take k) with
  | none => rw [hx] at h; cases h
  | some j =>
    rw [hx] at h
    by_cases hb : numBad (l.take k) j
    · simp only [if_pos hb] at h; omega
    · obtain ⟨h1, h2, h3⟩ := lastIx_spec hx
      have hjk : j < k := by rw [List.length_take] at h1; omega
      have hjl : j < l.length := by rw [List.length_take] at h1; omega
      have hg : ∀ i, i < k → (l.take k).getD i 0 = l.getD i 0 := fun i hi => by rw [List.getD_eq_getElem?_getD, List.getD_eq_getElem?_getD, List.getElem?_take_of_lt hi]
      have hy : lastIx l = some j := lastIx_at hjl (by rw [← hg j hjk]; exact h2) (fun i hi => by rw [← hg i (by omega)]; exact h3 i hi)
      have hb2 : ¬ numBad l j := by
        unfold numBad at hb ⊢
        rw [hg j hjk] at hb
        exact hb
      unfold numV numS numE
      rw [hx, hy]
      simp only [if_neg hb, if_neg hb2]
      rw [List.take_take, Nat.min_eq_left (by omega)]
      refine ⟨?_, ?_, ?_⟩ <;> first | rfl | trivial
/-- What is wrong with the number of a record. -/
def lenE (l : List Int) : Int := if numE l ≠ 0 then numE l else if numV l < 2 ∨ 251 < numV l then 6 else 0
def lenV (l : List Int) : Int := if lenE l = 0 then numV l - 1 else 0
def lenS (l : List Int) : Nat := if lenE l = 0 then numS l else 0
end Go.Proofs.Ytapcmkhpbdphoaa
