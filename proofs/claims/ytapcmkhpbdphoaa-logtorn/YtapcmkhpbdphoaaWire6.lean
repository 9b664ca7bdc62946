/- Readers: cut, ahead, within, Num, Count, Text. -/
import Derived.Test.YtapcmkhpbdphoaaWire5
import Derived.Test.YtapcmkhpbdphoaaByteRow2
namespace Go.Proofs.Ytapcmkhpbdphoaa
open Go.RowKit
set_option linter.unusedSimpArgs false
set_option linter.unusedVariables false

theorem Box.set0 {w : World} {b : Nat} {u v : Value} (h : Box w b u v) (x : Value) : Box (w.setCell ⟨b, 0, none⟩ x) b x v :=
  ⟨World.cell?_setCell_same _ _ _ h.z, (World.cell?_setCell_other _ _ _ _ (by simp)).trans h.o, by simp [h.fz], by simp [h.fo], by simpa [World.setCell] using h.lt⟩

set_option maxHeartbeats 1000000 in
theorem cut_at {w : World} {B b : Nat} {l : List Int} {y : Int} (h : Rd w B b l y) (k : Nat) (hk : k ≤ l.length) :
    Calls Try.prog 71 #[.pointer (some ⟨b, 0, none⟩), .int .i64 k] w fun e w' => ∃ a, e = .returned (.slice a k k) ∧ Sl .u8 w' a k (l.take k) ∧ Rd w' B b (l.drop k) y ∧ But b w w' := by
  obtain ⟨⟨a, n, c, hbox, hs, hn, hg⟩, hb⟩ := h
  have HX := hidMk hbox
  obtain ⟨h1, h2, h3, h4, h5⟩ := hbox
  have hl := hs.len
  have hbig := hs.big
  unfold maxLen at hbig
  have HB := hidMk (fun x hx => hb x (List.mem_of_mem_drop (i := k) hx))
  have HS := hidMk hs
  have HG := hidMk hg
  clear hs hg hb
  by_cases h0 : n = 0
  · subst h0
    have hk0 : k = 0 := by omega
    subst hk0
    have HN := hidMk (show l = [] from List.eq_nil_of_length_eq_zero hl)
    go_enter Try.func71, Try.ntmps71
    go_wp2
    go_ret
    refine ⟨a, rfl, sl_none (by rw [HN.out]; rfl), ⟨⟨a, 0, c, HX.out.set0 _, sl_none (by rw [HN.out]; rfl), Nat.zero_le _, fun hp => absurd hp (by omega)⟩, HB.out⟩, But.setCell _ _ _ _⟩
  · obtain ⟨b', o, rfl, hb', hcs⟩ := HS.out.cells (by omega)
    clear hcs
    go_enter Try.func71, Try.ntmps71
    go_wp2
    · go_ret
      have e : n = k := by omega
      subst e
      refine ⟨_, rfl, (sl_take HS.out n (by omega)).but (But.setCell _ _ _ _) (fun hp ad ha => ?_), ⟨⟨_, _, _, HX.out.set0 _, ?_, by omega, fun hp => absurd hp (by omega)⟩, HB.out⟩, But.setCell _ _ _ _⟩
      · have := HG.out (by omega) ad ha
        omega
      · rw [Nat.sub_self]
        exact sl_none (List.drop_of_length_le (by omega))
    · go_ret
      refine ⟨_, rfl, (sl_take HS.out k (by omega)).but (But.setCell _ _ _ _) (fun hp ad ha => ?_), ⟨⟨_, _, _, HX.out.set0 _, (sl_drop HS.out k (by omega)).but (But.setCell _ _ _ _) (fun hp ad ha => ?_), by omega, fun hp ad ha => ?_⟩, HB.out⟩, But.setCell _ _ _ _⟩
      · have := HG.out (by omega) ad ha
        omega
      · cases ha
        have := HG.out (by omega) _ rfl
        simp at this ⊢
        omega
      · cases ha
        exact HG.out (by omega) ⟨b', o, none⟩ rfl

theorem ahead_nil (lo hi : Int) (w : World) : Calls Try.prog 70 #[.pointer none, .int .i64 lo, .int .i64 hi] w fun e w' => e = .returned (.tuple #[.int .i64 0, .int .i64 0]) ∧ w' = w := by
  go_enter Try.func70, Try.ntmps70
  go_wp2_with (go_at_call 68; refine (why_nil _).mono ?_; rintro e w1 ⟨rfl, rfl⟩)
  go_ret2
  exact ⟨rfl, rfl⟩

def outE (l : List Int) (y lo hi : Int) : Int := if y ≠ 0 then y else if numE l ≠ 0 then numE l else if numV l < lo ∨ hi < numV l then 5 else 0
def outV (l : List Int) (y lo hi : Int) : Int := if outE l y lo hi = 0 then numV l else 0
def outS (l : List Int) (y lo hi : Int) : Nat := if outE l y lo hi = 0 then numS l else 0
theorem outS_le (l : List Int) (y lo hi : Int) : outS l y lo hi ≤ l.length := by
  unfold outS; split
  · exact numS_le l
  · omega

set_option maxHeartbeats 1000000 in
theorem ahead_at {w : World} {B b : Nat} {l : List Int} {y : Int} (h : Rd w B b l y) (lo hi : Int) :
    Calls Try.prog 70 #[.pointer (some ⟨b, 0, none⟩), .int .i64 lo, .int .i64 hi] w fun e w' => e = .returned (.tuple #[.int .i64 (outV l y lo hi), .int .i64 (outS l y lo hi)]) ∧ Rd w' B b l (outE l y lo hi) ∧ But b w w' := by
  have HR := hidMk h
  obtain ⟨⟨a, n, c, hbox, hs, hn, hg⟩, hb⟩ := h
  obtain ⟨h1, h2, h3, h4, h5⟩ := hbox
  have HS := hidMk hs
  have HB := hidMk hb
  clear hs hg hb hn
  by_cases hy : y = 0
  · subst hy
    rcases numE_cases l with ⟨he, hsz⟩ | ⟨he, hs0, hv0⟩
    · by_cases hr : numV l < lo ∨ hi < numV l
      · have HE := hidMk (show outE l 0 lo hi = 5 ∧ outV l 0 lo hi = 0 ∧ outS l 0 lo hi = 0 by
          have e : outE l 0 lo hi = 5 := by unfold outE; rw [if_neg (by simp), if_neg (by simp [he]), if_pos hr]
          unfold outV outS; rw [e]; exact ⟨rfl, rfl, rfl⟩)
        have hc := wire_number a n c l
        rw [he] at hc
        have HC := hidMk hc
        clear hc he hsz
        generalize numV l = v at *
        generalize numS l = m at *
        by_cases hr1 : v < lo
        · clear hr
          go_enter Try.func70, Try.ntmps70
          go_wp2_with (first | (go_at_call 68; refine (why_at HR.out).mono ?_; rintro e w1 ⟨rfl, rfl⟩) | (go_at_call 72; refine (HC.out _ HS.out HB.out).mono ?_; rintro e w1 ⟨rfl, k1⟩) | (go_at_call 73; refine (fail_at (HR.out.kept k1) 5).mono ?_; rintro e w2 ⟨rfl, r2, b2⟩))
          go_ret2
          obtain ⟨e1, e2, e3⟩ := HE.out
          rw [e1, e2, e3]
          exact ⟨rfl, r2, (But.of_kept k1).trans b2⟩
        · have hr2 : hi < v := by omega
          have hr3 : lo ≤ v := by omega
          clear hr hr1
          go_enter Try.func70, Try.ntmps70
          go_wp2_with (first | (go_at_call 68; refine (why_at HR.out).mono ?_; rintro e w1 ⟨rfl, rfl⟩) | (go_at_call 72; refine (HC.out _ HS.out HB.out).mono ?_; rintro e w1 ⟨rfl, k1⟩) | (go_at_call 73; refine (fail_at (HR.out.kept k1) 5).mono ?_; rintro e w2 ⟨rfl, r2, b2⟩))
          go_ret2
          obtain ⟨e1, e2, e3⟩ := HE.out
          rw [e1, e2, e3]
          exact ⟨rfl, r2, (But.of_kept k1).trans b2⟩
      · have HE := hidMk (show outE l 0 lo hi = 0 ∧ outV l 0 lo hi = numV l ∧ outS l 0 lo hi = numS l by
          have e : outE l 0 lo hi = 0 := by unfold outE; rw [if_neg (by simp), if_neg (by simp [he]), if_neg hr]
          unfold outV outS; rw [e]; exact ⟨rfl, rfl, rfl⟩)
        have hc := wire_number a n c l
        rw [he] at hc
        have HC := hidMk hc
        clear hc he hsz
        generalize numV l = v at *
        generalize numS l = m at *
        have hr1 : lo ≤ v := by omega
        have hr2 : v ≤ hi := by omega
        clear hr
        go_enter Try.func70, Try.ntmps70
        go_wp2_with (first | (go_at_call 68; refine (why_at HR.out).mono ?_; rintro e w1 ⟨rfl, rfl⟩) | (go_at_call 72; refine (HC.out _ HS.out HB.out).mono ?_; rintro e w1 ⟨rfl, k1⟩))
        go_ret2
        obtain ⟨e1, e2, e3⟩ := HE.out
        rw [e1, e2, e3]
        exact ⟨rfl, HR.out.kept k1, But.of_kept k1⟩
    · have hne : numE l ≠ 0 := by omega
      have HE := hidMk (show outE l 0 lo hi = numE l ∧ outV l 0 lo hi = 0 ∧ outS l 0 lo hi = 0 by
        have e : outE l 0 lo hi = numE l := by unfold outE; rw [if_neg (by simp), if_pos hne]
        unfold outV outS; rw [e, if_neg hne, if_neg hne]; exact ⟨rfl, rfl, rfl⟩)
      have hc := wire_number a n c l
      rw [hs0, hv0] at hc
      have HC := hidMk hc
      clear hc hs0 hv0
      generalize numE l = q at *
      have hq : (q == 0) = false := by simpa using hne
      have HF := hidMk (show failE 0 q = q from if_pos rfl)
      clear he hne
      go_enter Try.func70, Try.ntmps70
      go_wp2_with (first | (go_at_call 68; refine (why_at HR.out).mono ?_; rintro e w1 ⟨rfl, rfl⟩) | (go_at_call 72; refine (HC.out _ HS.out HB.out).mono ?_; rintro e w1 ⟨rfl, k1⟩) | (go_at_call 73; refine (fail_at (HR.out.kept k1) q).mono ?_; rintro e w2 ⟨rfl, r2, b2⟩))
      go_ret2
      obtain ⟨e1, e2, e3⟩ := HE.out
      rw [HF.out] at r2
      rw [e1, e2, e3]
      exact ⟨rfl, r2, (But.of_kept k1).trans b2⟩
  · have HE := hidMk (show outE l y lo hi = y ∧ outV l y lo hi = 0 ∧ outS l y lo hi = 0 by
      have e : outE l y lo hi = y := by unfold outE; rw [if_pos hy]
      unfold outV outS; rw [e, if_neg hy, if_neg hy]; exact ⟨rfl, rfl, rfl⟩)
    have hye : (y == 0) = false := by simpa using hy
    go_enter Try.func70, Try.ntmps70
    go_wp2_with (go_at_call 68; refine (why_at HR.out).mono ?_; rintro e w1 ⟨rfl, rfl⟩)
    go_ret2
    obtain ⟨e1, e2, e3⟩ := HE.out
    rw [e1, e2, e3]
    exact ⟨rfl, HR.out, But.refl _ _⟩
end Go.Proofs.Ytapcmkhpbdphoaa
