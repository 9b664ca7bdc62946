/- Commands as lines: what is known of a command that was read; lines' words in memory. · '==' of two commands. -/
import Derived.Test.YtpehinmckppjoaaGreatDoorWPsMB
import Derived.Test.YtpehinmckppjoaaGreatDoorWPsD
import Derived.Laws.StructEq
namespace Go.Proofs.YtpehinmckppjoaaGreatDoor
open Go.RowKit Go.Maps
set_option linter.unusedSimpArgs false
set_option linter.unusedVariables false

section
variable {ms : List ByteArray} {ds : List Dm} {L : List ByteArray}
theorem XOk.put {x : Cm} (h : XOk x) {b : Int} {t : ByteArray} (ht : t.size ≤ 12) : XOk (putT b t x) := by
  have h1 := h.u
  have h2 := h.s
  have h3 := h.o
  have h4 := h.n
  unfold putT
  split
  · exact ⟨by simp only; omega, h2, h3, h4⟩
  · split
    · exact ⟨h1, by simp only; omega, h3, h4⟩
    · exact ⟨h1, h2, by simp only; omega, h4⟩
end
theorem Wq.take {w : World} {a : Option Addr} {l : List Wd} (h : Wq w a l) (k : Nat) (hk : k ≤ l.length) : Wq w a (l.take k) := by
  have hl : (l.take k).length = k := by rw [List.length_take]; omega
  refine ⟨fun hp => ?_, fun x hx => h.ps x (List.mem_of_mem_take hx)⟩
  obtain ⟨b, o, e, hb, hc⟩ := h.cells (by omega)
  refine ⟨b, o, e, hb, fun i hi t ht u hu => hc i (by omega) t ht u ?_⟩
  have : wdA (l.take k) i = wdA l i := by
    rw [wdA_get hi, wdA_get (show i < l.length by omega)]
    simp
  rw [this] at hu
  exact hu
end Go.Proofs.YtpehinmckppjoaaGreatDoor
namespace Go.Proofs.YtpehinmckppjoaaGreatDoor
open Go.RowKit Go.Maps
set_option linter.unusedSimpArgs false
set_option linter.unusedVariables false

theorem eq_arr8 (a b c d a' b' c' d' : Int) (w : World) : (Op.equalIn 9998 31 (.agg #[.int .i64 a, .int .i64 b, .int .i64 c, .int .i64 d]) (.agg #[.int .i64 a', .int .i64 b', .int .i64 c', .int .i64 d'])).run Tryz.prog w = .ok (decide (a = a' ∧ b = b' ∧ c = c' ∧ d = d')) w := by
  have u3 := Tryz.underlying3
  have a3 := Tryz.isAgg3
  have z3 := Tryz.sizeOf3
  rw [show (9998 : Nat) = 9997 + 1 from rfl, Op.equalIn]
  simp only [Sem.run_bind, run_underlying Tryz.underlying31, Result.andThen_ok]
  simp only [Std.Legacy.Range.forIn_eq_forIn_range', Std.Legacy.Range.size, Nat.sub_zero, Nat.add_sub_cancel, Nat.div_one, List.range'_succ, List.range'_zero, List.forIn_cons, List.forIn_nil]
  by_cases h1 : a = a'
  · subst h1
    by_cases h2 : b = b'
    · subst h2
      by_cases h3 : c = c'
      · subst h3
        by_cases h4 : d = d'
        · subst h4; go_simp; try simp
        · have e4 : (d == d') = false := by simpa using h4
          have e5 : decide (a = a ∧ b = b ∧ c = c ∧ d = d') = false := by simp [h4]
          rw [e5]; clear e5; go_simp
      · have e4 : (c == c') = false := by simpa using h3
        have e5 : decide (a = a ∧ b = b ∧ c = c' ∧ d = d') = false := by simp [h3]
        rw [e5]; clear e5; go_simp
    · have e4 : (b == b') = false := by simpa using h2
      have e5 : decide (a = a ∧ b = b' ∧ c = c' ∧ d = d') = false := by simp [h2]
      rw [e5]; clear e5; go_simp
  · have e4 : (a == a') = false := by simpa using h1
    have e5 : decide (a = a' ∧ b = b' ∧ c = c' ∧ d = d') = false := by simp [h1]
    rw [e5]; clear e5; go_simp
theorem eq_cell8 (x0 x1 x2 x3 x4 y0 y1 y2 y3 y4 : Int) (w : World) : (Op.equalIn 9999 33 (.agg #[.int .i64 x0, .int .i64 x1, .int .i64 x2, .int .i64 x3, .int .i64 x4]) (.agg #[.int .i64 y0, .int .i64 y1, .int .i64 y2, .int .i64 y3, .int .i64 y4])).run Tryz.prog w = .ok (decide (x0 = y0) && decide (x1 = y1 ∧ x2 = y2 ∧ x3 = y3 ∧ x4 = y4)) w := by
  have u3 := Tryz.underlying3
  have a3 := Tryz.isAgg3
  have z3 := Tryz.sizeOf3
  have hS : Tryz.prog.underlying 33 = some (.struct (Tryz.prog.fieldsOf 33)) := by kernel_rfl
  have hp : Tryz.prog.stoodInHeld 33 = false := by kernel_rfl
  have qa := eq_arr8 x1 x2 x3 x4 y1 y2 y3 y4
  rw [show (9999 : Nat) = 9998 + 1 from rfl, run_equalIn_agg w 9998 33 _ _ hS hp]
  simp only [Program.fieldsOf, Tryz.underlying33]
  generalize decide (x1 = y1 ∧ x2 = y2 ∧ x3 = y3 ∧ x4 = y4) = dd at *
  by_cases h0 : x0 = y0
  · subst h0
    cases dd <;> (go_simp; try simp)
  · have e0 : (x0 == y0) = false := by simpa using h0
    have e1 : decide (x0 = y0) = false := by simpa using h0
    rw [e1]
    clear e1 h0
    go_simp
    try simp
def celB (x y : Cm) : Bool := decide (x.c0 = y.c0) && decide (x.c1 = y.c1 ∧ x.c2 = y.c2 ∧ x.c3 = y.c3 ∧ x.c4 = y.c4)
/-- Are two commands alike? -/
def cmB (x y : Cm) : Bool := decide (x.k = y.k) && (decide (x.u = y.u) && (decide (x.s = y.s) && (decide (x.o = y.o) && (celB x y && (decide (x.n = y.n) && (decide (x.h = y.h) && decide (x.m = y.m)))))))
theorem cmB_iff (x y : Cm) : cmB x y = true ↔ x = y := by
  obtain ⟨k, u, s, o, c0, c1, c2, c3, c4, n, h, m⟩ := x
  obtain ⟨k', u', s', o', c0', c1', c2', c3', c4', n', h', m'⟩ := y
  unfold cmB celB
  simp only [Bool.and_eq_true, decide_eq_true_eq, Cm.mk.injEq]
  constructor
  · rintro ⟨h1, h2, h3, h4, ⟨h5, h6, h7, h8, h9⟩, h10, h11, h12⟩
    exact ⟨h1, h2, h3, h4, h5, h6, h7, h8, h9, h10, h11, h12⟩
  · rintro ⟨h1, h2, h3, h4, h5, h6, h7, h8, h9, h10, h11, h12⟩
    exact ⟨h1, h2, h3, h4, ⟨h5, h6, h7, h8, h9⟩, h10, h11, h12⟩
theorem cmB_same (x : Cm) : cmB x x = true := (cmB_iff x x).2 rfl
set_option maxHeartbeats 2000000 in
theorem eqlM (x y : Cm) (w : World) : (binOp .eql 35 (cmV x) (cmV y)).run Tryz.prog w = .ok (.bool (cmB x y)) w := by
  obtain ⟨k, u, s, o, c0, c1, c2, c3, c4, n, h, m⟩ := x
  obtain ⟨k', u', s', o', c0', c1', c2', c3', c4', n', h', m'⟩ := y
  have u3 := Tryz.underlying3
  have a3 := Tryz.isAgg3
  have z3 := Tryz.sizeOf3
  have hS : Tryz.prog.underlying 35 = some (.struct (Tryz.prog.fieldsOf 35)) := by kernel_rfl
  have hp : Tryz.prog.stoodInHeld 35 = false := by kernel_rfl
  have qa := eq_cell8 c0 c1 c2 c3 c4 c0' c1' c2' c3' c4'
  unfold cmB celB cmV cmL
  simp only
  rw [run_eql_struct, show (10000 : Nat) = 9999 + 1 from rfl, run_equalIn_agg w 9999 35 _ _ hS hp]
  simp only [Program.fieldsOf, Tryz.underlying35]
  generalize (decide (c0 = c0') && decide (c1 = c1' ∧ c2 = c2' ∧ c3 = c3' ∧ c4 = c4')) = dd at *
  by_cases h0 : k = k'
  · subst h0
    by_cases h1 : u = u'
    · subst h1
      by_cases h2 : s = s'
      · subst h2
        by_cases h3 : o = o'
        · subst h3
          cases dd
          · go_simp; try simp
          · by_cases h5 : n = n'
            · subst h5
              by_cases h6 : h = h'
              · subst h6
                by_cases h7 : m = m'
                · subst h7
                  go_simp; try simp
                · have e0 : (m == m') = false := by simpa using h7
                  have e1 : decide (m = m') = false := by simpa using h7
                  rw [e1]; clear e1 h7; go_simp; try simp
              · have e0 : (h == h') = false := by simpa using h6
                have e1 : decide (h = h') = false := by simpa using h6
                rw [e1]; clear e1 h6; go_simp; try simp
            · have e0 : (n == n') = false := by simpa using h5
              have e1 : decide (n = n') = false := by simpa using h5
              rw [e1]; clear e1 h5; go_simp; try simp
        · have e0 := bytes_neD h3
          have e1 : decide (o = o') = false := by simpa using h3
          rw [e1]; clear e1 h3; go_simp; try simp
      · have e0 := bytes_neD h2
        have e1 : decide (s = s') = false := by simpa using h2
        rw [e1]; clear e1 h2; go_simp; try simp
    · have e0 := bytes_neD h1
      have e1 : decide (u = u') = false := by simpa using h1
      rw [e1]; clear e1 h1; go_simp; try simp
  · have e0 : (k == k') = false := by simpa using h0
    have e1 : decide (k = k') = false := by simpa using h0
    rw [e1]; clear e1 h0; go_simp; try simp
end Go.Proofs.YtpehinmckppjoaaGreatDoor
