/- moietyref05: lists of numbers held against each other. -/
import Derived.Test.YtbikelbobanfbaaChgI
namespace Go.Proofs.Ytbikelbobanfbaa
open Go.RowKit Go.Maps
set_option linter.unusedSimpArgs false
set_option linter.unusedVariables false

theorem ints_differ {k : Nat} {x y : List Int} (hl : x.length = y.length) (hk : k < x.length) (h : x.getD k 0 ≠ y.getD k 0) : x ≠ y := fun e => h (by rw [e])
theorem ints_alike {x y : List Int} (hl : x.length = y.length) (h : ∀ j, j < x.length → x.getD j 0 = y.getD j 0) : x = y := by
  apply List.ext_getElem hl
  intro j h1 h2
  have := h j h1
  simpa [List.getD, List.getElem?_eq_getElem h1, List.getElem?_eq_getElem h2] using this
set_option maxHeartbeats 800000 in
theorem ref_Ints (a b : Option Addr) (n m c d : Nat) (x y : List Int) (w : World) (hx : Sl .i64 w a n x) (hy : Sl .i64 w b m y) :
    Calls Try.prog 10 #[.slice a n c, .slice b m d] w fun e w' => e = .returned (.bool (decide (x = y))) ∧ Kept w w' := by
  have hlx := hx.len
  have hly := hy.len
  have hbx := hx.big
  have hby := hy.big
  unfold maxLen at hbx hby
  by_cases hnm : n = m
  · subst hnm
    obtain ⟨r, hr⟩ : ∃ r, decide (x = y) = r := ⟨_, rfl⟩
    rw [hr]
    have HR := hidMk hr
    have HX := hidMk hx
    have HY := hidMk hy
    clear hr hx hy
    have hne : ((n : Int) != (n : Int)) = false := by simp
    go_enter Try.func10, Try.ntmps10
    go_wp2_with fail
    go_loopw [5] (fun i wr => ∃ k q : Nat, k ≤ n ∧ i = .int .i64 k ∧ wr = w.drewN q ∧ Hid (∀ j, j < k → x.getD j 0 = y.getD j 0)) (fun i _ => n - (intOf i).toNat)
    case atStart => exact ⟨0, 0, Nat.zero_le _, rfl, rfl, hidMk fun j hj => absurd hj (by omega)⟩
    case round =>
      obtain ⟨k, q, hk, rfl, rfl, HJ⟩ := hrel
      by_cases hkn : k < n
      · obtain ⟨b1, o1, rfl, _, hcs1⟩ := HX.out.cells (by omega)
        obtain ⟨b2, o2, rfl, _, hcs2⟩ := HY.out.cells (by omega)
        have c1 := hcs1 k hkn
        have c2 := hcs2 k hkn
        clear hcs1 hcs2
        by_cases he : x.getD k 0 = y.getD k 0
        · have HS := hidMk (show ∀ j, j < k + 1 → x.getD j 0 = y.getD j 0 from fun j hj => by
            by_cases e : j = k
            · subst e; exact he
            · exact HJ.out j (by omega))
          rw [← he] at c2
          generalize x.getD k 0 = z at *
          have hz : (z != z) = false := by simp
          clear he
          go_wp2_with fail
          go_quiet (fail)
          go_wp2_with fail
          exact ⟨⟨k + 1, q + nq, by omega, by go_num, by simp, HS⟩, by simp [intOf]; omega⟩
        · have HD := hidMk (show r = false from HR.out ▸ decide_eq_false (ints_differ (by omega) (by omega) he))
          generalize x.getD k 0 = z1 at *
          generalize y.getD k 0 = z2 at *
          have hz : (z1 != z2) = true := by simpa using he
          clear he
          go_wp2_with fail
          go_quiet (fail)
          go_wp2_with fail
          go_ret
          exact ⟨by rw [HD.out]; rfl, ((Kept.refl w).drewN _).drewN _⟩
      · have e : k = n := by omega
        subst e
        have HD := hidMk (show r = true from HR.out ▸ decide_eq_true (ints_alike (by omega) (fun j hj => HJ.out j (by omega))))
        have hkk : ¬ ((k : Int) < (k : Int)) := by omega
        go_wp2_with fail
        go_ret
        exact ⟨by rw [HD.out]; rfl, (Kept.refl w).drewN _⟩
  · have e : decide (x = y) = false := decide_eq_false (fun e => hnm (by rw [← hlx, ← hly, e]))
    rw [e]
    have hne : ((n : Int) != (m : Int)) = true := by simp; omega
    clear hx hy e
    go_enter Try.func10, Try.ntmps10
    go_wp2_with fail
    go_ret
    exact ⟨rfl, Kept.refl _⟩
end Go.Proofs.Ytbikelbobanfbaa
