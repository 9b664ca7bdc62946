/- Lists of places held against each other; what must come of fixed calls (layer 5). -/
import Derived.Test.YtlcjnldkldkffaaTree11
namespace Go.Proofs.Ytlcjnldkldkffaa
open Go.RowKit Go.Maps
set_option linter.unusedSimpArgs false
set_option linter.unusedVariables false

theorem ints_differ {k : Nat} {x y : List Int} (hl : x.length = y.length) (hk : k < x.length) (h : x.getD k 0 ≠ y.getD k 0) : x ≠ y := fun e => h (by rw [e])
theorem ints_alike {x y : List Int} (hl : x.length = y.length) (h : ∀ j, j < x.length → x.getD j 0 = y.getD j 0) : x = y := by
  apply List.ext_getElem hl
  intro j h1 h2
  have := h j h1
  simpa [List.getD, List.getElem?_eq_getElem h1, List.getElem?_eq_getElem h2] using this
set_option maxHeartbeats 800000 in
theorem ref_Ints (a b : Option Addr) (n m c d : Nat) (x y : List Int) (w : World) (hx : Sl .i64 w a n x) (hy : Sl .i64 w b m y) :
    Calls Try.prog 17 #[.slice a n c, .slice b m d] w fun e w' => e = .returned (.bool (decide (x = y))) ∧ Kept w w' := by
  have hlx := hx.len
  have hly := hy.len
  have hbx := hx.big
  have hby := hy.big
  unfold maxLen at hbx hby
  by_cases hnm : n = m
  · subst hnm
    obtain ⟨r, hr⟩ : ∃ r, decide (x = y) = r := ⟨_, rfl⟩
    rw [hr]
    have HR := hidMk hr
    have HX := hidMk hx
    have HY := hidMk hy
    clear hr hx hy
    have hne : ((n : Int) != (n : Int)) = false := by simp
    go_enter Try.func17, Try.ntmps17
    go_wp2_with fail
    go_loopw [5] (fun i wr => ∃ k q : Nat, k ≤ n ∧ i = .int .i64 k ∧ wr = w.drewN q ∧ Hid (∀ j, j < k → x.getD j 0 = y.getD j 0)) (fun i _ => n - (intOf i).toNat)
    case atStart => exact ⟨0, 0, Nat.zero_le _, rfl, rfl, hidMk fun j hj => absurd hj (by omega)⟩
    case round =>
      obtain ⟨k, q, hk, rfl, rfl, HJ⟩ := hrel
      by_cases hkn : k < n
      · obtain ⟨b1, o1, rfl, _, hcs1⟩ := HX.out.cells (by omega)
        obtain ⟨b2, o2, rfl, _, hcs2⟩ := HY.out.cells (by omega)
        have c1 := hcs1 k hkn
        have c2 := hcs2 k hkn
        clear hcs1 hcs2
        by_cases he : x.getD k 0 = y.getD k 0
        · have HS := hidMk (show ∀ j, j < k + 1 → x.getD j 0 = y.getD j 0 from fun j hj => by
            by_cases e : j = k
            · subst e; exact he
            · exact HJ.out j (by omega))
          rw [← he] at c2
          generalize x.getD k 0 = z at *
          have hz : (z != z) = false := by simp
          clear he
          go_wp2_with fail
          go_quiet (fail)
          go_wp2_with fail
          exact ⟨⟨k + 1, q + nq, by omega, by go_num, by simp, HS⟩, by simp [intOf]; omega⟩
        · have HD := hidMk (show r = false from HR.out ▸ decide_eq_false (ints_differ (by omega) (by omega) he))
          generalize x.getD k 0 = z1 at *
          generalize y.getD k 0 = z2 at *
          have hz : (z1 != z2) = true := by simpa using he
          clear he
          go_wp2_with fail
          go_quiet (fail)
          go_wp2_with fail
          go_ret
          exact ⟨by rw [HD.out]; rfl, ((Kept.refl w).drewN _).drewN _⟩
      · have e : k = n := by omega
        subst e
        have HD := hidMk (show r = true from HR.out ▸ decide_eq_true (ints_alike (by omega) (fun j hj => HJ.out j (by omega))))
        have hkk : ¬ ((k : Int) < (k : Int)) := by omega
        go_wp2_with fail
        go_ret
        exact ⟨by rw [HD.out]; rfl, (Kept.refl w).drewN _⟩
  · have e : decide (x = y) = false := decide_eq_false (fun e => hnm (by rw [← hlx, ← hly, e]))
    rw [e]
    have hne : ((n : Int) != (m : Int)) = true := by simp; omega
    clear hx hy e
    go_enter Try.func17, Try.ntmps17
    go_wp2_with fail
    go_ret
    exact ⟨rfl, Kept.refl _⟩

def k5 : List Nd := [(⟨#[97, 108, 108]⟩, -1), (⟨#[97]⟩, 0), (⟨#[98]⟩, 0), (⟨#[99]⟩, 1)]
theorem k5_good : Good k5 := by unfold Good; decide +kernel
theorem k5_new : NewIs k5 0 0 := .inr ⟨by decide, .inl ⟨k5_good, rfl, rfl⟩⟩
theorem k5_ord : ints (ordN k5) = [0, 1, 3, 2] := by decide +kernel
theorem k5_lvs : ints (lvsN k5) = [3, 2] := by decide +kernel
theorem k5_from : fromI k5 1 = 0 ∧ toI k5 1 = 1 := by decide +kernel
theorem k5_find : findI k5 ⟨#[99]⟩ = 3 := by decide +kernel
theorem k5_ns (w : World) (t : TypeId) : Ns (w.alloc (.cells #[.string ⟨#[97, 108, 108]⟩, .int .i64 (-1), .string ⟨#[97]⟩, .int .i64 0, .string ⟨#[98]⟩, .int .i64 0, .string ⟨#[99]⟩, .int .i64 1] t)) (some ⟨w.heap.size, 0, none⟩) 4 k5 := by
  refine ⟨rfl, by unfold maxLen; omega, ?_, ?_, fun _ => ⟨_, _, rfl, by simp, fun i hi => ?_⟩⟩
  · intro i hi
    have : i = 0 ∨ i = 1 ∨ i = 2 ∨ i = 3 := by have : k5.length = 4 := rfl; omega
    rcases this with rfl | rfl | rfl | rfl <;> (unfold maxLen; decide +kernel)
  · intro i hi
    have : i = 0 ∨ i = 1 ∨ i = 2 ∨ i = 3 := by have : k5.length = 4 := rfl; omega
    unfold isI
    rcases this with rfl | rfl | rfl | rfl <;> decide +kernel
  · have : i = 0 ∨ i = 1 ∨ i = 2 ∨ i = 3 := by omega
    rcases this with rfl | rfl | rfl | rfl <;> simp [k5, nmA, upA]

end Go.Proofs.Ytlcjnldkldkffaa
