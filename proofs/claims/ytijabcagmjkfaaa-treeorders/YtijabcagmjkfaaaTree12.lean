/- Lists of places held against each other; what must come of fixed calls (layer 5). -/
import Derived.Test.YtijabcagmjkfaaaTree11
namespace Go.Proofs.Ytijabcagmjkfaaa
open Go.RowKit Go.Maps
set_option linter.unusedSimpArgs false
set_option linter.unusedVariables false

theorem ints_differ {k : Nat} {x y : List Int} (hl : x.length = y.length) (hk : k < x.length) (h : x.getD k 0 ≠ y.getD k 0) : x ≠ y := fun e => h (by rw [e])
theorem ints_alike {x y : List Int} (hl : x.length = y.length) (h : ∀ j, j < x.length → x.getD j 0 = y.getD j 0) : x = y := by
  apply List.ext_getElem hl
  intro j h1 h2
  have := h j h1
  simpa [List.getD, List.getElem?_eq_getElem h1, List.getElem?_eq_getElem h2] using this
set_option maxHeartbeats 800000 in
theorem ref_Ints (a b : Option Addr) (n m c d : Nat) (x y : List Int) (w : World) (hx : Sl .i64 w a n x) (hy : Sl .i64 w b m y) :
    Calls Try.prog 21 #[.slice a n c, .slice b m d] w fun e w' => e = .returned (.bool (decide (x = y))) ∧ Kept w w' := by
  have hlx := hx.len
  have hly := hy.len
  have hbx := hx.big
  have hby := hy.big
  unfold maxLen at hbx hby
  by_cases hnm : n = m
  · subst hnm
    obtain ⟨r, hr⟩ : ∃ r, decide (x = y) = r := ⟨_, rfl⟩
    rw [hr]
    have HR := hidMk hr
    have HX := hidMk hx
    have HY := hidMk hy
    clear hr hx hy
    have hne : ((n : Int) != (n : Int)) = false := by simp
    go_enter Try.func21, Try.ntmps21
    go_wp2_with fail
    go_loopw [5] (fun i wr => ∃ k q : Nat, k ≤ n ∧ i = .int .i64 k ∧ wr = w.drewN q ∧ Hid (∀ j, j < k → x.getD j 0 = y.getD j 0)) (fun i _ => n - (intOf i).toNat)
    case atStart => exact ⟨0, 0, Nat.zero_le _, rfl, rfl, hidMk fun j hj => absurd hj (by omega)⟩
    case round =>
      obtain ⟨k, q, hk, rfl, rfl, HJ⟩ := hrel
      by_cases hkn : k < n
      · obtain ⟨b1, o1, rfl, _, hcs1⟩ := HX.out.cells (by omega)
        obtain ⟨b2, o2, rfl, _, hcs2⟩ := HY.out.cells (by omega)
        have c1 := hcs1 k hkn
        have c2 := hcs2 k hkn
        clear hcs1 hcs2
        by_cases he : x.getD k 0 = y.getD k 0
        · have HS := hidMk (show ∀ j, j < k + 1 → x.getD j 0 = y.getD j 0 from fun j hj => by
            by_cases e : j = k
            · subst e; exact he
            · exact HJ.out j (by omega))
          rw [← he] at c2
          generalize x.getD k 0 = z at *
          have hz : (z != z) = false := by simp
          clear he
          go_wp2_with fail
          go_quiet (fail)
          go_wp2_with fail
          exact ⟨⟨k + 1, q + nq, by omega, by go_num, by simp, HS⟩, by simp [intOf]; omega⟩
        · have HD := hidMk (show r = false from HR.out ▸ decide_eq_false (ints_differ (by omega) (by omega) he))
          generalize x.getD k 0 = z1 at *
          generalize y.getD k 0 = z2 at *
          have hz : (z1 != z2) = true := by simpa using he
          clear he
          go_wp2_with fail
          go_quiet (fail)
          go_wp2_with fail
          go_ret
          exact ⟨by rw [HD.out]; rfl, ((Kept.refl w).drewN _).drewN _⟩
      · have e : k = n := by omega
        subst e
        have HD := hidMk (show r = true from HR.out ▸ decide_eq_true (ints_alike (by omega) (fun j hj => HJ.out j (by omega))))
        have hkk : ¬ ((k : Int) < (k : Int)) := by omega
        go_wp2_with fail
        go_ret
        exact ⟨by rw [HD.out]; rfl, (Kept.refl w).drewN _⟩
  · have e : decide (x = y) = false := decide_eq_false (fun e => hnm (by rw [← hlx, ← hly, e]))
    rw [e]
    have hne : ((n : Int) != (m : Int)) = true := by simp; omega
    clear hx hy e
    go_enter Try.func21, Try.ntmps21
    go_wp2_with fail
    go_ret
    exact ⟨rfl, Kept.refl _⟩

def k5 : List Nd := [(⟨#[97, 108, 108]⟩, -1), (⟨#[97]⟩, 0), (⟨#[98]⟩, 0), (⟨#[99]⟩, 1)]
theorem k5_good : Good k5 := by unfold Good; decide +kernel
theorem k5_new : NewIs k5 0 0 := .inr ⟨by decide, .inl ⟨k5_good, rfl, rfl⟩⟩
theorem k5_ord : ints (ordN k5) = [0, 1, 3, 2] := by decide +kernel
theorem k5_lvs : ints (lvsN k5) = [3, 2] := by decide +kernel
theorem k5_from : fromI k5 1 = 0 ∧ toI k5 1 = 1 := by decide +kernel
theorem k5_find : findI k5 ⟨#[99]⟩ = 3 := by decide +kernel
theorem k5_ns (w : World) (t : TypeId) : Ns (w.alloc (.cells #[.string ⟨#[97, 108, 108]⟩, .int .i64 (-1), .string ⟨#[97]⟩, .int .i64 0, .string ⟨#[98]⟩, .int .i64 0, .string ⟨#[99]⟩, .int .i64 1] t)) (some ⟨w.heap.size, 0, none⟩) 4 k5 := by
  refine ⟨rfl, by unfold maxLen; omega, ?_, ?_, fun _ => ⟨_, _, rfl, by simp, fun i hi => ?_⟩⟩
  · intro i hi
    have : i = 0 ∨ i = 1 ∨ i = 2 ∨ i = 3 := by have : k5.length = 4 := rfl; omega
    rcases this with rfl | rfl | rfl | rfl <;> (unfold maxLen; decide +kernel)
  · intro i hi
    have : i = 0 ∨ i = 1 ∨ i = 2 ∨ i = 3 := by have : k5.length = 4 := rfl; omega
    unfold isI
    rcases this with rfl | rfl | rfl | rfl <;> decide +kernel
  · have : i = 0 ∨ i = 1 ∨ i = 2 ∨ i = 3 := by omega
    rcases this with rfl | rfl | rfl | rfl <;> simp [k5, nmA, upA]

set_option maxHeartbeats 1000000 in
set_option maxRecDepth 100000 in
theorem law5_known (w : World) : Calls Try.prog 9 #[] w fun e w' => e = .returned (.bool true) ∧ Kept w w' := by
  have HN := hidMk (fun t => tree_New (some ⟨w.heap.size, 0, none⟩) 4 4 k5 _ (k5_ns w t))
  go_enter Try.func9, Try.ntmps9
  go_wp2_with fail
  refine (HN.out _).mono ?_
  rintro e w1 (⟨p, hp, rfl, _, hw, hk⟩ | ⟨at_, er, rfl, her, hn, _⟩)
  · have HW := hidMk hw
    have HK := hidMk (show Kept w w1 from ((Kept.refl w).alloc _).trans hk)
    clear hw hk HN
    have h1 := w_Span HW.out 1
    rw [k5_from.1, k5_from.2] at h1
    have H1 := hidMk h1
    clear h1
    go_wp2_with fail
    refine H1.out.mono ?_
    rintro e w2 ⟨rfl, k2⟩
    have K2 := hidMk k2
    have HW2 := hidMk (HW.out.kept k2)
    have h2 := w_Order HW2.out
    rw [k5_ord] at h2
    have H2 := hidMk h2
    clear h2 k2
    go_wp2_with fail
    refine H2.out.mono ?_
    rintro e w3 ⟨v3, rfl, o3, k3⟩
    obtain ⟨a3, c3, rfl, s3⟩ := o3.sl (by unfold maxLen; decide)
    have K3 := hidMk k3
    have HW3 := hidMk (HW2.out.kept k3)
    have S3 := hidMk s3
    clear o3 k3 s3
    have H3 := hidMk (fun t c => ref_Ints a3 (some ⟨w3.heap.size, 0, none⟩) 4 4 c3 c [0, 1, 3, 2] [0, 1, 3, 2] _ (S3.out.kept ((Kept.refl w3).alloc _)) (sl_new .i64 w3 [0, 1, 3, 2] t (by unfold maxLen; decide)))
    go_wp2_with fail
    refine (H3.out _ _).mono ?_
    rintro e w4 ⟨rfl, k4⟩
    have K4 := hidMk (show Kept w3 w4 from ((Kept.refl w3).alloc _).trans k4)
    have HW4 := hidMk (HW3.out.kept K4.out)
    have h4 := w_Leaves HW4.out
    rw [k5_lvs] at h4
    have H4 := hidMk h4
    clear h4 k4
    go_wp2_with fail
    refine H4.out.mono ?_
    rintro e w5 ⟨v5, rfl, o5, k5'⟩
    obtain ⟨a5, c5, rfl, s5⟩ := o5.sl (by unfold maxLen; decide)
    have K5 := hidMk k5'
    have HW5 := hidMk (HW4.out.kept k5')
    have S5 := hidMk s5
    clear o5 k5' s5
    have H5 := hidMk (fun t c => ref_Ints a5 (some ⟨w5.heap.size, 0, none⟩) 2 2 c5 c [3, 2] [3, 2] _ (S5.out.kept ((Kept.refl w5).alloc _)) (sl_new .i64 w5 [3, 2] t (by unfold maxLen; decide)))
    go_wp2_with fail
    refine (H5.out _ _).mono ?_
    rintro e w6 ⟨rfl, k6⟩
    have K6 := hidMk (show Kept w5 w6 from ((Kept.refl w5).alloc _).trans k6)
    have HW6 := hidMk (HW5.out.kept K6.out)
    have h6 := w_Find HW6.out ⟨#[99]⟩ (by unfold maxLen; decide +kernel)
    rw [k5_find] at h6
    have H6 := hidMk h6
    clear h6 k6
    go_wp2_with (go_at_call 13; refine H6.out.mono ?_; rintro e w7 ⟨rfl, rfl⟩)
    go_ret
    exact ⟨rfl, ((((HK.out.trans K2.out).trans K3.out).trans K4.out).trans K5.out).trans K6.out⟩
  · exact absurd (newIs_one hn k5_new).2 her
end Go.Proofs.Ytijabcagmjkfaaa
