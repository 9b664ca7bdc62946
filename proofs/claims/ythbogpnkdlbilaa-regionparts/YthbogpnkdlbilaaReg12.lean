/- region: Has. -/
import Derived.Test.YthbogpnkdlbilaaReg1
namespace Go.Proofs.Ythbogpnkdlbilaa
open Go.RowKit Go.Maps
set_option linter.unusedSimpArgs false
set_option linter.unusedVariables false

def agR (r : Rn) (x : Int) : Int := if r.2 < x then -1 else if x < r.1 then 1 else 0
theorem region_against (r : Rn) (x : Int) (w : World) : Calls Try.prog 34 #[.agg #[.int .i64 r.1, .int .i64 r.2], .int .i64 x] w fun e w' => e = .returned (.int .i64 (agR r x)) ∧ Kept w w' := by
  obtain ⟨r1, r2⟩ := r
  simp only
  by_cases h1 : r2 < x
  · rw [show agR (r1, r2) x = -1 from if_pos h1]
    go_enter Try.func34, Try.ntmps34
    go_wp2_with fail
    go_ret
    exact ⟨rfl, (Kept.refl w).alloc _⟩
  · by_cases h2 : x < r1
    · rw [show agR (r1, r2) x = 1 from (if_neg h1).trans (if_pos h2)]
      have h1' : x ≤ r2 := by omega
      go_enter Try.func34, Try.ntmps34
      go_wp2_with fail
      go_ret
      exact ⟨rfl, (Kept.refl w).alloc _⟩
    · rw [show agR (r1, r2) x = 0 from (if_neg h1).trans (if_neg h2)]
      have h1' : x ≤ r2 := by omega
      have h2' : r1 ≤ x := by omega
      go_enter Try.func34, Try.ntmps34
      go_wp2_with fail
      go_ret
      exact ⟨rfl, (Kept.refl w).alloc _⟩
theorem norm_lt {l : List Rn} (h : Norm l) {i j : Nat} (hij : i < j) (hj : j < l.length) : (rnA l i).2 + 1 < (rnA l j).1 := by
  have := List.pairwise_iff_getElem.1 h.pw i j (by omega) hj hij
  simpa [rnA, List.getD, List.getElem?_eq_getElem hj, List.getElem?_eq_getElem (show i < l.length by omega)] using this
theorem mem_rnA {l : List Rn} {r : Rn} (h : r ∈ l) : ∃ k, k < l.length ∧ rnA l k = r := by
  obtain ⟨k, hk, rfl⟩ := List.getElem_of_mem h
  exact ⟨k, hk, by simp [rnA, List.getD, List.getElem?_eq_getElem hk]⟩
theorem found_is {l : List Rn} (h : Norm l) (x : Int) {i : Nat} (hi : i ≤ l.length) (h1 : ∀ k, k < i → (rnA l k).2 < x) (h2 : ∀ k, i ≤ k → k < l.length → ¬ (rnA l k).2 < x) : inR l x ↔ i < l.length ∧ agR (rnA l i) x = 0 := by
  constructor
  · rintro ⟨r, hr, e1, e2⟩
    obtain ⟨m, hm, rfl⟩ := mem_rnA hr
    have hmi : i ≤ m := by
      by_cases c : m < i
      · have := h1 m c; omega
      · omega
    have hmi2 : m = i := by
      by_cases c : i < m
      · have := norm_lt h c hm; have := h2 i (Nat.le_refl _) (by omega); omega
      · omega
    subst hmi2
    exact ⟨hm, by unfold agR; rw [if_neg (by omega), if_neg (by omega)]⟩
  · rintro ⟨hil, he⟩
    refine ⟨rnA l i, rnA_mem hil, ?_⟩
    unfold agR at he
    split at he
    · omega
    · split at he
      · omega
      · omega
set_option maxHeartbeats 4000000 in
set_option maxRecDepth 100000 in
theorem slices_BinR (a : Option Addr) (c : Nat) (l : List Rn) (x : Int) (w : World) (hs : Rs w a l) (hN : Norm l) (hl : l.length ≤ 100000) (b : Bool) (hb : b = true ↔ inR l x) :
    Calls Try.prog 33 #[.slice a l.length c, .int .i64 x, .func (.func 34) #[] #[]] w fun e w' => (∃ i : Int, e = .returned (.tuple #[.int .i64 i, .bool b])) ∧ Kept w w' := by
  have HS := hidMk hs
  have HN := hidMk hN
  have HB := hidMk hb
  have HAG := hidMk region_against
  clear hs hN hb
  go_enter Try.func33, Try.ntmps33
  go_wp2_with fail
  go_loopg [9, 10] l.length (fun g p q wr => ∃ (i j : Nat), i ≤ j ∧ j - i = g ∧ j ≤ l.length ∧ p = .int .i64 i ∧ q = .int .i64 j ∧ Kept w wr ∧ Hid ((∀ k, k < i → (rnA l k).2 < x) ∧ ∀ k, j ≤ k → k < l.length → x ≤ (rnA l k).2))
  case atStart => exact ⟨0, l.length, by omega, by omega, by omega, rfl, rfl, Kept.refl _, hidMk ⟨fun k hk => absurd hk (by omega), fun k h1 h2 => absurd h1 (by omega)⟩⟩
  case round =>
    obtain ⟨i, j, hij, hg, hjl, rfl, rfl, hk, HJ⟩ := hrel
    have HK := hidMk hk
    have HG := hidMk hg
    by_cases hlt : i < j
    · have hlt' : (i : Int) < (j : Int) := by omega
      obtain ⟨h, hh⟩ : ∃ h : Nat, (i + j) / 2 = h := ⟨_, rfl⟩
      have hh1 : i ≤ h := by omega
      have hh2 : h < j := by omega
      obtain ⟨bb, o, rfl, hbb, hcs⟩ := HS.out.cells (by omega)
      obtain ⟨c1, c2⟩ := hcs h (by omega)
      have d1 := hk.cellp c1
      have d2 := hk.cellp c2
      have hw1 : IntKind.i64.wrap ((i : Int) + (j : Int)) = (i : Int) + (j : Int) := by rw [IntKind.wrap_i64]; omega
      clear hcs c1 c2 hk hg
      have HH := hidMk hh
      have hH2 : ((i : Int) + (j : Int)) / 2 = (h : Int) := by omega
      have HH2 := hidMk hH2
      go_wp2_with fail
      refine (HAG.out _ _ _).mono ?_
      rintro e w5 ⟨rfl, k5⟩
      have K5 := hidMk k5
      clear k5
      by_cases hr : (rnA l h).2 < x
      · have ha : agR (rnA l h) x = -1 := if_pos hr
        rw [ha]
        have HJ2 := hidMk (show (∀ k, k < h + 1 → (rnA l k).2 < x) ∧ ∀ k, j ≤ k → k < l.length → x ≤ (rnA l k).2 from ⟨fun k hk => by
          by_cases e : k = h
          · subst e; exact hr
          · have h1 := norm_lt HN.out (show k < h by omega) (by omega)
            have h2 := norm_at HN.out (k := h) (by omega)
            omega, HJ.out.2⟩)
        clear ha hr
        go_wp2_with fail
        go_roundg (j - (h + 1))
        case measure => have := HG.out; omega
        case rel => exact ⟨h + 1, j, by omega, rfl, by omega, by first | rfl | go_num, rfl, HK.out.trans K5.out, HJ2⟩
      · have ha : ¬ agR (rnA l h) x < 0 := by unfold agR; rw [if_neg hr]; split <;> omega
        have HJ2 := hidMk (show (∀ k, k < i → (rnA l k).2 < x) ∧ ∀ k, h ≤ k → k < l.length → x ≤ (rnA l k).2 from ⟨HJ.out.1, fun k hk1 hk2 => by
          by_cases e : k = h
          · subst e; omega
          · have h1 := norm_lt HN.out (show h < k by omega) (by omega)
            have h2 := norm_at HN.out (k := k) (by omega)
            omega⟩)
        clear hr
        generalize agR (rnA l h) x = z at *
        go_wp2_with fail
        go_roundg (h - i)
        case measure => have := HG.out; omega
        case rel => exact ⟨i, h, by omega, rfl, by omega, rfl, rfl, HK.out.trans K5.out, HJ2⟩
    · obtain rfl : i = j := by omega
      have hkk : ¬ ((i : Int) < (i : Int)) := by omega
      have HF := hidMk (show b = true ↔ i < l.length ∧ agR (rnA l i) x = 0 from HB.out.trans (found_is HN.out x hjl HJ.out.1 (fun k h1 h2 => by have := HJ.out.2 k h1 h2; omega)))
      clear hg
      by_cases hil : i < l.length
      · obtain ⟨bb, o, rfl, hbb, hcs⟩ := HS.out.cells (by omega)
        obtain ⟨c1, c2⟩ := hcs i hil
        have d1 := hk.cellp c1
        have d2 := hk.cellp c2
        have hil' : (i : Int) < (l.length : Int) := by omega
        clear hcs c1 c2 hk
        by_cases ha : agR (rnA l i) x = 0
        · have HT := hidMk (show b = true from HF.out.2 ⟨hil, ha⟩)
          have HA2 := hidMk (show ∀ w, Calls Try.prog 34 #[.agg #[.int .i64 (rnA l i).1, .int .i64 (rnA l i).2], .int .i64 x] w fun e w' => e = .returned (.int .i64 0) ∧ Kept w w' from fun w => by have := HAG.out (rnA l i) x w; rw [ha] at this; exact this)
          clear ha
          generalize rnA l i = r at *
          obtain ⟨r1, r2⟩ := r
          simp only at d1 d2 HA2
          go_wp2_with fail
          refine (HA2.out _).mono ?_
          rintro e w5 ⟨rfl, k5⟩
          have K5 := hidMk k5
          clear k5
          go_wp2_with fail
          go_ret2
          exact ⟨⟨i, by rw [HT.out]; rfl⟩, HK.out.trans K5.out⟩
        · have HT := hidMk (show b = false by cases hbb : b with | false => rfl | true => exact absurd (HF.out.1 hbb).2 ha)
          have ha' : (agR (rnA l i) x == 0) = false := by simpa using ha
          clear ha
          have HA2 := hidMk (HAG.out (rnA l i) x)
          generalize agR (rnA l i) x = z at *
          generalize rnA l i = r at *
          obtain ⟨r1, r2⟩ := r
          simp only at d1 d2 HA2
          go_wp2_with fail
          refine (HA2.out _).mono ?_
          rintro e w5 ⟨rfl, k5⟩
          have K5 := hidMk k5
          clear k5
          go_wp2_with fail
          go_ret2
          exact ⟨⟨i, by rw [HT.out]; rfl⟩, HK.out.trans K5.out⟩
      · have HT := hidMk (show b = false by cases hbb : b with | false => rfl | true => exact absurd (HF.out.1 hbb).1 hil)
        have hil' : ¬ (i : Int) < (l.length : Int) := by omega
        clear hk
        go_wp2_with fail
        go_ret2
        exact ⟨⟨i, by rw [HT.out]; rfl⟩, HK.out⟩
theorem region_Has (v : Value) (l : List Rn) (x : Int) (w : World) (h : SetIs w v l) (hN : Norm l) (hl : l.length ≤ 100000) (b : Bool) (hb : b = true ↔ inR l x) :
    Calls Try.prog 25 #[v, .int .i64 x] w fun e w' => e = .returned (.bool b) ∧ Kept w w' := by
  obtain ⟨a, c, rfl, h1, _, _⟩ := h
  have HB := hidMk (slices_BinR a c l x _ (h1.kept ((Kept.refl w).alloc (.cells #[.slice a l.length c] 28))) hN hl b hb)
  clear h1 hN hb
  go_enter Try.func25, Try.ntmps25
  go_wp2_with fail
  refine HB.out.mono ?_
  rintro e w5 ⟨⟨i, rfl⟩, k5⟩
  have K5 := hidMk k5
  clear k5
  go_wp2_with fail
  go_ret
  exact ⟨rfl, ((Kept.refl w).alloc _).trans K5.out⟩
end Go.Proofs.Ythbogpnkdlbilaa
