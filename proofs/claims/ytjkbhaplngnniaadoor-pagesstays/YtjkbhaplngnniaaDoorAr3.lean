/- The marks of places: lowest, flip; math/bits.TrailingZeros64. -/
import Derived.Test.YtjkbhaplngnniaaDoorAr2
import Derived.Shelf.Spec.TrailingZeros
import Derived.Laws.Bits64
namespace Go.Proofs.YtjkbhaplngnniaaDoor
open Go.RowKit
set_option linter.unusedSimpArgs false
set_option linter.unusedVariables false

abbrev Vars (w : World) : Prop := TabAt 0 Lib.deBruijn64tab w
theorem Vars.kept {w w' : World} (h : Vars w) (k : Kept w w') : Vars w' := fun j hj => k.cellp (h j hj)
theorem Vars.chg {S : Nat → Prop} {w w' : World} (h : Vars w) (k : Chg S w w') (hs : ¬ S 0) : Vars w' := fun j hj => k.cellp (h j hj) hs
set_option maxHeartbeats 1000000 in
theorem tz_core (x k idx : Nat) (w : World) (hx0 : ((x : Int) == 0) = false)
    (key : IntKind.u64.wrap (bits BinOp.and IntKind.u64 (x : Int) (IntKind.u64.wrap (-(x : Int))) * 285870213051353865) / 288230376151711744 = (idx : Int))
    (hi : idx < 64) (hk : k < 64) (hcell : w.cell? ⟨0, idx, none⟩ = some (.int .u8 k)) :
    Calls Tryd.prog 60 #[.int .u64 x] w fun e w' => e = .returned (.int .i64 k) ∧ w' = w := by
  go_enter Tryd.func60, Tryd.ntmps60
  go_wp2_with (simp only [key])
  go_ret
  exact ⟨rfl, rfl⟩
theorem tz64 (x : Nat) (hx : x < 18446744073709551616) (hx0 : x ≠ 0) (w : World) (hT : Vars w) : Calls Tryd.prog 60 #[.int .u64 x] w fun e w' => e = .returned (.int .i64 (Lib.ctz 64 x)) ∧ w' = w := by
  obtain ⟨hlow, hk⟩ := Lib.lowest_bit 64 x hx0 hx
  obtain ⟨hi, htab⟩ := Lib.deBruijn64_at _ hk
  have hcell := hT _ hi
  rw [htab] at hcell
  exact tz_core x _ _ w (by simp; omega) (tz64_key x _ hx hx0 hlow) hi hk hcell
/-- The lowest bit that a word has not. -/
theorem ctz_not (a : Nat) (ha : a < 18446744073709551615) : Lib.ctz 64 (18446744073709551615 - a) < 64 ∧ a.testBit (Lib.ctz 64 (18446744073709551615 - a)) = false ∧ ∀ b, b < Lib.ctz 64 (18446744073709551615 - a) → a.testBit b = true := by
  have hy0 : 18446744073709551615 - a ≠ 0 := by omega
  obtain ⟨m, hm, hc⟩ := Lib.ctzFrom_spec 64 (18446744073709551615 - a) (by omega) (by omega)
  have hcz : Lib.ctz 64 (18446744073709551615 - a) = Lib.ctzFrom 64 (18446744073709551615 - a) := if_neg hy0
  rw [hcz]
  generalize Lib.ctzFrom 64 (18446744073709551615 - a) = c at *
  have hbit : ∀ b, b < 64 → a.testBit b = !(18446744073709551615 - a).testBit b := fun b hb => by
    have := Nat.testBit_two_pow_sub_succ (x := a) (n := 64) (by omega) b
    rw [show 2 ^ 64 - (a + 1) = 18446744073709551615 - a by omega] at this
    rw [this]; simp [hb]
  refine ⟨hc, ?_, fun b hb => ?_⟩
  · rw [hbit c hc, hm, Nat.testBit_two_pow_mul]
    simp [Nat.testBit_zero]
  · rw [hbit b (by omega), hm, Nat.testBit_two_pow_mul]
    simp; omega
theorem low_of_word {rf : Int → Nat} {wd : Nat → Nat} (hb : ∀ j, j < 313 → ∀ b, b < 64 → (wd j).testBit b = decide (rf (64 * j + b + 1 : Nat) ≠ 0)) {k : Nat} (hk : k < 313) (hfull : ∀ j, j < k → wd j = 18446744073709551615) (hne : wd k < 18446744073709551615) : LowN rf (k * 64 + Lib.ctz 64 (18446744073709551615 - wd k) + 1) := by
  obtain ⟨h1, h2, h3⟩ := ctz_not _ hne
  generalize Lib.ctz 64 (18446744073709551615 - wd k) = c at *
  refine ⟨by omega, ?_, fun i hi1 hi2 => ?_⟩
  · have := hb k hk c h1
    rw [h2] at this
    have h4 := of_decide_eq_false this.symm
    rw [show k * 64 + c + 1 = 64 * k + c + 1 by omega]
    omega
  · have hik : (i - 1) / 64 ≤ k := by omega
    have hx := hb ((i - 1) / 64) (by omega) ((i - 1) % 64) (Nat.mod_lt _ (by omega))
    rw [show 64 * ((i - 1) / 64) + (i - 1) % 64 + 1 = i by omega] at hx
    have ht : (wd ((i - 1) / 64)).testBit ((i - 1) % 64) = true := by
      by_cases c' : (i - 1) / 64 < k
      · rw [hfull _ c', show 18446744073709551615 = 2 ^ 64 - 1 by omega, Nat.testBit_two_pow_sub_one]
        simp; omega
      · rw [show (i - 1) / 64 = k by omega]
        exact h3 _ (by omega)
    rw [ht] at hx
    exact of_decide_eq_true hx.symm
theorem not_all {rf : Int → Nat} {wd : Nat → Nat} (hb : ∀ j, j < 313 → ∀ b, b < 64 → (wd j).testBit b = decide (rf (64 * j + b + 1 : Nat) ≠ 0)) {x : Nat} (hx : LowN rf x) (hx2 : x ≤ 20032) (hfull : ∀ j, j < 313 → wd j = 18446744073709551615) : False := by
  have h1 := hx.one
  have h := hb ((x - 1) / 64) (by omega) ((x - 1) % 64) (Nat.mod_lt _ (by omega))
  rw [show 64 * ((x - 1) / 64) + (x - 1) % 64 + 1 = x by omega, hfull _ (by omega), show 18446744073709551615 = 2 ^ 64 - 1 by omega, Nat.testBit_two_pow_sub_one, hx.free] at h
  simp at h
  omega
theorem not_word (a : Nat) (ha : a < 18446744073709551616) : bits BinOp.xor IntKind.u64 IntKind.u64.max (a : Int) = ((18446744073709551615 - a : Nat) : Int) := by
  have h := bits_xor_u64_nat 18446744073709551615 a (by omega) ha
  rw [show IntKind.u64.max = ((18446744073709551615 : Nat) : Int) from rfl, h]
  congr 1
  apply Nat.eq_of_testBit_eq
  intro i
  rw [Nat.testBit_xor, show 18446744073709551615 = 2 ^ 64 - 1 by omega, Nat.testBit_two_pow_sub_one, show 2 ^ 64 - 1 - a = 2 ^ 64 - (a + 1) by omega, Nat.testBit_two_pow_sub_succ (by omega)]
  by_cases c : i < 64
  · simp [c]
  · have : a.testBit i = false := Nat.testBit_lt_two_pow (Nat.lt_of_lt_of_le ha (by
      have := Nat.pow_le_pow_right (n := 2) (by omega) (show 64 ≤ i by omega)
      omega))
    simp [c, this]
section
variable {w : World} {p B : Nat} {most : Int} {n : Nat} {rf q : Int → Nat} {nd : Int → ANd} {M : Nat} {wd : Nat → Nat} {v : Value} {xs : List Value}
set_option maxHeartbeats 1000000 in
set_option maxRecDepth 100000 in
theorem arena_lowest (h : ARq w p B most n rf q nd M wd v xs) (hV : Vars w) (x : Nat) (hx : LowN rf x) (hx2 : x ≤ 20032) : Calls Tryd.prog 59 #[.pointer (some ⟨p, 3, none⟩)] w fun e w' => e = .returned (.int .i64 (x - 1 : Nat)) ∧ Kept w w' := by
  have HC := hidMk h.c3
  have HW := hidMk h.word
  have HB := hidMk (And.intro h.bit (And.intro hx hx2))
  have HV := hidMk hV
  have HTZ := hidMk tz64
  clear h hx hx2 hV
  go_enter Tryd.func59, Tryd.ntmps59
  go_wp2_with fail
  go_loopg [6] 314 (fun g c wr => ∃ k : Nat, k + g = 314 ∧ k ≤ 313 ∧ c = .int .i64 k ∧ Kept w wr ∧ Hid (∀ j, j < k → wd j = 18446744073709551615))
  case atStart => exact ⟨0, by omega, by omega, rfl, Kept.refl _, hidMk fun j hj => absurd hj (by omega)⟩
  case round =>
    obtain ⟨k, hkg, hk3, rfl, hk, HF⟩ := hrel
    have HKG := hidMk hkg
    have HK := hidMk hk
    by_cases hkl : k < 313
    · have hc := hk.cellp (HC.out k hkl)
      have hwd := HW.out k hkl
      have hk' : (k : Int) < 313 := by omega
      have HV2 := hidMk (HV.out.kept hk)
      clear hkg hk
      by_cases hf : wd k = 18446744073709551615
      · have HF2 := hidMk (show ∀ j, j < k + 1 → wd j = 18446744073709551615 from fun j hj => by
          by_cases e : j = k
          · subst e; exact hf
          · exact HF.out j (by omega))
        rw [hf] at hc
        clear hf hwd
        go_wp2_with fail
        go_quiet (fail)
        go_wp2_with fail
        go_roundg (gk - 1)
        case measure => have := HKG.out; omega
        case rel => exact ⟨k + 1, by have := HKG.out; omega, by omega, by go_num, by first | exact HK.out | exact HK.out.drewN _ | exact HK.out.drew, HF2⟩
      · obtain ⟨y, hy⟩ : ∃ y, y = 18446744073709551615 - wd k := ⟨_, rfl⟩
        have HLO := HB.out.2.1.one' (low_of_word HB.out.1 hkl HF.out (by omega))
        have HL := (ctz_not (wd k) (by omega)).1
        rw [← hy] at HLO HL
        have HT := hidMk (HTZ.out y (by omega) (by omega))
        have hne : ((wd k : Int) != 18446744073709551615) = true := by simp; omega
        have hxo : bits BinOp.xor IntKind.u64 IntKind.u64.max (wd k : Int) = (y : Int) := by rw [not_word _ hwd, hy]
        generalize Lib.ctz 64 y = c at *
        generalize wd k = u at *
        have HLO := hidMk HLO
        have e1 : wrap64 ((k : Int) * 64) = (k : Int) * 64 := by unfold wrap64; omega
        have e2 : wrap64 ((k : Int) * 64 + c) = (k : Int) * 64 + c := by unfold wrap64; omega
        clear hf hwd hy
        go_wp2_with fail
        go_quiet (fail)
        go_wp2_with fail
        refine (HT.out _ (HV2.out.kept ((Kept.refl _).drewN _))).mono ?_
        rintro e w1 ⟨rfl, rfl⟩
        go_wp2_with fail
        go_ret
        exact ⟨by rw [HLO.out]; congr 2, HK.out.drewN _⟩
    · have hk' : ¬ ((k : Int) < 313) := by omega
      exact absurd (not_all HB.out.1 HB.out.2.1 HB.out.2.2 (fun j hj => HF.out j (by omega))) (fun e => e)
/-- One cell is written. -/
structure OneSet (w w' : World) (b o : Nat) (u : Value) : Prop where
  chg : Chg (· = b) w w'
  cell : w'.cell? ⟨b, o, none⟩ = some u
  other : ∀ j, j ≠ o → w'.cell? ⟨b, j, none⟩ = w.cell? ⟨b, j, none⟩
  fz : ∀ j, w'.frozen? ⟨b, j, none⟩ = w.frozen? ⟨b, j, none⟩
  size : w'.heap.size = w.heap.size
theorem oneSet {w : World} {b o : Nat} {u u' : Value} (h : w.cell? ⟨b, o, none⟩ = some u') : OneSet w (w.setCell ⟨b, o, none⟩ u) b o u := by
  refine ⟨(Chg.refl (· = b) w).setCell (p := ⟨b, o, none⟩) (.inl rfl) u, World.cell?_setCell_same _ _ _ h, fun j hj => World.cell?_setCell_other _ _ _ _ (by intro e; simp only [Addr.mk.injEq] at e; omega), fun j => World.frozen?_setCell .., by simp [World.setCell]⟩
theorem OneSet.drewN {w w' : World} {b o : Nat} {u : Value} (h : OneSet w w' b o u) (k : Nat) : OneSet w (w'.drewN k) b o u := ⟨h.chg.drewN k, h.cell, h.other, h.fz, h.size⟩
theorem OneSet.drew {w w' : World} {b o : Nat} {u : Value} (h : OneSet w w' b o u) : OneSet w w'.drew b o u := ⟨h.chg.drew, h.cell, h.other, h.fz, h.size⟩
theorem arena_flip (i : Nat) (hi : i < 20032) (u : Nat) (hu : u < 18446744073709551616) (hc : w.cell? ⟨p, 3 + i / 64, none⟩ = some (.int .u64 u)) (hf : w.frozen? ⟨p, 3 + i / 64, none⟩ = false) : Calls Tryd.prog 55 #[.pointer (some ⟨p, 3, none⟩), .int .i64 i] w fun e w' => e = .returned (.tuple #[]) ∧ OneSet w w' p (3 + i / 64) (.int .u64 (u ^^^ 2 ^ (i % 64) : Nat)) := by
  obtain ⟨a, ha⟩ : ∃ a, a = i / 64 := ⟨_, rfl⟩
  obtain ⟨b, hb⟩ : ∃ b, b = i % 64 := ⟨_, rfl⟩
  obtain ⟨I, hI⟩ : ∃ I : Int, I = i := ⟨_, rfl⟩
  have e0 : 0 ≤ I := by omega
  have e3 : (a : Int) < 313 := by omega
  have e4 : (b : Int) < 64 := by omega
  have e1 : I.tdiv 64 = a := by rw [Int.tdiv_eq_ediv_of_nonneg e0]; omega
  have e2 : I.tmod 64 = b := by rw [Int.tmod_eq_emod_of_nonneg e0]; omega
  rw [← ha, ← hb, ← hI]
  rw [← ha] at hc hf
  have HC := hidMk hc
  clear ha hb hI hi
  go_enter Tryd.func55, Tryd.ntmps55
  go_wp2_with fail
  go_region
  have h2 : 2 ^ b < 18446744073709551616 := by
    have := Nat.pow_lt_pow_right (a := 2) (by omega) (show b < 64 by omega)
    omega
  have hw : IntKind.u64.wrap (2 ^ b) = ((2 ^ b : Nat) : Int) := by
    rw [IntKind.wrap_u64]
    have : (2 : Int) ^ b = ((2 ^ b : Nat) : Int) := by rw [Int.natCast_pow]; rfl
    rw [this]
    exact Int.emod_eq_of_lt (Int.natCast_nonneg _) (Int.ofNat_lt.2 h2)
  have hx : bits BinOp.xor IntKind.u64 (u : Int) (IntKind.u64.wrap (2 ^ b)) = ((u ^^^ 2 ^ b : Nat) : Int) := by
    rw [hw, bits_xor_u64_nat u (2 ^ b) hu h2]
  rw [hx]
  go_wp2_with fail
  go_end0
  exact ⟨rfl, (oneSet HC.out).drew⟩
end
end Go.Proofs.YtjkbhaplngnniaaDoor
