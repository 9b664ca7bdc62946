/- rec: sums, bit by bit. -/
import Derived.Test.YtapcmkhpbdphoaaWire7
import Derived.Test.YtapcmkhpbdphoaaChgI
import Derived.Laws.MakeOwn
import Derived.Deep.RegionHeld3
import Derived.Deep.DeepMust
namespace Go.Proofs.Ytapcmkhpbdphoaa
open Go.RowKit Go.Maps
set_option linter.unusedSimpArgs false
set_option linter.unusedVariables false

theorem ofI32 (a : Nat) (ha : a < 4294967296) : (BitVec.ofInt 32 (a : Int)).toNat = a := by
  rw [BitVec.toNat_ofInt]
  show ((a : Int) % 4294967296).toNat = a
  omega
theorem x32 (a b : Nat) (ha : a < 4294967296) (hb : b < 4294967296) : bits .xor .u32 (a : Int) (b : Int) = ((a ^^^ b : Nat) : Int) := by
  show IntKind.u32.wrap ((BitVec.ofInt 32 (a : Int) ^^^ BitVec.ofInt 32 (b : Int)).toNat : Int) = _
  rw [BitVec.toNat_xor, ofI32 a ha, ofI32 b hb, IntKind.wrap_u32]
  have := Nat.xor_lt_two_pow (n := 32) ha hb
  omega
theorem and32 (a : Nat) (ha : a < 4294967296) : bits .and .u32 (a : Int) 1 = ((a % 2 : Nat) : Int) := by
  show IntKind.u32.wrap ((BitVec.ofInt 32 (a : Int) &&& BitVec.ofInt 32 1).toNat : Int) = _
  rw [BitVec.toNat_and, ofI32 a ha, show (BitVec.ofInt 32 1).toNat = 1 from rfl, Nat.and_one_is_mod, IntKind.wrap_u32]
  omega
/-- One bit of a sum. -/
def st1 (c : Nat) : Nat := if c % 2 = 1 then (c / 2) ^^^ 3988292384 else c / 2
theorem st1_lt {c : Nat} (h : c < 4294967296) : st1 c < 4294967296 := by
  unfold st1
  split
  · exact Nat.xor_lt_two_pow (n := 32) (by show c / 2 < 4294967296; omega) (by decide)
  · omega
def stK (c : Nat) : Nat → Nat
  | 0 => c
  | k + 1 => st1 (stK c k)
theorem stK_lt {c : Nat} (h : c < 4294967296) : ∀ k, stK c k < 4294967296
  | 0 => h
  | k + 1 => st1_lt (stK_lt h k)
def crcB (c : Nat) (b : Int) : Nat := stK (c ^^^ b.toNat) 8
def crcL (l : List Int) : Nat := l.foldl crcB 4294967295
def sumN (l : List Int) : Nat := 4294967295 ^^^ crcL l
theorem crcB_lt {c : Nat} {b : Int} (h : c < 4294967296) (hb : isB b) : c ^^^ b.toNat < 4294967296 := Nat.xor_lt_two_pow (n := 32) h (by unfold isB at hb; show b.toNat < 4294967296; omega)
theorem fold_lt : ∀ (l : List Int) (c : Nat), c < 4294967296 → (∀ x ∈ l, isB x) → l.foldl crcB c < 4294967296
  | [], c, h, _ => h
  | x :: r, c, h, hb => fold_lt r _ (stK_lt (crcB_lt h (hb x (List.mem_cons_self ..))) 8) (fun y hy => hb y (List.mem_cons_of_mem _ hy))
theorem crcL_lt {l : List Int} (h : ∀ x ∈ l, isB x) : crcL l < 4294967296 := fold_lt l _ (by decide) h
theorem sumN_lt {l : List Int} (h : ∀ x ∈ l, isB x) : sumN l < 4294967296 := Nat.xor_lt_two_pow (n := 32) (by decide) (crcL_lt h)
theorem crcL_take {l : List Int} {k : Nat} (h : k < l.length) : crcL (l.take (k + 1)) = stK (crcL (l.take k) ^^^ (l.getD k 0).toNat) 8 := by
  unfold crcL
  rw [List.take_succ_eq_append_getElem h, List.foldl_append, List.getD_eq_getElem?_getD, List.getElem?_eq_getElem h]
  rfl
theorem take_isB {l : List Int} (h : ∀ x ∈ l, isB x) (k : Nat) : ∀ x ∈ l.take k, isB x := fun x hx => h x (List.mem_of_mem_take hx)
theorem drop_isB {l : List Int} (h : ∀ x ∈ l, isB x) (k : Nat) : ∀ x ∈ l.drop k, isB x := fun x hx => h x (List.mem_of_mem_drop hx)

set_option maxHeartbeats 4000000 in
set_option maxRecDepth 100000 in
theorem rec_Sum (a : Option Addr) (n c : Nat) (l : List Int) (w : World) (hs : Sl .u8 w a n l) (hb : ∀ x ∈ l, isB x) : Calls Try.prog 56 #[.slice a n c] w fun e w' => e = .returned (.int .u32 (sumN l : Nat)) ∧ w' = w := by
  have H := hidMk hs
  have HB := hidMk hb
  have hlen := hs.len
  have hbig := hs.big
  unfold maxLen at hbig
  clear hs hb
  go_enter Try.func56, Try.ntmps56
  go_wp2_with fail
  go_loopg [3, 9] n (fun gg s i wr => ∃ k : Nat, k + gg = n ∧ i = .int .i64 (k : Int) ∧ s = .int .u32 ((crcL (l.take k) : Nat) : Int) ∧ wr = w)
  case atStart => exact ⟨0, by omega, rfl, rfl, rfl⟩
  case round =>
    obtain ⟨k, hkg, rfl, rfl, rfl⟩ := hrel
    have HKG := hidMk hkg
    by_cases hkn : k < n
    · obtain ⟨b, o, rfl, hbb, hcs⟩ := H.out.cells (by omega)
      have hcell := hcs k hkn
      have hxb := HB.out _ (getD_in (l := l) (k := k) (by omega))
      have hc0 := crcL_lt (take_isB HB.out k)
      have HN := hidMk (crcL_take (l := l) (k := k) (by omega))
      have hc1 := crcB_lt hc0 hxb
      have hkn' : (k : Int) < (n : Int) := by omega
      generalize l.getD k 0 = x at *
      have hxx := x32 (crcL (l.take k)) x.toNat hc0 (by unfold isB at hxb; omega)
      rw [show ((x.toNat : Nat) : Int) = x by unfold isB at hxb; omega] at hxx
      have hw1 : IntKind.u32.wrap x = x := by unfold isB at hxb; rw [IntKind.wrap_u32]; omega
      have hw2 : x % 4294967296 = x := by unfold isB at hxb; omega
      generalize crcL (l.take k) ^^^ x.toNat = c1 at *
      generalize crcL (l.take k) = c0 at *
      obtain ⟨gi, hgi⟩ : ∃ gi, gi = gk := ⟨_, rfl⟩
      subst hgi
      clear hcs hxb hkg hc0
      go_wp2_with fail
      go_loopg [3, 17] 8 (fun g2 s j wr2 => ∃ t : Nat, t + g2 = 8 ∧ j = .int .i64 (t : Int) ∧ s = .int .u32 ((stK c1 t : Nat) : Int) ∧ wr2 = wr)
      case atStart => exact ⟨0, by omega, rfl, by simp only [stK] <;> first | rfl | simp [hxx], rfl⟩
      case round =>
        obtain ⟨t, htg, rfl, rfl, rfl⟩ := hrel
        have HTG := hidMk htg
        by_cases ht : t < 8
        · have hlt := stK_lt hc1 t
          have HT1 := hidMk (show stK c1 (t + 1) = st1 (stK c1 t) from rfl)
          have ht' : (t : Int) < 8 := by omega
          have q1 := and32 (stK c1 t) hlt
          by_cases hodd : stK c1 t % 2 = 1
          · have HS := hidMk (show st1 (stK c1 t) = (stK c1 t / 2) ^^^ 3988292384 from if_pos hodd)
            rw [hodd] at q1
            have q2 := x32 (stK c1 t / 2) 3988292384 (by omega) (by decide)
            rw [← HS.out, show ((stK c1 t / 2 : Nat) : Int) = (stK c1 t : Int) / 2 from by omega, show ((3988292384 : Nat) : Int) = 3988292384 from rfl] at q2
            rw [show ((1 : Nat) : Int) = 1 from rfl] at q1
            generalize st1 (stK c1 t) = c2 at *
            generalize stK c1 t = cc at *
            clear htg
            go_wp2_with fail
            go_roundg (gk - 1)
            case measure => have := HTG.out; omega
            case rel => exact ⟨t + 1, by have := HTG.out; omega, by go_num, by rw [HT1.out], rfl⟩
          · have HS := hidMk (show st1 (stK c1 t) = stK c1 t / 2 from if_neg hodd)
            rw [show stK c1 t % 2 = 0 from by omega] at q1
            have q2 := x32 (stK c1 t / 2) 0 (by omega) (by decide)
            rw [Nat.xor_zero, ← HS.out] at q2
            rw [show ((0 : Nat) : Int) = 0 from rfl] at q1 q2
            have q3 : (((st1 (stK c1 t) : Nat)) : Int) = (stK c1 t : Int) / 2 := by rw [HS.out]; omega
            rw [q3] at q2
            have HQ3 := hidMk q3
            clear q3
            generalize st1 (stK c1 t) = c2 at *
            generalize stK c1 t = cc at *
            clear htg
            go_wp2_with fail
            go_roundg (gk - 1)
            case measure => have := HTG.out; omega
            case rel => exact ⟨t + 1, by have := HTG.out; omega, by go_num, by rw [HT1.out, HQ3.out], rfl⟩
        · have ht8 : t = 8 := by omega
          subst ht8
          go_wp2_with fail
          go_roundg (gi - 1)
          case measure => have := HKG.out; omega
          case rel => exact ⟨k + 1, by have := HKG.out; omega, by go_num, by rw [HN.out], rfl⟩
    · have hk : k = n := by omega
      subst hk
      have HT := hidMk (show l.take k = l from List.take_of_length_le (by omega))
      have hlt := crcL_lt HB.out
      have q2 := x32 4294967295 (crcL l) (by decide) hlt
      rw [show ((4294967295 : Nat) : Int) = IntKind.u32.max by decide] at q2
      rw [HT.out]
      have HQ := hidMk q2
      go_wp2_with fail
      go_ret
      exact ⟨by first | rfl | (rw [HQ.out]; rfl), rfl⟩
/-- A sum as four bytes, the lowest first. -/
def sb (s : Nat) : List Int := [((s % 256 : Nat) : Int), ((s / 256 % 256 : Nat) : Int), ((s / 65536 % 256 : Nat) : Int), ((s / 16777216 % 256 : Nat) : Int)]
theorem sb_isB (s : Nat) : ∀ x ∈ sb s, isB x := by
  intro x hx
  simp only [sb, List.mem_cons, List.not_mem_nil, or_false] at hx
  unfold isB
  omega
end Go.Proofs.Ytapcmkhpbdphoaa
