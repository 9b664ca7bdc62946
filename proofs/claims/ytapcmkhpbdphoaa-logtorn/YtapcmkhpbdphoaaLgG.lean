/- log: byte rows that came in; Add while no Stop waits. -/
import Derived.Test.YtapcmkhpbdphoaaLgF
import Derived.Deep.Slices
import Derived.WideShapes
namespace Go.Proofs.Ytapcmkhpbdphoaa
open Go.RowKit Go.Maps
set_option linter.unusedSimpArgs false
set_option linter.unusedVariables false

def bA (l : List (Sv × List Int)) (i : Nat) : Sv × List Int := l.getD i (q0, [])
/-- Byte rows that came in. -/
structure Bq (w : World) (a : Option Addr) (n : Nat) (l : List (Sv × List Int)) : Prop where
  len : l.length = n
  big : n ≤ maxLen
  row : ∀ i, i < n → Sl .u8 w (bA l i).1.1 (bA l i).1.2.1 (bA l i).2 ∧ ∀ x ∈ (bA l i).2, isB x
  cells : 0 < n → ∃ b o, a = some ⟨b, o, none⟩ ∧ b < w.heap.size ∧ ∀ i, i < n → w.cell? ⟨b, o + i, none⟩ = some (slv3 (bA l i).1)
section
variable {H : Type} {enc : TypeId × Value → H} {w : World} {base : Nat} {spare : Nat → Bool} {held : Bool} {fuel : Nat} {x : DataW H × List MemPlace}
theorem bsz1 : Try.prog.cellsOf 33 = 1 := by kernel_rfl
theorem bss_open {a : Option Addr} {n c : Nat} (h : DataW.trod enc Try.prog w base spare held fuel 22 [.slice a n c] = some x) : ∃ l : List (Sv × List Int), Bq w a n l := by
  rcases Go.Deep.open_slice Try.underlying22 h with ⟨hcs, _⟩ | ⟨ad, len, cap, m, k, D, Pl, hcs, _, hl, hm, hmm, _, hall⟩
  · simp at hcs
    obtain ⟨rfl, rfl, rfl⟩ := hcs
    exact ⟨[], rfl, Nat.zero_le _, fun i hi => absurd hi (by simp), fun hp => absurd hp (by simp)⟩
  · simp at hcs
    obtain ⟨rfl, rfl, rfl⟩ := hcs
    have hlm : n ≤ m := by rw [hmm]; split <;> omega
    have each : ∀ i, i < n → ∃ y : Sv × List Int, w.cells? base (ad.add (i * 1)) 1 = some [slv3 y.1] ∧ Sl .u8 w y.1.1 y.1.2.1 y.2 ∧ (∀ x ∈ y.2, isB x) := fun i hi => by
      obtain ⟨cs', h1, h2⟩ := hall i (by omega)
      rw [bsz1] at h1
      obtain ⟨v, rfl⟩ : ∃ v, cs' = [v] := by
        have := (World.cells?_some h1).2.1
        match cs', this with
        | [v], _ => exact ⟨v, rfl⟩
      obtain ⟨a', n', c', l', rfl, hs, hb⟩ := bytes_open h2
      exact ⟨((a', n', c'), l'), h1, hs, hb⟩
    haveI : Inhabited (Sv × List Int) := ⟨(q0, [])⟩
    obtain ⟨q, hq⟩ := Go.Deep.choose_lt each
    have hget : ∀ i, i < n → bA ((List.range n).map q) i = q i := fun i hi => by simp [bA, List.getD, hi]
    refine ⟨(List.range n).map q, by simp, by omega, fun i hi => by rw [hget i hi]; exact (hq i hi).2, fun hp => ?_⟩
    obtain ⟨b, off, spot⟩ := ad
    have h0 := (World.cells?_some (hq 0 hp).1).2.2 0 (by omega)
    have h0' : w.cell? (((⟨b, off, spot⟩ : Addr).add (0 * 1)).add 0) = some (slv3 (q 0).1) := h0
    have hspot : spot = none := by simpa [Addr.add] using World.cell?_spot h0'
    subst hspot
    refine ⟨b, off, rfl, ?_, fun i hi => ?_⟩
    · exact cell_lt (p := ⟨b, off, none⟩) (by simpa [Addr.add] using h0')
    · rw [hget i hi]
      have h3 : w.cell? (((⟨b, off, none⟩ : Addr).add (i * 1)).add 0) = some (slv3 (q i).1) := (World.cells?_some (hq i hi).1).2.2 0 (by omega)
      rw [Go.WideShapes.add_plain, Go.WideShapes.add_plain] at h3
      simpa using h3
end
/-- What Add makes of a log while no Stop waits. -/
def AddN (w : World) (T : Nat → Prop) (p f d g K N fr to : Nat) (s : Bf) (rs : List (List Int)) (l : List Int) (e : Ending) (w' : World) : Prop := ∃ x va vn vc qs s', e = .returned (.int .i64 x) ∧ (x = 0 → RecOk l) ∧ Lg w' T p f d g K va vn vc qs N fr to s' (if x = 0 then rs ++ [l] else rs) ∧ s'.wt = false ∧ s'.wr ≤ s.wr + 12 ∧ Chg (fun j => ¬ T j) w w'
theorem add_n {w : World} {T : Nat → Prop} {p f d g K : Nat} {va : Option Addr} {vn vc : Nat} {qs : List Sv} {N fr to : Nat} {s : Bf} {rs : List (List Int)} (h : Lg w T p f d g K va vn vc qs N fr to s rs) (hwt : s.wt = false) (hwr : s.wr ≤ 900000) (hrs : rs.length ≤ 10000) (a : Option Addr) (n c : Nat) (l : List Int) (hs : Sl .u8 w a n l) (hb : ∀ x ∈ l, isB x) (hta : 0 < n → ∀ ad, a = some ad → T ad.block) :
    Calls Try.prog 7 #[.pointer (some ⟨p, 0, none⟩), .slice a n c] w fun e w' => AddN w T p f d g K N fr to s rs l e w' := by
  have hlen := hs.len
  by_cases h1 : n = 0 ∨ 250 < n
  · refine (log_Add_bad h.lc.c0 a n c h1).mono ?_
    rintro e w' ⟨rfl, k⟩
    exact ⟨5, va, vn, vc, qs, s, rfl, fun e => by omega, by rw [if_neg (by omega)]; exact h.kept k, hwt, by omega, Chg.of_kept k⟩
  · have hl : RecOk l := ⟨by omega, by omega, hb⟩
    by_cases h2 : (to - fr) * 32 < (catR rs).length + (recB l).length
    · refine (log_Add_full h a n c l hs hl h2).mono ?_
      rintro e w' ⟨rfl, k⟩
      exact ⟨14, va, vn, vc, qs, s, rfl, fun e => by omega, by rw [if_neg (by omega)]; exact h.kept k, hwt, by omega, Chg.of_kept k⟩
    · refine (log_Add h a n c l hs hl (by omega) (hta (by omega)) hwr hrs).mono ?_
      rintro e w' (⟨rfl, va', vn', vc', qs', s', h1, h2, h3, h4⟩ | ⟨_, e1, _⟩)
      · exact ⟨0, va', vn', vc', qs', s', rfl, fun _ => hl, by rw [if_pos rfl]; exact h1, by rw [h2, hwt], h3, h4⟩
      · rw [hwt] at e1
        cases e1
end Go.Proofs.Ytapcmkhpbdphoaa
