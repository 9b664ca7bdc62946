/- Readers: Why, Left, Fail, cut, ahead. -/
import Derived.Test.YtapcmkhpbdphoaaWire4
import Derived.Laws.IdiomStrings
namespace Go.Proofs.Ytapcmkhpbdphoaa
open Go.RowKit
set_option linter.unusedSimpArgs false
set_option linter.unusedVariables false

theorem why_nil (w : World) : Calls Try.prog 68 #[.pointer none] w fun e w' => e = .returned (.int .i64 1) ∧ w' = w := by
  go_enter Try.func68, Try.ntmps68
  go_wp2
  go_ret
  exact ⟨rfl, rfl⟩
theorem why_at {w : World} {B b : Nat} {l : List Int} {y : Int} (h : Rd w B b l y) : Calls Try.prog 68 #[.pointer (some ⟨b, 0, none⟩)] w fun e w' => e = .returned (.int .i64 y) ∧ w' = w := by
  obtain ⟨⟨a, n, c, hbox, hs, hn, hg⟩, hb⟩ := h
  obtain ⟨h1, h2, h3, h4, h5⟩ := hbox
  clear hs hn hg hb
  go_enter Try.func68, Try.ntmps68
  go_wp2
  go_ret
  exact ⟨rfl, rfl⟩
theorem left_nil (w : World) : Calls Try.prog 67 #[.pointer none] w fun e w' => e = .returned (.int .i64 0) ∧ w' = w := by
  go_enter Try.func67, Try.ntmps67
  go_wp2
  go_ret
  exact ⟨rfl, rfl⟩
theorem left_at {w : World} {B b : Nat} {l : List Int} {y : Int} (h : Rd w B b l y) : Calls Try.prog 67 #[.pointer (some ⟨b, 0, none⟩)] w fun e w' => e = .returned (.int .i64 l.length) ∧ w' = w := by
  obtain ⟨⟨a, n, c, hbox, hs, hn, hg⟩, hb⟩ := h
  obtain ⟨h1, h2, h3, h4, h5⟩ := hbox
  have hl := hs.len
  rw [hl]
  clear hs hn hg hb hl
  go_enter Try.func67, Try.ntmps67
  go_wp2
  go_ret
  exact ⟨rfl, rfl⟩
theorem fail_nil (k : Int) (w : World) : Calls Try.prog 73 #[.pointer none, .int .i64 k] w fun e w' => e = .returned (.tuple #[]) ∧ w' = w := by
  go_enter Try.func73, Try.ntmps73
  go_wp2_with (go_at_call 68; refine (why_nil _).mono ?_; rintro e w1 ⟨rfl, rfl⟩)
  go_end0
  exact ⟨rfl, rfl⟩
def failE (y k : Int) : Int := if y = 0 then k else y
theorem fail_at {w : World} {B b : Nat} {l : List Int} {y : Int} (h : Rd w B b l y) (k : Int) : Calls Try.prog 73 #[.pointer (some ⟨b, 0, none⟩), .int .i64 k] w fun e w' => e = .returned (.tuple #[]) ∧ Rd w' B b l (failE y k) ∧ But b w w' := by
  have HR := hidMk h
  obtain ⟨⟨a, n, c, hbox, hs, hn, hg⟩, hb⟩ := h
  have HBX := hidMk hbox
  obtain ⟨h1, h2, h3, h4, h5⟩ := hbox
  have HS := hidMk hs
  have HG := hidMk hg
  have HB := hidMk hb
  clear hs hg hb
  by_cases hy : y = 0
  · subst hy
    have HE := hidMk (show failE 0 k = k from if_pos rfl)
    go_enter Try.func73, Try.ntmps73
    go_wp2_with (go_at_call 68; refine (why_at HR.out).mono ?_; rintro e w1 ⟨rfl, rfl⟩)
    go_end0
    refine ⟨rfl, ?_, But.setCell _ _ _ _⟩
    rw [HE.out]
    refine ⟨⟨a, n, c, ?_, HS.out.but (But.setCell _ _ _ _) (fun hn' ad ha => by have := HG.out hn' ad ha; omega), hn, HG.out⟩, HB.out⟩
    refine ⟨(World.cell?_setCell_other _ _ _ _ (by simp)).trans h1, World.cell?_setCell_same _ _ _ h2, by simp [h3], by simp [h4], by simpa [World.setCell] using h5⟩
  · have HE := hidMk (show failE y k = y from if_neg hy)
    have hye : (y == 0) = false := by simpa using hy
    go_enter Try.func73, Try.ntmps73
    go_wp2_with (go_at_call 68; refine (why_at HR.out).mono ?_; rintro e w1 ⟨rfl, rfl⟩)
    go_end0
    refine ⟨rfl, ?_, But.refl _ _⟩
    rw [HE.out]
    exact HR.out
end Go.Proofs.Ytapcmkhpbdphoaa
