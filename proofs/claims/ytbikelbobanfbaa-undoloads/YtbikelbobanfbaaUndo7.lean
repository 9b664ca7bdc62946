/- Both histories: back and forward; acts that came in. -/
import Derived.Test.YtbikelbobanfbaaUndo6
import Derived.Deep.SlicePairs
import Derived.OpenShut
namespace Go.Proofs.Ytbikelbobanfbaa
open Go.RowKit Go.Maps
set_option linter.unusedSimpArgs false
set_option linter.unusedVariables false

section
variable {w0 w : World} {hb q : Nat} {la : Option Addr} {lc : Nat} {p : List Int} {n y : Int} {f : List Int} {L : List Int} {at_ : Nat}
theorem bi_Undo (h : Bi w0 w hb q la lc (p ++ [y]) n f L at_) : Calls Try.prog 13 #[.pointer (some ⟨hb, 0, none⟩)] w fun e w' => e = .returned (.tuple #[.int .i64 y, .int .i64 0]) ∧ Bi w0 w' hb q la lc p y (n :: f) L at_ := by
  refine (hs_Undo h.hs h.tlt).mono ?_
  rintro e w' ⟨rfl, h2, hc⟩
  exact ⟨rfl, h.on hc h2⟩
theorem bi_Redo (h : Bi w0 w hb q la lc p n (y :: f) L at_) : Calls Try.prog 15 #[.pointer (some ⟨hb, 0, none⟩)] w fun e w' => e = .returned (.tuple #[.int .i64 y, .int .i64 0]) ∧ Bi w0 w' hb q la lc (p ++ [n]) y f L at_ := by
  refine (hs_Redo h.hs h.tlt).mono ?_
  rintro e w' ⟨rfl, h2, hc⟩
  exact ⟨rfl, h.on hc h2⟩
theorem bi_rUndo (h : Bi w0 w hb q la lc p n f L (at_ + 1)) : Calls Try.prog 14 #[.pointer (some ⟨q, 0, none⟩)] w fun e w' => e = .returned (.tuple #[.int .i64 (L.getD at_ 0), .int .i64 0]) ∧ Bi w0 w' hb q la lc p n f L at_ := by
  refine (r18_Undo h.rf).mono ?_
  rintro e w' ⟨rfl, h2, hc⟩
  exact ⟨rfl, h.to hc h2 (fun b e => .inl e)⟩
theorem bi_rRedo (h : Bi w0 w hb q la lc p n f L at_) (hr : at_ + 1 < L.length) : Calls Try.prog 16 #[.pointer (some ⟨q, 0, none⟩)] w fun e w' => e = .returned (.tuple #[.int .i64 (L.getD (at_ + 1) 0), .int .i64 0]) ∧ Bi w0 w' hb q la lc p n f L (at_ + 1) := by
  refine (r18_Redo h.rf hr).mono ?_
  rintro e w' ⟨rfl, h2, hc⟩
  exact ⟨rfl, h.to hc h2 (fun b e => .inl e)⟩
end
theorem two_sl {v w y W : World} {q : Nat} {a : Option Addr} {m : Nat} {l : List Int} (s : Sl .i64 w a m l) (k : Kept w y) (c : Chg (· = q) y W) (hn : 0 < m → ∀ ad, a = some ad → v.heap.size ≤ ad.block) (hq : q < v.heap.size) : Sl .i64 W a m l :=
  (s.kept k).chg c (fun hp ad e x => by have := hn hp ad e; omega)
/-- Acts that came in. -/
structure As (w : World) (a : Option Addr) (n : Nat) (kd nn : Nat → Int) : Prop where
  big : n ≤ maxLen
  cells : 0 < n → ∃ b o, a = some ⟨b, o, none⟩ ∧ b < w.heap.size ∧ ∀ i, i < n → w.cell? ⟨b, o + i * 2, none⟩ = some (.int .i64 (kd i)) ∧ w.cell? ⟨b, o + i * 2 + 1, none⟩ = some (.int .i64 (nn i)) ∧ isI (kd i)
theorem acts_open {H : Type} {enc : TypeId × Value → H} {w : World} {base : Nat} {spare : Nat → Bool} {held : Bool} {fuel : Nat} {a : Option Addr} {n c : Nat} {x : DataW H × List MemPlace}
    (h : DataW.trod enc Try.prog w base spare held fuel 22 [.slice a n c] = some x) : ∃ kd nn, As w a n kd nn := by
  rcases Go.Deep.open_slice_pairs Try.underlying22 Try.underlying29 (by kernel_rfl) rfl rfl (by kernel_rfl) (by kernel_rfl) h with ⟨hcs, _⟩ | ⟨ad, len, cap, m, k, V0, V1, D0, D1, P0, P1, hcs, _, hl, hm, hmm, _, hall⟩
  · simp at hcs
    obtain ⟨rfl, rfl, rfl⟩ := hcs
    exact ⟨fun _ => 0, fun _ => 0, Nat.zero_le _, fun hp => absurd hp (by omega)⟩
  · simp at hcs
    obtain ⟨rfl, rfl, rfl⟩ := hcs
    have hlm : n ≤ m := by rw [hmm]; split <;> omega
    have each : ∀ i, i < n → ∃ z : Int × Int, w.cell? (ad.add (i * 2)) = some (.int .i64 z.1) ∧ w.cell? (ad.add (i * 2 + 1)) = some (.int .i64 z.2) ∧ isI z.1 := fun i hi => by
      obtain ⟨h1, h2, h3, h4⟩ := hall i (by omega)
      obtain ⟨s, e1, _, e2⟩ := DataW.trod_int Try.underlying3 h3
      obtain ⟨z, e3, _, e4⟩ := DataW.trod_int Try.underlying3 h4
      simp only [List.cons.injEq, and_true] at e1 e3
      exact ⟨(s, z), by rw [h1, e1], by rw [h2, e3], isI_of e2⟩
    obtain ⟨z, hz⟩ := Go.Deep.choose_lt each
    refine ⟨fun i => (z i).1, fun i => (z i).2, by omega, fun hp => ?_⟩
    obtain ⟨b, off, spot⟩ := ad
    have hspot : spot = none := by simpa [Addr.add] using World.cell?_spot (hz 0 (by omega)).1
    subst hspot
    refine ⟨b, off, rfl, cell_lt (p := ⟨b, off, none⟩) (by simpa [Addr.add] using (hz 0 (by omega)).1), fun i hi => ?_⟩
    obtain ⟨h1, h2, h3⟩ := hz i hi
    rw [Go.WideShapes.add_plain] at h1 h2
    exact ⟨h1, by rw [Nat.add_assoc]; exact h2, h3⟩
theorem acts_openL {H : Type} {enc : TypeId × Value → H} {w : World} {base : Nat} {spare : Nat → Bool} {held : Bool} {fuel : Nat} {a : Option Addr} {n c : Nat} {x : DataW H × List MemPlace}
    (h : DataW.trod enc Try.prog w base spare held fuel 22 [.slice a n c] = some x) : ∃ l : (Nat → Int) × (Nat → Int), As w a n l.1 l.2 := by
  obtain ⟨kd, nn, h⟩ := acts_open h
  exact ⟨(kd, nn), h⟩
end Go.Proofs.Ytbikelbobanfbaa
