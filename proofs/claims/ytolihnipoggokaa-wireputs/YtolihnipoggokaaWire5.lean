/- Readers: Why, Left, Fail, cut, ahead. -/
import Derived.Test.YtolihnipoggokaaWire4
import Derived.Laws.IdiomStrings
namespace Go.Proofs.Ytolihnipoggokaa
open Go.RowKit
set_option linter.unusedSimpArgs false
set_option linter.unusedVariables false

def str (l : List Int) : ByteArray := ⟨(l.map fun x => UInt8.ofNat x.toNat).toArray⟩
theorem str_byt (s : ByteArray) : str (byt s) = s := by
  have h : (byt s).map (fun x => UInt8.ofNat x.toNat) = s.data.toList := by
    unfold byt
    rw [List.map_map]
    conv => rhs; rw [← List.map_id s.data.toList]
    refine List.map_congr_left fun b _ => ?_
    simp
  unfold str
  rw [h]
theorem byt_str {l : List Int} (h : ∀ x ∈ l, isB x) : byt (str l) = l := by
  unfold byt str
  simp only [List.map_map]
  conv => rhs; rw [← List.map_id l]
  refine List.map_congr_left fun x hx => ?_
  have := h x hx
  unfold isB at this
  simp
  omega
theorem run_string_sl {w : World} {a : Option Addr} {n c : Nat} {l : List Int} (hs : Sl .u8 w a n l) (hb : ∀ x ∈ l, isB x) :
    (convert 22 9 (.slice a n c)).run Try.prog w = .ok (.string (str l)) w := by
  have hl := hs.len
  cases a with
  | none =>
    have hn : n = 0 := by
      by_cases hn : 0 < n
      · obtain ⟨b, o, e, _⟩ := hs.cells hn
        cases e
      · omega
    subst hn
    have : l = [] := List.eq_nil_of_length_eq_zero hl
    subst this
    rw [run_convert_bytes_string w _ _ 5 none 0 c Try.underlying22 Try.underlying5 Try.underlying9]
    rfl
  | some ad =>
    have h := run_convert_bytes_back (P := Try.prog) w 22 9 5 ad c (l.map fun x => UInt8.ofNat x.toNat) Try.underlying22 Try.underlying5 Try.underlying9 (fun j hj => by
      have hj' : j < l.length := by simpa using hj
      obtain ⟨b, o, e, _, hcs⟩ := hs.cells (by omega)
      cases e
      rw [Addr.add_lit, hcs j (by omega)]
      have hx := hb _ (getD_in hj')
      have e2 : l.getD j 0 = l[j] := by rw [List.getD_eq_getElem?_getD, List.getElem?_eq_getElem hj']; rfl
      rw [e2] at hx ⊢
      unfold isB at hx
      simp
      omega)
    rw [List.length_map, hl] at h
    exact h

theorem why_nil (w : World) : Calls Try.prog 24 #[.pointer none] w fun e w' => e = .returned (.int .i64 1) ∧ w' = w := by
  go_enter Try.func24, Try.ntmps24
  go_wp2
  go_ret
  exact ⟨rfl, rfl⟩
theorem why_at {w : World} {B b : Nat} {l : List Int} {y : Int} (h : Rd w B b l y) : Calls Try.prog 24 #[.pointer (some ⟨b, 0, none⟩)] w fun e w' => e = .returned (.int .i64 y) ∧ w' = w := by
  obtain ⟨⟨a, n, c, hbox, hs, hn, hg⟩, hb⟩ := h
  obtain ⟨h1, h2, h3, h4, h5⟩ := hbox
  clear hs hn hg hb
  go_enter Try.func24, Try.ntmps24
  go_wp2
  go_ret
  exact ⟨rfl, rfl⟩
theorem left_nil (w : World) : Calls Try.prog 25 #[.pointer none] w fun e w' => e = .returned (.int .i64 0) ∧ w' = w := by
  go_enter Try.func25, Try.ntmps25
  go_wp2
  go_ret
  exact ⟨rfl, rfl⟩
theorem left_at {w : World} {B b : Nat} {l : List Int} {y : Int} (h : Rd w B b l y) : Calls Try.prog 25 #[.pointer (some ⟨b, 0, none⟩)] w fun e w' => e = .returned (.int .i64 l.length) ∧ w' = w := by
  obtain ⟨⟨a, n, c, hbox, hs, hn, hg⟩, hb⟩ := h
  obtain ⟨h1, h2, h3, h4, h5⟩ := hbox
  have hl := hs.len
  rw [hl]
  clear hs hn hg hb hl
  go_enter Try.func25, Try.ntmps25
  go_wp2
  go_ret
  exact ⟨rfl, rfl⟩
theorem fail_nil (k : Int) (w : World) : Calls Try.prog 23 #[.pointer none, .int .i64 k] w fun e w' => e = .returned (.tuple #[]) ∧ w' = w := by
  go_enter Try.func23, Try.ntmps23
  go_wp2_with (go_at_call 24; refine (why_nil _).mono ?_; rintro e w1 ⟨rfl, rfl⟩)
  go_end0
  exact ⟨rfl, rfl⟩
def failE (y k : Int) : Int := if y = 0 then k else y
theorem fail_at {w : World} {B b : Nat} {l : List Int} {y : Int} (h : Rd w B b l y) (k : Int) : Calls Try.prog 23 #[.pointer (some ⟨b, 0, none⟩), .int .i64 k] w fun e w' => e = .returned (.tuple #[]) ∧ Rd w' B b l (failE y k) ∧ But b w w' := by
  have HR := hidMk h
  obtain ⟨⟨a, n, c, hbox, hs, hn, hg⟩, hb⟩ := h
  have HBX := hidMk hbox
  obtain ⟨h1, h2, h3, h4, h5⟩ := hbox
  have HS := hidMk hs
  have HG := hidMk hg
  have HB := hidMk hb
  clear hs hg hb
  by_cases hy : y = 0
  · subst hy
    have HE := hidMk (show failE 0 k = k from if_pos rfl)
    go_enter Try.func23, Try.ntmps23
    go_wp2_with (go_at_call 24; refine (why_at HR.out).mono ?_; rintro e w1 ⟨rfl, rfl⟩)
    go_end0
    refine ⟨rfl, ?_, But.setCell _ _ _ _⟩
    rw [HE.out]
    refine ⟨⟨a, n, c, ?_, HS.out.but (But.setCell _ _ _ _) (fun hn' ad ha => by have := HG.out hn' ad ha; omega), hn, HG.out⟩, HB.out⟩
    refine ⟨(World.cell?_setCell_other _ _ _ _ (by simp)).trans h1, World.cell?_setCell_same _ _ _ h2, by simp [h3], by simp [h4], by simpa [World.setCell] using h5⟩
  · have HE := hidMk (show failE y k = y from if_neg hy)
    have hye : (y == 0) = false := by simpa using hy
    go_enter Try.func23, Try.ntmps23
    go_wp2_with (go_at_call 24; refine (why_at HR.out).mono ?_; rintro e w1 ⟨rfl, rfl⟩)
    go_end0
    refine ⟨rfl, ?_, But.refl _ _⟩
    rw [HE.out]
    exact HR.out
end Go.Proofs.Ytolihnipoggokaa
