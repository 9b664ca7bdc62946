/- A tree in memory, and what only reads its members' names and ways up. -/
import Derived.Test.YtbhojgodkblflaaChg
import Derived.Test.YtbhojgodkblflaaTreeMath2B
import Derived.WalkSpells
import Derived.WalkLawsBesides
import Derived.Deep.QuietTactic
import Derived.BigQuiet
import Derived.BigRegion
namespace Go.Proofs.Ytbhojgodkblflaa
open Go.RowKit Go.Maps
set_option linter.unusedSimpArgs false
set_option linter.unusedVariables false

def fstO (l : List Nd) (s : ByteArray) : Option Int := if fstN l s < l.length then some (fstN l s : Nat) else none
/-- A tree's members by themselves: block p, its members in block mb. -/
structure TB (w : World) (p mb : Nat) (l : List Nd) : Prop where
  c0 : w.cell? ⟨p, 0, none⟩ = some (.slice (some ⟨mb, 0, none⟩) l.length l.length)
  nm : ∀ i, i < l.length → w.cell? ⟨mb, i * 6, none⟩ = some (.string (nmA l i))
  up : ∀ i, i < l.length → w.cell? ⟨mb, i * 6 + 1, none⟩ = some (.int .i64 (upA l i))
  big : l.length ≤ 60
  nmb : ∀ i, i < l.length → (nmA l i).size ≤ maxLen
  upb : ∀ i, i < l.length → isI (upA l i)
/-- A slice as it lies in a cell. -/
def slv (x : Option Addr × Nat × Nat) : Value := .slice x.1 x.2.1 x.2.2
/-- A tree: the first places of names in block pb; of each member kids, rank, from, to; order and leaves. -/
structure TM (w : World) (p mb pb : Nat) (l : List Nd) (kv : Nat → Option Addr × Nat × Nat) (rk fr to : Nat → Int) (ov lv : Value) : Prop extends TB w p mb l where
  c1 : w.cell? ⟨p, 1, none⟩ = some (.map (some pb))
  c2 : w.cell? ⟨p, 2, none⟩ = some ov
  c3 : w.cell? ⟨p, 3, none⟩ = some lv
  kd : ∀ i, i < l.length → w.cell? ⟨mb, i * 6 + 2, none⟩ = some (slv (kv i))
  rk : ∀ i, i < l.length → w.cell? ⟨mb, i * 6 + 3, none⟩ = some (.int .i64 (rk i))
  fr : ∀ i, i < l.length → w.cell? ⟨mb, i * 6 + 4, none⟩ = some (.int .i64 (fr i))
  to : ∀ i, i < l.length → w.cell? ⟨mb, i * 6 + 5, none⟩ = some (.int .i64 (to i))
  fz : ∀ j, w.frozen? ⟨p, j, none⟩ = false
  fm : ∀ j, w.frozen? ⟨mb, j, none⟩ = false
  pm : ∃ n, n ≤ 60 ∧ MapIs w pb n (fstO l)
  ne : p ≠ mb ∧ p ≠ pb ∧ mb ≠ pb

theorem TB.chg {S : Nat → Prop} {w w' : World} {p mb : Nat} {l : List Nd} (h : TB w p mb l) (g : Chg S w w') (hp : ¬ S p) (hm : ¬ S mb) : TB w' p mb l :=
  ⟨(g.cell (p := ⟨p, 0, none⟩) (cell_lt h.c0) hp).trans h.c0, fun i hi => (g.cell (p := ⟨mb, i * 6, none⟩) (cell_lt (h.nm i hi)) hm).trans (h.nm i hi), fun i hi => (g.cell (p := ⟨mb, i * 6 + 1, none⟩) (show mb < w.heap.size from cell_lt (h.nm i hi)) hm).trans (h.up i hi), h.big, h.nmb, h.upb⟩
theorem TB.kept {w w' : World} {p mb : Nat} {l : List Nd} (h : TB w p mb l) (g : Kept w w') : TB w' p mb l := h.chg (S := fun _ => False) (Chg.of_kept g) (fun e => e) (fun e => e)
theorem TM.chg {S : Nat → Prop} {w w' : World} {p mb pb : Nat} {l : List Nd} {kv : Nat → Option Addr × Nat × Nat} {rk fr to : Nat → Int} {ov lv : Value} (h : TM w p mb pb l kv rk fr to ov lv) (g : Chg S w w') (hp : ¬ S p) (hm : ¬ S mb) (hb : ¬ S pb) (h1 : 1 ≤ l.length) : TM w' p mb pb l kv rk fr to ov lv := by
  have lm : mb < w.heap.size := cell_lt (h.nm 0 (by omega))
  have lp : p < w.heap.size := cell_lt h.c0
  refine ⟨h.toTB.chg g hp hm, (g.cell (p := ⟨p, 1, none⟩) lp hp).trans h.c1, (g.cell (p := ⟨p, 2, none⟩) lp hp).trans h.c2, (g.cell (p := ⟨p, 3, none⟩) lp hp).trans h.c3, fun i hi => (g.cell (p := ⟨mb, i * 6 + 2, none⟩) lm hm).trans (h.kd i hi), fun i hi => (g.cell (p := ⟨mb, i * 6 + 3, none⟩) lm hm).trans (h.rk i hi), fun i hi => (g.cell (p := ⟨mb, i * 6 + 4, none⟩) lm hm).trans (h.fr i hi), fun i hi => (g.cell (p := ⟨mb, i * 6 + 5, none⟩) lm hm).trans (h.to i hi), fun j => (g.frozen (p := ⟨p, j, none⟩) lp hp).trans (h.fz j), fun j => (g.frozen (p := ⟨mb, j, none⟩) lm hm).trans (h.fm j), ?_, h.ne⟩
  obtain ⟨n, hn, h2⟩ := h.pm
  exact ⟨n, hn, h2.chg g hb⟩
theorem TM.kept {w w' : World} {p mb pb : Nat} {l : List Nd} {kv : Nat → Option Addr × Nat × Nat} {rk fr to : Nat → Int} {ov lv : Value} (h : TM w p mb pb l kv rk fr to ov lv) (g : Kept w w') (h1 : 1 ≤ l.length) : TM w' p mb pb l kv rk fr to ov lv := h.chg (S := fun _ => False) (Chg.of_kept g) (fun e => e) (fun e => e) (fun e => e) h1
theorem tree_Len {w : World} {p mb : Nat} {l : List Nd} (h : TB w p mb l) : Calls Try.prog 51 #[.pointer (some ⟨p, 0, none⟩)] w fun e w' => e = .returned (.int .i64 l.length) ∧ w' = w := by
  have h0 := h.c0
  go_enter Try.func51, Try.ntmps51
  go_wp2
  go_ret
  exact ⟨rfl, rfl⟩
theorem tree_has {w : World} {p mb : Nat} {l : List Nd} (h : TB w p mb l) (i : Int) : Calls Try.prog 60 #[.pointer (some ⟨p, 0, none⟩), .int .i64 i] w fun e w' => e = .returned (.bool (decide (isP l i))) ∧ w' = w := by
  have H := hidMk (tree_Len h)
  clear h
  by_cases h0 : 0 ≤ i
  · by_cases h1 : i < l.length
    · have e : decide (isP l i) = true := decide_eq_true ⟨h0, h1⟩
      rw [e]
      clear e
      go_enter Try.func60, Try.ntmps60
      go_wp2_with (go_at_call 51; refine H.out.mono ?_; rintro e w1 ⟨rfl, rfl⟩)
      go_ret
      exact ⟨rfl, rfl⟩
    · have e : decide (isP l i) = false := decide_eq_false (fun h => h1 h.2)
      rw [e]
      clear e
      have h1' : (l.length : Int) ≤ i := by omega
      go_enter Try.func60, Try.ntmps60
      go_wp2_with (go_at_call 51; refine H.out.mono ?_; rintro e w1 ⟨rfl, rfl⟩)
      go_ret
      exact ⟨by simp; omega, rfl⟩
  · have e : decide (isP l i) = false := decide_eq_false (fun h => h0 h.1)
    rw [e]
    clear e
    have h0' : i < 0 := by omega
    go_enter Try.func60, Try.ntmps60
    go_wp2_with fail
    go_ret
    exact ⟨rfl, rfl⟩
theorem tree_Up {w : World} {p mb : Nat} {l : List Nd} (h : TB w p mb l) (i : Int) : Calls Try.prog 87 #[.pointer (some ⟨p, 0, none⟩), .int .i64 i] w fun e w' => e = .returned (.int .i64 (upI l i)) ∧ w' = w := by
  have H := hidMk (tree_has h i)
  by_cases hp : isP l i
  · rw [decide_eq_true hp] at H
    obtain ⟨k, rfl⟩ : ∃ k : Nat, i = k := ⟨i.toNat, by have := hp.1; omega⟩
    have hk : k < l.length := by have := hp.2; omega
    have e : upI l k = upA l k := by unfold upI; rw [if_pos hp]; rfl
    rw [e]
    have h0 := h.c0
    have h1 := h.up k hk
    have hb := h.big
    clear h e hp
    generalize upA l k = u at *
    go_enter Try.func87, Try.ntmps87
    go_wp2_with (go_at_call 60; refine H.out.mono ?_; rintro e w1 ⟨rfl, rfl⟩)
    go_ret
    exact ⟨rfl, rfl⟩
  · rw [decide_eq_false hp] at H
    have e : upI l i = -1 := by unfold upI; rw [if_neg hp]
    rw [e]
    clear h e hp
    go_enter Try.func87, Try.ntmps87
    go_wp2_with (go_at_call 60; refine H.out.mono ?_; rintro e w1 ⟨rfl, rfl⟩)
    go_ret
    exact ⟨rfl, rfl⟩
def nmI (l : List Nd) (i : Int) : ByteArray := if isP l i then nmA l i.toNat else ByteArray.empty
theorem tree_Name {w : World} {p mb : Nat} {l : List Nd} (h : TB w p mb l) (i : Int) : Calls Try.prog 41 #[.pointer (some ⟨p, 0, none⟩), .int .i64 i] w fun e w' => e = .returned (.string (nmI l i)) ∧ w' = w := by
  have H := hidMk (tree_has h i)
  by_cases hp : isP l i
  · rw [decide_eq_true hp] at H
    obtain ⟨k, rfl⟩ : ∃ k : Nat, i = k := ⟨i.toNat, by have := hp.1; omega⟩
    have hk : k < l.length := by have := hp.2; omega
    have e : nmI l k = nmA l k := by unfold nmI; rw [if_pos hp]; rfl
    rw [e]
    have h0 := h.c0
    have h1 := h.nm k hk
    have hb := h.big
    clear h e hp
    generalize nmA l k = u at *
    go_enter Try.func41, Try.ntmps41
    go_wp2_with (go_at_call 60; refine H.out.mono ?_; rintro e w1 ⟨rfl, rfl⟩)
    go_ret
    exact ⟨rfl, rfl⟩
  · rw [decide_eq_false hp] at H
    have e : nmI l i = ByteArray.empty := by unfold nmI; rw [if_neg hp]
    rw [e]
    clear h e hp
    go_enter Try.func41, Try.ntmps41
    go_wp2_with (go_at_call 60; refine H.out.mono ?_; rintro e w1 ⟨rfl, rfl⟩)
    go_ret
    exact ⟨rfl, rfl⟩
theorem tree_loops {w : World} {p mb : Nat} {l : List Nd} (h : TB w p mb l) (i : Nat) : Calls Try.prog 82 #[.pointer (some ⟨p, 0, none⟩), .int .i64 i] w fun e w' => e = .returned (.bool (loopB l i)) ∧ w' = w := by
  obtain ⟨r, hr⟩ : ∃ r, loopB l i = r := ⟨_, rfl⟩
  rw [hr]
  have HR := hidMk hr
  have HU := hidMk (tree_Up h)
  have h0 := h.c0
  have hb := h.big
  clear hr h
  go_enter Try.func82, Try.ntmps82
  go_wp2_with (go_at_call 87; refine (HU.out _).mono ?_; rintro e w1 ⟨rfl, rfl⟩)
  go_loopw [5, 14] (fun a c wr => ∃ k : Nat, k ≤ l.length ∧ c = .int .i64 k ∧ a = .int .i64 (upN l (k + 1) i) ∧ wr = w1 ∧ Hid (∀ j, j < k → upN l (j + 1) i ≠ i)) (fun _ c _ => l.length - (intOf c).toNat)
  case atStart => exact ⟨0, Nat.zero_le _, rfl, rfl, rfl, hidMk fun j hj => absurd hj (by omega)⟩
  case round =>
    obtain ⟨k, hk, rfl, rfl, rfl, HK⟩ := hrel
    by_cases hkl : k < l.length
    · by_cases he : upN l (k + 1) i = i
      · have HT := hidMk (show r = true from HR.out ▸ decide_eq_true ⟨k, hkl, he⟩)
        generalize upN l (k + 1) i = x at *
        subst he
        go_wp2_with fail
        go_ret
        exact ⟨by rw [HT.out]; rfl, rfl⟩
      · have HX := hidMk (show upI l (upN l (k + 1) i) = upN l (k + 1 + 1) i from rfl)
        have HS := hidMk (show ∀ j, j < k + 1 → upN l (j + 1) i ≠ i from fun j hj => by
          by_cases e : j = k
          · subst e; exact he
          · exact HK.out j (by omega))
        generalize upN l (k + 1) i = x at *
        have he' : (x == (i : Int)) = false := by simpa using he
        clear he
        go_wp2_with (go_at_call 87; refine (HU.out _).mono ?_; rintro e w2 ⟨rfl, rfl⟩)
        refine ⟨⟨k + 1, by omega, by go_num, by rw [HX.out], trivial, HS⟩, by simp [intOf]; omega⟩
    · have HT := hidMk (show r = false from HR.out ▸ decide_eq_false (fun ⟨j, hj, e⟩ => HK.out j (by omega) e))
      have hkl' : (l.length : Int) ≤ k := by omega
      go_wp2_with fail
      go_ret
      exact ⟨by rw [HT.out]; rfl, rfl⟩
end Go.Proofs.Ytbhojgodkblflaa
