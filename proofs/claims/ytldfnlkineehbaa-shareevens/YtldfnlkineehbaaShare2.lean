/- share.byLargest. -/
import Derived.Test.YtldfnlkineehbaaShare1
namespace Go.Proofs.Ytldfnlkineehbaa
open Go.RowKit
set_option linter.unusedSimpArgs false
set_option linter.unusedVariables false

theorem info_int : (Try.prog.info? 3).map (fun i => (i.zero, i.size, i.bytes)) = some (some (.int .i64 0), 1, 8) := by kernel_rfl
theorem info_u64 : (Try.prog.info? 28).map (fun i => (i.zero, i.size, i.bytes)) = some (some (.int .u64 0), 1, 8) := by kernel_rfl
/-- The key of a place: its rest. -/
def keyOf (l : List Int) : Int → Int := fun x => l.getD x.toNat 0

theorem Sl.below {k : IntKind} {w w' : World} {a : Option Addr} {n M : Nat} {l : List Int} (h : Sl k w a n l) (g : Below M w w') (hM : w.heap.size ≤ M) : Sl k w' a n l := h.kept (g.mono hM)

theorem cmp_of (w w0 : World) (a : Option Addr) (len cap B R : Nat) (l : List Int) (hs : Sl .u64 w a len l) (hk : Below w.heap.size w w0) (hR : w0.cell? ⟨R, 0, none⟩ = some (.slice a len cap)) (hRB : R < B) (hB : w.heap.size ≤ B) : Cmp w0 B len R (keyOf l) := by
  intro w1 hb x y hx0 hx1 hy0 hy1
  obtain ⟨p, rfl⟩ := Int.eq_ofNat_of_zero_le hx0
  obtain ⟨q, rfl⟩ := Int.eq_ofNat_of_zero_le hy0
  have h1 : w1.cell? ⟨R, 0, none⟩ = some (.slice a len cap) := (hb.cell (p := ⟨R, 0, none⟩) hRB).trans hR
  have h2 : Sl .u64 w1 a len l := hs.kept (hk.trans (hb.mono hB))
  have := closure a len cap R l p q w1 h1 h2 (by omega) (by omega)
  simpa [keyOf] using this

set_option maxHeartbeats 1000000 in
theorem share_byLargest (a : Option Addr) (len cap : Nat) (l : List Int) (w : World) (hs : Sl .u64 w a len l) (h0 : 0 < len) (hn : len ≤ 1024) :
    Calls Try.prog 43 #[.slice a len cap] w fun e w' => ∃ B f, w.heap.size ≤ B ∧ e = .returned (.slice (some ⟨B, 0, none⟩) len len) ∧ Arr .i64 w' B len f ∧ Img 0 len idN f ∧ Srt (keyOf l) f 0 len ∧ Kept w w' := by
  obtain ⟨i0, hi0, hz0, hz1, hz2⟩ := info_parts info_int
  have HS := hidMk hs
  clear hs
  go_enter Try.func43, Try.ntmps43
  go_wp2_with (at_make; refine wpList_make_full _ rfl _ _ 66 rfl (w.heap.size + 1) 3 i0 (.int .i64 0) 1 Try.underlying66 hi0 hz0 hz1 .i64 .i64 _ _ len rfl rfl ?c1 ?c2 ?c3 ?c4 ?c5 ?_)
  case c1 => rfl
  case c2 => rfl
  case c3 => rw [hz2]; omega
  case c4 => unfold maxLen; omega
  case c5 => simp
  intro w1 hown hgrow
  have harr := arr_made hown h0
  have hk1 : Kept (w.alloc (Obj.cells #[Value.slice a len cap] 49)) w1 := Below.grown (Below.refl _ _) hgrow (Nat.le_refl _) (fun k hk => by cases hk)
  have hbox : w1.cell? ⟨w.heap.size, 0, none⟩ = some (.slice a len cap) := (hk1.cell (p := ⟨w.heap.size, 0, none⟩) (by simp)).trans (by simp)
  have hkw : Kept w w1 := ((Kept.refl _).alloc _).trans hk1
  have hsz : w.heap.size + 1 < w1.heap.size := harr.lt
  have HA := hidMk harr
  have HB := hidMk hbox
  have HK := hidMk hkw
  have hmf : ∀ (fn : Fn) (first cap : Array Value) (w : World), (Instr.makeFunc fn first cap).run Try.prog w = .ok (.func fn first cap) w := fun _ _ _ _ => rfl
  clear hown hgrow harr hk1 hbox hkw
  go_wp2_with fail
  go_loopw [10] (fun x wr => ∃ k : Nat, k ≤ len ∧ x = .int .i64 k ∧ Arr .i64 wr (w.heap.size + 1) len (fun i => if i < k then i else 0) ∧ Below (w.heap.size + 1) w1 wr) (fun x _ => len - (intOf x).toNat)
  case atStart => exact ⟨0, Nat.zero_le _, rfl, HA.out.eqv fun i hi => by simp, Below.refl _ _⟩
  case round =>
    obtain ⟨k, hk, rfl, harr, hbel⟩ := hrel
    by_cases hlt : k < len
    · have c1 := harr.cell k hlt
      have f1 := harr.fr k hlt
      have S := hidMk (harr.set k hlt k)
      have HBE := hidMk hbel
      clear harr hbel
      go_wp2_with fail
      refine ⟨⟨k + 1, by omega, by go_num, S.out.eqv fun i hi => ?_, HBE.out.setCell (Nat.le_refl _) _⟩, by simp [intOf]; omega⟩
      by_cases e : i = k
      · subst e; rw [if_pos (by omega), if_pos rfl]
      · rw [if_neg e]
        by_cases e2 : i < k
        · rw [if_pos (by omega), if_pos e2]
        · rw [if_neg (by omega), if_neg e2]
    · have harr2 : Arr .i64 wr (w.heap.size + 1) len idN := harr.eqv fun i hi => by unfold idN; rw [if_pos (by omega)]
      have hkept : Kept w wr := Below.trans HK.out (hbel.mono (by omega))
      have hb2 : wr.cell? ⟨w.heap.size, 0, none⟩ = some (.slice a len cap) := (hbel.cell (p := ⟨w.heap.size, 0, none⟩) (by simp)).trans HB.out
      have C := hidMk (sortStable wr (w.heap.size + 1) len w.heap.size (keyOf l) wr (harr2.aw (Below.refl _ _)) (cmp_of w wr a len cap (w.heap.size + 1) w.heap.size l HS.out hkept hb2 (by omega) (by omega)) (by omega))
      have HKP := hidMk hkept
      clear harr hbel harr2 hkept hb2 HA HB HK HS
      go_wp2_with fail
      refine C.out.mono ?_
      rintro e w2 ⟨rfl, f, haw, himg, hsrt⟩
      go_wp2_with fail
      go_ret
      exact ⟨_, f, by omega, rfl, haw.arr, himg, hsrt, Below.trans HKP.out (haw.below.mono (by omega))⟩
end Go.Proofs.Ytldfnlkineehbaa
