/- moietylaw07.known. -/
import Derived.Test.YtpkepkemjcjplaaGreatCoM1
namespace Go.Proofs.YtpkepkemjcjplaaGreat
open Go.RowKit Go.Maps
set_option linter.unusedSimpArgs false
set_option linter.unusedVariables false

def ds7 : List Dm := [(⟨#[120]⟩, k6)]
def ms7 : List ByteArray := [⟨#[109]⟩]
def at7 (j : Nat) : Int := if j = 0 then 2 else 0
theorem k7_small : SmallC7 ds7 ms7.length := ⟨by decide, by decide, fun k hk => by
  have : k = 0 := by have : ds7.length = 1 := rfl; omega
  subst this
  decide⟩
theorem k7_cat : CatIs ds7 ms7 9 1 0 0 := by
  refine .inr ⟨by decide, .inr ⟨fun j hj => ?_, .inr ⟨fun j hj => ?_, by decide +kernel⟩, rfl⟩⟩
  · have : j = 0 := by have : ds7.length = 1 := rfl; omega
    subst this
    exact .inr (.inr ⟨by decide +kernel, by decide +kernel, 0, .inr ⟨by decide, .inl ⟨k6_good, rfl, rfl⟩⟩⟩)
  · have : j = 0 := by have : ms7.length = 1 := rfl; omega
    subst this
    decide +kernel
theorem k7_right : rightB ms7 ds7 0 at7 = true := by decide +kernel
theorem k7_leaf : leavesB ds7 at7 ds7.length := fun j hj => by
  have : j = 0 := by have : ds7.length = 1 := rfl; omega
  subst this
  decide +kernel
theorem k7_code : codeI ms7 ds7 0 at7 = 1 := by
  unfold codeI
  rw [if_pos ⟨k7_right, k7_leaf⟩]
  decide +kernel
theorem k7_index : (if rightB ms7 ds7 0 at7 then numK (fun k => many ds7 k) at7 0 4 else -1) = 2 := by decide +kernel
theorem k7_under : undL ms7 ds7 0 (fun _ => 0) = [0, 1] := by decide +kernel
theorem k7_ok : okC ms7 ds7 1 := by unfold okC; decide +kernel
theorem k7_q : prQ (fun k => leas ds7 k) 1 4 = 0 := by decide +kernel
theorem k7_abv : abvA (dmL ds7 0) (lfF ds7 1 ds7.length 0) = [2, 0] := by decide +kernel
theorem k7_sort : sortI [2, 0] = [0, 2] := rise_ext (sort_rise (by decide)) (by unfold Rise; decide) (fun x => by rw [sortI_mem]; simp; omega)
theorem k7_over : ovL ds7 1 = [[0], [2]] := by
  unfold ovL
  have e : lsK (upL ds7 1) ds7.length = [[0, 2]] := by
    show [upL ds7 1 0] = _
    unfold upL
    rw [k7_abv, k7_sort]
  rw [e]
  rfl
theorem k7_dss {w : World} {q g : Nat} (h1 : w.cell? ⟨g, 0, none⟩ = some (.string ⟨#[120]⟩)) (h2 : w.cell? ⟨g, 1, none⟩ = some (.slice (some ⟨q, 0, none⟩) 3 3)) (hn : Ns w (some ⟨q, 0, none⟩) 3 k6) : Dss w (some ⟨g, 0, none⟩) 1 ds7 (fun _ => (some ⟨q, 0, none⟩, 3, 3)) := by
  refine ⟨rfl, by unfold maxLen; omega, fun k hk => ?_, fun k hk => ?_, fun _ => ⟨_, _, rfl, cell_lt h1, fun k hk => ?_⟩⟩
  · have : k = 0 := by omega
    subst this
    unfold maxLen; decide +kernel
  · have : k = 0 := by omega
    subst this
    exact hn
  · have : k = 0 := by omega
    subst this
    exact ⟨h1, h2⟩
theorem k7_sz : ∀ i, i < ms7.length → (msA ms7 i).size ≤ maxLen := fun i hi => by
  have : i = 0 := by have : ms7.length = 1 := rfl; omega
  subst this
  unfold maxLen
  decide +kernel
/-- What the two cells of the fixed catalogue hold. -/
def f7 (i t : Nat) : Int := if i = 1 ∧ t = 1 then 2 else 0
theorem own_cs {w : World} {B n c : Nat} {a : Option Addr} {xs : List Value} {f : Nat → Nat → Int} (h : w.ownsRow B 29 5 (.slice a n c) n xs) (hb : n ≤ maxLen) (hf : ∀ i, i < n → ∀ t, t < 5 → xs[i * 5 + t]? = some (.int .i64 (f i t))) : Cs w a n f := by
  refine ⟨hb, fun hp => ?_⟩
  obtain ⟨g, cap, e, _, hl⟩ := h.form hp
  cases e
  exact ⟨g, 0, rfl, hl, fun i hi t ht => by rw [Nat.zero_add, h.cellAt (i * 5 + t) (by omega)]; exact hf i hi t ht⟩
theorem k7_cs {w : World} {B c : Nat} {a : Option Addr} (h : OwnC w B (.slice a 2 c) 0 [[0], [2]]) : Cs w a 2 f7 :=
  own_cs h (by unfold maxLen; omega) (fun i hi t ht => by
    have h1 : i = 0 ∨ i = 1 := by omega
    have h2 : t = 0 ∨ t = 1 ∨ t = 2 ∨ t = 3 ∨ t = 4 := by omega
    rcases h1 with rfl | rfl <;> rcases h2 with rfl | rfl | rfl | rfl | rfl <;> rfl)
theorem k7_new (w : World) (t : TypeId) : Cs (w.alloc (.cells #[.int .i64 0, .int .i64 0, .int .i64 0, .int .i64 0, .int .i64 0, .int .i64 0, .int .i64 2, .int .i64 0, .int .i64 0, .int .i64 0] t)) (some ⟨w.heap.size, 0, none⟩) 2 f7 :=
  ⟨by unfold maxLen; omega, fun _ => ⟨w.heap.size, 0, rfl, by simp, fun i hi t ht => by
    have h1 : i = 0 ∨ i = 1 := by omega
    have h2 : t = 0 ∨ t = 1 ∨ t = 2 ∨ t = 3 ∨ t = 4 := by omega
    rcases h1 with rfl | rfl <;> rcases h2 with rfl | rfl | rfl | rfl | rfl <;> exact new_cell _ _ _ _ _ _ rfl rfl⟩⟩
end Go.Proofs.YtpkepkemjcjplaaGreat
