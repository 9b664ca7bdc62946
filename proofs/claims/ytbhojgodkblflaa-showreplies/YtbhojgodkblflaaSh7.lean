/- show: a reply. -/
import Derived.Test.YtbhojgodkblflaaSh6
namespace Go.Proofs.Ytbhojgodkblflaa
open Go.RowKit Go.Maps
set_option linter.unusedSimpArgs false
set_option linter.unusedVariables false

theorem new_cellS (w : World) (vs : Array Value) (t : TypeId) (g i : Nat) (v : Value) (hg : g = w.heap.size) (hv : vs[i]? = some v) : (w.alloc (.cells vs t)).cell? ⟨g, i, none⟩ = some v := by
  subst hg
  simp [hv]
theorem OwnS.le {w : World} {B B' : Nat} {v : Value} {l : List ByteArray} (h : OwnS w B v l) (hb : B' ≤ B) : OwnS w B' v l := Go.Joins.ownsRow_le h hb
theorem midL_row {f : CF} {kind : Int} {names : List ByteArray} {rn : Nat} {rows : Nat → Ch} {ln : Nat} {locks : Nat → Lo} {cn : Nat} {cls : Nat → Cs} (h : kind = 13 ∨ kind = 14 ∨ kind = 17 ∨ kind = 18) : midL f kind names rn rows ln locks cn cls = lnL (rwB f kind rows) rn := if_pos h
theorem midL_none {f : CF} {kind : Int} {names : List ByteArray} {rn : Nat} {rows : Nat → Ch} {ln : Nat} {locks : Nat → Lo} {cn : Nat} {cls : Nat → Cs} (h1 : ¬ kind = 13) (h2 : ¬ kind = 14) (h3 : ¬ kind = 17) (h4 : ¬ kind = 18) (h5 : ¬ kind = 15) (h6 : ¬ kind = 16) (h7 : ¬ kind = 10) : midL f kind names rn rows ln locks cn cls = [] := by
  unfold midL; rw [if_neg (by rintro (h | h | h | h) <;> contradiction), if_neg h5, if_neg h6, if_neg h7]
section
variable {f : CF} (hf : ∀ c0 c1 c2 c3 c4, (f c0 c1 c2 c3 c4).size ≤ 1000)
include hf
set_option maxHeartbeats 8000000 in
set_option maxRecDepth 100000 in
theorem show_Reply (pd : Option Addr) (kind why n : Int) (na : Option Addr) (nn nc : Nat) (names : List ByteArray) (ra : Option Addr) (rn rc : Nat) (rows : Nat → Ch) (la : Option Addr) (ln lc : Nat) (locks : Nat → Lo) (ca : Option Addr) (cn cc : Nat) (cls : Nat → Cs) (w : World) (hS : ShP 20 (.pointer pd) f w) (hR : RpIn w na nn names ra rn rows la ln locks ca cn cls) (hO : RpOk why n rn rows ln locks cn cls) (hn1 : nn ≤ 50) (hn2 : rn ≤ 50) (hn3 : ln ≤ 50) (hn4 : cn ≤ 50) :
    Calls Try.prog 15 #[.pointer pd, .int .i64 kind, .agg #[.int .i64 why, .int .i64 n, .slice na nn nc, .slice ra rn rc, .slice la ln lc, .slice ca cn cc]] w fun e w' => ∃ v, e = .returned v ∧ OwnS w' w.heap.size v (replyL f kind why n names rn rows ln locks cn cls) ∧ Kept w w' := by
  have hmf : ∀ (fn : Fn) (first cap : Array Value) (w : World), (Instr.makeFunc fn first cap).run Try.prog w = .ok (.func fn first cap) w := fun _ _ _ _ => rfl
  have HCL := hidMk (fun (y : World) (hy : Kept w y) => show_clashes hf pd (.int .i64 why) (.int .i64 n) (.slice na nn nc) (.slice ra rn rc) (.slice la ln lc) ca cn cc cls y (hS.kept hy) (hR.c.kept hy) hn4 hO.c)
  have HCH := hidMk (fun (y : World) (hy : Kept w y) (p1 p2 : Nat) (h1 : y.cell? ⟨p1, 0, none⟩ = some (.pointer pd)) (h2 : y.cell? ⟨p2, 0, none⟩ = some (.int .i64 kind)) => lines_Ch ra rn rc rows (rwB f kind rows) p1 p2 y (hR.r.kept hy) hn2 (fun z hz i hi => clo_Row hf (.pointer pd) kind p1 p2 (rows i) z (hS.kept (hy.trans hz)) (hO.r i hi).1 (hO.r i hi).2 (hz.cellp h1) (hz.cellp h2)))
  have HLO := hidMk (fun (y : World) (hy : Kept w y) (p1 : Nat) (h1 : y.cell? ⟨p1, 0, none⟩ = some (.pointer pd)) => lines_Lo la ln lc locks (lkB f locks) p1 y (hR.l.kept hy) hn3 (fun z hz i hi => clo_Lock hf (.pointer pd) p1 (locks i) z (hS.kept (hy.trans hz)) (hO.l i hi) (hz.cellp h1)))
  have HNM := hidMk (fun (y : World) (hy : Kept w y) => lines_Nm na nn nc names y (hR.n.kept hy) hn1)
  have HWR := hidMk (show_Wrong why (-1) · hO.why (by unfold isI; omega))
  have HNU := hidMk (text_Num n hO.n)
  have HL1 := hidMk (show (lnL (rwB f kind rows) rn).length ≤ 50 by rw [lnL_len]; exact hn2)
  have HL2 := hidMk (show (lnL (lkB f locks) ln).length ≤ 50 by rw [lnL_len]; exact hn3)
  have HL3 := hidMk (show (lnL (clB f cls) cn).length ≤ 50 by rw [lnL_len]; exact hn4)
  have HL4 := hidMk (show names.length ≤ 50 by rw [hR.n.len]; exact hn1)
  have HRE := hidMk (show ¬ why = 0 → replyL f kind why n names rn rows ln locks cn cls = lnL (clB f cls) cn ++ [wrongB why (-1)] from fun h => if_pos h)
  have HRN := hidMk (show why = 0 → kind = 11 ∨ kind = 12 → replyL f kind why n names rn rows ln locks cn cls = [numS n] from fun h h' => by unfold replyL; rw [if_neg (by simpa using h), if_pos h'])
  have HRM := hidMk (show why = 0 → ¬ (kind = 11 ∨ kind = 12) → replyL f kind why n names rn rows ln locks cn cls = midL f kind names rn rows ln locks cn cls ++ [okW] from fun h h' => by unfold replyL; rw [if_neg (by simpa using h), if_neg h'])
  clear hS hR hO
  by_cases hw0 : why = 0
  case neg =>
    rw [HRE.out hw0]
    generalize wrongB why (-1) = wr1 at *
    generalize lnL (clB f cls) cn = LL at *
    clear HCH HLO HNM HNU HRE HRN HRM HL1 HL2 HL4
    go_enter Try.func15, Try.ntmps15
    go_wp2_with fail
    generalize hW : (((w.alloc _).alloc _).alloc _) = W
    have x0 : W.cell? ⟨w.heap.size, 0, none⟩ = some (.pointer pd) := by rw [← hW]; exact (((Kept.refl _).alloc _).alloc _).cellp (new_cellS _ _ _ _ _ _ rfl rfl)
    have x1 : W.cell? ⟨w.heap.size + 1, 0, none⟩ = some (.int .i64 kind) := by rw [← hW]; exact ((Kept.refl _).alloc _).cellp (new_cellS _ _ _ _ _ _ (by simp) rfl)
    have r0 : W.cell? ⟨w.heap.size + 2, 0, none⟩ = some (.int .i64 why) := by rw [← hW]; exact new_cellS _ _ _ _ _ _ (by simp) rfl
    have r1 : W.cell? ⟨w.heap.size + 2, 1, none⟩ = some (.int .i64 n) := by rw [← hW]; exact new_cellS _ _ _ _ _ _ (by simp) rfl
    have r2 : W.cell? ⟨w.heap.size + 2, 2, none⟩ = some (.slice na nn nc) := by rw [← hW]; exact new_cellS _ _ _ _ _ _ (by simp) rfl
    have r3 : W.cell? ⟨w.heap.size + 2, 3, none⟩ = some (.slice ra rn rc) := by rw [← hW]; exact new_cellS _ _ _ _ _ _ (by simp) rfl
    have r4 : W.cell? ⟨w.heap.size + 2, 4, none⟩ = some (.slice la ln lc) := by rw [← hW]; exact new_cellS _ _ _ _ _ _ (by simp) rfl
    have r5 : W.cell? ⟨w.heap.size + 2, 5, none⟩ = some (.slice ca cn cc) := by rw [← hW]; exact new_cellS _ _ _ _ _ _ (by simp) rfl
    have K0 := hidMk (show Kept w W by rw [← hW]; exact (((Kept.refl w).alloc _).alloc _).alloc _)
    have HB := hidMk (show w.heap.size ≤ W.heap.size from K0.out.size)
    have HCW := hidMk (fun (y : World) (hy : Kept W y) => HCL.out y (K0.out.trans hy))
    clear hW HCL
    go_region_held3 (fun w' => w'.cell? ⟨w.heap.size, 0, none⟩ = some (.pointer pd) ∧ w'.cell? ⟨w.heap.size + 1, 0, none⟩ = some (.int .i64 kind) ∧ w'.cell? ⟨w.heap.size + 2, 0, none⟩ = some (.int .i64 why) ∧ w'.cell? ⟨w.heap.size + 2, 1, none⟩ = some (.int .i64 n) ∧ w'.cell? ⟨w.heap.size + 2, 2, none⟩ = some (.slice na nn nc) ∧ w'.cell? ⟨w.heap.size + 2, 3, none⟩ = some (.slice ra rn rc) ∧ w'.cell? ⟨w.heap.size + 2, 4, none⟩ = some (.slice la ln lc) ∧ w'.cell? ⟨w.heap.size + 2, 5, none⟩ = some (.slice ca cn cc)) (first | (refine ⟨?_, ?_, ?_, ?_, ?_, ?_, ?_, ?_⟩ <;> assumption) | (refine ⟨Kept.cellp ?_ x0, Kept.cellp ?_ x1, Kept.cellp ?_ r0, Kept.cellp ?_ r1, Kept.cellp ?_ r2, Kept.cellp ?_ r3, Kept.cellp ?_ r4, Kept.cellp ?_ r5⟩ <;> (repeat (first | (with_reducible exact Kept.refl _) | (with_reducible refine Kept.alloc ?_ _) | (with_reducible refine Kept.drew ?_) | (with_reducible refine Kept.drewN ?_ _) | (with_reducible refine Kept.trans ?_ (by assumption))))) | go_keep)
      (first
        | (go_at_call 25; refine (HCW.out _ (by (repeat (first | (with_reducible exact Kept.refl _) | (with_reducible refine Kept.alloc ?_ _) | (with_reducible refine Kept.drew ?_) | (with_reducible refine Kept.drewN ?_ _) | (with_reducible refine Kept.trans ?_ (by assumption)))))).mono ?_; rintro e y5 ⟨v5, rfl, o5, k5⟩; have q5 : Kept W y5 := (by (repeat (first | (with_reducible exact Kept.refl _) | (with_reducible refine Kept.alloc ?_ _) | (with_reducible refine Kept.drew ?_) | (with_reducible refine Kept.drewN ?_ _) | (with_reducible refine Kept.trans ?_ (by assumption))))); have O5 := hidMk (OwnS.le o5 (show W.heap.size ≤ _ by first | exact Nat.le_refl _ | (simp; done))); clear o5 k5)
        | (go_at_call 13; refine (HWR.out _).mono ?_; rintro e y6 ⟨rfl, k6⟩; have q6 : Kept W y6 := (by (repeat (first | (with_reducible exact Kept.refl _) | (with_reducible refine Kept.alloc ?_ _) | (with_reducible refine Kept.drew ?_) | (with_reducible refine Kept.drewN ?_ _) | (with_reducible refine Kept.trans ?_ (by assumption))))); have O6 := hidMk (O5.out.kept k6))
        | (refine step_pushS _ (by rfl) _ _ (by rfl) W.heap.size v5 LL (by rfl) (O6.out.kept (by (repeat (first | (with_reducible exact Kept.refl _) | (with_reducible refine Kept.alloc ?_ _) | (with_reducible refine Kept.drew ?_) | (with_reducible refine Kept.drewN ?_ _) | (with_reducible refine Kept.trans ?_ (by assumption)))))) (by have h1 := q6.size; simp; omega) y6.heap.size wr1 (by rfl) (by simp) (by have := HL3.out; omega) (y6.heap.size + 1) (by simp) ?_; intro g7 cap7 w7 o7 c7 a7 l7; have q7 : Kept W w7 := (c7.kept (show Kept W _ by (repeat (first | (with_reducible exact Kept.refl _) | (with_reducible refine Kept.alloc ?_ _) | (with_reducible refine Kept.drew ?_) | (with_reducible refine Kept.drewN ?_ _) | (with_reducible refine Kept.trans ?_ (by assumption))))) (fun t ht => (O6.out.lt t ht).1)); have O7 := hidMk o7; clear o7 c7 a7 l7))
    go_wp2_with fail
    go_ret
    exact ⟨_, rfl, (by first | exact O7.out.le HB.out | exact World.ownsRow.drew (O7.out.le HB.out)), K0.out.trans (by (repeat (first | (with_reducible exact Kept.refl _) | (with_reducible refine Kept.alloc ?_ _) | (with_reducible refine Kept.drew ?_) | (with_reducible refine Kept.drewN ?_ _) | (with_reducible refine Kept.trans ?_ (by assumption)))))⟩
  case pos =>
    subst hw0
    clear HRE HWR
    by_cases e11 : kind = 11
    · subst e11
      rw [HRN.out rfl (by decide)]
      clear HCL HCH HLO HNM
      generalize numS n = nb at *
      go_enter Try.func15, Try.ntmps15
      go_wp2_with fail
      refine (HNU.out _).mono ?_
      rintro e w1 ⟨rfl, k1⟩
      have K1 := hidMk (show Kept w w1 from (((((Kept.refl w).alloc _).alloc _).alloc _)).trans k1)
      clear k1
      go_wp2_with fail
      go_ret
      exact ⟨_, rfl, World.ownsRow_lit w1 #[.string nb] 1 K1.out.size (by decide) rfl, K1.out.alloc _⟩
    by_cases e12 : kind = 12
    · subst e12
      rw [HRN.out rfl (by decide)]
      clear HCL HCH HLO HNM
      generalize numS n = nb at *
      go_enter Try.func15, Try.ntmps15
      go_wp2_with fail
      refine (HNU.out _).mono ?_
      rintro e w1 ⟨rfl, k1⟩
      have K1 := hidMk (show Kept w w1 from (((((Kept.refl w).alloc _).alloc _).alloc _)).trans k1)
      clear k1
      go_wp2_with fail
      go_ret
      exact ⟨_, rfl, World.ownsRow_lit w1 #[.string nb] 1 K1.out.size (by decide) rfl, K1.out.alloc _⟩
    by_cases e13 : kind = 13
    · subst e13
      rw [HRM.out rfl (by decide), show midL f 13 names rn rows ln locks cn cls = lnL (rwB f 13 rows) rn from rfl]
      have HLL := hidMk HL1.out
      unfold okW
      generalize lnL (rwB f 13 rows) rn = LL at *
      clear HCL HLO HNM HNU
      go_enter Try.func15, Try.ntmps15
      go_wp2_with fail
      refine (HCH.out _ ((((Kept.refl w).alloc _).alloc _).alloc _) _ _ ?_ ?_).mono ?_
      · exact (((Kept.refl _).alloc _).alloc _).cellp (new_cellS _ _ _ _ _ _ rfl rfl)
      · exact ((Kept.refl _).alloc _).cellp (new_cellS _ _ _ _ _ _ (by simp) rfl)
      rintro e w1 ⟨v1, rfl, o1, k1⟩
      have O1 := hidMk (OwnS.le o1 (show w.heap.size ≤ _ by simp <;> omega))
      have K1 := hidMk (show Kept w w1 from (((((Kept.refl w).alloc _).alloc _).alloc _)).trans k1)
      clear k1 o1
      go_wp2_with (at_builtin; refine wpList_pushS _ rfl _ _ rfl w.heap.size _ LL rfl (O1.out.kept ((Kept.refl _).alloc _)) ?c1 _ ⟨#[111, 107]⟩ rfl ?c2 ?c3 _ rfl ?_)
      case c1 => simp; have h1 := K1.out.size; omega
      case c2 => simp
      case c3 => have := HLL.out; omega
      intro g' cap w3 o3 c3 _ _
      have K3 := hidMk (show Kept w w3 from c3.kept (K1.out.alloc _) (fun t ht => (O1.out.lt t ht).1))
      have O3 := hidMk o3
      clear o3 c3
      go_wp2_with fail
      go_ret
      exact ⟨_, rfl, O3.out, K3.out⟩
    by_cases e14 : kind = 14
    · subst e14
      rw [HRM.out rfl (by decide), show midL f 14 names rn rows ln locks cn cls = lnL (rwB f 14 rows) rn from rfl]
      have HLL := hidMk HL1.out
      unfold okW
      generalize lnL (rwB f 14 rows) rn = LL at *
      clear HCL HLO HNM HNU
      go_enter Try.func15, Try.ntmps15
      go_wp2_with fail
      refine (HCH.out _ ((((Kept.refl w).alloc _).alloc _).alloc _) _ _ ?_ ?_).mono ?_
      · exact (((Kept.refl _).alloc _).alloc _).cellp (new_cellS _ _ _ _ _ _ rfl rfl)
      · exact ((Kept.refl _).alloc _).cellp (new_cellS _ _ _ _ _ _ (by simp) rfl)
      rintro e w1 ⟨v1, rfl, o1, k1⟩
      have O1 := hidMk (OwnS.le o1 (show w.heap.size ≤ _ by simp <;> omega))
      have K1 := hidMk (show Kept w w1 from (((((Kept.refl w).alloc _).alloc _).alloc _)).trans k1)
      clear k1 o1
      go_wp2_with (at_builtin; refine wpList_pushS _ rfl _ _ rfl w.heap.size _ LL rfl (O1.out.kept ((Kept.refl _).alloc _)) ?c1 _ ⟨#[111, 107]⟩ rfl ?c2 ?c3 _ rfl ?_)
      case c1 => simp; have h1 := K1.out.size; omega
      case c2 => simp
      case c3 => have := HLL.out; omega
      intro g' cap w3 o3 c3 _ _
      have K3 := hidMk (show Kept w w3 from c3.kept (K1.out.alloc _) (fun t ht => (O1.out.lt t ht).1))
      have O3 := hidMk o3
      clear o3 c3
      go_wp2_with fail
      go_ret
      exact ⟨_, rfl, O3.out, K3.out⟩
    by_cases e17 : kind = 17
    · subst e17
      rw [HRM.out rfl (by decide), show midL f 17 names rn rows ln locks cn cls = lnL (rwB f 17 rows) rn from rfl]
      have HLL := hidMk HL1.out
      unfold okW
      generalize lnL (rwB f 17 rows) rn = LL at *
      clear HCL HLO HNM HNU
      go_enter Try.func15, Try.ntmps15
      go_wp2_with fail
      refine (HCH.out _ ((((Kept.refl w).alloc _).alloc _).alloc _) _ _ ?_ ?_).mono ?_
      · exact (((Kept.refl _).alloc _).alloc _).cellp (new_cellS _ _ _ _ _ _ rfl rfl)
      · exact ((Kept.refl _).alloc _).cellp (new_cellS _ _ _ _ _ _ (by simp) rfl)
      rintro e w1 ⟨v1, rfl, o1, k1⟩
      have O1 := hidMk (OwnS.le o1 (show w.heap.size ≤ _ by simp <;> omega))
      have K1 := hidMk (show Kept w w1 from (((((Kept.refl w).alloc _).alloc _).alloc _)).trans k1)
      clear k1 o1
      go_wp2_with (at_builtin; refine wpList_pushS _ rfl _ _ rfl w.heap.size _ LL rfl (O1.out.kept ((Kept.refl _).alloc _)) ?c1 _ ⟨#[111, 107]⟩ rfl ?c2 ?c3 _ rfl ?_)
      case c1 => simp; have h1 := K1.out.size; omega
      case c2 => simp
      case c3 => have := HLL.out; omega
      intro g' cap w3 o3 c3 _ _
      have K3 := hidMk (show Kept w w3 from c3.kept (K1.out.alloc _) (fun t ht => (O1.out.lt t ht).1))
      have O3 := hidMk o3
      clear o3 c3
      go_wp2_with fail
      go_ret
      exact ⟨_, rfl, O3.out, K3.out⟩
    by_cases e18 : kind = 18
    · subst e18
      rw [HRM.out rfl (by decide), show midL f 18 names rn rows ln locks cn cls = lnL (rwB f 18 rows) rn from rfl]
      have HLL := hidMk HL1.out
      unfold okW
      generalize lnL (rwB f 18 rows) rn = LL at *
      clear HCL HLO HNM HNU
      go_enter Try.func15, Try.ntmps15
      go_wp2_with fail
      refine (HCH.out _ ((((Kept.refl w).alloc _).alloc _).alloc _) _ _ ?_ ?_).mono ?_
      · exact (((Kept.refl _).alloc _).alloc _).cellp (new_cellS _ _ _ _ _ _ rfl rfl)
      · exact ((Kept.refl _).alloc _).cellp (new_cellS _ _ _ _ _ _ (by simp) rfl)
      rintro e w1 ⟨v1, rfl, o1, k1⟩
      have O1 := hidMk (OwnS.le o1 (show w.heap.size ≤ _ by simp <;> omega))
      have K1 := hidMk (show Kept w w1 from (((((Kept.refl w).alloc _).alloc _).alloc _)).trans k1)
      clear k1 o1
      go_wp2_with (at_builtin; refine wpList_pushS _ rfl _ _ rfl w.heap.size _ LL rfl (O1.out.kept ((Kept.refl _).alloc _)) ?c1 _ ⟨#[111, 107]⟩ rfl ?c2 ?c3 _ rfl ?_)
      case c1 => simp; have h1 := K1.out.size; omega
      case c2 => simp
      case c3 => have := HLL.out; omega
      intro g' cap w3 o3 c3 _ _
      have K3 := hidMk (show Kept w w3 from c3.kept (K1.out.alloc _) (fun t ht => (O1.out.lt t ht).1))
      have O3 := hidMk o3
      clear o3 c3
      go_wp2_with fail
      go_ret
      exact ⟨_, rfl, O3.out, K3.out⟩
    by_cases e15 : kind = 15
    · subst e15
      rw [HRM.out rfl (by decide), show midL f 15 names rn rows ln locks cn cls = lnL (lkB f locks) ln from rfl]
      have HLL := hidMk HL2.out
      unfold okW
      generalize lnL (lkB f locks) ln = LL at *
      clear HCL HCH HNM HNU
      go_enter Try.func15, Try.ntmps15
      go_wp2_with fail
      refine (HLO.out _ ((((Kept.refl w).alloc _).alloc _).alloc _) _ ?_).mono ?_
      · exact (((Kept.refl _).alloc _).alloc _).cellp (new_cellS _ _ _ _ _ _ rfl rfl)
      rintro e w1 ⟨v1, rfl, o1, k1⟩
      have O1 := hidMk (OwnS.le o1 (show w.heap.size ≤ _ by simp <;> omega))
      have K1 := hidMk (show Kept w w1 from (((((Kept.refl w).alloc _).alloc _).alloc _)).trans k1)
      clear k1 o1
      go_wp2_with (at_builtin; refine wpList_pushS _ rfl _ _ rfl w.heap.size _ LL rfl (O1.out.kept ((Kept.refl _).alloc _)) ?c1 _ ⟨#[111, 107]⟩ rfl ?c2 ?c3 _ rfl ?_)
      case c1 => simp; have h1 := K1.out.size; omega
      case c2 => simp
      case c3 => have := HLL.out; omega
      intro g' cap w3 o3 c3 _ _
      have K3 := hidMk (show Kept w w3 from c3.kept (K1.out.alloc _) (fun t ht => (O1.out.lt t ht).1))
      have O3 := hidMk o3
      clear o3 c3
      go_wp2_with fail
      go_ret
      exact ⟨_, rfl, O3.out, K3.out⟩
    by_cases e16 : kind = 16
    · subst e16
      rw [HRM.out rfl (by decide), show midL f 16 names rn rows ln locks cn cls = names from rfl]
      have HLL := hidMk HL4.out
      unfold okW
      generalize names = LL at *
      clear HCL HCH HLO HNU
      go_enter Try.func15, Try.ntmps15
      go_wp2_with fail
      refine (HNM.out _ ((((Kept.refl w).alloc _).alloc _).alloc _)).mono ?_
      rintro e w1 ⟨v1, rfl, o1, k1⟩
      have O1 := hidMk (OwnS.le o1 (show w.heap.size ≤ _ by simp <;> omega))
      have K1 := hidMk (show Kept w w1 from (((((Kept.refl w).alloc _).alloc _).alloc _)).trans k1)
      clear k1 o1
      go_wp2_with (at_builtin; refine wpList_pushS _ rfl _ _ rfl w.heap.size _ LL rfl (O1.out.kept ((Kept.refl _).alloc _)) ?c1 _ ⟨#[111, 107]⟩ rfl ?c2 ?c3 _ rfl ?_)
      case c1 => simp; have h1 := K1.out.size; omega
      case c2 => simp
      case c3 => have := HLL.out; omega
      intro g' cap w3 o3 c3 _ _
      have K3 := hidMk (show Kept w w3 from c3.kept (K1.out.alloc _) (fun t ht => (O1.out.lt t ht).1))
      have O3 := hidMk o3
      clear o3 c3
      go_wp2_with fail
      go_ret
      exact ⟨_, rfl, O3.out, K3.out⟩
    by_cases e10 : kind = 10
    · subst e10
      rw [HRM.out rfl (by decide), show midL f 10 names rn rows ln locks cn cls = lnL (clB f cls) cn from rfl]
      have HLL := hidMk HL3.out
      unfold okW
      generalize lnL (clB f cls) cn = LL at *
      clear HCH HLO HNM HNU
      go_enter Try.func15, Try.ntmps15
      go_wp2_with fail
      refine (HCL.out _ ((((Kept.refl w).alloc _).alloc _).alloc _)).mono ?_
      rintro e w1 ⟨v1, rfl, o1, k1⟩
      have O1 := hidMk (OwnS.le o1 (show w.heap.size ≤ _ by simp <;> omega))
      have K1 := hidMk (show Kept w w1 from (((((Kept.refl w).alloc _).alloc _).alloc _)).trans k1)
      clear k1 o1
      go_wp2_with (at_builtin; refine wpList_pushS _ rfl _ _ rfl w.heap.size _ LL rfl (O1.out.kept ((Kept.refl _).alloc _)) ?c1 _ ⟨#[111, 107]⟩ rfl ?c2 ?c3 _ rfl ?_)
      case c1 => simp; have h1 := K1.out.size; omega
      case c2 => simp
      case c3 => have := HLL.out; omega
      intro g' cap w3 o3 c3 _ _
      have K3 := hidMk (show Kept w w3 from c3.kept (K1.out.alloc _) (fun t ht => (O1.out.lt t ht).1))
      have O3 := hidMk o3
      clear o3 c3
      go_wp2_with fail
      go_ret
      exact ⟨_, rfl, O3.out, K3.out⟩
    rw [HRM.out rfl (by rintro (h | h) <;> contradiction), midL_none e13 e14 e17 e18 e15 e16 e10, List.nil_append]
    unfold okW
    clear HCL HCH HLO HNM HNU HRM HRN
    go_enter Try.func15, Try.ntmps15
    go_wp2_with (at_builtin; refine wpList_pushS _ rfl _ _ rfl w.heap.size (.slice none 0 0) [] rfl (World.ownsRow_nil _ _ _ _) ?c1 _ ⟨#[111, 107]⟩ rfl ?c2 (by decide) _ rfl ?_)
    case c1 => simp; omega
    case c2 => exact new_cellS _ _ _ _ _ _ (by simp) rfl
    intro g' cap w3 o3 c3 _ _
    have K3 := hidMk (show Kept w w3 from c3.kept (((((Kept.refl w).alloc _).alloc _).alloc _).alloc _) (fun t ht => by cases ht))
    have O3 := hidMk o3
    clear o3 c3
    go_wp2_with fail
    go_ret
    exact ⟨_, rfl, O3.out, K3.out⟩
end
end Go.Proofs.Ytbhojgodkblflaa
