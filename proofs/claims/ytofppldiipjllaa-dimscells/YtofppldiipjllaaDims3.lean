/- dims.Find and dims.add. -/
import Derived.Test.YtofppldiipjllaaDims2
import Derived.Deep.RegionLaw
import Derived.Deep.CutRange
namespace Go.Proofs.Ytofppldiipjllaa
open Go.RowKit Go.Maps
set_option linter.unusedSimpArgs false
set_option linter.unusedVariables false

theorem lbl_len (ds : List Dm) : (lbl ds).length = ds.length := by simp [lbl]
set_option maxHeartbeats 800000 in
theorem slices_IndexD (a : Option Addr) (c : Nat) (ds : List Dm) (tp : Nat → Nat) (s : ByteArray) (g : Nat) (w : World) (hm : ds.length ≤ 60)
    (hr : 0 < ds.length → ∃ b, a = some ⟨b, 0, none⟩ ∧ ∀ k, k < ds.length → w.cell? ⟨b, k * 2, none⟩ = some (.string (dmN ds k)) ∧ w.cell? ⟨b, k * 2 + 1, none⟩ = some (.pointer (some ⟨tp k, 0, none⟩)))
    (hg : w.cell? ⟨g, 0, none⟩ = some (.string s)) :
    Calls Try.prog 36 #[.slice a ds.length c, .func (.func 37) #[] #[.pointer (some ⟨g, 0, none⟩)]] w fun e w' => e = .returned (.int .i64 (idxI (lbl ds) s)) ∧ Kept w w' := by
  obtain ⟨r, hrr⟩ : ∃ r, idxI (lbl ds) s = r := ⟨_, rfl⟩
  rw [hrr]
  have HR := hidMk hrr
  have HC := hidMk hr
  have HG := hidMk hg
  clear hrr hr hg
  go_enter Try.func36, Try.ntmps36
  go_wp2_with fail
  go_loopg [8] ds.length (fun gg i wr => ∃ k : Nat, k + gg = ds.length ∧ i = .int .i64 k ∧ Kept w wr ∧ Hid (∀ j, j < k → (lbl ds).getD j ByteArray.empty ≠ s))
  case atStart => exact ⟨0, by omega, rfl, Kept.refl _, hidMk fun j hj => absurd hj (by omega)⟩
  case round =>
    obtain ⟨k, hkg, rfl, hk, HJ⟩ := hrel
    have HKG := hidMk hkg
    have HK := hidMk hk
    by_cases hkn : k < ds.length
    · obtain ⟨b, rfl, hcs⟩ := HC.out (by omega)
      obtain ⟨c1, c2⟩ := hcs k hkn
      have d1 := hk.cellp c1
      have d2 := hk.cellp c2
      have hf := find_fn s (dmN ds k) (.pointer (some ⟨tp k, 0, none⟩)) g wr ⟨_, rfl⟩ (hk.cellp HG.out)
      have hlg := lbl_get ds k hkn
      clear hcs c1 c2 hk hkg
      by_cases he : dmN ds k = s
      · have HF := hidMk (show r = k from by rw [← HR.out]; exact idxS_at (by rw [lbl_len]; exact hkn) (by rw [hlg]; exact he) HJ.out)
        rw [decide_eq_true he] at hf
        have HFN := hidMk hf
        clear hf he hlg
        generalize dmN ds k = x at *
        generalize tp k = q at *
        go_wp2_with (go_at_call 37; refine HFN.out.mono ?_; rintro e w2 ⟨rfl, k2⟩; have K2 := hidMk k2; clear k2)
        go_ret
        exact ⟨by rw [HF.out]; rfl, HK.out.trans K2.out⟩
      · have HS2 := hidMk (show ∀ j, j < k + 1 → (lbl ds).getD j ByteArray.empty ≠ s from fun j hj => by
          by_cases e : j = k
          · subst e; rw [hlg]; exact he
          · exact HJ.out j (by omega))
        rw [decide_eq_false he] at hf
        have HFN := hidMk hf
        clear hf he hlg
        generalize dmN ds k = x at *
        generalize tp k = q at *
        go_wp2_with (go_at_call 37; refine HFN.out.mono ?_; rintro e w2 ⟨rfl, k2⟩; have K2 := hidMk k2; clear k2)
        go_roundg (gk - 1)
        case measure => have := HKG.out; omega
        case rel => exact ⟨k + 1, by have := HKG.out; omega, by go_num, HK.out.trans K2.out, HS2⟩
    · have HF := hidMk (show r = -1 from by rw [← HR.out]; exact idxS_no (fun j hj => by rw [lbl_len] at hj; exact HJ.out j (by omega)))
      have hkk : ¬ ((k : Int) < (ds.length : Int)) := by omega
      clear hk hkg
      go_wp2_with fail
      go_ret
      exact ⟨by rw [HF.out]; rfl, HK.out⟩
theorem dims_Find {w0 w : World} {p : Nat} {ds : List Dm} {tp : Nat → Nat} {ma : Option Addr} {mc : Nat} {ms : List ByteArray} {lv sc : Int} {dv : Value} (h : DP w0 w p ds tp ma mc ms lv sc dv) (hm : ds.length ≤ 60) (s : ByteArray) :
    Calls Try.prog 10 #[.pointer (some ⟨p, 0, none⟩), .string s] w fun e w' => e = .returned (.int .i64 (idxI (lbl ds) s)) ∧ Kept w w' := by
  obtain ⟨a, c, rfl, hr⟩ := h.rows hm
  have h0 := ((Kept.refl w).alloc (.cells #[.string s] 9)).cellp h.c0
  have HI := hidMk (slices_IndexD a c ds tp s w.heap.size (w.alloc (.cells #[.string s] 9)) hm (fun hp => by
    obtain ⟨b, e, hb⟩ := hr hp
    exact ⟨b, e, fun k hk => ⟨((Kept.refl w).alloc _).cellp (hb k hk).1, ((Kept.refl w).alloc _).cellp (hb k hk).2⟩⟩) (by simp))
  clear h hr
  go_enter Try.func10, Try.ntmps10
  go_wp2_with (go_at_call 36; refine HI.out.mono ?_; rintro e w1 ⟨rfl, k1⟩; have K1 := hidMk k1; clear k1)
  go_ret
  exact ⟨rfl, ((Kept.refl w).alloc _).trans K1.out⟩
theorem dinfo : ∃ i0, Try.prog.info? 80 = some i0 ∧ i0.zero = some (.agg #[.string ⟨#[]⟩, .pointer none]) ∧ i0.size = 2 ∧ i0.bytes = 24 := by
  have h : (Try.prog.info? 80).map (fun i => (i.zero, i.size, i.bytes)) = some (some (.agg #[.string ⟨#[]⟩, .pointer none]), 2, 24) := by kernel_rfl
  exact info_parts h
theorem step_pushD {ops : Array Oper} {o : Oper} {a : Act} {K : Act → World → Prop} {Q : Exit → Act → World → Prop} {E : Prop} (w : World) (hgd : o.guard = none) (s x : Operand)
    (ho : o.op = .call { callee := .builtin .append, args := #[s, x], argTypes := #[68, 68] })
    (B : Nat) (v : Value) (ds : List Dm) (tp : Nat → Nat) (hs : a.eval s = v) (hv : w.ownsRow B 80 2 v ds.length (dimVs ds tp)) (hB : B ≤ w.heap.size) (g : Nat) (nm : ByteArray) (q : Nat) (hx : a.eval x = .slice (some ⟨g, 0, none⟩) 1 1)
    (hc0 : w.cell? ⟨g, 0, none⟩ = some (.string nm)) (hc1 : w.cell? ⟨g, 1, none⟩ = some (.pointer (some ⟨q, 0, none⟩))) (h47 : ds.length ≤ 60) (H : Nat) (hH : w.heap.size = H)
    (h : ∀ g' cap w', w'.ownsRow B 80 2 (.slice (some ⟨g', 0, none⟩) (ds.length + 1) cap) (ds.length + 1) (dimVs ds tp ++ [.string nm, .pointer (some ⟨q, 0, none⟩)]) → Chg (fun k => v.ownBlock = some k) w w' → (v.ownBlock = some g' ∨ g' = H) → g' < w'.heap.size → K (a.put o.dst (.slice (some ⟨g', 0, none⟩) (ds.length + 1) cap)) w') :
    if Region.wanted o (yielded ops a.tmps) = true then Oper.wp Try.prog o a w K Q else E := by
  obtain ⟨i0, hi0, hz0, hz1, hz2⟩ := dinfo
  refine step_append_lies w hgd s x 68 ho B 80 i0 _ 2 24 Try.underlying68 hi0 hz0 hz1 hz2 rfl (by decide) v _ _ hs hv ⟨g, 0, none⟩ 1 1 [.string nm, .pointer (some ⟨q, 0, none⟩)] hx rfl ?_ (by intro u hu; simp at hu; rcases hu with rfl | rfl <;> rfl) (by omega) (by unfold maxLen; omega) (by omega) hB H hH ?_
  · intro j u hj
    have : j = 0 ∨ j = 1 ∨ 2 ≤ j := by omega
    rcases this with rfl | rfl | hj2
    · simp at hj; subst hj; simpa [Addr.add] using hc0
    · simp at hj; subst hj; simpa [Addr.add] using hc1
    · rw [List.getElem?_eq_none (by simpa using hj2)] at hj; cases hj
  · intro g' cap w' h2 h3 h4 h5
    exact h g' cap w' h2 ((Chg.refl _ w).grown h3 (fun k hk => .inl hk)) h4 h5
end Go.Proofs.Ytofppldiipjllaa
