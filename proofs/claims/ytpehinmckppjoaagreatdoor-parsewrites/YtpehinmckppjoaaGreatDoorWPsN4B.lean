/- The definition's reader: a choice. · The definition's reader: how to spread. -/
import Derived.Test.YtpehinmckppjoaaGreatDoorWPsN2B
namespace Go.Proofs.YtpehinmckppjoaaGreatDoor
open Go.RowKit Go.Maps
set_option linter.unusedSimpArgs false
set_option linter.unusedVariables false

/-- What the definition's reader does, as r tells. -/
def QOne (w0 W : World) (pr pq : Nat) (ra : Option Addr) (rn rc : Nat) (r : PR) (e : Ending) (w' : World) : Prop := Chg (· = pr) W w' ∧ match r with
  | .error p => e = .returned (.int .i64 p.2) ∧ ∃ s', QS w0 w' pr pq ra rn rc s' ∧ (s'.1 : Int) = p.1
  | .ok s' => e = .returned (.int .i64 0) ∧ QS w0 w' pr pq ra rn rc s'
theorem QS.step {w0 W : World} {pr pq : Nat} {ra : Option Addr} {rn rc i : Nat} {x : Cm} (h : QS w0 W pr pq ra rn rc (i, x)) {x' : Cm} {o : Nat} {v : Value} (ho : o < 12) (hx : cmL x' = (cmL x).set o v) (hi : i + 1 ≤ rn) :
    QS w0 ((W.setCell ⟨pr, 3 + o, none⟩ v).setCell ⟨pr, 2, none⟩ (.int .i64 ((i : Int) + 1))) pr pq ra rn rc (i + 1, x') := by
  have := (h.setX ho hx).setAt (i + 1) hi
  rw [Int.natCast_add] at this
  exact this
theorem chg_step {W y : World} {pr : Nat} (h : Chg (· = pr) W y) (o : Nat) (v u : Value) : Chg (· = pr) W ((y.setCell ⟨pr, o, none⟩ v).setCell ⟨pr, 2, none⟩ u) :=
  (h.setCell (p := ⟨pr, o, none⟩) (.inl rfl) v).setCell (p := ⟨pr, 2, none⟩) (.inl rfl) u
section
variable {L : List ByteArray}
theorem ch_ok {ws : List ByteArray} (hw : Nms ws) {i : Nat} {x : Cm} (hi : i < L.length) {k : Nat} (hk : k < ws.length) (ht : tkA L i = msA ws k) : choiceP L ws (i, x) = .ok (i + 1, { x with h := (k : Int) }) := by
  have hn : nx L 1 i = some (msA ws k) := by
    unfold nx
    have e : L.getD i ByteArray.empty = msA ws k := ht
    rw [e, if_pos ⟨hi, rdK_name (hw.nm k hk)⟩]
  unfold choiceP
  rw [if_neg (by simp only; omega)]
  simp only [hn]
  rw [hw.ix k hk, if_neg (by omega)]
theorem ch_bad {ws : List ByteArray} {i : Nat} {x : Cm} (hi : i < L.length) (ht : ∀ k, k < ws.length → tkA L i ≠ msA ws k) : choiceP L ws (i, x) = .error ((i : Int), 6) := by
  unfold choiceP
  rw [if_neg (by simp only; omega)]
  cases hn : nx L 1 i with
  | none => simp only [hn]
  | some t =>
    simp only [hn]
    have hti := (nx_some hn).2.1
    rw [if_pos]
    by_cases c : idxI ws t < 0
    · exact c
    · obtain ⟨h1, h2⟩ := idx_msA (l := ws) (s := t) (by omega)
      exact absurd (by rw [hti, h2]) (ht _ (by omega))
end
section
variable {w0 W : World} {pr pq : Nat} {ra : Option Addr} {rc : Nat} {ms : List ByteArray} {ds : List Dm} {L : List ByteArray} {s : Nat × Cm}
set_option maxHeartbeats 4000000 in
set_option maxRecDepth 100000 in
theorem q_wayM (hX : QX w0 pr pq ra rc ms ds L) (hS : QS w0 W pr pq ra L.length rc s) (hh : s.2.h ≠ 2) :
    Calls Tryz.prog 52 #[.pointer (some ⟨pr, 0, none⟩), .string ⟨#[97, 98, 111, 114, 116]⟩, .string ⟨#[111, 117, 114, 115]⟩, .string ⟨#[116, 104, 101, 105, 114, 115]⟩] W (QOne w0 W pr pq ra L.length rc (choiceP L mtW s)) := by
  obtain ⟨i, x⟩ := s
  simp only at hh
  have q0 := hS.d
  have q1 := hS.ws
  have q2 := hS.at_
  simp only at q2
  have x10 : W.cell? ⟨pr, 13, none⟩ = some (.int .i64 x.h) := hS.x 10 _ rfl
  have x11 : W.cell? ⟨pr, 14, none⟩ = some (.int .i64 x.m) := hS.x 11 _ rfl
  have f13 := hS.fr 13 (by omega)
  have f14 := hS.fr 14 (by omega)
  have f2 := hS.fr 2 (by omega)
  have hle := hS.le
  have hbig := hX.big
  simp only at hle
  have HS := hidMk hS
  have HX := hidMk hX
  have HI := hidMk hle
  by_cases he : i = L.length
  · have HR := hidMk (show choiceP L mtW (i, x) = .ok (i, x) from by unfold choiceP; rw [if_pos he])
    rw [HR.out]
    subst he
    have hg : decide ((L.length : Int) ≤ (L.length : Int)) = true := by simp
    clear hX hS hle
    show Calls _ _ _ _ (fun e w' => Chg (· = pr) W w' ∧ e = .returned (.int .i64 0) ∧ QS w0 w' pr pq ra L.length rc (L.length, x))
    go_enter Tryz.func52, Tryz.ntmps52
    go_wp2_with fail
    go_quiet (fail)
    go_wp2_with fail
    go_ret
    exact ⟨Chg.of_kept ((Kept.refl _).drewN _), rfl, HS.out.keep ((Kept.refl _).drewN _)⟩
  have hi : i < L.length := by omega
  have hg : decide ((L.length : Int) ≤ (i : Int)) = false := by simp; omega
  have hil : (i : Int) < (L.length : Int) := by omega
  have hwr : IntKind.i64.wrap ((i : Int) + 1) = (i : Int) + 1 := by rw [IntKind.wrap_i64]; omega
  obtain ⟨b, o, wx, rfl, _, y1, _⟩ := (hX.wl _ hS.kept).at_ i hi
  clear hX hS hle
  obtain ⟨t, ht⟩ : ∃ t, tkA L i = t := ⟨_, rfl⟩
  rw [ht] at y1
  have HT := hidMk ht
  have HIL := hidMk hi
  clear ht
  by_cases h0 : t = ⟨#[97, 98, 111, 114, 116]⟩
  · have HC := hidMk (ch_ok nms_mt (x := x) HIL.out (k := 0) (by decide) (HT.out.trans h0))
    subst h0
    have HR := hidMk (show choiceP L mtW (i, x) = .ok (i + 1, { x with h := 0 }) from by exact HC.out)
    rw [HR.out]
    show Calls _ _ _ _ (fun e w' => Chg (· = pr) W w' ∧ e = .returned (.int .i64 0) ∧ QS w0 w' pr pq (some ⟨b, o, none⟩) L.length rc (i + 1, { x with h := 0 }))
    go_enter Tryz.func52, Tryz.ntmps52
    go_wp2_with fail
    go_quiet (fail)
    go_wp2_with fail
    go_quiet (fail)
    go_wp2_with fail
    go_ret
    exact ⟨chg_step (Chg.of_kept (by (repeat (first | (with_reducible exact Kept.refl _) | (with_reducible refine Kept.alloc ?_ _) | (with_reducible refine Kept.drew ?_) | (with_reducible refine Kept.drewN ?_ _))))) _ _ _, rfl, (HS.out.keep (by (repeat (first | (with_reducible exact Kept.refl _) | (with_reducible refine Kept.alloc ?_ _) | (with_reducible refine Kept.drew ?_) | (with_reducible refine Kept.drewN ?_ _))))).step (o := 10) (by omega) rfl (by have := HIL.out; omega)⟩
  by_cases h1 : t = ⟨#[111, 117, 114, 115]⟩
  · have HC := hidMk (ch_ok nms_mt (x := x) HIL.out (k := 1) (by decide) (HT.out.trans h1))
    have b0 : (t.toList == [97, 98, 111, 114, 116]) = false := by have h := bytes_neD h0; rwa [show (⟨#[97, 98, 111, 114, 116]⟩ : ByteArray).toList = [97, 98, 111, 114, 116] from by rw [ByteArray.toList_eq]] at h
    subst h1
    have HR := hidMk (show choiceP L mtW (i, x) = .ok (i + 1, { x with h := 1 }) from by exact HC.out)
    rw [HR.out]
    show Calls _ _ _ _ (fun e w' => Chg (· = pr) W w' ∧ e = .returned (.int .i64 0) ∧ QS w0 w' pr pq (some ⟨b, o, none⟩) L.length rc (i + 1, { x with h := 1 }))
    go_enter Tryz.func52, Tryz.ntmps52
    go_wp2_with fail
    go_quiet (fail)
    go_wp2_with fail
    go_quiet (fail)
    go_wp2_with fail
    go_ret
    exact ⟨chg_step (Chg.of_kept (by (repeat (first | (with_reducible exact Kept.refl _) | (with_reducible refine Kept.alloc ?_ _) | (with_reducible refine Kept.drew ?_) | (with_reducible refine Kept.drewN ?_ _))))) _ _ _, rfl, (HS.out.keep (by (repeat (first | (with_reducible exact Kept.refl _) | (with_reducible refine Kept.alloc ?_ _) | (with_reducible refine Kept.drew ?_) | (with_reducible refine Kept.drewN ?_ _))))).step (o := 10) (by omega) rfl (by have := HIL.out; omega)⟩
  by_cases h2 : t = ⟨#[116, 104, 101, 105, 114, 115]⟩
  · have HC := hidMk (ch_ok nms_mt (x := x) HIL.out (k := 2) (by decide) (HT.out.trans h2))
    have b0 : (t.toList == [97, 98, 111, 114, 116]) = false := by have h := bytes_neD h0; rwa [show (⟨#[97, 98, 111, 114, 116]⟩ : ByteArray).toList = [97, 98, 111, 114, 116] from by rw [ByteArray.toList_eq]] at h
    have b1 : (t.toList == [111, 117, 114, 115]) = false := by have h := bytes_neD h1; rwa [show (⟨#[111, 117, 114, 115]⟩ : ByteArray).toList = [111, 117, 114, 115] from by rw [ByteArray.toList_eq]] at h
    subst h2
    have HR := hidMk (show choiceP L mtW (i, x) = .ok (i + 1, { x with h := 2 }) from by exact HC.out)
    rw [HR.out]
    show Calls _ _ _ _ (fun e w' => Chg (· = pr) W w' ∧ e = .returned (.int .i64 0) ∧ QS w0 w' pr pq (some ⟨b, o, none⟩) L.length rc (i + 1, { x with h := 2 }))
    go_enter Tryz.func52, Tryz.ntmps52
    go_wp2_with fail
    go_quiet (fail)
    go_wp2_with fail
    go_quiet (fail)
    go_wp2_with fail
    go_ret
    exact ⟨chg_step (Chg.of_kept (by (repeat (first | (with_reducible exact Kept.refl _) | (with_reducible refine Kept.alloc ?_ _) | (with_reducible refine Kept.drew ?_) | (with_reducible refine Kept.drewN ?_ _))))) _ _ _, rfl, (HS.out.keep (by (repeat (first | (with_reducible exact Kept.refl _) | (with_reducible refine Kept.alloc ?_ _) | (with_reducible refine Kept.drew ?_) | (with_reducible refine Kept.drewN ?_ _))))).step (o := 10) (by omega) rfl (by have := HIL.out; omega)⟩
  have b0 : (t.toList == [97, 98, 111, 114, 116]) = false := by have h := bytes_neD h0; rwa [show (⟨#[97, 98, 111, 114, 116]⟩ : ByteArray).toList = [97, 98, 111, 114, 116] from by rw [ByteArray.toList_eq]] at h
  have b1 : (t.toList == [111, 117, 114, 115]) = false := by have h := bytes_neD h1; rwa [show (⟨#[111, 117, 114, 115]⟩ : ByteArray).toList = [111, 117, 114, 115] from by rw [ByteArray.toList_eq]] at h
  have b2 : (t.toList == [116, 104, 101, 105, 114, 115]) = false := by have h := bytes_neD h2; rwa [show (⟨#[116, 104, 101, 105, 114, 115]⟩ : ByteArray).toList = [116, 104, 101, 105, 114, 115] from by rw [ByteArray.toList_eq]] at h
  have HC := hidMk (ch_bad (ws := mtW) (x := x) HIL.out (fun k hk => by
    rw [HT.out]
    rcases (by have : mtW.length = 3 := rfl
               omega : k = 0 ∨ k = 1 ∨ k = 2) with rfl | rfl | rfl
    · exact h0
    · exact h1
    · exact h2))
  have HR := hidMk (show choiceP L mtW (i, x) = .error ((i : Int), 6) from by exact HC.out)
  rw [HR.out]
  clear h0 h1 h2
  show Calls _ _ _ _ (fun e w' => Chg (· = pr) W w' ∧ e = .returned (.int .i64 6) ∧ ∃ s', QS w0 w' pr pq (some ⟨b, o, none⟩) L.length rc s' ∧ (s'.1 : Int) = (i : Int))
  go_enter Tryz.func52, Tryz.ntmps52
  go_wp2_with fail
  go_quiet (fail)
  go_wp2_with fail
  go_quiet (fail)
  go_wp2_with fail
  go_ret
  exact ⟨Chg.of_kept (by (repeat (first | (with_reducible exact Kept.refl _) | (with_reducible refine Kept.alloc ?_ _) | (with_reducible refine Kept.drew ?_) | (with_reducible refine Kept.drewN ?_ _)))), rfl, _, HS.out.keep (by (repeat (first | (with_reducible exact Kept.refl _) | (with_reducible refine Kept.alloc ?_ _) | (with_reducible refine Kept.drew ?_) | (with_reducible refine Kept.drewN ?_ _)))), rfl⟩
end
end Go.Proofs.YtpehinmckppjoaaGreatDoor
namespace Go.Proofs.YtpehinmckppjoaaGreatDoor
open Go.RowKit Go.Maps
set_option linter.unusedSimpArgs false
set_option linter.unusedVariables false

section
variable {w0 W : World} {pr pq : Nat} {ra : Option Addr} {rc : Nat} {ms : List ByteArray} {ds : List Dm} {L : List ByteArray} {s : Nat × Cm}
set_option maxHeartbeats 4000000 in
set_option maxRecDepth 100000 in
theorem q_wayH (hX : QX w0 pr pq ra rc ms ds L) (hS : QS w0 W pr pq ra L.length rc s) (hh : s.2.h ≠ 2) :
    Calls Tryz.prog 52 #[.pointer (some ⟨pr, 0, none⟩), .string ⟨#[101, 113, 117, 97, 108]⟩, .string ⟨#[112, 114, 111, 112]⟩, .string ⟨#[119, 101, 105, 103, 104, 116]⟩] W (QOne w0 W pr pq ra L.length rc (howP ms L s)) := by
  obtain ⟨i, x⟩ := s
  simp only at hh
  have q0 := hS.d
  have q1 := hS.ws
  have q2 := hS.at_
  simp only at q2
  have x10 : W.cell? ⟨pr, 13, none⟩ = some (.int .i64 x.h) := hS.x 10 _ rfl
  have x11 : W.cell? ⟨pr, 14, none⟩ = some (.int .i64 x.m) := hS.x 11 _ rfl
  have f13 := hS.fr 13 (by omega)
  have f14 := hS.fr 14 (by omega)
  have f2 := hS.fr 2 (by omega)
  have hle := hS.le
  have hbig := hX.big
  simp only at hle
  have HS := hidMk hS
  have HX := hidMk hX
  have HI := hidMk hle
  by_cases he : i = L.length
  · have HR := hidMk (show howP ms L (i, x) = .ok (i, x) from by unfold howP choiceP; rw [if_pos he]; simp only; rw [if_neg hh])
    rw [HR.out]
    subst he
    have hg : decide ((L.length : Int) ≤ (L.length : Int)) = true := by simp
    clear hX hS hle
    show Calls _ _ _ _ (fun e w' => Chg (· = pr) W w' ∧ e = .returned (.int .i64 0) ∧ QS w0 w' pr pq ra L.length rc (L.length, x))
    go_enter Tryz.func52, Tryz.ntmps52
    go_wp2_with fail
    go_quiet (fail)
    go_wp2_with fail
    go_ret
    exact ⟨Chg.of_kept ((Kept.refl _).drewN _), rfl, HS.out.keep ((Kept.refl _).drewN _)⟩
  have hi : i < L.length := by omega
  have hg : decide ((L.length : Int) ≤ (i : Int)) = false := by simp; omega
  have hil : (i : Int) < (L.length : Int) := by omega
  have hwr : IntKind.i64.wrap ((i : Int) + 1) = (i : Int) + 1 := by rw [IntKind.wrap_i64]; omega
  obtain ⟨b, o, wx, rfl, _, y1, _⟩ := (hX.wl _ hS.kept).at_ i hi
  clear hX hS hle
  obtain ⟨t, ht⟩ : ∃ t, tkA L i = t := ⟨_, rfl⟩
  rw [ht] at y1
  have HT := hidMk ht
  have HIL := hidMk hi
  clear ht
  by_cases h0 : t = ⟨#[101, 113, 117, 97, 108]⟩
  · have HC := hidMk (ch_ok nms_sp (x := x) HIL.out (k := 0) (by decide) (HT.out.trans h0))
    subst h0
    have HR := hidMk (show howP ms L (i, x) = .ok (i + 1, { x with h := 0 }) from by unfold howP; rw [HC.out]; simp only; exact if_neg (by decide))
    rw [HR.out]
    show Calls _ _ _ _ (fun e w' => Chg (· = pr) W w' ∧ e = .returned (.int .i64 0) ∧ QS w0 w' pr pq (some ⟨b, o, none⟩) L.length rc (i + 1, { x with h := 0 }))
    go_enter Tryz.func52, Tryz.ntmps52
    go_wp2_with fail
    go_quiet (fail)
    go_wp2_with fail
    go_quiet (fail)
    go_wp2_with fail
    go_ret
    exact ⟨chg_step (Chg.of_kept (by (repeat (first | (with_reducible exact Kept.refl _) | (with_reducible refine Kept.alloc ?_ _) | (with_reducible refine Kept.drew ?_) | (with_reducible refine Kept.drewN ?_ _))))) _ _ _, rfl, (HS.out.keep (by (repeat (first | (with_reducible exact Kept.refl _) | (with_reducible refine Kept.alloc ?_ _) | (with_reducible refine Kept.drew ?_) | (with_reducible refine Kept.drewN ?_ _))))).step (o := 10) (by omega) rfl (by have := HIL.out; omega)⟩
  by_cases h1 : t = ⟨#[112, 114, 111, 112]⟩
  · have HC := hidMk (ch_ok nms_sp (x := x) HIL.out (k := 1) (by decide) (HT.out.trans h1))
    have b0 : (t.toList == [101, 113, 117, 97, 108]) = false := by have h := bytes_neD h0; rwa [show (⟨#[101, 113, 117, 97, 108]⟩ : ByteArray).toList = [101, 113, 117, 97, 108] from by rw [ByteArray.toList_eq]] at h
    subst h1
    have HR := hidMk (show howP ms L (i, x) = .ok (i + 1, { x with h := 1 }) from by unfold howP; rw [HC.out]; simp only; exact if_neg (by decide))
    rw [HR.out]
    show Calls _ _ _ _ (fun e w' => Chg (· = pr) W w' ∧ e = .returned (.int .i64 0) ∧ QS w0 w' pr pq (some ⟨b, o, none⟩) L.length rc (i + 1, { x with h := 1 }))
    go_enter Tryz.func52, Tryz.ntmps52
    go_wp2_with fail
    go_quiet (fail)
    go_wp2_with fail
    go_quiet (fail)
    go_wp2_with fail
    go_ret
    exact ⟨chg_step (Chg.of_kept (by (repeat (first | (with_reducible exact Kept.refl _) | (with_reducible refine Kept.alloc ?_ _) | (with_reducible refine Kept.drew ?_) | (with_reducible refine Kept.drewN ?_ _))))) _ _ _, rfl, (HS.out.keep (by (repeat (first | (with_reducible exact Kept.refl _) | (with_reducible refine Kept.alloc ?_ _) | (with_reducible refine Kept.drew ?_) | (with_reducible refine Kept.drewN ?_ _))))).step (o := 10) (by omega) rfl (by have := HIL.out; omega)⟩
  by_cases h2 : t = ⟨#[119, 101, 105, 103, 104, 116]⟩
  · have HC := hidMk (ch_ok nms_sp (x := x) HIL.out (k := 2) (by decide) (HT.out.trans h2))
    have b0 : (t.toList == [101, 113, 117, 97, 108]) = false := by have h := bytes_neD h0; rwa [show (⟨#[101, 113, 117, 97, 108]⟩ : ByteArray).toList = [101, 113, 117, 97, 108] from by rw [ByteArray.toList_eq]] at h
    have b1 : (t.toList == [112, 114, 111, 112]) = false := by have h := bytes_neD h1; rwa [show (⟨#[112, 114, 111, 112]⟩ : ByteArray).toList = [112, 114, 111, 112] from by rw [ByteArray.toList_eq]] at h
    subst h2
    have HR := hidMk (show howP ms L (i, x) = indexP L ms (i + 1, { x with h := 2 }) from by
      unfold howP
      rw [HC.out]
      simp only
      exact if_pos rfl)
    rw [HR.out]
    have HST := hidMk (show ∀ y, Kept W y → QS w0 ((y.setCell ⟨pr, 13, none⟩ (.int .i64 2)).setCell ⟨pr, 2, none⟩ (.int .i64 ((i : Int) + 1))) pr pq (some ⟨b, o, none⟩) L.length rc (i + 1, { x with h := 2 }) from fun y hy => (HS.out.keep hy).step (o := 10) (by omega) rfl (by have := HIL.out; omega))
    have HCH := hidMk (show ∀ y, Kept W y → Chg (· = pr) W ((y.setCell ⟨pr, 13, none⟩ (.int .i64 2)).setCell ⟨pr, 2, none⟩ (.int .i64 ((i : Int) + 1))) from fun y hy => chg_step (Chg.of_kept hy) _ _ _)
    have HIN := hidMk (show indexP L ms (i + 1, { x with h := 2 }) = match nx L 1 (i + 1) with
      | none => .error (((i + 1 : Nat) : Int), 6)
      | some t => if idxI ms t < 0 then .error (((i + 1 : Nat) : Int), 10) else .ok (i + 1 + 1, { x with h := 2, m := idxI ms t }) from rfl)
    cases hn : nx L 1 (i + 1) with
    | none =>
      have HE := hidMk (show indexP L ms (i + 1, { x with h := 2 }) = .error (((i + 1 : Nat) : Int), 6) from by rw [HIN.out, hn])
      rw [HE.out]
      have HN := hidMk (fun y (hy : QS w0 y pr pq (some ⟨b, o, none⟩) L.length rc (i + 1, { x with h := 2 })) => q_next_no HX.out hy hn)
      show Calls _ _ _ _ (fun e w' => Chg (· = pr) W w' ∧ e = .returned (.int .i64 6) ∧ ∃ s', QS w0 w' pr pq (some ⟨b, o, none⟩) L.length rc s' ∧ (s'.1 : Int) = ((i + 1 : Nat) : Int))
      unfold wdZ at HN
      clear hn
      go_enter Tryz.func52, Tryz.ntmps52
      go_wp2_with fail
      go_quiet (fail)
      go_wp2_with fail
      go_quiet (fail)
      go_wp2_with fail
      refine (HN.out _ (HST.out _ (by (repeat (first | (with_reducible exact Kept.refl _) | (with_reducible refine Kept.alloc ?_ _) | (with_reducible refine Kept.drew ?_) | (with_reducible refine Kept.drewN ?_ _)))))).mono ?_
      rintro e w2 ⟨rfl, k2⟩
      have S2 := hidMk ((HST.out _ (by (repeat (first | (with_reducible exact Kept.refl _) | (with_reducible refine Kept.alloc ?_ _) | (with_reducible refine Kept.drew ?_) | (with_reducible refine Kept.drewN ?_ _))))).keep k2)
      have C2 := hidMk (chg_kept1 (HCH.out _ (by (repeat (first | (with_reducible exact Kept.refl _) | (with_reducible refine Kept.alloc ?_ _) | (with_reducible refine Kept.drew ?_) | (with_reducible refine Kept.drewN ?_ _))))) k2)
      clear k2
      go_wp2_with fail
      go_ret
      exact ⟨chg_kept1 C2.out ((Kept.refl _).alloc _), rfl, _, S2.out.keep ((Kept.refl _).alloc _), rfl⟩
    | some u =>
      have HN := hidMk (fun y (hy : QS w0 y pr pq (some ⟨b, o, none⟩) L.length rc (i + 1, { x with h := 2 })) => q_next_yes HX.out hy hn)
      have HE := hidMk (show indexP L ms (i + 1, { x with h := 2 }) = if idxI ms u < 0 then .error (((i + 1 : Nat) : Int), 10) else .ok (i + 1 + 1, { x with h := 2, m := idxI ms u }) from by rw [HIN.out, hn])
      rw [HE.out]
      have HI1 := hidMk (nx_some hn).1
      have hwr2 : IntKind.i64.wrap ((i : Int) + 1 + 1) = (i : Int) + 1 + 1 := by rw [IntKind.wrap_i64]; omega
      obtain ⟨k, hk⟩ : ∃ k, idxI ms u = k := ⟨_, rfl⟩
      rw [hk]
      have HK := hidMk hk
      clear hn hk
      obtain ⟨R, hR⟩ : ∃ R : PR, (if k < 0 then .error (((i + 1 : Nat) : Int), 10) else .ok (i + 1 + 1, { x with h := 2, m := k })) = R := ⟨_, rfl⟩
      rw [hR]
      have HRR := hidMk hR
      clear hR
      go_enter Tryz.func52, Tryz.ntmps52
      go_wp2_with fail
      go_quiet (fail)
      go_wp2_with fail
      go_quiet (fail)
      go_wp2_with fail
      refine (HN.out _ (HST.out _ (by (repeat (first | (with_reducible exact Kept.refl _) | (with_reducible refine Kept.alloc ?_ _) | (with_reducible refine Kept.drew ?_) | (with_reducible refine Kept.drewN ?_ _)))))).mono ?_
      rintro e w2 ⟨wy, rfl, _, _, k2⟩
      have S2 := hidMk ((HST.out _ (by (repeat (first | (with_reducible exact Kept.refl _) | (with_reducible refine Kept.alloc ?_ _) | (with_reducible refine Kept.drew ?_) | (with_reducible refine Kept.drewN ?_ _))))).keep k2)
      have C2 := hidMk (chg_kept1 (HCH.out _ (by (repeat (first | (with_reducible exact Kept.refl _) | (with_reducible refine Kept.alloc ?_ _) | (with_reducible refine Kept.drew ?_) | (with_reducible refine Kept.drewN ?_ _))))) k2)
      have S3 := hidMk (fun ob => S2.out.keep ((Kept.refl w2).alloc ob))
      have z0 := fun ob => (S3.out ob).d
      have z2 := fun ob => (S3.out ob).at_
      have z11 : ∀ ob, (w2.alloc ob).cell? ⟨pr, 14, none⟩ = some (.int .i64 x.m) := fun ob => (S3.out ob).x 11 _ rfl
      have g14 := fun ob => (S3.out ob).fr 14 (by omega)
      have g2 := fun ob => (S3.out ob).fr 2 (by omega)
      obtain ⟨rt, hrd⟩ := HX.out.rd _ S2.out.kept
      obtain ⟨ma, mc, hm1, hm2⟩ := hrd.c1
      have zq := fun ob => ((Kept.refl w2).alloc ob).cellp hm1
      have HFI := hidMk (show ∀ y, Kept w2 y → _ from fun y hy => ref6_Find ma ms.length mc ms u y (hm2.kept hy))
      rw [HK.out] at HFI
      simp only at z2
      rw [Int.natCast_add] at z2
      clear k2 hrd hm1 hm2 q0 q1 q2 x10 x11 f13 f14 f2 y1
      go_wp2_with fail
      go_quiet ((go_at_call 54; exact Calls.quiet_of_same (HFI.out _ (((Kept.refl _).alloc _).drewN _))))
      by_cases hk0 : k < 0
      · have hkd : decide (k < 0) = true := by simpa using hk0
        have HR2 := HRR.out
        rw [if_pos hk0] at HR2
        subst HR2
        go_wp2_with fail
        go_ret
        exact ⟨chg_kept1 C2.out (by (repeat (first | (with_reducible exact Kept.refl _) | (with_reducible refine Kept.alloc ?_ _) | (with_reducible refine Kept.drew ?_) | (with_reducible refine Kept.drewN ?_ _)))), rfl, _, S2.out.keep (by (repeat (first | (with_reducible exact Kept.refl _) | (with_reducible refine Kept.alloc ?_ _) | (with_reducible refine Kept.drew ?_) | (with_reducible refine Kept.drewN ?_ _)))), rfl⟩
      · have hkd : decide (k < 0) = false := by simpa using hk0
        have HR2 := HRR.out
        rw [if_neg hk0] at HR2
        subst HR2
        go_wp2_with fail
        go_ret
        have h3 := (S2.out.keep (W' := (w2.alloc (.cells #[.int .i64 1, .string u, .int .i64 wy.p, .int .i64 (rdN u), .slice wy.a wy.m wy.c] 77)).drewN nq) (by (repeat (first | (with_reducible exact Kept.refl _) | (with_reducible refine Kept.alloc ?_ _) | (with_reducible refine Kept.drew ?_) | (with_reducible refine Kept.drewN ?_ _))))).step (o := 11) (x' := { x with h := 2, m := k }) (v := .int .i64 k) (by omega) rfl (by have := HI1.out; omega)
        rw [Int.natCast_add] at h3
        exact ⟨chg_step (chg_kept1 C2.out (by (repeat (first | (with_reducible exact Kept.refl _) | (with_reducible refine Kept.alloc ?_ _) | (with_reducible refine Kept.drew ?_) | (with_reducible refine Kept.drewN ?_ _))))) _ _ _, rfl, h3⟩
  have b0 : (t.toList == [101, 113, 117, 97, 108]) = false := by have h := bytes_neD h0; rwa [show (⟨#[101, 113, 117, 97, 108]⟩ : ByteArray).toList = [101, 113, 117, 97, 108] from by rw [ByteArray.toList_eq]] at h
  have b1 : (t.toList == [112, 114, 111, 112]) = false := by have h := bytes_neD h1; rwa [show (⟨#[112, 114, 111, 112]⟩ : ByteArray).toList = [112, 114, 111, 112] from by rw [ByteArray.toList_eq]] at h
  have b2 : (t.toList == [119, 101, 105, 103, 104, 116]) = false := by have h := bytes_neD h2; rwa [show (⟨#[119, 101, 105, 103, 104, 116]⟩ : ByteArray).toList = [119, 101, 105, 103, 104, 116] from by rw [ByteArray.toList_eq]] at h
  have HC := hidMk (ch_bad (ws := spW) (x := x) HIL.out (fun k hk => by
    rw [HT.out]
    rcases (by have : spW.length = 3 := rfl
               omega : k = 0 ∨ k = 1 ∨ k = 2) with rfl | rfl | rfl
    · exact h0
    · exact h1
    · exact h2))
  have HR := hidMk (show howP ms L (i, x) = .error ((i : Int), 6) from by unfold howP; rw [HC.out])
  rw [HR.out]
  clear h0 h1 h2
  show Calls _ _ _ _ (fun e w' => Chg (· = pr) W w' ∧ e = .returned (.int .i64 6) ∧ ∃ s', QS w0 w' pr pq (some ⟨b, o, none⟩) L.length rc s' ∧ (s'.1 : Int) = (i : Int))
  go_enter Tryz.func52, Tryz.ntmps52
  go_wp2_with fail
  go_quiet (fail)
  go_wp2_with fail
  go_quiet (fail)
  go_wp2_with fail
  go_ret
  exact ⟨Chg.of_kept (by (repeat (first | (with_reducible exact Kept.refl _) | (with_reducible refine Kept.alloc ?_ _) | (with_reducible refine Kept.drew ?_) | (with_reducible refine Kept.drewN ?_ _)))), rfl, _, HS.out.keep (by (repeat (first | (with_reducible exact Kept.refl _) | (with_reducible refine Kept.alloc ?_ _) | (with_reducible refine Kept.drew ?_) | (with_reducible refine Kept.drewN ?_ _)))), rfl⟩
end
end Go.Proofs.YtpehinmckppjoaaGreatDoor
