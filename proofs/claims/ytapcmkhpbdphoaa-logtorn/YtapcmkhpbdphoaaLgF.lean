/- log: the definition's Open of a new file; what the statements begin with. -/
import Derived.Test.YtapcmkhpbdphoaaLgE
import Derived.Test.YtapcmkhpbdphoaaRefBk1
namespace Go.Proofs.Ytapcmkhpbdphoaa
open Go.RowKit Go.Maps
set_option linter.unusedSimpArgs false
set_option linter.unusedVariables false

section
variable {w W : World} {B r : Nat} {v : Value} {gs cs : Nat → Nat} {u y m : Int}
theorem Rf.sh (h : Rf w B r v 8 gs cs (fun _ => List.replicate 32 0) false u y m) : ∃ g cap, v = .slice (some ⟨g, 0, none⟩) 8 cap ∧ ∀ k, k < 8 → w.cell? ⟨g, k, none⟩ = some (.slice (some ⟨gs k, 0, none⟩) 32 (cs k)) := by
  obtain ⟨g, cap, e, _, _, hc⟩ := h.rb.cell (by omega)
  exact ⟨g, cap, e, hc⟩
set_option maxRecDepth 100000 in
theorem r25_may (h : Rf w B r v 8 gs cs (fun _ => List.replicate 32 0) false u y m) (fr to : Nat) (h1 : fr < to) (h2 : to ≤ 8) : Calls Try.prog 52 #[.pointer (some ⟨r, 0, none⟩), .int .i64 (fr : Int), .int .i64 (to : Int)] w fun e w' => e = .returned (.int .i64 0) ∧ w' = w := by
  obtain ⟨g, cap, rfl, _⟩ := h.sh
  have c0 := h.c0
  have e1 : ¬ ((fr : Int) < 0) := by omega
  have e2 : ¬ ((to : Int) ≤ (fr : Int)) := by omega
  have e3 : ¬ ((8 : Int) < (to : Int)) := by omega
  clear h
  go_enter Try.func52, Try.ntmps52
  go_wp2_with fail
  go_ret
  exact ⟨rfl, rfl⟩
set_option maxHeartbeats 1000000 in
set_option maxRecDepth 100000 in
theorem r25_all (h : Rf w B r v 8 gs cs (fun _ => List.replicate 32 0) false u y m) (fr to : Nat) (h1 : fr < to) (h2 : to ≤ 8) : Calls Try.prog 54 #[.pointer (some ⟨r, 0, none⟩), .int .i64 (fr : Int), .int .i64 (to : Int)] w fun e w' => ∃ v, e = .returned v ∧ Owned w w' v (zs ((to - fr) * 32)) ∧ Kept w w' := by
  obtain ⟨g, cap, rfl, hc⟩ := h.sh
  have H := hidMk h
  have HC := hidMk hc
  have c0 := h.c0
  have H1 := hidMk h1
  have H2 := hidMk h2
  have hto : (to : Int) ≤ 8 := by omega
  clear h hc h1 h2
  go_enter Try.func54, Try.ntmps54
  go_wp2_with fail
  go_loopg [7, 8] (to - fr) (fun gg x z wr => ∃ (k j : Nat), k + gg = to - fr ∧ j = fr + k ∧ z = .int .i64 (j : Int) ∧ Hid (Owned w wr x (zs (k * 32)) ∧ Kept w wr))
  case atStart => exact ⟨0, fr, by omega, rfl, rfl, hidMk ⟨World.ownsRow_nil _ _ _ _, Kept.refl _⟩⟩
  case round =>
    obtain ⟨k, j, hkg, hj, rfl, HI⟩ := hrel
    have HKG := hidMk hkg
    have HJ := hidMk hj
    obtain ⟨sa, sc, hsv⟩ := HI.out.1.form
    rw [zs_len] at hsv
    subst hsv
    by_cases hlt : j < to
    · have hlt' : (j : Int) < (to : Int) := by omega
      have hj8 : (j : Int) < 8 := by omega
      have HK8 := hidMk (show k ≤ 8 by omega)
      have c1 := HI.out.2.cellp (HC.out j (by omega))
      have c0' := HI.out.2.cellp c0
      have HSL := hidMk (show Sl .u8 wr (some ⟨gs j, 0, none⟩) 32 (zs 32) from by
        have := ((H.out.rb.row j (by omega)).1.kept HI.out.2).sl 0 32 (by simp) (by unfold maxLen; omega)
        simpa [zs] using this)
      clear hkg hj
      go_wp2_with (at_builtin; refine wpList_appZ _ (by rfl) _ _ (by rfl) w _ (zs (k * 32)) (by rfl) HI.out.1 HI.out.2 (some ⟨gs j, 0, none⟩) 32 (cs j) (zs 32) (by rfl) HSL.out (fun e => (by cases e)) (by rw [zs_len]; have := HK8.out; omega) ?_; intro v6 w6 o6 k6; have O6 := hidMk o6; have K6 := hidMk k6; clear o6 k6)
      go_roundg (gk - 1)
      case measure => have := HKG.out; have := HJ.out; omega
      case rel => exact ⟨k + 1, j + 1, by have := HKG.out; have := HJ.out; omega, by have := HJ.out; omega, by go_num, hidMk ⟨by rw [show zs ((k + 1) * 32) = zs (k * 32) ++ zs 32 by unfold zs; rw [List.replicate_append_replicate]; congr 1; omega]; exact O6.out, K6.out⟩⟩
    · have hlt' : ¬ ((j : Int) < (to : Int)) := by omega
      have hkk : to - fr = k := by have := H1.out; omega
      have HKK := hidMk hkk
      clear hkg hj hkk
      go_wp2_with fail
      go_ret
      rw [HKK.out]
      exact ⟨_, rfl, HI.out.1, HI.out.2⟩
end
set_option maxRecDepth 100000 in
theorem r24_Get0 (b o n c : Nat) (l : List Int) (w : World) (hs : Sl .u8 w (some ⟨b, o, none⟩) n l) (hn : 0 < n) (h0 : l.getD 0 0 = 0) : Calls Try.prog 60 #[.slice (some ⟨b, o, none⟩) n c] w fun e w' => e = .returned (.tuple #[.slice none 0 0, .int .i64 0, .int .i64 10]) ∧ w' = w := by
  obtain ⟨b', o', e, _, hcs⟩ := hs.cells hn
  cases e
  have c0 := hcs 0 hn
  rw [h0, Nat.add_zero] at c0
  have hn1 : ((n : Int) == 0) = false := by simp; omega
  have hn2 : (0 : Int) < (n : Int) := by omega
  have hbig := hs.big
  unfold maxLen at hbig
  clear hs hcs h0
  go_enter Try.func60, Try.ntmps60
  go_wp2_with fail
  go_ret3
  exact ⟨rfl, rfl⟩
set_option maxRecDepth 100000 in
theorem r24_All0 (b o n c : Nat) (l : List Int) (w : World) (hs : Sl .u8 w (some ⟨b, o, none⟩) n l) (hn : 0 < n) (hc : n ≤ c) (hcm : c ≤ 9223372036854775807) (h0 : l.getD 0 0 = 0) : Calls Try.prog 53 #[.slice (some ⟨b, o, none⟩) n c] w fun e w' => e = .returned (.tuple #[.slice none 0 0, .int .i64 0]) ∧ w' = w := by
  have HG := hidMk (r24_Get0 b o n c l w hs hn h0)
  have hn2 : (0 : Int) < (n : Int) := by omega
  have hbig := hs.big
  unfold maxLen at hbig
  have hc0 : ¬ c = 0 := by omega
  clear hs h0
  go_enter Try.func53, Try.ntmps53
  go_wp2_with fail
  go_loopw [4, 5] (fun s u wr => s = .slice none 0 0 ∧ u = .int .i64 0 ∧ wr = w) (fun _ _ _ => 0)
  case atStart => exact ⟨rfl, rfl, rfl⟩
  case round =>
    obtain ⟨rfl, rfl, rfl⟩ := hrel
    go_wp2_with (go_at_call 60; refine HG.out.mono ?_; rintro e w1 ⟨rfl, rfl⟩)
    go_ret2
    exact ⟨rfl, rfl⟩
section
variable {w W : World} {B r : Nat} {v : Value} {gs cs : Nat → Nat} {u y m : Int}
set_option maxHeartbeats 1000000 in
set_option maxRecDepth 100000 in
theorem r25_Open (h : Rf w B r v 8 gs cs (fun _ => List.replicate 32 0) false u y m) (fr to : Nat) (h1 : fr < to) (h2 : to ≤ 8) : Calls Try.prog 39 #[.pointer (some ⟨r, 0, none⟩), .int .i64 (fr : Int), .int .i64 (to : Int)] w fun e w' => ∃ q : Nat, e = .returned (.tuple #[.pointer (some ⟨q, 0, none⟩), .int .i64 0]) ∧ Kept w w' := by
  have HM := hidMk (r25_may h fr to h1 h2)
  have HA := hidMk (show ∀ Y, Kept w Y → _ from fun Y kY => r25_all (h.kept kY) fr to h1 h2)
  have c1 := h.c1
  have HZ := hidMk (show 32 ≤ (to - fr) * 32 ∧ (to - fr) * 32 ≤ 256 by omega)
  generalize (to - fr) * 32 = L at *
  clear h h1 h2
  go_enter Try.func39, Try.ntmps39
  go_wp2_with (go_at_call 52; refine HM.out.mono ?_; rintro e w1 ⟨rfl, hw1⟩; rw [hw1]; clear hw1 w1)
  refine (HA.out _ ((Kept.refl w).alloc _)).mono ?_
  rintro e w2 ⟨v2, rfl, o2, k2⟩
  obtain ⟨g2, c2, rfl, _, _⟩ := owned_at o2 (by rw [zs_len]; have := HZ.out; omega)
  obtain ⟨m1, m2⟩ := own_cap o2
  rw [zs_len] at m1
  have HAL := hidMk (r24_All0 g2 0 L c2 (zs L) w2 (owned_slx (by rw [zs_len] at o2; exact o2) (zs_len L) (by have := HZ.out; unfold maxLen; omega)) (by have := HZ.out; omega) m1 m2 (zs_getD L 0))
  rw [zs_len]
  have HNB := hidMk (show ∀ i v, i < 6 → (w.alloc (.cells #[.pointer (some ⟨r, 0, none⟩), .int .i64 (fr : Int), .int .i64 (to : Int), .slice none 0 0, .int .i64 0, .bool false] 93)).cell? ⟨w.heap.size, i, none⟩ = some v → w2.cell? ⟨w.heap.size, i, none⟩ = some v from fun i v _ hv => k2.cellp hv)
  have y3 := HNB.out 3 (.slice none 0 0) (by omega) (by simp)
  have y4 := HNB.out 4 (.int .i64 0) (by omega) (by simp)
  have z3 : w2.frozen? ⟨w.heap.size, 3, none⟩ = false := (k2.frozen (p := ⟨w.heap.size, 3, none⟩) (by simp)).trans (by simp)
  have z4 : w2.frozen? ⟨w.heap.size, 4, none⟩ = false := (k2.frozen (p := ⟨w.heap.size, 4, none⟩) (by simp)).trans (by simp)
  have K2 := hidMk (show Kept w w2 from ((Kept.refl w).alloc _).trans k2)
  clear o2 k2 m1 m2 HNB
  go_wp2_with (go_at_call 53; refine HAL.out.mono ?_; rintro e w3 ⟨rfl, hw3⟩; rw [hw3]; clear hw3 w3)
  go_ret2
  exact ⟨_, rfl, (K2.out.setCell (Nat.le_refl _) _).setCell (Nat.le_refl _) _⟩
end
/-- The same log, of fewer. -/
theorem Lg.sub {w : World} {T T' : Nat → Prop} {p f d g K : Nat} {va : Option Addr} {vn vc : Nat} {qs : List Sv} {N fr to : Nat} {s : Bf} {rs : List (List Int)} (h : Lg w T p f d g K va vn vc qs N fr to s rs) (hs : ∀ j, T' j → T j) : Lg w T' p f d g K va vn vc qs N fr to s rs :=
  ⟨h.lc, h.fl, h.dt, h.cap, h.rz, h.rg, h.ok, h.le, h.ft, h.sok, h.off, h.ne, h.nv, h.nq, fun j hj => h.tb j (hs j hj), ⟨fun e => h.tp.1 (hs _ e), fun e => h.tp.2.1 (hs _ e), fun e => h.tp.2.2.1 (hs _ e), fun e => h.tp.2.2.2 (hs _ e)⟩, fun k hk e => h.tv k hk (hs _ e), fun q hq ad e e2 => h.tq q hq ad e (hs _ e2)⟩
/-- What others do in their own blocks. -/
theorem Lg.oth {w W : World} {T : Nat → Prop} {p f d g K : Nat} {va : Option Addr} {vn vc : Nat} {qs : List Sv} {N fr to : Nat} {s : Bf} {rs : List (List Int)} (h : Lg w T p f d g K va vn vc qs N fr to s rs) (k : Chg T w W) : Lg W T p f d g K va vn vc qs N fr to s rs := (h.more k).sub (fun _ e => .inl e)
/-- A play: its file, its log. -/
def OpP (w : World) (T : Nat → Prop) (pp f d fr to : Nat) (e : Ending) (w' : World) : Prop := ∃ p g K va vn vc qs, e = .returned (.bool true) ∧ w'.cell? ⟨pp, 0, none⟩ = some (.pointer (some ⟨f, 0, none⟩)) ∧ w'.cell? ⟨pp, 1, none⟩ = some (.pointer (some ⟨p, 0, none⟩)) ∧ Lg w' T p f d g K va vn vc qs 8 fr to (zst 8 0) [] ∧ Chg (fun j => j = pp) w w'
set_option maxHeartbeats 1000000 in
set_option maxRecDepth 100000 in
theorem law25_open {w : World} {T : Nat → Prop} {pp f d fr to : Nat} {B r : Nat} {v : Value} {gs cs : Nat → Nat} {u y m : Int} {x1 x3 : Value} (hF : Fl w f d 8 (zst 8 0)) (hR : Rf w B r v 8 gs cs (fun _ => List.replicate 32 0) false u y m) (hfr : fr < to) (hto : to ≤ 8) (hT : ∀ j, T j → j < w.heap.size) (hTf : ¬ T f ∧ ¬ T d) (hTp : T pp)
    (hp : w.cell? ⟨pp, 0, none⟩ = some (.pointer (some ⟨f, 0, none⟩)) ∧ w.cell? ⟨pp, 1, none⟩ = some x1 ∧ w.cell? ⟨pp, 2, none⟩ = some (.pointer (some ⟨r, 0, none⟩)) ∧ w.cell? ⟨pp, 3, none⟩ = some x3 ∧ w.cell? ⟨pp, 4, none⟩ = some (.int .i64 (fr : Int)) ∧ w.cell? ⟨pp, 5, none⟩ = some (.int .i64 (to : Int)) ∧ ∀ i, i < 6 → w.frozen? ⟨pp, i, none⟩ = false) :
    Calls Try.prog 22 #[.pointer (some ⟨pp, 0, none⟩)] w fun e w' => OpP w T pp f d fr to e w' := by
  have HREG := hidMk (show reg (zst 8 0).F fr to = logB ((to - fr) * 32) [] from by
    rw [logB_zero]
    show (List.drop (fr * 32) (zs 256)).take ((to - fr) * 32) = _
    rw [zs_drop, zs_take (by omega)])
  have HOP := hidMk (log_Open (hF.kept (Kept.refl w).drew) rfl fr to hfr hto (by omega) [] 0 (by rw [HREG.out]; exact logB_all (rs := []) (by simp)))
  have HLO := hidMk (fun e w' h => lg_open (e := e) (w' := w') (T := T) (rs := []) (hF.kept (Kept.refl w).drew) (zst_ok 8 0) rfl hfr hto (by omega) (by simp) (by simp [catR]) HREG.out hT hTf h)
  have HR := hidMk hR
  have HP := hidMk hp
  have HTP := hidMk hTp
  clear hF hR hTf hT hp hTp
  go_enter Try.func22, Try.ntmps22
  go_wp2_with fail
  refine wp_region_held_drew (S := (fun w9 => w9.cell? ⟨pp, 0, none⟩ = some (.pointer (some ⟨f, 0, none⟩)) ∧ w9.cell? ⟨pp, 4, none⟩ = some (.int .i64 (fr : Int)) ∧ w9.cell? ⟨pp, 5, none⟩ = some (.int .i64 (to : Int)))) (by kernel_rfl) ?_ (fun hHeld => ?_)
  · exact ⟨HP.out.1, HP.out.2.2.2.2.1, HP.out.2.2.2.2.2.1⟩
  refine wpAnyH_take (i := 0) (oi := { dst := some 8, op := _, type := _, pos := _, after := _, guard := _ }) (v := ?_) rfl (by kernel_rfl) (by kernel_rfl) (by kernel_rfl) (fun _ _ _ h => h) (Or.inl ⟨by rfl, ?_⟩) (by assumption) ?_
  rotate_left
  · (intro w9 hSw; (try dsimp only at hSw); obtain ⟨s0, s4, s5⟩ := hSw; go_simp; (try with_reducible rfl))
  (try simp only [Act.put, List.setIfInBounds_toArray, List.set_cons_zero, List.set_cons_succ])
  refine wpAnyH_take (i := 1) (oi := { dst := some 9, op := _, type := _, pos := _, after := _, guard := _ }) (v := ?_) rfl (by kernel_rfl) (by kernel_rfl) (by kernel_rfl) (fun _ _ _ h => h) (Or.inl ⟨by rfl, ?_⟩) (by assumption) ?_
  rotate_left
  · (intro w9 hSw; (try dsimp only at hSw); obtain ⟨s0, s4, s5⟩ := hSw; go_simp; (try with_reducible rfl))
  (try simp only [Act.put, List.setIfInBounds_toArray, List.set_cons_zero, List.set_cons_succ])
  refine wpAnyH_take (i := 2) (oi := { dst := some 10, op := _, type := _, pos := _, after := _, guard := _ }) (v := ?_) rfl (by kernel_rfl) (by kernel_rfl) (by kernel_rfl) (fun _ _ _ h => h) (Or.inl ⟨by rfl, ?_⟩) (by assumption) ?_
  rotate_left
  · (intro w9 hSw; (try dsimp only at hSw); obtain ⟨s0, s4, s5⟩ := hSw; go_simp; (try with_reducible rfl))
  (try simp only [Act.put, List.setIfInBounds_toArray, List.set_cons_zero, List.set_cons_succ])
  refine wpAnyH_take (i := 3) (oi := { dst := some 11, op := _, type := _, pos := _, after := _, guard := _ }) (v := ?_) rfl (by kernel_rfl) (by kernel_rfl) (by kernel_rfl) (fun _ _ _ h => h) (Or.inl ⟨by rfl, ?_⟩) (by assumption) ?_
  rotate_left
  · (intro w9 hSw; (try dsimp only at hSw); obtain ⟨s0, s4, s5⟩ := hSw; go_simp; (try with_reducible rfl))
  (try simp only [Act.put, List.setIfInBounds_toArray, List.set_cons_zero, List.set_cons_succ])
  refine wpAnyH_take (i := 4) (oi := { dst := some 12, op := _, type := _, pos := _, after := _, guard := _ }) (v := ?_) rfl (by kernel_rfl) (by kernel_rfl) (by kernel_rfl) (fun _ _ _ h => h) (Or.inl ⟨by rfl, ?_⟩) (by assumption) ?_
  rotate_left
  · (intro w9 hSw; (try dsimp only at hSw); obtain ⟨s0, s4, s5⟩ := hSw; go_simp; (try with_reducible rfl))
  (try simp only [Act.put, List.setIfInBounds_toArray, List.set_cons_zero, List.set_cons_succ])
  refine wpAnyH_take (i := 5) (oi := { dst := some 13, op := _, type := _, pos := _, after := _, guard := _ }) (v := ?_) rfl (by kernel_rfl) (by kernel_rfl) (by kernel_rfl) (fun _ _ _ h => h) (Or.inl ⟨by rfl, ?_⟩) (by assumption) ?_
  rotate_left
  · (intro w9 hSw; (try dsimp only at hSw); obtain ⟨s0, s4, s5⟩ := hSw; go_simp; (try with_reducible rfl))
  (try simp only [Act.put, List.setIfInBounds_toArray, List.set_cons_zero, List.set_cons_succ])
  refine wpAnyH_take (i := 6) (oi := { dst := some 14, op := _, type := _, pos := _, after := _, guard := _ }) (v := ?_) rfl (by kernel_rfl) (by kernel_rfl) (by kernel_rfl) (fun _ _ _ h => h) (Or.inl ⟨by rfl, ?_⟩) (by assumption) ?_
  rotate_left
  · (intro w9 hSw; (try dsimp only at hSw); obtain ⟨s0, s4, s5⟩ := hSw; go_simp; (try with_reducible rfl))
  (try simp only [Act.put, List.setIfInBounds_toArray, List.set_cons_zero, List.set_cons_succ])
  refine wpAnyH_take (i := 7) (oi := { dst := some 15, op := _, type := _, pos := _, after := _, guard := _ }) (v := ?_) rfl (by kernel_rfl) (by kernel_rfl) (by kernel_rfl) (fun _ _ _ h => h) (Or.inl ⟨by rfl, ?_⟩) (by assumption) ?_
  rotate_left
  · (intro w9 hSw; (try dsimp only at hSw); obtain ⟨s0, s4, s5⟩ := hSw; go_simp; (try with_reducible rfl))
  (try simp only [Act.put, List.setIfInBounds_toArray, List.set_cons_zero, List.set_cons_succ])
  refine wpAnyH_take (i := 8) (oi := { dst := some 16, op := _, type := _, pos := _, after := _, guard := _ }) (v := ?_) rfl (by kernel_rfl) (by kernel_rfl) (by kernel_rfl) (fun _ _ _ h => h) (Or.inl ⟨by rfl, ?_⟩) (by assumption) ?_
  rotate_left
  · (intro w9 hSw; (try dsimp only at hSw); obtain ⟨s0, s4, s5⟩ := hSw; go_simp; (try with_reducible rfl))
  (try simp only [Act.put, List.setIfInBounds_toArray, List.set_cons_zero, List.set_cons_succ])
  refine wpAnyH_take (i := 9) (oi := { dst := some 17, op := _, type := _, pos := _, after := _, guard := _ }) (v := ?_) rfl (by kernel_rfl) (by kernel_rfl) (by kernel_rfl) (fun _ _ _ h => h) (Or.inl ⟨by rfl, ?_⟩) (by assumption) ?_
  rotate_left
  · (intro w9 hSw; (try dsimp only at hSw); obtain ⟨s0, s4, s5⟩ := hSw; go_simp; (try with_reducible rfl))
  (try simp only [Act.put, List.setIfInBounds_toArray, List.set_cons_zero, List.set_cons_succ])
  refine wpAnyH_take (i := 10) (oi := { dst := some 18, op := _, type := _, pos := _, after := _, guard := _ }) (v := ?_) rfl (by kernel_rfl) (by kernel_rfl) (by kernel_rfl) (fun _ _ _ h => h) (Or.inl ⟨by rfl, ?_⟩) (by assumption) ?_
  rotate_left
  · (intro w9 hSw; (try dsimp only at hSw); obtain ⟨s0, s4, s5⟩ := hSw; go_simp; (try with_reducible rfl))
  (try simp only [Act.put, List.setIfInBounds_toArray, List.set_cons_zero, List.set_cons_succ])
  refine wpAnyH_take (i := 11) (oi := { dst := some 19, op := _, type := _, pos := _, after := _, guard := _ }) (v := ?_) rfl (by kernel_rfl) (by kernel_rfl) (by kernel_rfl) (fun _ _ _ h => h) (Or.inl ⟨by rfl, ?_⟩) (by assumption) ?_
  rotate_left
  · (intro w9 hSw; (try dsimp only at hSw); obtain ⟨s0, s4, s5⟩ := hSw; go_simp; (try with_reducible rfl))
  (try simp only [Act.put, List.setIfInBounds_toArray, List.set_cons_zero, List.set_cons_succ])
  refine wpAnyH_ready (rs := [12]) (by kernel_rfl) (by simp) ?_
  refine AllReadyH.cons (o := { dst := some 20, op := _, type := _, pos := _, after := _, guard := _ }) rfl (fun K hK => ?_) AllReadyH.nil
  go_simp
  refine HOP.out.mono ?_
  intro e w3 h3
  obtain ⟨p, g, Kc, va, vn, vc, qs, rfl, hp3, lg3, k3⟩ := HLO.out e w3 h3
  have LG3 := hidMk lg3
  have K3 := hidMk (show Kept w w3 from (Kept.refl w).drew.trans k3)
  clear h3 lg3 k3
  (try go_wp2_with fail)
  refine hK.out _ _ ?_ (fun hHeld => ?_)
  · exact ⟨K3.out.cellp HP.out.1, K3.out.cellp HP.out.2.2.2.2.1, K3.out.cellp HP.out.2.2.2.2.2.1⟩
  clear hK K
  (try simp only [Act.put, List.setIfInBounds_toArray, List.set_cons_zero, List.set_cons_succ])
  refine wpAnyH_take (i := 13) (oi := { dst := some 7, op := _, type := _, pos := _, after := _, guard := _ }) (v := ?_) rfl (by kernel_rfl) (by kernel_rfl) (by kernel_rfl) (fun _ _ _ h => h) (Or.inl ⟨by rfl, ?_⟩) (by assumption) ?_
  rotate_left
  · (intro w9 hSw; (try dsimp only at hSw); obtain ⟨s0, s4, s5⟩ := hSw; go_simp; (try with_reducible rfl))
  (try simp only [Act.put, List.setIfInBounds_toArray, List.set_cons_zero, List.set_cons_succ])
  refine wpAnyH_take (i := 14) (oi := { dst := some 21, op := _, type := _, pos := _, after := _, guard := _ }) (v := ?_) rfl (by kernel_rfl) (by kernel_rfl) (by kernel_rfl) (fun _ _ _ h => h) (Or.inl ⟨by rfl, ?_⟩) (by assumption) ?_
  rotate_left
  · (intro w9 hSw; (try dsimp only at hSw); obtain ⟨s0, s4, s5⟩ := hSw; go_simp; (try with_reducible rfl))
  (try simp only [Act.put, List.setIfInBounds_toArray, List.set_cons_zero, List.set_cons_succ])
  refine wpAnyH_take (i := 15) (oi := { dst := some 22, op := _, type := _, pos := _, after := _, guard := _ }) (v := ?_) rfl (by kernel_rfl) (by kernel_rfl) (by kernel_rfl) (fun _ _ _ h => h) (Or.inl ⟨by rfl, ?_⟩) (by assumption) ?_
  rotate_left
  · (intro w9 hSw; (try dsimp only at hSw); obtain ⟨s0, s4, s5⟩ := hSw; go_simp; (try with_reducible rfl))
  (try simp only [Act.put, List.setIfInBounds_toArray, List.set_cons_zero, List.set_cons_succ])
  refine wpAnyH_take (i := 16) (oi := { dst := some 3, op := _, type := _, pos := _, after := _, guard := _ }) (v := ?_) rfl (by kernel_rfl) (by kernel_rfl) (by kernel_rfl) (fun _ _ _ h => h) (Or.inl ⟨by rfl, ?_⟩) (by assumption) ?_
  rotate_left
  · (intro w9 hSw; (try dsimp only at hSw); obtain ⟨s0, s4, s5⟩ := hSw; go_simp; (try with_reducible rfl))
  (try simp only [Act.put, List.setIfInBounds_toArray, List.set_cons_zero, List.set_cons_succ])
  refine wpAnyH_take (i := 17) (oi := { dst := some 4, op := _, type := _, pos := _, after := _, guard := _ }) (v := ?_) rfl (by kernel_rfl) (by kernel_rfl) (by kernel_rfl) (fun _ _ _ h => h) (Or.inl ⟨by rfl, ?_⟩) (by assumption) ?_
  rotate_left
  · (intro w9 hSw; (try dsimp only at hSw); obtain ⟨s0, s4, s5⟩ := hSw; go_simp; (try with_reducible rfl))
  (try simp only [Act.put, List.setIfInBounds_toArray, List.set_cons_zero, List.set_cons_succ])
  refine wpAnyH_done (by kernel_rfl) ?_ _
  go_wp2_with fail
  refine wp_region_held_drew (S := (fun w9 => w9.cell? ⟨pp, 2, none⟩ = some (.pointer (some ⟨r, 0, none⟩)) ∧ w9.cell? ⟨pp, 4, none⟩ = some (.int .i64 (fr : Int)) ∧ w9.cell? ⟨pp, 5, none⟩ = some (.int .i64 (to : Int)))) (by kernel_rfl) ?_ (fun hHeld => ?_)
  · exact ⟨K3.out.drew.cellp HP.out.2.2.1, K3.out.drew.cellp HP.out.2.2.2.2.1, K3.out.drew.cellp HP.out.2.2.2.2.2.1⟩
  refine wpAnyH_take (i := 0) (oi := { dst := some 24, op := _, type := _, pos := _, after := _, guard := _ }) (v := ?_) rfl (by kernel_rfl) (by kernel_rfl) (by kernel_rfl) (fun _ _ _ h => h) (Or.inl ⟨by rfl, ?_⟩) (by assumption) ?_
  rotate_left
  · (intro w9 hSw; (try dsimp only at hSw); obtain ⟨s0, s4, s5⟩ := hSw; go_simp; (try with_reducible rfl))
  (try simp only [Act.put, List.setIfInBounds_toArray, List.set_cons_zero, List.set_cons_succ])
  refine wpAnyH_take (i := 1) (oi := { dst := some 25, op := _, type := _, pos := _, after := _, guard := _ }) (v := ?_) rfl (by kernel_rfl) (by kernel_rfl) (by kernel_rfl) (fun _ _ _ h => h) (Or.inl ⟨by rfl, ?_⟩) (by assumption) ?_
  rotate_left
  · (intro w9 hSw; (try dsimp only at hSw); obtain ⟨s0, s4, s5⟩ := hSw; go_simp; (try with_reducible rfl))
  (try simp only [Act.put, List.setIfInBounds_toArray, List.set_cons_zero, List.set_cons_succ])
  refine wpAnyH_take (i := 2) (oi := { dst := some 26, op := _, type := _, pos := _, after := _, guard := _ }) (v := ?_) rfl (by kernel_rfl) (by kernel_rfl) (by kernel_rfl) (fun _ _ _ h => h) (Or.inl ⟨by rfl, ?_⟩) (by assumption) ?_
  rotate_left
  · (intro w9 hSw; (try dsimp only at hSw); obtain ⟨s0, s4, s5⟩ := hSw; go_simp; (try with_reducible rfl))
  (try simp only [Act.put, List.setIfInBounds_toArray, List.set_cons_zero, List.set_cons_succ])
  refine wpAnyH_take (i := 3) (oi := { dst := some 27, op := _, type := _, pos := _, after := _, guard := _ }) (v := ?_) rfl (by kernel_rfl) (by kernel_rfl) (by kernel_rfl) (fun _ _ _ h => h) (Or.inl ⟨by rfl, ?_⟩) (by assumption) ?_
  rotate_left
  · (intro w9 hSw; (try dsimp only at hSw); obtain ⟨s0, s4, s5⟩ := hSw; go_simp; (try with_reducible rfl))
  (try simp only [Act.put, List.setIfInBounds_toArray, List.set_cons_zero, List.set_cons_succ])
  refine wpAnyH_take (i := 4) (oi := { dst := some 28, op := _, type := _, pos := _, after := _, guard := _ }) (v := ?_) rfl (by kernel_rfl) (by kernel_rfl) (by kernel_rfl) (fun _ _ _ h => h) (Or.inl ⟨by rfl, ?_⟩) (by assumption) ?_
  rotate_left
  · (intro w9 hSw; (try dsimp only at hSw); obtain ⟨s0, s4, s5⟩ := hSw; go_simp; (try with_reducible rfl))
  (try simp only [Act.put, List.setIfInBounds_toArray, List.set_cons_zero, List.set_cons_succ])
  refine wpAnyH_take (i := 5) (oi := { dst := some 29, op := _, type := _, pos := _, after := _, guard := _ }) (v := ?_) rfl (by kernel_rfl) (by kernel_rfl) (by kernel_rfl) (fun _ _ _ h => h) (Or.inl ⟨by rfl, ?_⟩) (by assumption) ?_
  rotate_left
  · (intro w9 hSw; (try dsimp only at hSw); obtain ⟨s0, s4, s5⟩ := hSw; go_simp; (try with_reducible rfl))
  (try simp only [Act.put, List.setIfInBounds_toArray, List.set_cons_zero, List.set_cons_succ])
  refine wpAnyH_take (i := 6) (oi := { dst := some 30, op := _, type := _, pos := _, after := _, guard := _ }) (v := ?_) rfl (by kernel_rfl) (by kernel_rfl) (by kernel_rfl) (fun _ _ _ h => h) (Or.inl ⟨by rfl, ?_⟩) (by assumption) ?_
  rotate_left
  · (intro w9 hSw; (try dsimp only at hSw); obtain ⟨s0, s4, s5⟩ := hSw; go_simp; (try with_reducible rfl))
  (try simp only [Act.put, List.setIfInBounds_toArray, List.set_cons_zero, List.set_cons_succ])
  refine wpAnyH_take (i := 7) (oi := { dst := some 31, op := _, type := _, pos := _, after := _, guard := _ }) (v := ?_) rfl (by kernel_rfl) (by kernel_rfl) (by kernel_rfl) (fun _ _ _ h => h) (Or.inl ⟨by rfl, ?_⟩) (by assumption) ?_
  rotate_left
  · (intro w9 hSw; (try dsimp only at hSw); obtain ⟨s0, s4, s5⟩ := hSw; go_simp; (try with_reducible rfl))
  (try simp only [Act.put, List.setIfInBounds_toArray, List.set_cons_zero, List.set_cons_succ])
  refine wpAnyH_take (i := 8) (oi := { dst := some 32, op := _, type := _, pos := _, after := _, guard := _ }) (v := ?_) rfl (by kernel_rfl) (by kernel_rfl) (by kernel_rfl) (fun _ _ _ h => h) (Or.inl ⟨by rfl, ?_⟩) (by assumption) ?_
  rotate_left
  · (intro w9 hSw; (try dsimp only at hSw); obtain ⟨s0, s4, s5⟩ := hSw; go_simp; (try with_reducible rfl))
  (try simp only [Act.put, List.setIfInBounds_toArray, List.set_cons_zero, List.set_cons_succ])
  refine wpAnyH_take (i := 9) (oi := { dst := some 33, op := _, type := _, pos := _, after := _, guard := _ }) (v := ?_) rfl (by kernel_rfl) (by kernel_rfl) (by kernel_rfl) (fun _ _ _ h => h) (Or.inl ⟨by rfl, ?_⟩) (by assumption) ?_
  rotate_left
  · (intro w9 hSw; (try dsimp only at hSw); obtain ⟨s0, s4, s5⟩ := hSw; go_simp; (try with_reducible rfl))
  (try simp only [Act.put, List.setIfInBounds_toArray, List.set_cons_zero, List.set_cons_succ])
  refine wpAnyH_take (i := 10) (oi := { dst := some 34, op := _, type := _, pos := _, after := _, guard := _ }) (v := ?_) rfl (by kernel_rfl) (by kernel_rfl) (by kernel_rfl) (fun _ _ _ h => h) (Or.inl ⟨by rfl, ?_⟩) (by assumption) ?_
  rotate_left
  · (intro w9 hSw; (try dsimp only at hSw); obtain ⟨s0, s4, s5⟩ := hSw; go_simp; (try with_reducible rfl))
  (try simp only [Act.put, List.setIfInBounds_toArray, List.set_cons_zero, List.set_cons_succ])
  refine wpAnyH_take (i := 11) (oi := { dst := some 35, op := _, type := _, pos := _, after := _, guard := _ }) (v := ?_) rfl (by kernel_rfl) (by kernel_rfl) (by kernel_rfl) (fun _ _ _ h => h) (Or.inl ⟨by rfl, ?_⟩) (by assumption) ?_
  rotate_left
  · (intro w9 hSw; (try dsimp only at hSw); obtain ⟨s0, s4, s5⟩ := hSw; go_simp; (try with_reducible rfl))
  (try simp only [Act.put, List.setIfInBounds_toArray, List.set_cons_zero, List.set_cons_succ])
  refine wpAnyH_ready (rs := [12]) (by kernel_rfl) (by simp) ?_
  refine AllReadyH.cons (o := { dst := some 36, op := _, type := _, pos := _, after := _, guard := _ }) rfl (fun K hK => ?_) AllReadyH.nil
  go_simp
  refine (r25_Open (HR.out.kept (K3.out.drew)) fr to hfr hto).mono ?_
  rintro e w4 ⟨rq, rfl, k4⟩
  have K4 := hidMk (show Kept w3 w4 from (Kept.refl w3).drew.trans k4)
  clear k4
  (try go_wp2_with fail)
  refine hK.out _ _ ?_ (fun hHeld => ?_)
  · exact ⟨(K3.out.trans K4.out).cellp HP.out.2.2.1, (K3.out.trans K4.out).cellp HP.out.2.2.2.2.1, (K3.out.trans K4.out).cellp HP.out.2.2.2.2.2.1⟩
  clear hK K
  (try simp only [Act.put, List.setIfInBounds_toArray, List.set_cons_zero, List.set_cons_succ])
  refine wpAnyH_take (i := 13) (oi := { dst := some 23, op := _, type := _, pos := _, after := _, guard := _ }) (v := ?_) rfl (by kernel_rfl) (by kernel_rfl) (by kernel_rfl) (fun _ _ _ h => h) (Or.inl ⟨by rfl, ?_⟩) (by assumption) ?_
  rotate_left
  · (intro w9 hSw; (try dsimp only at hSw); obtain ⟨s0, s4, s5⟩ := hSw; go_simp; (try with_reducible rfl))
  (try simp only [Act.put, List.setIfInBounds_toArray, List.set_cons_zero, List.set_cons_succ])
  refine wpAnyH_take (i := 14) (oi := { dst := some 37, op := _, type := _, pos := _, after := _, guard := _ }) (v := ?_) rfl (by kernel_rfl) (by kernel_rfl) (by kernel_rfl) (fun _ _ _ h => h) (Or.inl ⟨by rfl, ?_⟩) (by assumption) ?_
  rotate_left
  · (intro w9 hSw; (try dsimp only at hSw); obtain ⟨s0, s4, s5⟩ := hSw; go_simp; (try with_reducible rfl))
  (try simp only [Act.put, List.setIfInBounds_toArray, List.set_cons_zero, List.set_cons_succ])
  refine wpAnyH_take (i := 15) (oi := { dst := some 38, op := _, type := _, pos := _, after := _, guard := _ }) (v := ?_) rfl (by kernel_rfl) (by kernel_rfl) (by kernel_rfl) (fun _ _ _ h => h) (Or.inl ⟨by rfl, ?_⟩) (by assumption) ?_
  rotate_left
  · (intro w9 hSw; (try dsimp only at hSw); obtain ⟨s0, s4, s5⟩ := hSw; go_simp; (try with_reducible rfl))
  (try simp only [Act.put, List.setIfInBounds_toArray, List.set_cons_zero, List.set_cons_succ])
  refine wpAnyH_take (i := 16) (oi := { dst := some 5, op := _, type := _, pos := _, after := _, guard := _ }) (v := ?_) rfl (by kernel_rfl) (by kernel_rfl) (by kernel_rfl) (fun _ _ _ h => h) (Or.inl ⟨by rfl, ?_⟩) (by assumption) ?_
  rotate_left
  · (intro w9 hSw; (try dsimp only at hSw); obtain ⟨s0, s4, s5⟩ := hSw; go_simp; (try with_reducible rfl))
  (try simp only [Act.put, List.setIfInBounds_toArray, List.set_cons_zero, List.set_cons_succ])
  refine wpAnyH_take (i := 17) (oi := { dst := some 6, op := _, type := _, pos := _, after := _, guard := _ }) (v := ?_) rfl (by kernel_rfl) (by kernel_rfl) (by kernel_rfl) (fun _ _ _ h => h) (Or.inl ⟨by rfl, ?_⟩) (by assumption) ?_
  rotate_left
  · (intro w9 hSw; (try dsimp only at hSw); obtain ⟨s0, s4, s5⟩ := hSw; go_simp; (try with_reducible rfl))
  (try simp only [Act.put, List.setIfInBounds_toArray, List.set_cons_zero, List.set_cons_succ])
  refine wpAnyH_done (by kernel_rfl) ?_ _
  obtain ⟨p0, p1, p2, p3, p4, p5, pf⟩ := HP.out
  have kk := K3.out.trans K4.out
  have y0 := kk.cellp p0
  have y1 := kk.cellp p1
  have y3 := kk.cellp p3
  have hlt : pp < w.heap.size := cell_lt p0
  have z1 := (kk.frozen (p := ⟨pp, 1, none⟩) hlt).trans (pf 1 (by omega))
  have z3 := (kk.frozen (p := ⟨pp, 3, none⟩) hlt).trans (pf 3 (by omega))
  have HC := hidMk (show Chg (fun j => j = pp) w w4 from Chg.of_kept kk)
  have LG4 := hidMk (LG3.out.kept K4.out)
  clear kk pf p0 p1 p2 p3 p4 p5
  go_wp2_with fail
  go_ret
  have hc2 : Chg (fun j => j = pp) w4 ((w4.setCell ⟨pp, 1, none⟩ (.pointer (some ⟨p, 0, none⟩))).setCell ⟨pp, 3, none⟩ (.pointer (some ⟨rq, 0, none⟩))) := ((Chg.refl (fun j => j = pp) _).own 1 _).own 3 _
  refine ⟨p, g, Kc, va, vn, vc, qs, rfl, so (so y0 (by simp)) (by simp), so (World.cell?_setCell_same _ _ _ y1) (by simp), LG4.out.oth (hc2.mono (fun j _ e => by subst e; exact HTP.out)), HC.out.trans hc2⟩
/-- What the statements begin with: a play, its file and its log. -/
def BegP (w : World) (fr to : Nat) (e : Ending) (w' : World) : Prop := ∃ pp f d p g K va vn vc qs, e = .returned (.pointer (some ⟨pp, 0, none⟩)) ∧ w'.cell? ⟨pp, 0, none⟩ = some (.pointer (some ⟨f, 0, none⟩)) ∧ w'.cell? ⟨pp, 1, none⟩ = some (.pointer (some ⟨p, 0, none⟩)) ∧ Lg w' (fun j => j < w.heap.size ∨ j = pp) p f d g K va vn vc qs 8 fr to (zst 8 0) [] ∧ w.heap.size ≤ pp ∧ Kept w w'
set_option maxHeartbeats 1000000 in
set_option maxRecDepth 100000 in
theorem law25_begin (w : World) (fr to : Nat) (hfr : fr < to) (hto : to ≤ 8) : Calls Try.prog 6 #[.int .i64 (fr : Int), .int .i64 (to : Int)] w fun e w' => BegP w fr to e w' := by
  go_enter Try.func6, Try.ntmps6
  go_wp2_with fail
  refine (bk_New 8 w).mono ?_
  intro e w1 h1
  rw [if_pos (by omega)] at h1
  obtain ⟨f, d, rfl, hf, hd, f1, q1⟩ := h1
  have F1 := hidMk (show Fl w1 f d 8 (zst 8 0) from f1)
  have Q1 := hidMk q1
  have HFD := hidMk (show w.heap.size ≤ f ∧ w.heap.size ≤ d from ⟨hf, hd⟩)
  clear f1 q1 hf hd
  go_wp2_with fail
  refine (r23_New 8 (by omega) (by omega) w1).mono ?_
  rintro e w2 ⟨rv, gs, cs, rfl, r2, k2⟩
  have R2 := hidMk r2
  have F2 := hidMk (F1.out.kept k2)
  have Q2 := hidMk (Q1.out.trans k2)
  generalize w1.heap.size = rr at *
  clear r2 k2 F1 Q1
  go_wp2_with fail
  have kA : Kept w2 (w2.alloc (.cells #[.pointer (some ⟨f, 0, none⟩), .pointer none, .pointer (some ⟨rr, 0, none⟩), .pointer none, .int .i64 (fr : Int), .int .i64 (to : Int)] 31)) := (Kept.refl w2).alloc _
  refine (law25_open (x1 := .pointer none) (x3 := .pointer none) (T := fun j => j < w.heap.size ∨ j = w2.heap.size) (F2.out.kept kA) (R2.out.kept kA) hfr hto (fun j hj => ?_) ⟨?_, ?_⟩ (.inr rfl) ⟨by simp, by simp, by simp, by simp, by simp, by simp, fun i hi => by simp⟩).mono ?_
  · have := Q2.out.size
    rw [World.size_alloc]
    omega
  · have := HFD.out
    have := F2.out.lt
    omega
  · have := HFD.out
    have := F2.out.dt.lt
    omega
  rintro e w3 ⟨p, g, Kc, va, vn, vc, qs, rfl, y0, y1, lg, c3⟩
  have LG := hidMk lg
  have HY0 := hidMk y0
  have HK := hidMk (show Kept w w3 from Chg.kept (Q2.out.trans kA) c3 (fun j e => by subst e; exact Q2.out.size))
  clear lg c3 kA y0
  go_wp2_with fail
  go_ret
  exact ⟨w2.heap.size, f, d, p, g, Kc, va, vn, vc, qs, rfl, HY0.out, y1, LG.out, Q2.out.size, HK.out⟩
end Go.Proofs.Ytapcmkhpbdphoaa
