/- The definition's New. -/
import Derived.Test.YtbhojgodkblflaaRefTree2B
namespace Go.Proofs.Ytbhojgodkblflaa
open Go.RowKit Go.Maps
set_option linter.unusedSimpArgs false
set_option linter.unusedVariables false

def NewPostR (w : World) (l : List Nd) (e : Ending) (w' : World) : Prop :=
  (∃ p, w.heap.size ≤ p ∧ e = .returned (.tuple #[.pointer (some ⟨p, 0, none⟩), .int .i64 0, .int .i64 0]) ∧ NewIs l 0 0 ∧ RT w' p l ∧ Kept w w') ∨
  ∃ at_ er, e = .returned (.tuple #[.pointer none, .int .i64 at_, .int .i64 er]) ∧ er ≠ 0 ∧ NewIs l at_ er ∧ Kept w w'
def nodeV (l : List Nd) (j : Nat) : Value := if j % 2 = 0 then .string (nmA l (j / 2)) else .int .i64 (upA l (j / 2))
def nodeVs (l : List Nd) : List Value := (List.range (l.length * 2)).map (nodeV l)
theorem nodeVs_len (l : List Nd) : (nodeVs l).length = l.length * 2 := by simp [nodeVs]
theorem nodeVs_get (l : List Nd) (j : Nat) (h : j < l.length * 2) : (nodeVs l)[j]? = some (nodeV l j) := by simp [nodeVs, h]
theorem nodeV_0 (l : List Nd) (i : Nat) : nodeV l (i * 2) = .string (nmA l i) := by
  unfold nodeV
  rw [if_pos (by omega), show i * 2 / 2 = i by omega]
theorem nodeV_1 (l : List Nd) (i : Nat) : nodeV l (i * 2 + 1) = .int .i64 (upA l i) := by
  unfold nodeV
  rw [if_neg (by omega), show (i * 2 + 1) / 2 = i by omega]
theorem nodeVs_one (l : List Nd) : ∀ u ∈ nodeVs l, u.oneCell' = true := by
  intro u hu
  simp only [nodeVs, List.mem_map] at hu
  obtain ⟨j, _, rfl⟩ := hu
  unfold nodeV
  split <;> rfl
theorem ns_news {w : World} {ad : Addr} {n : Nat} {l : List Nd} (h : Ns w (some ad) n l) : ∀ (j : Nat) u, (nodeVs l)[j]? = some u → w.cell? (ad.add j) = some u := by
  intro j u hj
  have hl := h.len
  have hjn : j < l.length * 2 := by
    have := (List.getElem?_eq_some_iff.1 hj).1
    rw [nodeVs_len] at this
    exact this
  obtain ⟨bb, oo, e, _, hcs⟩ := h.cells (by omega)
  cases e
  rw [nodeVs_get l j hjn] at hj
  rw [Addr.add_lit]
  obtain ⟨q, e⟩ : ∃ q, j = q * 2 ∨ j = q * 2 + 1 := ⟨j / 2, by omega⟩
  rcases e with rfl | rfl
  · rw [nodeV_0] at hj
    rw [← hj]
    exact (hcs q (by omega)).1
  · rw [nodeV_1] at hj
    rw [← hj]
    exact (hcs q (by omega)).2
theorem node_info : ∃ i0, Try.prog.info? 66 = some i0 ∧ i0.zero = some (.agg #[.string ⟨#[]⟩, .int .i64 0]) ∧ i0.size = 2 ∧ i0.bytes = 24 := by
  have h : (Try.prog.info? 66).map (fun i => (i.zero, i.size, i.bytes)) = some (some (.agg #[.string ⟨#[]⟩, .int .i64 0]), 2, 24) := by kernel_rfl
  exact info_parts h

theorem fst_le (l : List Nd) (k : Nat) (hk : k < l.length) : fstN l (nmA l k) ≤ k := by
  by_cases h : fstN l (nmA l k) ≤ k
  · exact h
  · exfalso
    have h' : k < fstN l (nmA l k) := by omega
    unfold fstN at h'
    have := List.not_of_lt_findIdx h'
    have e : nmA l k = l[k].1 := by simp [nmA, List.getD, List.getElem?_eq_getElem hk]
    simp [e] at this
theorem up_off {l : List Nd} {x : Int} {t : Nat} (h : ¬ isP l (upN l t x)) : ∀ s, t ≤ s → ¬ isP l (upN l s x) := by
  intro s hs
  induction s with
  | zero =>
    have : t = 0 := by omega
    subst this
    exact h
  | succ s ih =>
    by_cases e : t = s + 1
    · subst e; exact h
    · show ¬ isP l (upI l (upN l s x))
      have := ih (by omega)
      unfold upI
      rw [if_neg this]
      intro hc
      exact absurd hc.1 (by omega)
theorem prev1 {l : List Nd} (q : Nat) (hq : q < 1) (h0 : ∀ i, i < l.length → chk l 0 i = 0) : ∀ i, i < l.length → chk l q i = 0 := by
  have : q = 0 := by omega
  subst this
  exact h0
theorem prev2 {l : List Nd} (q : Nat) (hq : q < 2) (h0 : ∀ i, i < l.length → chk l 0 i = 0) (h1 : ∀ i, i < l.length → chk l 1 i = 0) : ∀ i, i < l.length → chk l q i = 0 := by
  have : q = 0 ∨ q = 1 := by omega
  rcases this with rfl | rfl
  · exact h0
  · exact h1
theorem prev3 {l : List Nd} (q : Nat) (hq : q < 3) (h0 : ∀ i, i < l.length → chk l 0 i = 0) (h1 : ∀ i, i < l.length → chk l 1 i = 0) (h2 : ∀ i, i < l.length → chk l 2 i = 0) : ∀ i, i < l.length → chk l q i = 0 := by
  have : q = 0 ∨ q = 1 ∨ q = 2 := by omega
  rcases this with rfl | rfl | rfl
  · exact h0
  · exact h1
  · exact h2
theorem prev4 {l : List Nd} (q : Nat) (hq : q < 4) (h0 : ∀ i, i < l.length → chk l 0 i = 0) (h1 : ∀ i, i < l.length → chk l 1 i = 0) (h2 : ∀ i, i < l.length → chk l 2 i = 0) (h3 : ∀ i, i < l.length → chk l 3 i = 0) : ∀ i, i < l.length → chk l q i = 0 := by
  have : q = 0 ∨ q = 1 ∨ q = 2 ∨ q = 3 := by omega
  rcases this with rfl | rfl | rfl | rfl
  · exact h0
  · exact h1
  · exact h2
  · exact h3
theorem prev5 {l : List Nd} (q : Nat) (hq : q < 5) (h0 : ∀ i, i < l.length → chk l 0 i = 0) (h1 : ∀ i, i < l.length → chk l 1 i = 0) (h2 : ∀ i, i < l.length → chk l 2 i = 0) (h3 : ∀ i, i < l.length → chk l 3 i = 0) (h4 : ∀ i, i < l.length → chk l 4 i = 0) : ∀ i, i < l.length → chk l q i = 0 := by
  have : q = 0 ∨ q = 1 ∨ q = 2 ∨ q = 3 ∨ q = 4 := by omega
  rcases this with rfl | rfl | rfl | rfl | rfl
  · exact h0
  · exact h1
  · exact h2
  · exact h3
  · exact h4
/-- The definition's New, behind the copy of the members. -/
def NewAt (w : World) (p : Nat) (l : List Nd) (W : World) : Prop := RT W p l ∧ Kept w W

set_option maxHeartbeats 8000000 in
set_option maxRecDepth 100000 in
theorem r_New (a : Option Addr) (n c : Nat) (l : List Nd) (w : World) (hs : Ns w a n l) :
    Calls Try.prog 38 #[.slice a n c] w (NewPostR w l) := by
  have hlen := hs.len
  have hbig := hs.big
  unfold maxLen at hbig
  by_cases h1 : n = 0
  · subst h1
    clear hs
    go_enter Try.func38, Try.ntmps38
    go_wp2_with fail
    go_ret3
    exact .inr ⟨0, 5, rfl, by omega, .inl ⟨by omega, rfl, rfl⟩, Kept.refl _⟩
  have h1' : ((n : Int) == 0) = false := by simpa using h1
  by_cases h2 : 32 < n
  · have h2' : (32 : Int) < n := by omega
    clear hs
    go_enter Try.func38, Try.ntmps38
    go_wp2_with fail
    go_ret3
    exact .inr ⟨0, 5, rfl, by omega, .inl ⟨by omega, rfl, rfl⟩, Kept.refl _⟩
  have h2' : (n : Int) ≤ 32 := by omega
  obtain ⟨i0, hi0, hz0, hz1, hz2⟩ := node_info
  have HS := hidMk hs
  have HA := hidMk hi0
  have HZ := hidMk hz0
  obtain ⟨b, o, rfl, hb, hcs⟩ := hs.cells (by omega)
  have HC := hidMk hcs
  clear hs hi0 hz0 hcs
  go_enter Try.func38, Try.ntmps38
  go_wp2_with (at_builtin; refine wpList_append_own_wide _ rfl _ _ 58 rfl (w.heap.size + 1) 66 i0 _ 2 24 Try.underlying58 HA.out HZ.out hz1 hz2 rfl (by decide) _ _ _ rfl (World.ownsRow_nil _ _ _ _) ⟨b, o, none⟩ n c (nodeVs l) rfl ?c1 ?c2 ?c3 ?c4 ?c5 ?c6 ?_)
  case c1 => rw [nodeVs_len, hlen]
  case c2 => exact ns_news (HS.out.kept ((Kept.refl w).alloc _))
  case c3 => exact nodeVs_one l
  case c4 => rw [Nat.zero_add]; unfold maxLen; omega
  case c5 => rw [Nat.zero_add]; omega
  case c6 => simp
  intro v' w1 hown hgrow hnil
  have k1 : Kept (w.alloc (.cells #[.slice none 0 0] 94)) w1 := (Below.refl _ _).grown hgrow (Nat.le_refl _) (by intro k hk; simp [Value.ownBlock] at hk)
  replace hown : w1.ownsRow (w.heap.size + 1) 66 2 v' n (nodeVs l) := by simpa using hown
  obtain ⟨g, cap, rfl, hg1, hg2⟩ := hown.form (by omega)
  have hg : ∀ q, q < n → w1.cell? ⟨g, q * 2, none⟩ = some (.string (nmA l q)) ∧ w1.cell? ⟨g, q * 2 + 1, none⟩ = some (.int .i64 (upA l q)) := fun q hq => by
    have e1 := hown.cellAt (q * 2) (by omega)
    have e2 := hown.cellAt (q * 2 + 1) (by omega)
    rw [nodeVs_get l _ (by omega), nodeV_0] at e1
    rw [nodeVs_get l _ (by omega), nodeV_1] at e2
    exact ⟨e1, e2⟩
  have ct : w1.cell? ⟨w.heap.size, 0, none⟩ = some (.slice none 0 0) := k1.cellp (by simp)
  have ft : w1.frozen? ⟨w.heap.size, 0, none⟩ = false := (k1.frozen (p := ⟨w.heap.size, 0, none⟩) (by simp)).trans (by simp)
  have HKW := hidMk (show Kept w (w1.setCell ⟨w.heap.size, 0, none⟩ (.slice (some ⟨g, 0, none⟩) n cap)) from (((Kept.refl w).alloc _).trans k1).setCell (Nat.le_refl _) _)
  have HRT := hidMk (show RT (w1.setCell ⟨w.heap.size, 0, none⟩ (.slice (some ⟨g, 0, none⟩) n cap)) w.heap.size l from by
    refine ⟨⟨g, cap, by rw [hlen]; exact World.cell?_setCell_same _ _ _ ct, fun q hq => ?_⟩, by omega, HS.out.nmb, HS.out.upb⟩
    obtain ⟨e1, e2⟩ := hg q (by omega)
    exact ⟨(World.cell?_setCell_other _ _ _ _ (by intro e; simp only [Addr.mk.injEq] at e; omega)).trans e1, (World.cell?_setCell_other _ _ _ _ (by intro e; simp only [Addr.mk.injEq] at e; omega)).trans e2⟩)
  clear hown hgrow hnil hg k1
  have hp0 : w.heap.size ≤ w.heap.size := Nat.le_refl _
  go_wp2_with fail
  have z0 : decide ((32 : Int) < (n : Int)) = false := decide_eq_false (by omega)
  rw [z0]
  clear z0
  refine gen_world (f := fun W => Code.wp _ _ _ _ W) (NewAt w w.heap.size l) ⟨HRT.out, HKW.out⟩ ?_
  intro W0 hW0
  have HW0 := hidMk hW0
  have HCW := hidMk (show ∀ W, NewAt w w.heap.size l W → ∀ q, q < n → W.cell? ⟨b, o + q * 2, none⟩ = some (.string (nmA l q)) ∧ W.cell? ⟨b, o + q * 2 + 1, none⟩ = some (.int .i64 (upA l q)) from fun W hkw q hq => ⟨hkw.2.cellp (HC.out q hq).1, hkw.2.cellp (HC.out q hq).2⟩)
  clear ct ft hW0 hg1 hg2 HC HRT HKW
  go_loopg [6] n (fun g x wr => ∃ k : Nat, k + g = n ∧ x = .int .i64 k ∧ NewAt w w.heap.size l wr ∧ Hid (∀ i, i < k → chk l 0 i = 0))
  case atStart => exact ⟨0, by omega, rfl, HW0.out, hidMk fun i hi => absurd hi (by omega)⟩
  case round =>
    obtain ⟨k, hkg, rfl, hW, HI⟩ := hrel
    have HKG := hidMk hkg
    have HW1 := hidMk hW
    clear hW
    by_cases hkn : k < n
    · clear hkg
      have hc := (HCW.out _ HW1.out k hkn).1
      have hnm := ref_Name (nmA l k) (HS.out.nmb k (by omega))
      have hck := chk_0 l k
      generalize nmA l k = s at *
      cases hb0 : nameB s with
      | true =>
        rw [hb0] at hnm
        rw [hb0, if_pos rfl] at hck
        have HN := hidMk hnm
        have HI2 := hidMk (show ∀ i, i < k + 1 → chk l 0 i = 0 from fun i hi => by
          by_cases e : i = k
          · subst e; exact hck
          · exact HI.out i (by omega))
        clear hnm hck hb0
        go_wp2_with (go_at_call 53; refine (HN.out _).mono ?_; rintro e w4 ⟨rfl, rfl⟩)
        go_roundg (gk - 1)
        case measure => have := HKG.out; omega
        case rel => exact ⟨k + 1, by have := HKG.out; omega, by go_num, HW1.out, HI2⟩
      | false =>
        rw [hb0] at hnm
        rw [hb0] at hck
        have HN := hidMk hnm
        have HBD := hidMk (show BadAt l 0 k from ⟨by omega, by omega, by rw [hck]; decide, fun q hq => absurd hq (by omega), HI.out⟩)
        have HCK := hidMk hck
        clear hnm hck hb0
        go_wp2_with (go_at_call 53; refine (HN.out _).mono ?_; rintro e w4 ⟨rfl, rfl⟩)
        go_ret3
        exact .inr ⟨k, 3, rfl, by omega, .inr ⟨by omega, .inr ⟨0, k, HBD.out, rfl, HCK.out.symm⟩⟩, HW1.out.2⟩
    · have hk : k = n := by omega
      have hkk : ¬ ((k : Int) < (n : Int)) := by omega
      have HQ0 := hidMk (show ∀ i, i < l.length → chk l 0 i = 0 from fun i hi => HI.out i (by omega))
      clear HI hkg HKG
      go_wp2_with fail
      go_loopg [7] n (fun g x wr => ∃ k : Nat, k + g = n ∧ x = .int .i64 k ∧ NewAt w w.heap.size l wr ∧ Hid (∀ i, i < k → chk l 1 i = 0))
      case atStart => exact ⟨0, by omega, rfl, HW1.out, hidMk fun i hi => absurd hi (by omega)⟩
      case round =>
        obtain ⟨k, hkg, rfl, hW, HI⟩ := hrel
        have HKG := hidMk hkg
        have HW2 := hidMk hW
        clear hW
        by_cases hkn : k < n
        · clear hkg
          have hc := (HCW.out _ HW2.out k hkn).1
          have hfd := r_Find HW2.out.1 (nmA l k)
          have hck := chk_1 l k
          have hfl := fst_le l k (by omega)
          rw [show findI l (nmA l k) = (fstN l (nmA l k) : Nat) from if_pos (by omega)] at hfd
          generalize fstN l (nmA l k) = f at *
          generalize nmA l k = s at *
          have HN := hidMk hfd
          by_cases hf : f = k
          · rw [if_pos hf] at hck
            have HI2 := hidMk (show ∀ i, i < k + 1 → chk l 1 i = 0 from fun i hi => by
              by_cases e : i = k
              · subst e; exact hck
              · exact HI.out i (by omega))
            have hfk : ¬ ((f : Int) < (k : Int)) := by omega
            clear hfd hck hf
            go_wp2_with (go_at_call 54; refine HN.out.mono ?_; rintro e w4 ⟨rfl, rfl⟩)
            go_roundg (gk - 1)
            case measure => have := HKG.out; omega
            case rel => exact ⟨k + 1, by have := HKG.out; omega, by go_num, HW2.out, HI2⟩
          · rw [if_neg hf] at hck
            have HBD := hidMk (show BadAt l 1 k from ⟨by omega, by omega, by rw [hck]; decide, fun q' hq' => prev1 q' hq' HQ0.out, HI.out⟩)
            have HCK := hidMk hck
            have hfk : (f : Int) < (k : Int) := by omega
            clear hfd hck hf
            go_wp2_with (go_at_call 54; refine HN.out.mono ?_; rintro e w4 ⟨rfl, rfl⟩)
            go_ret3
            exact .inr ⟨k, 4, rfl, by omega, .inr ⟨by omega, .inr ⟨1, k, HBD.out, rfl, HCK.out.symm⟩⟩, HW2.out.2⟩
        · have hk : k = n := by omega
          have hkk : ¬ ((k : Int) < (n : Int)) := by omega
          have HQ1 := hidMk (show ∀ i, i < l.length → chk l 1 i = 0 from fun i hi => HI.out i (by omega))
          clear HI hkg HKG
          go_wp2_with fail
          go_loopg [8] n (fun g x wr => ∃ k : Nat, k + g = n ∧ x = .int .i64 k ∧ NewAt w w.heap.size l wr ∧ Hid (∀ i, i < k → chk l 2 i = 0))
          case atStart => exact ⟨0, by omega, rfl, HW2.out, hidMk fun i hi => absurd hi (by omega)⟩
          case round =>
            obtain ⟨k, hkg, rfl, hW, HI⟩ := hrel
            have HKG := hidMk hkg
            have HW3 := hidMk hW
            clear hW
            by_cases hkn : k < n
            · clear hkg
              have hc := (HCW.out _ HW3.out k hkn).2
              have hck := chk_2 l k
              generalize upA l k = u at *
              by_cases hu1 : u < -1
              · rw [if_neg (by omega)] at hck
                have HBD := hidMk (show BadAt l 2 k from ⟨by omega, by omega, by rw [hck]; decide, fun q' hq' => prev2 q' hq' HQ0.out HQ1.out, HI.out⟩)
                have HCK := hidMk hck
                clear hck
                go_wp2_with fail
                go_ret3
                exact .inr ⟨k, 17, rfl, by omega, .inr ⟨by omega, .inr ⟨2, k, HBD.out, rfl, HCK.out.symm⟩⟩, HW3.out.2⟩
              · have hu1' : -1 ≤ u := by omega
                by_cases hu2 : (n : Int) ≤ u
                · rw [if_neg (by omega)] at hck
                  have HBD := hidMk (show BadAt l 2 k from ⟨by omega, by omega, by rw [hck]; decide, fun q' hq' => prev2 q' hq' HQ0.out HQ1.out, HI.out⟩)
                  have HCK := hidMk hck
                  clear hck
                  go_wp2_with fail
                  go_ret3
                  exact .inr ⟨k, 17, rfl, by omega, .inr ⟨by omega, .inr ⟨2, k, HBD.out, rfl, HCK.out.symm⟩⟩, HW3.out.2⟩
                · rw [if_pos (by omega)] at hck
                  have HI2 := hidMk (show ∀ i, i < k + 1 → chk l 2 i = 0 from fun i hi => by
                    by_cases e : i = k
                    · subst e; exact hck
                    · exact HI.out i (by omega))
                  clear hck
                  have hu2' : u < (n : Int) := by omega
                  go_wp2_with fail
                  go_roundg (gk - 1)
                  case measure => have := HKG.out; omega
                  case rel => exact ⟨k + 1, by have := HKG.out; omega, by go_num, HW3.out, HI2⟩
            · have hk : k = n := by omega
              have hkk : ¬ ((k : Int) < (n : Int)) := by omega
              have HQ2 := hidMk (show ∀ i, i < l.length → chk l 2 i = 0 from fun i hi => HI.out i (by omega))
              clear HI hkg HKG
              go_wp2_with fail
              go_loopg [9] n (fun g x wr => ∃ k : Nat, k + g = n ∧ x = .int .i64 k ∧ NewAt w w.heap.size l wr ∧ Hid (∀ i, i < k → chk l 3 i = 0))
              case atStart => exact ⟨0, by omega, rfl, HW3.out, hidMk fun i hi => absurd hi (by omega)⟩
              case round =>
                obtain ⟨k, hkg, rfl, hW, HI⟩ := hrel
                have HKG := hidMk hkg
                have HW4 := hidMk hW
                clear hW
                by_cases hkn : k < n
                · clear hkg
                  obtain ⟨gi, hgi⟩ : ∃ gi, gi = gk := ⟨_, rfl⟩
                  subst hgi
                  have hc := (HCW.out _ HW4.out k hkn).2
                  have HU1 := hidMk (show upA l k = upN l (0 + 1) k by show _ = upI l (k : Int); unfold upI; rw [if_pos (isP_nat (show k < l.length by omega))]; rfl)
                  generalize upA l k = u0 at *
                  go_wp2_with fail
                  go_loopg [10, 11] n (fun g x y wr => ∃ t : Nat, t + g = n ∧ y = .int .i64 t ∧ x = .int .i64 (upN l (t + 1) k) ∧ NewAt w w.heap.size l wr ∧ Hid (∀ s, s < t → upN l (s + 1) k ≠ k))
                  case atStart => exact ⟨0, by omega, rfl, by rw [HU1.out], HW4.out, hidMk fun s hs => absurd hs (by omega)⟩
                  case round =>
                    obtain ⟨t, htg, rfl, rfl, hW, HT⟩ := hrel
                    have HTG := hidMk htg
                    have HW5 := hidMk hW
                    clear hW
                    have fin : ∀ (hno : ∀ s, s < n → upN l (s + 1) k ≠ k), chk l 3 k = 0 := fun hno => by
                      have : loopB l k = false := decide_eq_false (fun ⟨s, hs, e⟩ => hno s (by omega) e)
                      rw [chk_3, this]
                      rfl
                    by_cases htn : t < n
                    · by_cases hx0 : 0 ≤ upN l (t + 1) k
                      · have hisP : isP l (upN l (t + 1) k) := by
                          by_cases hp : isP l (upN l (t + 1) k)
                          · exact hp
                          · exfalso
                            have hx : upN l (t + 1) k = upI l (upN l t k) := rfl
                            by_cases hq : isP l (upN l t k)
                            · obtain ⟨q, hqe⟩ : ∃ q : Nat, upN l t k = q := ⟨(upN l t k).toNat, by have := hq.1; omega⟩
                              have hql : q < l.length := by rw [hqe] at hq; have := hq.2; omega
                              rw [hqe] at hx
                              unfold upI at hx
                              rw [if_pos (isP_nat hql)] at hx
                              have hc2 := HQ2.out q hql
                              rw [chk_2] at hc2
                              by_cases hor : upA l q = -1 ∨ isP l (upA l q)
                              · rcases hor with h | h
                                · rw [hx] at hx0; have : upA l (q : Int).toNat = -1 := h; omega
                                · rw [hx] at hp; exact hp h
                              · rw [if_neg hor] at hc2; cases hc2
                            · unfold upI at hx
                              rw [if_neg hq] at hx
                              omega
                        obtain ⟨q, hqe⟩ : ∃ q : Nat, upN l (t + 1) k = q := ⟨(upN l (t + 1) k).toNat, by omega⟩
                        have hql : q < n := by rw [hqe] at hisP; have := hisP.2; omega
                        have HNX := hidMk (show upA l q = upN l (t + 1 + 1) k by
                          show _ = upI l (upN l (t + 1) k)
                          rw [hqe]
                          unfold upI
                          rw [if_pos (isP_nat (show q < l.length by omega))]
                          rfl)
                        have hc5 := (HCW.out _ HW5.out q hql).2
                        have htn' : (t : Int) < n := by omega
                        by_cases hqk : q = k
                        · have hck : chk l 3 k = 15 := by
                            have : loopB l k = true := decide_eq_true ⟨t, by omega, by rw [hqe, hqk]⟩
                            rw [chk_3, this]
                            rfl
                          have HBD := hidMk (show BadAt l 3 k from ⟨by omega, by omega, by rw [hck]; decide, fun q' hq' => prev3 q' hq' HQ0.out HQ1.out HQ2.out, HI.out⟩)
                          have HCK := hidMk hck
                          clear hck fin
                          subst hqk
                          rw [hqe]
                          clear hqe hisP hx0
                          generalize upA l q = z at *
                          go_wp2_with fail
                          go_ret3
                          exact .inr ⟨q, 15, rfl, by omega, .inr ⟨by omega, .inr ⟨3, q, HBD.out, rfl, HCK.out.symm⟩⟩, HW5.out.2⟩
                        · have HT2 := hidMk (show ∀ s, s < t + 1 → upN l (s + 1) k ≠ k from fun s hs => by
                            by_cases e : s = t
                            · subst e; rw [hqe]; omega
                            · exact HT.out s (by omega))
                          rw [hqe]
                          clear hqe hisP hx0 fin
                          have hqk' : ((q : Int) == (k : Int)) = false := by simp; omega
                          have hq0 : (0 : Int) ≤ q := by omega
                          have hqn : (q : Int) < n := by omega
                          generalize upA l q = z at *
                          go_wp2_with fail
                          go_roundg (gk - 1)
                          case measure => have := HTG.out; omega
                          case rel => exact ⟨t + 1, by have := HTG.out; omega, by go_num, by rw [HNX.out], HW5.out, HT2⟩
                      · have hck : chk l 3 k = 0 := fin (fun s hs e => by
                          by_cases g : s < t
                          · exact HT.out s g e
                          · have := up_off (l := l) (x := k) (t := t + 1) (fun h => hx0 h.1) (s + 1) (by omega)
                            rw [e] at this
                            exact this (isP_nat (show k < l.length by omega)))
                        have HI2 := hidMk (show ∀ i, i < k + 1 → chk l 3 i = 0 from fun i hi => by
                          by_cases e : i = k
                          · subst e; exact hck
                          · exact HI.out i (by omega))
                        clear hck fin
                        have hx0' : upN l (t + 1) k < 0 := by omega
                        generalize upN l (t + 1) k = z at *
                        have htn' : (t : Int) < n := by omega
                        go_wp2_with fail
                        go_roundg (gi - 1)
                        case measure => have := HKG.out; omega
                        case rel => exact ⟨k + 1, by have := HKG.out; omega, by go_num, HW5.out, HI2⟩
                    · have hck : chk l 3 k = 0 := fin (fun s hs => HT.out s (by omega))
                      have HI2 := hidMk (show ∀ i, i < k + 1 → chk l 3 i = 0 from fun i hi => by
                        by_cases e : i = k
                        · subst e; exact hck
                        · exact HI.out i (by omega))
                      clear hck fin
                      generalize upN l (t + 1) k = z at *
                      have htn' : ¬ ((t : Int) < n) := by omega
                      go_wp2_with fail
                      go_roundg (gi - 1)
                      case measure => have := HKG.out; omega
                      case rel => exact ⟨k + 1, by have := HKG.out; omega, by go_num, HW5.out, HI2⟩
                · have hk : k = n := by omega
                  have hkk : ¬ ((k : Int) < (n : Int)) := by omega
                  have HQ3 := hidMk (show ∀ i, i < l.length → chk l 3 i = 0 from fun i hi => HI.out i (by omega))
                  clear HI hkg HKG
                  go_wp2_with fail
                  go_loopg [12] n (fun g x wr => ∃ k : Nat, k + g = n ∧ x = .int .i64 k ∧ NewAt w w.heap.size l wr ∧ Hid (∀ i, i < k → chk l 4 i = 0))
                  case atStart => exact ⟨0, by omega, rfl, HW4.out, hidMk fun i hi => absurd hi (by omega)⟩
                  case round =>
                    obtain ⟨k, hkg, rfl, hW, HI⟩ := hrel
                    have HKG := hidMk hkg
                    have HW5 := hidMk hW
                    clear hW
                    by_cases hkn : k < n
                    · clear hkg
                      have hdp := r_Depth HW5.out.1 k
                      have hck := chk_4 l k
                      generalize dep l k = f at *
                      have HN := hidMk hdp
                      by_cases hf : 6 ≤ f
                      · rw [if_pos hf] at hck
                        have HBD := hidMk (show BadAt l 4 k from ⟨by omega, by omega, by rw [hck]; decide, fun q' hq' => prev4 q' hq' HQ0.out HQ1.out HQ2.out HQ3.out, HI.out⟩)
                        have HCK := hidMk hck
                        have hfk : (6 : Int) ≤ (f : Int) := by omega
                        clear hdp hck hf
                        go_wp2_with (go_at_call 55; refine HN.out.mono ?_; rintro e w4 ⟨rfl, k4⟩; have K4 := hidMk k4; clear k4)
                        go_ret3
                        exact .inr ⟨k, 16, rfl, by omega, .inr ⟨by omega, .inr ⟨4, k, HBD.out, rfl, HCK.out.symm⟩⟩, HW5.out.2.trans K4.out⟩
                      · rw [if_neg hf] at hck
                        have HI2 := hidMk (show ∀ i, i < k + 1 → chk l 4 i = 0 from fun i hi => by
                          by_cases e : i = k
                          · subst e; exact hck
                          · exact HI.out i (by omega))
                        have hfk : (f : Int) < 6 := by omega
                        clear hdp hck hf
                        go_wp2_with (go_at_call 55; refine HN.out.mono ?_; rintro e w4 ⟨rfl, k4⟩; have K4 := hidMk k4; clear k4)
                        go_roundg (gk - 1)
                        case measure => have := HKG.out; omega
                        case rel => exact ⟨k + 1, by have := HKG.out; omega, by go_num, ⟨HW5.out.1.kept K4.out, HW5.out.2.trans K4.out⟩, HI2⟩
                    · have hk : k = n := by omega
                      have hkk : ¬ ((k : Int) < (n : Int)) := by omega
                      have HQ4 := hidMk (show ∀ i, i < l.length → chk l 4 i = 0 from fun i hi => HI.out i (by omega))
                      clear HI hkg HKG
                      go_wp2_with fail
                      go_ret3
                      exact .inl ⟨_, Nat.le_refl _, rfl, .inr ⟨by omega, .inl ⟨fun q hq => prev5 q hq HQ0.out HQ1.out HQ2.out HQ3.out HQ4.out, rfl, rfl⟩⟩, HW5.out.1, HW5.out.2⟩
end Go.Proofs.Ytbhojgodkblflaa
