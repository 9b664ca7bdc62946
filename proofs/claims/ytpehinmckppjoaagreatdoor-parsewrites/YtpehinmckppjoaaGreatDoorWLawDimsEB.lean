/- The definition's New. · The reference's New of a catalogue: a catalogue of fitting counts. · moietylaw06.known. · Facts of catalogues that can be. · For DimsMakes: each name of a catalogue that can be leads to its place. · '==' of two cells. -/
import Derived.Test.YtpehinmckppjoaaGreatDoorWRefTree7BB
import Derived.Test.YtpehinmckppjoaaGreatDoorWRefDims9BB
namespace Go.Proofs.YtpehinmckppjoaaGreatDoor
open Go.RowKit Go.Maps
set_option linter.unusedSimpArgs false
set_option linter.unusedVariables false

def NewPostR (w : World) (l : List Nd) (e : Ending) (w' : World) : Prop :=
  (∃ p, w.heap.size ≤ p ∧ e = .returned (.tuple #[.pointer (some ⟨p, 0, none⟩), .int .i64 0, .int .i64 0]) ∧ NewIs l 0 0 ∧ RT w' p l ∧ Kept w w') ∨
  ∃ at_ er, e = .returned (.tuple #[.pointer none, .int .i64 at_, .int .i64 er]) ∧ er ≠ 0 ∧ NewIs l at_ er ∧ Kept w w'
def nodeV (l : List Nd) (j : Nat) : Value := if j % 2 = 0 then .string (nmA l (j / 2)) else .int .i64 (upA l (j / 2))
def nodeVs (l : List Nd) : List Value := (List.range (l.length * 2)).map (nodeV l)
theorem nodeVs_len (l : List Nd) : (nodeVs l).length = l.length * 2 := by simp [nodeVs]
theorem nodeVs_get (l : List Nd) (j : Nat) (h : j < l.length * 2) : (nodeVs l)[j]? = some (nodeV l j) := by simp [nodeVs, h]
theorem nodeV_0 (l : List Nd) (i : Nat) : nodeV l (i * 2) = .string (nmA l i) := by
  unfold nodeV
  rw [if_pos (by omega), show i * 2 / 2 = i by omega]
theorem nodeV_1 (l : List Nd) (i : Nat) : nodeV l (i * 2 + 1) = .int .i64 (upA l i) := by
  unfold nodeV
  rw [if_neg (by omega), show (i * 2 + 1) / 2 = i by omega]
theorem nodeVs_one (l : List Nd) : ∀ u ∈ nodeVs l, u.oneCell' = true := by
  intro u hu
  simp only [nodeVs, List.mem_map] at hu
  obtain ⟨j, _, rfl⟩ := hu
  unfold nodeV
  split <;> rfl
theorem ns_news {w : World} {ad : Addr} {n : Nat} {l : List Nd} (h : Ns w (some ad) n l) : ∀ (j : Nat) u, (nodeVs l)[j]? = some u → w.cell? (ad.add j) = some u := by
  intro j u hj
  have hl := h.len
  have hjn : j < l.length * 2 := by
    have := (List.getElem?_eq_some_iff.1 hj).1
    rw [nodeVs_len] at this
    exact this
  obtain ⟨bb, oo, e, _, hcs⟩ := h.cells (by omega)
  cases e
  rw [nodeVs_get l j hjn] at hj
  rw [Addr.add_lit]
  obtain ⟨q, e⟩ : ∃ q, j = q * 2 ∨ j = q * 2 + 1 := ⟨j / 2, by omega⟩
  rcases e with rfl | rfl
  · rw [nodeV_0] at hj
    rw [← hj]
    exact (hcs q (by omega)).1
  · rw [nodeV_1] at hj
    rw [← hj]
    exact (hcs q (by omega)).2
theorem node_info : ∃ i0, Tryz.prog.info? 61 = some i0 ∧ i0.zero = some (.agg #[.string ⟨#[]⟩, .int .i64 0]) ∧ i0.size = 2 ∧ i0.bytes = 24 := by
  have h : (Tryz.prog.info? 61).map (fun i => (i.zero, i.size, i.bytes)) = some (some (.agg #[.string ⟨#[]⟩, .int .i64 0]), 2, 24) := by kernel_rfl
  exact info_parts h

theorem fst_le (l : List Nd) (k : Nat) (hk : k < l.length) : fstN l (nmA l k) ≤ k := by
  by_cases h : fstN l (nmA l k) ≤ k
  · exact h
  · exfalso
    have h' : k < fstN l (nmA l k) := by omega
    unfold fstN at h'
    have := List.not_of_lt_findIdx h'
    have e : nmA l k = l[k].1 := by simp [nmA, List.getD, List.getElem?_eq_getElem hk]
    simp [e] at this
theorem up_off {l : List Nd} {x : Int} {t : Nat} (h : ¬ isP l (upN l t x)) : ∀ s, t ≤ s → ¬ isP l (upN l s x) := by
  intro s hs
  induction s with
  | zero =>
    have : t = 0 := by omega
    subst this
    exact h
  | succ s ih =>
    by_cases e : t = s + 1
    · subst e; exact h
    · show ¬ isP l (upI l (upN l s x))
      have := ih (by omega)
      unfold upI
      rw [if_neg this]
      intro hc
      exact absurd hc.1 (by omega)
theorem prev1 {l : List Nd} (q : Nat) (hq : q < 1) (h0 : ∀ i, i < l.length → chk l 0 i = 0) : ∀ i, i < l.length → chk l q i = 0 := by
  have : q = 0 := by omega
  subst this
  exact h0
theorem prev2 {l : List Nd} (q : Nat) (hq : q < 2) (h0 : ∀ i, i < l.length → chk l 0 i = 0) (h1 : ∀ i, i < l.length → chk l 1 i = 0) : ∀ i, i < l.length → chk l q i = 0 := by
  have : q = 0 ∨ q = 1 := by omega
  rcases this with rfl | rfl
  · exact h0
  · exact h1
theorem prev3 {l : List Nd} (q : Nat) (hq : q < 3) (h0 : ∀ i, i < l.length → chk l 0 i = 0) (h1 : ∀ i, i < l.length → chk l 1 i = 0) (h2 : ∀ i, i < l.length → chk l 2 i = 0) : ∀ i, i < l.length → chk l q i = 0 := by
  have : q = 0 ∨ q = 1 ∨ q = 2 := by omega
  rcases this with rfl | rfl | rfl
  · exact h0
  · exact h1
  · exact h2
theorem prev4 {l : List Nd} (q : Nat) (hq : q < 4) (h0 : ∀ i, i < l.length → chk l 0 i = 0) (h1 : ∀ i, i < l.length → chk l 1 i = 0) (h2 : ∀ i, i < l.length → chk l 2 i = 0) (h3 : ∀ i, i < l.length → chk l 3 i = 0) : ∀ i, i < l.length → chk l q i = 0 := by
  have : q = 0 ∨ q = 1 ∨ q = 2 ∨ q = 3 := by omega
  rcases this with rfl | rfl | rfl | rfl
  · exact h0
  · exact h1
  · exact h2
  · exact h3
theorem prev5 {l : List Nd} (q : Nat) (hq : q < 5) (h0 : ∀ i, i < l.length → chk l 0 i = 0) (h1 : ∀ i, i < l.length → chk l 1 i = 0) (h2 : ∀ i, i < l.length → chk l 2 i = 0) (h3 : ∀ i, i < l.length → chk l 3 i = 0) (h4 : ∀ i, i < l.length → chk l 4 i = 0) : ∀ i, i < l.length → chk l q i = 0 := by
  have : q = 0 ∨ q = 1 ∨ q = 2 ∨ q = 3 ∨ q = 4 := by omega
  rcases this with rfl | rfl | rfl | rfl | rfl
  · exact h0
  · exact h1
  · exact h2
  · exact h3
  · exact h4
/-- The definition's New, behind the copy of the members. -/
def NewAt (w : World) (p : Nat) (l : List Nd) (W : World) : Prop := RT W p l ∧ Kept w W

set_option maxHeartbeats 8000000 in
set_option maxRecDepth 100000 in
theorem r_New (a : Option Addr) (n c : Nat) (l : List Nd) (w : World) (hs : Ns w a n l) :
    Calls Tryz.prog 43 #[.slice a n c] w (NewPostR w l) := by
  have hlen := hs.len
  have hbig := hs.big
  unfold maxLen at hbig
  by_cases h1 : n = 0
  · subst h1
    clear hs
    go_enter Tryz.func43, Tryz.ntmps43
    go_wp2_with fail
    go_ret3
    exact .inr ⟨0, 5, rfl, by omega, .inl ⟨by omega, rfl, rfl⟩, Kept.refl _⟩
  have h1' : ((n : Int) == 0) = false := by simpa using h1
  by_cases h2 : 32 < n
  · have h2' : (32 : Int) < n := by omega
    clear hs
    go_enter Tryz.func43, Tryz.ntmps43
    go_wp2_with fail
    go_ret3
    exact .inr ⟨0, 5, rfl, by omega, .inl ⟨by omega, rfl, rfl⟩, Kept.refl _⟩
  have h2' : (n : Int) ≤ 32 := by omega
  obtain ⟨i0, hi0, hz0, hz1, hz2⟩ := node_info
  have HS := hidMk hs
  have HA := hidMk hi0
  have HZ := hidMk hz0
  obtain ⟨b, o, rfl, hb, hcs⟩ := hs.cells (by omega)
  have HC := hidMk hcs
  clear hs hi0 hz0 hcs
  go_enter Tryz.func43, Tryz.ntmps43
  go_wp2_with (at_builtin; refine wpList_append_own_wide _ rfl _ _ 53 rfl (w.heap.size + 1) 61 i0 _ 2 24 Tryz.underlying53 HA.out HZ.out hz1 hz2 rfl (by decide) _ _ _ rfl (World.ownsRow_nil _ _ _ _) ⟨b, o, none⟩ n c (nodeVs l) rfl ?c1 ?c2 ?c3 ?c4 ?c5 ?c6 ?_)
  case c1 => rw [nodeVs_len, hlen]
  case c2 => exact ns_news (HS.out.kept ((Kept.refl w).alloc _))
  case c3 => exact nodeVs_one l
  case c4 => rw [Nat.zero_add]; unfold maxLen; omega
  case c5 => rw [Nat.zero_add]; omega
  case c6 => simp
  intro v' w1 hown hgrow hnil
  have k1 : Kept (w.alloc (.cells #[.slice none 0 0] 106)) w1 := (Below.refl _ _).grown hgrow (Nat.le_refl _) (by intro k hk; simp [Value.ownBlock] at hk)
  replace hown : w1.ownsRow (w.heap.size + 1) 61 2 v' n (nodeVs l) := by simpa using hown
  obtain ⟨g, cap, rfl, hg1, hg2⟩ := hown.form (by omega)
  have hg : ∀ q, q < n → w1.cell? ⟨g, q * 2, none⟩ = some (.string (nmA l q)) ∧ w1.cell? ⟨g, q * 2 + 1, none⟩ = some (.int .i64 (upA l q)) := fun q hq => by
    have e1 := hown.cellAt (q * 2) (by omega)
    have e2 := hown.cellAt (q * 2 + 1) (by omega)
    rw [nodeVs_get l _ (by omega), nodeV_0] at e1
    rw [nodeVs_get l _ (by omega), nodeV_1] at e2
    exact ⟨e1, e2⟩
  have ct : w1.cell? ⟨w.heap.size, 0, none⟩ = some (.slice none 0 0) := k1.cellp (by simp)
  have ft : w1.frozen? ⟨w.heap.size, 0, none⟩ = false := (k1.frozen (p := ⟨w.heap.size, 0, none⟩) (by simp)).trans (by simp)
  have HKW := hidMk (show Kept w (w1.setCell ⟨w.heap.size, 0, none⟩ (.slice (some ⟨g, 0, none⟩) n cap)) from (((Kept.refl w).alloc _).trans k1).setCell (Nat.le_refl _) _)
  have HRT := hidMk (show RT (w1.setCell ⟨w.heap.size, 0, none⟩ (.slice (some ⟨g, 0, none⟩) n cap)) w.heap.size l from by
    refine ⟨⟨g, cap, by rw [hlen]; exact World.cell?_setCell_same _ _ _ ct, fun q hq => ?_⟩, by omega, HS.out.nmb, HS.out.upb⟩
    obtain ⟨e1, e2⟩ := hg q (by omega)
    exact ⟨(World.cell?_setCell_other _ _ _ _ (by intro e; simp only [Addr.mk.injEq] at e; omega)).trans e1, (World.cell?_setCell_other _ _ _ _ (by intro e; simp only [Addr.mk.injEq] at e; omega)).trans e2⟩)
  clear hown hgrow hnil hg k1
  have hp0 : w.heap.size ≤ w.heap.size := Nat.le_refl _
  go_wp2_with fail
  have z0 : decide ((32 : Int) < (n : Int)) = false := decide_eq_false (by omega)
  rw [z0]
  clear z0
  refine gen_world (f := fun W => Code.wp _ _ _ _ W) (NewAt w w.heap.size l) ⟨HRT.out, HKW.out⟩ ?_
  intro W0 hW0
  have HW0 := hidMk hW0
  have HCW := hidMk (show ∀ W, NewAt w w.heap.size l W → ∀ q, q < n → W.cell? ⟨b, o + q * 2, none⟩ = some (.string (nmA l q)) ∧ W.cell? ⟨b, o + q * 2 + 1, none⟩ = some (.int .i64 (upA l q)) from fun W hkw q hq => ⟨hkw.2.cellp (HC.out q hq).1, hkw.2.cellp (HC.out q hq).2⟩)
  clear ct ft hW0 hg1 hg2 HC HRT HKW
  go_loopg [6] n (fun g x wr => ∃ k : Nat, k + g = n ∧ x = .int .i64 k ∧ NewAt w w.heap.size l wr ∧ Hid (∀ i, i < k → chk l 0 i = 0))
  case atStart => exact ⟨0, by omega, rfl, HW0.out, hidMk fun i hi => absurd hi (by omega)⟩
  case round =>
    obtain ⟨k, hkg, rfl, hW, HI⟩ := hrel
    have HKG := hidMk hkg
    have HW1 := hidMk hW
    clear hW
    by_cases hkn : k < n
    · clear hkg
      have hc := (HCW.out _ HW1.out k hkn).1
      have hnm := ref_Name (nmA l k) (HS.out.nmb k (by omega))
      have hck := chk_0 l k
      generalize nmA l k = s at *
      cases hb0 : nameB s with
      | true =>
        rw [hb0] at hnm
        rw [hb0, if_pos rfl] at hck
        have HN := hidMk hnm
        have HI2 := hidMk (show ∀ i, i < k + 1 → chk l 0 i = 0 from fun i hi => by
          by_cases e : i = k
          · subst e; exact hck
          · exact HI.out i (by omega))
        clear hnm hck hb0
        go_wp2_with (go_at_call 61; refine (HN.out _).mono ?_; rintro e w4 ⟨rfl, rfl⟩)
        go_roundg (gk - 1)
        case measure => have := HKG.out; omega
        case rel => exact ⟨k + 1, by have := HKG.out; omega, by go_num, HW1.out, HI2⟩
      | false =>
        rw [hb0] at hnm
        rw [hb0] at hck
        have HN := hidMk hnm
        have HBD := hidMk (show BadAt l 0 k from ⟨by omega, by omega, by rw [hck]; decide, fun q hq => absurd hq (by omega), HI.out⟩)
        have HCK := hidMk hck
        clear hnm hck hb0
        go_wp2_with (go_at_call 61; refine (HN.out _).mono ?_; rintro e w4 ⟨rfl, rfl⟩)
        go_ret3
        exact .inr ⟨k, 3, rfl, by omega, .inr ⟨by omega, .inr ⟨0, k, HBD.out, rfl, HCK.out.symm⟩⟩, HW1.out.2⟩
    · have hk : k = n := by omega
      have hkk : ¬ ((k : Int) < (n : Int)) := by omega
      have HQ0 := hidMk (show ∀ i, i < l.length → chk l 0 i = 0 from fun i hi => HI.out i (by omega))
      clear HI hkg HKG
      go_wp2_with fail
      go_loopg [7] n (fun g x wr => ∃ k : Nat, k + g = n ∧ x = .int .i64 k ∧ NewAt w w.heap.size l wr ∧ Hid (∀ i, i < k → chk l 1 i = 0))
      case atStart => exact ⟨0, by omega, rfl, HW1.out, hidMk fun i hi => absurd hi (by omega)⟩
      case round =>
        obtain ⟨k, hkg, rfl, hW, HI⟩ := hrel
        have HKG := hidMk hkg
        have HW2 := hidMk hW
        clear hW
        by_cases hkn : k < n
        · clear hkg
          have hc := (HCW.out _ HW2.out k hkn).1
          have hfd := r_Find HW2.out.1 (nmA l k)
          have hck := chk_1 l k
          have hfl := fst_le l k (by omega)
          rw [show findI l (nmA l k) = (fstN l (nmA l k) : Nat) from if_pos (by omega)] at hfd
          generalize fstN l (nmA l k) = f at *
          generalize nmA l k = s at *
          have HN := hidMk hfd
          by_cases hf : f = k
          · rw [if_pos hf] at hck
            have HI2 := hidMk (show ∀ i, i < k + 1 → chk l 1 i = 0 from fun i hi => by
              by_cases e : i = k
              · subst e; exact hck
              · exact HI.out i (by omega))
            have hfk : ¬ ((f : Int) < (k : Int)) := by omega
            clear hfd hck hf
            go_wp2_with (go_at_call 69; refine HN.out.mono ?_; rintro e w4 ⟨rfl, rfl⟩)
            go_roundg (gk - 1)
            case measure => have := HKG.out; omega
            case rel => exact ⟨k + 1, by have := HKG.out; omega, by go_num, HW2.out, HI2⟩
          · rw [if_neg hf] at hck
            have HBD := hidMk (show BadAt l 1 k from ⟨by omega, by omega, by rw [hck]; decide, fun q' hq' => prev1 q' hq' HQ0.out, HI.out⟩)
            have HCK := hidMk hck
            have hfk : (f : Int) < (k : Int) := by omega
            clear hfd hck hf
            go_wp2_with (go_at_call 69; refine HN.out.mono ?_; rintro e w4 ⟨rfl, rfl⟩)
            go_ret3
            exact .inr ⟨k, 4, rfl, by omega, .inr ⟨by omega, .inr ⟨1, k, HBD.out, rfl, HCK.out.symm⟩⟩, HW2.out.2⟩
        · have hk : k = n := by omega
          have hkk : ¬ ((k : Int) < (n : Int)) := by omega
          have HQ1 := hidMk (show ∀ i, i < l.length → chk l 1 i = 0 from fun i hi => HI.out i (by omega))
          clear HI hkg HKG
          go_wp2_with fail
          go_loopg [8] n (fun g x wr => ∃ k : Nat, k + g = n ∧ x = .int .i64 k ∧ NewAt w w.heap.size l wr ∧ Hid (∀ i, i < k → chk l 2 i = 0))
          case atStart => exact ⟨0, by omega, rfl, HW2.out, hidMk fun i hi => absurd hi (by omega)⟩
          case round =>
            obtain ⟨k, hkg, rfl, hW, HI⟩ := hrel
            have HKG := hidMk hkg
            have HW3 := hidMk hW
            clear hW
            by_cases hkn : k < n
            · clear hkg
              have hc := (HCW.out _ HW3.out k hkn).2
              have hck := chk_2 l k
              generalize upA l k = u at *
              by_cases hu1 : u < -1
              · rw [if_neg (by omega)] at hck
                have HBD := hidMk (show BadAt l 2 k from ⟨by omega, by omega, by rw [hck]; decide, fun q' hq' => prev2 q' hq' HQ0.out HQ1.out, HI.out⟩)
                have HCK := hidMk hck
                clear hck
                go_wp2_with fail
                go_ret3
                exact .inr ⟨k, 17, rfl, by omega, .inr ⟨by omega, .inr ⟨2, k, HBD.out, rfl, HCK.out.symm⟩⟩, HW3.out.2⟩
              · have hu1' : -1 ≤ u := by omega
                by_cases hu2 : (n : Int) ≤ u
                · rw [if_neg (by omega)] at hck
                  have HBD := hidMk (show BadAt l 2 k from ⟨by omega, by omega, by rw [hck]; decide, fun q' hq' => prev2 q' hq' HQ0.out HQ1.out, HI.out⟩)
                  have HCK := hidMk hck
                  clear hck
                  go_wp2_with fail
                  go_ret3
                  exact .inr ⟨k, 17, rfl, by omega, .inr ⟨by omega, .inr ⟨2, k, HBD.out, rfl, HCK.out.symm⟩⟩, HW3.out.2⟩
                · rw [if_pos (by omega)] at hck
                  have HI2 := hidMk (show ∀ i, i < k + 1 → chk l 2 i = 0 from fun i hi => by
                    by_cases e : i = k
                    · subst e; exact hck
                    · exact HI.out i (by omega))
                  clear hck
                  have hu2' : u < (n : Int) := by omega
                  go_wp2_with fail
                  go_roundg (gk - 1)
                  case measure => have := HKG.out; omega
                  case rel => exact ⟨k + 1, by have := HKG.out; omega, by go_num, HW3.out, HI2⟩
            · have hk : k = n := by omega
              have hkk : ¬ ((k : Int) < (n : Int)) := by omega
              have HQ2 := hidMk (show ∀ i, i < l.length → chk l 2 i = 0 from fun i hi => HI.out i (by omega))
              clear HI hkg HKG
              go_wp2_with fail
              go_loopg [9] n (fun g x wr => ∃ k : Nat, k + g = n ∧ x = .int .i64 k ∧ NewAt w w.heap.size l wr ∧ Hid (∀ i, i < k → chk l 3 i = 0))
              case atStart => exact ⟨0, by omega, rfl, HW3.out, hidMk fun i hi => absurd hi (by omega)⟩
              case round =>
                obtain ⟨k, hkg, rfl, hW, HI⟩ := hrel
                have HKG := hidMk hkg
                have HW4 := hidMk hW
                clear hW
                by_cases hkn : k < n
                · clear hkg
                  obtain ⟨gi, hgi⟩ : ∃ gi, gi = gk := ⟨_, rfl⟩
                  subst hgi
                  have hc := (HCW.out _ HW4.out k hkn).2
                  have HU1 := hidMk (show upA l k = upN l (0 + 1) k by show _ = upI l (k : Int); unfold upI; rw [if_pos (isP_nat (show k < l.length by omega))]; rfl)
                  generalize upA l k = u0 at *
                  go_wp2_with fail
                  go_loopg [10, 11] n (fun g x y wr => ∃ t : Nat, t + g = n ∧ y = .int .i64 t ∧ x = .int .i64 (upN l (t + 1) k) ∧ NewAt w w.heap.size l wr ∧ Hid (∀ s, s < t → upN l (s + 1) k ≠ k))
                  case atStart => exact ⟨0, by omega, rfl, by rw [HU1.out], HW4.out, hidMk fun s hs => absurd hs (by omega)⟩
                  case round =>
                    obtain ⟨t, htg, rfl, rfl, hW, HT⟩ := hrel
                    have HTG := hidMk htg
                    have HW5 := hidMk hW
                    clear hW
                    have fin : ∀ (hno : ∀ s, s < n → upN l (s + 1) k ≠ k), chk l 3 k = 0 := fun hno => by
                      have : loopB l k = false := decide_eq_false (fun ⟨s, hs, e⟩ => hno s (by omega) e)
                      rw [chk_3, this]
                      rfl
                    by_cases htn : t < n
                    · by_cases hx0 : 0 ≤ upN l (t + 1) k
                      · have hisP : isP l (upN l (t + 1) k) := by
                          by_cases hp : isP l (upN l (t + 1) k)
                          · exact hp
                          · exfalso
                            have hx : upN l (t + 1) k = upI l (upN l t k) := rfl
                            by_cases hq : isP l (upN l t k)
                            · obtain ⟨q, hqe⟩ : ∃ q : Nat, upN l t k = q := ⟨(upN l t k).toNat, by have := hq.1; omega⟩
                              have hql : q < l.length := by rw [hqe] at hq; have := hq.2; omega
                              rw [hqe] at hx
                              unfold upI at hx
                              rw [if_pos (isP_nat hql)] at hx
                              have hc2 := HQ2.out q hql
                              rw [chk_2] at hc2
                              by_cases hor : upA l q = -1 ∨ isP l (upA l q)
                              · rcases hor with h | h
                                · rw [hx] at hx0; have : upA l (q : Int).toNat = -1 := h; omega
                                · rw [hx] at hp; exact hp h
                              · rw [if_neg hor] at hc2; cases hc2
                            · unfold upI at hx
                              rw [if_neg hq] at hx
                              omega
                        obtain ⟨q, hqe⟩ : ∃ q : Nat, upN l (t + 1) k = q := ⟨(upN l (t + 1) k).toNat, by omega⟩
                        have hql : q < n := by rw [hqe] at hisP; have := hisP.2; omega
                        have HNX := hidMk (show upA l q = upN l (t + 1 + 1) k by
                          show _ = upI l (upN l (t + 1) k)
                          rw [hqe]
                          unfold upI
                          rw [if_pos (isP_nat (show q < l.length by omega))]
                          rfl)
                        have hc5 := (HCW.out _ HW5.out q hql).2
                        have htn' : (t : Int) < n := by omega
                        by_cases hqk : q = k
                        · have hck : chk l 3 k = 15 := by
                            have : loopB l k = true := decide_eq_true ⟨t, by omega, by rw [hqe, hqk]⟩
                            rw [chk_3, this]
                            rfl
                          have HBD := hidMk (show BadAt l 3 k from ⟨by omega, by omega, by rw [hck]; decide, fun q' hq' => prev3 q' hq' HQ0.out HQ1.out HQ2.out, HI.out⟩)
                          have HCK := hidMk hck
                          clear hck fin
                          subst hqk
                          rw [hqe]
                          clear hqe hisP hx0
                          generalize upA l q = z at *
                          go_wp2_with fail
                          go_ret3
                          exact .inr ⟨q, 15, rfl, by omega, .inr ⟨by omega, .inr ⟨3, q, HBD.out, rfl, HCK.out.symm⟩⟩, HW5.out.2⟩
                        · have HT2 := hidMk (show ∀ s, s < t + 1 → upN l (s + 1) k ≠ k from fun s hs => by
                            by_cases e : s = t
                            · subst e; rw [hqe]; omega
                            · exact HT.out s (by omega))
                          rw [hqe]
                          clear hqe hisP hx0 fin
                          have hqk' : ((q : Int) == (k : Int)) = false := by simp; omega
                          have hq0 : (0 : Int) ≤ q := by omega
                          have hqn : (q : Int) < n := by omega
                          generalize upA l q = z at *
                          go_wp2_with fail
                          go_roundg (gk - 1)
                          case measure => have := HTG.out; omega
                          case rel => exact ⟨t + 1, by have := HTG.out; omega, by go_num, by rw [HNX.out], HW5.out, HT2⟩
                      · have hck : chk l 3 k = 0 := fin (fun s hs e => by
                          by_cases g : s < t
                          · exact HT.out s g e
                          · have := up_off (l := l) (x := k) (t := t + 1) (fun h => hx0 h.1) (s + 1) (by omega)
                            rw [e] at this
                            exact this (isP_nat (show k < l.length by omega)))
                        have HI2 := hidMk (show ∀ i, i < k + 1 → chk l 3 i = 0 from fun i hi => by
                          by_cases e : i = k
                          · subst e; exact hck
                          · exact HI.out i (by omega))
                        clear hck fin
                        have hx0' : upN l (t + 1) k < 0 := by omega
                        generalize upN l (t + 1) k = z at *
                        have htn' : (t : Int) < n := by omega
                        go_wp2_with fail
                        go_roundg (gi - 1)
                        case measure => have := HKG.out; omega
                        case rel => exact ⟨k + 1, by have := HKG.out; omega, by go_num, HW5.out, HI2⟩
                    · have hck : chk l 3 k = 0 := fin (fun s hs => HT.out s (by omega))
                      have HI2 := hidMk (show ∀ i, i < k + 1 → chk l 3 i = 0 from fun i hi => by
                        by_cases e : i = k
                        · subst e; exact hck
                        · exact HI.out i (by omega))
                      clear hck fin
                      generalize upN l (t + 1) k = z at *
                      have htn' : ¬ ((t : Int) < n) := by omega
                      go_wp2_with fail
                      go_roundg (gi - 1)
                      case measure => have := HKG.out; omega
                      case rel => exact ⟨k + 1, by have := HKG.out; omega, by go_num, HW5.out, HI2⟩
                · have hk : k = n := by omega
                  have hkk : ¬ ((k : Int) < (n : Int)) := by omega
                  have HQ3 := hidMk (show ∀ i, i < l.length → chk l 3 i = 0 from fun i hi => HI.out i (by omega))
                  clear HI hkg HKG
                  go_wp2_with fail
                  go_loopg [12] n (fun g x wr => ∃ k : Nat, k + g = n ∧ x = .int .i64 k ∧ NewAt w w.heap.size l wr ∧ Hid (∀ i, i < k → chk l 4 i = 0))
                  case atStart => exact ⟨0, by omega, rfl, HW4.out, hidMk fun i hi => absurd hi (by omega)⟩
                  case round =>
                    obtain ⟨k, hkg, rfl, hW, HI⟩ := hrel
                    have HKG := hidMk hkg
                    have HW5 := hidMk hW
                    clear hW
                    by_cases hkn : k < n
                    · clear hkg
                      have hdp := r_Depth HW5.out.1 k
                      have hck := chk_4 l k
                      generalize dep l k = f at *
                      have HN := hidMk hdp
                      by_cases hf : 6 ≤ f
                      · rw [if_pos hf] at hck
                        have HBD := hidMk (show BadAt l 4 k from ⟨by omega, by omega, by rw [hck]; decide, fun q' hq' => prev4 q' hq' HQ0.out HQ1.out HQ2.out HQ3.out, HI.out⟩)
                        have HCK := hidMk hck
                        have hfk : (6 : Int) ≤ (f : Int) := by omega
                        clear hdp hck hf
                        go_wp2_with (go_at_call 70; refine HN.out.mono ?_; rintro e w4 ⟨rfl, k4⟩; have K4 := hidMk k4; clear k4)
                        go_ret3
                        exact .inr ⟨k, 16, rfl, by omega, .inr ⟨by omega, .inr ⟨4, k, HBD.out, rfl, HCK.out.symm⟩⟩, HW5.out.2.trans K4.out⟩
                      · rw [if_neg hf] at hck
                        have HI2 := hidMk (show ∀ i, i < k + 1 → chk l 4 i = 0 from fun i hi => by
                          by_cases e : i = k
                          · subst e; exact hck
                          · exact HI.out i (by omega))
                        have hfk : (f : Int) < 6 := by omega
                        clear hdp hck hf
                        go_wp2_with (go_at_call 70; refine HN.out.mono ?_; rintro e w4 ⟨rfl, k4⟩; have K4 := hidMk k4; clear k4)
                        go_roundg (gk - 1)
                        case measure => have := HKG.out; omega
                        case rel => exact ⟨k + 1, by have := HKG.out; omega, by go_num, ⟨HW5.out.1.kept K4.out, HW5.out.2.trans K4.out⟩, HI2⟩
                    · have hk : k = n := by omega
                      have hkk : ¬ ((k : Int) < (n : Int)) := by omega
                      have HQ4 := hidMk (show ∀ i, i < l.length → chk l 4 i = 0 from fun i hi => HI.out i (by omega))
                      clear HI hkg HKG
                      go_wp2_with fail
                      go_ret3
                      exact .inl ⟨_, Nat.le_refl _, rfl, .inr ⟨by omega, .inl ⟨fun q hq => prev5 q hq HQ0.out HQ1.out HQ2.out HQ3.out HQ4.out, rfl, rfl⟩⟩, HW5.out.1, HW5.out.2⟩
end Go.Proofs.YtpehinmckppjoaaGreatDoor
namespace Go.Proofs.YtpehinmckppjoaaGreatDoor
open Go.RowKit Go.Maps
set_option linter.unusedSimpArgs false
set_option linter.unusedVariables false

set_option maxHeartbeats 8000000 in
set_option maxRecDepth 100000 in
theorem ref6_New_yes (a : Option Addr) (n c : Nat) (ds : List Dm) (na : Nat → Option Addr × Nat × Nat) (b : Option Addr) (m d : Nat) (ms : List ByteArray) (lv sc : Int) (w : World) (hs : Dss w a n ds na) (hm : Ss w b m ms) (hmz : ∀ i, i < ms.length → (msA ms i).size ≤ maxLen) (h1 : 1 ≤ n ∧ n ≤ 4) (h2 : 1 ≤ m ∧ m ≤ 4) :
    Calls Tryz.prog 21 #[.agg #[.slice a n c, .slice b m d, .int .i64 lv, .int .i64 sc]] w (RNewPost w ds ms lv sc) := by
  have hln := hs.len
  have hlm := hm.len
  have HS := hidMk hs
  have HM := hidMk hm
  have HMZ := hidMk hmz
  have n1' : ((n : Int) == 0) = false := by simp; omega
  have n2' : (n : Int) ≤ 4 := by omega
  have m1' : ((m : Int) == 0) = false := by simp; omega
  have m2' : (m : Int) ≤ 4 := by omega
  clear hs hm hmz
  go_enter Tryz.func21, Tryz.ntmps21
  go_wp2_with fail
  refine gen_world (f := fun W => Code.wp _ _ _ _ W) (fun W => RG (w.alloc (.cells #[.slice a n c, .slice b m d, .int .i64 lv, .int .i64 sc] 25)) W (w.heap.size + 1) (w.heap.size + 1 + 1) ds 0 (fun _ => 0) (.slice none 0 0) (.slice a n c) (.slice b m d)) ⟨by simp, by simp, by simp, by simp, World.ownsRow_nil _ _ _ _, fun _ => rfl, fun j hj => absurd hj (by omega), ⟨_, _, _, rfl⟩, by omega, by simp, (Kept.refl _).alloc _, by simp⟩ ?_
  intro W0 hW0
  have hc0 : W0.cell? ⟨w.heap.size, 0, none⟩ = some (.slice a n c) := hW0.kept.cellp (by simp)
  have hc1 : W0.cell? ⟨w.heap.size, 1, none⟩ = some (.slice b m d) := hW0.kept.cellp (by simp)
  have hc2 : W0.cell? ⟨w.heap.size, 2, none⟩ = some (.int .i64 lv) := hW0.kept.cellp (by simp)
  have hc3 : W0.cell? ⟨w.heap.size, 3, none⟩ = some (.int .i64 sc) := hW0.kept.cellp (by simp)
  have HW0 := hidMk hW0
  have hwa : Kept w (w.alloc (.cells #[.slice a n c, .slice b m d, .int .i64 lv, .int .i64 sc] 25)) := (Kept.refl w).alloc _
  have HWA := hidMk hwa
  have HC := hidMk (show ∀ y, Kept (w.alloc (.cells #[.slice a n c, .slice b m d, .int .i64 lv, .int .i64 sc] 25)) y → y.cell? ⟨w.heap.size, 0, none⟩ = some (.slice a n c) ∧ y.cell? ⟨w.heap.size, 1, none⟩ = some (.slice b m d) ∧ y.cell? ⟨w.heap.size, 2, none⟩ = some (.int .i64 lv) ∧ y.cell? ⟨w.heap.size, 3, none⟩ = some (.int .i64 sc) from fun y hy => ⟨hy.cellp (by simp), hy.cellp (by simp), hy.cellp (by simp), hy.cellp (by simp)⟩)
  have hpz : w.heap.size < w.heap.size + 1 := by omega
  generalize hz : w.alloc (.cells #[.slice a n c, .slice b m d, .int .i64 lv, .int .i64 sc] 25) = z at *
  generalize hp : w.heap.size + 1 = p at *
  clear hW0 hwa hz hc0 hc1 hc2 hc3
  go_loopg [6, 7, 8] n (fun g x y i wr => ∃ (k : Nat) (rt : Nat → Nat) (tv : Value), k + g = n ∧ i = .int .i64 k ∧ x = .int .i64 (cellsN m (ds.take k)) ∧ y = .int .i64 (leavesN m (ds.take k)) ∧ RG z wr p (p + 1) ds k rt tv (.slice a n c) (.slice b m d) ∧ Hid (∀ j, j < k → AddOk ds j 0))
  case atStart => exact ⟨0, _, _, by omega, rfl, rfl, rfl, HW0.out, hidMk fun j hj => absurd hj (by omega)⟩
  case round =>
    obtain ⟨k, rt, tv, hkg, rfl, rfl, rfl, hD, HJ⟩ := hrel
    have HKG := hidMk hkg
    have HD := hidMk hD
    have HKR := hidMk (show Kept w wr from HWA.out.trans hD.kept)
    obtain ⟨r0, r1, r2, r3⟩ := HC.out wr hD.kept
    by_cases hkn : k < n
    · have hnam := ref6_Names a n c ds na wr (HS.out.kept HKR.out) (by omega)
      have HNAM := hidMk hnam
      have HADN := hidMk (add_of_named (ds := ds) (k := k) (by omega))
      have hzz : (msA (lbl ds) k).size ≤ maxLen := by
        rw [show msA (lbl ds) k = dmN ds k from lbl_get ds k (by omega)]
        exact HS.out.nmb k hkn
      have HZZ := hidMk hzz
      have hll : (lbl ds).length = n := by rw [lbl_len]; exact hln
      clear hnam hzz hkg hD
      obtain ⟨bb, oo, rfl, _, hcs⟩ := HS.out.cells (by omega)
      have HCS := hidMk (hcs k hkn)
      clear hcs
      have kn' : (k : Int) < n := by omega
      go_wp2_with fail
      refine HNAM.out.mono ?_
      rintro e w1 ⟨v, rfl, hown, k1⟩
      obtain ⟨sa, sc', rfl, hss, _⟩ := own_ss (by rw [hll]; unfold maxLen; omega) hown
      rw [hll] at hss
      rw [hll]
      have HNM := hidMk (ref6_named sa n sc' (lbl ds) k w1 hss hkn HZZ.out)
      have HK1 := hidMk k1
      clear hss hown k1 hll
      go_wp2_with fail
      refine HNM.out.mono ?_
      rintro e w2 ⟨rfl, k2⟩
      have HK2 := hidMk (HK1.out.trans k2)
      have HR2 := hidMk (HD.out.keep HK2.out)
      obtain ⟨q0, q1, q2, q3⟩ := HC.out w2 HR2.out.kept
      have HKW2 := hidMk (HKR.out.trans HK2.out)
      have d2 := HKW2.out.cellp HCS.out.2
      have hnd := (HS.out.kept HKW2.out).nds k hkn
      clear k2 HNM HNAM
      generalize measE (lbl ds) k = me at *
      by_cases hme : me = 0
      · subst hme
        generalize hna : na k = nk at *
        obtain ⟨n1, n2, n3⟩ := nk
        simp only [slv] at d2 hnd
        have HRN := hidMk (r_New n1 n2 n3 (dmL ds k) w2 hnd)
        have HAD := hidMk (HADN.out.2 rfl)
        clear hnd hna HADN
        go_wp2_with fail
        refine HRN.out.mono ?_
        rintro e w3 (⟨q, hq, rfl, hNI, hrt, k3⟩ | ⟨at_, er, rfl, her, hNI, k3⟩)
        · have HK3 := hidMk k3
          have HR3 := hidMk (HR2.out.keep k3)
          have HRT := hidMk hrt
          have hOK : AddOk ds k 0 := HAD.out 0 0 hNI
          have HJ2 := hidMk (show ∀ j, j < k + 1 → AddOk ds j 0 from fun j hj => by
              by_cases e : j = k
              · subst e; exact hOK
              · exact HJ.out j (by omega))
          obtain ⟨hgd, hl1, hl2⟩ := new_good hNI
          have HTR := hidMk (tr_of hgd)
          obtain ⟨s1, s2⟩ := cells_small (m := m) (ds := ds) (k := k) (by omega) (by omega) (by omega) HJ2.out
          obtain ⟨e1, e2⟩ := cells_take (m := m) (ds := ds) (k := k) (by omega)
          have HE1 := hidMk e1
          have HE2 := hidMk e2
          have hpq : p < q := by have := HR2.out.hB; omega
          have t4 := HR3.out.c4
          have o4 := HR3.out.own
          have HO4 := hidMk (show (w3.alloc (.cells #[.pointer (some ⟨q, 0, none⟩)] 102)).ownsRow (p + 1) 102 1 tv k (ptrs rt k) from ownsRow_kept o4 ((Kept.refl w3).alloc _))
          have hB3 := HR3.out.hB
          have HB3 := hidMk hB3
          have hlk := lvs_len (tr_of hgd)
          clear k3 hrt hOK hNI hgd HAD HJ e1 e2 o4 hB3 HRN d2 q0 q1 q2 q3 r0 r1 r2 r3 hq
          go_wp2_with (at_builtin; refine wpList_pushP _ rfl _ _ rfl (p + 1) tv rt k rfl HO4.out ?c1 w3.heap.size q rfl ?c2 (by omega) _ rfl ?_)
          case c1 => have := HB3.out; simp; omega
          case c2 => simp
          intro g' cap y ho hc
          obtain ⟨f1, f2, f3⟩ := HR3.out.push ((Kept.refl w3).alloc _) HRT.out hpq (by omega) ho hc
          have hrt := (f3.tr k (by omega)).1
          simp only [if_true] at hrt
          obtain ⟨tb, tc, t1, _⟩ := hrt.ex
          have HLV := hidMk (r_Leaves hrt HTR.out)
          have HR4 := hidMk f3
          clear ho hc f3 hrt t4 HO4 HB3
          generalize cellsN m (ds.take k) = X at *
          generalize leavesN m (ds.take k) = Y at *
          generalize (dmL ds k).length = Ln at *
          generalize lvsN (dmL ds k) = LV at *
          have g1 : ((X : Int) * (Ln : Int)) = ((X * Ln : Nat) : Int) := by simp
          have g2 : ((Y : Int) * (LV.length : Int)) = ((Y * LV.length : Nat) : Int) := by simp
          generalize hXL : X * Ln = XL at *
          generalize hYL : Y * LV.length = YL at *
          have m1 : wrap64 ((X : Int) * (Ln : Int)) = XL := by rw [g1]; exact (wrap_small XL s1).1
          have m2 : wrap64 ((Y : Int) * (LV.length : Int)) = YL := by rw [g2]; exact (wrap_small YL s2).1
          have m3 : IntKind.i64.wrap ((X : Int) * (Ln : Int)) = XL := by rw [g1]; exact (wrap_small XL s1).2
          have m4 : IntKind.i64.wrap ((Y : Int) * (LV.length : Int)) = YL := by rw [g2]; exact (wrap_small YL s2).2
          clear hXL hYL g1 g2
          go_wp2_with fail
          refine HLV.out.mono ?_
          rintro e w6 ⟨v6, rfl, o6, k6⟩
          obtain ⟨a6, c6, rfl, _⟩ := o6.sl (by rw [ints_len]; unfold maxLen; omega)
          rw [ints_len]
          have HR6 := hidMk (HR4.out.keep k6)
          clear o6 k6
          go_wp2_with fail
          go_roundg (gk - 1)
          case measure => have := HKG.out; omega
          case rel =>
            refine ⟨k + 1, _, _, by have := HKG.out; omega, by go_num, ?_, ?_, HR6.out, HJ2⟩
            · rw [HE1.out]
            · rw [HE2.out]
        · have HFIN := hidMk (show CatIs ds ms lv sc (k : Nat) er from .inr ⟨by omega, .inl ⟨k, by omega, HAD.out at_ er hNI, her, HJ.out, rfl⟩⟩)
          have HER := hidMk her
          have her' : (er != 0) = true := by simpa using her
          have K3 := hidMk k3
          clear k3 hNI her HAD
          go_wp2_with fail
          go_ret3
          exact .inr ⟨k, er, rfl, HER.out, HFIN.out, HKW2.out.trans K3.out⟩
      · have HFIN := hidMk (show CatIs ds ms lv sc (k : Nat) me from .inr ⟨by omega, .inl ⟨k, by omega, HADN.out.1 hme, hme, HJ.out, rfl⟩⟩)
        have HME := hidMk hme
        have hme' : (me != 0) = true := by simpa using hme
        clear hme HADN hnd d2
        go_wp2_with fail
        go_ret3
        exact .inr ⟨k, me, rfl, HME.out, HFIN.out, HKW2.out⟩
    · have hk : k = n := by omega
      have htk : ds.take k = ds := List.take_of_length_le (by omega)
      rw [htk]
      have HAL := hidMk (show ∀ j, j < ds.length → AddOk ds j 0 from fun j hj => HJ.out j (by omega))
      have HRK := hidMk (show RG z wr p (p + 1) ds ds.length rt tv (.slice a n c) (.slice b m d) from by rw [show ds.length = k by omega]; exact hD)
      have hkk : ¬ ((k : Int) < (n : Int)) := by omega
      have HCC := hidMk (show ∀ y, Kept wr y → _ from fun y hy => HC.out y (hD.kept.trans hy))
      obtain ⟨wA, hwA⟩ : ∃ wA, wA = wr := ⟨_, rfl⟩
      subst hwA
      clear hkg HKG HJ htk HD hD
      go_wp2_with fail
      go_loopg [13] m (fun g x wq => ∃ j : Nat, j + g = m ∧ x = .int .i64 j ∧ Kept wA wq ∧ Hid (∀ i, i < j → measE ms i = 0))
      case atStart => exact ⟨0, by omega, rfl, Kept.refl _, hidMk fun j hj => absurd hj (by omega)⟩
      case round =>
        obtain ⟨j, hjg, rfl, hk, HI⟩ := hrel
        have HJG := hidMk hjg
        have HK := hidMk hk
        obtain ⟨q0, q1, q2, q3⟩ := HCC.out _ hk
        have HKW := hidMk (HKR.out.trans hk)
        by_cases hjm : j < m
        · have HNM := hidMk (show ∀ y, Kept w y → _ from fun y hy => ref6_named b m d ms j y (HM.out.kept hy) hjm (HMZ.out j (by omega)))
          generalize hme' : measE ms j = me at *
          have HME' := hidMk hme'
          have jm' : (j : Int) < m := by omega
          clear hjg hk hme'
          go_wp2_with fail
          refine (HNM.out _ HKW.out).mono ?_
          rintro e w2 ⟨rfl, k2⟩
          have K2 := hidMk k2
          clear k2
          by_cases hme : me = 0
          · subst hme
            have HI2 := hidMk (show ∀ i, i < j + 1 → measE ms i = 0 from fun i hi => by
              by_cases e : i = j
              · subst e; exact HME'.out
              · exact HI.out i (by omega))
            go_wp2_with fail
            go_roundg (gk - 1)
            case measure => have := HJG.out; omega
            case rel => exact ⟨j + 1, by have := HJG.out; omega, by go_num, HK.out.trans K2.out, HI2⟩
          · have HFIN := hidMk (show CatIs ds ms lv sc (-1) me from .inr ⟨by omega, .inr ⟨HAL.out, .inl ⟨j, by omega, by rw [HME'.out]; exact hme, HI.out, HME'.out.symm⟩, by rw [if_neg hme]⟩⟩)
            have HME := hidMk hme
            have hme' : (me != 0) = true := by simpa using hme
            clear hme
            go_wp2_with fail
            go_ret3
            exact .inr ⟨-1, me, rfl, HME.out, HFIN.out, HKW.out.trans K2.out⟩
        · have jm' : ¬ ((j : Int) < (m : Int)) := by omega
          have HT := hidMk (show tailE m ds lv sc = if 4096 < cellsN m ds ∨ 1024 < leavesN m ds then 5 else if fromB lv 1024 && fromB sc 8 then 0 else 17 from rfl)
          have HFT := hidMk (show ∀ er, er = tailE m ds lv sc → CatIs ds ms lv sc (if er = 0 then 0 else -1) er from fun er e => .inr ⟨by omega, .inr ⟨HAL.out, .inr ⟨fun i hi => HI.out i (by omega), by rw [hlm]; exact e⟩, rfl⟩⟩)
          have HRD := hidMk ((HRK.out.keep hk).rdm rfl (HM.out.kept HKW.out) rfl (HS.out.kept HKW.out))
          generalize tailE m ds lv sc = te at *
          generalize cellsN m ds = X at *
          generalize leavesN m ds = Y at *
          clear hk hjg HJG HI
          by_cases hX : 4096 < X
          · have HTT := hidMk (show (5 : Int) = te by rw [HT.out, if_pos (.inl hX)])
            have hX' : (4096 : Int) < X := by omega
            go_wp2_with fail
            go_ret3
            exact .inr ⟨-1, 5, rfl, by omega, HFT.out 5 HTT.out, HKW.out⟩
          have hX' : (X : Int) ≤ 4096 := by omega
          by_cases hY : 1024 < Y
          · have HTT := hidMk (show (5 : Int) = te by rw [HT.out, if_pos (.inr hY)])
            have hY' : (1024 : Int) < Y := by omega
            go_wp2_with fail
            go_ret3
            exact .inr ⟨-1, 5, rfl, by omega, HFT.out 5 HTT.out, HKW.out⟩
          have hY' : (Y : Int) ≤ 1024 := by omega
          have HT3 := hidMk (show te = if fromB lv 1024 && fromB sc 8 then 0 else 17 by rw [HT.out, if_neg (by omega)])
          have HN1 := hidMk (show ¬ (1 ≤ lv ∧ lv ≤ 1024) ∨ ¬ (1 ≤ sc ∧ sc ≤ 8) → (17 : Int) = te from fun h => by
            rw [HT3.out]
            rcases h with h | h
            · rw [show fromB lv 1024 = false from decide_eq_false h]; rfl
            · rw [show fromB sc 8 = false from decide_eq_false h, Bool.and_false]; rfl)
          by_cases l1 : lv < 1
          · have HTT := hidMk (HN1.out (.inl (by omega)))
            go_wp2_with fail
            go_ret3
            exact .inr ⟨-1, 17, rfl, by omega, HFT.out 17 HTT.out, HKW.out⟩
          have l1' : 1 ≤ lv := by omega
          by_cases l2 : 1024 < lv
          · have HTT := hidMk (HN1.out (.inl (by omega)))
            go_wp2_with fail
            go_ret3
            exact .inr ⟨-1, 17, rfl, by omega, HFT.out 17 HTT.out, HKW.out⟩
          have l2' : lv ≤ 1024 := by omega
          by_cases l3 : sc < 1
          · have HTT := hidMk (HN1.out (.inr (by omega)))
            go_wp2_with fail
            go_ret3
            exact .inr ⟨-1, 17, rfl, by omega, HFT.out 17 HTT.out, HKW.out⟩
          have l3' : 1 ≤ sc := by omega
          by_cases l4 : 8 < sc
          · have HTT := hidMk (HN1.out (.inr (by omega)))
            go_wp2_with fail
            go_ret3
            exact .inr ⟨-1, 17, rfl, by omega, HFT.out 17 HTT.out, HKW.out⟩
          have l4' : sc ≤ 8 := by omega
          have HTT := hidMk (show (0 : Int) = te by rw [HT3.out, show fromB lv 1024 = true from decide_eq_true ⟨l1', l2'⟩, show fromB sc 8 = true from decide_eq_true ⟨l3', l4'⟩]; rfl)
          go_wp2_with fail
          go_ret3
          exact .inl ⟨p, rt, rfl, HFT.out 0 HTT.out, HRD.out, HKW.out⟩
theorem ref6_New (a : Option Addr) (n c : Nat) (ds : List Dm) (na : Nat → Option Addr × Nat × Nat) (b : Option Addr) (m d : Nat) (ms : List ByteArray) (lv sc : Int) (w : World) (hs : Dss w a n ds na) (hm : Ss w b m ms) (hmz : ∀ i, i < ms.length → (msA ms i).size ≤ maxLen) :
    Calls Tryz.prog 21 #[.agg #[.slice a n c, .slice b m d, .int .i64 lv, .int .i64 sc]] w (RNewPost w ds ms lv sc) := by
  by_cases h : 1 ≤ n ∧ n ≤ 4 ∧ 1 ≤ m ∧ m ≤ 4
  · exact ref6_New_yes a n c ds na b m d ms lv sc w hs hm hmz ⟨h.1, h.2.1⟩ h.2.2
  · exact ref6_New_no a n c ds b m d ms lv sc w hs.len hm.len h
end Go.Proofs.YtpehinmckppjoaaGreatDoor
namespace Go.Proofs.YtpehinmckppjoaaGreatDoor
open Go.RowKit Go.Maps
set_option linter.unusedSimpArgs false
set_option linter.unusedVariables false

def k6 : List Nd := [(⟨#[97, 108, 108]⟩, -1), (⟨#[97]⟩, 0), (⟨#[98]⟩, 0)]
theorem one_ss {w : World} {g : Nat} {s : ByteArray} (h1 : w.cell? ⟨g, 0, none⟩ = some (.string s)) : Ss w (some ⟨g, 0, none⟩) 1 [s] := by
  refine ⟨rfl, by unfold maxLen; omega, fun _ => ⟨_, _, rfl, cell_lt h1, fun k hk => ?_⟩⟩
  have : k = 0 := by omega
  subst this
  exact h1
theorem new_cell (w : World) (vs : Array Value) (t : TypeId) (g i : Nat) (v : Value) (hg : g = w.heap.size) (hv : vs[i]? = some v) : (w.alloc (.cells vs t)).cell? ⟨g, i, none⟩ = some v := by
  subst hg
  simp [hv]
end Go.Proofs.YtpehinmckppjoaaGreatDoor
namespace Go.Proofs.YtpehinmckppjoaaGreatDoor
open Go.RowKit Go.Maps
set_option linter.unusedSimpArgs false
set_option linter.unusedVariables false

theorem add_one {ds : List Dm} {k : Nat} {e e' : Int} (h : AddOk ds k e) (h' : AddOk ds k e') : e = e' := by
  rcases h with ⟨h1, h2⟩ | ⟨h1, h2, h3⟩ | ⟨h1, h2, a, h3⟩ <;> rcases h' with ⟨g1, g2⟩ | ⟨g1, g2, g3⟩ | ⟨g1, g2, a', g3⟩
  · omega
  · rw [h1] at g1; cases g1
  · rw [h1] at g1; cases g1
  · rw [h1] at g1; cases g1
  · omega
  · exact absurd g2 h2
  · rw [h1] at g1; cases g1
  · exact absurd h2 g2
  · exact (newIs_one h3 g3).2
theorem check_one {ms : List ByteArray} {ds : List Dm} {lv sc e e' : Int} (h : CheckIs ms ds lv sc e) (h' : CheckIs ms ds lv sc e') : e = e' := by
  rcases h with ⟨i, h1, h2, h3, h4⟩ | ⟨h1, h2⟩ <;> rcases h' with ⟨i', g1, g2, g3, g4⟩ | ⟨g1, g2⟩
  · have : i = i' := by
      rcases Nat.lt_trichotomy i i' with c | c | c
      · exact absurd (g3 i c) h2
      · exact c
      · exact absurd (h3 i' c) g2
    subst this
    omega
  · exact absurd (g1 i h1) h2
  · exact absurd (h1 i' g1) g2
  · omega
theorem cat_one {ds : List Dm} {ms : List ByteArray} {lv sc a e a' e' : Int} (h : CatIs ds ms lv sc a e) (h' : CatIs ds ms lv sc a' e') : a = a' ∧ e = e' := by
  rcases h with ⟨h1, h2, h3⟩ | ⟨h1, ⟨k, k1, k2, k3, k4, k5⟩ | ⟨l1, l2, l3⟩⟩ <;> rcases h' with ⟨g1, g2, g3⟩ | ⟨g1, ⟨k', q1, q2, q3, q4, q5⟩ | ⟨m1, m2, m3⟩⟩
  · omega
  · exact absurd g1 h1
  · exact absurd g1 h1
  · exact absurd h1 g1
  · have : k = k' := by
      rcases Nat.lt_trichotomy k k' with c | c | c
      · exact absurd (add_one k2 (q4 k c)) k3
      · exact c
      · exact absurd (add_one q2 (k4 k' c)) q3
    subst this
    exact ⟨by omega, add_one k2 q2⟩
  · exact absurd (add_one k2 (m1 k k1)) k3
  · exact absurd h1 g1
  · exact absurd (add_one q2 (l1 k' q1)) q3
  · have := check_one l2 m2
    subst this
    exact ⟨by rw [l3, m3], rfl⟩
/-- A catalogue that can be. -/
structure CatOk (ds : List Dm) (ms : List ByteArray) : Prop where
  d1 : 1 ≤ ds.length
  d4 : ds.length ≤ 4
  m1 : 1 ≤ ms.length
  m4 : ms.length ≤ 4
  add : ∀ j, j < ds.length → AddOk ds j 0
  meas : ∀ j, j < ms.length → measE ms j = 0
theorem cat_ok {ds : List Dm} {ms : List ByteArray} {lv sc a : Int} (h : CatIs ds ms lv sc a 0) : CatOk ds ms := by
  rcases h with ⟨_, _, h3⟩ | ⟨h1, ⟨k, k1, k2, k3, k4, k5⟩ | ⟨l1, ⟨i, _, l2, _, l3⟩ | ⟨l2, _⟩, l3⟩⟩
  · omega
  · exact absurd rfl k3
  · exact absurd l3.symm l2
  · exact ⟨h1.1, h1.2.1, h1.2.2.1, h1.2.2.2, l1, l2⟩
theorem name_12 {s : ByteArray} (h : nameB s = true) : s.size ≤ 12 := by
  unfold nameB at h
  simp only [Bool.and_eq_true, decide_eq_true_eq] at h
  exact h.1.1.2
theorem meas_name {ms : List ByteArray} {i : Nat} (h : measE ms i = 0) : nameB (msA ms i) = true ∧ (i : Int) ≤ idxI ms (msA ms i) := by
  unfold measE at h
  by_cases c : nameB (msA ms i) = true
  · rw [if_pos c] at h
    refine ⟨c, ?_⟩
    by_cases d : idxI ms (msA ms i) < i
    · rw [if_pos d] at h; omega
    · omega
  · rw [if_neg c] at h; omega
theorem CatOk.mname {ds : List Dm} {ms : List ByteArray} (h : CatOk ds ms) (i : Nat) : (msA ms i).size ≤ 12 := by
  by_cases c : i < ms.length
  · exact name_12 (meas_name (h.meas i c)).1
  · have : msA ms i = ByteArray.empty := by unfold msA; rw [List.getD_eq_getElem?_getD, List.getElem?_eq_none (by omega)]; rfl
    rw [this]; decide
theorem CatOk.midx {ds : List Dm} {ms : List ByteArray} (h : CatOk ds ms) {i : Nat} (hi : i < ms.length) : idxI ms (msA ms i) = i := by
  have h1 := (meas_name (h.meas i hi)).2
  have h2 : idxS ms (msA ms i) ≤ i := idxS_le hi rfl
  have e1 : idxI ms (msA ms i) = idxS ms (msA ms i) := if_pos (by omega)
  omega
theorem good_name {l : List Nd} (h : Good l) (i : Nat) (hi : i < l.length) : nameB (nmA l i) = true ∧ fstN l (nmA l i) = i := by
  have h0 := h 0 (by omega) i hi
  have h1 := h 1 (by omega) i hi
  rw [chk_0] at h0
  rw [chk_1] at h1
  constructor
  · by_cases c : nameB (nmA l i) = true
    · exact c
    · rw [if_neg c] at h0; omega
  · by_cases c : fstN l (nmA l i) = i
    · exact c
    · rw [if_neg c] at h1; omega
theorem good_nmI {l : List Nd} (h : Good l) (i : Int) : (nmI l i).size ≤ 12 := by
  unfold nmI
  by_cases c : isP l i
  · rw [if_pos c]
    exact name_12 (good_name h _ (by unfold isP at c; omega)).1
  · rw [if_neg c]; decide
theorem CatOk.nmk {ds : List Dm} {ms : List ByteArray} (h : CatOk ds ms) (at_ : Nat → Int) (k : Nat) (hk : k < ds.length) : (nmK ds at_ k).size ≤ 12 := good_nmI (add_good (h.add k hk)).1 _
theorem CatOk.show_le {ds : List Dm} {ms : List ByteArray} (h : CatOk ds ms) (cm : Int) (at_ : Nat → Int) (k : Nat) (hk : k ≤ ds.length) : ∀ x, x ∈ showL ms ds cm at_ k → x.size ≤ 12 := by
  intro x hx
  unfold showL at hx
  rcases List.mem_cons.1 hx with rfl | hx
  · exact h.mname _
  · obtain ⟨j, hj, rfl⟩ := List.mem_map.1 hx
    exact h.nmk at_ j (by have := List.mem_range.1 hj; omega)
theorem inter_le (sep : List UInt8) : ∀ xs : List ByteArray, (∀ x, x ∈ xs → x.size ≤ 12) → (sep.intercalate (datas xs)).length ≤ xs.length * (12 + sep.length) := by
  intro xs
  induction xs with
  | nil => intro _; simp [datas, List.intercalate]
  | cons x r ih =>
    intro h
    have hx := h x (List.mem_cons_self ..)
    have hr := ih fun y hy => h y (List.mem_cons_of_mem _ hy)
    have hxl : x.data.toList.length ≤ 12 := by rw [Array.length_toList]; exact hx
    cases r with
    | nil => simp [datas, List.intercalate, List.intersperse] at hxl ⊢; omega
    | cons y s =>
      have e : sep.intercalate (datas (x :: y :: s)) = x.data.toList ++ (sep ++ sep.intercalate (datas (y :: s))) := by
        simp [datas, List.intercalate, List.intersperse]
      rw [e, List.length_append, List.length_append, show (x :: y :: s).length = (y :: s).length + 1 from rfl, Nat.add_mul]
      omega
theorem CatOk.join_le {ds : List Dm} {ms : List ByteArray} (h : CatOk ds ms) (cm : Int) (at_ : Nat → Int) (k : Nat) (hk : k ≤ ds.length) : (slash.data.toList.intercalate (datas (showL ms ds cm at_ k))).length ≤ 65 := by
  have h1 := inter_le slash.data.toList (showL ms ds cm at_ k) (h.show_le cm at_ k hk)
  rw [showL_len, show slash.data.toList.length = 1 from rfl] at h1
  have := h.d4
  omega
end Go.Proofs.YtpehinmckppjoaaGreatDoor
namespace Go.Proofs.YtpehinmckppjoaaGreatDoor
open Go.RowKit Go.Maps
theorem CatOk.place {ds : List Dm} {ms : List ByteArray} (h : CatOk ds ms) {k : Nat} (hk : k < ds.length) : idxI (lbl ds) (dmN ds k) = k := by
  have hl : (lbl ds).length = ds.length := lbl_len ds
  have h1 : idxS (lbl ds) (dmN ds k) ≤ k := idxS_le (by omega) (lbl_get ds k hk)
  have e1 : idxI (lbl ds) (dmN ds k) = idxS (lbl ds) (dmN ds k) := if_pos (by omega)
  have hi := idx_ahead hk
  rcases h.add k hk with ⟨_, e⟩ | ⟨_, _, e⟩ | ⟨_, g, _⟩
  · omega
  · omega
  · have := hi.1 g
    omega
end Go.Proofs.YtpehinmckppjoaaGreatDoor
namespace Go.Proofs.YtpehinmckppjoaaGreatDoor
open Go.RowKit Go.Maps
set_option linter.unusedSimpArgs false
set_option linter.unusedVariables false
end Go.Proofs.YtpehinmckppjoaaGreatDoor
