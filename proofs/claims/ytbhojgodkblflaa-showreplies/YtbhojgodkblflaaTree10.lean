/- tree.New. -/
import Derived.Test.YtbhojgodkblflaaTree9
namespace Go.Proofs.Ytbhojgodkblflaa
open Go.RowKit Go.Maps
set_option linter.unusedSimpArgs false
set_option linter.unusedVariables false

/-- What New answers. -/
def NewPost (w : World) (l : List Nd) (e : Ending) (w' : World) : Prop :=
  (∃ p, (w.heap.size ≤ p ∧ Solid w.heap.size w'.heap.size p l w') ∧ e = .returned (.tuple #[.pointer (some ⟨p, 0, none⟩), .int .i64 0, .int .i64 0]) ∧ NewIs l 0 0 ∧ Whole w' p l ∧ Kept w w') ∨
  ∃ at_ er, e = .returned (.tuple #[.pointer none, .int .i64 at_, .int .i64 er]) ∧ er ≠ 0 ∧ NewIs l at_ er ∧ Kept w w'
def TM0 (w : World) (p mb pb : Nat) (l : List Nd) : Prop := TM w p mb pb l (fun _ => (none, 0, 0)) (fun _ => -1) (fun _ => 0) (fun _ => 0) (.slice none 0 0) (.slice none 0 0)

set_option maxHeartbeats 1000000 in
set_option maxRecDepth 100000 in
theorem tree_New (a : Option Addr) (n c : Nat) (l : List Nd) (w : World) (hs : Ns w a n l) :
    Calls Try.prog 49 #[.slice a n c] w (NewPost w l) := by
  have hlen := hs.len
  have hbig := hs.big
  unfold maxLen at hbig
  by_cases h1 : n < 1
  · have h1' : (n : Int) < 1 := by omega
    clear hs
    go_enter Try.func49, Try.ntmps49
    go_wp2_with fail
    go_ret3
    exact .inr ⟨0, 5, rfl, by omega, .inl ⟨by omega, rfl, rfl⟩, Kept.refl _⟩
  by_cases h2 : 32 < n
  · have h1' : (1 : Int) ≤ n := by omega
    have h2' : (32 : Int) < n := by omega
    clear hs
    go_enter Try.func49, Try.ntmps49
    go_wp2_with fail
    go_ret3
    exact .inr ⟨0, 5, rfl, by omega, .inl ⟨by omega, rfl, rfl⟩, Kept.refl _⟩
  have h1' : (1 : Int) ≤ n := by omega
  have h2' : (n : Int) ≤ 32 := by omega
  have hl1 : 1 ≤ l.length := by omega
  have HO := hidMk (tree_of a n c l w hs (by omega) (by omega))
  clear hs
  go_enter Try.func49, Try.ntmps49
  go_wp2_with fail
  refine HO.out.mono ?_
  rintro e w1 ⟨p, mb, pb, rfl, hp, hm, hpb, ht, hk⟩
  have HT := hidMk (show TM0 w1 p mb pb l from ht)
  have HK := hidMk hk
  clear ht hk
  go_wp2_with fail
  go_loopg [19] 5 (fun g x wr => ∃ q : Nat, q + g = 5 ∧ x = .int .i64 q ∧ TM0 wr p mb pb l ∧ Kept w wr ∧ Hid (∀ q', q' < q → ∀ i, i < l.length → chk l q' i = 0))
  case atStart => exact ⟨0, by omega, rfl, HT.out, HK.out, hidMk fun q' h => absurd h (by omega)⟩
  case round =>
    obtain ⟨q, hq, rfl, hT, hK, HQ⟩ := hrel
    obtain ⟨gq, hgq⟩ : ∃ gq, gq = gk := ⟨_, rfl⟩
    subst hgq
    have HT2 := hidMk hT
    have HK2 := hidMk hK
    clear hT hK
    by_cases hq5 : q < 5
    · have hq5' : (q : Int) < 5 := by omega
      go_wp2_with fail
      go_loopg [24] n (fun g x wi => ∃ k : Nat, k + g = n ∧ x = .int .i64 k ∧ TM0 wi p mb pb l ∧ Kept w wi ∧ Hid (∀ i, i < k → chk l q i = 0))
      case atStart => exact ⟨0, by omega, rfl, HT2.out, HK2.out, hidMk fun q' h => absurd h (by omega)⟩
      case round =>
        obtain ⟨k, hk, rfl, hT, hK, HI⟩ := hrel
        by_cases hkn : k < n
        · have HA := hidMk (tree_ask (show TM _ p mb pb l _ _ _ _ _ _ from hT) q k hq5 (by omega) (fun e => good_noLoop (fun i hi => HQ.out 3 (by omega) i hi)))
          have HT3 := hidMk hT
          have HK3 := hidMk hK
          clear hT hK
          by_cases hc : chk l q k = 0
          · have HI2 := hidMk (show ∀ i, i < k + 1 → chk l q i = 0 from fun i hi => by
              by_cases e : i = k
              · subst e; exact hc
              · exact HI.out i (by omega))
            rw [hc] at HA
            clear hc
            go_wp2_with (go_at_call 69; refine HA.out.mono ?_; rintro e w2 ⟨rfl, k2⟩; have K2 := hidMk k2; clear k2)
            go_roundg (gk - 1)
            case measure => omega
            case rel => exact ⟨k + 1, by omega, by go_num, (show TM _ p mb pb l _ _ _ _ _ _ from HT3.out).kept K2.out hl1, HK3.out.trans K2.out, HI2⟩
          · have HB := hidMk (show BadAt l q k from ⟨hq5, by omega, hc, HQ.out, HI.out⟩)
            have HC := hidMk (show chk l q k = chk l q k from rfl)
            have hc' : (chk l q k != 0) = true := by simpa using hc
            have HE := hidMk hc
            clear hc HC
            obtain ⟨er, her⟩ : ∃ er, chk l q k = er := ⟨_, rfl⟩
            rw [her] at HA hc' HE
            have HER := hidMk her
            clear her
            go_wp2_with (go_at_call 69; refine HA.out.mono ?_; rintro e w2 ⟨rfl, k2⟩; have K2 := hidMk k2; clear k2)
            go_ret3
            exact .inr ⟨k, er, rfl, HE.out, .inr ⟨by omega, .inr ⟨q, k, HB.out, rfl, HER.out.symm⟩⟩, HK3.out.trans K2.out⟩
        · have e : k = n := by omega
          subst e
          have HQ2 := hidMk (show ∀ q', q' < q + 1 → ∀ i, i < l.length → chk l q' i = 0 from fun q' hq' i hi => by
            by_cases e : q' = q
            · subst e; exact HI.out i (by omega)
            · exact HQ.out q' (by omega) i hi)
          have HT3 := hidMk hT
          have HK3 := hidMk hK
          clear hT hK
          have hkk : ¬ ((k : Int) < (k : Int)) := by omega
          go_wp2_with fail
          go_roundg (gq - 1)
          case measure => omega
          case rel => exact ⟨q + 1, by omega, by go_num, HT3.out, HK3.out, HQ2⟩
    · have e : q = 5 := by omega
      subst e
      have HG := hidMk (show Good l from fun q' hq' => HQ.out q' hq')
      have HL := hidMk (tree_lay (show TM _ p mb pb l _ _ _ _ _ _ from HT2.out) hl1 (tr_of HG.out) w.heap.size ⟨hp, hm, hpb, HK2.out.size⟩)
      go_wp2_with (go_at_call 70; refine HL.out.mono ?_; rintro e w2 ⟨rfl, hw2, hc2⟩; have HW2 := hidMk hw2; have HC2 := hidMk hc2; clear hw2 hc2)
      go_ret3
      exact .inl ⟨p, ⟨hp, HW2.out⟩, rfl, .inr ⟨by omega, .inl ⟨HG.out, rfl, rfl⟩⟩, HW2.out.whole, HC2.out.kept HK2.out (fun j hj => by rcases hj with h | h <;> omega)⟩
end Go.Proofs.Ytbhojgodkblflaa
