/- The walk of the law ShareSplits. -/
import Derived.Test.YtldfnlkineehbaaRefSplit2
namespace Go.Proofs.Ytldfnlkineehbaa
open Go.RowKit
set_option linter.unusedSimpArgs false
set_option linter.unusedVariables false

theorem sl_none (k : IntKind) (w : World) : Sl k w none 0 [] := ⟨rfl, Nat.zero_le _, fun hp => absurd hp (by omega)⟩

set_option maxHeartbeats 1000000 in
theorem law_ShareSplits (whole : Int) (a : Option Addr) (len cap : Nat) (l : List Int) (w : World) (hw : isU whole) (hs : Sl .u64 w a len l) (hn : ∀ x ∈ l, isU x) :
    Calls Try.prog 7 #[.int .u64 whole, .slice a len cap] w fun e w' => e = .returned (.bool true) ∧ Below w.heap.size w w' := by
  have hbig := hs.big
  unfold maxLen at hbig
  by_cases hb : 1100 < len
  · clear hs hn hw
    go_enter Try.func7, Try.ntmps7
    go_wp2_with fail
    refine (law2_known _).mono ?_
    rintro e w7 ⟨rfl, k7⟩
    go_wp2_with fail
    go_ret
    exact ⟨rfl, k7⟩
  by_cases he : splE len l = 0
  · obtain ⟨h0, h1, h2, h3⟩ := spl_ok hn he
    have C1 := hidMk (share_Split_ok whole (sumL l) a len cap l w hs hn h0 h1 hw rfl h2 h3)
    have HS := hidMk hs
    have HN := hidMk hn
    have HW := hidMk hw
    have HP := hidMk (show 0 < sumL l ∧ sumL l < 18446744073709551616 from ⟨h2, h3⟩)
    clear hs hn hw he h2 h3
    go_enter Try.func7, Try.ntmps7
    go_wp2_with fail
    refine C1.out.mono ?_
    rintro e w1 ⟨P, hP, rfl, hp, k1, f, himg, hsrt⟩
    have C2 := hidMk (ref_Split_ok whole (sumL l) a len cap l f w1 (HS.out.kept k1) HN.out h0 h1 HW.out rfl HP.out.1 HP.out.2 himg hsrt)
    have HPP := hidMk hp
    have HK := hidMk k1
    clear hp k1 himg hsrt C1
    go_wp2_with fail
    refine C2.out.mono ?_
    rintro e w2 ⟨Q, cq, hQ, rfl, hq, k2⟩
    have C3 := hidMk (ref_Same_yes _ _ len len cq _ w2 ((HPP.out.kept k2).sl (by unfold maxLen; omega)) (hq.sl (by unfold maxLen; omega)))
    have HK2 := hidMk (HK.out.trans k2)
    clear hq k2 C2 HPP HK
    go_wp2_with fail
    refine C3.out.mono ?_
    rintro e w3 ⟨rfl, k3⟩
    go_wp2_with fail
    refine (law2_known _).mono ?_
    rintro e w7 ⟨rfl, k7⟩
    go_wp2_with fail
    go_ret
    exact ⟨rfl, (HK2.out.trans k3).trans k7⟩
  · have C1 := share_Split_err whole a len cap l w hs hn he
    have C2 := ref_Split_err whole a len cap l w hs hn he
    have C3 := hidMk (ref_Same_yes none none 0 0 0 [] w (sl_none _ _) (sl_none _ _))
    have H1 := hidMk C1
    have H2 := hidMk C2
    clear C1 C2 hs hn he
    generalize splE len l = E at *
    go_enter Try.func7, Try.ntmps7
    go_wp2_with fail
    refine H1.out.mono ?_
    rintro e w1 ⟨rfl, rfl⟩
    go_wp2_with fail
    refine H2.out.mono ?_
    rintro e w1 ⟨rfl, rfl⟩
    go_wp2_with fail
    refine C3.out.mono ?_
    rintro e w3 ⟨rfl, k3⟩
    go_wp2_with fail
    refine (law2_known _).mono ?_
    rintro e w7 ⟨rfl, k7⟩
    go_wp2_with fail
    go_ret
    exact ⟨rfl, k3.trans k7⟩
end Go.Proofs.Ytldfnlkineehbaa
