/- The reference's Same, of texts that are the same. · The reference's Same, of catalogues that are the same. -/
import Derived.Test.YtbhojgodkblflaaLawDimsE
namespace Go.Proofs.Ytbhojgodkblflaa
open Go.RowKit Go.Maps
set_option linter.unusedSimpArgs false
set_option linter.unusedVariables false
set_option maxHeartbeats 1000000 in
theorem ref3_Same (a b : Option Addr) (n ca cb : Nat) (l : List ByteArray) (w : World) (hs : Ss w a n l) (ht : Ss w b n l) :
    Calls Try.prog 16 #[.slice a n ca, .slice b n cb] w fun e w' => e = .returned (.bool true) ∧ Kept w w' := by
  have HS := hidMk hs
  have HT := hidMk ht
  have hbig := hs.big
  unfold maxLen at hbig
  have hnn : ((n : Int) != (n : Int)) = false := by simp
  clear hs ht
  go_enter Try.func16, Try.ntmps16
  go_wp2_with fail
  go_loopg [5] n (fun g x wr => ∃ k : Nat, k + g = n ∧ x = .int .i64 k ∧ Kept w wr)
  case atStart => exact ⟨0, by omega, rfl, Kept.refl _⟩
  case round =>
    obtain ⟨k, hkg, rfl, hk⟩ := hrel
    have HKG := hidMk hkg
    have HK := hidMk hk
    by_cases hkn : k < n
    · obtain ⟨b1, o1, rfl, _, h1⟩ := (HS.out.kept hk).cells (by omega)
      obtain ⟨b2, o2, rfl, _, h2⟩ := (HT.out.kept hk).cells (by omega)
      have c1 := h1 k hkn
      have c2 := h2 k hkn
      have kn' : (k : Int) < n := by omega
      clear h1 h2 hk hkg
      generalize l.getD k ByteArray.empty = s at *
      have hz2 : (s.toList != s.toList) = false := by simp
      go_wp2_with fail
      go_quiet (fail)
      go_wp2_with fail
      go_roundg (gk - 1)
      case measure => have := HKG.out; omega
      case rel => exact ⟨k + 1, by have := HKG.out; omega, by go_num, HK.out.drewN _⟩
    · have kn' : ¬ ((k : Int) < (n : Int)) := by omega
      clear hk
      go_wp2_with fail
      go_ret
      exact ⟨rfl, HK.out⟩
end Go.Proofs.Ytbhojgodkblflaa
namespace Go.Proofs.Ytbhojgodkblflaa
open Go.RowKit Go.Maps
set_option linter.unusedSimpArgs false
set_option linter.unusedVariables false
end Go.Proofs.Ytbhojgodkblflaa
