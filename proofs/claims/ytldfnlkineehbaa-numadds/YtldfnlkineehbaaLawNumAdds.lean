/- The walk of the law NumAdds. -/
import Derived.Test.YtldfnlkineehbaaNum5
namespace Go.Proofs.Ytldfnlkineehbaa
open Go.RowKit
set_option linter.unusedSimpArgs false
set_option linter.unusedVariables false

theorem law_NumAdds (a b : Int) (w : World) (ha : isI a) (hb : isI b) :
    Calls Try.prog 3 #[.int .i64 a, .int .i64 b] w fun e w' => e = .returned (.bool true) ∧ Below w.heap.size w w' := by
  go_enter Try.func3, Try.ntmps3
  go_wp2_with fail
  refine (num_Add _ _ _ ha hb).mono ?_
  rintro e w1 ⟨rfl, rfl⟩
  go_wp2_with fail
  refine (ref_Add _ _ _ ha hb).mono ?_
  rintro e w2 ⟨rfl, k2⟩
  go_wp2_with fail
  refine (num_Sub _ _ _ ha hb).mono ?_
  rintro e w3 ⟨rfl, rfl⟩
  go_wp2_with fail
  refine (ref_Sub _ _ _ ha hb).mono ?_
  rintro e w4 ⟨rfl, k4⟩
  go_wp2_with fail
  refine (num_Neg _ _ ha).mono ?_
  rintro e w5 ⟨rfl, rfl⟩
  go_wp2_with fail
  refine (ref_Neg _ _ ha).mono ?_
  rintro e w6 ⟨rfl, k6⟩
  go_wp2_with fail
  refine (law_known _).mono ?_
  rintro e w7 ⟨rfl, k7⟩
  go_wp2_with fail
  go_ret
  exact ⟨rfl, ((k2.trans k4).trans k6).trans k7⟩
end Go.Proofs.Ytldfnlkineehbaa
