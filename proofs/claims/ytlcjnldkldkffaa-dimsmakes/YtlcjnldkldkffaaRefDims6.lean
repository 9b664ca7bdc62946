/- The reference's Show. -/
import Derived.Test.YtlcjnldkldkffaaRefDims5
import Derived.Laws.Concat
namespace Go.Proofs.Ytlcjnldkldkffaa
open Go.RowKit Go.Maps
set_option linter.unusedSimpArgs false
set_option linter.unusedVariables false

theorem joinB_one (sep x : ByteArray) : joinB sep [x] = x := by
  unfold joinB datas
  simp [List.intercalate, List.intersperse]
theorem inter_snoc (c x : List UInt8) : ∀ l : List (List UInt8), l ≠ [] → c.intercalate (l ++ [x]) = c.intercalate l ++ c ++ x
  | [], h => absurd rfl h
  | [y], _ => by simp [List.intercalate, List.intersperse]
  | y :: z :: r, _ => by
    have ih := inter_snoc c x (z :: r) (by simp)
    have e1 : ∀ t, c.intercalate (y :: z :: t) = y ++ c ++ c.intercalate (z :: t) := fun t => by simp [List.intercalate, List.intersperse]
    rw [List.cons_append, List.cons_append, e1, e1, ← List.cons_append, ih]
    simp [List.append_assoc]
theorem joinB_snoc (sep x : ByteArray) (l : List ByteArray) (h : l ≠ []) : joinB sep (l ++ [x]) = joinB sep l ++ sep ++ x := by
  apply ByteArray.ext
  apply Array.toList_inj.1
  rw [joinB_data]
  unfold datas
  rw [List.map_append, List.map_cons, List.map_nil, inter_snoc _ _ _ (by simpa using h)]
  simp [joinB, datas]
end Go.Proofs.Ytlcjnldkldkffaa
