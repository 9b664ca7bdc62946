/- wire.behind, Put, Text, All: numbers and texts behind bytes. -/
import Derived.Test.YtapcmkhpbdphoaaChecked
import Derived.Test.YtapcmkhpbdphoaaWireBits
import Derived.Test.YtapcmkhpbdphoaaOwn
import Derived.ArgAppend
import Derived.Lib.AppendStr
import Derived.WalkSpells
namespace Go.Proofs.Ytapcmkhpbdphoaa
open Go.RowKit
set_option linter.unusedSimpArgs false
set_option linter.unusedVariables false

/-- Bytes in a row of the call's own. -/
def Owned (w0 w : World) (v : Value) (l : List Int) : Prop := w.ownsRow w0.heap.size 5 1 v l.length (l.map (Value.int .u8))
/-- Bytes that are not written behind: a row of the call's own, or one without room. -/
def BRow (w0 w : World) (v : Value) (l : List Int) : Prop := Owned w0 w v l ∨ ∃ a n, v = .slice a n n ∧ Sl .u8 w a n l
theorem BRow.alloc {w0 w : World} {v : Value} {l : List Int} (h : BRow w0 w v l) (o : Obj) : BRow w0 (w.alloc o) v l := by
  rcases h with h | ⟨a, n, rfl, h⟩
  · exact .inl (h.alloc o)
  · exact .inr ⟨a, n, rfl, h.kept ((Kept.refl w).alloc o)⟩
theorem ownsRow_base {w : World} {B B' : Nat} {e : TypeId} {size n : Nat} {v : Value} {xs : List Value} (h : w.ownsRow B e size v n xs) (hB : B' ≤ B) : w.ownsRow B' e size v n xs := by
  obtain ⟨h0, h1 | ⟨g, cap, cur, hv, hb, r⟩⟩ := h
  · exact ⟨h0, .inl h1⟩
  · exact ⟨h0, .inr ⟨g, cap, cur, hv, Nat.le_trans hB hb, r⟩⟩
theorem u8info : ∃ i0, Try.prog.info? 5 = some i0 ∧ i0.zero = some (.int .u8 0) ∧ i0.size = 1 ∧ i0.bytes = 1 := by
  have h : (Try.prog.info? 5).map (fun i => (i.zero, i.size, i.bytes)) = some (some (.int .u8 0), 1, 1) := by kernel_rfl
  exact info_parts h

theorem wpList_push {ops : Array Oper} {rest : List Oper} {o : Oper} {a : Act} {Q : Exit → Act → World → Prop} (w : World) (hgd : o.guard = none) (s x : Operand)
    (ho : o.op = .call { callee := .builtin .append, args := #[s, x], argTypes := #[33, 33] })
    (w0 : World) (v : Value) (l : List Int) (hs : a.eval s = v) (hv : BRow w0 w v l) (hk : Kept w0 w) (g : Nat) (y : Int) (hx : a.eval x = .slice (some ⟨g, 0, none⟩) 1 1) (hcell : w.cell? ⟨g, 0, none⟩ = some (.int .u8 y))
    (h47 : l.length + 1 ≤ 140737488355328)
    (h : ∀ v' w', Owned w0 w' v' (l ++ [y]) → Kept w0 w' → wpList Try.prog ops Q rest (a.put o.dst v') w') : wpList Try.prog ops Q (o :: rest) a w := by
  obtain ⟨i0, hi0, hz0, hz1, hz2⟩ := u8info
  have hc : ∀ (j : Nat) u, [Value.int .u8 y][j]? = some u → w.cell? ((⟨g, 0, none⟩ : Addr).add j) = some u := by
    intro j u hj
    cases j with
    | zero => simp at hj; subst hj; simpa [Addr.add] using hcell
    | succ j => simp at hj
  have h1 : ∀ u ∈ [Value.int .u8 y], u.oneCell' = true := by intro u hu; simp at hu; subst hu; rfl
  rcases hv with hown | ⟨b, n, rfl, hsl⟩
  · refine wpList_append_own w hgd s x 33 ho w0.heap.size 5 i0 (.int .u8 0) 1 1 Try.underlying33 hi0 hz0 hz1 hz2 rfl (by decide) v _ _ hs hown ⟨g, 0, none⟩ 1 1 [.int .u8 y] hx rfl hc h1 (by unfold maxLen; omega) (by omega) hk.size ?_
    intro v' w' h2 h3 _
    exact h v' w' (by unfold Owned; simpa using h2) (kept_grown hk hown h3)
  · have hl := hsl.len
    refine wpList_append_grows w hgd s x 33 ho 5 i0 (.int .u8 0) 1 1 Try.underlying33 hi0 hz0 hz1 hz2 rfl (by decide) b n n (l.map (Value.int .u8)) hs ?_ (by simp; omega) ?_ ⟨g, 0, none⟩ 1 1 [.int .u8 y] hx rfl hc h1 (by omega) (by unfold maxLen; omega) (by omega) ?_
    · intro hb
      by_cases hn : 0 < n
      · obtain ⟨b', o', e, _⟩ := hsl.cells hn
        rw [hb] at e; cases e
      · omega
    · intro b' hb j u hj
      have hjn : j < n := by
        have := (List.getElem?_eq_some_iff.1 hj).1
        simp at this; omega
      obtain ⟨bb, oo, e, _, hcs⟩ := hsl.cells (by omega)
      rw [hb] at e
      cases e
      rw [Addr.add_lit, hcs j hjn, ← hj, List.getElem?_map, List.getElem?_eq_getElem (by omega)]
      simp [List.getD, List.getElem?_eq_getElem (show j < l.length by omega)]
    · intro v' w' h2 h3
      refine h v' w' ?_ (Below.grown hk h3 hk.size (fun k hk => by cases hk))
      unfold Owned
      rw [List.length_append, List.map_append, hl]
      exact ownsRow_base h2 hk.size
end Go.Proofs.Ytapcmkhpbdphoaa
