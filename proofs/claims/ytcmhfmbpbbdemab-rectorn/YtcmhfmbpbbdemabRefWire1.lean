/- The definition's Put, Text, All, Same (layer 4). -/
import Derived.Test.YtcmhfmbpbbdemabWire7
import Derived.Laws.AppendOwnNone
namespace Go.Proofs.Ytcmhfmbpbbdemab
open Go.RowKit
set_option linter.unusedSimpArgs false
set_option linter.unusedVariables false

theorem wpList_app {ops : Array Oper} {rest : List Oper} {o : Oper} {a : Act} {Q : Exit → Act → World → Prop} (w : World) (hgd : o.guard = none) (s x : Operand)
    (ho : o.op = .call { callee := .builtin .append, args := #[s, x], argTypes := #[22, 22] })
    (w0 : World) (v : Value) (l : List Int) (hs : a.eval s = v) (hv : Owned w0 w v l) (hk : Kept w0 w) (b : Option Addr) (n c : Nat) (m : List Int) (hx : a.eval x = .slice b n c) (hsl : Sl .u8 w b n m) (hnil : b = none → c = 0)
    (hbig : (l.length + n) + (l.length + n) / 4 + 192 ≤ 281474976710656)
    (h : ∀ v' w', Owned w0 w' v' (l ++ m) → Kept w0 w' → wpList Try.prog ops Q rest (a.put o.dst v') w') : wpList Try.prog ops Q (o :: rest) a w := by
  obtain ⟨i0, hi0, hz0, hz1, hz2⟩ := u8info
  have hl := hsl.len
  cases b with
  | none =>
    have hn : n = 0 := by
      by_cases hn : 0 < n
      · obtain ⟨b', o', e, _⟩ := hsl.cells hn
        cases e
      · omega
    subst hn
    have hm : m = [] := List.eq_nil_of_length_eq_zero hl
    subst hm
    rw [hnil rfl] at hx
    refine wpList_append_own_none hgd s x 22 ho w0.heap.size 5 i0 1 Try.underlying22 hi0 v _ _ hs hv hx ?_
    exact h v w (by rw [List.append_nil]; exact hv) hk
  | some ad =>
    refine wpList_append_own_wide w hgd s x 22 ho w0.heap.size 5 i0 (.int .u8 0) 1 1 Try.underlying22 hi0 hz0 hz1 hz2 rfl (by decide) v _ _ hs hv ad n c (m.map (Value.int .u8)) hx (by simpa using hl) (sl_news hsl rfl) (u8s_one m) (by unfold maxLen; omega) (by omega) hk.size ?_
    intro v' w' h2 h3 _
    refine h v' w' ?_ (kept_grown hk hv h3)
    unfold Owned
    rw [List.length_append, List.map_append, hl]
    exact h2

theorem not_word (n : Int) (h : isI n) (h0 : n < 0) : bits .xor .u64 IntKind.u64.max (IntKind.u64.wrap (IntKind.u64.wrap n * 2)) = (zig n : Int) := by
  unfold isI at h
  rw [show IntKind.u64.max = 18446744073709551615 by decide]
  rw [IntKind.wrap_u64, IntKind.wrap_u64]
  rw [u64_xor _ _ (by omega) (by omega) (by omega) (by omega)]
  unfold zig
  rw [if_neg (by omega), Nat.xor_comm]
  rw [show ((18446744073709551615 : Int)).toNat = 18446744073709551615 from rfl, xor_ones _ (by omega)]
  omega
theorem two_word (n : Int) (h : isI n) (h0 : 0 ≤ n) : IntKind.u64.wrap (IntKind.u64.wrap n * 2) = (zig n : Int) := by
  unfold isI at h
  rw [IntKind.wrap_u64, IntKind.wrap_u64]
  unfold zig
  rw [if_pos h0]
  omega

end Go.Proofs.Ytcmhfmbpbbdemab
