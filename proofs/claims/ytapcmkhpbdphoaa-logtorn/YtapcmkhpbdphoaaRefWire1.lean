/- The definition's Put, Text, All, Same (layer 4). -/
import Derived.Test.YtapcmkhpbdphoaaWire7
import Derived.Laws.AppendOwnNone
namespace Go.Proofs.Ytapcmkhpbdphoaa
open Go.RowKit
set_option linter.unusedSimpArgs false
set_option linter.unusedVariables false

theorem wpList_app {ops : Array Oper} {rest : List Oper} {o : Oper} {a : Act} {Q : Exit → Act → World → Prop} (w : World) (hgd : o.guard = none) (s x : Operand)
    (ho : o.op = .call { callee := .builtin .append, args := #[s, x], argTypes := #[33, 33] })
    (w0 : World) (v : Value) (l : List Int) (hs : a.eval s = v) (hv : Owned w0 w v l) (hk : Kept w0 w) (b : Option Addr) (n c : Nat) (m : List Int) (hx : a.eval x = .slice b n c) (hsl : Sl .u8 w b n m) (hnil : b = none → c = 0)
    (hbig : (l.length + n) + (l.length + n) / 4 + 192 ≤ 281474976710656)
    (h : ∀ v' w', Owned w0 w' v' (l ++ m) → Kept w0 w' → wpList Try.prog ops Q rest (a.put o.dst v') w') : wpList Try.prog ops Q (o :: rest) a w := by
  obtain ⟨i0, hi0, hz0, hz1, hz2⟩ := u8info
  have hl := hsl.len
  cases b with
  | none =>
    have hn : n = 0 := by
      by_cases hn : 0 < n
      · obtain ⟨b', o', e, _⟩ := hsl.cells hn
        cases e
      · omega
    subst hn
    have hm : m = [] := List.eq_nil_of_length_eq_zero hl
    subst hm
    rw [hnil rfl] at hx
    refine wpList_append_own_none hgd s x 33 ho w0.heap.size 5 i0 1 Try.underlying33 hi0 v _ _ hs hv hx ?_
    exact h v w (by rw [List.append_nil]; exact hv) hk
  | some ad =>
    refine wpList_append_own_wide w hgd s x 33 ho w0.heap.size 5 i0 (.int .u8 0) 1 1 Try.underlying33 hi0 hz0 hz1 hz2 rfl (by decide) v _ _ hs hv ad n c (m.map (Value.int .u8)) hx (by simpa using hl) (sl_news hsl rfl) (u8s_one m) (by unfold maxLen; omega) (by omega) hk.size ?_
    intro v' w' h2 h3 _
    refine h v' w' ?_ (kept_grown hk hv h3)
    unfold Owned
    rw [List.length_append, List.map_append, hl]
    exact h2

theorem not_word (n : Int) (h : isI n) (h0 : n < 0) : bits .xor .u64 IntKind.u64.max (IntKind.u64.wrap (IntKind.u64.wrap n * 2)) = (zig n : Int) := by
  unfold isI at h
  rw [show IntKind.u64.max = 18446744073709551615 by decide]
  rw [IntKind.wrap_u64, IntKind.wrap_u64]
  rw [u64_xor _ _ (by omega) (by omega) (by omega) (by omega)]
  unfold zig
  rw [if_neg (by omega), Nat.xor_comm]
  rw [show ((18446744073709551615 : Int)).toNat = 18446744073709551615 from rfl, xor_ones _ (by omega)]
  omega
theorem two_word (n : Int) (h : isI n) (h0 : 0 ≤ n) : IntKind.u64.wrap (IntKind.u64.wrap n * 2) = (zig n : Int) := by
  unfold isI at h
  rw [IntKind.wrap_u64, IntKind.wrap_u64]
  unfold zig
  rw [if_pos h0]
  omega

set_option maxHeartbeats 1000000 in
set_option maxRecDepth 100000 in
theorem ref_Put (a : Option Addr) (n c : Nat) (l : List Int) (x : Int) (w : World) (hs : Sl .u8 w a n l) (hnil : a = none → c = 0) (hx : isI x) (hl : n ≤ 1000000) :
    Calls Try.prog 35 #[.slice a n c, .int .i64 x] w fun e w' => ∃ v, e = .returned v ∧ Owned w w' v (l ++ encI x) ∧ Kept w w' := by
  have hlen := hs.len
  have H := hidMk hs
  have HN := hidMk hnil
  have HLEN := hidMk (encI_len x hx)
  have HE := hidMk (show encI x = enc (zig x) from rfl)
  have hlt := zig_lt hx
  have g1 := not_word x hx
  have g2 := two_word x hx
  clear hs hnil
  by_cases hx0 : x < 0
  · have g1 := g1 hx0
    clear g2
    generalize zig x = u0 at *
    go_enter Try.func35, Try.ntmps35
    go_wp2_with (at_builtin; refine wpList_app _ rfl _ _ rfl w _ [] rfl (World.ownsRow_nil _ _ _ _) (Kept.refl _) a n c l rfl H.out HN.out ?c1 ?_)
    case c1 => simp; omega
    intro v1 w1 o1 k1
    have O1 := hidMk o1
    have K1 := hidMk k1
    clear o1 k1
    go_wp2_with fail
    go_loopw [5, 6] (fun v b wr => ∃ (u : Nat) (m : List Int), b = .int .u64 u ∧ u < 18446744073709551616 ∧ Hid (m ++ enc u = l ++ encI x) ∧ Hid (Owned w wr v m) ∧ Hid (Kept w wr)) (fun _ b _ => (intOf b).toNat)
    case atStart => exact ⟨u0, l, rfl, hlt, hidMk (by rw [HE.out]), O1, K1⟩
    case round =>
      obtain ⟨u, m, rfl, hu, H1, H2, H3⟩ := hrel
      have hml : m.length + (enc u).length = l.length + (encI x).length := by
        have := congrArg List.length H1.out
        simpa using this
      have hpos := enc_pos u
      have hle := HLEN.out
      have h47 : m.length + 1 ≤ 140737488355328 := by omega
      clear hml hpos hle
      by_cases h128 : 128 ≤ u
      · have hge : (128 : Int) ≤ (u : Int) := by omega
        obtain ⟨y, hy⟩ : ∃ y : Int, ((u % 128 + 128 : Nat) : Int) = y := ⟨_, rfl⟩
        have hyw : (u : Int) % 128 + 128 = y := by omega
        have HY := hidMk hy
        have HYW := hidMk hyw
        clear hy hyw
        go_wp2_with (at_builtin; refine wpList_push _ rfl _ _ rfl w _ m rfl (.inl (H2.out.alloc _)) (H3.out.alloc _) wr.heap.size y rfl ?c1 ?c2 ?_)
        case c1 => simp [HYW.out]
        case c2 => omega
        intro v' w' ho hk'
        have H4 := hidMk ho
        have H5 := hidMk hk'
        clear ho hk'
        go_wp2_with fail
        refine ⟨⟨u / 128, m ++ [y], by go_num, by omega, hidMk ?_, H4, H5⟩, ?_⟩
        · rw [← H1.out, enc_ge (u := u) (by omega), HY.out]; simp
        · simp [intOf]; omega
      · have hlt2 : (u : Int) < 128 := by omega
        have hw : ((u : Int) % 256) = (u : Int) := by omega
        go_wp2_with (at_builtin; refine wpList_push _ rfl _ _ rfl w _ m rfl (.inl (H2.out.alloc _)) (H3.out.alloc _) wr.heap.size (u : Int) rfl ?c1 ?c2 ?_)
        case c1 => simp [hw]
        case c2 => omega
        intro v' w' ho hk'
        have H4 := hidMk ho
        have H5 := hidMk hk'
        clear ho hk'
        go_wp2_with fail
        go_ret
        refine ⟨_, rfl, ?_, H5.out⟩
        rw [← H1.out, enc_lt (u := u) (by omega)]
        exact H4.out
  · have hx0' : 0 ≤ x := by omega
    have g2 := g2 hx0'
    clear g1 hx0
    generalize zig x = u0 at *
    go_enter Try.func35, Try.ntmps35
    go_wp2_with (at_builtin; refine wpList_app _ rfl _ _ rfl w _ [] rfl (World.ownsRow_nil _ _ _ _) (Kept.refl _) a n c l rfl H.out HN.out ?c1 ?_)
    case c1 => simp; omega
    intro v1 w1 o1 k1
    have O1 := hidMk o1
    have K1 := hidMk k1
    clear o1 k1
    go_wp2_with fail
    go_loopw [5, 6] (fun v b wr => ∃ (u : Nat) (m : List Int), b = .int .u64 u ∧ u < 18446744073709551616 ∧ Hid (m ++ enc u = l ++ encI x) ∧ Hid (Owned w wr v m) ∧ Hid (Kept w wr)) (fun _ b _ => (intOf b).toNat)
    case atStart => exact ⟨u0, l, rfl, hlt, hidMk (by rw [HE.out]), O1, K1⟩
    case round =>
      obtain ⟨u, m, rfl, hu, H1, H2, H3⟩ := hrel
      have hml : m.length + (enc u).length = l.length + (encI x).length := by
        have := congrArg List.length H1.out
        simpa using this
      have hpos := enc_pos u
      have hle := HLEN.out
      have h47 : m.length + 1 ≤ 140737488355328 := by omega
      clear hml hpos hle
      by_cases h128 : 128 ≤ u
      · have hge : (128 : Int) ≤ (u : Int) := by omega
        obtain ⟨y, hy⟩ : ∃ y : Int, ((u % 128 + 128 : Nat) : Int) = y := ⟨_, rfl⟩
        have hyw : (u : Int) % 128 + 128 = y := by omega
        have HY := hidMk hy
        have HYW := hidMk hyw
        clear hy hyw
        go_wp2_with (at_builtin; refine wpList_push _ rfl _ _ rfl w _ m rfl (.inl (H2.out.alloc _)) (H3.out.alloc _) wr.heap.size y rfl ?c1 ?c2 ?_)
        case c1 => simp [HYW.out]
        case c2 => omega
        intro v' w' ho hk'
        have H4 := hidMk ho
        have H5 := hidMk hk'
        clear ho hk'
        go_wp2_with fail
        refine ⟨⟨u / 128, m ++ [y], by go_num, by omega, hidMk ?_, H4, H5⟩, ?_⟩
        · rw [← H1.out, enc_ge (u := u) (by omega), HY.out]; simp
        · simp [intOf]; omega
      · have hlt2 : (u : Int) < 128 := by omega
        have hw : ((u : Int) % 256) = (u : Int) := by omega
        go_wp2_with (at_builtin; refine wpList_push _ rfl _ _ rfl w _ m rfl (.inl (H2.out.alloc _)) (H3.out.alloc _) wr.heap.size (u : Int) rfl ?c1 ?c2 ?_)
        case c1 => simp [hw]
        case c2 => omega
        intro v' w' ho hk'
        have H4 := hidMk ho
        have H5 := hidMk hk'
        clear ho hk'
        go_wp2_with fail
        go_ret
        refine ⟨_, rfl, ?_, H5.out⟩
        rw [← H1.out, enc_lt (u := u) (by omega)]
        exact H4.out
end Go.Proofs.Ytapcmkhpbdphoaa
