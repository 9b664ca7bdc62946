/- log: a Stop that waits; rows behind none; a log that was torn. -/
import Derived.Test.YtapcmkhpbdphoaaLgG
namespace Go.Proofs.Ytapcmkhpbdphoaa
open Go.RowKit Go.Maps
set_option linter.unusedSimpArgs false
set_option linter.unusedVariables false

theorem Lg.stop {w W : World} {T : Nat → Prop} {p f d g K : Nat} {va : Option Addr} {vn vc : Nat} {qs : List Sv} {N fr to : Nat} {s : Bf} {rs : List (List Int)} {x y : Int} (h : Lg w T p f d g K va vn vc qs N fr to s rs) (hfl : Fl W f d N (stS s x y)) (hc : Chg (fun j => j = f) w W) (hx : isI x) (h0 : stE s x y = 0) : Lg W T p f d g K va vn vc qs N fr to (stS s x y) rs := by
  obtain ⟨k1, k2, k3⟩ := stS_ok (y := y) h.sok hx
  have hoff : (stS s x y).off = false := by unfold stS; rw [if_pos h0]; exact h.off
  refine ⟨by rw [k2]; exact h.lc.chg hc h.ne.1, hfl, h.dt.chg hc (fun e => h.ne.2.2.2.1 e.symm), h.cap, h.rz.chg hc (fun k hk e => (h.nv k hk).2.1 e) (fun q hq ad e e2 => (h.nq q hq ad e).2.1 e2), by rw [k3]; exact h.rg, h.ok, h.le, h.ft, k1, hoff, h.ne, h.nv, h.nq, fun j hj => Nat.lt_of_lt_of_le (h.tb j hj) hc.size, h.tp, h.tv, h.tq⟩
theorem slv3_one (qs : List Sv) : ∀ u ∈ qs.map slv3, u.oneCell' = true := by
  intro u hu
  obtain ⟨x, _, rfl⟩ := List.mem_map.1 hu
  rfl
/-- Rows, behind none. -/
theorem wpList_catZ {ops : Array Oper} {rest : List Oper} {o : Oper} {a : Act} {Q : Exit → Act → World → Prop} (w : World) (hgd : o.guard = none) (s x : Operand)
    (ho : o.op = .call { callee := .builtin .append, args := #[s, x], argTypes := #[22, 22] })
    (hs : a.eval s = .slice none 0 0) (B2 : Nat) (v2 : Value) (qs : List Sv) (rs : List (List Int)) (hx : a.eval x = v2) (h2 : Rz w B2 v2 qs rs) (hn : qs.length ≤ 100000)
    (h : ∀ v' w', Rz w' w.heap.size v' qs rs → Kept w w' → wpList Try.prog ops Q rest (a.put o.dst v') w') : wpList Try.prog ops Q (o :: rest) a w := by
  obtain ⟨i0, hi1, hz0, hz1, hz2⟩ := zsinfo
  have ho2 := h2.own
  obtain ⟨h0, ⟨rfl, e⟩ | ⟨g, cap, cur, rfl, hb, hheap, hc, r⟩⟩ := h2.own
  · have hq : qs = [] := List.eq_nil_of_length_eq_zero e
    subst hq
    have hr : rs = [] := List.eq_nil_of_length_eq_zero (by rw [h2.len]; rfl)
    subst hr
    exact wpList_append_own_none hgd s x 22 ho w.heap.size 33 i0 1 Try.underlying22 hi1 (.slice none 0 0) 0 [] hs (World.ownsRow_nil _ _ _ _) hx (h _ w (Rz.nil _ _) (Kept.refl _))
  · refine wpList_append_own_wide w hgd s x 22 ho w.heap.size 33 i0 (.slice none 0 0) 1 24 Try.underlying22 hi1 hz0 hz1 hz2 rfl (by decide) (.slice none 0 0) 0 [] hs (World.ownsRow_nil _ _ _ _) ⟨g, 0, none⟩ qs.length cap (qs.map slv3) hx (by simp) (fun j u hj => ?_) (slv3_one qs) (by unfold maxLen; omega) (by omega) (Nat.le_refl _) ?_
    · have hjl : j < qs.length := by have := (List.getElem?_eq_some_iff.1 hj).1; simpa using this
      rw [Addr.add_lit, Nat.zero_add, ho2.cellAt j (by omega)]
      exact hj
    · intro v' w' h3 h4 _
      have hk : Kept w w' := Below.grown (Kept.refl w) h4 (Nat.le_refl _) (fun k hk => by cases hk)
      refine h v' w' ⟨by simpa using h3, h2.len, fun i hi => (h2.row i hi).kept hk, fun q hq ad e => ⟨fun e2 => ?_, Nat.lt_of_lt_of_le (h2.ap q hq ad e).2 hk.size⟩⟩ hk
      have := World.ownsRow.lt h3 _ e2
      have := (h2.ap q hq ad e).2
      omega
/-- The bytes of a log whose power went. -/
theorem torn_all {s : Bf} {N fr to : Nat} {rs : List (List Int)} {b : List Int} {F' : List Int} {c : Nat} (hF : s.F.length = N * 32) (h1 : fr ≤ to) (h2 : to ≤ N) (hrg : reg s.F fr to = logB ((to - fr) * 32) rs) (hr : ∀ r ∈ rs, RecOk r) (hb : RecOk b) (hfit : (catR rs).length + (recB b).length ≤ (to - fr) * 32) (hc : c ≤ (to - fr) * 32)
    (hF' : F' = mix (newF s.F fr to (logB ((to - fr) * 32) (rs ++ [b]))) s.F (fr * 32 + c)) : AllIs (reg F' fr to) (if (catR rs).length + (recB b).length ≤ c then rs ++ [b] else rs) (if (catR rs).length + (recB b).length ≤ c then (catR (rs ++ [b])).length else (catR rs).length) := by
  have hlen : (catR (rs ++ [b])).length = (catR rs).length + (recB b).length := by rw [catR_app, catR_one, List.length_append]
  have hNR : (logB ((to - fr) * 32) (rs ++ [b])).length = (to - fr) * 32 := logB_len (by rw [hlen]; exact hfit)
  have hOR : (logB ((to - fr) * 32) rs).length = (to - fr) * 32 := logB_len (by omega)
  rw [hF', mix_newF hF h1 h2 hNR hc, reg_newF hF h1 h2 (by rw [hrg, mix_len (by rw [hNR, hOR]) (by rw [hOR]; exact hc), hOR]), hrg]
  exact mix_torn hr hb hfit hc
end Go.Proofs.Ytapcmkhpbdphoaa
