/- The walk of the law NumSums. -/
import Derived.Test.YtldfnlkineehbaaNum5
import Derived.Test.YtldfnlkineehbaaOwn
namespace Go.Proofs.Ytldfnlkineehbaa
open Go.RowKit
set_option linter.unusedSimpArgs false
set_option linter.unusedVariables false

theorem law_NumSums_big (hi lo : Int) (a : Option Addr) (len cap : Nat) (w : World) (hlen : len ≤ maxLen) (hb : 2000 < len) :
    Calls Try.prog 5 #[.int .i64 hi, .int .u64 lo, .slice a len cap] w fun e w' => e = .returned (.bool true) ∧ Below w.heap.size w w' := by
  unfold maxLen at hlen
  go_enter Try.func5, Try.ntmps5
  go_wp2_with fail
  refine (law_known _).mono ?_
  rintro e w7 ⟨rfl, k7⟩
  go_wp2_with fail
  go_ret
  exact ⟨rfl, k7⟩

theorem info_i64 : (Try.prog.info? 2).map (fun i => (i.zero, i.size, i.bytes)) = some (some (.int .i64 0), 1, 8) := by kernel_rfl

theorem two_cells {w : World} {u v : Value} {T : TypeId} : Box (w.alloc (.cells #[u, v] T)) w.heap.size u v := ⟨by simp, by simp, by simp, by simp, by simp⟩

theorem law_NumSums (hi lo : Int) (a : Option Addr) (len cap : Nat) (l : List Int) (w : World) (hh : isI hi) (hl : isU lo) (hs : Sl .i64 w a len l) (hn : ∀ x ∈ l, isI x) :
    Calls Try.prog 5 #[.int .i64 hi, .int .u64 lo, .slice a len cap] w fun e w' => e = .returned (.bool true) ∧ Below w.heap.size w w' := by
  by_cases hb : 2000 < len
  · exact law_NumSums_big hi lo a len cap w hs.big hb
  obtain ⟨i0, hi0, hz0, hz1, hz2⟩ := info_parts info_i64
  go_enter Try.func5, Try.ntmps5
  go_wp2_with fail
  refine (num_More hi lo _ _ _ l _ hh hl hs hn).mono ?_
  rintro e w1 ⟨rfl, k1⟩
  go_wp2_with fail
  refine (ref_More hi lo _ _ _ l _ hh hl (hs.kept (k1.alloc _)) hn).mono ?_
  generalize wide hi lo + sumL l = V
  rintro e w2 ⟨rfl, k2⟩
  have b1 := two_cells.kept k2
  have g1 := (k1.alloc _).trans k2
  clear k1 k2
  obtain ⟨c0, c1, _, _, hB1⟩ := id b1
  go_wp2_with fail
  refine (num_Fits _ _ _ (wHi_is V) (wLo_is V)).mono ?_
  rintro e w3 ⟨rfl, k3⟩
  have b2 := two_cells.kept k3
  have b1' := (b1.kept ((Kept.refl _).alloc _)).kept k3
  have g3 := (g1.alloc _).trans k3
  clear b1 c0 c1 g1 k3
  obtain ⟨c0, c1, _, _, hB1⟩ := id b1'
  obtain ⟨d0, d1, _, _, hB2⟩ := id b2
  go_wp2_with fail
  refine (ref_Fits _ _ _ (wHi_is V) (wLo_is V)).mono ?_
  generalize fitV (wide (wHi V) (wLo V)) = F
  generalize fitE (wide (wHi V) (wLo V)) = G
  rintro e w4 ⟨rfl, k4⟩
  have x1 := b1'.kept k4
  have x2 := b2.kept k4
  have g4 := g3.trans k4
  clear b1' b2 c0 c1 d0 d1 g3 k4
  go_wp2_with fail
  refine (num_Sum _ _ _ l _ (hs.kept g4) hn).mono ?_
  rintro e w5 ⟨rfl, k5⟩
  have y1 := x1.kept k5
  have y2 := x2.kept k5
  have g5 := g4.trans k5
  clear x1 x2 g4 k5
  go_wp2_with fail
  refine (ref_Sum _ _ _ l _ (hs.kept g5) hn).mono ?_
  rintro e w6 ⟨rfl, k6⟩
  have z1 := y1.kept k6
  have z2 := y2.kept k6
  have g6 := g5.trans k6
  clear y1 y2 g5 k6
  have hs6 := hs.kept g6
  have hlen := hs.len
  have hbig := hs.big
  clear hs
  unfold maxLen at hbig
  go_wp2_with fail
  go_loopw [17, 18] (fun v i wr => ∃ m : Nat, m ≤ len ∧ i = .int .i64 m ∧ wr.ownsRow w6.heap.size 2 1 v (len - m) ((l.drop m).reverse.map (Value.int .i64)) ∧ Kept w6 wr) (fun _ i _ => (intOf i).toNat)
  case atStart => exact ⟨len, Nat.le_refl _, rfl, by rw [List.drop_of_length_le (by omega), Nat.sub_self]; exact World.ownsRow_nil _ _ _ _, Kept.refl _⟩
  case round =>
    obtain ⟨m, hm, rfl, hown, hk⟩ := hrel
    by_cases hm0 : 0 < m
    · obtain ⟨n, rfl⟩ : ∃ n, m = n + 1 := ⟨m - 1, by omega⟩
      obtain ⟨b, o, rfl, hb', hc⟩ := hs6.cells (by omega)
      have hcell : wr.cell? ⟨b, o + n, none⟩ = some (.int .i64 (l.getD n 0)) := (hk.cell (p := ⟨b, o + n, none⟩) hb').trans (hc n (by omega))
      have hkz := hk.size
      go_wp2_with (at_builtin; refine wpList_append_own _ rfl _ _ 33 rfl w6.heap.size 2 i0 (.int .i64 0) 1 8 Try.underlying33 hi0 hz0 hz1 hz2 rfl (by decide) _ _ _ rfl (hown.alloc _) ⟨wr.heap.size, 0, none⟩ 1 1 [.int .i64 (l.getD n 0)] rfl rfl ?c1 ?c2 ?c3 ?c4 ?c5 ?_)
      case c1 =>
        intro j u hj
        match j, hj with
        | 0, hj => simp at hj; subst hj; simp [Addr.add]
      case c2 => intro u hu; simp at hu; subst hu; rfl
      case c3 => unfold maxLen; omega
      case c4 => omega
      case c5 => simp; omega
      intro v' w7 hown' hgrow _
      go_wp2
      refine ⟨⟨n, by omega, rfl, ?_, kept_grown (hk.alloc _) (hown.alloc _) hgrow⟩, by simp [intOf]⟩
      have e1 : len - (n + 1) + 1 = len - n := by omega
      have e2 : (l.drop n).reverse.map (Value.int .i64) = (l.drop (n + 1)).reverse.map (Value.int .i64) ++ [.int .i64 (l.getD n 0)] := by
        rw [List.drop_eq_getElem_cons (show n < l.length by omega), List.reverse_cons, List.map_append, List.getD_eq_getElem?_getD, List.getElem?_eq_getElem (show n < l.length by omega)]
        rfl
      rw [e2, ← e1]
      simpa [List.getD_eq_getElem?_getD] using hown'
    · have hm1 : m = 0 := by omega
      subst hm1
      have hn' : ∀ x ∈ l.reverse, isI x := fun x hx => hn x (by simpa using hx)
      obtain ⟨a', cap', rfl, hsb⟩ := own_sl (l := l.reverse) (n := len - 0) (by simp [hlen]) (by unfold maxLen; omega) (by simpa using hown)
      have C := num_Sum a' (len - 0) cap' l.reverse wr hsb hn'
      rw [sumL_reverse] at C
      have HC := hidMk C
      have q1 := z1.kept hk
      have q2 := z2.kept hk
      clear C hs6 hsb hown z1 z2
      go_wp2_with fail
      refine HC.out.mono ?_
      rintro e w8 ⟨rfl, k8⟩
      have r1 := q1.kept k8
      have r2 := q2.kept k8
      clear HC q1 q2
      obtain ⟨c0, c1, _, _, hB1⟩ := id r1
      obtain ⟨d0, d1, _, _, hB2⟩ := id r2
      go_wp2_with fail
      refine (law_known _).mono ?_
      rintro e w9 ⟨rfl, k9⟩
      go_wp2_with fail
      go_ret
      exact ⟨rfl, ((g6.trans hk).trans k8).trans k9⟩
end Go.Proofs.Ytldfnlkineehbaa
