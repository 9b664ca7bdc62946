/- Drop. -/
import Derived.Test.YtimnbbpiapjfhaaDoorAr5
namespace Go.Proofs.YtimnbbpiapjfhaaDoor
open Go.RowKit Go.Maps
set_option linter.unusedSimpArgs false
set_option linter.unusedVariables false

def kdA (nd : Int → ANd) : Int → List Int := fun i => (nd i).kids
/-- Some places behind an own row. -/
theorem wpl_pushN {ops : Array Oper} {rest : List Oper} {o : Oper} {a : Act} {Q : Exit → Act → World → Prop} (w : World) (hgd : o.guard = none) (s x : Operand)
    (ho : o.op = .call { callee := .builtin .append, args := #[s, x], argTypes := #[54, 54] })
    (B : Nat) (v : Value) (l : List Int) (hs : a.eval s = v) (hv : OwnI w B v l) (hB : B ≤ w.heap.size) (g f m : Nat) (ys : List Int) (hm : ys.length = m) (hm0 : 0 < m) (hx : a.eval x = .slice (some ⟨g, f, none⟩) m m) (hcell : ∀ j, j < m → w.cell? ⟨g, f + j, none⟩ = some (.int .i64 (ys.getD j 0)))
    (h47 : (l.length + m) * 8 ≤ 140737488355328) (H : Nat) (hH : w.heap.size = H)
    (h : ∀ g' cap w', OwnI w' B (.slice (some ⟨g', 0, none⟩) (l.length + m) cap) (l ++ ys) → Chg (fun k => v.ownBlock = some k) w w' → (v.ownBlock = some g' ∨ g' = H) → g' < w'.heap.size → wpList Tryd.prog ops Q rest (a.put o.dst (.slice (some ⟨g', 0, none⟩) (l.length + m) cap)) w') : wpList Tryd.prog ops Q (o :: rest) a w := by
  obtain ⟨i0, hi0, hz0, hz1, hz2⟩ := iinfo
  refine wpList_append_lies w hgd s x 54 ho B 3 i0 (.int .i64 0) 1 8 Tryd.underlying54 hi0 hz0 hz1 hz2 rfl (by decide) v _ _ hs hv ⟨g, f, none⟩ m m (ys.map (Value.int .i64)) hx (by simp [hm]) (fun j u hu => ?_) (ints_one ys) hm0 (by unfold maxLen; omega) (by omega) hB H hH ?_
  · have hj : j < ys.length := by have := (List.getElem?_eq_some_iff.1 hu).1; simpa using this
    rw [Addr.add_lit, hcell j (by omega), ← hu, List.getElem?_map, List.getElem?_eq_getElem hj]
    simp [List.getD, List.getElem?_eq_getElem hj]
  · intro g' cap w' h2 h3 h4 h5
    refine h g' cap w' ?_ ((Chg.refl _ w).grown h3 (fun k hk => .inl hk)) h4 h5
    unfold OwnI
    rw [List.map_append, List.length_append, hm]
    exact h2
theorem OwnI.pop {w : World} {B g c : Nat} {l : List Int} {x : Int} (h : OwnI w B (.slice (some ⟨g, 0, none⟩) (l.length + 1) c) (l ++ [x])) : OwnI w B (.slice (some ⟨g, 0, none⟩) l.length c) l := by
  unfold OwnI at h ⊢
  rw [List.map_append, List.length_append] at h
  obtain ⟨h0, ⟨h1, _⟩ | ⟨k, cap, cur, hv, hb, hh, h2, h3, h4, h5⟩⟩ := h
  · cases h1
  · simp only [Value.slice.injEq, Option.some.injEq, Addr.mk.injEq, and_true, true_and] at hv
    obtain ⟨rfl, _, rfl⟩ := hv
    simp only [List.length_cons, List.length_nil, List.length_map] at h0 h2 h5
    refine ⟨by simp, .inr ⟨g, c, cur, rfl, hb, hh, by omega, h3, h4, ?_⟩⟩
    have := congrArg (List.take l.length) h5
    rw [List.take_take, show min l.length ((l.length + (0 + 1)) * 1) = l.length by omega] at this
    rw [Nat.mul_one, this]
    simp
theorem World.heap_new (w : World) (o : Obj) : (w.alloc o).heap[w.heap.size]? = some o := by
  unfold World.alloc
  exact Array.getElem?_push_size
theorem ownI_new (w : World) (x : Int) : OwnI (w.alloc (.cells #[.int .i64 x] 3)) w.heap.size (.slice (some ⟨w.heap.size, 0, none⟩) 1 1) [x] := by
  refine ⟨rfl, .inr ⟨w.heap.size, 1, #[.int .i64 x], rfl, Nat.le_refl _, World.heap_new _ _, by simp, by unfold maxLen; omega, rfl, rfl⟩⟩
theorem OwnI.last {w : World} {B : Nat} {v : Value} {l : List Int} {x : Int} (h : OwnI w B v (l ++ [x])) (hl : l.length ≤ 200000) : ∃ g c, v = .slice (some ⟨g, 0, none⟩) (l.length + 1) c ∧ w.cell? ⟨g, l.length, none⟩ = some (.int .i64 x) ∧ l.length + 1 ≤ c ∧ c ≤ maxLen := by
  have h' := h
  unfold OwnI at h'
  rw [List.length_append, List.length_singleton] at h'
  obtain ⟨h0, ⟨_, h1⟩ | ⟨k, cap, cur, rfl, hb, hh, h2, h3, h4, h5⟩⟩ := h'
  · omega
  · refine ⟨k, cap, rfl, ?_, h2, h3⟩
    obtain ⟨a, c, e, hs⟩ := h.sl (by rw [List.length_append]; simp; unfold maxLen; omega)
    rw [List.length_append, List.length_singleton] at e
    cases e
    rw [List.length_append, List.length_singleton] at hs
    obtain ⟨b, o, e1, _, e3⟩ := hs.cells (by omega)
    cases e1
    have := e3 l.length (by omega)
    rw [Nat.zero_add] at this
    rw [this]
    simp [List.getD]
section
variable {w : World} {p B : Nat} {most : Int} {n : Nat} {rf q : Int → Nat} {nd : Int → ANd} {M : Nat} {wd : Nat → Nat} {v : Value} {xs : List Value}
theorem arena_DropNone (h : AR w p B most n rf nd M wd v xs) (i : Int) (hi : rf i = 0) : Calls Tryd.prog 39 #[.pointer (some ⟨p, 0, none⟩), .int .i64 i] w fun e w' => e = .returned (.int .i64 10) ∧ w' = w := by
  have H := hidMk (arena_findNone h i hi)
  clear h hi
  go_enter Tryd.func39, Tryd.ntmps39
  go_wp2_with fail
  refine H.out.mono ?_
  rintro e w1 ⟨rfl, rfl⟩
  go_wp2_with fail
  go_ret
  exact ⟨rfl, rfl⟩
def DropPost (w : World) (p B : Nat) (most : Int) (n : Nat) (nd : Int → ANd) (M : Nat) (v : Value) (r : Int → Nat) (e : Ending) (w' : World) : Prop :=
  e = .returned (.int .i64 0) ∧ (∃ wd' xs', AR w' p B most n r nd M wd' v xs') ∧ Chg (fun j => j = p ∨ v.ownBlock = some j) w w'
set_option maxHeartbeats 4000000 in
set_option maxRecDepth 100000 in
theorem arena_Drop (h : AR w p B most n rf nd M wd v xs) (i : Int) (hi : rf i ≠ 0) (K : Nat) (r : Int → Nat) (hK : DropsN (kdA nd) K rf [i] r) : Calls Tryd.prog 39 #[.pointer (some ⟨p, 0, none⟩), .int .i64 i] w (DropPost w p B most n nd M v r) := by
  have hn1 : 1 ≤ i ∧ i ≤ (n : Int) := by
    by_cases c : 1 ≤ i ∧ i ≤ (n : Int)
    · exact c
    · exact absurd (h.ok i c) hi
  have hn := h.n_le
  have H := hidMk (show Calls Tryd.prog 51 #[.pointer (some ⟨p, 0, none⟩), .int .i64 i] w fun e w' => (∃ pt, e = .returned (.tuple #[.pointer pt, .int .i64 0])) ∧ w' = w from by
    obtain ⟨k, rfl⟩ : ∃ k : Nat, i = ((k + 1 : Nat) : Int) := ⟨(i - 1).toNat, by omega⟩
    obtain ⟨g, c, hv, hg, _⟩ := h.refCell (i := k) (by omega)
    refine (arena_find h k (by omega) hi hg).mono ?_
    rintro e w' ⟨rfl, rfl⟩
    exact ⟨⟨_, rfl⟩, rfl⟩)
  have HH := hidMk h
  have HK := hidMk hK
  have hus := usd_le rf n
  clear h hK hi hn1
  go_enter Tryd.func39, Tryd.ntmps39
  go_wp2_with fail
  refine H.out.mono ?_
  rintro e w1 ⟨⟨pt, rfl⟩, rfl⟩
  go_wp2_with fail
  go_loopg [7] K (fun g s wr => ∃ (rf' : Int → Nat) (L : List Int) (wd' : Nat → Nat) (xs' : List Value), Hid (DropsN (kdA nd) g rf' L.reverse r) ∧ Hid (OwnI wr w1.heap.size s L) ∧ Hid (AR wr p B most n rf' nd M wd' v xs') ∧ Hid (Chg (fun j => j = p ∨ v.ownBlock = some j) w1 wr) ∧ L.length + 8 * usd rf' n ≤ 160001)
  case atStart => exact ⟨rf, [i], wd, xs, HK, hidMk (ownI_new w1 i), hidMk (HH.out.kept ((Kept.refl w1).alloc _)), hidMk (Chg.of_kept ((Kept.refl w1).alloc _)), by simp; omega⟩
  case round =>
    obtain ⟨rf', L, wd', xs', HD, HO, HA, HC, hlen⟩ := hrel
    rcases (show L = [] ∨ ∃ L0 x, L = L0 ++ [x] from by rcases List.eq_nil_or_concat L with h | ⟨a, b, h⟩; exact .inl h; exact .inr ⟨a, b, by simpa using h⟩) with rfl | ⟨L0, x, rfl⟩
    · obtain ⟨a0, c0, rfl, _⟩ := HO.out.sl (by unfold maxLen; simp)
      have HR := hidMk (drops_nil HD.out).2
      go_wp2_with fail
      go_ret
      exact ⟨rfl, ⟨_, _, by rw [HR.out]; exact HA.out⟩, HC.out⟩
    · rw [List.length_append, List.length_singleton] at hlen
      obtain ⟨g7, c7, rfl, cx, hc1, hc2⟩ := HO.out.last (by omega)
      rw [List.reverse_append, List.reverse_singleton, List.singleton_append] at HD
      obtain ⟨K', hK', hD'⟩ := drops_pos HD.out
      subst hK'
      have HP := hidMk HO.out.pop
      have HO7 := hidMk (HO.out.lt g7 rfl)
      have l1 : (0 : Int) < ((L0.length + 1 : Nat) : Int) := by omega
      have l2 : wrap64 (((L0.length + 1 : Nat) : Int) - 1) = L0.length := by unfold wrap64; omega
      have l3 : wrap64 ((L0.length : Int) + 1 - 1) = L0.length := by unfold wrap64; omega
      have l4 : (L0.length : Int) < ((L0.length + 1 : Nat) : Int) := by omega
      have hnx := HA.out.n_le
      unfold maxLen at hc2
      by_cases hx : rf' x = 0
      · have HF := hidMk (arena_findNone HA.out x hx)
        have HFK := hidMk (show ∀ k, Calls Tryd.prog 51 #[.pointer (some ⟨p, 0, none⟩), .int .i64 x] (wr.drewN k) fun e w' => e = .returned (.tuple #[.pointer none, .int .i64 10]) ∧ w' = wr.drewN k from fun k => arena_findNone (HA.out.kept ((Kept.refl wr).drewN k)) x hx)
        have HN := hidMk (show DropsN (kdA nd) K' rf' L0.reverse r by
          rw [stR_none hx] at hD'
          have : stK (kdA nd) rf' x = [] := by unfold stK; rw [if_neg (by omega)]
          rw [this] at hD'
          exact hD')
        clear hD' HD hx HF
        go_wp2_with fail
        go_quiet (fail)
        go_wp2_with fail
        refine (HFK.out _).mono ?_
        rintro e w2 ⟨rfl, rfl⟩
        go_wp2_with fail
        go_roundg K'
        case measure => omega
        case rel => exact ⟨rf', L0, wd', xs', HN, hidMk (HP.out.chg (S := fun _ => False) (Chg.of_kept ((Kept.refl wr).drewN _)) (fun _ _ e => e)), hidMk (HA.out.kept ((Kept.refl wr).drewN _)), hidMk (HC.out.drewN _), by omega⟩
      · have hnx1 : 1 ≤ x ∧ x ≤ (n : Int) := by
          by_cases c : 1 ≤ x ∧ x ≤ (n : Int)
          · exact c
          · exact absurd (HA.out.ok x c) hx
        obtain ⟨k, rfl⟩ : ∃ k : Nat, x = ((k + 1 : Nat) : Int) := ⟨(x - 1).toNat, by omega⟩
        have hkn : k < n := by omega
        obtain ⟨g, cg, hvg, hg, _⟩ := HA.out.refCell (i := k) hkn
        have hgB := HA.out.apart hg
        have hrb := HA.out.rb ((k + 1 : Nat) : Int)
        have hMb := HA.out.Mb
        have hltw : g < w1.heap.size ∧ p < w1.heap.size := ⟨(HH.out.apart hg).2.1, HH.out.lt⟩
        have HFK := hidMk (show ∀ m, Calls Tryd.prog 51 #[.pointer (some ⟨p, 0, none⟩), .int .i64 ((k + 1 : Nat) : Int)] (wr.drewN m) fun e w' => e = .returned (.tuple #[.pointer (some ⟨g, k * 26, none⟩), .int .i64 0]) ∧ AR w' p B most n rf' nd M wd' v xs' ∧ OwnI w' w1.heap.size (.slice (some ⟨g7, 0, none⟩) L0.length c7) L0 ∧ Chg (fun j => j = p ∨ v.ownBlock = some j) w1 w' from fun m => by
          refine (arena_find (HA.out.kept ((Kept.refl wr).drewN m)) k hkn hx hg).mono ?_
          rintro e w' ⟨rfl, rfl⟩
          exact ⟨rfl, HA.out.kept ((Kept.refl wr).drewN m), HP.out.chg (S := fun _ => False) (Chg.of_kept ((Kept.refl wr).drewN m)) (fun _ _ e => e), HC.out.drewN m⟩)
        have HG7 := hidMk (show g7 ≠ g ∧ g7 ≠ p by have := HO7.out; omega)
        have HHG := hidMk hg
        clear HA HP HC HO HD hvg
        generalize hX : ((k + 1 : Nat) : Int) = X at *
        go_wp2_with fail
        go_quiet (fail)
        go_wp2_with fail
        refine (HFK.out _).mono ?_
        rintro e w2 ⟨rfl, hA2, hP2, hC2⟩
        obtain ⟨g', cg', hv', hg', c25, f25, hrg⟩ := hA2.refCell (i := k) hkn
        rw [hX] at c25 hrg
        have : g' = g := by rw [HHG.out] at hg'; cases hg'; rfl
        subst this
        obtain ⟨z, hz⟩ : ∃ z, rf' X = z + 1 := ⟨rf' X - 1, by omega⟩
        have hsz : stR rf' X = setR rf' X z := by
          funext j; unfold setR stR; split
          · subst j; omega
          · rfl
        have HSR := hA2.setRef (i := k) hkn HHG.out z
        rw [hX] at HSR
        rw [hz] at c25
        rw [← hsz] at HSR
        have HP3 := hP2.chg HSR.2 (fun j hj e => by cases hj; rw [HHG.out] at e; cases e; exact HG7.out.1 rfl)
        have HC3 := hC2.trans (HSR.2.mono (fun j _ e => .inr e))
        by_cases hx1 : z = 0
        · subst hx1
          have hus2 : usd rf' n = usd (stR rf' X) n + 1 := by
            rw [← hX]
            exact usd_set (k + 1) n (by omega) (by omega) (by rw [stR_same, hX, hz]) (by rw [hX, hz]; omega) (fun i hi => by rw [stR_other rf' (by omega)])
          have HQ := hidMk HSR.1
          have HP4 := hidMk HP3
          have HC4 := hidMk HC3
          obtain ⟨g2, cg2, _, hg2, _, _, hrg2⟩ := HSR.1.refCell (i := k) hkn
          have : g2 = g' := by rw [HHG.out] at hg2; cases hg2; rfl
          subst this
          rw [hX] at hrg2
          have hkids : (nd X).kids.length = 8 := (HSR.1.kok X).1
          have HKC := hidMk (show ∀ j, j < 8 → (w2.setCell ⟨g2, k * 26 + 25, none⟩ (.int .i64 (0 : Nat))).cell? ⟨g2, k * 26 + 1 + j, none⟩ = some (.int .i64 ((nd X).kids.getD j 0)) from fun j hj => by
            have := hrg2 (by rw [hz]; omega) (1 + j) _ (ndL_kid (nd X) hkids j hj)
            rw [show k * 26 + 1 + j = k * 26 + (1 + j) by omega]
            exact this)
          have HDP := hidMk (show DropsN (kdA nd) K' (stR rf' X) (L0 ++ (nd X).kids).reverse r from by
            have : stK (kdA nd) rf' X = (nd X).kids := by unfold stK; rw [if_pos (by rw [hz])]; rfl
            rw [this] at hD'
            refine drops_perm _ _ _ _ _ _ ?_ hD'
            rw [List.reverse_append]
            exact List.Perm.append_right _ (List.reverse_perm _).symm)
          have HW2 := hidMk (show w1.heap.size ≤ (w2.setCell ⟨g2, k * 26 + 25, none⟩ (.int .i64 (0 : Nat))).heap.size from HC3.size)
          have HZ1 := hidMk (show rf' X = 1 by rw [hz])
          have HKL := hidMk hkids
          clear HSR hA2 hP2 hC2 hD' hrg hrg2 hv' hg' HP3 HC3 hg2
          go_wp2_with (at_builtin; refine wpl_pushN _ rfl _ _ rfl w1.heap.size (.slice (some ⟨g7, 0, none⟩) L0.length c7) L0 rfl HP4.out HW2.out g2 (k * 26 + 1) 8 (nd X).kids HKL.out (by omega) rfl HKC.out (by omega) _ rfl ?_)
          intro g8 cap8 w4 ho4 hc4 ha4 hl4
          have hb4 : ∀ j, (Value.slice (some ⟨g7, 0, none⟩) L0.length c7).ownBlock = some j → j = g7 := fun j e => by cases e; rfl
          have hQ4 := HQ.out.chg hc4 (fun e => HG7.out.2 (hb4 _ e).symm) (fun j hj e => by rw [HHG.out] at hj; cases hj; exact HG7.out.1 (hb4 _ e).symm)
          have hC4 := HC4.out.thn hc4 (fun j hj e => by have := hb4 j e; have := HO7.out; omega)
          have h8 : g8 ≠ g2 ∧ g8 ≠ p := by
            have := (ho4.lt g8 rfl).1
            omega
          rw [← hX] at hQ4
          have HCL := hidMk (arena_clear hQ4 hkn (by rw [hX]; exact HZ1.out))
          rw [hX] at HCL
          have HO4 := hidMk ho4
          have HC5 := hidMk hC4
          clear ho4 hc4 ha4 hl4 hQ4 hC4 HQ HC4 HP4 HKC
          go_wp2_with fail
          refine HCL.out.mono ?_
          rintro e w5 ⟨rfl, ⟨wd5, xs5, hA5⟩, hc5⟩
          have HO5 := hidMk (HO4.out.chg hc5 (fun j hj e => by
            cases hj
            rcases e with e | e
            · exact h8.2 e
            · rw [HHG.out] at e; cases e; exact h8.1 rfl))
          have HC6 := hidMk (HC5.out.trans hc5)
          have HA5 := hidMk hA5
          clear hc5 hA5 HCL HO4 HC5
          go_wp2_with fail
          go_roundg K'
          case measure => omega
          case rel => exact ⟨stR rf' X, L0 ++ (nd X).kids, wd5, xs5, HDP, HO5, HA5, HC6, by rw [List.length_append, HKL.out]; omega⟩
        · have HFIN := hidMk (show AR _ p B most n (stR rf' X) nd M wd' v _ ∧ OwnI (w2.setCell ⟨g', k * 26 + 25, none⟩ (.int .i64 z)) w1.heap.size (.slice (some ⟨g7, 0, none⟩) L0.length c7) L0 ∧ Chg (fun j => j = p ∨ v.ownBlock = some j) w1 (w2.setCell ⟨g', k * 26 + 25, none⟩ (.int .i64 z)) ∧ DropsN (kdA nd) K' (stR rf' X) L0.reverse r ∧ usd (stR rf' X) n = usd rf' n from by
            have hzz : ∀ j, stR rf' X j = 0 ↔ rf' j = 0 := fun j => by
              unfold stR; split
              · subst j; omega
              · exact Iff.rfl
            refine ⟨HSR.1.settle hzz (fun j => by have := hA2.rb j; unfold stR; split <;> omega) hMb, HP3, HC3, ?_, usd_congr n (fun j _ _ => hzz j)⟩
            have : stK (kdA nd) rf' X = [] := by unfold stK; rw [if_neg (by omega)]
            rw [this] at hD'
            exact hD')
          have hz0 : ((z : Int) == 0) = false := by simpa using hx1
          have hzb : z + 1 ≤ M := by omega
          clear HSR hA2 hP2 hC2 hD' hrg hv' hg' HP3 HC3 hsz
          go_wp2_with fail
          go_roundg K'
          case measure => omega
          case rel => exact ⟨stR rf' X, L0, wd', _, hidMk HFIN.out.2.2.2.1, hidMk HFIN.out.2.1, hidMk HFIN.out.1, hidMk HFIN.out.2.2.1, by rw [HFIN.out.2.2.2.2]; omega⟩
end
end Go.Proofs.YtimnbbpiapjfhaaDoor
