/- log: slices.Grow and Concat of bytes; blocks. -/
import Derived.Test.YtapcmkhpbdphoaaLg1
import Derived.Test.YtapcmkhpbdphoaaRfSt
import Derived.Laws.AppendOwnNone
import Derived.Lib.AppendZeros
namespace Go.Proofs.Ytapcmkhpbdphoaa
open Go.RowKit Go.Maps Go.Shelf
set_option linter.unusedSimpArgs false
set_option linter.unusedVariables false

theorem wpList_appZ {ops : Array Oper} {rest : List Oper} {o : Oper} {a : Act} {Q : Exit → Act → World → Prop} (w : World) (hgd : o.guard = none) (s x : Operand)
    (ho : o.op = .call { callee := .builtin .append, args := #[s, x], argTypes := #[33, 33] })
    (w0 : World) (v : Value) (l : List Int) (hs : a.eval s = v) (hv : Owned w0 w v l) (hk : Kept w0 w) (b : Option Addr) (n c : Nat) (m : List Int) (hx : a.eval x = .slice b n c) (hsl : Sl .u8 w b n m) (hnil : b = none → c = 0)
    (hbig : (l.length + n) + (l.length + n) / 4 + 192 ≤ 281474976710656)
    (h : ∀ v' w', Owned w0 w' v' (l ++ m) → Kept w0 w' → wpList Try.prog ops Q rest (a.put o.dst v') w') : wpList Try.prog ops Q (o :: rest) a w := by
  obtain ⟨i0, hi0, hz0, hz1, hz2⟩ := u8info
  have hl := hsl.len
  cases b with
  | none =>
    have hn : n = 0 := by
      by_cases hn : 0 < n
      · obtain ⟨b', o', e, _⟩ := hsl.cells hn
        cases e
      · omega
    subst hn
    have hm : m = [] := List.eq_nil_of_length_eq_zero hl
    subst hm
    rw [hnil rfl] at hx
    refine wpList_append_own_none hgd s x 33 ho w0.heap.size 5 i0 1 Try.underlying33 hi0 v _ _ hs hv hx ?_
    exact h v w (by rw [List.append_nil]; exact hv) hk
  | some ad =>
    refine wpList_append_own_wide w hgd s x 33 ho w0.heap.size 5 i0 (.int .u8 0) 1 1 Try.underlying33 hi0 hz0 hz1 hz2 rfl (by decide) v _ _ hs hv ad n c (m.map (Value.int .u8)) hx (by simpa using hl) (sl_news hsl rfl) (u8s_one m) (by unfold maxLen; omega) (by omega) hk.size ?_
    intro v' w' h2 h3 _
    refine h v' w' ?_ (kept_grown hk hv h3)
    unfold Owned
    rw [List.length_append, List.map_append, hl]
    exact h2
theorem Owned.form {w0 w : World} {v : Value} {l : List Int} (h : Owned w0 w v l) : ∃ a c, v = .slice a l.length c := by
  obtain ⟨_, ⟨e, hz⟩ | ⟨g, cap, cur, hv, r⟩⟩ := h
  · exact ⟨none, 0, by rw [e, hz]⟩
  · exact ⟨_, _, hv⟩
set_option maxHeartbeats 2000000 in
set_option maxRecDepth 100000 in
theorem slices_GrowB (n : Nat) (hn : n ≤ 200000) (w : World) : Calls Try.prog 43 #[.slice none 0 0, .int .i64 n] w fun e w' => ∃ v, e = .returned v ∧ Owned w w' v [] ∧ Kept w w' := by
  have h1 : ¬ ((n : Int) < 0) := by omega
  have h2 : wrap64 ((0 : Int) - 0) = 0 := by unfold wrap64; omega
  have h3 : wrap64 ((n : Int) - 0) = n := by unfold wrap64; omega
  by_cases h0 : n = 0
  · subst h0
    go_enter Try.func43, Try.ntmps43
    go_wp2_with fail
    go_ret
    exact ⟨_, rfl, World.ownsRow_nil _ _ _ _, Kept.refl _⟩
  · have h4 : (n : Int) > 0 := by omega
    obtain ⟨i0, hi0, hz0, hz1, hz2⟩ := u8info
    obtain ⟨G, hG⟩ : ∃ G, G = grownCap w n 0 5 := ⟨_, rfl⟩
    have hGn : n ≤ G := by rw [hG]; exact grownCap_ge w _ _ _
    have hG63 : G ≤ maxLen := by rw [hG]; exact grownCap_le_maxLen w n 0 _ (by unfold maxLen; omega)
    have hr : ∀ ty, _ := fun ty => Lib.run_append_nil_zeros (P := Try.prog) w 33 3 ty 5 i0 _ .i64 .i64 Try.underlying33 Try.underlying3 hi0 hz0 n (by omega) (by omega) (by omega) (by rw [hz2]; omega)
    rw [← hG] at hr
    obtain ⟨cs, hcs⟩ : ∃ cs, cs = Builtin.zeroCells (Value.int .u8 0).cells n ++ Builtin.zeroCells (Value.int .u8 0).cells (G - n) := ⟨_, rfl⟩
    have hsz : cs.size = G * 1 := by
      rw [hcs, Array.size_append, size_zeroCells, size_zeroCells]
      show n * 1 + (G - n) * 1 = G * 1
      omega
    rw [← hcs] at hr
    have HO := hidMk (show Owned w (w.drew.alloc (.cells cs 5)) (.slice (some ⟨w.heap.size, 0, none⟩) 0 G) [] from World.ownsRow_made w.drew cs G (Nat.le_refl _) hG63 hsz)
    have hG' : (G : Int) ≤ 9223372036854775807 := by unfold maxLen at hG63; omega
    clear hcs hG hi0 hz0 hz1 hz2 hG63 hsz
    go_enter Try.func43, Try.ntmps43
    go_wp2_with (at_builtin; refine Lib.wpList_append_run _ rfl _ _ _ _ rfl _ _ rfl rfl _ _ (hr _) ?_)
    all_goals (go_ret; exact ⟨_, rfl, HO.out, ((Kept.refl w).drew).alloc _⟩)
/-- Some lists of bytes, one behind the other. -/
def catB (pl : Nat → List Int) (k : Nat) : List Int := (List.range k).flatMap pl
theorem catB_succ (pl : Nat → List Int) (k : Nat) : catB pl (k + 1) = catB pl k ++ pl k := by simp [catB, List.range_succ]
theorem catB_le {pl : Nat → List Int} {K : Nat} (h : ∀ i, i < K → (pl i).length ≤ 1000) : ∀ k, k ≤ K → (catB pl k).length ≤ k * 1000 := by
  intro k
  induction k with
  | zero => intro _; simp [catB]
  | succ k ih =>
    intro hk
    have h1 := ih (by omega)
    have h2 := h k (by omega)
    rw [catB_succ, List.length_append]
    omega
set_option maxHeartbeats 4000000 in
set_option maxRecDepth 100000 in
theorem slices_ConcatB (pb K kc : Nat) (pa : Nat → Option Addr) (pc : Nat → Nat) (pl : Nat → List Int) (w : World) (hK : K ≤ 10) (h : ∀ i, i < K → w.cell? ⟨pb, i, none⟩ = some (.slice (pa i) (pl i).length (pc i)) ∧ Sl .u8 w (pa i) (pl i).length (pl i) ∧ (pa i = none → pc i = 0) ∧ (pl i).length ≤ 1000) : Calls Try.prog 27 #[.slice (some ⟨pb, 0, none⟩) K kc] w fun e w' => ∃ v, e = .returned v ∧ Owned w w' v (catB pl K) ∧ Kept w w' := by
  have HLE := hidMk (catB_le (pl := pl) (K := K) (fun i hi => (h i hi).2.2.2))
  have HH := hidMk h
  obtain ⟨sz, hsz⟩ : ∃ sz : Nat → Nat, ∀ k, sz k = (catB pl k).length := ⟨fun k => (catB pl k).length, fun _ => rfl⟩
  have HZ := hidMk hsz
  clear h hsz
  go_enter Try.func27, Try.ntmps27
  go_wp2_with fail
  go_loopg [3, 11] (K + 1) (fun g sv x wr => ∃ k : Nat, k + g = K + 1 ∧ k ≤ K ∧ x = .int .i64 k ∧ sv = .int .i64 (sz k) ∧ w = wr)
  case atStart => exact ⟨0, by omega, by omega, rfl, by rw [HZ.out]; rfl, rfl⟩
  case round =>
    obtain ⟨k, hkg, hkK, rfl, rfl, hwr⟩ := hrel
    subst hwr
    have HG := hidMk hkg
    clear hkg
    by_cases hk : k < K
    · have hk' : (k : Int) < (K : Int) := by omega
      obtain ⟨c0, _, _, h5⟩ := HH.out k hk
      have h6 := HLE.out k (by omega)
      have hw : wrap64 ((sz k : Int) + ((pl k).length : Int)) = (sz (k + 1) : Int) := by rw [HZ.out, HZ.out, catB_succ, List.length_append]; unfold wrap64; omega
      have hneg : ¬ ((sz (k + 1) : Int) < 0) := by omega
      go_wp2_with fail
      go_roundg (gk - 1)
      case measure => have := HG.out; omega
      case rel => exact ⟨k + 1, by have := HG.out; omega, by omega, by go_num, rfl, rfl⟩
    · have hke : k = K := by omega
      subst hke
      have hk' : ¬ ((k : Int) < (k : Int)) := by omega
      have h6 := HLE.out k (by omega)
      have HGR := hidMk (slices_GrowB (sz k) (by rw [HZ.out]; omega) w)
      go_wp2_with fail
      refine HGR.out.mono ?_
      rintro e w2 ⟨v2, rfl, ho2, k2⟩
      have HO2 := hidMk ho2
      have HK2 := hidMk k2
      clear ho2 k2 HGR hk'
      go_wp2_with fail
      go_loopg [6, 27] (k + 1) (fun g sv x wr => ∃ j : Nat, j + g = k + 1 ∧ j ≤ k ∧ x = .int .i64 j ∧ Hid (Owned w wr sv (catB pl j) ∧ Kept w wr))
      case atStart => exact ⟨0, by omega, by omega, rfl, hidMk ⟨HO2.out, HK2.out⟩⟩
      case round =>
        obtain ⟨j, hjg, hjk, rfl, HS⟩ := hrel
        have HJG := hidMk hjg
        clear hjg
        obtain ⟨sa, sc, hsv⟩ := HS.out.1.form
        subst hsv
        by_cases hj : j < k
        · have hj' : (j : Int) < (k : Int) := by omega
          obtain ⟨c0, c1, c2, h5⟩ := HH.out j hj
          have c0' := HS.out.2.cellp c0
          have HC1 := hidMk c1
          have HC2 := hidMk c2
          have h7 := HLE.out j (by omega)
          clear c0 c1 c2
          obtain ⟨P, hP⟩ : ∃ P, P = pl j := ⟨_, rfl⟩
          have HP := hidMk hP
          rw [← hP] at c0' HC1 h5
          clear hP
          go_wp2_with (at_builtin; refine wpList_appZ _ (by rfl) _ _ (by rfl) w (.slice sa (catB pl j).length sc) (catB pl j) (by rfl) HS.out.1 HS.out.2 (pa j) P.length (pc j) P (by rfl) (HC1.out.kept HS.out.2) HC2.out (by omega) ?_; intro v6 w6 o6 k6; have H6 := hidMk o6; have C6 := hidMk k6; clear o6 k6)
          go_roundg (gk - 1)
          case measure => have := HJG.out; omega
          case rel => exact ⟨j + 1, by have := HJG.out; omega, by omega, by go_num, hidMk ⟨by rw [catB_succ, ← HP.out]; exact H6.out, C6.out⟩⟩
        · have hje : j = k := by omega
          subst hje
          have hj' : ¬ ((j : Int) < (j : Int)) := by omega
          go_wp2_with fail
          go_ret
          exact ⟨_, rfl, HS.out.1, HS.out.2⟩
theorem log_blocks (a : Option Addr) (n c : Nat) (w : World) : Calls Try.prog 26 #[.slice a n c] w fun e w' => e = .returned (.func (.func 42) #[] #[.pointer (some ⟨w.heap.size, 0, none⟩)]) ∧ w' = w.alloc (.cells #[.slice a n c] 33) := by
  go_enter Try.func26, Try.ntmps26
  go_wp2_with fail
  go_ret
  exact ⟨rfl, rfl⟩
end Go.Proofs.Ytapcmkhpbdphoaa
