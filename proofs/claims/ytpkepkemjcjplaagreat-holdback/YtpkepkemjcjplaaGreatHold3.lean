/- slices.Grow of nil, slices.Concat of []api.Cell. -/
import Derived.Test.YtpkepkemjcjplaaGreatHold2
import Derived.Lib.AppendZeros
namespace Go.Proofs.YtpkepkemjcjplaaGreat
open Go.RowKit Go.Maps
set_option linter.unusedSimpArgs false
set_option linter.unusedVariables false

theorem ownQ_room (w : World) (cs : Array Value) (G B : Nat) (hB : B ≤ w.heap.size) (hG : G ≤ maxLen) (hc : cs.size = G * 5) : OwnQ (w.alloc (.cells cs 29)) B (.slice (some ⟨w.heap.size, 0, none⟩) 0 G) [] := World.ownsRow_made w cs G hB hG hc
set_option maxHeartbeats 2000000 in
set_option maxRecDepth 100000 in
theorem slices_GrowC (n : Nat) (hn : n ≤ 200000) (w : World) : Calls Tryz.prog 69 #[.slice none 0 0, .int .i64 n] w fun e w' => ∃ v, e = .returned v ∧ OwnQ w' w.heap.size v [] ∧ Kept w w' := by
  have h1 : ¬ ((n : Int) < 0) := by omega
  have h2 : wrap64 ((0 : Int) - 0) = 0 := by unfold wrap64; omega
  have h3 : wrap64 ((n : Int) - 0) = n := by unfold wrap64; omega
  by_cases h0 : n = 0
  · subst h0
    go_enter Tryz.func69, Tryz.ntmps69
    go_wp2_with fail
    go_ret
    exact ⟨_, rfl, ownQ_nil _ _, Kept.refl _⟩
  · have h4 : (n : Int) > 0 := by omega
    obtain ⟨i0, hi0, hz0, hz1, hz2⟩ := cinfoQ
    obtain ⟨G, hG⟩ : ∃ G, G = grownCap w n 0 29 := ⟨_, rfl⟩
    have hGn : n ≤ G := by rw [hG]; exact grownCap_ge w _ _ _
    have hG63 : G ≤ maxLen := by rw [hG]; exact grownCap_le_maxLen w n 0 _ (by unfold maxLen; omega)
    have hr : ∀ ty, _ := fun ty => Lib.run_append_nil_zeros (P := Tryz.prog) w 35 3 ty 29 i0 _ .i64 .i64 Tryz.underlying35 Tryz.underlying3 hi0 hz0 n (by omega) (by omega) (by omega) (by rw [hz2]; omega)
    rw [← hG] at hr
    obtain ⟨cs, hcs⟩ : ∃ cs, cs = Builtin.zeroCells (Value.agg #[.int .i64 0, .int .i64 0, .int .i64 0, .int .i64 0, .int .i64 0]).cells n ++ Builtin.zeroCells (Value.agg #[.int .i64 0, .int .i64 0, .int .i64 0, .int .i64 0, .int .i64 0]).cells (G - n) := ⟨_, rfl⟩
    have hsz : cs.size = G * 5 := by
      rw [hcs, Array.size_append, size_zeroCells, size_zeroCells]
      show n * 5 + (G - n) * 5 = G * 5
      omega
    rw [← hcs] at hr
    have HO := hidMk (show OwnQ (w.drew.alloc (.cells cs 29)) w.heap.size (.slice (some ⟨w.heap.size, 0, none⟩) 0 G) [] from ownQ_room w.drew cs G w.heap.size (Nat.le_refl _) hG63 hsz)
    have hG' : (G : Int) ≤ 9223372036854775807 := by unfold maxLen at hG63; omega
    clear hcs hG hi0 hz0 hz1 hz2 hG63 hsz
    go_enter Tryz.func69, Tryz.ntmps69
    go_wp2_with (at_builtin; refine Lib.wpList_append_run _ rfl _ _ _ _ rfl _ _ rfl rfl _ _ (hr _) ?_)
    all_goals (go_ret; exact ⟨_, rfl, HO.out, ((Kept.refl w).drew).alloc _⟩)
/-- Some lists of cells, one behind the other. -/
def catN (pl : Nat → List Cl) (k : Nat) : List Cl := (List.range k).flatMap pl
theorem catN_succ (pl : Nat → List Cl) (k : Nat) : catN pl (k + 1) = catN pl k ++ pl k := by simp [catN, List.range_succ]
theorem catN_le {pl : Nat → List Cl} {K : Nat} (h : ∀ i, i < K → (pl i).length ≤ 1000) : ∀ k, k ≤ K → (catN pl k).length ≤ k * 1000 := by
  intro k
  induction k with
  | zero => intro _; simp [catN]
  | succ k ih =>
    intro hk
    have h1 := ih (by omega)
    have h2 := h k (by omega)
    rw [catN_succ, List.length_append]
    omega
set_option maxHeartbeats 4000000 in
set_option maxRecDepth 100000 in
theorem slices_ConcatC (pb K kc : Nat) (pa : Nat → Option Addr) (pc : Nat → Nat) (pl : Nat → List Cl) (w : World) (hK : K ≤ 10) (h : ∀ i, i < K → w.cell? ⟨pb, i, none⟩ = some (.slice (pa i) (pl i).length (pc i)) ∧ Cq w (pa i) (pl i) ∧ (pa i = none → pl i = [] ∧ pc i = 0) ∧ (pl i).length ≤ 1000) : Calls Tryz.prog 33 #[.slice (some ⟨pb, 0, none⟩) K kc] w fun e w' => ∃ v, e = .returned v ∧ OwnQ w' w.heap.size v (catN pl K) ∧ Kept w w' := by
  have HLE := hidMk (catN_le (pl := pl) (K := K) (fun i hi => (h i hi).2.2.2))
  have HH := hidMk h
  obtain ⟨sz, hsz⟩ : ∃ sz : Nat → Nat, ∀ k, sz k = (catN pl k).length := ⟨fun k => (catN pl k).length, fun _ => rfl⟩
  have HZ := hidMk hsz
  clear h hsz
  go_enter Tryz.func33, Tryz.ntmps33
  go_wp2_with fail
  go_loopg [3, 11] (K + 1) (fun g sv x wr => ∃ k : Nat, k + g = K + 1 ∧ k ≤ K ∧ x = .int .i64 k ∧ sv = .int .i64 (sz k) ∧ w = wr)
  case atStart => exact ⟨0, by omega, by omega, rfl, by rw [HZ.out]; rfl, rfl⟩
  case round =>
    obtain ⟨k, hkg, hkK, rfl, rfl, hwr⟩ := hrel
    subst hwr
    have HG := hidMk hkg
    clear hkg
    by_cases hk : k < K
    · have hk' : (k : Int) < (K : Int) := by omega
      obtain ⟨c0, _, _, h5⟩ := HH.out k hk
      have h6 := HLE.out k (by omega)
      have hw : wrap64 ((sz k : Int) + ((pl k).length : Int)) = (sz (k + 1) : Int) := by rw [HZ.out, HZ.out, catN_succ, List.length_append]; unfold wrap64; omega
      have hneg : ¬ ((sz (k + 1) : Int) < 0) := by omega
      go_wp2_with fail
      go_roundg (gk - 1)
      case measure => have := HG.out; omega
      case rel => exact ⟨k + 1, by have := HG.out; omega, by omega, by go_num, rfl, rfl⟩
    · have hke : k = K := by omega
      subst hke
      have hk' : ¬ ((k : Int) < (k : Int)) := by omega
      have h6 := HLE.out k (by omega)
      have HGR := hidMk (slices_GrowC (sz k) (by rw [HZ.out]; omega) w)
      go_wp2_with fail
      refine HGR.out.mono ?_
      rintro e w2 ⟨v2, rfl, ho2, k2⟩
      have HO2 := hidMk ho2
      have HK2 := hidMk k2
      clear ho2 k2 HGR hk'
      go_wp2_with fail
      go_loopg [6, 27] (k + 1) (fun g sv x wr => ∃ j : Nat, j + g = k + 1 ∧ j ≤ k ∧ x = .int .i64 j ∧ Hid (OwnQ wr w.heap.size sv (catN pl j) ∧ Kept w wr))
      case atStart => exact ⟨0, by omega, by omega, rfl, hidMk ⟨HO2.out, HK2.out⟩⟩
      case round =>
        obtain ⟨j, hjg, hjk, rfl, HS⟩ := hrel
        have HJG := hidMk hjg
        clear hjg
        obtain ⟨sa, sc, hsv, _, _⟩ := HS.out.1.form
        subst hsv
        by_cases hj : j < k
        · have hj' : (j : Int) < (k : Int) := by omega
          obtain ⟨c0, c1, c2, h5⟩ := HH.out j hj
          have c0' := HS.out.2.cellp c0
          have HC1 := hidMk c1
          have HC2 := hidMk c2
          have h7 := HLE.out j (by omega)
          have HSZ := hidMk HS.out.2.size
          clear c0 c1 c2
          obtain ⟨P, hP⟩ : ∃ P, P = pl j := ⟨_, rfl⟩
          have HP := hidMk hP
          rw [← hP] at c0' HC1 HC2 h5
          clear hP
          go_wp2_with (at_builtin; refine wpList_catC _ (by rfl) _ _ (by rfl) w.heap.size (.slice sa (catN pl j).length sc) (catN pl j) P (by rfl) HS.out.1 HSZ.out (pa j) (pc j) (by rfl) (HC1.out.kept HS.out.2) HC2.out (by omega) ?_; intro v6 w6 o6 k6; have H6 := hidMk o6; have C6 := hidMk (show Kept w w6 from Chg.kept HS.out.2 k6 (fun z hz => (World.ownsRow.lt HS.out.1 z hz).1)); clear o6 k6)
          go_roundg (gk - 1)
          case measure => have := HJG.out; omega
          case rel => exact ⟨j + 1, by have := HJG.out; omega, by omega, by go_num, hidMk ⟨by rw [catN_succ, ← HP.out]; exact H6.out, C6.out⟩⟩
        · have hje : j = k := by omega
          subst hje
          have hj' : ¬ ((j : Int) < (j : Int)) := by omega
          go_wp2_with fail
          go_ret
          exact ⟨_, rfl, HS.out.1, HS.out.2⟩
end Go.Proofs.YtpkepkemjcjplaaGreat
