/- region: All; the definition's Ints. -/
import Derived.Test.YthbogpnkdlbilaaReg1
namespace Go.Proofs.Ythbogpnkdlbilaa
open Go.RowKit Go.Maps
set_option linter.unusedSimpArgs false
set_option linter.unusedVariables false

theorem ints_differ {k : Nat} {x y : List Int} (hl : x.length = y.length) (hk : k < x.length) (h : x.getD k 0 ≠ y.getD k 0) : x ≠ y := fun e => h (by rw [e])
theorem ints_alike {x y : List Int} (hl : x.length = y.length) (h : ∀ j, j < x.length → x.getD j 0 = y.getD j 0) : x = y := by
  apply List.ext_getElem hl
  intro j h1 h2
  have := h j h1
  simpa [List.getD, List.getElem?_eq_getElem h1, List.getElem?_eq_getElem h2] using this
set_option maxHeartbeats 800000 in
theorem ref_Ints (a b : Option Addr) (n m c d : Nat) (x y : List Int) (w : World) (hx : Sl .i64 w a n x) (hy : Sl .i64 w b m y) :
    Calls Try.prog 21 #[.slice a n c, .slice b m d] w fun e w' => e = .returned (.bool (decide (x = y))) ∧ Kept w w' := by
  have hlx := hx.len
  have hly := hy.len
  have hbx := hx.big
  have hby := hy.big
  unfold maxLen at hbx hby
  by_cases hnm : n = m
  · subst hnm
    obtain ⟨r, hr⟩ : ∃ r, decide (x = y) = r := ⟨_, rfl⟩
    rw [hr]
    have HR := hidMk hr
    have HX := hidMk hx
    have HY := hidMk hy
    clear hr hx hy
    have hne : ((n : Int) != (n : Int)) = false := by simp
    go_enter Try.func21, Try.ntmps21
    go_wp2_with fail
    go_loopw [5] (fun i wr => ∃ k q : Nat, k ≤ n ∧ i = .int .i64 k ∧ wr = w.drewN q ∧ Hid (∀ j, j < k → x.getD j 0 = y.getD j 0)) (fun i _ => n - (intOf i).toNat)
    case atStart => exact ⟨0, 0, Nat.zero_le _, rfl, rfl, hidMk fun j hj => absurd hj (by omega)⟩
    case round =>
      obtain ⟨k, q, hk, rfl, rfl, HJ⟩ := hrel
      by_cases hkn : k < n
      · obtain ⟨b1, o1, rfl, _, hcs1⟩ := HX.out.cells (by omega)
        obtain ⟨b2, o2, rfl, _, hcs2⟩ := HY.out.cells (by omega)
        have c1 := hcs1 k hkn
        have c2 := hcs2 k hkn
        clear hcs1 hcs2
        by_cases he : x.getD k 0 = y.getD k 0
        · have HS := hidMk (show ∀ j, j < k + 1 → x.getD j 0 = y.getD j 0 from fun j hj => by
            by_cases e : j = k
            · subst e; exact he
            · exact HJ.out j (by omega))
          rw [← he] at c2
          generalize x.getD k 0 = z at *
          have hz : (z != z) = false := by simp
          clear he
          go_wp2_with fail
          go_quiet (fail)
          go_wp2_with fail
          exact ⟨⟨k + 1, q + nq, by omega, by go_num, by simp, HS⟩, by simp [intOf]; omega⟩
        · have HD := hidMk (show r = false from HR.out ▸ decide_eq_false (ints_differ (by omega) (by omega) he))
          generalize x.getD k 0 = z1 at *
          generalize y.getD k 0 = z2 at *
          have hz : (z1 != z2) = true := by simpa using he
          clear he
          go_wp2_with fail
          go_quiet (fail)
          go_wp2_with fail
          go_ret
          exact ⟨by rw [HD.out]; rfl, ((Kept.refl w).drewN _).drewN _⟩
      · have e : k = n := by omega
        subst e
        have HD := hidMk (show r = true from HR.out ▸ decide_eq_true (ints_alike (by omega) (fun j hj => HJ.out j (by omega))))
        have hkk : ¬ ((k : Int) < (k : Int)) := by omega
        go_wp2_with fail
        go_ret
        exact ⟨by rw [HD.out]; rfl, (Kept.refl w).drewN _⟩
  · have e : decide (x = y) = false := decide_eq_false (fun e => hnm (by rw [← hlx, ← hly, e]))
    rw [e]
    have hne : ((n : Int) != (m : Int)) = true := by simp; omega
    clear hx hy e
    go_enter Try.func21, Try.ntmps21
    go_wp2_with fail
    go_ret
    exact ⟨rfl, Kept.refl _⟩

theorem ups_succ (x : Int) (n : Nat) : (List.range (n + 1)).map (fun i => x + (i : Nat)) = (List.range n).map (fun i => x + (i : Nat)) ++ [x + (n : Int)] := by
  rw [List.range_succ, List.map_append]
  rfl
theorem expd_take {l : List Rn} {k : Nat} (h : k < l.length) : expd (l.take (k + 1)) = expd (l.take k) ++ ups (rnA l k) := by
  unfold expd
  rw [List.take_succ_eq_append_getElem h, List.flatMap_append]
  simp [rnA, List.getD, List.getElem?_eq_getElem h]
theorem expd_len_take {l : List Rn} (k : Nat) : (expd (l.take k)).length ≤ (expd l).length := by
  have e : expd l = expd (l.take k) ++ expd (l.drop k) := by
    unfold expd
    rw [← List.flatMap_append, List.take_append_drop]
  rw [e, List.length_append]
  omega
theorem OwnI.kept' {w w' : World} {B : Nat} {v : Value} {l : List Int} (h : OwnI w B v l) (g : Kept w w') : OwnI w' B v l := h.chg (S := fun _ => False) (Chg.of_kept g) (fun _ _ e => e)
def AllPost (w : World) (E : List Int) (e : Ending) (w' : World) : Prop := ∃ a c, e = .returned (.slice a E.length c) ∧ Sl .i64 w' a E.length E ∧ Kept w w'
set_option maxHeartbeats 2000000 in
theorem region_All (v : Value) (l : List Rn) (w : World) (h : SetIs w v l) (hn : Norm l) (hm : (expd l).length ≤ 100000) (hl : l.length ≤ 100000) : Calls Try.prog 23 #[v] w (AllPost w (expd l)) := by
  obtain ⟨a, c, rfl, h1, h2, h3⟩ := h
  have HR := hidMk h1
  have HN := hidMk hn
  obtain ⟨E, hE⟩ : ∃ E, expd l = E := ⟨_, rfl⟩
  rw [hE] at hm ⊢
  have HE := hidMk hE
  clear h1 hn h3 hE
  go_enter Try.func23, Try.ntmps23
  go_wp2_with fail
  go_loopg [3, 10] l.length (fun g y x wr => ∃ k : Nat, k + g = l.length ∧ x = .int .i64 k ∧ OwnI wr (w.heap.size + 1) y (expd (l.take k)) ∧ Kept (w.alloc (.cells #[.slice a l.length c] 28)) wr)
  case atStart => exact ⟨0, by omega, rfl, ownI_nil _ _, Kept.refl _⟩
  case round =>
    obtain ⟨k, hkg, rfl, hO, hk⟩ := hrel
    obtain ⟨gi, hgi⟩ : ∃ gi, gi = gk := ⟨_, rfl⟩
    subst hgi
    have HKG := hidMk hkg
    have HK := hidMk hk
    by_cases hkn : k < l.length
    · obtain ⟨b, o, rfl, _, hcs⟩ := HR.out.cells (by omega)
      obtain ⟨c1, c2⟩ := hcs k hkn
      have d1 := hk.cellp (((Kept.refl w).alloc _).cellp c1)
      have d2 := hk.cellp (((Kept.refl w).alloc _).cellp c2)
      have hb := norm_at HN.out hkn
      have HT := hidMk (expd_take hkn)
      have hlt := expd_len_take (l := l) (k + 1)
      rw [HT.out, List.length_append, HE.out] at hlt
      have hul : (ups (rnA l k)).length = ((rnA l k).2 - (rnA l k).1 + 1).toNat := by simp [ups]
      rw [hul] at hlt
      have HU := hidMk (show ups (rnA l k) = (List.range ((rnA l k).2 - (rnA l k).1 + 1).toNat).map (fun i => (rnA l k).1 + (i : Nat)) from rfl)
      clear hcs c1 c2 hkg hul
      generalize rnA l k = r at *
      obtain ⟨x, y⟩ := r
      simp only at hb hlt d1 d2 HU
      have HO := hidMk hO
      have hsz : w.heap.size + 1 ≤ wr.heap.size := by have := hk.size; simpa using this
      clear hO hk
      generalize expd (l.take k) = acc at *
      obtain ⟨n, hn⟩ : ∃ n : Nat, (y - x + 1).toNat = n := ⟨_, rfl⟩
      have hyx : y - x + 1 = (n : Int) := by omega
      rw [hn] at hlt HU
      have hw1 : IntKind.i64.wrap (y - x) = y - x := by rw [IntKind.wrap_i64]; omega
      have hw2 : IntKind.i64.wrap (y - x + 1) = (n : Int) := by rw [IntKind.wrap_i64]; omega
      clear hn
      go_wp2_with fail
      generalize hNN : wr.heap.size = N
      have HNE := hidMk (show ∀ g, u3.ownBlock = some g → g ≠ N from fun g hg => by have := (HO.out.lt g hg).2; omega)
      go_loopg [3, 20] n (fun g v q wi => ∃ i : Nat, i + g = n ∧ q = .int .i64 i ∧ OwnI wi (w.heap.size + 1) v (acc ++ (List.range i).map (fun i => x + (i : Nat))) ∧ Kept (w.alloc (.cells #[.slice (some ⟨b, o, none⟩) l.length c] 28)) wi ∧ wi.cell? ⟨N, 0, none⟩ = some (.int .i64 x) ∧ Hid (∀ g, v.ownBlock = some g → g ≠ N))
      case atStart => exact ⟨0, by omega, rfl, by simpa using HO.out.kept' ((Kept.refl wr).alloc _), HK.out.alloc _, by subst hNN; simp, HNE⟩
      case round =>
        obtain ⟨i, hig, rfl, hOi, hki, n0, HNI⟩ := hrel
        obtain ⟨gj, hgj⟩ : ∃ gj, gj = gk := ⟨_, rfl⟩
        subst hgj
        have HIG := hidMk hig
        have HKI := hidMk hki
        have HOI := hidMk hOi
        have hszi : w.heap.size + 1 ≤ wr.heap.size := by have := hki.size; simpa using this
        have hrw : N < wr.heap.size := cell_lt n0
        by_cases hin : i < n
        · have HUS := hidMk (ups_succ x i)
          have hla : (acc ++ (List.range i).map (fun i => x + (i : Nat))).length = acc.length + i := by simp
          obtain ⟨da, dc, rfl, _⟩ := hOi.sl (by rw [hla]; unfold maxLen; omega)
          have hxi : IntKind.i64.wrap (x + (i : Int)) = x + (i : Int) := by rw [IntKind.wrap_i64]; omega
          have HAPP := hidMk (show acc ++ (List.range (i + 1)).map (fun i => x + (i : Nat)) = acc ++ (List.range i).map (fun i => x + (i : Nat)) ++ [x + (i : Int)] by rw [HUS.out, List.append_assoc])
          have HLA := hidMk hla
          clear hOi hki hig hla
          generalize acc ++ (List.range i).map (fun i => x + (i : Nat)) = acc2 at *
          have n0' := fun o => ((Kept.refl wr).alloc o).cellp n0
          go_wp2_with (at_builtin; refine wpList_pushI _ (by rfl) _ _ (by rfl) (w.heap.size + 1) (.slice da acc2.length dc) acc2 (by rfl) (HOI.out.kept' ((Kept.refl _).alloc _)) (by simp; omega) wr.heap.size (x + (i : Int)) (by rfl) (by simp) (by have := HLA.out; omega) (wr.heap.size + 1) (by simp) ?_; intro g4 cap4 w4 o4 k4 a4 l4; have H4 := hidMk o4; have K4 := hidMk (Chg.kept (HKI.out.alloc _) k4 (fun j hj => by have := (HOI.out.lt j hj).1; simp; omega)); have n4 := k4.cellp (n0' _) (fun e => HNI.out _ e rfl); have HN4 := hidMk (show ∀ g, (Value.slice (some ⟨g4, 0, none⟩) (acc2.length + 1) cap4).ownBlock = some g → g ≠ N from fun g hg => by (simp only [Value.ownBlock, Option.some.injEq] at hg; subst hg; rcases a4 with a4 | a4; exact HNI.out _ a4; omega)); clear o4 k4 a4 l4)
          go_roundg (gj - 1)
          case measure => have := HIG.out; omega
          case rel => exact ⟨i + 1, by have := HIG.out; omega, by go_num, by rw [HAPP.out]; exact H4.out, K4.out, n4, HN4⟩
        · have hin2 : i = n := by omega
          subst hin2
          have hkk : ¬ ((i : Int) < (i : Int)) := by omega
          clear hOi hki hig
          go_wp2_with fail
          go_roundg (gi - 1)
          case measure => have := HKG.out; omega
          case rel => exact ⟨k + 1, by have := HKG.out; omega, by go_num, by rw [HT.out, HU.out]; exact HOI.out, HKI.out⟩
    · have htk : l.take k = l := List.take_of_length_le (by omega)
      rw [htk, HE.out] at hO
      have hkk : ¬ ((k : Int) < (l.length : Int)) := by omega
      obtain ⟨sa, sc, rfl, hsl⟩ := hO.sl (by unfold maxLen; omega)
      have HSL := hidMk hsl
      clear hk hkg hO htk hsl
      go_wp2_with fail
      go_ret
      exact ⟨sa, sc, rfl, HSL.out, ((Kept.refl w).alloc _).trans HK.out⟩
end Go.Proofs.Ythbogpnkdlbilaa
