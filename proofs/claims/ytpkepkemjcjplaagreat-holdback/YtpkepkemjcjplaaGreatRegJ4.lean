/- Regions beside coord: All, Has. -/
import Derived.Test.YtpkepkemjcjplaaGreatRegJ1
namespace Go.Proofs.YtpkepkemjcjplaaGreat
open Go.RowKit Go.Maps
set_option linter.unusedSimpArgs false
set_option linter.unusedVariables false

theorem ups_succ (x : Int) (n : Nat) : (List.range (n + 1)).map (fun i => x + (i : Nat)) = (List.range n).map (fun i => x + (i : Nat)) ++ [x + (n : Int)] := by
  rw [List.range_succ, List.map_append]
  rfl
theorem expd_take {l : List Rn} {k : Nat} (h : k < l.length) : expd (l.take (k + 1)) = expd (l.take k) ++ ups (rnA l k) := by
  unfold expd
  rw [List.take_succ_eq_append_getElem h, List.flatMap_append]
  simp [rnA, List.getD, List.getElem?_eq_getElem h]
theorem expd_len_take {l : List Rn} (k : Nat) : (expd (l.take k)).length ≤ (expd l).length := by
  have e : expd l = expd (l.take k) ++ expd (l.drop k) := by
    unfold expd
    rw [← List.flatMap_append, List.take_append_drop]
  rw [e, List.length_append]
  omega
theorem OwnI.kept' {w w' : World} {B : Nat} {v : Value} {l : List Int} (h : OwnI w B v l) (g : Kept w w') : OwnI w' B v l := h.chg (S := fun _ => False) (Chg.of_kept g) (fun _ _ e => e)
def AllPost (w : World) (E : List Int) (e : Ending) (w' : World) : Prop := ∃ a c, e = .returned (.slice a E.length c) ∧ Sl .i64 w' a E.length E ∧ Kept w w'
set_option maxHeartbeats 2000000 in
theorem region_All (v : Value) (l : List Rn) (w : World) (h : SetIs w v l) (hn : Norm l) (hm : (expd l).length ≤ 100000) (hl : l.length ≤ 100000) : Calls Tryz.prog 21 #[v] w (AllPost w (expd l)) := by
  obtain ⟨a, c, rfl, h1, h2, h3⟩ := h
  have HR := hidMk h1
  have HN := hidMk hn
  obtain ⟨E, hE⟩ : ∃ E, expd l = E := ⟨_, rfl⟩
  rw [hE] at hm ⊢
  have HE := hidMk hE
  clear h1 hn h3 hE
  go_enter Tryz.func21, Tryz.ntmps21
  go_wp2_with fail
  go_loopg [3, 10] l.length (fun g y x wr => ∃ k : Nat, k + g = l.length ∧ x = .int .i64 k ∧ OwnI wr (w.heap.size + 1) y (expd (l.take k)) ∧ Kept (w.alloc (.cells #[.slice a l.length c] 55)) wr)
  case atStart => exact ⟨0, by omega, rfl, ownI_nil _ _, Kept.refl _⟩
  case round =>
    obtain ⟨k, hkg, rfl, hO, hk⟩ := hrel
    obtain ⟨gi, hgi⟩ : ∃ gi, gi = gk := ⟨_, rfl⟩
    subst hgi
    have HKG := hidMk hkg
    have HK := hidMk hk
    by_cases hkn : k < l.length
    · obtain ⟨b, o, rfl, _, hcs⟩ := HR.out.cells (by omega)
      obtain ⟨c1, c2⟩ := hcs k hkn
      have d1 := hk.cellp (((Kept.refl w).alloc _).cellp c1)
      have d2 := hk.cellp (((Kept.refl w).alloc _).cellp c2)
      have hb := norm_at HN.out hkn
      have HT := hidMk (expd_take hkn)
      have hlt := expd_len_take (l := l) (k + 1)
      rw [HT.out, List.length_append, HE.out] at hlt
      have hul : (ups (rnA l k)).length = ((rnA l k).2 - (rnA l k).1 + 1).toNat := by simp [ups]
      rw [hul] at hlt
      have HU := hidMk (show ups (rnA l k) = (List.range ((rnA l k).2 - (rnA l k).1 + 1).toNat).map (fun i => (rnA l k).1 + (i : Nat)) from rfl)
      clear hcs c1 c2 hkg hul
      generalize rnA l k = r at *
      obtain ⟨x, y⟩ := r
      simp only at hb hlt d1 d2 HU
      have HO := hidMk hO
      have hsz : w.heap.size + 1 ≤ wr.heap.size := by have := hk.size; simpa using this
      clear hO hk
      generalize expd (l.take k) = acc at *
      obtain ⟨n, hn⟩ : ∃ n : Nat, (y - x + 1).toNat = n := ⟨_, rfl⟩
      have hyx : y - x + 1 = (n : Int) := by omega
      rw [hn] at hlt HU
      have hw1 : IntKind.i64.wrap (y - x) = y - x := by rw [IntKind.wrap_i64]; omega
      have hw2 : IntKind.i64.wrap (y - x + 1) = (n : Int) := by rw [IntKind.wrap_i64]; omega
      clear hn
      go_wp2_with fail
      generalize hNN : wr.heap.size = N
      have HNE := hidMk (show ∀ g, u3.ownBlock = some g → g ≠ N from fun g hg => by have := (HO.out.lt g hg).2; omega)
      go_loopg [3, 20] n (fun g v q wi => ∃ i : Nat, i + g = n ∧ q = .int .i64 i ∧ OwnI wi (w.heap.size + 1) v (acc ++ (List.range i).map (fun i => x + (i : Nat))) ∧ Kept (w.alloc (.cells #[.slice (some ⟨b, o, none⟩) l.length c] 55)) wi ∧ wi.cell? ⟨N, 0, none⟩ = some (.int .i64 x) ∧ Hid (∀ g, v.ownBlock = some g → g ≠ N))
      case atStart => exact ⟨0, by omega, rfl, by simpa using HO.out.kept' ((Kept.refl wr).alloc _), HK.out.alloc _, by subst hNN; simp, HNE⟩
      case round =>
        obtain ⟨i, hig, rfl, hOi, hki, n0, HNI⟩ := hrel
        obtain ⟨gj, hgj⟩ : ∃ gj, gj = gk := ⟨_, rfl⟩
        subst hgj
        have HIG := hidMk hig
        have HKI := hidMk hki
        have HOI := hidMk hOi
        have hszi : w.heap.size + 1 ≤ wr.heap.size := by have := hki.size; simpa using this
        have hrw : N < wr.heap.size := cell_lt n0
        by_cases hin : i < n
        · have HUS := hidMk (ups_succ x i)
          have hla : (acc ++ (List.range i).map (fun i => x + (i : Nat))).length = acc.length + i := by simp
          obtain ⟨da, dc, rfl, _⟩ := hOi.sl (by rw [hla]; unfold maxLen; omega)
          have hxi : IntKind.i64.wrap (x + (i : Int)) = x + (i : Int) := by rw [IntKind.wrap_i64]; omega
          have HAPP := hidMk (show acc ++ (List.range (i + 1)).map (fun i => x + (i : Nat)) = acc ++ (List.range i).map (fun i => x + (i : Nat)) ++ [x + (i : Int)] by rw [HUS.out, List.append_assoc])
          have HLA := hidMk hla
          clear hOi hki hig hla
          generalize acc ++ (List.range i).map (fun i => x + (i : Nat)) = acc2 at *
          have n0' := fun o => ((Kept.refl wr).alloc o).cellp n0
          go_wp2_with (at_builtin; refine wpList_pushI _ (by rfl) _ _ (by rfl) (w.heap.size + 1) (.slice da acc2.length dc) acc2 (by rfl) (HOI.out.kept' ((Kept.refl _).alloc _)) (by simp; omega) wr.heap.size (x + (i : Int)) (by rfl) (by simp) (by have := HLA.out; omega) (wr.heap.size + 1) (by simp) ?_; intro g4 cap4 w4 o4 k4 a4 l4; have H4 := hidMk o4; have K4 := hidMk (Chg.kept (HKI.out.alloc _) k4 (fun j hj => by have := (HOI.out.lt j hj).1; simp; omega)); have n4 := k4.cellp (n0' _) (fun e => HNI.out _ e rfl); have HN4 := hidMk (show ∀ g, (Value.slice (some ⟨g4, 0, none⟩) (acc2.length + 1) cap4).ownBlock = some g → g ≠ N from fun g hg => by (simp only [Value.ownBlock, Option.some.injEq] at hg; subst hg; rcases a4 with a4 | a4; exact HNI.out _ a4; omega)); clear o4 k4 a4 l4)
          go_roundg (gj - 1)
          case measure => have := HIG.out; omega
          case rel => exact ⟨i + 1, by have := HIG.out; omega, by go_num, by rw [HAPP.out]; exact H4.out, K4.out, n4, HN4⟩
        · have hin2 : i = n := by omega
          subst hin2
          have hkk : ¬ ((i : Int) < (i : Int)) := by omega
          clear hOi hki hig
          go_wp2_with fail
          go_roundg (gi - 1)
          case measure => have := HKG.out; omega
          case rel => exact ⟨k + 1, by have := HKG.out; omega, by go_num, by rw [HT.out, HU.out]; exact HOI.out, HKI.out⟩
    · have htk : l.take k = l := List.take_of_length_le (by omega)
      rw [htk, HE.out] at hO
      have hkk : ¬ ((k : Int) < (l.length : Int)) := by omega
      obtain ⟨sa, sc, rfl, hsl⟩ := hO.sl (by unfold maxLen; omega)
      have HSL := hidMk hsl
      clear hk hkg hO htk hsl
      go_wp2_with fail
      go_ret
      exact ⟨sa, sc, rfl, HSL.out, ((Kept.refl w).alloc _).trans HK.out⟩
end Go.Proofs.YtpkepkemjcjplaaGreat
namespace Go.Proofs.YtpkepkemjcjplaaGreat
open Go.RowKit Go.Maps
set_option linter.unusedSimpArgs false
set_option linter.unusedVariables false

def agR (r : Rn) (x : Int) : Int := if r.2 < x then -1 else if x < r.1 then 1 else 0
theorem region_against (r : Rn) (x : Int) (w : World) : Calls Tryz.prog 56 #[.agg #[.int .i64 r.1, .int .i64 r.2], .int .i64 x] w fun e w' => e = .returned (.int .i64 (agR r x)) ∧ Kept w w' := by
  obtain ⟨r1, r2⟩ := r
  simp only
  by_cases h1 : r2 < x
  · rw [show agR (r1, r2) x = -1 from if_pos h1]
    go_enter Tryz.func56, Tryz.ntmps56
    go_wp2_with fail
    go_ret
    exact ⟨rfl, (Kept.refl w).alloc _⟩
  · by_cases h2 : x < r1
    · rw [show agR (r1, r2) x = 1 from (if_neg h1).trans (if_pos h2)]
      have h1' : x ≤ r2 := by omega
      go_enter Tryz.func56, Tryz.ntmps56
      go_wp2_with fail
      go_ret
      exact ⟨rfl, (Kept.refl w).alloc _⟩
    · rw [show agR (r1, r2) x = 0 from (if_neg h1).trans (if_neg h2)]
      have h1' : x ≤ r2 := by omega
      have h2' : r1 ≤ x := by omega
      go_enter Tryz.func56, Tryz.ntmps56
      go_wp2_with fail
      go_ret
      exact ⟨rfl, (Kept.refl w).alloc _⟩
theorem norm_lt {l : List Rn} (h : Norm l) {i j : Nat} (hij : i < j) (hj : j < l.length) : (rnA l i).2 + 1 < (rnA l j).1 := by
  have := List.pairwise_iff_getElem.1 h.pw i j (by omega) hj hij
  simpa [rnA, List.getD, List.getElem?_eq_getElem hj, List.getElem?_eq_getElem (show i < l.length by omega)] using this
theorem mem_rnA {l : List Rn} {r : Rn} (h : r ∈ l) : ∃ k, k < l.length ∧ rnA l k = r := by
  obtain ⟨k, hk, rfl⟩ := List.getElem_of_mem h
  exact ⟨k, hk, by simp [rnA, List.getD, List.getElem?_eq_getElem hk]⟩
theorem found_is {l : List Rn} (h : Norm l) (x : Int) {i : Nat} (hi : i ≤ l.length) (h1 : ∀ k, k < i → (rnA l k).2 < x) (h2 : ∀ k, i ≤ k → k < l.length → ¬ (rnA l k).2 < x) : inRg l x ↔ i < l.length ∧ agR (rnA l i) x = 0 := by
  constructor
  · rintro ⟨r, hr, e1, e2⟩
    obtain ⟨m, hm, rfl⟩ := mem_rnA hr
    have hmi : i ≤ m := by
      by_cases c : m < i
      · have := h1 m c; omega
      · omega
    have hmi2 : m = i := by
      by_cases c : i < m
      · have := norm_lt h c hm; have := h2 i (Nat.le_refl _) (by omega); omega
      · omega
    subst hmi2
    exact ⟨hm, by unfold agR; rw [if_neg (by omega), if_neg (by omega)]⟩
  · rintro ⟨hil, he⟩
    refine ⟨rnA l i, rnA_mem hil, ?_⟩
    unfold agR at he
    split at he
    · omega
    · split at he
      · omega
      · omega
set_option maxHeartbeats 4000000 in
set_option maxRecDepth 100000 in
theorem slices_BinR (a : Option Addr) (c : Nat) (l : List Rn) (x : Int) (w : World) (hs : Rs w a l) (hN : Norm l) (hl : l.length ≤ 100000) (b : Bool) (hb : b = true ↔ inRg l x) :
    Calls Tryz.prog 55 #[.slice a l.length c, .int .i64 x, .func (.func 56) #[] #[]] w fun e w' => (∃ i : Int, e = .returned (.tuple #[.int .i64 i, .bool b])) ∧ Kept w w' := by
  have HS := hidMk hs
  have HN := hidMk hN
  have HB := hidMk hb
  have HAG := hidMk region_against
  clear hs hN hb
  go_enter Tryz.func55, Tryz.ntmps55
  go_wp2_with fail
  go_loopg [9, 10] l.length (fun g p q wr => ∃ (i j : Nat), i ≤ j ∧ j - i = g ∧ j ≤ l.length ∧ p = .int .i64 i ∧ q = .int .i64 j ∧ Kept w wr ∧ Hid ((∀ k, k < i → (rnA l k).2 < x) ∧ ∀ k, j ≤ k → k < l.length → x ≤ (rnA l k).2))
  case atStart => exact ⟨0, l.length, by omega, by omega, by omega, rfl, rfl, Kept.refl _, hidMk ⟨fun k hk => absurd hk (by omega), fun k h1 h2 => absurd h1 (by omega)⟩⟩
  case round =>
    obtain ⟨i, j, hij, hg, hjl, rfl, rfl, hk, HJ⟩ := hrel
    have HK := hidMk hk
    have HG := hidMk hg
    by_cases hlt : i < j
    · have hlt' : (i : Int) < (j : Int) := by omega
      obtain ⟨h, hh⟩ : ∃ h : Nat, (i + j) / 2 = h := ⟨_, rfl⟩
      have hh1 : i ≤ h := by omega
      have hh2 : h < j := by omega
      obtain ⟨bb, o, rfl, hbb, hcs⟩ := HS.out.cells (by omega)
      obtain ⟨c1, c2⟩ := hcs h (by omega)
      have d1 := hk.cellp c1
      have d2 := hk.cellp c2
      have hw1 : IntKind.i64.wrap ((i : Int) + (j : Int)) = (i : Int) + (j : Int) := by rw [IntKind.wrap_i64]; omega
      clear hcs c1 c2 hk hg
      have HH := hidMk hh
      have hH2 : ((i : Int) + (j : Int)) / 2 = (h : Int) := by omega
      have HH2 := hidMk hH2
      go_wp2_with fail
      refine (HAG.out _ _ _).mono ?_
      rintro e w5 ⟨rfl, k5⟩
      have K5 := hidMk k5
      clear k5
      by_cases hr : (rnA l h).2 < x
      · have ha : agR (rnA l h) x = -1 := if_pos hr
        rw [ha]
        have HJ2 := hidMk (show (∀ k, k < h + 1 → (rnA l k).2 < x) ∧ ∀ k, j ≤ k → k < l.length → x ≤ (rnA l k).2 from ⟨fun k hk => by
          by_cases e : k = h
          · subst e; exact hr
          · have h1 := norm_lt HN.out (show k < h by omega) (by omega)
            have h2 := norm_at HN.out (k := h) (by omega)
            omega, HJ.out.2⟩)
        clear ha hr
        go_wp2_with fail
        go_roundg (j - (h + 1))
        case measure => have := HG.out; omega
        case rel => exact ⟨h + 1, j, by omega, rfl, by omega, by first | rfl | go_num, rfl, HK.out.trans K5.out, HJ2⟩
      · have ha : ¬ agR (rnA l h) x < 0 := by unfold agR; rw [if_neg hr]; split <;> omega
        have HJ2 := hidMk (show (∀ k, k < i → (rnA l k).2 < x) ∧ ∀ k, h ≤ k → k < l.length → x ≤ (rnA l k).2 from ⟨HJ.out.1, fun k hk1 hk2 => by
          by_cases e : k = h
          · subst e; omega
          · have h1 := norm_lt HN.out (show h < k by omega) (by omega)
            have h2 := norm_at HN.out (k := k) (by omega)
            omega⟩)
        clear hr
        generalize agR (rnA l h) x = z at *
        go_wp2_with fail
        go_roundg (h - i)
        case measure => have := HG.out; omega
        case rel => exact ⟨i, h, by omega, rfl, by omega, rfl, rfl, HK.out.trans K5.out, HJ2⟩
    · obtain rfl : i = j := by omega
      have hkk : ¬ ((i : Int) < (i : Int)) := by omega
      have HF := hidMk (show b = true ↔ i < l.length ∧ agR (rnA l i) x = 0 from HB.out.trans (found_is HN.out x hjl HJ.out.1 (fun k h1 h2 => by have := HJ.out.2 k h1 h2; omega)))
      clear hg
      by_cases hil : i < l.length
      · obtain ⟨bb, o, rfl, hbb, hcs⟩ := HS.out.cells (by omega)
        obtain ⟨c1, c2⟩ := hcs i hil
        have d1 := hk.cellp c1
        have d2 := hk.cellp c2
        have hil' : (i : Int) < (l.length : Int) := by omega
        clear hcs c1 c2 hk
        by_cases ha : agR (rnA l i) x = 0
        · have HT := hidMk (show b = true from HF.out.2 ⟨hil, ha⟩)
          have HA2 := hidMk (show ∀ w, Calls Tryz.prog 56 #[.agg #[.int .i64 (rnA l i).1, .int .i64 (rnA l i).2], .int .i64 x] w fun e w' => e = .returned (.int .i64 0) ∧ Kept w w' from fun w => by have := HAG.out (rnA l i) x w; rw [ha] at this; exact this)
          clear ha
          generalize rnA l i = r at *
          obtain ⟨r1, r2⟩ := r
          simp only at d1 d2 HA2
          go_wp2_with fail
          refine (HA2.out _).mono ?_
          rintro e w5 ⟨rfl, k5⟩
          have K5 := hidMk k5
          clear k5
          go_wp2_with fail
          go_ret2
          exact ⟨⟨i, by rw [HT.out]; rfl⟩, HK.out.trans K5.out⟩
        · have HT := hidMk (show b = false by cases hbb : b with | false => rfl | true => exact absurd (HF.out.1 hbb).2 ha)
          have ha' : (agR (rnA l i) x == 0) = false := by simpa using ha
          clear ha
          have HA2 := hidMk (HAG.out (rnA l i) x)
          generalize agR (rnA l i) x = z at *
          generalize rnA l i = r at *
          obtain ⟨r1, r2⟩ := r
          simp only at d1 d2 HA2
          go_wp2_with fail
          refine (HA2.out _).mono ?_
          rintro e w5 ⟨rfl, k5⟩
          have K5 := hidMk k5
          clear k5
          go_wp2_with fail
          go_ret2
          exact ⟨⟨i, by rw [HT.out]; rfl⟩, HK.out.trans K5.out⟩
      · have HT := hidMk (show b = false by cases hbb : b with | false => rfl | true => exact absurd (HF.out.1 hbb).1 hil)
        have hil' : ¬ (i : Int) < (l.length : Int) := by omega
        clear hk
        go_wp2_with fail
        go_ret2
        exact ⟨⟨i, by rw [HT.out]; rfl⟩, HK.out⟩
theorem region_Has (v : Value) (l : List Rn) (x : Int) (w : World) (h : SetIs w v l) (hN : Norm l) (hl : l.length ≤ 100000) (b : Bool) (hb : b = true ↔ inRg l x) :
    Calls Tryz.prog 26 #[v, .int .i64 x] w fun e w' => e = .returned (.bool b) ∧ Kept w w' := by
  obtain ⟨a, c, rfl, h1, _, _⟩ := h
  have HB := hidMk (slices_BinR a c l x _ (h1.kept ((Kept.refl w).alloc (.cells #[.slice a l.length c] 55))) hN hl b hb)
  clear h1 hN hb
  go_enter Tryz.func26, Tryz.ntmps26
  go_wp2_with fail
  refine HB.out.mono ?_
  rintro e w5 ⟨⟨i, rfl⟩, k5⟩
  have K5 := hidMk k5
  clear k5
  go_wp2_with fail
  go_ret
  exact ⟨rfl, ((Kept.refl w).alloc _).trans K5.out⟩
end Go.Proofs.YtpkepkemjcjplaaGreat
