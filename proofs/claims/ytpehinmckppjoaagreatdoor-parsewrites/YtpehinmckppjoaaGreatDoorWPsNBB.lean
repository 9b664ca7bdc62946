/- The definition's write, walked. · The definition's Line. -/
import Derived.Test.YtpehinmckppjoaaGreatDoorWPsN9B
import Derived.Test.YtpehinmckppjoaaGreatDoorWPsTB
namespace Go.Proofs.YtpehinmckppjoaaGreatDoor
open Go.RowKit Go.Maps
set_option linter.unusedSimpArgs false
set_option linter.unusedVariables false

set_option maxHeartbeats 1500000 in
set_option maxRecDepth 100000 in
theorem q_write {W : World} {pq : Nat} {ms : List ByteArray} {ds : List Dm} (hR : ∃ rt, RDm W pq ds rt ms) (hok : CatOk ds ms) (x : Cm) (hx : XSm x) :
    Calls Tryz.prog 35 #[.pointer (some ⟨pq, 0, none⟩), cmV x] W fun e w' => e = .returned (.string (refS ms ds x)) ∧ Kept W w' := by
  obtain ⟨R, hRR⟩ : ∃ R, refS ms ds x = R := ⟨_, rfl⟩
  rw [hRR]
  have HR := hidMk (show (shapeL x.k).foldl (refZ ms ds x) (kwI x.k) = R from hRR)
  have HNM := hidMk (fun y => q_Name y x.k)
  have HSH := hidMk (fun y => q_shape y x.k)
  have HSB := hidMk (sh_bat x.k)
  have HLT := hidMk (lastC_let _ (shape_last x.k))
  have HS5 := hidMk (show (shapeL x.k).length ≤ 5 from by rcases shape_cases x.k with h | h | h | h | h | h | h | h | h <;> rw [h] <;> decide)
  have hsz := (HSB.out 0).2
  have HKS := hidMk (show (kwI x.k).size ≤ 12 from by
    by_cases hk : (kwI x.k).size = 0
    · omega
    · exact name_12 (kw_all (kw_size.1 hk)).1)
  have HSZ := hidMk (fun b (hb : isLet b) t h => refO_size hok hx (b := b) (t := t) h)
  have HBT := hidMk (fun i => (HSB.out i).1)
  have HX := hidMk (cm_row W x 35 _ rfl).1
  have HSHW := hidMk (show ∀ y, Kept W y → Calls Tryz.prog 58 #[.pointer (some ⟨pq, 0, none⟩), .agg #[.int .i64 x.c0, .int .i64 x.c1, .int .i64 x.c2, .int .i64 x.c3, .int .i64 x.c4]] y fun e w' => e = .returned (.string (if rightB ms ds x.c0 (atC x) = true then cellW ms ds x else emptyB)) ∧ Kept y w' from fun y hy => by
    obtain ⟨rt, hrd⟩ := hR
    exact ref6_Show (hrd.kept hy) hok.d4 x.c0 (atC x) (fun k hk => by have := hok.join_le x.c0 (atC x) k hk; rw [joinB_size]; omega))
  have HNU := hidMk (fun y => ref_Num x.n hx.n y)
  have HOE := hidMk (show ∀ b, refO ms ds x b = refO ms ds x b from fun b => rfl)
  obtain ⟨rt, hrd⟩ := hR
  obtain ⟨da, dc, na, hd1, hds⟩ := hrd.c0
  obtain ⟨ma, mc, hm1, hmss⟩ := hrd.c1
  have HDS := hidMk hds
  have HMS := hidMk hmss
  have HD1 := hidMk hd1
  have HM1 := hidMk hm1
  have hd4 := hok.d4
  have hm4 := hok.m4
  clear hRR hrd hds hmss hd1 hm1
  have HO := hidMk hok
  have HXS := hidMk hx
  clear hok hx
  obtain ⟨k, u, sc, o, c0, c1, c2, c3, c4, n, h, m⟩ := x
  unfold cmV cmL
  simp only at HNM HSH hsz HR HBT HLT HS5 HKS HSHW HNU ⊢
  go_enter Tryz.func35, Tryz.ntmps35
  go_wp2_with fail
  refine (HNM.out _).mono ?_
  rintro e w1 ⟨rfl, k1⟩
  have HC := hidMk (fun j u hu => k1.cellp (HX.out j u hu))
  have y0 : w1.cell? ⟨W.heap.size, 0, none⟩ = some (.int .i64 k) := HC.out 0 _ rfl
  have K1 := hidMk (((Kept.refl W).alloc _).trans k1)
  clear k1
  go_wp2_with fail
  refine (HSH.out _).mono ?_
  rintro e w2 ⟨rfl, hw2⟩
  rw [hw2]
  clear hw2 w2
  have HD2 := hidMk (K1.out.cellp HD1.out)
  have HM2 := hidMk (K1.out.cellp HM1.out)
  generalize W.heap.size = px at *
  generalize hsh : shapeL k = bs at *
  generalize kwI k = kw at *
  go_wp2_with fail
  go_loopg [5, 7] bs.length (fun gg v z wr => ∃ (i : Nat) (st : ByteArray), i + gg = bs.length ∧ v = .string st ∧ z = .int .i64 i ∧ Hid (Kept w1 wr) ∧ Hid (st.size ≤ 12 + 600 * i) ∧ Hid ((bs.drop i).foldl (refZ ms ds ⟨k, u, sc, o, c0, c1, c2, c3, c4, n, h, m⟩) st = R))
  case atStart => exact ⟨0, _, by omega, rfl, rfl, hidMk (Kept.refl _), hidMk (by have := HKS.out; omega), HR⟩
  case round =>
    obtain ⟨i, st, hkg, rfl, rfl, HK, HZ, HF⟩ := hrel
    have HKG := hidMk hkg
    by_cases hi : i < bs.length
    · have hi1 : (i : Int) < ((shS k).size : Int) := by rw [hsz]; omega
      have HG1 := hidMk (show 1 ≤ gk by omega)
      have hi5 : (i : Int) ≤ 5 := by have := HS5.out; omega
      have hd : bs.drop i = bs.getD i 0 :: bs.drop (i + 1) := by rw [List.drop_eq_getElem_cons hi, List.getD_eq_getElem?_getD, List.getElem?_eq_getElem hi]; rfl
      have hlet : isLet (bs.getD i 0) := HLT.out _ (by rw [List.getD_eq_getElem?_getD, List.getElem?_eq_getElem hi]; exact List.getElem_mem hi)
      have HNX := hidMk (show (bs.drop (i + 1)).foldl (refZ ms ds ⟨k, u, sc, o, c0, c1, c2, c3, c4, n, h, m⟩) (refZ ms ds ⟨k, u, sc, o, c0, c1, c2, c3, c4, n, h, m⟩ st (bs.getD i 0)) = R from by have h := HF.out; rw [hd, List.foldl_cons] at h; exact h)
      have HST := hidMk (show ∀ t, refO ms ds ⟨k, u, sc, o, c0, c1, c2, c3, c4, n, h, m⟩ (bs.getD i 0) = some t → (bs.drop (i + 1)).foldl (refZ ms ds ⟨k, u, sc, o, c0, c1, c2, c3, c4, n, h, m⟩) (st ++ blankB ++ t) = R ∧ (st ++ blankB ++ t).size ≤ 12 + 600 * (i + 1) ∧ (∀ y : World, (Op.stringOp .add st blankB).run Tryz.prog y = .ok (.string (st ++ blankB)) y) ∧ ∀ y : World, (Op.stringOp .add (st ++ blankB) t).run Tryz.prog y = .ok (.string (st ++ blankB ++ t)) y from fun t ht => by
        have h1 := HNX.out
        rw [refZ_some ht] at h1
        have h2 := HSZ.out _ hlet t ht
        have h3 := HZ.out
        have h4 : blankB.size = 1 := rfl
        have h5 := HS5.out
        refine ⟨h1, by rw [ByteArray.size_append, ByteArray.size_append]; omega, fun y => run_string_add_sum (P := Tryz.prog) (w := y) (a := _) (b := _) (h := by omega), fun y => run_string_add_sum (P := Tryz.prog) (w := y) (a := _) (b := _) (h := by rw [ByteArray.size_append]; omega)⟩)
      have HNO := hidMk (show refO ms ds ⟨k, u, sc, o, c0, c1, c2, c3, c4, n, h, m⟩ (bs.getD i 0) = none → (bs.drop (i + 1)).foldl (refZ ms ds ⟨k, u, sc, o, c0, c1, c2, c3, c4, n, h, m⟩) st = R ∧ st.size ≤ 12 + 600 * (i + 1) from fun ht => by
        have h1 := HNX.out
        rw [refZ_none ht] at h1
        exact ⟨h1, by have := HZ.out; omega⟩)
      have hru := fun w => run_at Tryz.underlying9 (shS k) .i64 i (by rw [hsz]; exact hi) w
      rw [HBT.out i] at hru
      have x1 : wr.cell? ⟨px, 1, none⟩ = some (.string u) := HK.out.cellp (HC.out 1 _ rfl)
      have x2 : wr.cell? ⟨px, 2, none⟩ = some (.string sc) := HK.out.cellp (HC.out 2 _ rfl)
      have x3 : wr.cell? ⟨px, 3, none⟩ = some (.string o) := HK.out.cellp (HC.out 3 _ rfl)
      have x4 : wr.cell? ⟨px, 4, none⟩ = some (.int .i64 c0) := HK.out.cellp (HC.out 4 _ rfl)
      have x5 : wr.cell? ⟨px, 5, none⟩ = some (.int .i64 c1) := HK.out.cellp (HC.out 5 _ rfl)
      have x6 : wr.cell? ⟨px, 6, none⟩ = some (.int .i64 c2) := HK.out.cellp (HC.out 6 _ rfl)
      have x7 : wr.cell? ⟨px, 7, none⟩ = some (.int .i64 c3) := HK.out.cellp (HC.out 7 _ rfl)
      have x8 : wr.cell? ⟨px, 8, none⟩ = some (.int .i64 c4) := HK.out.cellp (HC.out 8 _ rfl)
      have x9 : wr.cell? ⟨px, 9, none⟩ = some (.int .i64 n) := HK.out.cellp (HC.out 9 _ rfl)
      have x10 : wr.cell? ⟨px, 10, none⟩ = some (.int .i64 h) := HK.out.cellp (HC.out 10 _ rfl)
      have x11 : wr.cell? ⟨px, 11, none⟩ = some (.int .i64 m) := HK.out.cellp (HC.out 11 _ rfl)
      have xd := HK.out.cellp HD2.out
      have xe := HK.out.cellp HM2.out
      clear hd hkg HF HNX
      generalize bs.getD i 0 = b at *
      rcases hlet with rfl | rfl | rfl | rfl | rfl | rfl | rfl | rfl
      · have HTT := hidMk (HST.out (u) (rfl))
        have ad1 := HTT.out.2.2.1
        have ad2 := HTT.out.2.2.2
        unfold blankB at ad1 ad2
        go_wp2_with fail
        go_roundg (gk - 1)
        case measure => have := HKG.out; have := HG1.out; omega
        case rel => exact ⟨i + 1, _, by have := HKG.out; have := HG1.out; omega, rfl, by go_num, hidMk (by (repeat (first | (with_reducible exact HK.out) | (with_reducible refine Kept.drewN ?_ _) | (with_reducible refine Kept.drew ?_)))), hidMk HTT.out.2.1, hidMk HTT.out.1⟩
      · have HTT := hidMk (HST.out (sc) (rfl))
        have ad1 := HTT.out.2.2.1
        have ad2 := HTT.out.2.2.2
        unfold blankB at ad1 ad2
        go_wp2_with fail
        go_roundg (gk - 1)
        case measure => have := HKG.out; have := HG1.out; omega
        case rel => exact ⟨i + 1, _, by have := HKG.out; have := HG1.out; omega, rfl, by go_num, hidMk (by (repeat (first | (with_reducible exact HK.out) | (with_reducible refine Kept.drewN ?_ _) | (with_reducible refine Kept.drew ?_)))), hidMk HTT.out.2.1, hidMk HTT.out.1⟩
      · have HTT := hidMk (HST.out (o) (rfl))
        have ad1 := HTT.out.2.2.1
        have ad2 := HTT.out.2.2.2
        unfold blankB at ad1 ad2
        go_wp2_with fail
        go_roundg (gk - 1)
        case measure => have := HKG.out; have := HG1.out; omega
        case rel => exact ⟨i + 1, _, by have := HKG.out; have := HG1.out; omega, rfl, by go_num, hidMk (by (repeat (first | (with_reducible exact HK.out) | (with_reducible refine Kept.drewN ?_ _) | (with_reducible refine Kept.drew ?_)))), hidMk HTT.out.2.1, hidMk HTT.out.1⟩
      · obtain ⟨tt, htt⟩ : ∃ tt, (if rightB ms ds c0 (atC ⟨k, u, sc, o, c0, c1, c2, c3, c4, n, h, m⟩) = true then cellW ms ds ⟨k, u, sc, o, c0, c1, c2, c3, c4, n, h, m⟩ else emptyB) = tt := ⟨_, rfl⟩
        rw [htt] at HSHW
        have HTT := hidMk (HST.out (tt) (by rw [← htt]; rfl))
        have ad1 := HTT.out.2.2.1
        have ad2 := HTT.out.2.2.2
        unfold blankB at ad1 ad2
        clear htt
        go_wp2_with fail
        refine (HSHW.out _ (K1.out.trans HK.out)).mono ?_
        rintro e w3 ⟨rfl, k3⟩
        have K3 := hidMk (HK.out.trans k3)
        clear k3
        go_wp2_with fail
        go_roundg (gk - 1)
        case measure => have := HKG.out; have := HG1.out; omega
        case rel => exact ⟨i + 1, _, by have := HKG.out; have := HG1.out; omega, rfl, by go_num, hidMk (by (repeat (first | (with_reducible exact K3.out) | (with_reducible refine Kept.drewN ?_ _) | (with_reducible refine Kept.drew ?_)))), hidMk HTT.out.2.1, hidMk HTT.out.1⟩
      · have HTT := hidMk (HST.out (numS n) (rfl))
        have ad1 := HTT.out.2.2.1
        have ad2 := HTT.out.2.2.2
        unfold blankB at ad1 ad2
        go_wp2_with fail
        refine (HNU.out _).mono ?_
        rintro e w3 ⟨rfl, hw3⟩
        rw [hw3]
        clear hw3 w3
        go_wp2_with fail
        go_roundg (gk - 1)
        case measure => have := HKG.out; have := HG1.out; omega
        case rel => exact ⟨i + 1, _, by have := HKG.out; have := HG1.out; omega, rfl, by go_num, hidMk (by (repeat (first | (with_reducible exact HK.out) | (with_reducible refine Kept.drewN ?_ _) | (with_reducible refine Kept.drew ?_)))), hidMk HTT.out.2.1, hidMk HTT.out.1⟩
      · by_cases h0 : h = 0
        · subst h0
          have HTN := hidMk (HNO.out (by unfold refO; rw [if_neg (by decide)]; rw [if_neg (by decide)]; rw [if_neg (by decide)]; rw [if_pos rfl]; rfl))
          go_wp2_with fail
          go_roundg (gk - 1)
          case measure => have := HKG.out; have := HG1.out; omega
          case rel => exact ⟨i + 1, _, by have := HKG.out; have := HG1.out; omega, rfl, by go_num, hidMk (by (repeat (first | (with_reducible exact HK.out) | (with_reducible refine Kept.drewN ?_ _)))), hidMk HTN.out.2, hidMk HTN.out.1⟩
        have b0 : (h == 0) = false := by simpa using h0
        have d0 : decide (h = 0) = false := by simpa using h0
        by_cases h1 : h = 1
        · subst h1
          have HTT := hidMk (HST.out (⟨#[112, 114, 111, 112]⟩) (by unfold refO; rw [if_neg (by decide)]; rw [if_neg (by decide)]; rw [if_neg (by decide)]; rw [if_pos rfl]; rfl))
          have ad1 := HTT.out.2.2.1
          have ad2 := HTT.out.2.2.2
          unfold blankB at ad1 ad2
          go_wp2_with fail
          go_quiet (fail)
          go_wp2_with fail
          go_roundg (gk - 1)
          case measure => have := HKG.out; have := HG1.out; omega
          case rel => exact ⟨i + 1, _, by have := HKG.out; have := HG1.out; omega, rfl, by go_num, hidMk (by (repeat (first | (with_reducible exact HK.out) | (with_reducible refine Kept.drewN ?_ _) | (with_reducible refine Kept.drew ?_)))), hidMk HTT.out.2.1, hidMk HTT.out.1⟩
        have b1 : (h == 1) = false := by simpa using h1
        have d1 : decide (h = 1) = false := by simpa using h1
        by_cases h2 : h = 2
        · subst h2
          by_cases m0 : 0 ≤ m
          · by_cases m1 : m < ms.length
            · skip
              obtain ⟨j, rfl⟩ : ∃ j : Nat, m = j := ⟨m.toNat, by omega⟩
              obtain ⟨mb, mo, rfl, _, hmc⟩ := HMS.out.cells (by omega)
              have hq := (K1.out.trans HK.out).cellp (hmc j (by omega))
              have hjm : (j : Int) < (ms.length : Int) := by omega
              have hj0 : decide ((0 : Int) ≤ (j : Int)) = true := by simp
              have hj1 : decide ((j : Int) < (ms.length : Int)) = true := by simpa using hjm
              have hmn := HO.out.mname j
              unfold msA at hmn
              have HE := hidMk (show refO ms ds ⟨k, u, sc, o, c0, c1, c2, c3, c4, n, 2, (j : Int)⟩ 104 = some (wgtB ++ ms.getD j ByteArray.empty) from by unfold refO; rw [if_neg (by decide)]; rw [if_neg (by decide)]; rw [if_neg (by decide)]; rw [if_pos rfl]; rw [if_neg (show ¬ ((2 : Int) = 0) by decide), if_neg (show ¬ ((2 : Int) = 1) by decide), if_pos ⟨rfl, by simp, hjm⟩]; rw [Int.toNat_natCast]; rfl)
              have HTT := hidMk (HST.out _ HE.out)
              generalize ms.getD j ByteArray.empty = mn at *
              have ad0 : ∀ y : World, (Op.stringOp .add wgtB mn).run Tryz.prog y = .ok (.string (wgtB ++ mn)) y := fun y => run_string_add_sum (P := Tryz.prog) (w := y) (a := _) (b := _) (h := by have : wgtB.size = 7 := rfl; omega)
              have ad1 := HTT.out.2.2.1
              have ad2 := HTT.out.2.2.2
              generalize hwm : wgtB ++ mn = wm at *
              unfold blankB at ad1 ad2
              unfold wgtB at ad0
              clear hmc hmn HE hwm
              go_wp2_with fail
              go_quiet (fail)
              go_wp2_with fail
              go_quiet (fail)
              go_wp2_with fail
              go_roundg (gk - 1)
              case measure => have := HKG.out; have := HG1.out; omega
              case rel => exact ⟨i + 1, _, by have := HKG.out; have := HG1.out; omega, rfl, by go_num, hidMk (by (repeat (first | (with_reducible exact HK.out) | (with_reducible refine Kept.drewN ?_ _) | (with_reducible refine Kept.drew ?_)))), hidMk HTT.out.2.1, hidMk HTT.out.1⟩
            · have e0 : decide ((0 : Int) ≤ m) = true := by simpa using m0
              have e1 : decide (m < (ms.length : Int)) = false := by simp; omega
              have HTT := hidMk (HST.out (emptyB) (by unfold refO; rw [if_neg (by decide)]; rw [if_neg (by decide)]; rw [if_neg (by decide)]; rw [if_pos rfl]; rw [if_neg (show ¬ ((2 : Int) = 0) by decide), if_neg (show ¬ ((2 : Int) = 1) by decide), if_neg (fun hc => by have h9 : 0 ≤ m ∧ m < (ms.length : Int) := hc.2; omega)]))
              have ad1 := HTT.out.2.2.1
              have ad2 := HTT.out.2.2.2
              unfold blankB at ad1 ad2
              unfold emptyB at ad2
              go_wp2_with fail
              go_quiet (fail)
              go_wp2_with fail
              go_roundg (gk - 1)
              case measure => have := HKG.out; have := HG1.out; omega
              case rel => exact ⟨i + 1, _, by have := HKG.out; have := HG1.out; omega, rfl, by go_num, hidMk (by (repeat (first | (with_reducible exact HK.out) | (with_reducible refine Kept.drewN ?_ _) | (with_reducible refine Kept.drew ?_)))), hidMk HTT.out.2.1, hidMk HTT.out.1⟩
          · have e0 : decide ((0 : Int) ≤ m) = false := by simp; omega
            have HTT := hidMk (HST.out (emptyB) (by unfold refO; rw [if_neg (by decide)]; rw [if_neg (by decide)]; rw [if_neg (by decide)]; rw [if_pos rfl]; rw [if_neg (show ¬ ((2 : Int) = 0) by decide), if_neg (show ¬ ((2 : Int) = 1) by decide), if_neg (fun hc => by have h9 : 0 ≤ m ∧ m < (ms.length : Int) := hc.2; omega)]))
            have ad1 := HTT.out.2.2.1
            have ad2 := HTT.out.2.2.2
            unfold blankB at ad1 ad2
            unfold emptyB at ad2
            go_wp2_with fail
            go_quiet (fail)
            go_wp2_with fail
            go_roundg (gk - 1)
            case measure => have := HKG.out; have := HG1.out; omega
            case rel => exact ⟨i + 1, _, by have := HKG.out; have := HG1.out; omega, rfl, by go_num, hidMk (by (repeat (first | (with_reducible exact HK.out) | (with_reducible refine Kept.drewN ?_ _) | (with_reducible refine Kept.drew ?_)))), hidMk HTT.out.2.1, hidMk HTT.out.1⟩
        have b2 : (h == 2) = false := by simpa using h2
        have d2 : decide (h = 2) = false := by simpa using h2
        have HTT := hidMk (HST.out (emptyB) (by unfold refO; rw [if_neg (by decide)]; rw [if_neg (by decide)]; rw [if_neg (by decide)]; rw [if_pos rfl]; rw [if_neg h0, if_neg h1, if_neg (fun hc => h2 hc.1)]))
        have ad1 := HTT.out.2.2.1
        have ad2 := HTT.out.2.2.2
        unfold blankB at ad1 ad2
        unfold emptyB at ad2
        go_wp2_with fail
        go_quiet (fail)
        go_wp2_with fail
        go_roundg (gk - 1)
        case measure => have := HKG.out; have := HG1.out; omega
        case rel => exact ⟨i + 1, _, by have := HKG.out; have := HG1.out; omega, rfl, by go_num, hidMk (by (repeat (first | (with_reducible exact HK.out) | (with_reducible refine Kept.drewN ?_ _) | (with_reducible refine Kept.drew ?_)))), hidMk HTT.out.2.1, hidMk HTT.out.1⟩
      · by_cases h0 : h = 0
        · subst h0
          have HTN := hidMk (HNO.out (by unfold refO; rw [if_neg (by decide)]; rw [if_neg (by decide)]; rw [if_neg (by decide)]; rw [if_neg (by decide)]; rw [if_pos rfl]; rfl))
          go_wp2_with fail
          go_roundg (gk - 1)
          case measure => have := HKG.out; have := HG1.out; omega
          case rel => exact ⟨i + 1, _, by have := HKG.out; have := HG1.out; omega, rfl, by go_num, hidMk (by (repeat (first | (with_reducible exact HK.out) | (with_reducible refine Kept.drewN ?_ _)))), hidMk HTN.out.2, hidMk HTN.out.1⟩
        have b0 : (h == 0) = false := by simpa using h0
        have d0 : decide (h = 0) = false := by simpa using h0
        by_cases h1 : h = 1
        · subst h1
          have HTT := hidMk (HST.out (⟨#[111, 117, 114, 115]⟩) (by unfold refO; rw [if_neg (by decide)]; rw [if_neg (by decide)]; rw [if_neg (by decide)]; rw [if_neg (by decide)]; rw [if_pos rfl]; rfl))
          have ad1 := HTT.out.2.2.1
          have ad2 := HTT.out.2.2.2
          unfold blankB at ad1 ad2
          go_wp2_with fail
          go_roundg (gk - 1)
          case measure => have := HKG.out; have := HG1.out; omega
          case rel => exact ⟨i + 1, _, by have := HKG.out; have := HG1.out; omega, rfl, by go_num, hidMk (by (repeat (first | (with_reducible exact HK.out) | (with_reducible refine Kept.drewN ?_ _) | (with_reducible refine Kept.drew ?_)))), hidMk HTT.out.2.1, hidMk HTT.out.1⟩
        have b1 : (h == 1) = false := by simpa using h1
        have d1 : decide (h = 1) = false := by simpa using h1
        by_cases h2 : h = 2
        · subst h2
          have HTT := hidMk (HST.out (⟨#[116, 104, 101, 105, 114, 115]⟩) (by unfold refO; rw [if_neg (by decide)]; rw [if_neg (by decide)]; rw [if_neg (by decide)]; rw [if_neg (by decide)]; rw [if_pos rfl]; rfl))
          have ad1 := HTT.out.2.2.1
          have ad2 := HTT.out.2.2.2
          unfold blankB at ad1 ad2
          go_wp2_with fail
          go_roundg (gk - 1)
          case measure => have := HKG.out; have := HG1.out; omega
          case rel => exact ⟨i + 1, _, by have := HKG.out; have := HG1.out; omega, rfl, by go_num, hidMk (by (repeat (first | (with_reducible exact HK.out) | (with_reducible refine Kept.drewN ?_ _) | (with_reducible refine Kept.drew ?_)))), hidMk HTT.out.2.1, hidMk HTT.out.1⟩
        have b2 : (h == 2) = false := by simpa using h2
        have d2 : decide (h = 2) = false := by simpa using h2
        have HTT := hidMk (HST.out (emptyB) (by unfold refO; rw [if_neg (by decide)]; rw [if_neg (by decide)]; rw [if_neg (by decide)]; rw [if_neg (by decide)]; rw [if_pos rfl]; rw [if_neg h0, if_neg h1, if_neg h2]))
        have ad1 := HTT.out.2.2.1
        have ad2 := HTT.out.2.2.2
        unfold blankB at ad1 ad2
        unfold emptyB at ad2
        go_wp2_with fail
        go_roundg (gk - 1)
        case measure => have := HKG.out; have := HG1.out; omega
        case rel => exact ⟨i + 1, _, by have := HKG.out; have := HG1.out; omega, rfl, by go_num, hidMk (by (repeat (first | (with_reducible exact HK.out) | (with_reducible refine Kept.drewN ?_ _) | (with_reducible refine Kept.drew ?_)))), hidMk HTT.out.2.1, hidMk HTT.out.1⟩
      · by_cases m0 : 0 ≤ m
        · by_cases m1 : m < ds.length
          · skip
            obtain ⟨j, rfl⟩ : ∃ j : Nat, m = j := ⟨m.toNat, by omega⟩
            obtain ⟨db, dd, rfl, _, hdc⟩ := HDS.out.cells (by omega)
            have hq := (K1.out.trans HK.out).cellp (hdc j (by omega)).1
            have hjm : (j : Int) < (ds.length : Int) := by omega
            have hj0 : decide ((0 : Int) ≤ (j : Int)) = true := by simp
            have hj1 : decide ((j : Int) < (ds.length : Int)) = true := by simpa using hjm
            have HTT := hidMk (HST.out (dmN ds j) (by unfold refO; rw [if_neg (by decide)]; rw [if_neg (by decide)]; rw [if_neg (by decide)]; rw [if_neg (by decide)]; rw [if_neg (by decide)]; rw [if_pos ⟨by simp, hjm⟩]; rw [Int.toNat_natCast]))
            have ad1 := HTT.out.2.2.1
            have ad2 := HTT.out.2.2.2
            unfold blankB at ad1 ad2
            generalize dmN ds j = dn at *
            clear hdc
            go_wp2_with fail
            go_quiet (fail)
            go_wp2_with fail
            go_quiet (fail)
            go_wp2_with fail
            go_roundg (gk - 1)
            case measure => have := HKG.out; have := HG1.out; omega
            case rel => exact ⟨i + 1, _, by have := HKG.out; have := HG1.out; omega, rfl, by go_num, hidMk (by (repeat (first | (with_reducible exact HK.out) | (with_reducible refine Kept.drewN ?_ _) | (with_reducible refine Kept.drew ?_)))), hidMk HTT.out.2.1, hidMk HTT.out.1⟩
          · have e0 : decide ((0 : Int) ≤ m) = true := by simpa using m0
            have e1 : decide (m < (ds.length : Int)) = false := by simp; omega
            have HTT := hidMk (HST.out (emptyB) (by unfold refO; rw [if_neg (by decide)]; rw [if_neg (by decide)]; rw [if_neg (by decide)]; rw [if_neg (by decide)]; rw [if_neg (by decide)]; rw [if_neg (fun hc => by have h9 : 0 ≤ m ∧ m < (ds.length : Int) := hc; omega)]))
            have ad1 := HTT.out.2.2.1
            have ad2 := HTT.out.2.2.2
            unfold blankB at ad1 ad2
            unfold emptyB at ad2
            go_wp2_with fail
            go_quiet (fail)
            go_wp2_with fail
            go_roundg (gk - 1)
            case measure => have := HKG.out; have := HG1.out; omega
            case rel => exact ⟨i + 1, _, by have := HKG.out; have := HG1.out; omega, rfl, by go_num, hidMk (by (repeat (first | (with_reducible exact HK.out) | (with_reducible refine Kept.drewN ?_ _) | (with_reducible refine Kept.drew ?_)))), hidMk HTT.out.2.1, hidMk HTT.out.1⟩
        · have e0 : decide ((0 : Int) ≤ m) = false := by simp; omega
          have HTT := hidMk (HST.out (emptyB) (by unfold refO; rw [if_neg (by decide)]; rw [if_neg (by decide)]; rw [if_neg (by decide)]; rw [if_neg (by decide)]; rw [if_neg (by decide)]; rw [if_neg (fun hc => by have h9 : 0 ≤ m ∧ m < (ds.length : Int) := hc; omega)]))
          have ad1 := HTT.out.2.2.1
          have ad2 := HTT.out.2.2.2
          unfold blankB at ad1 ad2
          unfold emptyB at ad2
          go_wp2_with fail
          go_quiet (fail)
          go_wp2_with fail
          go_roundg (gk - 1)
          case measure => have := HKG.out; have := HG1.out; omega
          case rel => exact ⟨i + 1, _, by have := HKG.out; have := HG1.out; omega, rfl, by go_num, hidMk (by (repeat (first | (with_reducible exact HK.out) | (with_reducible refine Kept.drewN ?_ _) | (with_reducible refine Kept.drew ?_)))), hidMk HTT.out.2.1, hidMk HTT.out.1⟩
    · have hi1 : ¬ (i : Int) < ((shS k).size : Int) := by rw [hsz]; omega
      have hff := HF.out
      rw [List.drop_eq_nil_of_le (by omega)] at hff
      simp only [List.foldl_nil] at hff
      subst hff
      clear hkg
      go_wp2_with fail
      go_ret
      exact ⟨rfl, K1.out.trans HK.out⟩
end Go.Proofs.YtpehinmckppjoaaGreatDoor
namespace Go.Proofs.YtpehinmckppjoaaGreatDoor
open Go.RowKit Go.Maps
set_option linter.unusedSimpArgs false
set_option linter.unusedVariables false

set_option maxHeartbeats 2000000 in
theorem neqM (x y : Cm) (w : World) : (binOp .neq 35 (cmV x) (cmV y)).run Tryz.prog w = .ok (.bool (!cmB x y)) w := by
  obtain ⟨k, u, s, o, c0, c1, c2, c3, c4, n, h, m⟩ := x
  obtain ⟨k', u', s', o', c0', c1', c2', c3', c4', n', h', m'⟩ := y
  have u3 := Tryz.underlying3
  have a3 := Tryz.isAgg3
  have z3 := Tryz.sizeOf3
  have hS : Tryz.prog.underlying 35 = some (.struct (Tryz.prog.fieldsOf 35)) := by kernel_rfl
  have hp : Tryz.prog.stoodInHeld 35 = false := by kernel_rfl
  have qa := eq_cell8 c0 c1 c2 c3 c4 c0' c1' c2' c3' c4'
  unfold cmB celB cmV cmL
  simp only
  rw [run_neq_struct, show (10000 : Nat) = 9999 + 1 from rfl, run_equalIn_agg w 9999 35 _ _ hS hp]
  simp only [Program.fieldsOf, Tryz.underlying35]
  generalize (decide (c0 = c0') && decide (c1 = c1' ∧ c2 = c2' ∧ c3 = c3' ∧ c4 = c4')) = dd at *
  by_cases h0 : k = k'
  · subst h0
    by_cases h1 : u = u'
    · subst h1
      by_cases h2 : s = s'
      · subst h2
        by_cases h3 : o = o'
        · subst h3
          cases dd
          · go_simp; try simp
          · by_cases h5 : n = n'
            · subst h5
              by_cases h6 : h = h'
              · subst h6
                by_cases h7 : m = m'
                · subst h7
                  go_simp; try simp
                · have e0 : (m == m') = false := by simpa using h7
                  have e1 : decide (m = m') = false := by simpa using h7
                  rw [e1]; clear e1 h7; go_simp; try simp
              · have e0 : (h == h') = false := by simpa using h6
                have e1 : decide (h = h') = false := by simpa using h6
                rw [e1]; clear e1 h6; go_simp; try simp
            · have e0 : (n == n') = false := by simpa using h5
              have e1 : decide (n = n') = false := by simpa using h5
              rw [e1]; clear e1 h5; go_simp; try simp
        · have e0 := bytes_neD h3
          have e1 : decide (o = o') = false := by simpa using h3
          rw [e1]; clear e1 h3; go_simp; try simp
      · have e0 := bytes_neD h2
        have e1 : decide (s = s') = false := by simpa using h2
        rw [e1]; clear e1 h2; go_simp; try simp
    · have e0 := bytes_neD h1
      have e1 : decide (u = u') = false := by simpa using h1
      rw [e1]; clear e1 h1; go_simp; try simp
  · have e0 : (k == k') = false := by simpa using h0
    have e1 : decide (k = k') = false := by simpa using h0
    rw [e1]; clear e1 h0; go_simp; try simp
/-- The definition's line is the line of the words, or none. -/
theorem line_def {ms : List ByteArray} {ds : List Dm} (hok : CatOk ds ms) {x : Cm} (hn : isI x.n) {y : Cm} {a er : Int} (h : parseP ms ds (lineW (refS ms ds x)) = (y, a, er)) : lineP ms ds x = if er = 0 ∧ cmB y (bareP x) = true then (refS ms ds x, 0) else (⟨#[]⟩, 2) := by
  cases hw : writeP ms ds x with
  | some l =>
    have e := refS_words hw
    rw [e, parse_line hok hn hw] at h
    simp only [Prod.mk.injEq] at h
    obtain ⟨rfl, _, rfl⟩ := h
    rw [if_pos ⟨rfl, cmB_same _⟩, e]
    unfold lineP
    rw [hw]
  | none =>
    have : ¬ (er = 0 ∧ cmB y (bareP x) = true) := fun ⟨e, hc⟩ => by
      subst e
      obtain ⟨l, h1, _⟩ := write_parse hok h
      rw [(cmB_iff _ _).1 hc, write_bare, hw] at h1
      cases h1
    rw [if_neg this]
    unfold lineP
    rw [hw]
set_option maxHeartbeats 2000000 in
set_option maxRecDepth 100000 in
theorem q_Line {W : World} {pq : Nat} {ms : List ByteArray} {ds : List Dm} (hR : ∃ rt, RDm W pq ds rt ms) (hok : CatOk ds ms) (x : Cm) (hx : XSm x) :
    Calls Tryz.prog 16 #[.pointer (some ⟨pq, 0, none⟩), cmV x] W fun e w' => e = .returned (.tuple #[.string (lineP ms ds x).1, .int .i64 (lineP ms ds x).2]) ∧ Kept W w' := by
  have hR' : ∀ y, Kept W y → ∃ rt, RDm y pq ds rt ms := fun y hy => by
    obtain ⟨rt, h⟩ := hR
    exact ⟨rt, h.kept hy⟩
  have HWR0 := hidMk (show ∀ y, Kept W y → _ from fun y hy => q_write (W := y) (hR' y hy) hok x hx)
  obtain ⟨y, a, er, hp⟩ : ∃ y a er, parseP ms ds (lineW (refS ms ds x)) = (y, a, er) := ⟨_, _, _, rfl⟩
  have HPA0 := hidMk (show ∀ z, Kept W z → _ from fun z hz => q_Parse (W := z) (hR' z hz) hok (refS ms ds x) (by have := refS_size hok hx; omega))
  have HNE0 := hidMk (neqM y (bareP x))
  have HBA0 := hidMk (fun w => q_Bare w x)
  obtain ⟨P, hP⟩ : ∃ P, lineP ms ds x = P := ⟨_, rfl⟩
  rw [hP]
  have HLP := hidMk (show P = if er = 0 ∧ cmB y (bareP x) = true then (refS ms ds x, 0) else (⟨#[]⟩, 2) from by rw [← hP]; exact line_def hok hx.n hp)
  rw [hp] at HPA0
  simp only at HPA0
  obtain ⟨cx, hcx⟩ : ∃ cx, cmL x = cx := ⟨_, rfl⟩
  obtain ⟨cy, hcy⟩ : ∃ cy, cmL y = cy := ⟨_, rfl⟩
  obtain ⟨cb, hcb⟩ : ∃ cb, cmL (bareP x) = cb := ⟨_, rfl⟩
  obtain ⟨st, hst⟩ : ∃ st, refS ms ds x = st := ⟨_, rfl⟩
  obtain ⟨qb, hqb⟩ : ∃ qb, cmB y (bareP x) = qb := ⟨_, rfl⟩
  unfold cmV at *
  rw [hst] at HWR0 HPA0 HLP
  rw [hcx] at HWR0 HBA0 ⊢
  rw [hcy] at HPA0 HNE0
  rw [hcb] at HNE0 HBA0
  rw [hqb] at HNE0 HLP
  have HWR := HWR0
  have HPA := HPA0
  have HNE := HNE0
  have HBA := HBA0
  clear HWR0 HPA0 HNE0 HBA0
  obtain ⟨dd, hd1, hd2, hd3⟩ := cmd_type
  have HTY := hidMk (And.intro hd1 (And.intro hd2 hd3))
  have HCX := hidMk (show cx.length = 12 from by rw [← hcx]; rfl)
  have HCY := hidMk (show cy.length = 12 from by rw [← hcy]; rfl)
  have HCO := hidMk (show cy.toArray.all (·.oneCell') = true from by rw [← hcy]; exact cm_one y)
  have HRX := hidMk (show ∀ z, Kept (W.alloc (.cells cx.toArray 35)) z → z.rangeAt W.heap.size 0 cx from fun z hz j u hu => by
    rw [Nat.zero_add]
    rw [← hcx] at hz hu
    exact hz.cellp ((cm_row W x 35 _ rfl).1 j u hu))
  have HLI := hidMk (show (Tryz.prog.info? 35).map (·.size) = some cx.length from by rw [HCX.out]; exact hd3)
  have HLY := hidMk (show (Tryz.prog.info? 35).map (·.size) = some cy.length from by rw [HCY.out]; exact hd3)
  have HTN := hidMk (fun z => there_new z cm0 35)
  have HSI := hidMk (show (Tryz.prog.info? 35).map (·.size) = some cy.toArray.size from by rw [List.size_toArray, HCY.out]; exact hd3)
  have HTZ := hidMk (show ∀ z, (World.alloc z (.cells (cmL cm0).toArray 35)).there z.heap.size 0 cy.toArray.size from fun z => by
    have e : cy.toArray.size = 12 := by rw [List.size_toArray, HCY.out]
    rw [e]
    exact HTN.out z)
  clear hR hR' hok hx hp hP hcx hcy hcb hst hqb hd1 hd2 hd3
  go_enter Tryz.func16, Tryz.ntmps16
  go_wp2_with (refine wpList_load_mid rfl 35 _ rfl W.heap.size 0 rfl cx dd (HRX.out _ (Kept.refl _)) HTY.out.1 HTY.out.2.1 HLI.out ?_)
  refine (HWR.out _ ((Kept.refl W).alloc _)).mono ?_
  rintro e w2 ⟨rfl, k2⟩
  have K2 := hidMk k2
  clear k2
  go_wp2_with fail
  refine (HPA.out _ (((Kept.refl W).alloc _).trans K2.out)).mono ?_
  rintro e w3 ⟨rfl, k3⟩
  have K3 := hidMk (K2.out.trans k3)
  clear k3
  go_wp2_with (refine wpList_store_mid rfl 35 _ _ rfl w3.heap.size 0 cy.toArray rfl rfl (HTZ.out w3) HSI.out HCO.out ?_)
  have k34 : Kept w3 ((w3.alloc (.cells (cmL cm0).toArray 35)).setCells w3.heap.size 0 cy) := kept_setCells (Nat.le_refl _) cy 0 _ ((Kept.refl w3).alloc _)
  have hr7 := World.rangeAt_setCells_same (w3.alloc (.cells (cmL cm0).toArray 35)) w3.heap.size 0 cy (by rw [HCY.out]; exact HTN.out w3)
  obtain ⟨w4, hw4⟩ : ∃ w4, w4 = ((w3.alloc (.cells (cmL cm0).toArray 35)).setCells w3.heap.size 0 cy) := ⟨_, rfl⟩
  rw [← hw4] at k34 hr7
  have K4 := hidMk (K3.out.trans k34)
  have HR7 := hidMk (show ∀ z, Kept w4 z → z.rangeAt w3.heap.size 0 cy from fun z hz j u hu => hz.cellp (hr7 j u hu))
  simp only [cmL, cm0] at hw4
  rw [← hw4]
  clear k34 hr7 hw4 HTZ HTN
  generalize w3.heap.size = b7 at *
  by_cases he : er = 0
  · subst he
    have hne := HNE.out
    have HLP2 := hidMk (show P = if qb = true then (st, 0) else (⟨#[]⟩, 2) from by rw [HLP.out]; simp)
    clear HLP
    go_wp2_with fail
    refine wp_region_held_drew (S := (fun w' => w'.rangeAt b7 0 cy ∧ w'.rangeAt W.heap.size 0 cx)) (by kernel_rfl) ?_ (fun hHeld => ?_)
    · exact ⟨HR7.out _ (by (repeat (first | (with_reducible exact Kept.refl _) | (with_reducible refine Kept.alloc ?_ _) | (with_reducible refine Kept.drew ?_) | (with_reducible refine Kept.drewN ?_ _)))), HRX.out _ (K4.out.trans (by (repeat (first | (with_reducible exact Kept.refl _) | (with_reducible refine Kept.alloc ?_ _) | (with_reducible refine Kept.drew ?_) | (with_reducible refine Kept.drewN ?_ _)))))⟩
    refine wpAnyH_take (i := 0) (oi := { dst := some 20, op := _, type := _, pos := _, after := _, guard := _ }) (v := ?_) rfl (by kernel_rfl) (by kernel_rfl) (by kernel_rfl) (fun _ _ _ h => h) (Or.inl ⟨by rfl, ?_⟩) (by assumption) ?_
    rotate_left
    · (intro w hSw; go_simp; (try with_reducible rfl))
    (try simp only [Act.put, List.setIfInBounds_toArray, List.set_cons_zero, List.set_cons_succ])
    refine wpAnyH_take (i := 1) (oi := { dst := some 21, op := _, type := _, pos := _, after := _, guard := _ }) (v := ?_) rfl (by kernel_rfl) (by kernel_rfl) (by kernel_rfl) (fun _ _ _ h => h) (Or.inl ⟨by rfl, ?_⟩) (by assumption) ?_
    rotate_left
    · (intro w hSw; go_simp; (try with_reducible rfl))
    (try simp only [Act.put, List.setIfInBounds_toArray, List.set_cons_zero, List.set_cons_succ])
    refine wpAnyH_take (i := 2) (oi := { dst := some 22, op := _, type := _, pos := _, after := _, guard := _ }) (v := ?_) rfl (by kernel_rfl) (by kernel_rfl) (by kernel_rfl) (fun _ _ _ h => h) (Or.inl ⟨by rfl, ?_⟩) (by assumption) ?_
    rotate_left
    · (intro w hSw; go_simp; (try with_reducible rfl))
    (try simp only [Act.put, List.setIfInBounds_toArray, List.set_cons_zero, List.set_cons_succ])
    refine wpAnyH_take (i := 3) (oi := { dst := some 23, op := _, type := _, pos := _, after := _, guard := _ }) (v := _) rfl (by kernel_rfl) (by kernel_rfl) (by kernel_rfl) (fun _ _ _ h => h) (yieldsIf_load_mid (by rfl) 35 _ rfl b7 0 rfl cy dd (fun w h => h.1) HTY.out.1 HTY.out.2.1 HLY.out) (by assumption) ?_
    (try simp only [Act.put, List.setIfInBounds_toArray, List.set_cons_zero, List.set_cons_succ])
    refine wpAnyH_take (i := 4) (oi := { dst := some 24, op := _, type := _, pos := _, after := _, guard := _ }) (v := _) rfl (by kernel_rfl) (by kernel_rfl) (by kernel_rfl) (fun _ _ _ h => h) (yieldsIf_load_mid (by rfl) 35 _ rfl W.heap.size 0 rfl cx dd (fun w h => h.2) HTY.out.1 HTY.out.2.1 HLI.out) (by assumption) ?_
    (try simp only [Act.put, List.setIfInBounds_toArray, List.set_cons_zero, List.set_cons_succ])
    refine wpAnyH_ready (rs := [5]) (by kernel_rfl) (by simp) ?_
    refine AllReadyH.cons (o := { dst := some 25, op := _, type := _, pos := _, after := _, guard := _ }) rfl (fun K hK => ?_) AllReadyH.nil
    go_simp
    refine (HBA.out _).mono ?_
    rintro e w5 ⟨rfl, k5⟩
    have K5 := hidMk (show Kept w4 w5 from Kept.trans (by (repeat (first | (with_reducible exact Kept.refl _) | (with_reducible refine Kept.alloc ?_ _) | (with_reducible refine Kept.drew ?_) | (with_reducible refine Kept.drewN ?_ _)))) k5)
    clear k5
    (try go_wp2_with fail)
    refine hK.out _ _ ?_ (fun hHeld => ?_)
    · exact ⟨HR7.out _ K5.out, HRX.out _ (K4.out.trans K5.out)⟩
    clear hK K
    (try simp only [Act.put, List.setIfInBounds_toArray, List.set_cons_zero, List.set_cons_succ])
    refine wpAnyH_take (i := 6) (oi := { dst := some 26, op := _, type := _, pos := _, after := _, guard := _ }) (v := ?_) rfl (by kernel_rfl) (by kernel_rfl) (by kernel_rfl) (fun _ _ _ h => h) (Or.inl ⟨by rfl, ?_⟩) (by assumption) ?_
    rotate_left
    · (intro w hSw; go_simp; (try with_reducible rfl))
    (try simp only [Act.put, List.setIfInBounds_toArray, List.set_cons_zero, List.set_cons_succ])
    refine wpAnyH_take (i := 7) (oi := { dst := some 27, op := _, type := _, pos := _, after := _, guard := _ }) (v := ?_) rfl (by kernel_rfl) (by kernel_rfl) (by kernel_rfl) (fun _ _ _ h => h) (Or.inl ⟨by rfl, ?_⟩) (by assumption) ?_
    rotate_left
    · (intro w hSw; go_simp; (try with_reducible rfl))
    (try simp only [Act.put, List.setIfInBounds_toArray, List.set_cons_zero, List.set_cons_succ])
    refine wpAnyH_done (by kernel_rfl) ?_ _
    cases qb with
    | true =>
      have HL3 := hidMk (show P = (st, 0) from by rw [HLP2.out, if_pos rfl])
      go_wp2_with fail
      go_ret2
      exact ⟨by rw [HL3.out]; rfl, ((Kept.refl W).alloc _).trans (K4.out.trans K5.out)⟩
    | false =>
      have HL3 := hidMk (show P = (⟨#[]⟩, 2) from by rw [HLP2.out, if_neg (by decide)])
      go_wp2_with fail
      go_ret2
      exact ⟨by rw [HL3.out]; rfl, ((Kept.refl W).alloc _).trans (K4.out.trans K5.out)⟩
  · have hb : (er != 0) = true := by simpa using he
    have HL3 := hidMk (show P = (⟨#[]⟩, 2) from by rw [HLP.out, if_neg (fun h => he h.1)])
    go_wp2_with fail
    go_quiet (fail)
    go_wp2_with fail
    go_ret2
    exact ⟨by rw [HL3.out]; rfl, ((Kept.refl W).alloc _).trans (K4.out.trans ((Kept.refl _).drewN _))⟩
end Go.Proofs.YtpehinmckppjoaaGreatDoor
