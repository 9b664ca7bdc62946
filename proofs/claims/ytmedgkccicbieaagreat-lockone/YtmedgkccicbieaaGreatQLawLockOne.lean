/- LockOne: no leaf is locked by two. -/
import Derived.Test.YtmedgkccicbieaaGreatQLockJB
import Derived.Deep.RegionHeld3
namespace Go.Proofs.YtmedgkccicbieaaGreat
open Go.RowKit Go.Maps
set_option linter.unusedSimpArgs false
set_option linter.unusedVariables false

/-- Who has locked a leaf, by the first j locks. -/
def WhoI (ms : List ByteArray) (ds : List Dm) (L : List Lk) (n : Int) (j : Nat) (who : ByteArray) : Prop := (who = ⟨#[]⟩ ∧ ∀ t, t < j → ¬ n ∈ undC ms ds (lkA L t).1) ∨ ∃ t, t < j ∧ n ∈ undC ms ds (lkA L t).1 ∧ who = (lkA L t).2
theorem who_no {ms : List ByteArray} {ds : List Dm} {L : List Lk} {n : Int} {j : Nat} {who : ByteArray} (h : WhoI ms ds L n j who) (hn : ¬ n ∈ undC ms ds (lkA L j).1) : WhoI ms ds L n (j + 1) who := by
  rcases h with ⟨e, h⟩ | ⟨t, ht, h1, h2⟩
  · refine .inl ⟨e, fun t ht => ?_⟩
    by_cases g : t = j
    · subst g; exact hn
    · exact h t (by omega)
  · exact .inr ⟨t, by omega, h1, h2⟩
theorem one_lk {ms : List ByteArray} {ds : List Dm} {l : List Pk} (h : Ld ms ds l) : (∀ i, i < (l.map lkOf).length → ∀ j, j < (l.map lkOf).length → ∀ n, n ∈ undC ms ds (lkA (l.map lkOf) i).1 → n ∈ undC ms ds (lkA (l.map lkOf) j).1 → (lkA (l.map lkOf) i).2 = (lkA (l.map lkOf) j).2) ∧ True := by
  refine ⟨fun i hi j hj n h1 h2 => ?_, trivial⟩
  rw [List.length_map] at hi hj
  rw [lkA_map hi] at h1 ⊢
  rw [lkA_map hj] at h2 ⊢
  exact h.one (pkA l i) (by rw [pkA_get hi]; exact List.getElem_mem hi) (pkA l j) (by rw [pkA_get hj]; exact List.getElem_mem hj) n h1 h2
theorem who_own {ms : List ByteArray} {ds : List Dm} {L : List Lk} {n : Int} {who : ByteArray} (ho : ∀ i, i < L.length → ∀ j, j < L.length → ∀ n, n ∈ undC ms ds (lkA L i).1 → n ∈ undC ms ds (lkA L j).1 → (lkA L i).2 = (lkA L j).2) (h : WhoI ms ds L n L.length who) : ownI ms ds n L = who := by
  rcases h with ⟨e, h⟩ | ⟨t, ht, h1, h2⟩
  · rw [ownI_no h, e]; rfl
  · obtain ⟨k, hk, hkn, hmin⟩ : ∃ k, k < L.length ∧ n ∈ undC ms ds (lkA L k).1 ∧ ∀ t, t < k → ¬ n ∈ undC ms ds (lkA L t).1 := by
      have : ∀ m, m ≤ t → (∃ k, k < m ∧ n ∈ undC ms ds (lkA L k).1 ∧ ∀ t, t < k → ¬ n ∈ undC ms ds (lkA L t).1) ∨ ∀ s, s < m → ¬ n ∈ undC ms ds (lkA L s).1 := by
        intro m
        induction m with
        | zero => intro _; exact .inr fun s hs => absurd hs (by omega)
        | succ m ih =>
          intro hm
          rcases ih (by omega) with ⟨k, hk, g⟩ | g
          · exact .inl ⟨k, by omega, g⟩
          · by_cases c : n ∈ undC ms ds (lkA L m).1
            · exact .inl ⟨m, by omega, c, g⟩
            · refine .inr fun s hs => ?_
              by_cases e : s = m
              · subst e; exact c
              · exact g s (by omega)
      rcases this t (Nat.le_refl _) with ⟨k, hk, g⟩ | g
      · exact ⟨k, by omega, g⟩
      · exact ⟨t, ht, h1, g⟩
    rw [ownI_at hk hkn hmin, h2]
    exact ho k hk t ht n hkn h1
set_option maxHeartbeats 8000000 in
set_option maxRecDepth 100000 in
theorem law_LockOne (a : Option Addr) (n c : Nat) (ds : List Dm) (na : Nat → Option Addr × Nat × Nat) (b : Option Addr) (m d : Nat) (ms : List ByteArray) (lv sc : Int) (la : Option Addr) (ln lc : Nat) (l : List Au) (w : World) (hs : Dss w a n ds na) (hm : Ss w b m ms) (hmz : ∀ i, i < ms.length → (msA ms i).size ≤ maxLen) (hl : Uq w la ln l) :
    Calls Tryz.prog 5 #[.agg #[.slice a n c, .slice b m d, .int .i64 lv, .int .i64 sc], .slice la ln lc] w fun e w' => e = .returned (.bool true) ∧ Kept w w' := by
  obtain ⟨WA, hWA⟩ : ∃ V, V = w.alloc (.cells #[.slice a n c, .slice b m d, .int .i64 lv, .int .i64 sc] 25) := ⟨_, rfl⟩
  have kA : Kept w WA := by rw [hWA]; exact (Kept.refl w).alloc _
  have HOP := hidMk (law14_open a n c ds na b m d ms lv sc WA (hs.kept kA) (hm.kept kA) hmz)
  have HKN := hidMk law14_known
  have HKA := hidMk kA
  have HL := hidMk hl
  have hln := hl.len
  have hbig := hl.big
  unfold maxLen at hbig
  clear hs hm hmz hl kA
  subst hln
  go_enter Tryz.func5, Tryz.ntmps5
  go_wp2_with fail
  rw [← hWA]
  clear hWA
  refine HOP.out.mono ?_
  rintro e w1 (⟨W0, s, p, tp, rv, q, rt, rfl, hsm, _, hsw, _, hk, hw1⟩ | ⟨v1, v2, rfl, _, k1⟩)
  rotate_left
  · have HK1 := hidMk (HKA.out.trans k1)
    clear k1
    go_wp2_with fail
    refine (HKN.out _).mono ?_
    rintro e w2 ⟨rfl, k2⟩
    go_wp2_with fail
    go_ret
    exact ⟨rfl, HK1.out.trans k2⟩
  have k01 : Kept W0 w1 := by rw [hw1]; exact (Kept.refl _).alloc _
  have HK1 := hidMk (hk.trans k01)
  have HSW := hidMk (hsw.keep k01)
  have HSM := hidMk hsm
  generalize W0.heap.size = rb at *
  clear hw1 hk k01 hsw hsm HOP
  obtain ⟨M, hM⟩ : ∃ M, M = if l.length ≤ 40 then l.length else 40 := ⟨_, rfl⟩
  have hM1 : M ≤ l.length := by rw [hM]; split <;> omega
  have hM2 : M ≤ 40 := by rw [hM]; split <;> omega
  have hM3 : M = l.length ∨ M = 40 := by rw [hM]; split <;> omega
  clear hM
  obtain ⟨hb, hhb⟩ : ∃ x, x = w1.heap.size := ⟨_, rfl⟩
  have HV0 := hidMk (show Lv w1 (w1.alloc (.cells #[.slice none 0 0] 66)) ms ds hb none 0 [] from ⟨new_cell _ _ _ _ 0 _ hhb rfl, by rw [hhb]; simp, lp_nil _ _ _, fun ad e => (by cases e), (Kept.refl _).alloc _, by omega⟩)
  go_wp2_with fail
  rw [← hhb]
  clear hhb
  go_loopg [9] M (fun gg iv wr => ∃ (k : Nat) (ha : Option Addr) (hc : Nat) (hl : List Pk), k + gg = M ∧ iv = .int .i64 (k : Int) ∧ Hid (Lv w1 wr ms ds hb ha hc hl))
  case atStart => exact ⟨0, none, 0, [], by omega, rfl, HV0⟩
  case round =>
    obtain ⟨k, ha, hc, hl, hkg, rfl, HV⟩ := hrel
    have HKG := hidMk hkg
    by_cases hkM : k < M
    · have hk1 : (k : Int) < (l.length : Int) := by omega
      have hk2 : (k : Int) < 40 := by omega
      have hk3 : k < l.length := by omega
      have hk0 : (0 : Int) ≤ (k : Int) := by omega
      obtain ⟨lb, lo, rfl⟩ := HL.out.form (by omega)
      have kW := HKA.out.trans (HK1.out.trans HV.out.kp)
      obtain ⟨hlb, c0, c1, c2, c3, c4, c5, c6⟩ := (HL.out.kept kW).at hk3
      have hsz := HL.out.sz k hk3
      have y0 := HV.out.cell
      have y1 := HV.out.fz
      have y2 := HV.out.lt
      obtain ⟨X, hX⟩ : ∃ X, auA l k = X := ⟨_, rfl⟩
      rw [hX] at c0 c1 c2 c3 c4 c5 c6 hsz
      have HAD := hidMk (show ∀ y, Kept wr y → Calls Tryz.prog 29 #[.agg #[.slice ha hl.length hc], .pointer (some ⟨s, 0, none⟩), clV X.1, .string X.2.1] y (LAddQ y ms ds hl X.1 X.2.1) from fun y hy => lp_AddQ (HSW.out.keep (HV.out.kp.trans hy)) HSM.out (HV.out.lp.kept hy) X.1 X.2.1 hsz)
      unfold LAddQ at HAD
      obtain ⟨R, hR⟩ : ∃ R, R = laddE ms ds (hl.map lkOf) X.1 X.2.1 := ⟨_, rfl⟩
      rw [← hR] at HAD
      have HRE := hidMk hR
      obtain ⟨⟨x0, x1, x2, x3, x4⟩, us, dr⟩ := X
      unfold clV at HAD
      simp only at c0 c1 c2 c3 c4 c5 c6 HAD
      clear kW hX hkg hR hsz
      by_cases hr : R = 0
      · subst hr
        go_wp2_with fail
        go_region_held3 (fun w' => w'.cell? ⟨hb, 0, none⟩ = some (.slice ha hl.length hc) ∧ w'.cell? ⟨lb, lo + k * 7, none⟩ = some (.int .i64 x0) ∧ w'.cell? ⟨lb, lo + k * 7 + 1, none⟩ = some (.int .i64 x1) ∧ w'.cell? ⟨lb, lo + k * 7 + 2, none⟩ = some (.int .i64 x2) ∧ w'.cell? ⟨lb, lo + k * 7 + 3, none⟩ = some (.int .i64 x3) ∧ w'.cell? ⟨lb, lo + k * 7 + 4, none⟩ = some (.int .i64 x4) ∧ w'.cell? ⟨lb, lo + k * 7 + 5, none⟩ = some (.string us))
          (first | assumption | (refine ⟨Kept.cellp ?_ y0, Kept.cellp ?_ c0, Kept.cellp ?_ c1, Kept.cellp ?_ c2, Kept.cellp ?_ c3, Kept.cellp ?_ c4, Kept.cellp ?_ c5⟩ <;> ((repeat (first | (with_reducible exact Kept.refl _) | (with_reducible refine Kept.alloc ?_ _) | (with_reducible refine Kept.drew ?_) | (with_reducible refine Kept.drewN ?_ _) | (with_reducible refine Kept.trans ?_ (by assumption)))); done)) | (refine ⟨Kept.cellp ?_ y0, Kept.cellp ?_ c0, Kept.cellp ?_ c1, Kept.cellp ?_ c2, Kept.cellp ?_ c3, Kept.cellp ?_ c4, Kept.cellp ?_ c5⟩ <;> (refine Kept.setCell ?_ (Nat.le_refl _) _; (repeat (first | (with_reducible exact Kept.refl _) | (with_reducible refine Kept.alloc ?_ _) | (with_reducible refine Kept.drew ?_) | (with_reducible refine Kept.drewN ?_ _) | (with_reducible refine Kept.trans ?_ (by assumption)))); done)))
          ((go_at_call 29; refine (HAD.out _ (by (repeat (first | (with_reducible exact Kept.refl _) | (with_reducible refine Kept.alloc ?_ _) | (with_reducible refine Kept.drew ?_) | (with_reducible refine Kept.drewN ?_ _) | (with_reducible refine Kept.trans ?_ (by assumption)))))).mono ?_; rintro e w3 ⟨a3, n3, d3, r3, rfl, ⟨rfl, l3, hn3, hd3, hm3, hl3, f3⟩, k3⟩; (first | (have q9 := by with_reducible exact new_kn k3) | skip); (first | (obtain ⟨q0, q1, q2⟩ := q9) | skip); have k3w : Kept wr w3 := (by (repeat (first | (with_reducible exact Kept.refl _) | (with_reducible refine Kept.alloc ?_ _) | (with_reducible refine Kept.drew ?_) | (with_reducible refine Kept.drewN ?_ _) | (with_reducible refine Kept.trans ?_ (by assumption))))); have yc := k3w.cellp y0; have yf := (k3w.frozen (p := ⟨hb, 0, none⟩) y2).trans y1; have yl : hb < w3.heap.size := cell_lt yc; have HN3 := hidMk hn3; have HD3 := hidMk hd3; have HM3 := hidMk hm3; have HL3 := hidMk hl3; have HF3 := hidMk f3; have HK3 := hidMk k3; clear hn3 hd3 hm3 hl3 f3))
        all_goals (try go_wp2_with fail)
        all_goals
          go_roundg (gk - 1)
          case measure => have := HKG.out; omega
          case rel =>
            refine ⟨k + 1, a3, d3, l3, by have := HKG.out; omega, by go_num, hidMk ?_⟩
            first
              | exact ((HV.out.keep k3w).set HN3.out HD3.out (fun ad e (f : ad.block = hb) => by have h1 : wr.heap.size ≤ ad.block := HF3.out ad e; omega)).keep ((Kept.refl _).alloc _)
              | exact lv_nextB HV.out (((Kept.refl _).alloc _).drew) (by simp) HK3.out HD3.out HF3.out HN3.out _
      · skip
        go_wp2_with fail
        go_region_held3 (fun w' => w'.cell? ⟨hb, 0, none⟩ = some (.slice ha hl.length hc) ∧ w'.cell? ⟨lb, lo + k * 7, none⟩ = some (.int .i64 x0) ∧ w'.cell? ⟨lb, lo + k * 7 + 1, none⟩ = some (.int .i64 x1) ∧ w'.cell? ⟨lb, lo + k * 7 + 2, none⟩ = some (.int .i64 x2) ∧ w'.cell? ⟨lb, lo + k * 7 + 3, none⟩ = some (.int .i64 x3) ∧ w'.cell? ⟨lb, lo + k * 7 + 4, none⟩ = some (.int .i64 x4) ∧ w'.cell? ⟨lb, lo + k * 7 + 5, none⟩ = some (.string us))
          (first | assumption | (refine ⟨Kept.cellp ?_ y0, Kept.cellp ?_ c0, Kept.cellp ?_ c1, Kept.cellp ?_ c2, Kept.cellp ?_ c3, Kept.cellp ?_ c4, Kept.cellp ?_ c5⟩ <;> ((repeat (first | (with_reducible exact Kept.refl _) | (with_reducible refine Kept.alloc ?_ _) | (with_reducible refine Kept.drew ?_) | (with_reducible refine Kept.drewN ?_ _) | (with_reducible refine Kept.trans ?_ (by assumption)))); done)) | (refine ⟨Kept.cellp ?_ y0, Kept.cellp ?_ c0, Kept.cellp ?_ c1, Kept.cellp ?_ c2, Kept.cellp ?_ c3, Kept.cellp ?_ c4, Kept.cellp ?_ c5⟩ <;> (refine Kept.setCell ?_ (Nat.le_refl _) _; (repeat (first | (with_reducible exact Kept.refl _) | (with_reducible refine Kept.alloc ?_ _) | (with_reducible refine Kept.drew ?_) | (with_reducible refine Kept.drewN ?_ _) | (with_reducible refine Kept.trans ?_ (by assumption)))); done)))
          ((go_at_call 29; refine (HAD.out _ (by (repeat (first | (with_reducible exact Kept.refl _) | (with_reducible refine Kept.alloc ?_ _) | (with_reducible refine Kept.drew ?_) | (with_reducible refine Kept.drewN ?_ _) | (with_reducible refine Kept.trans ?_ (by assumption)))))).mono ?_; rintro e w3 ⟨a3, n3, d3, r3, rfl, ⟨rfl, l3, hn3, hd3, hm3, hl3, f3⟩, k3⟩; (first | (have q9 := by with_reducible exact new_kn k3) | skip); (first | (obtain ⟨q0, q1, q2⟩ := q9) | skip); have k3w : Kept wr w3 := (by (repeat (first | (with_reducible exact Kept.refl _) | (with_reducible refine Kept.alloc ?_ _) | (with_reducible refine Kept.drew ?_) | (with_reducible refine Kept.drewN ?_ _) | (with_reducible refine Kept.trans ?_ (by assumption))))); have yc := k3w.cellp y0; have yf := (k3w.frozen (p := ⟨hb, 0, none⟩) y2).trans y1; have yl : hb < w3.heap.size := cell_lt yc; have HN3 := hidMk hn3; have HD3 := hidMk hd3; have HM3 := hidMk hm3; have HL3 := hidMk hl3; have HF3 := hidMk f3; have HK3 := hidMk k3; clear hn3 hd3 hm3 hl3 f3))
        all_goals (try go_wp2_with fail)
        all_goals
          go_roundg (gk - 1)
          case measure => have := HKG.out; omega
          case rel =>
            refine ⟨k + 1, ha, hc, hl, by have := HKG.out; omega, by go_num, hidMk ?_⟩
            first
              | exact HV.out.keep (k3w.alloc _)
              | exact HV.out.keep (k3w.setCell (p := ⟨wr.heap.size, 0, none⟩) (Nat.le_refl _) _)
    · have hkM' : ¬ ((k : Int) < (l.length : Int)) ∨ ¬ ((k : Int) < 40) := by omega
      have y0 := HV.out.cell
      have HHD := hidMk HV.out.lp
      have HKV := hidMk HV.out.kp
      have HHC := hidMk (show ∀ Y, Kept wr Y → Y.cell? ⟨hb, 0, none⟩ = some (.slice ha hl.length hc) from fun Y kY => kY.cellp HV.out.cell)
      have HLS := hidMk (lock_List ha hc hl wr HHD.out.pq (by have := HHD.out.ld.sm; omega))
      have HOW := hidMk (show ∀ Y (n : Int), Kept wr Y → Calls Tryz.prog 34 #[.agg #[.slice ha hl.length hc], .pointer (some ⟨s, 0, none⟩), .int .i64 n] Y fun e w' => e = .returned (.string (ownI ms ds n (hl.map lkOf))) ∧ Kept Y w' from fun Y n kY => lock_Owner (HSW.out.keep (HKV.out.trans kY)) ha hc hl n (HHD.out.pq.kept kY) (by have := HHD.out.ld.sm; omega))
      have HIN := hidMk (show ∀ Y (x : Cl) (n : Int), Kept wr Y → Calls Tryz.prog 42 #[.pointer (some ⟨s, 0, none⟩), clV x, .int .i64 n] Y fun e w' => e = .returned (.bool (decide (n ∈ undC ms ds x))) ∧ Kept Y w' from fun Y x n kY => sw_InsideC (HSW.out.keep (HKV.out.trans kY)) x n)
      have hfew := leaves_few HSW.out.ct HSM.out
      obtain ⟨N, hN⟩ : ∃ N : Nat, mulK (fun k => leas ds k) ms.length 4 = (N : Int) := ⟨(mulK (fun k => leas ds k) ms.length 4).toNat, by omega⟩
      have HLV := hidMk (show ∀ Y, Kept wr Y → Calls Tryz.prog 41 #[.pointer (some ⟨s, 0, none⟩)] Y fun e w' => e = .returned (.int .i64 (N : Int)) ∧ Kept Y w' from fun Y kY => by
        have := sw_Leaves (HSW.out.keep (HKV.out.trans kY))
        rw [hN] at this
        exact this)
      have hN6 : N ≤ 600 := by omega
      have HON := hidMk (one_lk HHD.out.ld)
      obtain ⟨L, hL⟩ : ∃ L, hl.map lkOf = L := ⟨_, rfl⟩
      have hLs : L.length ≤ 16 := by rw [← hL, List.length_map]; exact HHD.out.ld.sm
      rw [hL] at HLS HOW HON
      unfold clV at HIN
      clear hN hfew hL
      by_cases hkn : (k : Int) < (l.length : Int)
      · have hk100 : ¬ ((k : Int) < 40) := by omega
        go_wp2_with fail
        refine HLS.out.mono ?_
        rintro e w2 ⟨v2, rfl, ho2, k2⟩
        obtain ⟨qa, qc, rfl, hq, _⟩ := ho2.form
        have HQ := hidMk hq
        have HK2 := hidMk k2
        clear hq k2 ho2 HLS y0
        go_wp2_with fail
        go_loopg [13] N (fun gg iv wr2 => ∃ (k : Nat), k + gg = N ∧ iv = .int .i64 (k : Int) ∧ Hid (Kept w2 wr2))
        case atStart => exact ⟨0, by omega, rfl, hidMk (Kept.refl _)⟩
        case round =>
          obtain ⟨n, hng, rfl, HKN2⟩ := hrel
          obtain ⟨gi, hgi⟩ : ∃ gi, gi = gk := ⟨_, rfl⟩
          subst hgi
          have HNG := hidMk hng
          clear hng
          go_wp2_with fail
          refine (HLV.out _ (HK2.out.trans HKN2.out)).mono ?_
          rintro e w3 ⟨rfl, k3⟩
          have HK3 := hidMk (HKN2.out.trans k3)
          clear k3
          by_cases hnN : n < N
          · have hn1 : (n : Int) < (N : Int) := by omega
            go_wp2_with fail
            go_loopg [14, 15] L.length (fun gg wv iv wr3 => ∃ (j : Nat) (who : ByteArray), j + gg = L.length ∧ wv = .string who ∧ iv = .int .i64 (j : Int) ∧ Hid (Kept w2 wr3 ∧ WhoI ms ds L n j who))
            case atStart => exact ⟨0, ⟨#[]⟩, by omega, rfl, rfl, hidMk ⟨HK3.out, .inl ⟨rfl, fun t ht => absurd ht (by omega)⟩⟩⟩
            case round =>
              obtain ⟨j, who, hjg, rfl, rfl, HW⟩ := hrel
              obtain ⟨gj, hgj⟩ : ∃ gj, gj = gk := ⟨_, rfl⟩
              subst hgj
              have HJG := hidMk hjg
              by_cases hjL : j < L.length
              · have hj1 : (j : Int) < (L.length : Int) := by omega
                have hj0 : (0 : Int) ≤ (j : Int) := by omega
                obtain ⟨lb2, lo2, rfl⟩ := HQ.out.form (by omega)
                obtain ⟨c0, c1, c2, c3, c4, c5⟩ := (HQ.out.kept HW.out.1).at hjL
                have HI := hidMk (HIN.out _ (lkA L j).1 (n : Int) (HK2.out.trans HW.out.1))
                by_cases hin : (n : Int) ∈ undC ms ds (lkA L j).1
                · rw [show decide ((n : Int) ∈ undC ms ds (lkA L j).1) = true from decide_eq_true hin] at HI
                  have HWN := hidMk (show WhoI ms ds L n (j + 1) (lkA L j).2 from .inr ⟨j, by omega, hin, rfl⟩)
                  have hwho : who = ⟨#[]⟩ ∨ who = (lkA L j).2 := by
                    rcases HW.out.2 with ⟨e, _⟩ | ⟨t, ht, hnt, e⟩
                    · exact .inl e
                    · exact .inr (e.trans (HON.out.1 t (by omega) j hjL n hnt hin))
                  obtain ⟨Z, hZ⟩ : ∃ Z, lkA L j = Z := ⟨_, rfl⟩
                  rw [hZ] at c0 c1 c2 c3 c4 c5 HI HWN hwho
                  clear hin hZ hjg
                  have HKW := hidMk HW.out.1
                  clear HW
                  go_wp2_with fail
                  refine HI.out.mono ?_
                  rintro e w4 ⟨rfl, k4⟩
                  have d5 := k4.cellp c5
                  have HK4 := hidMk (HKW.out.trans k4)
                  clear k4 c0 c1 c2 c3 c4 c5
                  by_cases hwe : who = ⟨#[]⟩
                  · subst hwe
                    clear hwho
                    go_wp2_with fail
                    go_roundg (gj - 1)
                    case measure => have := HJG.out; omega
                    case rel => exact ⟨j + 1, Z.2, by have := HJG.out; omega, rfl, by go_num, hidMk ⟨HK4.out, HWN.out⟩⟩
                  · have hwe1 := bytes_neD hwe
                    obtain rfl : who = Z.2 := hwho.elim (fun e => absurd e hwe) id
                    have hwe2 : (Z.2.toList == Z.2.toList) = true := by simp
                    clear hwe hwho
                    go_wp2_with fail
                    all_goals
                      go_roundg (gj - 1)
                      case measure => have := HJG.out; omega
                      case rel => exact ⟨j + 1, Z.2, by have := HJG.out; omega, rfl, by go_num, hidMk ⟨HK4.out, HWN.out⟩⟩
                · rw [show decide ((n : Int) ∈ undC ms ds (lkA L j).1) = false from decide_eq_false hin] at HI
                  have HWN := hidMk (show WhoI ms ds L n (j + 1) who from who_no HW.out.2 hin)
                  obtain ⟨Z, hZ⟩ : ∃ Z, lkA L j = Z := ⟨_, rfl⟩
                  rw [hZ] at c0 c1 c2 c3 c4 c5 HI
                  clear hin hZ hjg
                  have HKW := hidMk HW.out.1
                  clear HW
                  go_wp2_with fail
                  refine HI.out.mono ?_
                  rintro e w4 ⟨rfl, k4⟩
                  have HK4 := hidMk (HKW.out.trans k4)
                  clear k4 c0 c1 c2 c3 c4 c5
                  go_wp2_with fail
                  go_roundg (gj - 1)
                  case measure => have := HJG.out; omega
                  case rel => exact ⟨j + 1, who, by have := HJG.out; omega, rfl, by go_num, hidMk ⟨HK4.out, HWN.out⟩⟩
              · have hj1 : ¬ ((j : Int) < (L.length : Int)) := by omega
                obtain rfl : j = L.length := by omega
                have HOO := hidMk (HOW.out _ (n : Int) (HK2.out.trans HW.out.1))
                rw [who_own HON.out.1 HW.out.2] at HOO
                have z0 := HHC.out _ (HK2.out.trans HW.out.1)
                have HKW := hidMk HW.out.1
                clear HW hjg
                go_wp2_with fail
                refine HOO.out.mono ?_
                rintro e w5 ⟨rfl, k5⟩
                have HK5 := hidMk (HKW.out.trans k5)
                have hww : (who.toList == who.toList) = true := by simp
                clear k5 z0
                go_wp2_with fail
                go_roundg (gi - 1)
                case measure => have := HNG.out; omega
                case rel => exact ⟨n + 1, by have := HNG.out; omega, by go_num, HK5⟩
          · have hn1 : ¬ ((n : Int) < (N : Int)) := by omega
            go_wp2_with fail
            refine (HKN.out _).mono ?_
            rintro e w9 ⟨rfl, k9⟩
            go_wp2_with fail
            go_ret
            exact ⟨rfl, HKA.out.trans (HK1.out.trans (HKV.out.trans (HK2.out.trans (HK3.out.trans k9))))⟩
      · have hk100 : True := trivial
        go_wp2_with fail
        refine HLS.out.mono ?_
        rintro e w2 ⟨v2, rfl, ho2, k2⟩
        obtain ⟨qa, qc, rfl, hq, _⟩ := ho2.form
        have HQ := hidMk hq
        have HK2 := hidMk k2
        clear hq k2 ho2 HLS y0
        go_wp2_with fail
        go_loopg [13] N (fun gg iv wr2 => ∃ (k : Nat), k + gg = N ∧ iv = .int .i64 (k : Int) ∧ Hid (Kept w2 wr2))
        case atStart => exact ⟨0, by omega, rfl, hidMk (Kept.refl _)⟩
        case round =>
          obtain ⟨n, hng, rfl, HKN2⟩ := hrel
          obtain ⟨gi, hgi⟩ : ∃ gi, gi = gk := ⟨_, rfl⟩
          subst hgi
          have HNG := hidMk hng
          clear hng
          go_wp2_with fail
          refine (HLV.out _ (HK2.out.trans HKN2.out)).mono ?_
          rintro e w3 ⟨rfl, k3⟩
          have HK3 := hidMk (HKN2.out.trans k3)
          clear k3
          by_cases hnN : n < N
          · have hn1 : (n : Int) < (N : Int) := by omega
            go_wp2_with fail
            go_loopg [14, 15] L.length (fun gg wv iv wr3 => ∃ (j : Nat) (who : ByteArray), j + gg = L.length ∧ wv = .string who ∧ iv = .int .i64 (j : Int) ∧ Hid (Kept w2 wr3 ∧ WhoI ms ds L n j who))
            case atStart => exact ⟨0, ⟨#[]⟩, by omega, rfl, rfl, hidMk ⟨HK3.out, .inl ⟨rfl, fun t ht => absurd ht (by omega)⟩⟩⟩
            case round =>
              obtain ⟨j, who, hjg, rfl, rfl, HW⟩ := hrel
              obtain ⟨gj, hgj⟩ : ∃ gj, gj = gk := ⟨_, rfl⟩
              subst hgj
              have HJG := hidMk hjg
              by_cases hjL : j < L.length
              · have hj1 : (j : Int) < (L.length : Int) := by omega
                have hj0 : (0 : Int) ≤ (j : Int) := by omega
                obtain ⟨lb2, lo2, rfl⟩ := HQ.out.form (by omega)
                obtain ⟨c0, c1, c2, c3, c4, c5⟩ := (HQ.out.kept HW.out.1).at hjL
                have HI := hidMk (HIN.out _ (lkA L j).1 (n : Int) (HK2.out.trans HW.out.1))
                by_cases hin : (n : Int) ∈ undC ms ds (lkA L j).1
                · rw [show decide ((n : Int) ∈ undC ms ds (lkA L j).1) = true from decide_eq_true hin] at HI
                  have HWN := hidMk (show WhoI ms ds L n (j + 1) (lkA L j).2 from .inr ⟨j, by omega, hin, rfl⟩)
                  have hwho : who = ⟨#[]⟩ ∨ who = (lkA L j).2 := by
                    rcases HW.out.2 with ⟨e, _⟩ | ⟨t, ht, hnt, e⟩
                    · exact .inl e
                    · exact .inr (e.trans (HON.out.1 t (by omega) j hjL n hnt hin))
                  obtain ⟨Z, hZ⟩ : ∃ Z, lkA L j = Z := ⟨_, rfl⟩
                  rw [hZ] at c0 c1 c2 c3 c4 c5 HI HWN hwho
                  clear hin hZ hjg
                  have HKW := hidMk HW.out.1
                  clear HW
                  go_wp2_with fail
                  refine HI.out.mono ?_
                  rintro e w4 ⟨rfl, k4⟩
                  have d5 := k4.cellp c5
                  have HK4 := hidMk (HKW.out.trans k4)
                  clear k4 c0 c1 c2 c3 c4 c5
                  by_cases hwe : who = ⟨#[]⟩
                  · subst hwe
                    clear hwho
                    go_wp2_with fail
                    go_roundg (gj - 1)
                    case measure => have := HJG.out; omega
                    case rel => exact ⟨j + 1, Z.2, by have := HJG.out; omega, rfl, by go_num, hidMk ⟨HK4.out, HWN.out⟩⟩
                  · have hwe1 := bytes_neD hwe
                    obtain rfl : who = Z.2 := hwho.elim (fun e => absurd e hwe) id
                    have hwe2 : (Z.2.toList == Z.2.toList) = true := by simp
                    clear hwe hwho
                    go_wp2_with fail
                    all_goals
                      go_roundg (gj - 1)
                      case measure => have := HJG.out; omega
                      case rel => exact ⟨j + 1, Z.2, by have := HJG.out; omega, rfl, by go_num, hidMk ⟨HK4.out, HWN.out⟩⟩
                · rw [show decide ((n : Int) ∈ undC ms ds (lkA L j).1) = false from decide_eq_false hin] at HI
                  have HWN := hidMk (show WhoI ms ds L n (j + 1) who from who_no HW.out.2 hin)
                  obtain ⟨Z, hZ⟩ : ∃ Z, lkA L j = Z := ⟨_, rfl⟩
                  rw [hZ] at c0 c1 c2 c3 c4 c5 HI
                  clear hin hZ hjg
                  have HKW := hidMk HW.out.1
                  clear HW
                  go_wp2_with fail
                  refine HI.out.mono ?_
                  rintro e w4 ⟨rfl, k4⟩
                  have HK4 := hidMk (HKW.out.trans k4)
                  clear k4 c0 c1 c2 c3 c4 c5
                  go_wp2_with fail
                  go_roundg (gj - 1)
                  case measure => have := HJG.out; omega
                  case rel => exact ⟨j + 1, who, by have := HJG.out; omega, rfl, by go_num, hidMk ⟨HK4.out, HWN.out⟩⟩
              · have hj1 : ¬ ((j : Int) < (L.length : Int)) := by omega
                obtain rfl : j = L.length := by omega
                have HOO := hidMk (HOW.out _ (n : Int) (HK2.out.trans HW.out.1))
                rw [who_own HON.out.1 HW.out.2] at HOO
                have z0 := HHC.out _ (HK2.out.trans HW.out.1)
                have HKW := hidMk HW.out.1
                clear HW hjg
                go_wp2_with fail
                refine HOO.out.mono ?_
                rintro e w5 ⟨rfl, k5⟩
                have HK5 := hidMk (HKW.out.trans k5)
                have hww : (who.toList == who.toList) = true := by simp
                clear k5 z0
                go_wp2_with fail
                go_roundg (gi - 1)
                case measure => have := HNG.out; omega
                case rel => exact ⟨n + 1, by have := HNG.out; omega, by go_num, HK5⟩
          · have hn1 : ¬ ((n : Int) < (N : Int)) := by omega
            go_wp2_with fail
            refine (HKN.out _).mono ?_
            rintro e w9 ⟨rfl, k9⟩
            go_wp2_with fail
            go_ret
            exact ⟨rfl, HKA.out.trans (HK1.out.trans (HKV.out.trans (HK2.out.trans (HK3.out.trans k9))))⟩
end Go.Proofs.YtmedgkccicbieaaGreat
