/- moietylaw29.ParseBack. -/
import Derived.Test.YtpehinmckppjoaaGreatDoorQPsT
import Derived.Test.YtpehinmckppjoaaGreatDoorQRfStB
import Derived.Test.YtpehinmckppjoaaGreatDoorQPsPB
namespace Go.Proofs.YtpehinmckppjoaaGreatDoor
open Go.RowKit Go.Maps
set_option linter.unusedSimpArgs false
set_option linter.unusedVariables false

theorem sizes_line (s : ByteArray) : sizes (lineW s) ≤ s.size + 1 := by
  have h3 : tot (wrd s.data.toList) ≤ tot (spl 32 s.data.toList) := tot_filter _ _
  rw [tot_spl, data_len] at h3
  have h4 : ∀ xs : List (List UInt8), sizes (bstrs xs) ≤ tot xs := by
    intro xs
    induction xs with
    | nil => simp [sizes, bstrs]
    | cons x r ih =>
      unfold sizes tot bstrs at *
      have := bstr_size x
      simp only [List.map_cons, List.sum_cons] at *
      omega
  have := h4 (wrd s.data.toList)
  rw [← lineW_wrd] at this
  omega
theorem txs_takeK (l : List Wd) (k : Nat) : txs (l.take k) = (txs l).take k := by unfold txs; rw [List.map_take]
set_option maxHeartbeats 4000000 in
set_option maxRecDepth 100000 in
theorem law_ParseBack (a : Option Addr) (n c : Nat) (ds : List Dm) (na : Nat → Option Addr × Nat × Nat) (b : Option Addr) (m d : Nat) (ms : List ByteArray) (lv sc : Int) (s : ByteArray) (w : World) (hs : Dss w a n ds na) (hm : Ss w b m ms) (hmz : ∀ i, i < ms.length → (msA ms i).size ≤ maxLen) (hV : FV w) (hVs : Vars w) :
    Calls Tryz.prog 5 #[.agg #[.slice a n c, .slice b m d, .int .i64 lv, .int .i64 sc], .string s] w fun e w' => e = .returned (.bool true) ∧ Kept w w' := by
  have HO := hidMk (show ∀ y, Kept w y → _ from fun y hy => law29_open a n c ds na b m d ms lv sc y (hs.kept hy) (hm.kept hy) hmz)
  have HKN := hidMk (show ∀ y, Kept w y → _ from fun y hy => law29_known y (hV.kept hy) (hVs.kept hy))
  have HPA := hidMk (show ∀ y, Kept w y → ∀ pd, (∃ w0 tp ma mc dv, DP w0 y pd ds tp ma mc ms lv sc dv) → CatOk ds ms → s.size ≤ 10000 → _ from fun y hy pd hd hok hsz => by
    obtain ⟨w0, tp, ma, mc, dv, hd⟩ := hd
    exact ps_Parse (W := y) (w0 := y) ⟨_, _, _, _, _, _, _, hd⟩ hok (hV.kept hy) (hVs.kept hy) s hsz)
  have HLI := hidMk (show ∀ y, Kept w y → ∀ pd, (∃ w0 tp ma mc dv, DP w0 y pd ds tp ma mc ms lv sc dv) → CatOk ds ms → ∀ x, XOk x → _ from fun y hy pd hd hok x hx => by
    obtain ⟨w0, tp, ma, mc, dv, hd⟩ := hd
    exact ps_Line (W := y) ⟨_, _, _, _, _, _, _, hd⟩ hok (hV.kept hy) x hx)
  clear hs hm hmz hV hVs
  go_enter Tryz.func5, Tryz.ntmps5
  go_wp2_with fail
  refine (HO.out _ ((Kept.refl w).alloc _)).mono ?_
  rintro e w1 ⟨⟨⟨vd, vq, rfl⟩, _⟩ | ⟨pd, pq, at_, rfl, hc, hd, _⟩, k1⟩
  · have K1 := hidMk (((Kept.refl w).alloc _).trans k1)
    clear k1
    go_wp2_with fail
    refine (HKN.out _ K1.out).mono ?_
    rintro e w2 ⟨rfl, k2⟩
    have K2 := hidMk (K1.out.trans k2)
    clear k2
    go_wp2_with fail
    go_ret
    exact ⟨rfl, K2.out⟩
  have K1 := hidMk (((Kept.refl w).alloc _).trans k1)
  have HOK := hidMk (cat_ok hc)
  have HD := hidMk (show ∀ y, Kept w1 y → ∃ w0 tp ma mc dv, DP w0 y pd ds tp ma mc ms lv sc dv from fun y hy => by
    obtain ⟨w0, tp, ma, mc, dv, hd⟩ := hd
    exact ⟨_, _, _, _, _, hd.kept hy⟩)
  clear k1 hc hd HO
  by_cases hsz : 1000 < s.size
  · have h1 : (1000 : Int) < (s.size : Int) := by omega
    go_wp2_with fail
    refine (HKN.out _ K1.out).mono ?_
    rintro e w2 ⟨rfl, k2⟩
    have K2 := hidMk (K1.out.trans k2)
    clear k2
    go_wp2_with fail
    go_ret
    exact ⟨rfl, K2.out⟩
  have h1 : ¬ (1000 : Int) < (s.size : Int) := by omega
  have HSZ := hidMk (show s.size ≤ 1000 by omega)
  have HP := hidMk (HPA.out _ K1.out pd (HD.out _ (Kept.refl _)) HOK.out (by omega))
  obtain ⟨x, at1, why, hp⟩ : ∃ x a y, parseP ms ds (lineW s) = (x, a, y) := ⟨_, _, _, rfl⟩
  have HXO := hidMk (parse_xok hp)
  have HWP := hidMk (fun (e : why = 0) => write_parse HOK.out (x := x) (a := at1) (by rw [hp, e]))
  rw [hp] at HP
  simp only at HP
  clear hsz hp HPA
  have HLX := hidMk (fun y (hy : Kept w1 y) => HLI.out y (K1.out.trans hy) pd (HD.out y hy) HOK.out x HXO.out)
  obtain ⟨hx, hk⟩ : ∃ hx hk, x.h = hx ∧ x.k = hk := ⟨_, _, rfl, rfl⟩
  obtain ⟨hk, hhx, hhk⟩ := hk
  have HHX := hidMk (show x.h = hx ∧ x.k = hk from ⟨hhx, hhk⟩)
  have HLV := hidMk (show cmV x = .agg #[.int .i64 hk, .string x.u, .string x.s, .string x.o, .int .i64 x.c0, .int .i64 x.c1, .int .i64 x.c2, .int .i64 x.c3, .int .i64 x.c4, .int .i64 x.n, .int .i64 hx, .int .i64 x.m] by rw [← hhx, ← hhk]; rfl)
  rw [HLV.out] at HP HLX
  clear hhx hhk HLV HLI HXO
  generalize hlp : lineP ms ds x = lp at HLX
  have HLP := hidMk hlp
  clear hlp
  generalize x.u = xu at *
  generalize x.s = xs at *
  generalize x.o = xo at *
  generalize x.c0 = x0 at *
  generalize x.c1 = x1 at *
  generalize x.c2 = x2 at *
  generalize x.c3 = x3 at *
  generalize x.c4 = x4 at *
  generalize x.n = xn at *
  generalize x.m = xm at *
  go_wp2_with fail
  refine HP.out.mono ?_
  rintro e w2 ⟨rfl, k2⟩
  have K2 := hidMk k2
  clear k2
  rcases (Decidable.em (why = 0)).symm with hw | hw
  · have h2 : (why != 0) = true := by simpa using hw
    have h3 : decide (why = 0) = false := by simpa using hw
    go_wp2_with fail
    refine (HKN.out _ (K1.out.trans (K2.out.alloc _))).mono ?_
    rintro e w3 ⟨rfl, k3⟩
    have K3 := hidMk ((K1.out.trans (K2.out.alloc _)).trans k3)
    clear k3
    go_wp2_with fail
    go_ret
    exact ⟨rfl, K3.out⟩
  obtain ⟨l, hwr, _, _, hll⟩ := HWP.out hw
  have HWR := hidMk hwr
  have HLL := hidMk hll
  have hlp2 : lp = (joinB blankB l, 0) := by
    rw [← HLP.out]
    unfold lineP
    rw [HWR.out]
  subst hlp2
  subst hw
  clear hwr hll HWP
  simp only at HLX
  go_wp2_with fail
  refine (HLX.out _ (K2.out.alloc _)).mono ?_
  rintro e w3 ⟨rfl, k3⟩
  have y0 : w3.cell? ⟨w2.heap.size, 0, none⟩ = some (.int .i64 hk) := k3.cellp (new_cell _ _ _ _ _ _ rfl rfl)
  have y10 : w3.cell? ⟨w2.heap.size, 10, none⟩ = some (.int .i64 hx) := k3.cellp (new_cell _ _ _ _ _ _ rfl rfl)
  have K3 := hidMk ((K1.out.trans (K2.out.alloc _)).trans k3)
  clear k3
  go_wp2_with fail
  refine (ref28_Words s (by have := HSZ.out; omega) _).mono ?_
  rintro e w4 ⟨v4, lw, rfl, o4, c4, k4⟩
  obtain ⟨a4, cc4, rfl, q4, hcap⟩ := o4.form
  have z0 := k4.cellp y0
  have z10 := k4.cellp y10
  have K4 := hidMk (K3.out.trans k4)
  have Q4 := hidMk q4
  have HTX := hidMk (txs_lineW c4)
  have HLE := hidMk (show lw.length = (lineW s).length by rw [← txs_lineW c4, txs_len])
  have HL0 := hidMk (lineW_len s)
  have hl1 : 1 ≤ lw.length ∧ lw.length ≤ 1001 := by
    have e1 := HLE.out
    have e2 := HL0.out
    have e3 := HSZ.out
    have e4 : 1 ≤ l.length := by obtain ⟨_, mm, _, rfl⟩ := write_some HWR.out; simp
    rcases HLL.out with e | ⟨_, _, t, e⟩
    · rw [← e] at e4; omega
    · have := congrArg List.length e
      rw [List.length_append] at this
      simp at this
      omega
  have HTE := hidMk (show ∀ y, Kept w4 y → ∀ k, k ≤ lw.length → Calls Tryz.prog 19 #[.slice a4 k cc4] y fun e w' => e = .returned (.string (joinB blankB ((lineW s).take k))) ∧ w' = y from fun y hy k hk => by
    have hl : (lw.take k).length = k := by rw [List.length_take]; omega
    have h := ref28_Text a4 cc4 (lw.take k) y ((Q4.out.take k hk).kept hy) (by omega) (by
      rw [txs_takeK, HTX.out]
      have h1 := sizes_le (lineW s) k
      have h2 := sizes_line s
      have h3 := HSZ.out
      omega)
    rw [hl, txs_takeK, HTX.out] at h
    exact h)
  have HFF := hidMk (show ((lineW s).take lw.length = l ∧ (hx = 0 → hk = 1 → lw.length = 5) ∧ (hx = 0 → hk = 10 → lw.length = 4)) ∨ (hx = 0 ∧ (hk = 1 ∧ lw.length = 6 ∨ hk = 10 ∧ lw.length = 5) ∧ (lineW s).take (lw.length - 1) = l) from by
    have e1 := HLE.out
    obtain ⟨q1, q2⟩ := HHX.out
    rcases HLL.out with e | ⟨g0, g1, t, e⟩
    · left
      rw [e] at e1
      refine ⟨by rw [e]; exact List.take_of_length_le (by omega), fun h1 h2 => ?_, fun h1 h2 => ?_⟩
      · rw [e1]; exact words_1 HWR.out (by omega) (by omega)
      · rw [e1]; exact words_10 HWR.out (by omega) (by omega)
    · right
      rw [e, List.length_append, List.length_singleton] at e1
      refine ⟨by omega, ?_, by rw [e, e1]; simp⟩
      rcases g1 with g1 | g1
      · left; have := words_1 HWR.out g1 g0; omega
      · right; have := words_10 HWR.out g1 g0; omega)
  clear k4 q4 o4 c4 y0 y10
  clear HHX HLL HWR HLE Q4 HTX HLP HSZ HL0
  go_wp2_with fail
  all_goals
    refine (HTE.out _ (Kept.refl _) _ (by omega)).mono ?_
    rintro e w5 ⟨rfl, rfl⟩
    first
    | rw [show (lineW s).take lw.length = l from by
        rcases HFF.out with ⟨e, f1, f2⟩ | ⟨e0, e1, e2⟩
        · exact e
        · exfalso; (try simp only [beq_iff_eq, beq_eq_false_iff_ne, ne_eq] at *); omega]
    | rw [show (lineW s).take (lw.length - 1) = l from by
        rcases HFF.out with ⟨e, f1, f2⟩ | ⟨e0, e1, e2⟩
        · exfalso; (try simp only [beq_iff_eq, beq_eq_false_iff_ne, ne_eq] at *); omega
        · exact e2]
    | rw [show (lineW s).take 5 = l from by
        rcases HFF.out with ⟨e, f1, f2⟩ | ⟨e0, e1, e2⟩
        · exfalso; (try simp only [beq_iff_eq, beq_eq_false_iff_ne, ne_eq] at *); omega
        · have h6 : lw.length - 1 = 5 := by (try simp only [beq_iff_eq, beq_eq_false_iff_ne, ne_eq] at *); omega
          rw [h6] at e2; exact e2]
    go_wp2_with fail
    refine (HKN.out _ K4.out).mono ?_
    rintro e w6 ⟨rfl, k6⟩
    have K6 := hidMk (K4.out.trans k6)
    clear k6
    go_wp2_with fail
    go_ret
    exact ⟨rfl, K6.out⟩
end Go.Proofs.YtpehinmckppjoaaGreatDoor
