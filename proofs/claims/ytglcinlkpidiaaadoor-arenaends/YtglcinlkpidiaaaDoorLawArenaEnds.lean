/- ArenaEnds: when each number that was told is dropped as often, there are no nodes. -/
import Derived.Test.YtglcinlkpidiaaaDoorAr14
import Derived.Test.YtglcinlkpidiaaaDoorArMath3
namespace Go.Proofs.YtglcinlkpidiaaaDoor
open Go.RowKit Go.Maps
set_option linter.unusedSimpArgs false
set_option linter.unusedVariables false

theorem run_storeI (w : World) (b f : Nat) (i : Int) (u : Value) (hc : w.cell? ⟨b, f, none⟩ = some u) (hf : w.frozen? ⟨b, f, none⟩ = false) : (Instr.storeAt 3 (.pointer (some ⟨b, f, none⟩)) (.int .i64 i)).run Tryd.prog w = .ok () (w.setCells b f [.int .i64 i]) := by
  go_simp
  rfl
theorem wpl_storeI {ops : Array Oper} {rest : List Oper} {o : Oper} {a : Act} {w : World} {Q : Exit → Act → World → Prop} (hg : o.guard = none) (x y : Operand) (ho : o.op = .store 3 x y) (b f : Nat) (hx : a.eval x = .pointer (some ⟨b, f, none⟩)) (i : Int) (hy : a.eval y = .int .i64 i) (u : Value) (hc : w.cell? ⟨b, f, none⟩ = some u) (hf : w.frozen? ⟨b, f, none⟩ = false)
    (h : wpList Tryd.prog ops Q rest (a.put o.dst undef) (w.setCells b f [.int .i64 i])) : wpList Tryd.prog ops Q (o :: rest) a w := by
  refine wpList_plain hg fun K hK => ?_
  unfold Oper.wp execOp
  simp only [ho, hx, hy, Sem.run_bind, run_storeI w b f i u hc hf, Result.andThen_ok, Sem.run_pure]
  exact hK _ _ h
theorem ac_setK {kd n : Int} {lf : Bool} {ks : List Int} {v : Int} (h : ks.length = 8) {j : Nat} (hj : j < 8) (t : Int) : setL (acL kd n lf ks v) (3 + j) [.int .i64 t] = acL kd n lf (ks.set j t) v := by
  obtain ⟨a, b, c, d, e, f, g, k, rfl⟩ := eight h
  have : j = 0 ∨ j = 1 ∨ j = 2 ∨ j = 3 ∨ j = 4 ∨ j = 5 ∨ j = 6 ∨ j = 7 := by omega
  rcases this with rfl | rfl | rfl | rfl | rfl | rfl | rfl | rfl <;> rfl
/-- An act's block, some of whose kids were set. -/
structure AcB (wo w : World) (b : Nat) (kd n : Int) (lf : Bool) (v : Int) (ks : List Int) : Prop where
  len : ks.length = 8
  kept : Kept wo w
  low : wo.heap.size ≤ b
  cells : w.rangeAt b 0 (acL kd n lf ks v)
  room : w.there b 0 12
theorem AcB.set {wo w : World} {b : Nat} {kd n : Int} {lf : Bool} {v : Int} {ks : List Int} (h : AcB wo w b kd n lf v ks) {j : Nat} (hj : j < 8) (t : Int) : AcB wo (w.setCells b (3 + j) [.int .i64 t]) b kd n lf v (ks.set j t) := by
  refine ⟨by rw [List.length_set]; exact h.len, kept_setCells h.low _ _ h.kept, h.low, ?_, there_setCells h.room _ _ _⟩
  rw [← ac_setK h.len hj t]
  exact range_setL h.cells _ (by rw [acL_len h.len]; simp; omega)
theorem AcB.kid {wo w : World} {b : Nat} {kd n : Int} {lf : Bool} {v : Int} {ks : List Int} (h : AcB wo w b kd n lf v ks) {j : Nat} (hj : j < 8) : w.cell? ⟨b, 3 + j, none⟩ = some (.int .i64 (ks.getD j 0)) ∧ w.frozen? ⟨b, 3 + j, none⟩ = false := by
  have h1 : (kdV ks)[j]? = some (.int .i64 (ks.getD j 0)) := by
    have := kdV_get (l := ks) (k := j) (by rw [h.len]; exact hj)
    simpa using this
  have h2 := h.cells (3 + j) _ (acL_kids j _ h1)
  have h3 := (h.room (3 + j) (by omega)).2
  rw [Nat.zero_add] at h2 h3
  exact ⟨h2, h3⟩
/-- A number that was told, in its row. -/
theorem EdI.told {ph : Prop} {w0 wr : World} {p : Nat} {ta : Option Addr} {tc : Nat} {told tl : List Int} {k : Nat} (h : EdI ph w0 wr p (.slice ta told.length tc) told tl k) (hk : k ≤ 1000) {m : Nat} (hm : m < told.length) : ∃ b o, ta = some ⟨b, o, none⟩ ∧ wr.cell? ⟨b, o + m, none⟩ = some (.int .i64 (told.getD m 0)) := by
  obtain ⟨h1, h2⟩ := h.own
  obtain ⟨a, c, e, hs⟩ := h1.sl (by unfold maxLen; omega)
  cases e
  obtain ⟨b, o, e1, _, h3⟩ := hs.cells (by omega)
  exact ⟨b, o, e1, h3 m hm⟩
theorem EdI.row {ph : Prop} {w0 wr : World} {p : Nat} {tv : Value} {told tl : List Int} {k : Nat} (h : EdI ph w0 wr p tv told tl k) (hk : k ≤ 1000) : ∃ a c, tv = .slice a told.length c := by
  obtain ⟨h1, h2⟩ := h.own
  obtain ⟨a, c, e, hs⟩ := h1.sl (by unfold maxLen; omega)
  exact ⟨a, c, e⟩
theorem mem_getD {l : List Int} {m : Nat} (h : m < l.length) : l.getD m 0 ∈ l := by
  rw [List.getD_eq_getElem?_getD, List.getElem?_eq_getElem h]
  exact List.getElem_mem h
theorem acs_at {w : World} {a : Option Addr} {n : Nat} {f : Nat → AcT} (h : Acs w a n f) {k : Nat} (hk : k < n) : ∃ b off, a = some ⟨b, off, none⟩ ∧ w.rangeAt b (off + k * 12) (f k).L := by
  obtain ⟨h1, h2, h3⟩ := h
  obtain ⟨b, off, e, _, h4⟩ := h3 (by omega)
  exact ⟨b, off, e, h4 k hk⟩
set_option maxHeartbeats 16000000 in
set_option maxRecDepth 100000 in
theorem law_ArenaEnds (a : Option Addr) (n c : Nat) (f : Nat → AcT) (w : World) (hA : Acs w a n f) (hV : Vars w) : Calls Tryd.prog 4 #[.slice a n c] w fun e w' => e = .returned (.bool true) ∧ Kept w w' := by
  have HV := hidMk hV
  have HAC := hidMk hA
  have hn := hA.2.1
  have HNEW := hidMk (arena_New 100 w (by omega) (by omega))
  have HKN := hidMk (fun W (h : Kept w W) => law9_known W (hV.kept h))
  clear hV hA
  go_enter Tryd.func4, Tryd.ntmps4
  go_wp2_with fail
  refine HNEW.out.mono ?_
  rintro e w1 ⟨rfl, hnew⟩
  have HS1 := hidMk (edi_new hnew (Kept.refl w))
  generalize hp : w.heap.size = p at HS1 ⊢
  clear hnew HNEW hp
  go_wp2_with fail
  go_loopg [5, 6] 62 (fun g tv x wr => ∃ (k : Nat) (told : List Int), k + g = 62 ∧ k ≤ 60 ∧ x = .int .i64 k ∧ Hid (EdI True w wr p tv told told k))
  case atStart => exact ⟨0, [], by omega, by omega, rfl, HS1⟩
  case round =>
    clear HS1
    obtain ⟨k, told, hkg, hk8, rfl, HS⟩ := hrel
    obtain ⟨G, HG⟩ : ∃ G, Hid (G = gk ∧ k + G = 62) := ⟨gk, hidMk ⟨rfl, hkg⟩⟩
    obtain ⟨ta, tc, rfl⟩ := HS.out.row (by omega)
    have htl := HS.out.own.2
    by_cases hkn : k < n
    · by_cases hk6 : k < 60
      · have hk1 : (k : Int) < n := by omega
        have hk2 : (k : Int) < 60 := by omega
        obtain ⟨ba, off, rfl, hra⟩ := acs_at HAC.out hkn
        have hfk := HAC.out.1 k hkn
        have HRA := hidMk (HS.out.kept.range hra)
        have HKK := hidMk (And.intro hk6 hk8)
        have HFL := hidMk (show (f k).L.length = 12 ∧ ∀ u ∈ (f k).L, u.oneCell' = true from ⟨acL_len hfk, acL_one⟩)
        obtain ⟨bx, hbx⟩ : ∃ g, g = wr.heap.size := ⟨_, rfl⟩
        obtain ⟨W9, hW9⟩ : ∃ W, W = (wr.alloc (.cells zAc.toArray 33)).setCells bx 0 (f k).L := ⟨_, rfl⟩
        have ht9 : (wr.alloc (.cells zAc.toArray 33)).there bx 0 12 := by rw [hbx]; exact new_there _ _ _ _ (by rfl)
        have HB9 := hidMk (show AcB wr W9 bx (f k).kd (f k).n (f k).lf (f k).v (f k).ks from
          ⟨hfk, by rw [hW9, hbx]; exact kept_setCells (Nat.le_refl _) _ _ ((Kept.refl _).alloc _), by rw [hbx]; exact Nat.le_refl _, by rw [hW9]; exact World.rangeAt_setCells_same _ _ _ _ (by rw [HFL.out.1]; exact ht9), by rw [hW9]; exact there_setCells ht9 _ _ _⟩)
        have HT9 := hidMk ht9
        generalize (f k).L = LX at *
        generalize (f k).kd = xk at *
        generalize (f k).n = xn at *
        generalize (f k).lf = xl at *
        generalize (f k).v = xv at *
        generalize (f k).ks = xs at *
        clear hra hfk ht9 hkg hk8 hkn
        go_wp2_with (first | (refine wpl_loadT ac_size ac_row rfl _ rfl _ _ rfl LX HFL.out.1 HRA.out ?_) | (refine wpl_allocA rfl rfl ?_; rw [← hbx]; clear hbx) | (refine wpl_storeT ac_size rfl _ _ rfl _ _ rfl LX HFL.out.1 rfl HFL.out.2 HT9.out ?_; rw [← hW9]; clear hW9))
        clear HRA HT9 HFL
        obtain ⟨Wo, hWo⟩ : ∃ Wo, Wo = wr := ⟨_, rfl⟩
        rw [← hWo] at HS HB9
        clear hWo
        go_loopg [8] 9 (fun g x wq => ∃ (j : Nat) (ks : List Int), j + g = 9 ∧ j ≤ 8 ∧ x = .int .i64 j ∧ Hid (AcB Wo wq bx xk xn xl xv ks) ∧ Hid (∀ i, i < j → ks.getD i 0 = 0 ∨ ks.getD i 0 ∈ told))
        case atStart => exact ⟨0, xs, by omega, by omega, rfl, HB9, hidMk fun i hi => absurd hi (by omega)⟩
        case round =>
          clear HB9
          obtain ⟨j, ks, hjg, hj8, rfl, HB, HF⟩ := hrel
          have HJG := hidMk hjg
          by_cases hj : j < 8
          · have hj' : (j : Int) < 8 := by omega
            obtain ⟨hc, hf⟩ := HB.out.kid hj
            obtain ⟨W2, hW2⟩ : ∃ W, W = wr.setCells bx (3 + j) [.int .i64 0] := ⟨_, rfl⟩
            have HB2 := hidMk (show AcB Wo W2 bx xk xn xl xv (ks.set j 0) from by rw [hW2]; exact HB.out.set hj 0)
            have HF2 := hidMk (show ∀ (l : List Int) (t : Int), l.length = 8 → (t = 0 ∨ t ∈ told) → (∀ i, i < j → l.getD i 0 = 0 ∨ l.getD i 0 ∈ told) → ∀ i, i < j + 1 → (l.set j t).getD i 0 = 0 ∨ (l.set j t).getD i 0 ∈ told from fun l t hl ht hi i hij => by
              by_cases e : i = j
              · subst e
                rw [List.getD_eq_getElem?_getD, List.getElem?_set_self (by omega)]
                exact ht
              · rw [List.getD_eq_getElem?_getD, List.getElem?_set_ne (fun e' => e e'.symm), ← List.getD_eq_getElem?_getD]
                exact hi i (by omega))
            have HLK := hidMk HB.out.len
            have HKC := hidMk (And.intro hc hf)
            generalize ks.getD j 0 = z at hc HKC
            by_cases hz0 : 0 < z.tmod 16
            · by_cases hz1 : z.tmod 16 < (told.length : Int)
              · obtain ⟨m, hm⟩ : ∃ m : Nat, z.tmod 16 = (m : Int) := ⟨(z.tmod 16).toNat, by omega⟩
                have hml : m < told.length := by omega
                obtain ⟨bt, ot, rfl, hct⟩ := (HS.out.keep HB2.out.kept).told (by omega) hml
                obtain ⟨hc2, hf2⟩ := HB2.out.kid hj
                obtain ⟨W3, hW3⟩ : ∃ W, W = W2.setCells bx (3 + j) [.int .i64 (told.getD m 0)] := ⟨_, rfl⟩
                have HB3 := hidMk (show AcB Wo W3 bx xk xn xl xv ((ks.set j 0).set j (told.getD m 0)) from by rw [hW3]; exact HB2.out.set hj _)
                have HF3 := hidMk (HF2.out (ks.set j 0) (told.getD m 0) (by rw [List.length_set]; exact HLK.out) (.inr (mem_getD hml)) (fun i hi => HF2.out ks 0 HLK.out (.inl rfl) HF.out i (by omega)))
                have HC2 := hidMk (And.intro hc2 hf2)
                generalize told.getD m 0 = t at *
                rw [hm] at hz0 hz1
                have hm0 : (0 : Int) < (m : Int) := hz0
                clear hc2 hf2 hjg HF2 hz0
                go_wp2_with (first | (refine wpl_storeI rfl _ _ rfl _ _ rfl _ rfl _ HC2.out.1 HC2.out.2 ?_; rw [← hW3]; clear hW3) | (refine wpl_storeI rfl _ _ rfl _ _ rfl _ rfl _ HKC.out.1 HKC.out.2 ?_; rw [← hW2]; clear hW2))
                go_roundg (gk - 1)
                case measure => have := HJG.out; omega
                case rel => exact ⟨j + 1, _, by have := HJG.out; omega, by omega, by go_num, HB3, HF3⟩
              · have HF3 := hidMk (HF2.out ks 0 HLK.out (.inl rfl) HF.out)
                clear hjg HF2
                go_wp2_with (first | (refine wpl_storeI rfl _ _ rfl _ _ rfl _ rfl _ HKC.out.1 HKC.out.2 ?_; rw [← hW2]; clear hW2))
                go_roundg (gk - 1)
                case measure => have := HJG.out; omega
                case rel => exact ⟨j + 1, _, by have := HJG.out; omega, by omega, by go_num, HB2, HF3⟩
            · have HF3 := hidMk (HF2.out ks 0 HLK.out (.inl rfl) HF.out)
              clear hjg HF2
              go_wp2_with (first | (refine wpl_storeI rfl _ _ rfl _ _ rfl _ rfl _ HKC.out.1 HKC.out.2 ?_; rw [← hW2]; clear hW2))
              go_roundg (gk - 1)
              case measure => have := HJG.out; omega
              case rel => exact ⟨j + 1, _, by have := HJG.out; omega, by omega, by go_num, HB2, HF3⟩
          · have hj' : ¬ ((j : Int) < 8) := by omega
            have hks : ∀ c ∈ ks, c = 0 ∨ c ∈ told := fun c hc => by
              obtain ⟨i, hi, rfl⟩ := List.getElem_of_mem hc
              have h8 := HB.out.len
              have := HF.out i (by omega)
              rw [List.getD_eq_getElem?_getD, List.getElem?_eq_getElem hi] at this
              exact this
            have hkl := HB.out.len
            have hr := HB.out.cells
            have hS2 := HS.out.keep HB.out.kept
            have c0 : wr.cell? ⟨bx, 0, none⟩ = some (.int .i64 xk) := by have := hr 0 _ rfl; simpa using this
            have c1 : wr.cell? ⟨bx, 1, none⟩ = some (.int .i64 xn) := by have := hr 1 _ rfl; simpa using this
            have HS2 := hidMk hS2
            have HGG := hidMk (And.intro hkl (And.intro hks hr))
            clear hks hkl hr hS2 HB HF HS hjg HJG hj hj8
            by_cases hq : xk.tmod 3 = 1 ∧ 0 < told.length
            · obtain ⟨hq1, hq2⟩ := hq
              have hq2' : (0 : Int) < (told.length : Int) := by omega
              by_cases hy : 0 ≤ xn.tmod 16 ∧ xn.tmod 16 < (told.length : Int)
              · obtain ⟨hy1, hy2⟩ := hy
                obtain ⟨m, hm⟩ : ∃ m : Nat, xn.tmod 16 = (m : Int) := ⟨(xn.tmod 16).toNat, by omega⟩
                have hml : m < told.length := by omega
                obtain ⟨bt, ot, rfl, hct⟩ := HS2.out.told (by omega) hml
                have hkp := ed_Keep HS2.out (by omega) _ (mem_getD hml)
                have HTO := hidMk (fun (Y : World) tl' K' (h : EdI True w Y p (.slice (some ⟨bt, ot, none⟩) told.length tc) told tl' K') (hK : K' ≤ 1000) => h.told hK hml)
                generalize told.getD m 0 = t at hct hkp HTO
                have HKP := hidMk hkp
                clear hkp
                have hmi : (m : Int) < (told.length : Int) := by omega
                rw [hm] at hy1 hy2
                have HMT := hidMk hml
                go_wp2_with fail
                refine HKP.out.mono ?_
                rintro e w5 ⟨rfl, hs5⟩
                have HS5 := hidMk hs5
                obtain ⟨bt', ot', ebt, hct5⟩ := HTO.out _ _ _ hs5 (by omega)
                cases ebt
                have HO5 := hidMk (hs5.keep ((Kept.refl _).alloc (.cells #[.int .i64 t] 3))).own.1
                have HE5 := hidMk (hs5.keep ((Kept.refl _).alloc (.cells #[.int .i64 t] 3)))
                have HK5 := hidMk (Nat.le_trans hs5.kept.size (show w5.heap.size ≤ w5.heap.size + 1 by omega))
                clear hs5 hct HKP HS2 c0 c1 HTO HMT
                go_wp2_with (at_builtin; refine wpList_pushI _ (by rfl) _ _ (by rfl) w.heap.size (.slice (some ⟨bt, ot, none⟩) told.length tc) told (by rfl) HO5.out (by have := HK5.out; simp; omega) w5.heap.size t (by rfl) (by simp) (by omega) (w5.heap.size + 1) (by simp) ?_; intro g6 cap6 w6 o6 k6 a6 l6; have HS6 := hidMk (HE5.out.pushed (g' := g6) o6 k6 rfl (by simpa using a6) (by omega)); clear o6 k6 a6 l6)
                go_roundg (G - 1)
                case measure => have := HG.out; omega
                case rel => exact ⟨k + 1, told ++ [t], by have := HG.out; omega, by omega, by go_num, HS6⟩
              · have HS6 := hidMk (HS2.out.raise (Nat.le_succ k))
                clear HS2
                by_cases hy1 : 0 ≤ xn.tmod 16
                · have hy2 : ¬ (xn.tmod 16 < (told.length : Int)) := fun e => hy ⟨hy1, e⟩
                  clear hy
                  go_wp2_with fail
                  go_roundg (G - 1)
                  case measure => have := HG.out; omega
                  case rel => exact ⟨k + 1, told, by have := HG.out; omega, by omega, by go_num, HS6⟩
                · clear hy
                  go_wp2_with fail
                  go_roundg (G - 1)
                  case measure => have := HG.out; omega
                  case rel => exact ⟨k + 1, told, by have := HG.out; omega, by omega, by go_num, HS6⟩
            · have HND := hidMk (law9_node xk xn xl ks xv HGG.out.1 wr)
              have HLL := hidMk (show (acL xk xn xl ks xv).length = 12 ∧ wr.rangeAt bx 0 (acL xk xn xl ks xv) from ⟨acL_len HGG.out.1, HGG.out.2.2⟩)
              have HNG := hidMk (fun b W => law9_given (acN xl ks xv b) HGG.out.1 rfl W)
              have HNM := hidMk (fun b Y (h : EdI True w Y p (.slice ta told.length tc) told told k) => ed_Make h HV.out (by omega) (acN xl ks xv b) (acN_ok HGG.out.1 _ b) HGG.out.2.1)
              generalize acL xk xn xl ks xv = LA at HND HLL
              clear HGG
              by_cases hq1 : xk.tmod 3 = 1
              · have hq2 : ¬ ((0 : Int) < (told.length : Int)) := fun e => hq ⟨hq1, by omega⟩
                clear hq
                go_wp2_with (first | (refine wpl_loadT ac_size ac_row rfl _ rfl _ _ rfl LA HLL.out.1 HLL.out.2 ?_))
                refine HND.out.mono ?_
                rintro e w10 ⟨⟨b, rfl⟩, k10⟩
                have HS10 := hidMk (HS2.out.keep k10)
                clear k10 HS2 HND HLL c0 c1
                have HG1 := hidMk (HNG.out b)
                have HM1 := hidMk (HNM.out b)
                unfold ndV at *
                generalize ndL (acN xl ks xv b) = LM at *
                clear HNG HNM
                go_wp2_with fail
                refine (HG1.out _).mono ?_
                rintro e w11 ⟨rfl, k11⟩
                have HS11 := hidMk (HS10.out.keep k11)
                clear k11 HS10 HG1
                go_wp2_with fail
                refine (HM1.out _ HS11.out).mono ?_
                rintro e w12 ⟨y, rfl, hs12⟩
                have HO5 := hidMk (hs12.keep ((Kept.refl _).alloc (.cells #[.int .i64 y] 3))).own.1
                have HE5 := hidMk (hs12.keep ((Kept.refl _).alloc (.cells #[.int .i64 y] 3)))
                have HK5 := hidMk (Nat.le_trans hs12.kept.size (show w12.heap.size ≤ w12.heap.size + 1 by omega))
                clear hs12 HS11 HM1
                go_wp2_with (at_builtin; refine wpList_pushI _ (by rfl) _ _ (by rfl) w.heap.size (.slice ta told.length tc) told (by rfl) HO5.out (by have := HK5.out; simp; omega) w12.heap.size y (by rfl) (by simp) (by omega) (w12.heap.size + 1) (by simp) ?_; intro g6 cap6 w6 o6 k6 a6 l6; have HS6 := hidMk (HE5.out.pushed (g' := g6) o6 k6 rfl (by simpa using a6) (by omega)); clear o6 k6 a6 l6)
                go_roundg (G - 1)
                case measure => have := HG.out; omega
                case rel => exact ⟨k + 1, told ++ [y], by have := HG.out; omega, by omega, by go_num, HS6⟩
              · clear hq
                go_wp2_with (first | (refine wpl_loadT ac_size ac_row rfl _ rfl _ _ rfl LA HLL.out.1 HLL.out.2 ?_))
                refine HND.out.mono ?_
                rintro e w10 ⟨⟨b, rfl⟩, k10⟩
                have HS10 := hidMk (HS2.out.keep k10)
                clear k10 HS2 HND HLL c0 c1
                have HG1 := hidMk (HNG.out b)
                have HM1 := hidMk (HNM.out b)
                unfold ndV at *
                generalize ndL (acN xl ks xv b) = LM at *
                clear HNG HNM
                go_wp2_with fail
                refine (HG1.out _).mono ?_
                rintro e w11 ⟨rfl, k11⟩
                have HS11 := hidMk (HS10.out.keep k11)
                clear k11 HS10 HG1
                go_wp2_with fail
                refine (HM1.out _ HS11.out).mono ?_
                rintro e w12 ⟨y, rfl, hs12⟩
                have HO5 := hidMk (hs12.keep ((Kept.refl _).alloc (.cells #[.int .i64 y] 3))).own.1
                have HE5 := hidMk (hs12.keep ((Kept.refl _).alloc (.cells #[.int .i64 y] 3)))
                have HK5 := hidMk (Nat.le_trans hs12.kept.size (show w12.heap.size ≤ w12.heap.size + 1 by omega))
                clear hs12 HS11 HM1
                go_wp2_with (at_builtin; refine wpList_pushI _ (by rfl) _ _ (by rfl) w.heap.size (.slice ta told.length tc) told (by rfl) HO5.out (by have := HK5.out; simp; omega) w12.heap.size y (by rfl) (by simp) (by omega) (w12.heap.size + 1) (by simp) ?_; intro g6 cap6 w6 o6 k6 a6 l6; have HS6 := hidMk (HE5.out.pushed (g' := g6) o6 k6 rfl (by simpa using a6) (by omega)); clear o6 k6 a6 l6)
                go_roundg (G - 1)
                case measure => have := HG.out; omega
                case rel => exact ⟨k + 1, told ++ [y], by have := HG.out; omega, by omega, by go_num, HS6⟩
      · have hk2 : ¬ ((k : Int) < 60) := by omega
        have hk1 : (k : Int) < n := by omega
        clear hk6 hkn hkg
        have HD := hidMk HS.out.later
        have HK := hidMk hk8
        clear HS
        go_wp2_with fail
        go_loopg [13] (told.length + 1) (fun g x wq => ∃ j : Nat, j + g = told.length + 1 ∧ j ≤ told.length ∧ x = .int .i64 j ∧ Hid (EdI False w wq p (.slice ta told.length tc) told (told.drop j) k))
        case atStart => exact ⟨0, by omega, by omega, rfl, HD⟩
        case round =>
          clear HD
          obtain ⟨j, hjg, hjl, rfl, HD⟩ := hrel
          have HJG := hidMk hjg
          by_cases hj : j < told.length
          · have hj' : (j : Int) < (told.length : Int) := by omega
            obtain ⟨bt, ot, rfl, hct⟩ := HD.out.told (by have := HK.out; omega) hj
            have hdr : told.drop j = told.getD j 0 :: told.drop (j + 1) := by
              rw [List.drop_eq_getElem_cons hj, List.getD_eq_getElem?_getD, List.getElem?_eq_getElem hj]
              rfl
            rw [hdr] at HD
            have HDR := hidMk (ed_Drop HD.out)
            generalize told.getD j 0 = t at *
            clear hdr HD hjg
            go_wp2_with fail
            refine HDR.out.mono ?_
            rintro e w15 ⟨rfl, hs15⟩
            have HS15 := hidMk hs15
            clear hs15 HDR hct
            go_wp2_with fail
            go_roundg (gk - 1)
            case measure => have := HJG.out; omega
            case rel => exact ⟨j + 1, by have := HJG.out; omega, by omega, by go_num, HS15⟩
          · have hj' : ¬ ((j : Int) < (told.length : Int)) := by omega
            have hdr : told.drop j = [] := List.drop_eq_nil_of_le (by omega)
            rw [hdr] at HD
            have HUS := hidMk (ed_Used HD.out)
            have HKS := hidMk HD.out.kept
            clear hdr HD hjg hj
            go_wp2_with fail
            refine HUS.out.mono ?_
            rintro e w16 ⟨rfl, rfl⟩
            go_wp2_with fail
            refine (HKN.out _ HKS.out).mono ?_
            rintro e w20 ⟨rfl, k20⟩
            have HK20 := hidMk (HKS.out.trans k20)
            go_wp2_with fail
            go_ret
            exact ⟨rfl, HK20.out⟩
    · have hk1 : ¬ ((k : Int) < n) := by omega
      clear hkn hkg
      have HD := hidMk HS.out.later
      have HK := hidMk hk8
      clear HS
      go_wp2_with fail
      go_loopg [13] (told.length + 1) (fun g x wq => ∃ j : Nat, j + g = told.length + 1 ∧ j ≤ told.length ∧ x = .int .i64 j ∧ Hid (EdI False w wq p (.slice ta told.length tc) told (told.drop j) k))
      case atStart => exact ⟨0, by omega, by omega, rfl, HD⟩
      case round =>
        clear HD
        obtain ⟨j, hjg, hjl, rfl, HD⟩ := hrel
        have HJG := hidMk hjg
        by_cases hj : j < told.length
        · have hj' : (j : Int) < (told.length : Int) := by omega
          obtain ⟨bt, ot, rfl, hct⟩ := HD.out.told (by have := HK.out; omega) hj
          have hdr : told.drop j = told.getD j 0 :: told.drop (j + 1) := by
            rw [List.drop_eq_getElem_cons hj, List.getD_eq_getElem?_getD, List.getElem?_eq_getElem hj]
            rfl
          rw [hdr] at HD
          have HDR := hidMk (ed_Drop HD.out)
          generalize told.getD j 0 = t at *
          clear hdr HD hjg
          go_wp2_with fail
          refine HDR.out.mono ?_
          rintro e w15 ⟨rfl, hs15⟩
          have HS15 := hidMk hs15
          clear hs15 HDR hct
          go_wp2_with fail
          go_roundg (gk - 1)
          case measure => have := HJG.out; omega
          case rel => exact ⟨j + 1, by have := HJG.out; omega, by omega, by go_num, HS15⟩
        · have hj' : ¬ ((j : Int) < (told.length : Int)) := by omega
          have hdr : told.drop j = [] := List.drop_eq_nil_of_le (by omega)
          rw [hdr] at HD
          have HUS := hidMk (ed_Used HD.out)
          have HKS := hidMk HD.out.kept
          clear hdr HD hjg hj
          go_wp2_with fail
          refine HUS.out.mono ?_
          rintro e w16 ⟨rfl, rfl⟩
          go_wp2_with fail
          refine (HKN.out _ HKS.out).mono ?_
          rintro e w20 ⟨rfl, k20⟩
          have HK20 := hidMk (HKS.out.trans k20)
          go_wp2_with fail
          go_ret
          exact ⟨rfl, HK20.out⟩
end Go.Proofs.YtglcinlkpidiaaaDoor
