/- ArenaPlays: whatever is done, the arena is the definition's. -/
import Derived.Test.YtjakjdejbggdbaaDoorRefAr8
import Derived.Test.YtjakjdejbggdbaaDoorArKnown
namespace Go.Proofs.YtjakjdejbggdbaaDoor
open Go.RowKit Go.Maps
set_option linter.unusedSimpArgs false
set_option linter.unusedVariables false

theorem acs_at9 {w : World} {a : Option Addr} {n : Nat} {f : Nat → AcT} (h : Acs w a n f) {k : Nat} (hk : k < n) : ∃ b off, a = some ⟨b, off, none⟩ ∧ w.rangeAt b (off + k * 12) (f k).L := by
  obtain ⟨h1, h2, h3⟩ := h
  obtain ⟨b, off, e, _, h4⟩ := h3 (by omega)
  exact ⟨b, off, e, h4 k hk⟩
set_option maxHeartbeats 8000000 in
set_option maxRecDepth 100000 in
theorem law_ArenaPlays (most : Int) (a : Option Addr) (n c : Nat) (f : Nat → AcT) (w : World) (hA : Acs w a n f) (hV : Vars w) : Calls Tryd.prog 3 #[.int .i64 most, .slice a n c] w fun e w' => e = .returned (.bool true) ∧ Kept w w' := by
  have HV := hidMk hV
  have HAC := hidMk hA
  have hn := hA.2.1
  have HKN := hidMk (fun W (h : Kept w W) => law9_known W (hV.kept h))
  have HND := hidMk (fun (x : AcT) (hx : x.ks.length = 8) W => law9_node x.kd x.n x.lf x.ks x.v hx W)
  by_cases hm : 1 ≤ most ∧ most ≤ 20000
  · obtain ⟨m1, m2⟩ := hm
    have HN1 := hidMk (fun W => arena_New most W m1 m2)
    have HN2 := hidMk (fun W => r9_New most W m1 m2)
    clear hV hA
    go_enter Tryd.func3, Tryd.ntmps3
    go_wp2_with fail
    refine (HN1.out w).mono ?_
    rintro e w1 ⟨rfl, hnew⟩
    have HNW := hidMk hnew
    clear hnew HN1
    go_wp2_with fail
    refine (HN2.out w1).mono ?_
    rintro e w2 ⟨rfl, hr2, hk2⟩
    have HB2 := hidMk (show BK w w2 w.heap.size (w1.heap.size + 2) (fun _ => False) most 0 from ⟨_, _, _, _, ba_new (Kept.refl w) HNW.out m1 m2 hr2 hk2, by omega⟩)
    clear hr2 hk2 HN2 HNW
    generalize w.heap.size = p at HB2 ⊢
    generalize w1.heap.size + 2 = q at HB2 ⊢
    go_wp2_with fail
    go_loopg [9] 62 (fun g x wr => ∃ k : Nat, k + g = 62 ∧ k ≤ 60 ∧ x = .int .i64 k ∧ Hid (BK w wr p q (fun _ => False) most k))
    case atStart => exact ⟨0, by omega, by omega, rfl, HB2⟩
    case round =>
      clear HB2
      obtain ⟨k, hkg, hk8, rfl, HS⟩ := hrel
      have HKG := hidMk hkg
      by_cases hkn : k < n
      · by_cases hk6 : k < 60
        · have hk1 : (k : Int) < n := by omega
          have hk2 : (k : Int) < 60 := by omega
          obtain ⟨ba, off, rfl, hra⟩ := acs_at9 HAC.out hkn
          have hfk := HAC.out.1 k hkn
          obtain ⟨nn, rf, nd, M, hB, hM⟩ := HS.out
          have HRA := hidMk (hB.kept.range hra)
          have HKK := hidMk (And.intro hk6 hk8)
          have HFL := hidMk (show (f k).L.length = 12 ∧ ∀ u ∈ (f k).L, u.oneCell' = true from ⟨acL_len hfk, acL_one⟩)
          obtain ⟨bx, hbx⟩ : ∃ g, g = wr.heap.size := ⟨_, rfl⟩
          obtain ⟨W9, hW9⟩ : ∃ W, W = (wr.alloc (.cells zAc.toArray 33)).setCells bx 0 (f k).L := ⟨_, rfl⟩
          have ht9 : (wr.alloc (.cells zAc.toArray 33)).there bx 0 12 := by rw [hbx]; exact new_there _ _ _ _ (by rfl)
          have hr9 : W9.rangeAt bx 0 (f k).L := by rw [hW9]; exact World.rangeAt_setCells_same _ _ _ _ (by rw [HFL.out.1]; exact ht9)
          have HBX := hidMk (show BA w W9 p q (fun j => j = bx) most nn rf nd M nn rf nd M from hB.with (by rw [hW9, hbx]; exact kept_setCells (Nat.le_refl _) _ _ ((Kept.refl _).alloc _)) (fun j e => .inr ⟨by omega, by rw [e]; exact cell_lt (hr9 0 _ rfl)⟩))
          have c0 : W9.cell? ⟨bx, 0, none⟩ = some (.int .i64 (f k).kd) := by have := hr9 0 _ rfl; simpa using this
          have c1 : W9.cell? ⟨bx, 1, none⟩ = some (.int .i64 (f k).n) := by have := hr9 1 _ rfl; simpa using this
          have HT9 := hidMk ht9
          have HR9 := hidMk hr9
          have HNX := hidMk (HND.out (f k) hfk)
          have HNG := hidMk (fun b W => law9_given (acN (f k).lf (f k).ks (f k).v b) hfk rfl W)
          have HNY := hidMk (fun b => acN_ok (lf := (f k).lf) hfk (f k).v b)
          have HNL := hidMk (fun b => And.intro (ndL_len (acN (f k).lf (f k).ks (f k).v b) hfk rfl) (ndL_one (acN (f k).lf (f k).ks (f k).v b)))
          have hLx : acL (f k).kd (f k).n (f k).lf (f k).ks (f k).v = (f k).L := rfl
          rw [hLx] at HNX
          have hdr := drops_ex (kdA nd) (fun i => (hB.ok.2 i).1) nn (9 * totR rf nn + 1) rf [(f k).n] hB.ok.1 (by simp)
          obtain ⟨KD, rD, hdr⟩ := hdr
          have HDR := hidMk hdr
          obtain ⟨xl, hxl⟩ := low_ex hB.ok.1
          have HXL := hidMk hxl
          have HM := hidMk hM
          generalize (f k).L = LX at *
          generalize (f k).kd = xk at *
          generalize (f k).n = xn at *
          clear hra hfk hr9 ht9 hLx hkg hk8 hk6 hkn hB hdr hxl HS
          by_cases hq : xk.tmod 3 = 0
          · go_wp2_with (first | (refine wpl_loadT ac_size ac_row rfl _ rfl _ _ rfl LX HFL.out.1 HRA.out ?_) | (refine wpl_allocA rfl rfl ?_; rw [← hbx]; clear hbx) | (refine wpl_storeT ac_size rfl _ _ rfl _ _ rfl LX HFL.out.1 rfl HFL.out.2 HT9.out ?_; rw [← hW9]; clear hW9) | (refine wpl_loadT ac_size ac_row rfl _ rfl _ _ rfl LX HFL.out.1 HR9.out ?_))
            refine (HNX.out _).mono ?_
            rintro e w10 ⟨⟨b, rfl⟩, k10⟩
            have HG1 := hidMk (HNG.out b)
            have HLN := hidMk (HNL.out b)
            have HY := hidMk (HNY.out b)
            obtain ⟨g, hg⟩ : ∃ g, g = w10.heap.size := ⟨_, rfl⟩
            unfold ndV at *
            have HMA := hidMk (fun Y (h : BA w Y p q (fun j => j = g) most nn rf nd M nn rf nd M) => ba_Make h HV.out (by omega) (acN (f k).lf (f k).ks (f k).v b) (HY.out) xl HXL.out)
            have HMR := hidMk (fun Y n1 rf1 nd1 M1 (h : BA w Y p q (fun j => j = g) most n1 rf1 nd1 M1 nn rf nd M) => br_Make h (by omega) (acN (f k).lf (f k).ks (f k).v b) (HY.out) xl HXL.out)
            unfold ndV at HMA HMR
            generalize acN (f k).lf (f k).ks (f k).v b = an at *
            generalize hLN : ndL an = LN at *
            generalize bareN an = ya at *
            obtain ⟨W4, hW4⟩ : ∃ W4, W4 = (w10.alloc (.cells (ndL zNd).toArray 38)).setCells g 0 LN := ⟨_, rfl⟩
            have ht4 : (w10.alloc (.cells (ndL zNd).toArray 38)).there g 0 25 := by rw [hg]; exact new_there _ _ _ _ (by rfl)
            have hr4 : W4.rangeAt g 0 LN := by rw [hW4]; exact World.rangeAt_setCells_same _ _ _ _ (by rw [HLN.out.1]; exact ht4)
            have HB4 := hidMk (show BA w W4 p q (fun j => j = g) most nn rf nd M nn rf nd M from (HBX.out.keep k10).with (by rw [hW4, hg]; exact kept_setCells (Nat.le_refl _) _ _ ((Kept.refl _).alloc _)) (fun j e => .inr ⟨by omega, by
              have hx0 : ∃ v, LN[0]? = some v := ⟨_, List.getElem?_eq_getElem (show 0 < LN.length by rw [HLN.out.1]; omega)⟩
              obtain ⟨v, hv⟩ := hx0
              rw [e]; exact cell_lt (hr4 0 _ hv)⟩))
            have HT4 := hidMk ht4
            have HR4 := hidMk hr4
            clear ht4 hr4 hLN k10 HNX HNG HNL HNY HBX c0 c1 HT9 HR9 HRA HDR
            go_wp2_with (first | (refine wpl_allocR rfl rfl ?_; rw [← hg]; clear hg) | (refine wpl_storeT rd_size rfl _ _ rfl _ _ rfl LN HLN.out.1 rfl HLN.out.2 HT4.out ?_; rw [← hW4]; clear hW4) | (refine wpl_loadT rd_size rd_row rfl _ rfl _ _ rfl LN HLN.out.1 HR4.out ?_))
            refine (HG1.out _).mono ?_
            rintro e w5 ⟨rfl, k5⟩
            have HB5 := hidMk (HB4.out.keep k5)
            have HR5 := hidMk (k5.range HR4.out)
            clear k5 HB4 HR4 HT4 HG1
            go_wp2_with fail
            refine (HMA.out _ HB5.out).mono ?_
            rintro e w6 ⟨rfl, hb6, hx6⟩
            have HB6 := hidMk hb6
            have HR6 := hidMk (show w6.rangeAt g 0 LN from fun j v hv => hx6 g rfl _ _ (HR5.out j v hv))
            clear hb6 hx6 HB5 HR5 HMA
            go_wp2_with (first | (refine wpl_loadT rd_size rd_row rfl _ rfl _ _ rfl LN HLN.out.1 HR6.out ?_))
            refine (HMR.out _ _ _ _ _ HB6.out).mono ?_
            rintro e w7 ⟨rfl, hb7, hx7⟩
            have HB7 := hidMk (show BA w w7 p q (fun _ => False) most _ _ _ _ _ _ _ _ from hb7.with (Kept.refl _) (fun j e => e.elim))
            clear hb7 hx7 HB6 HR6 HMR
            have HSM := hidMk (ba_same HB7.out)
            generalize mkI rf most nn ya xl = ri at *
            generalize mkE rf most nn ya = re at *
            go_wp2_with fail
            refine HSM.out.mono ?_
            rintro e w8 ⟨rfl, k8⟩
            have HB8 := hidMk (show BK w w8 p q (fun _ => False) most (k + 1) from ⟨_, _, _, _, HB7.out.keep k8, by have := HM.out; omega⟩)
            clear k8 HB7 HSM
            go_wp2_with fail
            go_roundg (gk - 1)
            case measure => have := HKG.out; omega
            case rel => exact ⟨k + 1, by have := HKG.out; omega, by have := HKK.out; omega, by go_num, HB8⟩
          · by_cases hq1 : xk.tmod 3 = 1
            · go_wp2_with (first | (refine wpl_loadT ac_size ac_row rfl _ rfl _ _ rfl LX HFL.out.1 HRA.out ?_) | (refine wpl_allocA rfl rfl ?_; rw [← hbx]; clear hbx) | (refine wpl_storeT ac_size rfl _ _ rfl _ _ rfl LX HFL.out.1 rfl HFL.out.2 HT9.out ?_; rw [← hW9]; clear hW9))
              refine wp_region_held_drew (S := (fun w' => w'.cell? ⟨bx, 1, none⟩ = some (.int .i64 xn))) (by kernel_rfl) ?_ (fun hHeld => ?_)
              · exact ((Kept.refl W9).drew).cellp c1
              refine wpAnyH_take (i := 0) (oi := { dst := some 92, op := _, type := _, pos := _, after := _, guard := _ }) (v := ?_) rfl (by kernel_rfl) (by kernel_rfl) (by kernel_rfl) (fun _ _ _ h => h) (Or.inl ⟨by rfl, ?_⟩) (by assumption) ?_
              rotate_left
              · (intro w hSw; (try dsimp only at hSw); (try obtain ⟨hSw1, hSw2⟩ := hSw); go_simp; (try with_reducible rfl))
              (try simp only [Act.put, List.setIfInBounds_toArray, List.set_cons_zero, List.set_cons_succ])
              refine wpAnyH_take (i := 1) (oi := { dst := some 93, op := _, type := _, pos := _, after := _, guard := _ }) (v := ?_) rfl (by kernel_rfl) (by kernel_rfl) (by kernel_rfl) (fun _ _ _ h => h) (Or.inl ⟨by rfl, ?_⟩) (by assumption) ?_
              rotate_left
              · (intro w hSw; (try dsimp only at hSw); (try obtain ⟨hSw1, hSw2⟩ := hSw); go_simp; (try with_reducible rfl))
              (try simp only [Act.put, List.setIfInBounds_toArray, List.set_cons_zero, List.set_cons_succ])
              refine wpAnyH_take (i := 2) (oi := { dst := some 94, op := _, type := _, pos := _, after := _, guard := _ }) (v := ?_) rfl (by kernel_rfl) (by kernel_rfl) (by kernel_rfl) (fun _ _ _ h => h) (Or.inl ⟨by rfl, ?_⟩) (by assumption) ?_
              rotate_left
              · (intro w hSw; (try dsimp only at hSw); (try obtain ⟨hSw1, hSw2⟩ := hSw); go_simp; (try with_reducible rfl))
              (try simp only [Act.put, List.setIfInBounds_toArray, List.set_cons_zero, List.set_cons_succ])
              refine wpAnyH_take (i := 4) (oi := { dst := some 96, op := _, type := _, pos := _, after := _, guard := _ }) (v := ?_) rfl (by kernel_rfl) (by kernel_rfl) (by kernel_rfl) (fun _ _ _ h => h) (Or.inl ⟨by rfl, ?_⟩) (by assumption) ?_
              rotate_left
              · (intro w hSw; (try dsimp only at hSw); (try obtain ⟨hSw1, hSw2⟩ := hSw); go_simp; (try with_reducible rfl))
              (try simp only [Act.put, List.setIfInBounds_toArray, List.set_cons_zero, List.set_cons_succ])
              refine wpAnyH_take (i := 5) (oi := { dst := some 97, op := _, type := _, pos := _, after := _, guard := _ }) (v := ?_) rfl (by kernel_rfl) (by kernel_rfl) (by kernel_rfl) (fun _ _ _ h => h) (Or.inl ⟨by rfl, ?_⟩) (by assumption) ?_
              rotate_left
              · (intro w hSw; (try dsimp only at hSw); (try obtain ⟨hSw1, hSw2⟩ := hSw); go_simp; (try with_reducible rfl))
              (try simp only [Act.put, List.setIfInBounds_toArray, List.set_cons_zero, List.set_cons_succ])
              refine wpAnyH_take (i := 6) (oi := { dst := some 98, op := _, type := _, pos := _, after := _, guard := _ }) (v := ?_) rfl (by kernel_rfl) (by kernel_rfl) (by kernel_rfl) (fun _ _ _ h => h) (Or.inl ⟨by rfl, ?_⟩) (by assumption) ?_
              rotate_left
              · (intro w hSw; (try dsimp only at hSw); (try obtain ⟨hSw1, hSw2⟩ := hSw); go_simp; (try with_reducible rfl))
              (try simp only [Act.put, List.setIfInBounds_toArray, List.set_cons_zero, List.set_cons_succ])
              refine wpAnyH_ready (rs := [3]) (by kernel_rfl) (by simp) ?_
              refine AllReadyH.cons (o := { dst := some 95, op := _, type := _, pos := _, after := _, guard := _ }) rfl (fun K hK => ?_) AllReadyH.nil
              go_simp
              refine (ba_Keep (HBX.out.keep (Kept.refl W9).drew) (by omega) xn).mono ?_
              rintro e wA ⟨rfl, hbA, hxA⟩
              have HBA := hidMk hbA
              have HXA := hidMk (hxA bx rfl)
              clear hbA hxA
              (try go_wp2_with fail)
              refine hK.out _ _ ?_ (fun hHeld => ?_)
              · (first | assumption | exact HXB.out _ _ hHeld | exact HXA.out _ _ hHeld)
              clear hK K
              (try simp only [Act.put, List.setIfInBounds_toArray, List.set_cons_zero, List.set_cons_succ])
              refine wpAnyH_ready (rs := [7]) (by kernel_rfl) (by simp) ?_
              refine AllReadyH.cons (o := { dst := some 99, op := _, type := _, pos := _, after := _, guard := _ }) rfl (fun K hK => ?_) AllReadyH.nil
              go_simp
              refine (br_Keep HBA.out (by omega) xn).mono ?_
              rintro e wB ⟨rfl, hbB, hxB⟩
              have HBB := hidMk hbB
              have HXB := hidMk (hxB bx rfl)
              clear hbB hxB
              (try go_wp2_with fail)
              refine hK.out _ _ ?_ (fun hHeld => ?_)
              · (first | assumption | exact HXB.out _ _ hHeld | exact HXA.out _ _ hHeld)
              clear hK K
              (try simp only [Act.put, List.setIfInBounds_toArray, List.set_cons_zero, List.set_cons_succ])
              refine wpAnyH_take (i := 8) (oi := { dst := some 100, op := _, type := _, pos := _, after := _, guard := _ }) (v := ?_) rfl (by kernel_rfl) (by kernel_rfl) (by kernel_rfl) (fun _ _ _ h => h) (Or.inl ⟨by rfl, ?_⟩) (by assumption) ?_
              rotate_left
              · (intro w hSw; (try dsimp only at hSw); (try obtain ⟨hSw1, hSw2⟩ := hSw); go_simp; (try with_reducible rfl))
              (try simp only [Act.put, List.setIfInBounds_toArray, List.set_cons_zero, List.set_cons_succ])
              refine wpAnyH_done (by kernel_rfl) ?_ _
              have HSM := hidMk (ba_same HBB.out)
              generalize atE rf xn = re at *
              go_wp2_with fail
              refine HSM.out.mono ?_
              rintro e w8 ⟨rfl, k8⟩
              have HB8 := hidMk (show BK w w8 p q (fun _ => False) most (k + 1) from ⟨_, _, _, _, (HBB.out.keep k8).with (Kept.refl _) (fun j e => e.elim), by have := HM.out; omega⟩)
              clear k8 HBB HSM
              go_wp2_with fail
              go_roundg (gk - 1)
              case measure => have := HKG.out; omega
              case rel => exact ⟨k + 1, by have := HKG.out; omega, by have := HKK.out; omega, by go_num, HB8⟩
            · go_wp2_with (first | (refine wpl_loadT ac_size ac_row rfl _ rfl _ _ rfl LX HFL.out.1 HRA.out ?_) | (refine wpl_allocA rfl rfl ?_; rw [← hbx]; clear hbx) | (refine wpl_storeT ac_size rfl _ _ rfl _ _ rfl LX HFL.out.1 rfl HFL.out.2 HT9.out ?_; rw [← hW9]; clear hW9))
              refine wp_region_held_drew (S := (fun w' => w'.cell? ⟨bx, 1, none⟩ = some (.int .i64 xn))) (by kernel_rfl) ?_ (fun hHeld => ?_)
              · exact ((Kept.refl W9).drew).cellp c1
              refine wpAnyH_take (i := 0) (oi := { dst := some 56, op := _, type := _, pos := _, after := _, guard := _ }) (v := ?_) rfl (by kernel_rfl) (by kernel_rfl) (by kernel_rfl) (fun _ _ _ h => h) (Or.inl ⟨by rfl, ?_⟩) (by assumption) ?_
              rotate_left
              · (intro w hSw; (try dsimp only at hSw); (try obtain ⟨hSw1, hSw2⟩ := hSw); go_simp; (try with_reducible rfl))
              (try simp only [Act.put, List.setIfInBounds_toArray, List.set_cons_zero, List.set_cons_succ])
              refine wpAnyH_take (i := 1) (oi := { dst := some 57, op := _, type := _, pos := _, after := _, guard := _ }) (v := ?_) rfl (by kernel_rfl) (by kernel_rfl) (by kernel_rfl) (fun _ _ _ h => h) (Or.inl ⟨by rfl, ?_⟩) (by assumption) ?_
              rotate_left
              · (intro w hSw; (try dsimp only at hSw); (try obtain ⟨hSw1, hSw2⟩ := hSw); go_simp; (try with_reducible rfl))
              (try simp only [Act.put, List.setIfInBounds_toArray, List.set_cons_zero, List.set_cons_succ])
              refine wpAnyH_take (i := 2) (oi := { dst := some 58, op := _, type := _, pos := _, after := _, guard := _ }) (v := ?_) rfl (by kernel_rfl) (by kernel_rfl) (by kernel_rfl) (fun _ _ _ h => h) (Or.inl ⟨by rfl, ?_⟩) (by assumption) ?_
              rotate_left
              · (intro w hSw; (try dsimp only at hSw); (try obtain ⟨hSw1, hSw2⟩ := hSw); go_simp; (try with_reducible rfl))
              (try simp only [Act.put, List.setIfInBounds_toArray, List.set_cons_zero, List.set_cons_succ])
              refine wpAnyH_take (i := 4) (oi := { dst := some 60, op := _, type := _, pos := _, after := _, guard := _ }) (v := ?_) rfl (by kernel_rfl) (by kernel_rfl) (by kernel_rfl) (fun _ _ _ h => h) (Or.inl ⟨by rfl, ?_⟩) (by assumption) ?_
              rotate_left
              · (intro w hSw; (try dsimp only at hSw); (try obtain ⟨hSw1, hSw2⟩ := hSw); go_simp; (try with_reducible rfl))
              (try simp only [Act.put, List.setIfInBounds_toArray, List.set_cons_zero, List.set_cons_succ])
              refine wpAnyH_take (i := 5) (oi := { dst := some 61, op := _, type := _, pos := _, after := _, guard := _ }) (v := ?_) rfl (by kernel_rfl) (by kernel_rfl) (by kernel_rfl) (fun _ _ _ h => h) (Or.inl ⟨by rfl, ?_⟩) (by assumption) ?_
              rotate_left
              · (intro w hSw; (try dsimp only at hSw); (try obtain ⟨hSw1, hSw2⟩ := hSw); go_simp; (try with_reducible rfl))
              (try simp only [Act.put, List.setIfInBounds_toArray, List.set_cons_zero, List.set_cons_succ])
              refine wpAnyH_take (i := 6) (oi := { dst := some 62, op := _, type := _, pos := _, after := _, guard := _ }) (v := ?_) rfl (by kernel_rfl) (by kernel_rfl) (by kernel_rfl) (fun _ _ _ h => h) (Or.inl ⟨by rfl, ?_⟩) (by assumption) ?_
              rotate_left
              · (intro w hSw; (try dsimp only at hSw); (try obtain ⟨hSw1, hSw2⟩ := hSw); go_simp; (try with_reducible rfl))
              (try simp only [Act.put, List.setIfInBounds_toArray, List.set_cons_zero, List.set_cons_succ])
              refine wpAnyH_ready (rs := [3]) (by kernel_rfl) (by simp) ?_
              refine AllReadyH.cons (o := { dst := some 59, op := _, type := _, pos := _, after := _, guard := _ }) rfl (fun K hK => ?_) AllReadyH.nil
              go_simp
              refine (ba_Drop (HBX.out.keep (Kept.refl W9).drew) xn KD rD HDR.out).mono ?_
              rintro e wA ⟨rfl, hbA, hxA⟩
              have HBA := hidMk hbA
              have HXA := hidMk (hxA bx rfl)
              clear hbA hxA
              (try go_wp2_with fail)
              refine hK.out _ _ ?_ (fun hHeld => ?_)
              · (first | assumption | exact HXB.out _ _ hHeld | exact HXA.out _ _ hHeld)
              clear hK K
              (try simp only [Act.put, List.setIfInBounds_toArray, List.set_cons_zero, List.set_cons_succ])
              refine wpAnyH_ready (rs := [7]) (by kernel_rfl) (by simp) ?_
              refine AllReadyH.cons (o := { dst := some 63, op := _, type := _, pos := _, after := _, guard := _ }) rfl (fun K hK => ?_) AllReadyH.nil
              go_simp
              refine (br_Drop HBA.out xn KD rD HDR.out).mono ?_
              rintro e wB ⟨rfl, hbB, hxB⟩
              have HBB := hidMk hbB
              have HXB := hidMk (hxB bx rfl)
              clear hbB hxB
              (try go_wp2_with fail)
              refine hK.out _ _ ?_ (fun hHeld => ?_)
              · (first | assumption | exact HXB.out _ _ hHeld | exact HXA.out _ _ hHeld)
              clear hK K
              (try simp only [Act.put, List.setIfInBounds_toArray, List.set_cons_zero, List.set_cons_succ])
              refine wpAnyH_take (i := 8) (oi := { dst := some 64, op := _, type := _, pos := _, after := _, guard := _ }) (v := ?_) rfl (by kernel_rfl) (by kernel_rfl) (by kernel_rfl) (fun _ _ _ h => h) (Or.inl ⟨by rfl, ?_⟩) (by assumption) ?_
              rotate_left
              · (intro w hSw; (try dsimp only at hSw); (try obtain ⟨hSw1, hSw2⟩ := hSw); go_simp; (try with_reducible rfl))
              (try simp only [Act.put, List.setIfInBounds_toArray, List.set_cons_zero, List.set_cons_succ])
              refine wpAnyH_done (by kernel_rfl) ?_ _
              have HSM := hidMk (ba_same HBB.out)
              generalize atE rf xn = re at *
              go_wp2_with fail
              refine HSM.out.mono ?_
              rintro e w8 ⟨rfl, k8⟩
              have HB8 := hidMk (show BK w w8 p q (fun _ => False) most (k + 1) from ⟨_, _, _, _, (HBB.out.keep k8).with (Kept.refl _) (fun j e => e.elim), by have := HM.out; omega⟩)
              clear k8 HBB HSM
              go_wp2_with fail
              go_roundg (gk - 1)
              case measure => have := HKG.out; omega
              case rel => exact ⟨k + 1, by have := HKG.out; omega, by have := HKK.out; omega, by go_num, HB8⟩
        · have hk1 : (k : Int) < n := by omega
          have hk2 : ¬ ((k : Int) < 60) := by omega
          have HKW := hidMk (show Kept w wr from by obtain ⟨nn, rf, nd, M, hB, hM⟩ := HS.out; exact hB.kept)
          clear hkg
          go_wp2_with fail
          refine (HKN.out _ HKW.out).mono ?_
          rintro e w8 ⟨rfl, k8⟩
          have HK8 := hidMk (HKW.out.trans k8)
          clear k8
          go_wp2_with fail
          go_ret
          exact ⟨rfl, HK8.out⟩
      · have hk1 : ¬ ((k : Int) < n) := by omega
        have HKW := hidMk (show Kept w wr from by obtain ⟨nn, rf, nd, M, hB, hM⟩ := HS.out; exact hB.kept)
        clear hkg
        go_wp2_with fail
        refine (HKN.out _ HKW.out).mono ?_
        rintro e w8 ⟨rfl, k8⟩
        have HK8 := hidMk (HKW.out.trans k8)
        clear k8
        go_wp2_with fail
        go_ret
        exact ⟨rfl, HK8.out⟩
  · have HN1 := hidMk (arena_NewBad most w hm)
    have HN2 := hidMk (r9_NewBad most w hm)
    clear hV hA hm
    go_enter Tryd.func3, Tryd.ntmps3
    go_wp2_with fail
    refine HN1.out.mono ?_
    rintro e w1 ⟨rfl, hw1⟩
    rw [hw1]
    go_wp2_with fail
    refine HN2.out.mono ?_
    rintro e w2 ⟨rfl, hw2⟩
    rw [hw2]
    go_wp2_with fail
    refine (HKN.out _ (Kept.refl w)).mono ?_
    rintro e w8 ⟨rfl, k8⟩
    have HK8 := hidMk k8
    clear k8
    go_wp2_with fail
    go_ret
    exact ⟨rfl, HK8.out⟩
end Go.Proofs.YtjakjdejbggdbaaDoor
