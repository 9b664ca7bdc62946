/- moietyref14: find, ahead, Owner. · moietyref14: Within, Foreign. -/
import Derived.Test.YtmedgkccicbieaaGreatPLockWB
import Derived.Test.YtmedgkccicbieaaGreatPCoLwB
import Derived.Deep.RegionHeld3
namespace Go.Proofs.YtmedgkccicbieaaGreat
open Go.RowKit Go.Maps
set_option linter.unusedSimpArgs false
set_option linter.unusedVariables false

section
variable {W0 X : World} {r q : Nat} {ds : List Dm} {ms : List ByteArray} {rt : Nat → Nat} {y4 y5 : Value} {pp : Option (Nat × Nat)}
theorem RR.trans {Y Z : World} {p1 : Option (Nat × Nat)} (h1 : RQ W0 r q ds y4 y5 p1 Y) (n1 : Nx pp p1 X.heap.size) (c1 : Chg (fun j => j = r) X Y) (h2 : RR W0 r q ds y4 y5 p1 Y Z) : RR W0 r q ds y4 y5 pp X Z := by
  obtain ⟨⟨p2, h3, n2⟩, c2⟩ := h2
  exact ⟨⟨p2, h3, n1.trans n2 c1.size⟩, c1.trans c2⟩
end
theorem emp_ne {u : ByteArray} (h : u ≠ ⟨#[]⟩) : u.toList.isEmpty = false := by
  have h1 := bytes_neD h
  cases h2 : u.toList.isEmpty with
  | false => rfl
  | true =>
    rw [List.isEmpty_iff] at h2
    rw [h2] at h1
    have e : (⟨#[]⟩ : ByteArray).toList = [] := by first | (simp; done) | rfl | (simp [ByteArray.toList, ByteArray.toList.loop]; done) | (unfold ByteArray.toList ByteArray.toList.loop; rfl) | go_simp
    rw [e] at h1
    exact absurd h1 (by decide)
def fnB (x : Cl) (u : ByteArray) (y : Lk) : Bool := decide (y.1 = x ∧ (u = ⟨#[]⟩ ∨ y.2 = u))
def FnP (X : World) (l : List Lk) (x : Cl) (u : ByteArray) (e : Ending) (w' : World) : Prop := ∃ z : Int, e = .returned (.int .i64 z) ∧ ((∃ k : Nat, z = k ∧ k < l.length ∧ fnB x u (lkA l k) = true) ∨ (z = -1 ∧ ∀ t, t < l.length → fnB x u (lkA l t) = false)) ∧ Kept X w'
set_option maxHeartbeats 8000000 in
set_option maxRecDepth 100000 in
theorem ref14_find (a : Option Addr) (c : Nat) (l : List Lk) (x : Cl) (u : ByteArray) (w : World) (hs : Lq w a l) (hl : l.length ≤ 100000) : Calls Tryz.prog 72 #[.slice a l.length c, clV x, .string u] w (FnP w l x u) := by
  obtain ⟨cb, hcb⟩ : ∃ x, x = w.heap.size := ⟨_, rfl⟩
  obtain ⟨W1, hW1⟩ : ∃ V, V = w.alloc (.cells #[.int .i64 x.1, .int .i64 x.2.1, .int .i64 x.2.2.1, .int .i64 x.2.2.2.1, .int .i64 x.2.2.2.2] 29) := ⟨_, rfl⟩
  have k1 : Kept w W1 := by rw [hW1]; exact (Kept.refl w).alloc _
  have HK1 := hidMk k1
  have HB := hidMk (show ∀ Y, Kept W1 Y → _ from fun Y k => boxC_at w x 29 hcb Y (by rw [← hW1]; exact k))
  have HL := hidMk (hs.kept k1)
  clear hs k1
  unfold clV
  go_enter Tryz.func72, Tryz.ntmps72
  go_wp2_with fail
  rw [← hW1, ← hcb]
  clear hW1 hcb
  go_loopg [7] (l.length + 1) (fun g i wr => ∃ k : Nat, k + g = l.length + 1 ∧ k ≤ l.length ∧ i = .int .i64 k ∧ Hid (Kept W1 wr ∧ ∀ t, t < k → fnB x u (lkA l t) = false))
  case atStart => exact ⟨0, by omega, by omega, rfl, hidMk ⟨Kept.refl _, fun t ht => absurd ht (by omega)⟩⟩
  case round =>
    obtain ⟨k, hkg, hkl, rfl, HS⟩ := hrel
    have HKG := hidMk hkg
    clear hkg
    by_cases hk : k < l.length
    · have hk' : (k : Int) < (l.length : Int) := by omega
      obtain ⟨b, o, rfl⟩ := HL.out.form (by omega)
      obtain ⟨e0, e1, e2, e3, e4, e5⟩ := (HL.out.kept HS.out.1).at hk
      obtain ⟨x0, x1, x2, x3, x4⟩ := HB.out wr HS.out.1
      have hq := eqlC (lkA l k).1 x
      unfold clV at hq
      have HKS := hidMk HS.out.1
      have HNX := hidMk (show fnB x u (lkA l k) = false → ∀ t, t < k + 1 → fnB x u (lkA l t) = false from fun hf t ht => by
        by_cases e : t = k
        · subst e; exact hf
        · exact HS.out.2 t (by omega))
      have HYE := hidMk (show fnB x u (lkA l k) = true → (∃ k' : Nat, (k : Int) = k' ∧ k' < l.length ∧ fnB x u (lkA l k') = true) from fun hf => ⟨k, rfl, hk, hf⟩)
      clear HS
      by_cases he : (lkA l k).1 = x
      · rw [show decide ((lkA l k).1 = x) = true from decide_eq_true he] at hq
        by_cases hu : u = ⟨#[]⟩
        · have HT := hidMk (HYE.out (decide_eq_true ⟨he, .inl hu⟩))
          subst hu
          clear he HNX HYE
          generalize lkA l k = y at *
          go_wp2_with fail
          go_quiet (fail)
          go_wp2_with fail
          go_ret
          exact ⟨(k : Int), rfl, .inl HT.out, HK1.out.trans (HKS.out.drewN _)⟩
        · have hu1 := emp_ne hu
          by_cases hv : (lkA l k).2 = u
          · have HT := hidMk (HYE.out (decide_eq_true ⟨he, .inr hv⟩))
            have hv1 : ((lkA l k).2.toList == u.toList) = true := by rw [hv]; simp
            clear he HNX HYE hv hu
            generalize lkA l k = y at *
            go_wp2_with fail
            go_quiet (fail)
            all_goals go_wp2_with fail
            all_goals
              go_ret
              exact ⟨(k : Int), rfl, .inl HT.out, HK1.out.trans (HKS.out.drewN _)⟩
          · have hv1 := bytes_neD hv
            have HT := hidMk (HNX.out (decide_eq_false fun e => e.2.elim hu hv))
            clear he HNX HYE hv hu
            generalize lkA l k = y at *
            go_wp2_with fail
            go_quiet (fail)
            go_wp2_with fail
            go_roundg (gk - 1)
            case measure => have := HKG.out; omega
            case rel => exact ⟨k + 1, by have := HKG.out; omega, by omega, by go_num, hidMk ⟨HKS.out.drewN _, HT.out⟩⟩
      · rw [show decide ((lkA l k).1 = x) = false from decide_eq_false he] at hq
        have HT := hidMk (HNX.out (decide_eq_false fun e => he e.1))
        clear he HNX HYE
        generalize lkA l k = y at *
        go_wp2_with fail
        go_quiet (fail)
        go_wp2_with fail
        go_roundg (gk - 1)
        case measure => have := HKG.out; omega
        case rel => exact ⟨k + 1, by have := HKG.out; omega, by omega, by go_num, hidMk ⟨HKS.out.drewN _, HT.out⟩⟩
    · have hk' : ¬ ((k : Int) < (l.length : Int)) := by omega
      go_wp2_with fail
      go_ret
      exact ⟨-1, rfl, .inr ⟨rfl, fun t ht => HS.out.2 t (by omega)⟩, HK1.out.trans HS.out.1⟩
section
variable {W0 X : World} {r q : Nat} {ds : List Dm} {ms : List ByteArray} {rt : Nat → Nat} {y4 y5 : Value} {pp : Option (Nat × Nat)}
set_option maxHeartbeats 8000000 in
set_option maxRecDepth 100000 in
theorem ref14_ahead (hE : RE W0 r q ds ms rt) (h : RQ W0 r q ds y4 y5 pp X) (x y : Lk) (hne : ixC ms ds x.1 ≠ ixC ms ds y.1) : Calls Tryz.prog 78 #[.pointer (some ⟨r, 0, none⟩), lkV x, lkV y] X fun e w' => e = .returned (.bool (decide (ixC ms ds x.1 < ixC ms ds y.1))) ∧ Kept X w' := by
  obtain ⟨WA, hWA⟩ : ∃ V, V = X.alloc (.cells #[.int .i64 x.1.1, .int .i64 x.1.2.1, .int .i64 x.1.2.2.1, .int .i64 x.1.2.2.2.1, .int .i64 x.1.2.2.2.2, .string x.2] 87) := ⟨_, rfl⟩
  obtain ⟨W1, hW1⟩ : ∃ V, V = WA.alloc (.cells #[.int .i64 y.1.1, .int .i64 y.1.2.1, .int .i64 y.1.2.2.1, .int .i64 y.1.2.2.2.1, .int .i64 y.1.2.2.2.2, .string y.2] 87) := ⟨_, rfl⟩
  have kA : Kept X WA := by rw [hWA]; exact (Kept.refl X).alloc _
  have kB : Kept WA W1 := by rw [hW1]; exact (Kept.refl WA).alloc _
  have k1 := kA.trans kB
  have HK1 := hidMk k1
  obtain ⟨xb, hxb⟩ : ∃ z, z = X.heap.size := ⟨_, rfl⟩
  obtain ⟨yb, hyb⟩ : ∃ z, z = X.heap.size + 1 := ⟨_, rfl⟩
  have HX := hidMk (show ∀ Y, Kept W1 Y → _ from fun Y k => boxLk_at X x 87 hxb Y (by rw [← hWA]; exact kB.trans k))
  have HY := hidMk (show ∀ Y, Kept W1 Y → _ from fun Y k => boxLk_at WA y 87 (g := yb) (by rw [hWA, World.size_alloc]; exact hyb) Y (by rw [← hW1]; exact k))
  have HIN := hidMk (show ∀ Y (y : Cl), Kept W1 Y → Calls Tryz.prog 55 #[.pointer (some ⟨r, 0, none⟩), clV y] Y fun e w' => e = .returned (.int .i64 (ixC ms ds y)) ∧ Kept Y w' from fun Y y k => by rw [clV_at]; exact r7_Index hE (h.keep (k1.trans k)) y.1 (clT y))
  have HIX := hidMk (fun Y k => HIN.out Y x.1 k)
  have HIY := hidMk (fun Y k => HIN.out Y y.1 k)
  obtain ⟨ix, hix⟩ : ∃ z, ixC ms ds x.1 = z := ⟨_, rfl⟩
  obtain ⟨iy, hiy⟩ : ∃ z, ixC ms ds y.1 = z := ⟨_, rfl⟩
  rw [hix] at HIX
  rw [hiy] at HIY
  rw [hix, hiy] at hne ⊢
  rw [hWA] at hW1
  unfold lkV
  unfold clV at HIX HIY
  obtain ⟨z0, z1, z2, z3, z4, z5⟩ := HX.out W1 (Kept.refl _)
  rw [hxb, hW1] at z0 z1 z2 z3 z4 z5
  clear h hE kA kB k1 HIN hix hiy hWA
  go_enter Tryz.func78, Tryz.ntmps78
  go_wp2_with fail
  rw [← hW1, ← hyb, ← hxb]
  clear hW1 hxb hyb z0 z1 z2 z3 z4 z5
  refine (HIX.out _ (Kept.refl _)).mono ?_
  rintro e w2 ⟨rfl, k2⟩
  have HK2 := hidMk k2
  clear k2
  obtain ⟨z0, z1, z2, z3, z4, z5⟩ := HY.out w2 HK2.out
  go_wp2_with fail
  clear z0 z1 z2 z3 z4 z5
  refine (HIY.out _ HK2.out).mono ?_
  rintro e w3 ⟨rfl, k3⟩
  have HK3 := hidMk (HK2.out.trans k3)
  clear k3
  by_cases hlt : ix < iy
  · go_wp2_with fail
    go_ret
    exact ⟨by simp [hlt], HK1.out.trans HK3.out⟩
  · have hlt1 : iy ≤ ix := by omega
    have hne1 : (ix == iy) = false := by simpa using hne
    go_wp2_with fail
    go_ret
    exact ⟨by first | (simp; done) | (simp; omega), HK1.out.trans HK3.out⟩
set_option maxHeartbeats 8000000 in
set_option maxRecDepth 100000 in
theorem ref14_Owner (hE : RE W0 r q ds ms rt) (h : RQ W0 r q ds y4 y5 pp X) (a : Option Addr) (c : Nat) (l : List Lk) (n : Int) (hs : Lq X a l) (hl : l.length ≤ 1000) (hra : ∀ ad, a = some ad → ad.block ≠ r) :
    Calls Tryz.prog 35 #[.pointer (some ⟨r, 0, none⟩), .slice a l.length c, .int .i64 n] X fun e w' => e = .returned (.string (ownI ms ds n l)) ∧ RR W0 r q ds y4 y5 pp X w' := by
  have HL := hidMk hs
  have HRA := hidMk hra
  have HR0 := hidMk (show RR W0 r q ds y4 y5 pp X X from h.rr (Kept.refl _))
  have HIN := hidMk (show ∀ Y p1 (y : Cl), RQ W0 r q ds y4 y5 p1 Y → Calls Tryz.prog 77 #[.pointer (some ⟨r, 0, none⟩), clV y, .int .i64 n] Y fun e w' => e = .returned (.bool (decide (n ∈ undC ms ds y))) ∧ RR W0 r q ds y4 y5 p1 Y w' from fun Y p1 y hy => by
    rw [clV_at]
    refine (r7_Inside hE hy y.1 (clT y) n).mono ?_
    rintro e w' ⟨b, rfl, hb, hr⟩
    refine ⟨?_, hr⟩
    rw [show b = decide (n ∈ undC ms ds y) from bool_is (hb.trans (mem_und hE.ct).symm)])
  obtain ⟨z, hz⟩ : ∃ z, ownI ms ds n l = z := ⟨_, rfl⟩
  rw [hz]
  have HZ := hidMk hz
  clear h hs hz hra hE
  unfold clV at HIN
  go_enter Tryz.func35, Tryz.ntmps35
  go_wp2_with fail
  go_loopg [7] (l.length + 1) (fun g i wr => ∃ k : Nat, k + g = l.length + 1 ∧ k ≤ l.length ∧ i = .int .i64 k ∧ Hid (RR W0 r q ds y4 y5 pp X wr ∧ ∀ t, t < k → ¬ n ∈ undC ms ds (lkA l t).1))
  case atStart => exact ⟨0, by omega, by omega, rfl, hidMk ⟨HR0.out, fun t ht => absurd ht (by omega)⟩⟩
  case round =>
    obtain ⟨k, hkg, hkl, rfl, HS⟩ := hrel
    have HKG := hidMk hkg
    clear hkg
    by_cases hk : k < l.length
    · have hk' : (k : Int) < (l.length : Int) := by omega
      obtain ⟨b, o, rfl⟩ := HL.out.form (by omega)
      have hbr : b ≠ r := HRA.out _ rfl
      obtain ⟨e0, e1, e2, e3, e4, e5⟩ := (HL.out.chg HS.out.1.2 (fun _ ad e => HRA.out ad e)).at hk
      obtain ⟨⟨p1, hq1, n1⟩, c1⟩ := HS.out.1
      have HI := hidMk (HIN.out wr p1 (lkA l k).1 hq1)
      have HRD := hidMk (show ∀ Z, RR W0 r q ds y4 y5 p1 wr Z → RR W0 r q ds y4 y5 pp X Z from fun Z hZ => RR.trans hq1 n1 c1 hZ)
      by_cases hin : n ∈ undC ms ds (lkA l k).1
      · rw [show decide (n ∈ undC ms ds (lkA l k).1) = true from decide_eq_true hin] at HI
        have HF := hidMk (show z = (lkA l k).2 from by rw [← HZ.out]; exact ownI_at hk hin HS.out.2)
        obtain ⟨y, hy⟩ : ∃ y, lkA l k = y := ⟨_, rfl⟩
        rw [hy] at e0 e1 e2 e3 e4 e5 HI HF
        clear hin hy hq1 n1 c1 HS
        go_wp2_with fail
        refine HI.out.mono ?_
        rintro e w4 ⟨rfl, hr4⟩
        have d5 := hr4.2.cellp e5 hbr
        have HR4 := hidMk (HRD.out w4 hr4)
        clear hr4 e0 e1 e2 e3 e4 e5
        go_wp2_with fail
        go_ret
        exact ⟨by rw [HF.out]; rfl, HR4.out⟩
      · rw [show decide (n ∈ undC ms ds (lkA l k).1) = false from decide_eq_false hin] at HI
        have HJ := hidMk (show ∀ t, t < k + 1 → ¬ n ∈ undC ms ds (lkA l t).1 from fun t ht => by
          by_cases e : t = k
          · subst e; exact hin
          · exact HS.out.2 t (by omega))
        obtain ⟨y, hy⟩ : ∃ y, lkA l k = y := ⟨_, rfl⟩
        rw [hy] at e0 e1 e2 e3 e4 e5 HI
        clear hin hy hq1 n1 c1 HS
        go_wp2_with fail
        refine HI.out.mono ?_
        rintro e w4 ⟨rfl, hr4⟩
        have HR4 := hidMk (HRD.out w4 hr4)
        clear hr4 e0 e1 e2 e3 e4 e5
        go_wp2_with fail
        go_roundg (gk - 1)
        case measure => have := HKG.out; omega
        case rel => exact ⟨k + 1, by have := HKG.out; omega, by omega, by go_num, hidMk ⟨HR4.out, HJ.out⟩⟩
    · have hk' : ¬ ((k : Int) < (l.length : Int)) := by omega
      have HF := hidMk (show z = ⟨#[]⟩ from by rw [← HZ.out]; exact ownI_no (fun t ht => HS.out.2 t (by omega)))
      go_wp2_with fail
      go_ret
      exact ⟨by rw [HF.out]; rfl, HS.out.1⟩
end

theorem anyL_no {l : List Lk} {g : Lk → Bool} (h : ∀ t, t < l.length → g (lkA l t) = false) : l.any g = false := by
  rw [List.any_eq_false]
  intro y hy
  obtain ⟨i, hi, rfl⟩ := List.getElem_of_mem hy
  have := h i hi
  rw [lkA_get hi] at this
  simp [this]
theorem anyL_hit {l : List Lk} {g : Lk → Bool} {k : Nat} (hk : k < l.length) (h : g (lkA l k) = true) : l.any g = true := by
  rw [List.any_eq_true]
  exact ⟨lkA l k, by rw [lkA_get hk]; exact List.getElem_mem hk, h⟩
section
variable {W0 X : World} {r q : Nat} {ds : List Dm} {ms : List ByteArray} {rt : Nat → Nat} {y4 y5 : Value} {pp : Option (Nat × Nat)}
set_option maxHeartbeats 8000000 in
set_option maxRecDepth 100000 in
theorem ref14_Within (hE : RE W0 r q ds ms rt) (h : RQ W0 r q ds y4 y5 pp X) (a : Option Addr) (c : Nat) (l : List Lk) (x : Cl) (u : ByteArray) (hs : Lq X a l) (hl : l.length ≤ 1000) (hra : ∀ ad, a = some ad → ad.block ≠ r) :
    Calls Tryz.prog 37 #[.pointer (some ⟨r, 0, none⟩), .slice a l.length c, clV x, .string u] X fun e w' => e = .returned (.bool (l.any fun y => wiP ms ds x u y)) ∧ RR W0 r q ds y4 y5 pp X w' := by
  obtain ⟨cb, hcb⟩ : ∃ x, x = X.heap.size := ⟨_, rfl⟩
  obtain ⟨W1, hW1⟩ : ∃ V, V = X.alloc (.cells #[.int .i64 x.1, .int .i64 x.2.1, .int .i64 x.2.2.1, .int .i64 x.2.2.2.1, .int .i64 x.2.2.2.2] 29) := ⟨_, rfl⟩
  have k1 : Kept X W1 := by rw [hW1]; exact (Kept.refl X).alloc _
  have hcr : cb ≠ r := by have := h.lt; omega
  have HB := hidMk (show ∀ Y, Chg (fun j => j = r) W1 Y → Y.cell? ⟨cb, 0, none⟩ = some (.int .i64 x.1) ∧ Y.cell? ⟨cb, 1, none⟩ = some (.int .i64 x.2.1) ∧ Y.cell? ⟨cb, 2, none⟩ = some (.int .i64 x.2.2.1) ∧ Y.cell? ⟨cb, 3, none⟩ = some (.int .i64 x.2.2.2.1) ∧ Y.cell? ⟨cb, 4, none⟩ = some (.int .i64 x.2.2.2.2) from fun Y k => by
    obtain ⟨g0, g1, g2, g3, g4⟩ := boxC_at X x 29 hcb W1 (by rw [← hW1]; exact Kept.refl _)
    exact ⟨k.cellp g0 hcr, k.cellp g1 hcr, k.cellp g2 hcr, k.cellp g3 hcr, k.cellp g4 hcr⟩)
  have HL := hidMk (hs.kept k1)
  have HRA := hidMk hra
  have HR0 := hidMk (show RR W0 r q ds y4 y5 pp X W1 from h.rr k1)
  have HWN := hidMk (show ∀ Y p1 (y : Cl), RQ W0 r q ds y4 y5 p1 Y → Calls Tryz.prog 61 #[.pointer (some ⟨r, 0, none⟩), clV x, clV y] Y (WinP W0 r q ds y4 y5 p1 Y (inC ms ds x.1 (clT x) y.1 (clT y))) from fun Y p1 y hy => by rw [clV_at, clV_at]; exact r7_Within hE hy x.1 (clT x) y.1 (clT y))
  obtain ⟨z, hz⟩ : ∃ z, (l.any fun y => wiP ms ds x u y) = z := ⟨_, rfl⟩
  rw [hz]
  have HZ := hidMk hz
  clear h hs k1 hz hra hE
  unfold clV
  go_enter Tryz.func37, Tryz.ntmps37
  go_wp2_with fail
  rw [← hW1, ← hcb]
  clear hW1 hcb
  go_loopg [9] (l.length + 1) (fun g i wr => ∃ k : Nat, k + g = l.length + 1 ∧ k ≤ l.length ∧ i = .int .i64 k ∧ Hid (RR W0 r q ds y4 y5 pp X wr ∧ Chg (fun j => j = r) W1 wr ∧ ∀ t, t < k → wiP ms ds x u (lkA l t) = false))
  case atStart => exact ⟨0, by omega, by omega, rfl, hidMk ⟨HR0.out, Chg.refl _ _, fun t ht => absurd ht (by omega)⟩⟩
  case round =>
    obtain ⟨k, hkg, hkl, rfl, HS⟩ := hrel
    have HKG := hidMk hkg
    clear hkg
    by_cases hk : k < l.length
    · have hk' : (k : Int) < (l.length : Int) := by omega
      obtain ⟨b, o, rfl⟩ := HL.out.form (by omega)
      have hbr : b ≠ r := HRA.out _ rfl
      obtain ⟨e0, e1, e2, e3, e4, e5⟩ := (HL.out.chg HS.out.2.1 (fun _ ad e => HRA.out ad e)).at hk
      obtain ⟨x0, x1, x2, x3, x4⟩ := HB.out wr HS.out.2.1
      obtain ⟨⟨p1, hq1, n1⟩, c1⟩ := HS.out.1
      obtain ⟨y, hy⟩ : ∃ y, lkA l k = y := ⟨_, rfl⟩
      rw [hy] at e0 e1 e2 e3 e4 e5
      have hbl : b < wr.heap.size := cell_lt e0
      have hcl : cb < wr.heap.size := cell_lt x0
      have HWI := hidMk (show ∀ Y, Kept wr Y → _ from fun Y hY => HWN.out Y p1 y.1 (hq1.keep hY))
      have HRD := hidMk (show ∀ Y Z, Kept wr Y → RR W0 r q ds y4 y5 p1 Y Z → RR W0 r q ds y4 y5 pp X Z ∧ Chg (fun j => j = r) W1 Z from fun Y Z hY hZ => ⟨RR.trans (hq1.keep hY) n1 (c1.trans (Chg.of_kept hY)) hZ, (HS.out.2.1.trans (Chg.of_kept hY)).trans hZ.2⟩)
      have HRK := hidMk (show ∀ Y, Kept wr Y → RR W0 r q ds y4 y5 pp X Y ∧ Chg (fun j => j = r) W1 Y from fun Y hY => ⟨rr_keep HS.out.1 hY, HS.out.2.1.trans (Chg.of_kept hY)⟩)
      have HSV := hidMk (show ∀ Y Z : World, Kept wr Y → Chg (fun j => j = r) Y Z → (fun w' : World => w'.cell? ⟨cb, 0, none⟩ = some (.int .i64 x.1) ∧ w'.cell? ⟨cb, 1, none⟩ = some (.int .i64 x.2.1) ∧ w'.cell? ⟨cb, 2, none⟩ = some (.int .i64 x.2.2.1) ∧ w'.cell? ⟨cb, 3, none⟩ = some (.int .i64 x.2.2.2.1) ∧ w'.cell? ⟨cb, 4, none⟩ = some (.int .i64 x.2.2.2.2) ∧ w'.cell? ⟨b, o + k * 6, none⟩ = some (.int .i64 y.1.1) ∧ w'.cell? ⟨b, o + k * 6 + 1, none⟩ = some (.int .i64 y.1.2.1) ∧ w'.cell? ⟨b, o + k * 6 + 2, none⟩ = some (.int .i64 y.1.2.2.1) ∧ w'.cell? ⟨b, o + k * 6 + 3, none⟩ = some (.int .i64 y.1.2.2.2.1) ∧ w'.cell? ⟨b, o + k * 6 + 4, none⟩ = some (.int .i64 y.1.2.2.2.2) ∧ w'.cell? ⟨b, o + k * 6 + 5, none⟩ = some (.string y.2)) Z from fun Y Z hY hZ => ⟨hZ.cellp (hY.cellp x0) hcr, hZ.cellp (hY.cellp x1) hcr, hZ.cellp (hY.cellp x2) hcr, hZ.cellp (hY.cellp x3) hcr, hZ.cellp (hY.cellp x4) hcr, hZ.cellp (hY.cellp e0) hbr, hZ.cellp (hY.cellp e1) hbr, hZ.cellp (hY.cellp e2) hbr, hZ.cellp (hY.cellp e3) hbr, hZ.cellp (hY.cellp e4) hbr, hZ.cellp (hY.cellp e5) hbr⟩)
      have HJN := hidMk (show wiP ms ds x u y = false → ∀ t, t < k + 1 → wiP ms ds x u (lkA l t) = false from fun hf t ht => by
        by_cases e : t = k
        · subst e; rw [hy]; exact hf
        · exact HS.out.2.2 t (by omega))
      unfold clV at HWI
      by_cases hus : y.2 = u
      · have HJ := hidMk (HJN.out (by unfold wiP; simp [hus]))
        have hu1 : (y.2.toList == u.toList) = true := by rw [hus]; simp
        clear hy c1 n1 hq1 HS hus
        go_wp2_with fail
        go_quiet (fail)
        go_wp2_with fail
        go_roundg (gk - 1)
        case measure => have := HKG.out; omega
        case rel => exact ⟨k + 1, by have := HKG.out; omega, by omega, by go_num, hidMk ⟨(HRK.out _ ((Kept.refl _).drewN _)).1, (HRK.out _ ((Kept.refl _).drewN _)).2, HJ.out⟩⟩
      have hu1 := bytes_neD hus
      by_cases hw : wiC ms ds x y.1 = true
      · have HF := hidMk (show z = true from by rw [← HZ.out]; exact anyL_hit hk (by rw [hy]; unfold wiP; simp [hus, hw]))
        have HWP := hidMk (wi_iff.1 hw)
        clear hy hw c1 n1 hq1 HS hus
        go_wp2_with fail
        go_region_held3 (fun w' : World => w'.cell? ⟨cb, 0, none⟩ = some (.int .i64 x.1) ∧ w'.cell? ⟨cb, 1, none⟩ = some (.int .i64 x.2.1) ∧ w'.cell? ⟨cb, 2, none⟩ = some (.int .i64 x.2.2.1) ∧ w'.cell? ⟨cb, 3, none⟩ = some (.int .i64 x.2.2.2.1) ∧ w'.cell? ⟨cb, 4, none⟩ = some (.int .i64 x.2.2.2.2) ∧ w'.cell? ⟨b, o + k * 6, none⟩ = some (.int .i64 y.1.1) ∧ w'.cell? ⟨b, o + k * 6 + 1, none⟩ = some (.int .i64 y.1.2.1) ∧ w'.cell? ⟨b, o + k * 6 + 2, none⟩ = some (.int .i64 y.1.2.2.1) ∧ w'.cell? ⟨b, o + k * 6 + 3, none⟩ = some (.int .i64 y.1.2.2.2.1) ∧ w'.cell? ⟨b, o + k * 6 + 4, none⟩ = some (.int .i64 y.1.2.2.2.2) ∧ w'.cell? ⟨b, o + k * 6 + 5, none⟩ = some (.string y.2))
          (first | assumption | (refine ⟨Kept.cellp ?_ x0, Kept.cellp ?_ x1, Kept.cellp ?_ x2, Kept.cellp ?_ x3, Kept.cellp ?_ x4, Kept.cellp ?_ e0, Kept.cellp ?_ e1, Kept.cellp ?_ e2, Kept.cellp ?_ e3, Kept.cellp ?_ e4, Kept.cellp ?_ e5⟩ <;> ((repeat (first | (with_reducible exact Kept.refl _) | (with_reducible refine Kept.alloc ?_ _) | (with_reducible refine Kept.drew ?_) | (with_reducible refine Kept.drewN ?_ _) | (with_reducible refine Kept.trans ?_ (by assumption)))); done)))
          ((go_at_call 61; refine (HWI.out _ (by (repeat (first | (with_reducible exact Kept.refl _) | (with_reducible refine Kept.alloc ?_ _) | (with_reducible refine Kept.drew ?_) | (with_reducible refine Kept.drewN ?_ _) | (with_reducible refine Kept.trans ?_ (by assumption)))))).mono ?_; rintro e w4 ⟨bw, rfl, hbw, hrr⟩; have sv : (fun w' : World => w'.cell? ⟨cb, 0, none⟩ = some (.int .i64 x.1) ∧ w'.cell? ⟨cb, 1, none⟩ = some (.int .i64 x.2.1) ∧ w'.cell? ⟨cb, 2, none⟩ = some (.int .i64 x.2.2.1) ∧ w'.cell? ⟨cb, 3, none⟩ = some (.int .i64 x.2.2.2.1) ∧ w'.cell? ⟨cb, 4, none⟩ = some (.int .i64 x.2.2.2.2) ∧ w'.cell? ⟨b, o + k * 6, none⟩ = some (.int .i64 y.1.1) ∧ w'.cell? ⟨b, o + k * 6 + 1, none⟩ = some (.int .i64 y.1.2.1) ∧ w'.cell? ⟨b, o + k * 6 + 2, none⟩ = some (.int .i64 y.1.2.2.1) ∧ w'.cell? ⟨b, o + k * 6 + 3, none⟩ = some (.int .i64 y.1.2.2.2.1) ∧ w'.cell? ⟨b, o + k * 6 + 4, none⟩ = some (.int .i64 y.1.2.2.2.2) ∧ w'.cell? ⟨b, o + k * 6 + 5, none⟩ = some (.string y.2)) w4 := HSV.out _ _ (by (repeat (first | (with_reducible exact Kept.refl _) | (with_reducible refine Kept.alloc ?_ _) | (with_reducible refine Kept.drew ?_) | (with_reducible refine Kept.drewN ?_ _) | (with_reducible refine Kept.trans ?_ (by assumption))))) hrr.2; have hbt : bw = true := hbw.2 HWP.out; subst hbt; have HRR := hidMk (HRD.out _ _ (by (repeat (first | (with_reducible exact Kept.refl _) | (with_reducible refine Kept.alloc ?_ _) | (with_reducible refine Kept.drew ?_) | (with_reducible refine Kept.drewN ?_ _) | (with_reducible refine Kept.trans ?_ (by assumption))))) hrr); clear hrr hbw))
        all_goals (try go_wp2_with fail)
        all_goals
          go_ret
          exact ⟨by rw [HF.out]; rfl, HRR.out.1⟩
      · have HJ := hidMk (HJN.out (by unfold wiP; simp [hw]))
        have HWP := hidMk (show ¬ inC ms ds x.1 (clT x) y.1.1 (clT y.1) from fun e => hw (wi_iff.2 e))
        clear hy hw c1 n1 hq1 HS hus
        go_wp2_with fail
        go_region_held3 (fun w' : World => w'.cell? ⟨cb, 0, none⟩ = some (.int .i64 x.1) ∧ w'.cell? ⟨cb, 1, none⟩ = some (.int .i64 x.2.1) ∧ w'.cell? ⟨cb, 2, none⟩ = some (.int .i64 x.2.2.1) ∧ w'.cell? ⟨cb, 3, none⟩ = some (.int .i64 x.2.2.2.1) ∧ w'.cell? ⟨cb, 4, none⟩ = some (.int .i64 x.2.2.2.2) ∧ w'.cell? ⟨b, o + k * 6, none⟩ = some (.int .i64 y.1.1) ∧ w'.cell? ⟨b, o + k * 6 + 1, none⟩ = some (.int .i64 y.1.2.1) ∧ w'.cell? ⟨b, o + k * 6 + 2, none⟩ = some (.int .i64 y.1.2.2.1) ∧ w'.cell? ⟨b, o + k * 6 + 3, none⟩ = some (.int .i64 y.1.2.2.2.1) ∧ w'.cell? ⟨b, o + k * 6 + 4, none⟩ = some (.int .i64 y.1.2.2.2.2) ∧ w'.cell? ⟨b, o + k * 6 + 5, none⟩ = some (.string y.2))
          (first | assumption | (refine ⟨Kept.cellp ?_ x0, Kept.cellp ?_ x1, Kept.cellp ?_ x2, Kept.cellp ?_ x3, Kept.cellp ?_ x4, Kept.cellp ?_ e0, Kept.cellp ?_ e1, Kept.cellp ?_ e2, Kept.cellp ?_ e3, Kept.cellp ?_ e4, Kept.cellp ?_ e5⟩ <;> ((repeat (first | (with_reducible exact Kept.refl _) | (with_reducible refine Kept.alloc ?_ _) | (with_reducible refine Kept.drew ?_) | (with_reducible refine Kept.drewN ?_ _) | (with_reducible refine Kept.trans ?_ (by assumption)))); done)))
          ((go_at_call 61; refine (HWI.out _ (by (repeat (first | (with_reducible exact Kept.refl _) | (with_reducible refine Kept.alloc ?_ _) | (with_reducible refine Kept.drew ?_) | (with_reducible refine Kept.drewN ?_ _) | (with_reducible refine Kept.trans ?_ (by assumption)))))).mono ?_; rintro e w4 ⟨bw, rfl, hbw, hrr⟩; have sv : (fun w' : World => w'.cell? ⟨cb, 0, none⟩ = some (.int .i64 x.1) ∧ w'.cell? ⟨cb, 1, none⟩ = some (.int .i64 x.2.1) ∧ w'.cell? ⟨cb, 2, none⟩ = some (.int .i64 x.2.2.1) ∧ w'.cell? ⟨cb, 3, none⟩ = some (.int .i64 x.2.2.2.1) ∧ w'.cell? ⟨cb, 4, none⟩ = some (.int .i64 x.2.2.2.2) ∧ w'.cell? ⟨b, o + k * 6, none⟩ = some (.int .i64 y.1.1) ∧ w'.cell? ⟨b, o + k * 6 + 1, none⟩ = some (.int .i64 y.1.2.1) ∧ w'.cell? ⟨b, o + k * 6 + 2, none⟩ = some (.int .i64 y.1.2.2.1) ∧ w'.cell? ⟨b, o + k * 6 + 3, none⟩ = some (.int .i64 y.1.2.2.2.1) ∧ w'.cell? ⟨b, o + k * 6 + 4, none⟩ = some (.int .i64 y.1.2.2.2.2) ∧ w'.cell? ⟨b, o + k * 6 + 5, none⟩ = some (.string y.2)) w4 := HSV.out _ _ (by (repeat (first | (with_reducible exact Kept.refl _) | (with_reducible refine Kept.alloc ?_ _) | (with_reducible refine Kept.drew ?_) | (with_reducible refine Kept.drewN ?_ _) | (with_reducible refine Kept.trans ?_ (by assumption))))) hrr.2; have hbt : bw = false := (by cases bw with | false => rfl | true => exact absurd (hbw.1 rfl) HWP.out); subst hbt; have HRR := hidMk (HRD.out _ _ (by (repeat (first | (with_reducible exact Kept.refl _) | (with_reducible refine Kept.alloc ?_ _) | (with_reducible refine Kept.drew ?_) | (with_reducible refine Kept.drewN ?_ _) | (with_reducible refine Kept.trans ?_ (by assumption))))) hrr); clear hrr hbw))
        all_goals (try go_wp2_with fail)
        all_goals
          go_roundg (gk - 1)
          case measure => have := HKG.out; omega
          case rel => exact ⟨k + 1, by have := HKG.out; omega, by omega, by go_num, hidMk ⟨HRR.out.1, HRR.out.2, HJ.out⟩⟩
    · have hke : k = l.length := by omega
      have HF := hidMk (show z = false from by rw [← HZ.out]; exact anyL_no (fun t ht => HS.out.2.2 t (by omega)))
      have hk' : ¬ ((k : Int) < (l.length : Int)) := by omega
      go_wp2_with fail
      go_ret
      exact ⟨by rw [HF.out]; rfl, HS.out.1⟩
end
theorem set8_loadL {w : World} {g : Nat} {v : Value} (c0 : w.cell? ⟨g, 0, none⟩ = some v) : (loadVar 59 ⟨g, 0, none⟩).run Tryz.prog w = .ok (.agg #[v]) w := by
  have hl := run_loadCells_list (P := Tryz.prog) w ⟨g, 0, none⟩ [v] (fun j u hu => by
    have hadd : (⟨g, 0, none⟩ : Addr).add j = ⟨g, j, none⟩ := by unfold Addr.add; split <;> simp_all
    rw [hadd]
    have : j = 0 := by
      have := (List.getElem?_eq_some_iff.1 hu).1
      simp at this
      omega
    subst this
    simp_all)
  have hi : (Tryz.prog.info? 59).map (·.size) = some 1 := by kernel_rfl
  obtain ⟨i, h1, h2⟩ := Option.map_eq_some_iff.1 hi
  simp only [List.length_cons, List.length_nil, Nat.reduceAdd] at hl
  simp [loadVar, Sem.run_bind, Tryz.isAgg59, sizeOf, typeInfo, h1, h2, hl]
def foB (ms : List ByteArray) (ds : List Dm) (l : List Lk) (u : ByteArray) (i : Int) : Bool := decide (ownI ms ds i l ≠ ⟨#[]⟩ ∧ ownI ms ds i l ≠ u)
def foK (ms : List ByteArray) (ds : List Dm) (l : List Lk) (u : ByteArray) (k : Nat) : List Int := ((List.range k).filter fun (i : Nat) => foB ms ds l u (i : Int)).map fun (i : Nat) => (i : Int)
theorem foK_succ (ms : List ByteArray) (ds : List Dm) (l : List Lk) (u : ByteArray) (k : Nat) : foK ms ds l u (k + 1) = if foB ms ds l u (k : Int) = true then foK ms ds l u k ++ [(k : Int)] else foK ms ds l u k := by
  unfold foK
  rw [List.range_succ, List.filter_append, List.map_append]
  by_cases h : foB ms ds l u (k : Int) = true
  · rw [if_pos h]; simp [h]
  · rw [if_neg h]; simp [h]
theorem foK_len (ms : List ByteArray) (ds : List Dm) (l : List Lk) (u : ByteArray) (k : Nat) : (foK ms ds l u k).length ≤ k := by
  unfold foK
  rw [List.length_map]
  exact Nat.le_trans (List.length_filter_le _ _) (by simp)
section
variable {W0 X : World} {r q : Nat} {ds : List Dm} {ms : List ByteArray} {rt : Nat → Nat} {y4 y5 : Value} {pp : Option (Nat × Nat)}
structure Rf (W0 X : World) (r q : Nat) (ds : List Dm) (y4 y5 : Value) (B H N0 rs : Nat) (va : Option Addr) (vc : Nat) (acc : List Int) (wr : World) : Prop where
  rq : RQ W0 r q ds y4 y5 (some (B, H)) wr
  ch : Chg (fun j => j = r) X wr
  oc : wr.cell? ⟨rs + 1, 0, none⟩ = some (.slice va acc.length vc)
  of : wr.frozen? ⟨rs + 1, 0, none⟩ = false
  rc : wr.cell? ⟨rs, 0, none⟩ = some (.slice none 0 0)
  rf : wr.frozen? ⟨rs, 0, none⟩ = false
  own : OwnI wr N0 (.slice va acc.length vc) acc
  n0 : N0 ≤ wr.heap.size
theorem Rf.rr {B H N0 rs : Nat} {va : Option Addr} {vc : Nat} {acc : List Int} {wr Y Z : World} (h : Rf W0 X r q ds y4 y5 B H N0 rs va vc acc wr) (hr : r < rs) (hN : rs + 1 < N0) (k : Kept wr Y) (h2 : RR W0 r q ds y4 y5 (some (B, H)) Y Z) : Rf W0 X r q ds y4 y5 B H N0 rs va vc acc Z := by
  obtain ⟨⟨p2, h3, n2⟩, c2⟩ := h2
  obtain rfl := n2.same
  have c3 : Chg (fun j => j = r) wr Z := (Chg.of_kept k).trans c2
  have e1 : ¬ (rs + 1 = r) := by omega
  have e2 : ¬ (rs = r) := by omega
  exact ⟨h3, h.ch.trans c3, c3.cellp h.oc e1, (c3.frozen (p := ⟨rs + 1, 0, none⟩) (cell_lt h.oc) e1).trans h.of, c3.cellp h.rc e2, (c3.frozen (p := ⟨rs, 0, none⟩) (cell_lt h.rc) e2).trans h.rf, h.own.chg c3 (fun g e f => by have := (h.own.lt g e).1; omega), Nat.le_trans h.n0 c3.size⟩
theorem Rf.keep {B H N0 rs : Nat} {va : Option Addr} {vc : Nat} {acc : List Int} {wr Y : World} (h : Rf W0 X r q ds y4 y5 B H N0 rs va vc acc wr) (hr : r < rs) (hN : rs + 1 < N0) (k : Kept wr Y) : Rf W0 X r q ds y4 y5 B H N0 rs va vc acc Y := h.rr hr hN (Kept.refl _) (h.rq.rr k)
theorem Rf.push {B H N0 rs : Nat} {va va' : Option Addr} {vc vc' n : Nat} {acc acc' : List Int} {wr Y Z : World} (h : Rf W0 X r q ds y4 y5 B H N0 rs va vc acc wr) (hW : W0.heap.size ≤ r) (hr : r < rs) (hN : rs + 1 < N0) (hX : X.heap.size ≤ rs) (hB : ¬ (B ≤ rs + 1 ∧ rs + 1 < H)) (hH : H ≤ N0) (k : Kept wr Y) (ho : OwnI Z N0 (.slice va' acc'.length vc') acc') (hc : Chg (fun j => (Value.slice va acc.length vc).ownBlock = some j) Y Z) (hn : n = acc'.length) : Rf W0 X r q ds y4 y5 B H N0 rs va' vc' acc' (Z.setCell ⟨rs + 1, 0, none⟩ (.slice va' n vc')) := by
  subst hn
  have hk := h.keep hr hN k
  have hl := hk.own.lt
  have hq1 : RQ W0 r q ds y4 y5 (some (B, H)) Z := hk.rq.chg hc (fun j e => by have := (hl j e).1; omega) (fun B' H' e j f g => by cases e; have := (hl j f).1; omega)
  have c2 : Chg (fun j => j = rs + 1) Z (Z.setCell ⟨rs + 1, 0, none⟩ (.slice va' acc'.length vc')) := chg_set Z (rs + 1) 0 _
  have e1 : ¬ (Value.slice va acc.length vc).ownBlock = some (rs + 1) := fun e => by have := (hl _ e).1; omega
  have e2 : ¬ (Value.slice va acc.length vc).ownBlock = some rs := fun e => by have := (hl _ e).1; omega
  have g1 := hc.cellp hk.oc e1
  have g2 := hc.cellp hk.rc e2
  have ne : ¬ (rs = rs + 1) := by omega
  refine ⟨hq1.chg c2 (fun j e => by omega) (fun B' H' e j f g => by cases e; subst f; exact hB g), ?_, World.cell?_setCell_same _ _ _ g1, ?_, c2.cellp g2 ne, ?_, ho.chg c2 (fun g e f => by have := (ho.lt g e).1; omega), ?_⟩
  · refine (hk.ch.thn hc (fun j hj e => by have := (hl j e).1; omega)).thn c2 (fun j hj e => by omega)
  · simpa using (hc.frozen (p := ⟨rs + 1, 0, none⟩) (cell_lt hk.oc) e1).trans hk.of
  · simpa using (hc.frozen (p := ⟨rs, 0, none⟩) (cell_lt hk.rc) e2).trans hk.rf
  · have := hk.n0; have := hc.size; have := c2.size; omega
set_option maxHeartbeats 8000000 in
set_option maxRecDepth 100000 in
theorem ref14_Foreign (hE : RE W0 r q ds ms rt) (h : RQ W0 r q ds y4 y5 pp X) (a : Option Addr) (c : Nat) (l : List Lk) (u : ByteArray) (hs : Lq X a l) (hl : l.length ≤ 1000) (hra : ∀ ad, a = some ad → ad.block ≠ r) (N : Nat) (hN : (N : Int) = mulK (fun k => leas ds k) ms.length 4) (hN6 : N ≤ 1000) :
    Calls Tryz.prog 39 #[.pointer (some ⟨r, 0, none⟩), .slice a l.length c, .string u] X fun e w' => (∃ va vc, e = .returned (.agg #[.slice va (foK ms ds l u N).length vc]) ∧ Sl .i64 w' va (foK ms ds l u N).length (foK ms ds l u N) ∧ ∀ ad, va = some ad → X.heap.size ≤ ad.block) ∧ RR W0 r q ds y4 y5 pp X w' := by
  obtain ⟨rs, hrs⟩ : ∃ x, x = X.heap.size := ⟨_, rfl⟩
  obtain ⟨W1, hW1⟩ : ∃ V, V = (X.alloc (.cells #[.slice none 0 0] 59)).alloc (.cells #[.slice none 0 0] 59) := ⟨_, rfl⟩
  have k1 : Kept X W1 := by rw [hW1]; exact ((Kept.refl X).alloc _).alloc _
  have hz1 : W1.heap.size = X.heap.size + 2 := by rw [hW1]; simp
  have hrl := h.lt
  have HLV := hidMk (r7_Leaves hE (h.keep k1))
  rw [← hN] at HLV
  have HOW := hidMk (show ∀ Y p1 (n : Int), RQ W0 r q ds y4 y5 p1 Y → Chg (fun j => j = r) X Y → Calls Tryz.prog 35 #[.pointer (some ⟨r, 0, none⟩), .slice a l.length c, .int .i64 n] Y fun e w' => e = .returned (.string (ownI ms ds n l)) ∧ RR W0 r q ds y4 y5 p1 Y w' from fun Y p1 n hy hc => ref14_Owner hE hy a c l n (hs.chg hc (fun _ ad e => hra ad e)) hl hra)
  have hW0 : W0.heap.size ≤ r := by have := hE.rr; omega
  have HH := hidMk h
  have HC0 := hidMk (show W1.cell? ⟨rs, 0, none⟩ = some (.slice none 0 0) ∧ W1.cell? ⟨rs + 1, 0, none⟩ = some (.slice none 0 0) ∧ W1.frozen? ⟨rs, 0, none⟩ = false ∧ W1.frozen? ⟨rs + 1, 0, none⟩ = false from by
    rw [hW1, hrs]
    exact ⟨((Kept.refl _).alloc _).cellp (new_cell _ _ _ _ 0 _ rfl rfl), new_cell _ _ _ _ 0 _ (by simp) rfl, by simp, by simp⟩)
  have HN := hidMk hN
  have HK1 := hidMk k1
  clear h hs hra k1 hN
  go_enter Tryz.func39, Tryz.ntmps39
  go_wp2_with fail
  rw [← hW1, ← hrs]
  clear hW1
  refine HLV.out.mono ?_
  rintro e w2 ⟨rfl, ⟨B, H, hq2, n2⟩, c2⟩
  have hBH : ¬ (B ≤ rs + 1 ∧ rs + 1 < H) := fun g => by
    rcases n2.get rfl with e | e
    · have := (HH.out.hole e).2; omega
    · omega
  have hBH0 : ¬ (B ≤ rs ∧ rs < H) := fun g => by
    rcases n2.get rfl with e | e
    · have := (HH.out.hole e).2; omega
    · omega
  have hHle : H ≤ w2.heap.size := (hq2.hole rfl).2
  have hN0 : rs + 1 < w2.heap.size := by have := c2.size; omega
  have HNX := hidMk (show Nx pp (some (B, H)) X.heap.size from n2.le (by omega))
  have HG0 := hidMk (show Rf W0 X r q ds y4 y5 B H w2.heap.size rs none 0 [] w2 from by
    obtain ⟨g0, g1, g2, g3⟩ := HC0.out
    have e1 : ¬ (rs + 1 = r) := by omega
    have e2 : ¬ (rs = r) := by omega
    exact ⟨hq2, (Chg.of_kept HK1.out).trans c2, c2.cellp g1 e1, (c2.frozen (p := ⟨rs + 1, 0, none⟩) (cell_lt g1) e1).trans g3, c2.cellp g0 e2, (c2.frozen (p := ⟨rs, 0, none⟩) (cell_lt g0) e2).trans g2, ownI_nil _ _, Nat.le_refl _⟩)
  have HXR := hidMk hrs
  have hrr : r < rs := by omega
  clear hq2 n2 c2 HLV hz1 HC0 hrs hrl
  go_wp2_with fail
  go_loopg [9] N (fun g i wr => ∃ (k : Nat) (va : Option Addr) (vc : Nat), k + g = N ∧ i = .int .i64 k ∧ Hid (Rf W0 X r q ds y4 y5 B H w2.heap.size rs va vc (foK ms ds l u k) wr))
  case atStart => exact ⟨0, none, 0, by omega, rfl, hidMk (by simpa [foK] using HG0.out)⟩
  case round =>
    obtain ⟨k, va, vc, hkg, rfl, HG⟩ := hrel
    have HKG := hidMk hkg
    by_cases hk : k < N
    · have hk' : (k : Int) < (N : Int) := by omega
      have HOK := hidMk (HOW.out wr _ (k : Int) HG.out.rq HG.out.ch)
      have HSU := hidMk (foK_succ ms ds l u k)
      unfold foB at HSU
      obtain ⟨ow, how⟩ : ∃ ow, ownI ms ds (k : Int) l = ow := ⟨_, rfl⟩
      rw [how] at HOK HSU
      have hcl := foK_len ms ds l u k
      obtain ⟨acc, hacc⟩ : ∃ acc, acc = foK ms ds l u k := ⟨_, rfl⟩
      rw [← hacc] at HG HSU hcl
      clear how hkg hacc
      go_wp2_with fail
      refine HOK.out.mono ?_
      rintro e w5 ⟨rfl, hr5⟩
      have HG5 := hidMk (HG.out.rr hrr hN0 (Kept.refl _) hr5)
      clear hr5
      have o1 := HG5.out.oc
      have o2 := HG5.out.of
      have o3 : rs + 1 < w5.heap.size := cell_lt o1
      obtain ⟨A, hA⟩ : ∃ A, decide (ow ≠ ⟨#[]⟩ ∧ ow ≠ u) = A := ⟨_, rfl⟩
      rw [hA] at HSU
      cases A with
      | true =>
        rw [if_pos rfl] at HSU
        have hA := of_decide_eq_true hA
        have hw1 := emp_ne hA.1
        have hw2 := bytes_neD hA.2
        clear hA
        have hw5 := HG5.out.n0
        go_wp2_with (at_builtin; refine wpList_pushI _ rfl _ _ rfl w2.heap.size (.slice va acc.length vc) acc rfl ((HG5.out.keep hrr hN0 ((Kept.refl _).alloc _)).own) (by simp; omega) w5.heap.size (k : Int) rfl (by simp) (by omega) (w5.heap.size + 1) (by simp) ?_)
        intro g6 cap6 w6 o6 k6 _ _
        have HP := hidMk (show ∀ n, n = (acc ++ [(k : Int)]).length → Rf W0 X r q ds y4 y5 B H w2.heap.size rs (some ⟨g6, 0, none⟩) cap6 (acc ++ [(k : Int)]) (w6.setCell ⟨rs + 1, 0, none⟩ (.slice (some ⟨g6, 0, none⟩) n cap6)) from fun n hn => HG5.out.push hW0 hrr hN0 (by have := HXR.out; omega) hBH hHle ((Kept.refl _).alloc _) (by simpa using o6) k6 hn)
        have e1 : ¬ (Value.slice va acc.length vc).ownBlock = some (rs + 1) := fun e => by have := (HG5.out.own.lt _ e).1; omega
        have p1 := k6.cellp (((Kept.refl w5).alloc _).cellp o1) e1
        have p2 := (k6.frozen (p := ⟨rs + 1, 0, none⟩) (by simp; omega) e1).trans ((((Kept.refl w5).alloc _).frozen (p := ⟨rs + 1, 0, none⟩) o3).trans o2)
        have p3 : rs + 1 < w6.heap.size := cell_lt p1
        clear o6 k6 e1 o1 o2 o3
        go_wp2_with fail
        go_roundg (gk - 1)
        case measure => have := HKG.out; omega
        case rel => exact ⟨k + 1, some ⟨g6, 0, none⟩, cap6, by have := HKG.out; omega, by go_num, hidMk (by rw [HSU.out]; exact HP.out _ (by simp))⟩
      | false =>
        rw [if_neg (by decide)] at HSU
        have hA := of_decide_eq_false hA
        by_cases hwe : ow = ⟨#[]⟩
        · subst hwe
          clear hA
          go_wp2_with fail
          go_roundg (gk - 1)
          case measure => have := HKG.out; omega
          case rel => exact ⟨k + 1, va, vc, by have := HKG.out; omega, by go_num, hidMk (by rw [HSU.out]; exact HG5.out)⟩
        have hw1 := emp_ne hwe
        have hw3 : ow = u := by
          by_cases e : ow = u
          · exact e
          · exact absurd ⟨hwe, e⟩ hA
        have hw2 : (ow.toList == u.toList) = true := by rw [hw3]; simp
        clear hA hwe hw3
        go_wp2_with fail
        go_roundg (gk - 1)
        case measure => have := HKG.out; omega
        case rel => exact ⟨k + 1, va, vc, by have := HKG.out; omega, by go_num, hidMk (by rw [HSU.out]; exact HG5.out)⟩
    · have hk' : ¬ ((k : Int) < (N : Int)) := by omega
      obtain rfl : k = N := by omega
      have o1 := HG.out.oc
      have o2 := HG.out.rc
      have o3 := HG.out.rf
      have o4 : rs < wr.heap.size := cell_lt o2
      have hcl := foK_len ms ds l u k
      obtain ⟨acc, hacc⟩ : ∃ acc, acc = foK ms ds l u k := ⟨_, rfl⟩
      rw [← hacc] at HG o1 hcl
      have HAC := hidMk hacc
      clear hacc
      go_wp2_with fail
      have c7 : Chg (fun j => j = rs) wr (wr.setCell ⟨rs, 0, none⟩ (.slice va acc.length vc)) := chg_set _ _ _ _
      refine bodyPost_ret (results_cell1 rfl _ _ rs _ rfl (set8_loadL (World.cell?_setCell_same _ _ _ o2))) rfl ⟨⟨va, ⟨vc, by rw [← HAC.out]⟩, ?_, fun ad e => ?_⟩, ⟨⟨some (B, H), ?_, HNX.out⟩, ?_⟩⟩
      · rw [← HAC.out]
        obtain ⟨a7, c8, e7, hs7⟩ := HG.out.own.sl (by unfold maxLen; omega)
        cases e7
        refine hs7.chg c7 (fun hp ad e f => ?_)
        have := (HG.out.own.lt ad.block (by rw [e]; rfl)).1
        have f' : ad.block = rs := f
        omega
      · have := (HG.out.own.lt ad.block (by rw [e]; rfl)).1
        have := HXR.out
        omega
      · exact HG.out.rq.chg c7 (fun j e => by omega) (fun B' H' e j f g => by cases e; subst f; exact hBH0 g)
      · exact HG.out.ch.thn c7 (fun j hj e => by have := HXR.out; omega)
end
end Go.Proofs.YtmedgkccicbieaaGreat
