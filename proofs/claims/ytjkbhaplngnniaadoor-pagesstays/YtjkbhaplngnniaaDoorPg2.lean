/- pages: the way to a code: node, way. -/
import Derived.Test.YtjkbhaplngnniaaDoorPg1
import Derived.Test.YtjkbhaplngnniaaDoorAr14
import Derived.Test.YtjkbhaplngnniaaDoorArMath3
import Derived.Deep.RegionHeld3
import Derived.Deep.CutRange
namespace Go.Proofs.YtjkbhaplngnniaaDoor
open Go.RowKit
set_option linter.unusedSimpArgs false
set_option linter.unusedVariables false

def ndZ (nd : Int → ANd) (i : Int) : ANd := if i = 0 then zNd else nd i
theorem ndZ_ok {nd : Int → ANd} (h : ∀ i, (nd i).kids.length = 8 ∧ (nd i).vals.length = 8) (i : Int) : (ndZ nd i).kids.length = 8 ∧ (ndZ nd i).vals.length = 8 := by
  unfold ndZ; split
  · exact ⟨rfl, rfl⟩
  · exact h i
/-- The number of the node that is k steps below the root, on the way to c, of L levels. -/
def wI (nd : Int → ANd) (c root : Int) (L : Nat) : Nat → Int
  | 0 => root
  | k + 1 => (ndZ nd (wI nd c root L k)).kids.getD (dig c (L - k)).toNat 0
def WayOk (rf : Int → Nat) (nd : Int → ANd) (c root : Int) (L : Nat) : Prop := ∀ k, k < L → wI nd c root L k = 0 ∨ rf (wI nd c root L k) ≠ 0
/-- The node of the level l (from 1 on) on the way. -/
def wN (nd : Int → ANd) (c root : Int) (L l : Nat) : ANd := ndZ nd (wI nd c root L (L - l))
theorem wN_ok {nd : Int → ANd} (h : ∀ i, (nd i).kids.length = 8 ∧ (nd i).vals.length = 8) (c root : Int) (L l : Nat) : (wN nd c root L l).kids.length = 8 ∧ (wN nd c root L l).vals.length = 8 := ndZ_ok h _
section
variable {w0 w : World} {g p : Nat} {ow : Option Nat} {codes most : Int} {n : Nat} {rf : Int → Nat} {nd : Int → ANd} {M : Nat}
theorem node_rets10 {R : Ending → World → Prop} {a : Act} {w : World} (g : Nat) (L : List Value) (hL : L.length = 25) (hr : w.rangeAt g 0 L) {er : Value} (hp : a.tmps.getD 4 undef = .pointer (some ⟨g, 0, none⟩)) (hq : a.tmps.getD 5 undef = er) (hd : a.defers = [])
    (h : R (.returned (.tuple #[.agg L.toArray, er])) w) : bodyPost Tryd.prog Tryd.f50 R .ret a w := by
  subst hq
  obtain ⟨d, h1, h2⟩ := nd_row
  exact bodyPost_ret (results_cell_tmp rfl _ _ g _ hp (run_loadVar_mid w g 0 _ L d hr h1 h2 (by rw [hL]; exact nd_size))) hd h
theorem pg_node (hA : AS w0 w p ow most n rf nd M) (hG : PG w g p codes) (i : Int) (hi : i = 0 ∨ rf i ≠ 0) : Calls Tryd.prog 50 #[.pointer (some ⟨g, 0, none⟩), .int .i64 i] w fun e w' => e = .returned (.tuple #[ndV (ndZ nd i), .int .i64 0]) ∧ Kept w w' := by
  unfold ndZ
  by_cases h0 : i = 0
  · rw [if_pos h0]
    subst h0
    clear hA hG hi
    go_enter Tryd.func50, Tryd.ntmps50
    go_wp2_with (first | (refine wpl_allocN rfl rfl ?_) | (refine wpl_buildZ rfl rfl ?_) | (refine wpl_storeN rfl _ _ rfl _ _ rfl _ (by rfl) rfl (ndL_one zNd) (new_there _ _ _ _ (by rfl)) ?_))
    exact node_rets10 w.heap.size (ndL zNd) (by rfl) (World.rangeAt_setCells_same _ _ _ _ (new_there _ _ _ _ (by rfl))) rfl rfl rfl ⟨rfl, kept_setCells (Nat.le_refl _) _ _ ((Kept.refl w).alloc _)⟩
  · rw [if_neg h0]
    have hz : rf i ≠ 0 := hi.resolve_left h0
    have hkw : Kept w (w.alloc (.cells (ndL zNd).toArray 91)) := (Kept.refl w).alloc _
    have HAT := hidMk (as_At (hA.keep hkw) i)
    unfold atV atE at HAT
    rw [if_neg hz, if_neg hz] at HAT
    have hko := hA.ok.2.1 i
    have HL := hidMk (And.intro (ndL_len (nd i) hko.1 hko.2) (ndL_one (nd i)))
    have c0 := (hG.kept hkw).c0
    have hib : (i == 0) = false := by simpa using h0
    have HKW := hidMk hkw
    have HTH := hidMk (new_there w (ndL zNd) 91 25 (by rfl))
    unfold ndV at HAT ⊢
    obtain ⟨W, hW⟩ : ∃ W, W = w.alloc (.cells (ndL zNd).toArray 91) := ⟨_, rfl⟩
    rw [← hW] at HAT c0 HKW HTH
    have hsz : W.heap.size = w.heap.size + 1 := by rw [hW]; simp
    generalize ndL (nd i) = L at *
    clear hA hG hi hz hko hkw
    go_enter Tryd.func50, Tryd.ntmps50
    go_wp2_with (first | (refine wpl_allocN rfl rfl ?_; rw [← hW]; clear hW))
    refine HAT.out.mono ?_
    rintro e w1 ⟨rfl, k1⟩
    have HK1 := hidMk k1
    have HT1 := hidMk (k1.there (by omega) HTH.out)
    clear k1 HAT
    go_wp2_with (first | (refine wpl_storeN rfl _ _ rfl _ _ rfl L HL.out.1 rfl HL.out.2 HT1.out ?_))
    exact node_rets10 w.heap.size L HL.out.1 (World.rangeAt_setCells_same _ _ _ _ (by rw [HL.out.1]; exact HT1.out)) rfl rfl rfl ⟨rfl, kept_setCells (Nat.le_refl _) _ _ (HKW.out.trans HK1.out)⟩
theorem zero25 : (Tryd.prog.info? 91).map (fun i => (i.zero, i.size, i.bytes)) = some (some (.agg (ndL zNd).toArray), 25, 200) := by kernel_rfl
theorem run_make25 (m : Nat) (hm : m ≤ 60) (w : World) : (Instr.makeSlice 88 (.int .i64 m) (.int .i64 m)).run Tryd.prog w = .ok (.slice (some ⟨w.heap.size, 0, none⟩) m m) (w.alloc (.cells (madeCells (ndL zNd).toArray (m * 25)) 91)) := by
  obtain ⟨i0, hi0, hz0, hz1, hz2⟩ := info_parts zero25
  have h := run_make (P := Tryd.prog) w 88 91 i0 _ Tryd.underlying88 hi0 hz0 .i64 .i64 m m (by omega) (by omega) (by rw [hz2]; omega) (by omega)
  rw [h, hz1]
  rfl
/-- Nodes in a block of their own, one behind the other; those of D are known. -/
def WayB (W : World) (wb m : Nat) (D : Nat → Prop) (f : Nat → ANd) : Prop := (∀ i, i < m → W.there wb (i * 25) 25) ∧ ∀ i, i < m → D i → W.rangeAt wb (i * 25) (ndL (f i))
theorem WayB.kept {W Y : World} {wb m : Nat} {D : Nat → Prop} {f : Nat → ANd} (h : WayB W wb m D f) (k : Kept W Y) (hb : wb < W.heap.size) : WayB Y wb m D f :=
  ⟨fun i hi => k.there hb (h.1 i hi), fun i hi hd => k.range (h.2 i hi hd)⟩
theorem wayB_made (W : World) (m : Nat) (Z : Array Value) (hz : Z.size = 25) (f : Nat → ANd) : WayB (W.alloc (.cells (madeCells Z (m * 25)) 91)) W.heap.size m (fun _ => False) f := by
  refine ⟨fun i hi j hj => ?_, fun i hi hd => hd.elim⟩
  have hs : (madeCells Z (m * 25)).size = m * 25 := size_madeCells _ _
  have hlt : i * 25 + j < (madeCells Z (m * 25)).size := by rw [hs]; omega
  have hh := World.heap_new W (.cells (madeCells Z (m * 25)) 91)
  exact ⟨by simp only [World.cell?, hh]; simp [hlt], by simp only [World.frozen?, hh]; simp⟩
theorem WayB.put {W : World} {wb m : Nat} {D : Nat → Prop} {f : Nat → ANd} (h : WayB W wb m D f) {i : Nat} (hi : i < m) (y : ANd) (hy : (ndL y).length = 25) (D' : Nat → Prop) (f' : Nat → ANd) (hD : ∀ j, D' j → (j = i ∧ f' j = y) ∨ (j ≠ i ∧ D j ∧ f' j = f j)) (hf : ∀ j, (ndL (f j)).length = 25) : WayB (W.setCells wb (i * 25) (ndL y)) wb m D' f' := by
  refine ⟨fun j hj => there_setCells (h.1 j hj) _ _ _, fun j hj hd => ?_⟩
  rcases hD j hd with ⟨rfl, e⟩ | ⟨hne, hd', e⟩
  · rw [e]; exact World.rangeAt_setCells_same _ _ _ _ (by rw [hy]; exact h.1 j hj)
  · rw [e]; exact World.rangeAt_setCells_apart (h.2 j hj hd') _ _ _ (.inr (by rw [hf j, hy]; omega))
theorem pg_wayBad (hG : PG w g p codes) (root c : Int) (hc : ¬ (0 ≤ c ∧ c < codes)) : Calls Tryd.prog 40 #[.pointer (some ⟨g, 0, none⟩), .int .i64 root, .int .i64 c] w fun e w' => e = .returned (.tuple #[.slice none 0 0, .int .i64 17]) ∧ w' = w := by
  have c1 := hG.c1
  by_cases h : c < 0
  · clear hG
    go_enter Tryd.func40, Tryd.ntmps40
    go_wp2_with fail
    go_ret2
    exact ⟨rfl, rfl⟩
  · have h1 : codes ≤ c := by omega
    have h2 : 0 ≤ c := by omega
    clear hG hc h
    go_enter Tryd.func40, Tryd.ntmps40
    go_wp2_with fail
    go_ret2
    exact ⟨rfl, rfl⟩
def WayPost (w : World) (nd : Int → ANd) (c root : Int) (L : Nat) (e : Ending) (w' : World) : Prop :=
  ∃ wb, e = .returned (.tuple #[.slice (some ⟨wb, 0, none⟩) L L, .int .i64 0]) ∧ w.heap.size ≤ wb ∧ wb < w'.heap.size ∧ Kept w w' ∧ WayB w' wb L (fun _ => True) (fun i => wN nd c root L (i + 1))
set_option maxHeartbeats 4000000 in
set_option maxRecDepth 100000 in
theorem pg_way (hA : AS w0 w p ow most n rf nd M) (hG : PG w g p codes) (root c : Int) (h0 : 0 ≤ c) (hc : c < codes) (hw : WayOk rf nd c root (lvls codes)) : Calls Tryd.prog 40 #[.pointer (some ⟨g, 0, none⟩), .int .i64 root, .int .i64 c] w (WayPost w nd c root (lvls codes)) := by
  have hlv := lvls_le codes
  have c1 := hG.c1
  have c2 := hG.c2
  have hk2 := hG.k2
  have HA := hidMk hA
  have HG := hidMk hG
  have HW := hidMk hw
  have HKO := hidMk hA.ok.2.1
  generalize hL : lvls codes = L at *
  obtain ⟨Z, hZ⟩ : ∃ Z, Z = (ndL zNd).toArray := ⟨_, rfl⟩
  have hmk := fun W => run_make25 L (by omega) W
  rw [← hZ] at hmk
  obtain ⟨W1, hW1⟩ : ∃ W1, W1 = w.alloc (.cells (madeCells Z (L * 25)) 91) := ⟨_, rfl⟩
  have HK1 := hidMk (show Kept w W1 from by rw [hW1]; exact (Kept.refl w).alloc _)
  have HB1 := hidMk (show WayB W1 w.heap.size L (fun _ => False) (fun i => wN nd c root L (i + 1)) from by rw [hW1]; exact wayB_made w L Z (by rw [hZ]; rfl) _)
  have hs1 : W1.heap.size = w.heap.size + 1 := by rw [hW1]; simp
  have c21 := HK1.out.cellp c2
  clear hA hG hw hZ
  go_enter Tryd.func40, Tryd.ntmps40
  go_upto_region 6 with fail
  rw [← hW1]
  clear hW1
  go_cut [9, 10] from 30 to 34 (fun s t W' => s = .int .i64 root ∧ t = .int .i64 L ∧ W' = W1.drew)
  case first =>
    go_region
    all_goals (go_wp2_with fail; go_meet; exact ⟨rfl, rfl, rfl⟩)
  case rest =>
    obtain ⟨rfl, rfl, rfl⟩ := hcut
    have HK2 := hidMk (HK1.out.drew)
    have HB2 := hidMk (HB1.out.kept ((Kept.refl W1).drew) (by omega))
    obtain ⟨W2, hW2⟩ : ∃ W2, W2 = W1.drew := ⟨_, rfl⟩
    have hs2 : W2.heap.size = w.heap.size + 1 := by rw [hW2]; exact hs1
    rw [← hW2] at HK2 HB2 ⊢
    clear HK1 HB1 c21 hs1 hW2 hmk
    obtain ⟨wb, hwb⟩ : ∃ b, b = w.heap.size := ⟨_, rfl⟩
    rw [← hwb] at HB2 hs2 ⊢
    have HWB := hidMk hwb
    clear hwb
    go_wp2_with fail
    go_loopg [9, 10] (L + 1) (fun gg s t wr => ∃ k : Nat, k + 1 = gg ∧ k ≤ L ∧ Hid (s = .int .i64 (wI nd c root L (L - k))) ∧ t = .int .i64 k ∧ Hid (Kept w wr ∧ wb < wr.heap.size ∧ WayB wr wb L (fun i => k ≤ i) (fun i => wN nd c root L (i + 1))))
    case atStart => exact ⟨L, rfl, by omega, hidMk (by rw [Nat.sub_self]; rfl), rfl, hidMk ⟨HK2.out, by omega, HB2.out.1, fun i hi hd => by omega⟩⟩
    case round =>
      clear HK2 HB2 hs2
      obtain ⟨k, hkg, hkL, HS, rfl, HR⟩ := hrel
      have HKG := hidMk hkg
      have hs := HS.out
      subst hs
      by_cases hk : 1 ≤ k
      · obtain ⟨j, rfl⟩ : ∃ j, k = j + 1 := ⟨k - 1, by omega⟩
        have hk' : (1 : Int) ≤ ((j + 1 : Nat) : Int) := by omega
        have HND := hidMk (pg_node (HA.out.keep HR.out.1) (HG.out.kept HR.out.1) (wI nd c root L (L - (j + 1))) (HW.out _ (by omega)))
        have HWN := hidMk (show ndZ nd (wI nd c root L (L - (j + 1))) = wN nd c root L (j + 1) from rfl)
        rw [HWN.out] at HND
        have hyk := wN_ok HKO.out c root L (j + 1)
        have HL := hidMk (And.intro (ndL_len (wN nd c root L (j + 1)) hyk.1 hyk.2) (ndL_one (wN nd c root L (j + 1))))
        have HDG := hidMk (fun W => pages_digit c (j + 1) h0 (by omega) (by omega) (by omega) W)
        have HNX := hidMk (show (wN nd c root L (j + 1)).kids.getD (dig c (j + 1)).toNat 0 = wI nd c root L (L - j) from by
          rw [show L - j = (L - (j + 1)) + 1 by omega]
          show _ = (ndZ nd (wI nd c root L (L - (j + 1)))).kids.getD (dig c (L - (L - (j + 1)))).toNat 0
          rw [show L - (L - (j + 1)) = j + 1 by omega]
          rfl)
        have HDL := hidMk (dig_lt c (j + 1))
        have HKD := hidMk (fun (W : World) (b : Nat) (h : W.rangeAt b 0 (ndL (wN nd c root L (j + 1)))) (d : Nat) (hd : d < 8) => show W.cell? ⟨b, 1 + d, none⟩ = some (.int .i64 ((wN nd c root L (j + 1)).kids.getD d 0)) from by
          have := h (1 + d) _ (ndL_kid _ hyk.1 d hd)
          rwa [Nat.zero_add] at this)
        have HPT := hidMk (fun (W : World) (h : WayB W wb L (fun i => j + 1 ≤ i) (fun i => wN nd c root L (i + 1))) => h.put (i := j) (by omega) (wN nd c root L (j + 1)) (ndL_len _ hyk.1 hyk.2) (fun i => j ≤ i) (fun i => wN nd c root L (i + 1)) (fun i hd => by
          by_cases e : i = j
          · exact .inl ⟨e, by rw [e]⟩
          · exact .inr ⟨e, by omega, rfl⟩) (fun i => ndL_len _ (wN_ok HKO.out c root L (i + 1)).1 (wN_ok HKO.out c root L (i + 1)).2))
        unfold ndV at HND
        generalize hLW : ndL (wN nd c root L (j + 1)) = LW at *
        generalize hyN : wN nd c root L (j + 1) = y at *
        generalize wI nd c root L (L - (j + 1)) = id at *
        clear hkg HS HWN
        have hjL : (j : Int) < (L : Int) := by omega
        go_wp2_with fail
        refine HND.out.mono ?_
        rintro e w2 ⟨rfl, k2⟩
        obtain ⟨bn, hbn⟩ : ∃ g, g = w2.heap.size := ⟨_, rfl⟩
        obtain ⟨W3, hW3⟩ : ∃ W, W = (w2.alloc (.cells (ndL zNd).toArray 91)).setCells bn 0 LW := ⟨_, rfl⟩
        have ht3 : (w2.alloc (.cells (ndL zNd).toArray 91)).there bn 0 25 := by rw [hbn]; exact new_there _ _ _ _ (by rfl)
        have k3 : Kept wr W3 := by rw [hW3, hbn]; exact k2.trans (kept_setCells (Nat.le_refl _) _ _ ((Kept.refl _).alloc _))
        have hr3 : W3.rangeAt bn 0 LW := by rw [hW3]; exact World.rangeAt_setCells_same _ _ _ _ (by rw [HL.out.1]; exact ht3)
        have HT3 := hidMk ht3
        have HR3 := hidMk hr3
        have HB3 := hidMk (HR.out.2.2.kept k3 HR.out.2.1)
        have HK3 := hidMk (HR.out.1.trans k3)
        have hbw : bn ≠ wb := by have := k2.size; have := HR.out.2.1; omega
        have HBL := hidMk (show wb < W3.heap.size from Nat.lt_of_lt_of_le HR.out.2.1 k3.size)
        have HTW := hidMk (HB3.out.1 j (by omega))
        obtain ⟨W4, hW4⟩ : ∃ W, W = W3.setCells wb (j * 25) LW := ⟨_, rfl⟩
        have HB4 := hidMk (HPT.out W3 HB3.out)
        rw [← hW4] at HB4
        have HR4 := hidMk (show W4.rangeAt bn 0 LW from by rw [hW4]; exact World.rangeAt_setCells_apart HR3.out _ _ _ (.inl hbw))
        have HK4 := hidMk (show Kept w W4 ∧ wb < W4.heap.size from by rw [hW4]; exact ⟨kept_setCells (by have := HWB.out; omega) _ _ HK3.out, by rw [setCells_size]; exact HBL.out⟩)
        obtain ⟨dd, hdd⟩ : ∃ dd : Nat, dig c (j + 1) = (dd : Int) := ⟨(dig c (j + 1)).toNat, by have := HDL.out; omega⟩
        have HDG4 := hidMk (HDG.out W4)
        rw [hdd] at HDG4 HNX HDL
        have hd8 : (dd : Int) < 8 := HDL.out.2
        have hkc := HKD.out W4 bn HR4.out dd (by omega)
        rw [show ((dd : Int)).toNat = dd by omega] at HNX
        rw [HNX.out] at hkc
        clear k2 ht3 hr3 k3 HND HDG HKD HPT hdd HB3
        go_wp2_with (first | (refine wpl_allocN rfl rfl ?_; rw [← hbn]; clear hbn) | (refine wpl_storeT nd_size rfl _ _ rfl bn 0 rfl LW HL.out.1 rfl HL.out.2 HT3.out ?_; rw [← hW3]; clear hW3) | (refine wpl_loadN rfl _ rfl bn 0 rfl LW HL.out.1 HR3.out ?_) | (refine wpl_storeT nd_size rfl _ _ rfl wb (j * 25) rfl LW HL.out.1 rfl HL.out.2 HTW.out ?_; rw [← hW4]; clear hW4))
        refine HDG4.out.mono ?_
        rintro e w5 ⟨rfl, hw5⟩
        rw [hw5]
        go_wp2_with fail
        go_roundg (gk - 1)
        case measure => have := HKG.out; omega
        case rel => exact ⟨j, by have := HKG.out; omega, by omega, hidMk rfl, by go_num, hidMk ⟨HK4.out.1, HK4.out.2, HB4.out⟩⟩
      · have hk' : ¬ ((1 : Int) ≤ (k : Int)) := by omega
        have HE := hidMk (show k = 0 by omega)
        clear hkg HS
        go_wp2_with fail
        go_ret2
        have hh := HR.out
        rw [HE.out] at hh
        exact ⟨wb, rfl, by have := HWB.out; omega, hh.2.1, hh.1, hh.2.2.1, fun i hi _ => hh.2.2.2 i hi (Nat.zero_le _)⟩
end
end Go.Proofs.YtjkbhaplngnniaaDoor
