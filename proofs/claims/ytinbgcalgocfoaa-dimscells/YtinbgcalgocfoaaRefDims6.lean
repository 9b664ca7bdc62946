/- The reference's Show. -/
import Derived.Test.YtinbgcalgocfoaaRefDims5
import Derived.Laws.Concat
namespace Go.Proofs.Ytinbgcalgocfoaa
open Go.RowKit Go.Maps
set_option linter.unusedSimpArgs false
set_option linter.unusedVariables false

theorem joinB_one (sep x : ByteArray) : joinB sep [x] = x := by
  unfold joinB datas
  simp [List.intercalate, List.intersperse]
theorem inter_snoc (c x : List UInt8) : ∀ l : List (List UInt8), l ≠ [] → c.intercalate (l ++ [x]) = c.intercalate l ++ c ++ x
  | [], h => absurd rfl h
  | [y], _ => by simp [List.intercalate, List.intersperse]
  | y :: z :: r, _ => by
    have ih := inter_snoc c x (z :: r) (by simp)
    have e1 : ∀ t, c.intercalate (y :: z :: t) = y ++ c ++ c.intercalate (z :: t) := fun t => by simp [List.intercalate, List.intersperse]
    rw [List.cons_append, List.cons_append, e1, e1, ← List.cons_append, ih]
    simp [List.append_assoc]
theorem joinB_snoc (sep x : ByteArray) (l : List ByteArray) (h : l ≠ []) : joinB sep (l ++ [x]) = joinB sep l ++ sep ++ x := by
  apply ByteArray.ext
  apply Array.toList_inj.1
  rw [joinB_data]
  unfold datas
  rw [List.map_append, List.map_cons, List.map_nil, inter_snoc _ _ _ (by simpa using h)]
  simp [joinB, datas]
set_option maxHeartbeats 4000000 in
set_option maxRecDepth 100000 in
theorem ref6_Show {w : World} {p : Nat} {ds : List Dm} {rt : Nat → Nat} {ms : List ByteArray} (h : RDm w p ds rt ms) (hm : ds.length ≤ 4) (cm : Int) (at_ : Nat → Int) (hsz : ∀ k, k ≤ ds.length → (joinB slash (showL ms ds cm at_ k)).size ≤ 9223372036854775807) :
    Calls Try.prog 11 #[.pointer (some ⟨p, 0, none⟩), cellV cm at_] w fun e w' => e = .returned (.string (if rightB ms ds cm at_ then joinB slash (showL ms ds cm at_ ds.length) else ⟨#[]⟩)) ∧ Kept w w' := by
  have HRI := hidMk (show ∀ y, Kept w y → _ from fun y hy => ref6_Right (h.kept hy) hm cm at_)
  obtain ⟨⟨ma, mc, h1, h2⟩, ⟨ta, tc, h3, h4⟩, h5⟩ := h
  have HT := hidMk h4
  have H5 := hidMk h5
  have HMS := hidMk h2
  have hmb := h2.big
  have HSZ := hidMk hsz
  clear hsz
  have HBX := hidMk (box_at w 28 cm at_)
  clear h4 h5 h2
  unfold cellV at *
  cases hri : rightB ms ds cm at_ with
  | false =>
    rw [hri] at HRI
    clear hri HBX
    generalize at_ 0 = a0 at *
    generalize at_ 1 = a1 at *
    generalize at_ 2 = a2 at *
    generalize at_ 3 = a3 at *
    go_enter Try.func11, Try.ntmps11
    go_wp2_with (go_at_call 13; refine (HRI.out _ ((Kept.refl w).alloc _)).mono ?_; rintro e w2 ⟨rfl, k2⟩; have K2 := hidMk (((Kept.refl w).alloc _).trans k2); clear k2)
    go_ret
    exact ⟨rfl, K2.out⟩
  | true =>
    rw [hri] at HRI
    have hcm : 0 ≤ cm ∧ cm < ms.length := by
      simp only [rightB, placeB, Bool.and_eq_true, decide_eq_true_eq] at hri
      omega
    obtain ⟨mb, mo, rfl, hmb2, hmc⟩ := HMS.out.cells (by omega)
    have hmv := hmc cm.toNat (by omega)
    obtain ⟨mi, hmi⟩ : ∃ mi : Nat, cm = mi := ⟨cm.toNat, by omega⟩
    clear hri hmc
    subst hmi
    rw [Int.toNat_natCast] at hmv
    have HS0 := hidMk (show showL ms ds mi at_ 0 = [ms.getD mi ByteArray.empty] by simp [showL, msA])
    have HSS := hidMk (showL_succ ms ds mi at_)
    generalize ms.getD mi ByteArray.empty = mn at *
    generalize at_ 0 = a0 at *
    generalize at_ 1 = a1 at *
    generalize at_ 2 = a2 at *
    generalize at_ 3 = a3 at *
    go_enter Try.func11, Try.ntmps11
    go_wp2_with fail
    refine (HRI.out _ ((Kept.refl w).alloc _)).mono ?_
    rintro e w2 ⟨rfl, k2⟩
    have HB2 := hidMk (show ∀ k, k < 4 → w2.cell? ⟨w.heap.size, 1 + k, none⟩ = some (.int .i64 (at_ k)) from fun k hk => k2.cellp (HBX.out k hk))
    have x0 : w2.cell? ⟨w.heap.size, 0, none⟩ = some (.int .i64 mi) := k2.cellp (by simp)
    have K2 := hidMk (((Kept.refl w).alloc _).trans k2)
    have t4 := K2.out.cellp h3
    have t1' := K2.out.cellp h1
    have hmv' := K2.out.cellp hmv
    clear k2
    have hmi' : (mi : Int) < ms.length := hcm.2
    go_wp2_with fail
    go_region_held3 (fun w' => w'.cell? ⟨p, 1, none⟩ = some (.slice (some ⟨mb, mo, none⟩) ms.length mc) ∧ w'.cell? ⟨w.heap.size, 0, none⟩ = some (.int .i64 mi) ∧ w'.cell? ⟨mb, mo + mi, none⟩ = some (.string mn)) (first | go_keep | (refine ⟨?_, ?_, ?_⟩ <;> assumption)) (fail)
    refine gen_world (f := fun W => Exit.then _ _ _ _ W) (fun W => Kept w2 W) ((Kept.refl w2).drew) ?_
    rintro w3 k3
    have K3 := hidMk k3
    have s4 := k3.cellp t4
    clear k3 t1' hmv' x0
    go_wp2_with fail
    go_loopg [5, 6] ds.length (fun g v x wr => ∃ k : Nat, k + g = ds.length ∧ x = .int .i64 k ∧ v = .string (joinB slash (showL ms ds mi at_ k)) ∧ Kept w2 wr)
    case atStart => exact ⟨0, by omega, rfl, by rw [HS0.out, joinB_one], K3.out⟩
    case round =>
      obtain ⟨k, hkg, rfl, rfl, hk⟩ := hrel
      have HKG := hidMk hkg
      have HK := hidMk hk
      have u4 := hk.cellp t4
      by_cases hkd : k < ds.length
      · obtain ⟨bb, rfl, hb⟩ := HT.out (by omega)
        have kk := K2.out.trans hk
        have d1 := kk.cellp (hb k hkd)
        have d2 := hk.cellp (HB2.out k (by omega))
        have HNM := hidMk (show ∀ y, Kept wr y → Calls Try.prog 32 #[.pointer (some ⟨rt k, 0, none⟩), .int .i64 (at_ k)] y fun e w' => e = .returned (.string (nmK ds at_ k)) ∧ w' = y from fun y hy => r_Name ((H5.out k hkd).kept (kk.trans hy)) (at_ k))
        have kd' : (k : Int) < ds.length := by omega
        have k4' : (k : Int) < 4 := by omega
        have HCL := hidMk (And.intro u4 (And.intro d1 d2))
        have HJS := hidMk (show joinB slash (showL ms ds mi at_ (k + 1)) = joinB slash (showL ms ds mi at_ k) ++ slash ++ nmK ds at_ k by rw [HSS.out, joinB_snoc _ _ _ (by simp [showL])])
        have hz1 := HSZ.out (k + 1) (by omega)
        rw [HJS.out, ByteArray.size_append, ByteArray.size_append] at hz1
        have ad1 : ∀ y : World, (Op.stringOp .add (joinB slash (showL ms ds mi at_ k)) slash).run Try.prog y = .ok (.string (joinB slash (showL ms ds mi at_ k) ++ slash)) y := fun y => run_string_add_sum (P := Try.prog) (w := y) (a := _) (b := _) (h := by omega)
        have ad2 : ∀ y : World, (Op.stringOp .add (joinB slash (showL ms ds mi at_ k) ++ slash) (nmK ds at_ k)).run Try.prog y = .ok (.string (joinB slash (showL ms ds mi at_ k) ++ slash ++ nmK ds at_ k)) y := fun y => run_string_add_sum (P := Try.prog) (w := y) (a := _) (b := _) (h := by rw [ByteArray.size_append]; omega)
        clear hb hk hkg kk hz1
        generalize at_ k = x at *
        generalize rt k = q at *
        generalize nmK ds at_ k = nk at *
        generalize joinB slash (showL ms ds mi at_ k) = js at *
        unfold slash at *
        go_wp2_with fail
        go_region_held3 (fun w' => w'.cell? ⟨p, 4, none⟩ = some (.slice (some ⟨bb, 0, none⟩) ds.length tc) ∧ w'.cell? ⟨bb, k, none⟩ = some (.pointer (some ⟨q, 0, none⟩)) ∧ w'.cell? ⟨w.heap.size, 1 + k, none⟩ = some (.int .i64 x)) (first | go_keep | (refine ⟨?_, ?_, ?_⟩ <;> assumption)) ((go_at_call 32; refine (HNM.out _ ((Kept.refl wr).drew)).mono ?_; rintro e w5 ⟨rfl, hw5⟩; have k5 : Kept wr w5 := (by rw [hw5]; exact (Kept.refl wr).drew); have f1 := k5.cellp HCL.out.1; have f2 := k5.cellp HCL.out.2.1; have f3 := k5.cellp HCL.out.2.2; have K5 := hidMk k5; clear hw5 k5))
        go_wp2_with fail
        go_roundg (gk - 1)
        case measure => have := HKG.out; omega
        case rel => exact ⟨k + 1, by have := HKG.out; omega, by go_num, by rw [HJS.out], HK.out.trans K5.out⟩
      · have e : k = ds.length := by omega
        subst e
        clear hk hkg
        have kd' : ¬ ((ds.length : Int) < ds.length) := by omega
        go_wp2_with fail
        go_ret
        exact ⟨by simp only [if_true]; rfl, K2.out.trans HK.out⟩
end Go.Proofs.Ytinbgcalgocfoaa
