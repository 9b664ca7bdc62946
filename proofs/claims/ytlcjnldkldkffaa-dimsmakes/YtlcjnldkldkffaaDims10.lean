/- dims.Show. -/
import Derived.Test.YtlcjnldkldkffaaJoin1
namespace Go.Proofs.Ytlcjnldkldkffaa
open Go.RowKit Go.Maps
set_option linter.unusedSimpArgs false
set_option linter.unusedVariables false

def slash : ByteArray := ⟨#[47]⟩
def nmK (ds : List Dm) (at_ : Nat → Int) (k : Nat) : ByteArray := nmI (dmL ds k) (at_ k)
def showL (ms : List ByteArray) (ds : List Dm) (cm : Int) (at_ : Nat → Int) (k : Nat) : List ByteArray := msA ms cm.toNat :: (List.range k).map (nmK ds at_)
theorem showL_len (ms : List ByteArray) (ds : List Dm) (cm : Int) (at_ : Nat → Int) (k : Nat) : (showL ms ds cm at_ k).length = k + 1 := by simp [showL]
theorem showL_succ (ms : List ByteArray) (ds : List Dm) (cm : Int) (at_ : Nat → Int) (k : Nat) : showL ms ds cm at_ (k + 1) = showL ms ds cm at_ k ++ [nmK ds at_ k] := by simp [showL, List.range_succ]
def OwnS (w : World) (B : Nat) (v : Value) (l : List ByteArray) : Prop := w.ownsRow B 9 1 v l.length (l.map .string)
theorem one_news {w : World} {g : Nat} {y : Value} (h : w.cell? ⟨g, 0, none⟩ = some y) : ∀ (j : Nat) u, [y][j]? = some u → w.cell? ((⟨g, 0, none⟩ : Addr).add j) = some u := by
  intro j u hj
  have : j = 0 ∨ 1 ≤ j := by omega
  rcases this with rfl | h1
  · simp at hj; subst hj; simpa [Addr.add] using h
  · rw [List.getElem?_eq_none (by simpa using h1)] at hj; cases hj
theorem step_pushS {ops : Array Oper} {o : Oper} {a : Act} {K : Act → World → Prop} {Q : Exit → Act → World → Prop} {E : Prop} (w : World) (hgd : o.guard = none) (s x : Operand)
    (ho : o.op = .call { callee := .builtin .append, args := #[s, x], argTypes := #[23, 23] })
    (B : Nat) (v : Value) (l : List ByteArray) (hs : a.eval s = v) (hv : OwnS w B v l) (hB : B ≤ w.heap.size) (g : Nat) (y : ByteArray) (hx : a.eval x = .slice (some ⟨g, 0, none⟩) 1 1) (hcell : w.cell? ⟨g, 0, none⟩ = some (.string y))
    (h47 : (l.length + 1) * 16 ≤ 140737488355328) (H : Nat) (hH : w.heap.size = H)
    (h : ∀ g' cap w', OwnS w' B (.slice (some ⟨g', 0, none⟩) (l.length + 1) cap) (l ++ [y]) → Chg (fun k => v.ownBlock = some k) w w' → (v.ownBlock = some g' ∨ g' = H) → g' < w'.heap.size → K (a.put o.dst (.slice (some ⟨g', 0, none⟩) (l.length + 1) cap)) w') :
    if Region.wanted o (yielded ops a.tmps) = true then Oper.wp Try.prog o a w K Q else E := by
  obtain ⟨i0, hi0, hz0, hz1, hz2⟩ := sinfo
  refine step_append_lies w hgd s x 23 ho B 9 i0 (.string ⟨#[]⟩) 1 16 Try.underlying23 hi0 hz0 hz1 hz2 rfl (by decide) v _ _ hs hv ⟨g, 0, none⟩ 1 1 [.string y] hx rfl (one_news hcell) (by intro u hu; simp at hu; subst hu; rfl) (by omega) (by unfold maxLen; omega) (by omega) hB H hH ?_
  intro g' cap w' h2 h3 h4 h5
  refine h g' cap w' ?_ ((Chg.refl _ w).grown h3 (fun k hk => .inl hk)) h4 h5
  unfold OwnS
  simpa using h2
theorem OwnS.kept {w w' : World} {B : Nat} {v : Value} {l : List ByteArray} (h : OwnS w B v l) (g : Kept w w') : OwnS w' B v l := by
  unfold OwnS at *
  exact h.kept (row := none) ⟨g.os, g.tape, g.output, Below.size g, fun j hj _ => g.block j hj⟩ (by cases v.ownBlock <;> simp)
theorem OwnS.lt {w : World} {B : Nat} {v : Value} {l : List ByteArray} (h : OwnS w B v l) : ∀ g, v.ownBlock = some g → B ≤ g ∧ g < w.heap.size := World.ownsRow.lt h
theorem own_cap {w : World} {B : Nat} {a : Option Addr} {n c : Nat} {l : List ByteArray} (h : OwnS w B (.slice a n c) l) : l.length ≤ c := by
  unfold OwnS at h
  obtain ⟨_, ⟨h1, hz⟩ | ⟨g, cap, cur, h1, hb, hheap, hc, hcm, hsz, htk⟩⟩ := h
  · cases h1; omega
  · cases h1; omega
set_option maxHeartbeats 4000000 in
set_option maxRecDepth 100000 in
theorem dims_Show {w0 w : World} {p : Nat} {ds : List Dm} {tp : Nat → Nat} {ma : Option Addr} {mc : Nat} {ms : List ByteArray} {lv sc : Int} {dv : Value} (h : DP w0 w p ds tp ma mc ms lv sc dv) (hm : ds.length ≤ 4) (cm : Int) (at_ : Nat → Int) (hlen : (slash.data.toList.intercalate (datas (showL ms ds cm at_ ds.length))).length ≤ 140737488355328) :
    Calls Try.prog 21 #[.pointer (some ⟨p, 0, none⟩), cellV cm at_] w fun e w' => e = .returned (.string (if rightB ms ds cm at_ then joinB slash (showL ms ds cm at_ ds.length) else ⟨#[]⟩)) ∧ Kept w w' := by
  have HD := hidMk h
  have hlw : ∀ k, k < ds.length → Whole w (tp k) (dmL ds k) := fun k hk => by obtain ⟨lo, hi, h1, _⟩ := h.tr k hk; exact h1.whole
  have HWW := hidMk hlw
  have HRI := hidMk (show ∀ y, Kept w y → _ from fun y hy => dims_Right (h.kept hy) hm cm at_)
  obtain ⟨da, dc, rfl, hrows⟩ := h.rows (by omega)
  have HRW := hidMk hrows
  have t0 := h.c0
  have t1 := h.c1
  have HMS := hidMk h.mss
  have hmb := h.mss.big
  have HBX := hidMk (box_at w 56 cm at_)
  have HLEN := hidMk hlen
  clear h hlw hrows hlen
  unfold cellV at *
  cases hri : rightB ms ds cm at_ with
  | false =>
    rw [hri] at HRI
    clear hri HBX HLEN
    generalize at_ 0 = a0 at *
    generalize at_ 1 = a1 at *
    generalize at_ 2 = a2 at *
    generalize at_ 3 = a3 at *
    go_enter Try.func21, Try.ntmps21
    go_wp2_with (go_at_call 22; refine (HRI.out _ ((Kept.refl w).alloc _)).mono ?_; rintro e w2 ⟨rfl, k2⟩; have K2 := hidMk (((Kept.refl w).alloc _).trans k2); clear k2)
    go_ret
    exact ⟨rfl, K2.out⟩
  | true =>
    rw [hri] at HRI
    have hcm : 0 ≤ cm ∧ cm < ms.length := by
      simp only [rightB, placeB, Bool.and_eq_true, decide_eq_true_eq] at hri
      omega
    obtain ⟨mb, mo, rfl, hmb2, hmc⟩ := HMS.out.cells (by omega)
    have hmv := hmc cm.toNat (by omega)
    obtain ⟨mi, hmi⟩ : ∃ mi : Nat, cm = mi := ⟨cm.toNat, by omega⟩
    clear hri hmc
    subst hmi
    rw [Int.toNat_natCast] at hmv
    have HS0 := hidMk (show showL ms ds mi at_ 0 = [ms.getD mi ByteArray.empty] by simp [showL, msA])
    have HSS := hidMk (showL_succ ms ds mi at_)
    have HSL := hidMk (showL_len ms ds mi at_)
    generalize ms.getD mi ByteArray.empty = mn at *
    generalize at_ 0 = a0 at *
    generalize at_ 1 = a1 at *
    generalize at_ 2 = a2 at *
    generalize at_ 3 = a3 at *
    go_enter Try.func21, Try.ntmps21
    go_wp2_with fail
    refine (HRI.out _ ((Kept.refl w).alloc _)).mono ?_
    rintro e w2 ⟨rfl, k2⟩
    have HB2 := hidMk (show ∀ k, k < 4 → w2.cell? ⟨w.heap.size, 1 + k, none⟩ = some (.int .i64 (at_ k)) from fun k hk => k2.cellp (HBX.out k hk))
    have x0 : w2.cell? ⟨w.heap.size, 0, none⟩ = some (.int .i64 mi) := k2.cellp (by simp)
    have K2 := hidMk (((Kept.refl w).alloc _).trans k2)
    have t0' := K2.out.cellp t0
    have t1' := K2.out.cellp t1
    have hmv' := K2.out.cellp hmv
    clear k2
    have hmi' : (mi : Int) < ms.length := hcm.2
    have y0 := fun o => ((Kept.refl w2).alloc o).cellp x0
    have y1 := fun o => ((Kept.refl w2).alloc o).cellp t1'
    have y2 := fun o => ((Kept.refl w2).alloc o).cellp hmv'
    go_wp2_with fail
    go_region_held3 (fun w' => w'.cell? ⟨p, 1, none⟩ = some (.slice (some ⟨mb, mo, none⟩) ms.length mc) ∧ w'.cell? ⟨w.heap.size, 0, none⟩ = some (.int .i64 mi) ∧ w'.cell? ⟨mb, mo + mi, none⟩ = some (.string mn)) (first | go_keep | (refine ⟨?_, ?_, ?_⟩ <;> assumption) | (refine ⟨?_, ?_, ?_⟩ <;> simp only [*])) (fail)
    refine gen_world (f := fun W => Exit.then _ _ _ _ W) (fun W => OwnS W w2.heap.size (.slice (some ⟨w2.heap.size, 0, none⟩) 1 1) [mn] ∧ Kept w2 W) ⟨World.ownsRow.drew (World.ownsRow_lit w2 #[.string mn] 1 (Nat.le_refl _) (by decide) rfl), ((Kept.refl w2).alloc _).drew⟩ ?_
    rintro w3 ⟨o3, k3⟩
    have O3 := hidMk o3
    have K3 := hidMk k3
    have t0'' := k3.cellp t0'
    clear o3 k3 t0' t1' hmv' y0 y1 y2 x0
    go_wp2_with fail
    go_loopg [5, 26] ds.length (fun g v x wr => ∃ k : Nat, k + g = ds.length ∧ x = .int .i64 k ∧ Kept w2 wr ∧ Hid (OwnS wr w2.heap.size v (showL ms ds mi at_ k)))
    case atStart => exact ⟨0, by omega, rfl, K3.out, hidMk (by rw [HS0.out]; exact O3.out)⟩
    case round =>
      obtain ⟨k, hkg, rfl, hk, HO⟩ := hrel
      have HKG := hidMk hkg
      have HK := hidMk hk
      by_cases hkd : k < ds.length
      · obtain ⟨bb, rfl, hb⟩ := HRW.out (by omega)
        obtain ⟨c1, c2⟩ := hb k hkd
        have kk := K2.out.trans hk
        have d1 := kk.cellp c1
        have d2 := kk.cellp c2
        have d3 := hk.cellp (HB2.out k (by omega))
        have e3 := fun o => ((Kept.refl wr).alloc o).cellp d3
        have HD3 := hidMk d3
        have HNM := hidMk (show ∀ y, Kept wr y → Calls Try.prog 39 #[.pointer (some ⟨tp k, 0, none⟩), .int .i64 (at_ k)] y fun e w' => e = .returned (.string (nmK ds at_ k)) ∧ w' = y from fun y hy => w_Name ((HWW.out k hkd).kept (kk.trans hy)) (at_ k))
        obtain ⟨na, nc, rfl, _, hnb⟩ := own_ss (by rw [HSL.out]; unfold maxLen; omega) HO.out
        have HNB := hidMk hnb
        have kd' : (k : Int) < ds.length := by omega
        have k4' : (k : Int) < 4 := by omega
        have HSZ := hidMk hk.size
        have HSW := hidMk (show w.heap.size < w2.heap.size from cell_lt (HB2.out 0 (by omega)))
        clear hb c1 c2 hk hkg kk hnb
        generalize at_ k = x at *
        generalize tp k = q at *
        generalize dmN ds k = nmk at *
        generalize hnk : nmK ds at_ k = nk at *
        have HNK := hidMk hnk
        clear hnk
        obtain ⟨LL, hLL⟩ : ∃ LL, showL ms ds mi at_ k = LL := ⟨_, rfl⟩
        have hLn : LL.length = k + 1 := by rw [← hLL]; exact HSL.out k
        have HS2 := hidMk (show showL ms ds mi at_ (k + 1) = LL ++ [nk] by rw [HSS.out k, HNK.out, hLL])
        have HLn := hidMk hLn
        rw [hLL] at HO
        rw [hLL]
        clear hLL hLn
        have HLT := hidMk HO.out.lt
        go_wp2_with fail
        go_region_held3 (fun w' => w'.cell? ⟨wr.heap.size, 1, none⟩ = some (.pointer (some ⟨q, 0, none⟩)) ∧ w'.cell? ⟨w.heap.size, 1 + k, none⟩ = some (.int .i64 x)) (first | go_keep | (refine ⟨?_, ?_⟩ <;> assumption) | (refine ⟨?_, ?_⟩ <;> simp only [*]))
          (first
            | (go_at_call 39; refine (HNM.out _ (((Kept.refl wr).alloc _).drew)).mono ?_; rintro e w5 ⟨rfl, hw5⟩; have k5 : Kept wr w5 := (by rw [hw5]; exact ((Kept.refl wr).alloc _).drew); have f3 : w5.cell? ⟨w.heap.size, 1 + k, none⟩ = some (.int .i64 x) := k5.cellp HD3.out; have f4 : w5.cell? ⟨wr.heap.size, 1, none⟩ = some (.pointer (some ⟨q, 0, none⟩)) := (by rw [hw5]; simp); have g3 := (fun o => ((Kept.refl w5).alloc o).cellp f3); have g4 := (fun o => ((Kept.refl w5).alloc o).cellp f4); have K5 := hidMk k5; have G3 := hidMk g3; have G4 := hidMk g4; clear k5 hw5)
            | (refine step_pushS _ (by rfl) _ _ (by rfl) w2.heap.size (.slice na LL.length nc) LL (by rfl) (HO.out.kept (K5.out.alloc _)) (by have h1 := HSZ.out; have h2 := (K5.out.alloc (.cells #[.string nk] 9)).size; omega) w5.heap.size nk (by rfl) (by simp) (by rw [HLn.out]; omega) (w5.heap.size + 1) (by simp) ?_; intro g6 cap6 w6 o6 c6 a6 l6; have m3 := (c6.cell (p := ⟨w.heap.size, 1 + k, none⟩) (cell_lt (G3.out _)) (fun e => by have h1 := HLT.out _ e; have h2 := HSW.out; simp only at h1; omega)).trans (G3.out _); have m4 := (c6.cell (p := ⟨wr.heap.size, 1, none⟩) (cell_lt (G4.out _)) (fun e => by have h1 := HLT.out _ e; simp only at h1; omega)).trans (G4.out _); have O6 := hidMk o6; have C6 := hidMk c6; clear o6 c6 a6 l6))
        have HKK := hidMk (Chg.kept (HK.out.trans (K5.out.alloc _)) C6.out (fun j e => (HLT.out j e).1))
        clear m3 m4 f3 f4 g3 g4
        go_wp2_with fail
        go_roundg (gk - 1)
        case measure => have := HKG.out; omega
        case rel => exact ⟨k + 1, by have := HKG.out; omega, by go_num, HKK.out, hidMk (by rw [HS2.out]; exact O6.out)⟩
      · have e : k = ds.length := by omega
        subst e
        obtain ⟨na, nc, rfl, hns, _⟩ := own_ss (by rw [HSL.out]; unfold maxLen; omega) HO.out
        have hcap := own_cap HO.out
        have HJN := hidMk (text_Join slash na _ nc _ wr hns hcap (by rw [HSL.out]; omega) HLEN.out)
        have HLn := hidMk (HSL.out ds.length)
        clear hk hkg hns hcap HO
        generalize hLL : showL ms ds mi at_ ds.length = LL at *
        have HLL := hidMk hLL
        clear hLL
        have kd' : ¬ ((ds.length : Int) < ds.length) := by omega
        unfold slash at *
        go_wp2_with fail
        refine HJN.out.mono ?_
        rintro e w9 ⟨rfl, k9⟩
        have K9 := hidMk k9
        clear k9
        go_wp2_with fail
        go_ret
        exact ⟨by simp only [if_true]; rw [HLL.out]; rfl, K2.out.trans (HK.out.trans K9.out)⟩
end Go.Proofs.Ytlcjnldkldkffaa
