/- moietylaw30.open, known. -/
import Derived.Test.YtbhojgodkblflaaSh7
import Derived.Test.YtbhojgodkblflaaSh4
import Derived.Test.YtbhojgodkblflaaLawDimsE
import Derived.Test.YtbhojgodkblflaaRefDims12B
namespace Go.Proofs.Ytbhojgodkblflaa
open Go.RowKit Go.Maps
set_option linter.unusedSimpArgs false
set_option linter.unusedVariables false

def at4 (c1 c2 c3 c4 : Int) : Nat → Int := fun k => if k = 0 then c1 else if k = 1 then c2 else if k = 2 then c3 else c4
def fC (er : Int) (ms : List ByteArray) (ds : List Dm) : CF := fun c0 c1 c2 c3 c4 => if er = 0 then (if rightB ms ds c0 (at4 c1 c2 c3 c4) then joinB slash (showL ms ds c0 (at4 c1 c2 c3 c4) ds.length) else ⟨#[]⟩) else ⟨#[]⟩
theorem nil_DRight (c0 c1 c2 c3 c4 : Value) (w : World) : Calls Try.prog 40 #[.pointer none, .agg #[c0, c1, c2, c3, c4]] w fun e w' => e = .returned (.bool false) ∧ Kept w w' := by
  have hg : decide ((true : Bool) = false) = false := by decide
  go_enter Try.func40, Try.ntmps40
  go_wp2_with fail
  go_quiet (fail)
  go_wp2_with fail
  go_ret
  exact ⟨rfl, by first | exact (Kept.refl _).alloc _ | exact ((Kept.refl _).alloc _).drewN _ | exact ((Kept.refl _).alloc _).drew⟩
theorem nil_DShow (c0 c1 c2 c3 c4 : Value) (w : World) : Calls Try.prog 20 #[.pointer none, .agg #[c0, c1, c2, c3, c4]] w fun e w' => e = .returned (.string ⟨#[]⟩) ∧ Kept w w' := by
  have H := hidMk (nil_DRight c0 c1 c2 c3 c4)
  go_enter Try.func20, Try.ntmps20
  go_wp2_with fail
  refine (H.out _).mono ?_
  rintro e w1 ⟨rfl, k1⟩
  go_wp2_with fail
  go_ret
  exact ⟨rfl, ((Kept.refl _).alloc _).trans k1⟩
theorem shp_nil (w : World) : ShP 20 (.pointer none) (fun _ _ _ _ _ => ⟨#[]⟩) w := fun y _ c0 c1 c2 c3 c4 => nil_DShow _ _ _ _ _ y
theorem fC_no {er : Int} (h : er ≠ 0) (ms : List ByteArray) (ds : List Dm) : fC er ms ds = fun _ _ _ _ _ => ⟨#[]⟩ := by
  funext c0 c1 c2 c3 c4
  unfold fC; rw [if_neg h]
theorem fC_le {ms : List ByteArray} {ds : List Dm} (hk : CatOk ds ms) (c0 c1 c2 c3 c4 : Int) : (fC 0 ms ds c0 c1 c2 c3 c4).size ≤ 1000 := by
  unfold fC
  rw [if_pos rfl]
  by_cases h : rightB ms ds c0 (at4 c1 c2 c3 c4) = true
  · rw [if_pos h, joinB_size]
    have := hk.join_le c0 (at4 c1 c2 c3 c4) ds.length (Nat.le_refl _)
    omega
  · rw [if_neg h]; decide
theorem shp_dims {w0 w : World} {p : Nat} {ds : List Dm} {tp : Nat → Nat} {ma : Option Addr} {mc : Nat} {ms : List ByteArray} {lv sc : Int} {dv : Value} (h : DP w0 w p ds tp ma mc ms lv sc dv) (hk : CatOk ds ms) : ShP 20 (.pointer (some ⟨p, 0, none⟩)) (fC 0 ms ds) w := fun y hy c0 c1 c2 c3 c4 => by
  have := dims_Show (h.kept hy) hk.d4 c0 (at4 c1 c2 c3 c4) (by have := hk.join_le c0 (at4 c1 c2 c3 c4) ds.length (Nat.le_refl _); omega)
  refine this.mono ?_
  rintro e w' ⟨rfl, k⟩
  exact ⟨rfl, k⟩
theorem shp_ref {w : World} {p : Nat} {ds : List Dm} {rt : Nat → Nat} {ms : List ByteArray} (h : RDm w p ds rt ms) (hk : CatOk ds ms) : ShP 43 (.pointer (some ⟨p, 0, none⟩)) (fC 0 ms ds) w := fun y hy c0 c1 c2 c3 c4 => by
  have := ref6_Show (h.kept hy) hk.d4 c0 (at4 c1 c2 c3 c4) (fun k hk' => by have := hk.join_le c0 (at4 c1 c2 c3 c4) k hk'; rw [joinB_size]; omega)
  refine this.mono ?_
  rintro e w' ⟨rfl, k⟩
  exact ⟨rfl, k⟩
def Sm30 (ds : List Dm) (m : Nat) : Prop := ds.length ≤ 5 ∧ m ≤ 5 ∧ ∀ k, k < ds.length → (dmL ds k).length ≤ 33
def OpenP (w : World) (ds : List Dm) (ms : List ByteArray) (lv sc : Int) (e : Ending) (w' : World) : Prop :=
  ((e = .returned (.tuple #[.pointer none, .pointer none, .bool false]) ∧ ¬ Sm30 ds ms.length) ∨ (∃ pd pq at_ er, e = .returned (.tuple #[.pointer pd, .pointer pq, .bool true]) ∧ CatIs ds ms lv sc at_ er ∧ ShP 20 (.pointer pd) (fC er ms ds) w' ∧ ShP 23 (.pointer pq) (fC er ms ds) w' ∧ ∀ c0 c1 c2 c3 c4, (fC er ms ds c0 c1 c2 c3 c4).size ≤ 1000)) ∧ Kept w w'
set_option maxHeartbeats 4000000 in
set_option maxRecDepth 100000 in
theorem law30_open (a : Option Addr) (n c : Nat) (ds : List Dm) (na : Nat → Option Addr × Nat × Nat) (b : Option Addr) (m d : Nat) (ms : List ByteArray) (lv sc : Int) (w : World) (hs : Dss w a n ds na) (hm : Ss w b m ms) (hmz : ∀ i, i < ms.length → (msA ms i).size ≤ maxLen) :
    Calls Try.prog 5 #[.agg #[.slice a n c, .slice b m d, .int .i64 lv, .int .i64 sc]] w (OpenP w ds ms lv sc) := by
  have HS := hidMk hs
  have hlen := hs.len
  have hbig := hs.big
  have hlm := hm.len
  have hbm := hm.big
  have HN1 := hidMk (show ∀ y, Kept w y → _ from fun y hy => dims_New a n c ds na b m d ms lv sc y (hs.kept hy) (hm.kept hy) hmz)
  have HN2 := hidMk (show ∀ y, Kept w y → _ from fun y hy => ref6_New a n c ds na b m d ms lv sc y (hs.kept hy) (hm.kept hy) hmz)
  unfold maxLen at hbig hbm
  clear hs hm hmz
  by_cases h1 : n ≤ 5 ∧ m ≤ 5
  · have h1' : ¬ ((5 : Int) < n) := by omega
    have h2' : ¬ ((5 : Int) < m) := by omega
    obtain ⟨hn, hm2⟩ := h1
    go_enter Try.func5, Try.ntmps5
    go_wp2_with fail
    refine gen_world (f := fun W => Code.wp _ _ _ _ W) (fun W => Kept w W ∧ W.cell? ⟨w.heap.size, 0, none⟩ = some (.slice a n c) ∧ W.cell? ⟨w.heap.size, 1, none⟩ = some (.slice b m d) ∧ W.cell? ⟨w.heap.size, 2, none⟩ = some (.int .i64 lv) ∧ W.cell? ⟨w.heap.size, 3, none⟩ = some (.int .i64 sc)) ⟨(Kept.refl w).alloc _, by simp, by simp, by simp, by simp⟩ ?_
    rintro W ⟨kW, y0, y1, y2, y3⟩
    have HKW := hidMk kW
    clear kW
    go_loopg [5] n (fun g x wr => ∃ k : Nat, k + g = n ∧ x = .int .i64 k ∧ wr = W ∧ Hid (∀ j, j < k → (dmL ds j).length ≤ 33))
    case atStart => exact ⟨0, by omega, rfl, rfl, hidMk fun j hj => absurd hj (by omega)⟩
    case round =>
      obtain ⟨k, hkg, rfl, rfl, HJ⟩ := hrel
      have HKG := hidMk hkg
      by_cases hkn : k < n
      · obtain ⟨bb, oo, rfl, hb, hcs⟩ := HS.out.cells (by omega)
        have c1 := HKW.out.cellp (hcs k hkn).2
        have hl := (HS.out.nds k hkn).len
        have hl2 := (HS.out.nds k hkn).big
        unfold maxLen at hl2
        have hk1 : (k : Int) < n := by omega
        have HYES := hidMk (show (dmL ds k).length ≤ 33 → ∀ j, j < k + 1 → (dmL ds j).length ≤ 33 from fun e j hj => by
          by_cases e' : j = k
          · subst e'; exact e
          · exact HJ.out j (by omega))
        have HNO := hidMk (show ¬ (dmL ds k).length ≤ 33 → ¬ Sm30 ds ms.length from fun e h => e (h.2.2 k (by omega)))
        rw [hl] at HYES HNO
        unfold slv at c1
        clear hcs hkg hl
        generalize na k = q at *
        obtain ⟨q1, q2, q3⟩ := q
        by_cases hq : q2 ≤ 33
        · have HY2 := hidMk (HYES.out hq)
          have hq' : ¬ ((33 : Int) < q2) := by omega
          simp only at c1 hl2
          go_wp2_with fail
          go_roundg (gk - 1)
          case measure => have := HKG.out; omega
          case rel => exact ⟨k + 1, by have := HKG.out; omega, by go_num, rfl, HY2⟩
        · have HN2' := hidMk (HNO.out hq)
          have hq' : (33 : Int) < q2 := by omega
          simp only at c1 hl2
          go_wp2_with fail
          go_ret3
          exact ⟨.inl ⟨rfl, HN2'.out⟩, HKW.out⟩
      · clear hkg
        have hkk : ¬ ((k : Int) < (n : Int)) := by omega
        go_wp2_with fail
        refine (HN1.out _ HKW.out).mono ?_
        rintro e w2 (⟨w0, p, tp, ma, mc, dv, rfl, hc1, hD, k2⟩ | ⟨at1, er1, rfl, her1, hc1, k2⟩)
        · have HD := hidMk hD
          have HK2 := hidMk (HKW.out.trans k2)
          have HC1 := hidMk hc1
          have u0 := k2.cellp y0
          have u1 := k2.cellp y1
          have u2 := k2.cellp y2
          have u3 := k2.cellp y3
          clear hD k2 hc1
          go_wp2_with fail
          refine (HN2.out _ HK2.out).mono ?_
          rintro e w3 (⟨q, rt, rfl, hc2, hR, k3⟩ | ⟨at2, er2, rfl, her2, hc2, k3⟩)
          · have HR := hidMk hR
            have HD3 := hidMk (HD.out.kept k3)
            have HK3 := hidMk (HK2.out.trans k3)
            clear hR k3 hc2
            go_wp2_with fail
            go_ret3
            exact ⟨.inr ⟨_, _, _, 0, rfl, HC1.out, shp_dims HD3.out (cat_ok HC1.out), rcell_some _ _ _ (shp_ref HR.out (cat_ok HC1.out)), fC_le (cat_ok HC1.out)⟩, HK3.out⟩
          · exact absurd (cat_one HC1.out hc2).2.symm her2
        · have HK2 := hidMk (HKW.out.trans k2)
          have HC1 := hidMk hc1
          have HER := hidMk her1
          have u0 := k2.cellp y0
          have u1 := k2.cellp y1
          have u2 := k2.cellp y2
          have u3 := k2.cellp y3
          clear k2 hc1 her1
          go_wp2_with fail
          refine (HN2.out _ HK2.out).mono ?_
          rintro e w3 (⟨q, rt, rfl, hc2, hR, k3⟩ | ⟨at2, er2, rfl, her2, hc2, k3⟩)
          · exact absurd (cat_one HC1.out hc2).2 HER.out
          · obtain ⟨_, rfl⟩ := cat_one HC1.out hc2
            have HK3 := hidMk (HK2.out.trans k3)
            have e1 : (er1 == er1) = true := by simp
            clear k3 hc2 her2
            go_wp2_with fail
            go_ret3
            exact ⟨.inr ⟨_, _, _, er1, rfl, HC1.out, by rw [fC_no HER.out]; exact shp_nil _, by rw [fC_no HER.out]; exact rcell_nil _, by rw [fC_no HER.out]; intro _ _ _ _ _; exact Nat.zero_le _⟩, HK3.out⟩
  · have HF := hidMk (show ¬ Sm30 ds ms.length from fun h => h1 ⟨by have := h.1; omega, by have := h.2.1; omega⟩)
    by_cases hn : 5 < n
    · have h1' : (5 : Int) < n := by omega
      go_enter Try.func5, Try.ntmps5
      go_wp2_with fail
      go_ret3
      exact ⟨.inl ⟨rfl, HF.out⟩, (Kept.refl w).alloc _⟩
    · have h1' : ¬ ((5 : Int) < n) := by omega
      have h2' : (5 : Int) < m := by omega
      go_enter Try.func5, Try.ntmps5
      go_wp2_with fail
      go_ret3
      exact ⟨.inl ⟨rfl, HF.out⟩, (Kept.refl w).alloc _⟩
end Go.Proofs.Ytbhojgodkblflaa
