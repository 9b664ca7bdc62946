/- parse.Line; both at no catalogue. · moietylaw29.open; the fixed catalogue and the fixed lines. · moietylaw29.known. -/
import Derived.Test.YtpehinmckppjoaaGreatDoorWPsJ
import Derived.Test.YtpehinmckppjoaaGreatDoorWLawDimsEB
namespace Go.Proofs.YtpehinmckppjoaaGreatDoor
open Go.RowKit Go.Maps
set_option linter.unusedSimpArgs false
set_option linter.unusedVariables false

set_option maxHeartbeats 4000000 in
set_option maxRecDepth 100000 in
theorem ps_Line {W : World} {pd : Nat} {ms : List ByteArray} {ds : List Dm} (hD : ∃ y tp ma mc lv sc dv, DP y W pd ds tp ma mc ms lv sc dv) (hok : CatOk ds ms) (hV : FV W) (x : Cm) (hx : XOk x) :
    Calls Tryz.prog 15 #[.pointer (some ⟨pd, 0, none⟩), cmV x] W fun e w' => e = .returned (.tuple #[.string (lineP ms ds x).1, .int .i64 (lineP ms ds x).2]) ∧ Kept W w' := by
  have hX : WX W pd ms ds := ⟨fun y hy => by
    obtain ⟨yy, tp, ma, mc, lv, sc, dv, hD⟩ := hD
    exact ⟨yy, tp, ma, mc, lv, sc, dv, hD.kept hy⟩, hok⟩
  have hVV : ∀ y, Kept W y → FV y := fun y hy => hV.kept hy
  have HG := hidMk (fun l h => write_good hok hx.n (l := l) h)
  have HLN := hidMk (fun l (h : writeP ms ds x = some l) => show l.length ≤ 20 from by
    obtain ⟨hk, m, hm, rfl⟩ := write_some h
    have h1 := foldW_len _ m hm
    have h2 : (shapeL x.k).length ≤ 5 := by rcases shape_cases x.k with e | e | e | e | e | e | e | e | e <;> rw [e] <;> decide
    rw [List.length_cons]; omega)
  have HCT := hidMk (fun w2 (hS : WS W w2 (W.heap.size + 1) W.heap.size pd x (.slice none 0 0) []) (h : w2.cell? ⟨W.heap.size + 2, 0, none⟩ = some (.pointer (some ⟨W.heap.size + 1, 0, none⟩))) => wr_caught hX hVV hS hx (W.heap.size + 2) ⟨by omega, by simp [Value.ownBlock]⟩ h)
  have hmf : ∀ fn first cap w, (Instr.makeFunc fn first cap).run Tryz.prog w = .ok (.func fn first cap) w := fun _ _ _ _ => rfl
  obtain ⟨cl, hcl⟩ : ∃ cl, cmL x = cl := ⟨_, rfl⟩
  have HCL := hidMk hcl
  have HSZ := hidMk (show cl.length = 12 by rw [← hcl]; rfl)
  unfold cmV
  rw [hcl]
  clear hX hVV hD hok hV hx hcl
  go_enter Tryz.func15, Tryz.ntmps15
  go_wp2_with fail
  obtain ⟨w2, hw2⟩ : ∃ w2, w2 = (((W.alloc (.cells cl.toArray 35)).alloc (.cells #[.pointer (some ⟨pd, 0, none⟩), .slice none 0 0] 85)).alloc (.cells #[.pointer (some ⟨W.heap.size + 1, 0, none⟩)] 83)) := ⟨_, rfl⟩
  rw [← hw2]
  have kW : Kept W w2 := by rw [hw2]; exact (((Kept.refl W).alloc _).alloc _).alloc _
  have hpc : w2.cell? ⟨W.heap.size + 2, 0, none⟩ = some (.pointer (some ⟨W.heap.size + 1, 0, none⟩)) := by rw [hw2]; exact new_cell _ _ _ _ _ _ (by simp) rfl
  have hS : WS W w2 (W.heap.size + 1) W.heap.size pd x (.slice none 0 0) [] := by
    refine ⟨kW, by omega, by omega, by rw [hw2]; exact ((Kept.refl _).alloc _).cellp (new_cell _ _ _ _ _ _ (by simp) rfl), by rw [hw2]; exact ((Kept.refl _).alloc _).cellp (new_cell _ _ _ _ _ _ (by simp) rfl), World.ownsRow_nil _ _ _ _, fun g e => by simp [Value.ownBlock] at e, by rw [hw2, World.frozen?_alloc_past _ _ _ (by simp)]; exact World.frozen?_alloc_at _ _ _ _ (by simp), fun j u hu => ?_, by decide⟩
    have h1 : (W.alloc (.cells cl.toArray 35)).cell? ⟨W.heap.size, j, none⟩ = some u := by
      rw [cell_of_row _ _ j _ _ _ (heap_new W cl.toArray 35), ← hu, HCL.out]
      simp
    rw [hw2]
    exact (((Kept.refl _).alloc _).alloc _).cellp h1
  have HK2 := hidMk kW
  have HW := hidMk (HCT.out w2 hS hpc)
  have HPC := hidMk hpc
  clear hw2 hS kW hpc HCT HCL HSZ
  obtain ⟨r, hr⟩ : ∃ r, writeP ms ds x = r := ⟨_, rfl⟩
  rw [hr] at HW
  have HR := hidMk hr
  clear hr
  have hsl : (Value.slice none 0 0).ownBlock ≠ some (W.heap.size + 2) := by simp [Value.ownBlock]
  have HSL := hidMk hsl
  clear hsl
  refine HW.out.mono ?_
  rintro e w3 ⟨v3, c3, hp⟩
  have HC3 := hidMk c3
  have HP3 := hidMk (c3.cellp HPC.out (by omega) HSL.out)
  have HK3 := hidMk (show Kept W w3 from Chg.kept HK2.out c3.chg fun j e => by
    rcases e with e | e
    · omega
    · simp [Value.ownBlock] at e)
  rcases r with _ | m
  · subst hp
    clear c3
    have HL := hidMk (show lineP ms ds x = (⟨#[]⟩, 2) by unfold lineP; rw [HR.out])
    go_wp2_with fail
    go_quiet (fail)
    go_wp2_with fail
    go_ret2
    exact ⟨by rw [HL.out]; rfl, by first | exact (HK3.out.alloc _).drewN _ | exact (HK3.out.alloc _).drew | exact HK3.out.alloc _⟩
  · obtain ⟨rfl, s3⟩ := hp
    have hg := HG.out m HR.out
    have hln := HLN.out m HR.out
    have ho := s3.own
    have hq1 := s3.ws
    have hq0 := HP3.out.1
    obtain ⟨a, c, hv, hss, _⟩ := own_ss (by unfold maxLen; omega) ho
    subst hv
    have hcap := own_cap ho
    have HJ := hidMk (show ∀ y, Kept w3 y → _ from fun y hy => text_Join blankB a m.length c m y (hss.kept hy) hcap (by omega) (by rw [← joinB_size]; have := join_100 hg; omega))
    have HL := hidMk (show lineP ms ds x = (joinB blankB m, 0) by unfold lineP; rw [HR.out])
    clear c3 s3 ho hss hcap HC3 hg
    have q0 := fun o => ((Kept.refl w3).alloc o).cellp hq0
    have q1 := fun o => ((Kept.refl w3).alloc o).cellp hq1
    clear hq0 hq1
    unfold blankB at HJ
    go_wp2_with fail
    refine (HJ.out _ ((Kept.refl w3).alloc _)).mono ?_
    rintro e w4 ⟨rfl, k4⟩
    have K4 := hidMk ((HK3.out.alloc _).trans k4)
    clear k4
    go_wp2_with fail
    go_ret2
    exact ⟨by rw [HL.out]; rfl, K4.out⟩
end Go.Proofs.YtpehinmckppjoaaGreatDoor
namespace Go.Proofs.YtpehinmckppjoaaGreatDoor
open Go.RowKit Go.Maps
set_option linter.unusedSimpArgs false
set_option linter.unusedVariables false

def Sm29 (ds : List Dm) (m : Nat) : Prop := ds.length ≤ 5 ∧ m ≤ 5 ∧ ∀ k, k < ds.length → (dmL ds k).length ≤ 33
def OpenP29 (w : World) (ds : List Dm) (ms : List ByteArray) (lv sc : Int) (e : Ending) (w' : World) : Prop :=
  (((∃ vd vq, e = .returned (.tuple #[vd, vq, .bool false])) ∧ (¬ Sm29 ds ms.length ∨ ∃ at_ er, CatIs ds ms lv sc at_ er ∧ er ≠ 0)) ∨ (∃ pd pq at_, e = .returned (.tuple #[.pointer (some ⟨pd, 0, none⟩), .pointer (some ⟨pq, 0, none⟩), .bool true]) ∧ CatIs ds ms lv sc at_ 0 ∧ (∃ w0 tp ma mc dv, DP w0 w' pd ds tp ma mc ms lv sc dv) ∧ ∃ rt, RDm w' pq ds rt ms)) ∧ Kept w w'
set_option maxHeartbeats 4000000 in
set_option maxRecDepth 100000 in
theorem law29_open (a : Option Addr) (n c : Nat) (ds : List Dm) (na : Nat → Option Addr × Nat × Nat) (b : Option Addr) (m d : Nat) (ms : List ByteArray) (lv sc : Int) (w : World) (hs : Dss w a n ds na) (hm : Ss w b m ms) (hmz : ∀ i, i < ms.length → (msA ms i).size ≤ maxLen) :
    Calls Tryz.prog 7 #[.agg #[.slice a n c, .slice b m d, .int .i64 lv, .int .i64 sc]] w (OpenP29 w ds ms lv sc) := by
  have HS := hidMk hs
  have hlen := hs.len
  have hbig := hs.big
  have hlm := hm.len
  have hbm := hm.big
  have HN1 := hidMk (show ∀ y, Kept w y → _ from fun y hy => dims_New a n c ds na b m d ms lv sc y (hs.kept hy) (hm.kept hy) hmz)
  have HN2 := hidMk (show ∀ y, Kept w y → _ from fun y hy => ref6_New a n c ds na b m d ms lv sc y (hs.kept hy) (hm.kept hy) hmz)
  unfold maxLen at hbig hbm
  clear hs hm hmz
  by_cases h1 : n ≤ 5 ∧ m ≤ 5
  · have h1' : ¬ ((5 : Int) < n) := by omega
    have h2' : ¬ ((5 : Int) < m) := by omega
    obtain ⟨hn, hm2⟩ := h1
    go_enter Tryz.func7, Tryz.ntmps7
    go_wp2_with fail
    refine gen_world (f := fun W => Code.wp _ _ _ _ W) (fun W => Kept w W ∧ W.cell? ⟨w.heap.size, 0, none⟩ = some (.slice a n c) ∧ W.cell? ⟨w.heap.size, 1, none⟩ = some (.slice b m d) ∧ W.cell? ⟨w.heap.size, 2, none⟩ = some (.int .i64 lv) ∧ W.cell? ⟨w.heap.size, 3, none⟩ = some (.int .i64 sc)) ⟨(Kept.refl w).alloc _, by simp, by simp, by simp, by simp⟩ ?_
    rintro W ⟨kW, y0, y1, y2, y3⟩
    have HKW := hidMk kW
    clear kW
    go_loopg [5] n (fun g x wr => ∃ k : Nat, k + g = n ∧ x = .int .i64 k ∧ wr = W ∧ Hid (∀ j, j < k → (dmL ds j).length ≤ 33))
    case atStart => exact ⟨0, by omega, rfl, rfl, hidMk fun j hj => absurd hj (by omega)⟩
    case round =>
      obtain ⟨k, hkg, rfl, rfl, HJ⟩ := hrel
      have HKG := hidMk hkg
      by_cases hkn : k < n
      · obtain ⟨bb, oo, rfl, hb, hcs⟩ := HS.out.cells (by omega)
        have c1 := HKW.out.cellp (hcs k hkn).2
        have hl := (HS.out.nds k hkn).len
        have hl2 := (HS.out.nds k hkn).big
        unfold maxLen at hl2
        have hk1 : (k : Int) < n := by omega
        have HYES := hidMk (show (dmL ds k).length ≤ 33 → ∀ j, j < k + 1 → (dmL ds j).length ≤ 33 from fun e j hj => by
          by_cases e' : j = k
          · subst e'; exact e
          · exact HJ.out j (by omega))
        have HNO := hidMk (show ¬ (dmL ds k).length ≤ 33 → ¬ Sm29 ds ms.length from fun e h => e (h.2.2 k (by omega)))
        rw [hl] at HYES HNO
        unfold slv at c1
        clear hcs hkg hl
        generalize na k = q at *
        obtain ⟨q1, q2, q3⟩ := q
        by_cases hq : q2 ≤ 33
        · have HY2 := hidMk (HYES.out hq)
          have hq' : ¬ ((33 : Int) < q2) := by omega
          simp only at c1 hl2
          go_wp2_with fail
          go_roundg (gk - 1)
          case measure => have := HKG.out; omega
          case rel => exact ⟨k + 1, by have := HKG.out; omega, by go_num, rfl, HY2⟩
        · have HN2' := hidMk (HNO.out hq)
          have hq' : (33 : Int) < q2 := by omega
          simp only at c1 hl2
          go_wp2_with fail
          go_ret3
          exact ⟨.inl ⟨⟨_, _, rfl⟩, .inl HN2'.out⟩, HKW.out⟩
      · clear hkg
        have hkk : ¬ ((k : Int) < (n : Int)) := by omega
        go_wp2_with fail
        refine (HN1.out _ HKW.out).mono ?_
        rintro e w2 (⟨w0, p, tp, ma, mc, dv, rfl, hc1, hD, k2⟩ | ⟨at1, er1, rfl, her1, hc1, k2⟩)
        · have HD := hidMk hD
          have HK2 := hidMk (HKW.out.trans k2)
          have HC1 := hidMk hc1
          have u0 := k2.cellp y0
          have u1 := k2.cellp y1
          have u2 := k2.cellp y2
          have u3 := k2.cellp y3
          clear hD k2 hc1
          go_wp2_with fail
          refine (HN2.out _ HK2.out).mono ?_
          rintro e w3 (⟨q, rt, rfl, hc2, hR, k3⟩ | ⟨at2, er2, rfl, her2, hc2, k3⟩)
          · have HR := hidMk hR
            have HD3 := hidMk (HD.out.kept k3)
            have HK3 := hidMk (HK2.out.trans k3)
            clear hR k3 hc2
            go_wp2_with fail
            go_ret3
            exact ⟨.inr ⟨_, _, _, rfl, HC1.out, ⟨_, _, _, _, _, HD3.out⟩, ⟨_, HR.out⟩⟩, HK3.out⟩
          · exact absurd (cat_one HC1.out hc2).2.symm her2
        · have HK2 := hidMk (HKW.out.trans k2)
          have HC1 := hidMk hc1
          have HER := hidMk her1
          have u0 := k2.cellp y0
          have u1 := k2.cellp y1
          have u2 := k2.cellp y2
          have u3 := k2.cellp y3
          clear k2 hc1 her1
          go_wp2_with fail
          refine (HN2.out _ HK2.out).mono ?_
          rintro e w3 (⟨q, rt, rfl, hc2, hR, k3⟩ | ⟨at2, er2, rfl, her2, hc2, k3⟩)
          · exact absurd (cat_one HC1.out hc2).2 HER.out
          · obtain ⟨_, rfl⟩ := cat_one HC1.out hc2
            have HK3 := hidMk (HK2.out.trans k3)
            have e1 : (er1 == 0) = false := by simpa using HER.out
            have e2 : decide (er1 = 0) = false := by simpa using HER.out
            clear k3 hc2 her2
            go_wp2_with fail
            go_ret3
            exact ⟨.inl ⟨⟨_, _, rfl⟩, .inr ⟨_, er1, HC1.out, HER.out⟩⟩, HK3.out⟩
  · have HF := hidMk (show ¬ Sm29 ds ms.length from fun h => h1 ⟨by have := h.1; omega, by have := h.2.1; omega⟩)
    by_cases hn : 5 < n
    · have h1' : (5 : Int) < n := by omega
      go_enter Tryz.func7, Tryz.ntmps7
      go_wp2_with fail
      go_ret3
      exact ⟨.inl ⟨⟨_, _, rfl⟩, .inl HF.out⟩, (Kept.refl w).alloc _⟩
    · have h1' : ¬ ((5 : Int) < n) := by omega
      have h2' : (5 : Int) < m := by omega
      go_enter Tryz.func7, Tryz.ntmps7
      go_wp2_with fail
      go_ret3
      exact ⟨.inl ⟨⟨_, _, rfl⟩, .inl HF.out⟩, (Kept.refl w).alloc _⟩
def k30 : List Nd := [(⟨#[97]⟩, -1)]
def ds30 : List Dm := [(⟨#[120]⟩, k30)]
def ms30 : List ByteArray := [⟨#[109]⟩]
theorem k30_good : Good k30 := by unfold Good; decide +kernel
theorem k30_new {at_ er : Int} (h : NewIs k30 at_ er) : er = 0 := by
  rcases h with ⟨h, _⟩ | ⟨_, ⟨_, _, h⟩ | ⟨q, i, hb, _, he⟩⟩
  · exact absurd h (by decide)
  · exact h
  · exact absurd (k30_good q hb.1 i hb.2.1) hb.2.2.1
theorem k30_meas : measE ms30 0 = 0 := by decide +kernel
theorem k30_tail : tailE 1 ds30 9 3 = 0 := by decide +kernel
theorem k30_cat {at_ er : Int} (h : CatIs ds30 ms30 9 3 at_ er) : er = 0 := by
  rcases h with ⟨h, _⟩ | ⟨_, ⟨k, hk, ha, hn, _⟩ | ⟨_, ⟨i, hi, hn, _⟩ | ⟨_, h⟩, _⟩⟩
  · exact absurd h (by decide)
  · have : k = 0 := by have : ds30.length = 1 := rfl; omega
    subst this
    rcases ha with ⟨h, _⟩ | ⟨_, h, _⟩ | ⟨_, _, a, h⟩
    · exact absurd h (by decide +kernel)
    · exact absurd (by decide +kernel) h
    · exact k30_new h
  · have : i = 0 := by have : ms30.length = 1 := rfl; omega
    subst this
    exact absurd k30_meas hn
  · rw [h]; exact k30_tail
theorem k30_small : Sm29 ds30 ms30.length := by
  refine ⟨by decide, by decide, fun k hk => ?_⟩
  have : k = 0 := by have : ds30.length = 1 := rfl; omega
  subst this
  decide
theorem k30_ns (w : World) (t : TypeId) : Ns (w.alloc (.cells #[.string ⟨#[97]⟩, .int .i64 (-1)] t)) (some ⟨w.heap.size, 0, none⟩) 1 k30 := by
  refine ⟨rfl, by unfold maxLen; omega, ?_, ?_, fun _ => ⟨_, _, rfl, by simp, fun i hi => ?_⟩⟩
  · intro i hi
    have : i = 0 := by have : k30.length = 1 := rfl; omega
    subst this
    unfold maxLen; decide +kernel
  · intro i hi
    have : i = 0 := by have : k30.length = 1 := rfl; omega
    subst this
    unfold isI; decide +kernel
  · have : i = 0 := by omega
    subst this
    simp [k30, nmA, upA]
theorem k30_dss {w : World} {q g : Nat} (h1 : w.cell? ⟨g, 0, none⟩ = some (.string ⟨#[120]⟩)) (h2 : w.cell? ⟨g, 1, none⟩ = some (.slice (some ⟨q, 0, none⟩) 1 1)) (hn : Ns w (some ⟨q, 0, none⟩) 1 k30) : Dss w (some ⟨g, 0, none⟩) 1 ds30 (fun _ => (some ⟨q, 0, none⟩, 1, 1)) := by
  refine ⟨rfl, by unfold maxLen; omega, fun k hk => ?_, fun k hk => ?_, fun _ => ⟨_, _, rfl, cell_lt h1, fun k hk => ?_⟩⟩
  · have : k = 0 := by omega
    subst this
    unfold maxLen; decide +kernel
  · have : k = 0 := by omega
    subst this
    exact hn
  · have : k = 0 := by omega
    subst this
    exact ⟨h1, h2⟩
theorem k30_sz : ∀ i, i < ms30.length → (msA ms30 i).size ≤ maxLen := fun i hi => by
  have : i = 0 := by have : ms30.length = 1 := rfl; omega
  subst this
  unfold maxLen; decide +kernel
def x29 : Cm := ⟨1, ⟨#[97, 110, 110]⟩, ⟨#[109, 97, 105, 110]⟩, ⟨#[]⟩, 0, 0, 0, 0, 0, 10, 1, 0⟩
def s29 : ByteArray := ⟨#[115, 101, 116, 32, 97, 110, 110, 32, 109, 97, 105, 110, 32, 109, 47, 97, 32, 49, 48, 32, 112, 114, 111, 112]⟩
def g29 : ByteArray := ⟨#[103, 101, 116, 32, 109, 97, 105, 110, 32, 109, 47, 98]⟩
theorem num10 : numS 10 = ⟨#[49, 48]⟩ := by
  unfold numS numL
  rw [if_neg (by omega), show ((10 : Int)).toNat = 10 from rfl, digs_ge (by omega), show 10 / 10 = 1 from rfl, digs_lt (n := 1) (by omega)]
  decide +kernel
theorem k29_write : writeP ms30 ds30 x29 = some [⟨#[115, 101, 116]⟩, ⟨#[97, 110, 110]⟩, ⟨#[109, 97, 105, 110]⟩, ⟨#[109, 47, 97]⟩, ⟨#[49, 48]⟩, ⟨#[112, 114, 111, 112]⟩] := by
  unfold writeP
  rw [if_neg (by decide +kernel)]
  have h1 : oneW ms30 ds30 117 x29 = some [⟨#[97, 110, 110]⟩] := by rw [oneW_name (.inl rfl), if_pos (by decide +kernel)]; rfl
  have h2 : oneW ms30 ds30 115 x29 = some [⟨#[109, 97, 105, 110]⟩] := by rw [oneW_name (.inr (.inl rfl)), if_pos (by decide +kernel)]; rfl
  have h3 : oneW ms30 ds30 99 x29 = some [⟨#[109, 47, 97]⟩] := by rw [oneW_cell, if_pos (by decide +kernel), show cellW ms30 ds30 x29 = ⟨#[109, 47, 97]⟩ by decide +kernel]
  have h4 : oneW ms30 ds30 110 x29 = some [⟨#[49, 48]⟩] := by rw [oneW_num, show x29.n = 10 from rfl, num10]
  have h5 : oneW ms30 ds30 104 x29 = some [⟨#[112, 114, 111, 112]⟩] := by rw [oneW_how]; decide +kernel
  show catW (some [kwI 1]) (catW (oneW ms30 ds30 117 x29) (catW (oneW ms30 ds30 115 x29) (catW (oneW ms30 ds30 99 x29) (catW (oneW ms30 ds30 110 x29) (catW (oneW ms30 ds30 104 x29) (some [])))))) = _
  rw [h1, h2, h3, h4, h5]
  decide +kernel
theorem k29_join : joinB blankB [⟨#[115, 101, 116]⟩, ⟨#[97, 110, 110]⟩, ⟨#[109, 97, 105, 110]⟩, ⟨#[109, 47, 97]⟩, ⟨#[49, 48]⟩, ⟨#[112, 114, 111, 112]⟩] = s29 := by decide +kernel
theorem k29_line : lineP ms30 ds30 x29 = (s29, 0) := by
  unfold lineP
  rw [k29_write]
  simp only
  rw [k29_join]
theorem k29_parse (hok : CatOk ds30 ms30) : parseP ms30 ds30 (lineW s29) = (x29, 0, 0) := by
  have h := parse_line hok (x := x29) (by unfold x29 isI; decide) k29_write
  rw [k29_join] at h
  rw [h]
  rfl
theorem k29_words : lineW g29 = [⟨#[103, 101, 116]⟩, ⟨#[109, 97, 105, 110]⟩, ⟨#[109, 47, 98]⟩] := by decide +kernel
theorem k29_err : parseP ms30 ds30 (lineW g29) = (cm0, 2, 10) := by
  rw [k29_words]
  have c := cell_text (l := [⟨#[109]⟩, ⟨#[98]⟩]) (by decide) (by intro x hx; simp at hx; rcases hx with rfl | rfl <;> decide +kernel)
  rw [show joinB slash [⟨#[109]⟩, ⟨#[98]⟩] = ⟨#[109, 47, 98]⟩ by decide +kernel] at c
  have n0 : nx [⟨#[103, 101, 116]⟩, ⟨#[109, 97, 105, 110]⟩, ⟨#[109, 47, 98]⟩] 1 0 = some ⟨#[103, 101, 116]⟩ := nx_at (pre := []) rfl (rdK_name (by decide +kernel))
  have n1 : nx [⟨#[103, 101, 116]⟩, ⟨#[109, 97, 105, 110]⟩, ⟨#[109, 47, 98]⟩] 1 1 = some ⟨#[109, 97, 105, 110]⟩ := nx_at (pre := [⟨#[103, 101, 116]⟩]) rfl (rdK_name (by decide +kernel))
  have n2 : nx [⟨#[103, 101, 116]⟩, ⟨#[109, 97, 105, 110]⟩, ⟨#[109, 47, 98]⟩] 3 2 = some ⟨#[109, 47, 98]⟩ := nx_at (pre := [⟨#[103, 101, 116]⟩, ⟨#[109, 97, 105, 110]⟩]) rfl c.1
  unfold parseP
  rw [n0]
  have ek : kindI ⟨#[103, 101, 116]⟩ = 11 := by decide +kernel
  simp only [ek]
  rw [if_neg (by decide), show shapeL 11 = [115, 99] from rfl]
  have e : cellE ms30 ds30 ⟨#[109]⟩ [⟨#[98]⟩] = 10 := by decide +kernel
  rw [foldP_cons]
  rw [oneP_name (.inr (.inl rfl))]
  unfold nameP
  simp only [n1]
  rw [foldP_cons]
  unfold oneP
  rw [if_neg (by decide), if_pos rfl]
  unfold cellP
  simp only [n2, c.2, List.getD_cons_zero, List.drop_succ_cons, List.drop_zero, e]
  rw [if_pos (by decide)]
  rfl
end Go.Proofs.YtpehinmckppjoaaGreatDoor
namespace Go.Proofs.YtpehinmckppjoaaGreatDoor
open Go.RowKit Go.Maps
set_option linter.unusedSimpArgs false
set_option linter.unusedVariables false

set_option maxHeartbeats 4000000 in
set_option maxRecDepth 100000 in
theorem law29_known (w : World) (hV : FV w) (hVs : Vars w) : Calls Tryz.prog 8 #[] w fun e w' => e = .returned (.bool true) ∧ Kept w w' := by
  have HO := hidMk (fun (W : World) g q b (h1 : W.cell? ⟨g, 0, none⟩ = some (.string ⟨#[120]⟩)) (h2 : W.cell? ⟨g, 1, none⟩ = some (.slice (some ⟨q, 0, none⟩) 1 1)) (hn : Ns W (some ⟨q, 0, none⟩) 1 k30) (h3 : W.cell? ⟨b, 0, none⟩ = some (.string ⟨#[109]⟩)) => law29_open (some ⟨g, 0, none⟩) 1 1 ds30 _ (some ⟨b, 0, none⟩) 1 1 ms30 9 3 W (k30_dss h1 h2 hn) (one_ss h3) k30_sz)
  have HNS := hidMk (k30_ns w)
  go_enter Tryz.func8, Tryz.ntmps8
  go_wp2_with fail
  refine (HO.out _ _ w.heap.size _ ?c1 ?c2 ?c3 ?c4).mono ?_
  case c1 => exact ((Kept.refl _).alloc _).cellp (new_cell _ _ _ _ _ _ (by simp) rfl)
  case c2 => exact ((Kept.refl _).alloc _).cellp (new_cell _ _ _ _ _ _ (by simp) rfl)
  case c3 => exact (HNS.out _).kept (((Kept.refl _).alloc _).alloc _)
  case c4 => exact new_cell _ _ _ _ _ _ (by simp) rfl
  rintro e w1 ⟨⟨_, hns⟩ | ⟨pd, pq, at_, rfl, hc, ⟨w0, tp, ma, mc, dv, hd⟩, _⟩, k1⟩
  · rcases hns with hns | ⟨at_, er, hc, her⟩
    · exact absurd k30_small hns
    · exact absurd (k30_cat hc) her
  have hok := cat_ok hc
  have K1 := hidMk (show Kept w w1 from ((((Kept.refl w).alloc _).alloc _).alloc _).trans k1)
  have HP1 := hidMk (show ∀ y, Kept w1 y → Calls Tryz.prog 9 #[.pointer (some ⟨pd, 0, none⟩), .string s29] y fun e w' => e = .returned (.tuple #[cmV x29, .int .i64 0, .int .i64 0]) ∧ Kept y w' from fun y hy => by
    have h := ps_Parse (W := y) (w0 := y) ⟨_, _, _, _, _, _, _, hd.kept hy⟩ hok (hV.kept (K1.out.trans hy)) (hVs.kept (K1.out.trans hy)) s29 (by decide)
    rw [k29_parse hok] at h
    exact h)
  have HP2 := hidMk (show ∀ y, Kept w1 y → Calls Tryz.prog 9 #[.pointer (some ⟨pd, 0, none⟩), .string g29] y fun e w' => e = .returned (.tuple #[cmV cm0, .int .i64 2, .int .i64 10]) ∧ Kept y w' from fun y hy => by
    have h := ps_Parse (W := y) (w0 := y) ⟨_, _, _, _, _, _, _, hd.kept hy⟩ hok (hV.kept (K1.out.trans hy)) (hVs.kept (K1.out.trans hy)) g29 (by decide)
    rw [k29_err] at h
    exact h)
  have HL := hidMk (show ∀ y, Kept w1 y → Calls Tryz.prog 15 #[.pointer (some ⟨pd, 0, none⟩), cmV x29] y fun e w' => e = .returned (.tuple #[.string s29, .int .i64 0]) ∧ Kept y w' from fun y hy => by
    have h := ps_Line (W := y) ⟨_, _, _, _, _, _, _, hd.kept hy⟩ hok (hV.kept (K1.out.trans hy)) x29 ⟨by decide, by decide, by decide, by unfold x29 isI; decide⟩
    rw [k29_line] at h
    exact h)
  have HKD := hidMk (show ∀ y, Kept w1 y → _ from fun y hy => ps_Kind y (hV.kept (K1.out.trans hy)) ⟨#[116, 111, 112]⟩)
  rw [show kindI ⟨#[116, 111, 112]⟩ = 18 by decide +kernel] at HKD
  have HNM := hidMk (show ∀ y, Kept w1 y → _ from fun y hy => ps_Name y (hV.kept (K1.out.trans hy)) 11)
  rw [show kwI 11 = ⟨#[103, 101, 116]⟩ by decide +kernel] at HNM
  clear hc hd hok k1 HO HNS hV hVs
  unfold cmV cmL x29 at HP1 HL
  unfold cmV cmL cm0 at HP2
  unfold s29 at HP1 HL
  unfold g29 at HP2
  simp only at HP1 HP2 HL
  go_wp2_with fail
  refine (HP1.out _ (Kept.refl _)).mono ?_
  rintro e w2 ⟨rfl, k2⟩
  have K2 := hidMk k2
  clear k2
  go_wp2_with fail
  refine (HL.out _ (K2.out.alloc _)).mono ?_
  rintro e w3 ⟨rfl, k3⟩
  have y0 : w3.cell? ⟨w2.heap.size, 0, none⟩ = some (.int .i64 1) := k3.cellp (new_cell _ _ _ _ _ _ rfl rfl)
  have y1 : w3.cell? ⟨w2.heap.size, 1, none⟩ = some (.string ⟨#[97, 110, 110]⟩) := k3.cellp (new_cell _ _ _ _ _ _ rfl rfl)
  have y9 : w3.cell? ⟨w2.heap.size, 9, none⟩ = some (.int .i64 10) := k3.cellp (new_cell _ _ _ _ _ _ rfl rfl)
  have y10 : w3.cell? ⟨w2.heap.size, 10, none⟩ = some (.int .i64 1) := k3.cellp (new_cell _ _ _ _ _ _ rfl rfl)
  have K3 := hidMk (show Kept w1 w3 from (K2.out.alloc _).trans k3)
  clear k3
  go_wp2_with fail
  refine (HP2.out _ K3.out).mono ?_
  rintro e w4 ⟨rfl, k4⟩
  have K4 := hidMk (show Kept w1 w4 from K3.out.trans k4)
  have z0 := fun o => (k4.alloc o).cellp y0
  have z1 := fun o => (k4.alloc o).cellp y1
  have z9 := fun o => (k4.alloc o).cellp y9
  have z10 := fun o => (k4.alloc o).cellp y10
  clear k4 y0 y1 y9 y10 HP1 HP2 HL
  go_wp2_with fail
  refine (HKD.out _ (K4.out.alloc _)).mono ?_
  rintro e w5 ⟨rfl, rfl⟩
  go_wp2_with fail
  refine (HNM.out _ (K4.out.alloc _)).mono ?_
  rintro e w6 ⟨rfl, k6⟩
  have K6 := hidMk ((K4.out.alloc _).trans k6)
  clear k6
  go_wp2_with fail
  go_ret
  exact ⟨rfl, K1.out.trans K6.out⟩
end Go.Proofs.YtpehinmckppjoaaGreatDoor
