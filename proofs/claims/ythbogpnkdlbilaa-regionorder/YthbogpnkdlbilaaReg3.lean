/- region: Meet. -/
import Derived.Test.YthbogpnkdlbilaaReg2
import Derived.Deep.CutRange
namespace Go.Proofs.Ythbogpnkdlbilaa
open Go.RowKit Go.Maps
set_option linter.unusedSimpArgs false
set_option linter.unusedVariables false

theorem Rs.tail {w : World} {b o : Nat} {r : Rn} {x : List Rn} (h : Rs w (some ⟨b, o, none⟩) (r :: x)) : Rs w (some ⟨b, o + 2, none⟩) x :=
  ⟨fun hp => by
    obtain ⟨c, d, e, h2, h3⟩ := h.cells (by simp)
    cases e
    refine ⟨b, o + 2, rfl, h2, fun i hi => ?_⟩
    have := h3 (i + 1) (by simpa using hi)
    rw [show o + (i + 1) * 2 = o + 2 + i * 2 by omega] at this
    simpa [rnA] using this⟩
theorem Rs.empty {w : World} {a : Option Addr} {x : List Rn} (h : x.length = 0) : Rs w a x := ⟨fun hp => absurd hp (by omega)⟩
/-- A set whose runs lie in memory that is new. -/
def SetFr (w : World) (v : Value) : Prop := ∀ ad n c, v = .agg #[.slice (some ad) n c] → w.heap.size ≤ ad.block
theorem setFr_of {w : World} {v : Value} (h : ∀ ad n c, v = .slice (some ad) n c → w.heap.size ≤ ad.block) : SetFr w (.agg #[v]) := fun ad n c e => h ad n c (by simpa using e)
theorem meet_nil1 (m : List Rn) : meet [] m = [] := by rw [meet]
theorem meet_nil2 (l : List Rn) : meet l [] = [] := by cases l <;> rw [meet]
theorem meet_cons (r s : Rn) (t u : List Rn) : meet (r :: t) (s :: u) = (if max r.1 s.1 ≤ min r.2 s.2 then [(max r.1 s.1, min r.2 s.2)] else []) ++ (if r.2 < s.2 then meet t (s :: u) else meet (r :: t) u) := by rw [meet]
set_option maxHeartbeats 1000000 in
set_option maxRecDepth 100000 in
theorem region_Meet (v v2 : Value) (l m : List Rn) (w : World) (h : SetIs w v l) (g : SetIs w v2 m) (hl : l.length ≤ 40000) (hm : m.length ≤ 40000)
    (okl : ∀ r, r ∈ l → okR r) (okm : ∀ r, r ∈ m → okR r) : Calls Try.prog 16 #[v, v2] w fun e w' => ∃ v', e = .returned v' ∧ SetIs w' v' (meet l m) ∧ SetFr w v' ∧ Kept w w' := by
  obtain ⟨a, c, rfl, h1, h2, h3⟩ := h
  obtain ⟨b, d, rfl, g1, g2, g3⟩ := g
  have HR := hidMk h1
  have HR2 := hidMk g1
  have HL := hidMk okl
  have HM := hidMk okm
  obtain ⟨O, hO⟩ : ∃ O, meet l m = O := ⟨_, rfl⟩
  rw [hO]
  have HO := hidMk hO
  clear h1 h3 g1 g3 hO okl okm
  go_enter Try.func16, Try.ntmps16
  go_wp2_with fail
  go_region
  go_wp2_with fail
  go_loopg [6, 7] (l.length + m.length) (fun g p q wr => ∃ (x y : List Rn) (ad bd : Option Addr) (ca cb : Nat) (vv : Value) (acc : List Rn), x.length + y.length = g ∧ p = .slice ad x.length ca ∧ q = .slice bd y.length cb ∧ x.length ≤ ca ∧ y.length ≤ cb ∧ Hid (Rs w ad x) ∧ Hid (Rs w bd y) ∧ SB w wr (w.heap.size + 1 + 1) (w.heap.size + 1 + 1 + 1) (w.heap.size + 1 + 1 + 1 + 1) vv acc ∧ Hid (acc ++ meet x y = O) ∧ acc.length + x.length + y.length ≤ l.length + m.length ∧ Hid ((∀ r, r ∈ x → okR r) ∧ ∀ r, r ∈ y → okR r))
  case atStart =>
    refine ⟨l, m, a, b, c, d, .slice none 0 0, [], rfl, rfl, rfl, h2, g2, HR, HR2, ?_, hidMk (by rw [← HO.out]; rfl), by simp, hidMk ⟨HL.out, HM.out⟩⟩
    exact (sb_start (by simp) (((Kept.refl w).alloc _).alloc _) _ _).keep (Kept.refl _).drew
  case round =>
    obtain ⟨x, y, ad, bd, ca, cb, vv, acc, hg, rfl, rfl, hca, hcb, HX, HY, hS, HA, hal, HK⟩ := hrel
    obtain ⟨da, dc, rfl, _⟩ := hS.own.rs
    have HG := hidMk hg
    have HS := hidMk hS
    have hsz := hS.hB
    have s0 := hS.c
    have sf := hS.f
    obtain ⟨ru, hru⟩ := hS.rc
    have hrf := hS.rf
    have hw : w.heap.size ≤ wr.heap.size := hS.kept.size
    cases x with
    | nil =>
      have HE := hidMk (show acc = O by rw [← HA.out, meet_nil1, List.append_nil])
      clear hS hg
      go_wp2_with fail
      obtain ⟨t1, t2, t3, t4⟩ := HS.out.ret (by omega)
      exact set_ret rfl (w.heap.size + 1 + 1) _ rfl rfl t1 ⟨_, rfl, by rw [← HE.out]; exact t2, setFr_of (fun ad n c e => by have := t4 ad n c e; omega), t3⟩
    | cons r x =>
      cases y with
      | nil =>
        have HE := hidMk (show acc = O by rw [← HA.out, meet_nil2, List.append_nil])
        clear hS hg
        have hpos : (0 : Int) < ((r :: x).length : Int) := by rw [List.length_cons]; omega
        generalize (r :: x).length = nx at *
        go_wp2_with fail
        obtain ⟨t1, t2, t3, t4⟩ := HS.out.ret (by omega)
        exact set_ret rfl (w.heap.size + 1 + 1) _ rfl rfl t1 ⟨_, rfl, by rw [← HE.out]; exact t2, setFr_of (fun ad n c e => by have := t4 ad n c e; omega), t3⟩
      | cons q y =>
        obtain ⟨b1, o1, rfl, hb1, hc1⟩ := HX.out.cells (by simp)
        obtain ⟨b2, o2, rfl, hb2, hc2⟩ := HY.out.cells (by simp)
        obtain ⟨e1, e2⟩ := hc1 0 (by simp)
        obtain ⟨e3, e4⟩ := hc2 0 (by simp)
        simp only [rnA, List.getD_cons_zero, Nat.zero_mul, Nat.add_zero] at e1 e2 e3 e4
        have HMC := hidMk (meet_cons r q x y)
        have ho1 := HK.out.1 r (List.mem_cons_self ..)
        have ho2 := HK.out.2 q (List.mem_cons_self ..)
        have K0 := hS.kept
        have HKW := hidMk K0
        clear hS hg hc1 hc2
        obtain ⟨r1, r2⟩ := r
        obtain ⟨q1, q2⟩ := q
        unfold okR top at ho1 ho2
        simp only at e1 e2 e3 e4 ho1 ho2 HMC
        simp only [List.length_cons] at *
        have hpos : (0 : Int) < ((x.length + 1 : Nat) : Int) := by omega
        have hpos2 : (0 : Int) < ((y.length + 1 : Nat) : Int) := by omega
        have f1 := K0.cellp e1
        have f2 := K0.cellp e2
        have f3 := K0.cellp e3
        have f4 := K0.cellp e4
        have HE2 := hidMk e2
        have HE4 := hidMk e4
        clear K0 e1 e2 e3 e4 s0 sf hru hrf
        have hb1' : b1 < wr.heap.size := by omega
        have hb2' : b2 < wr.heap.size := by omega
        go_upto_region 4 with fail
        go_cut [8] from 21 to 39 (fun p W => p = .pointer (some ⟨wr.heap.size, 0, none⟩) ∧ SB w W (w.heap.size + 1 + 1) (w.heap.size + 1 + 1 + 1) (w.heap.size + 1 + 1 + 1 + 1) (.slice da acc.length dc) acc ∧ W.cell? ⟨wr.heap.size, 0, none⟩ = some (.int .i64 (max r1 q1)) ∧ W.cell? ⟨wr.heap.size, 1, none⟩ = some (.int .i64 (min r2 q2)) ∧ W.heap.size = wr.heap.size + 1)
        case first =>
          go_region
          all_goals (try go_wp2_with fail)
          all_goals go_meet
          all_goals exact ⟨rfl, HS.out.keep (((Kept.refl wr).alloc _).drew), by simp; omega, by simp; omega, by simp⟩
        case rest =>
          obtain ⟨rfl, hS2, n0, n1, hWs⟩ := hcut
          clear hWs
          obtain ⟨F, hF⟩ : ∃ F, max r1 q1 = F := ⟨_, rfl⟩
          obtain ⟨G, hG⟩ : ∃ G, min r2 q2 = G := ⟨_, rfl⟩
          rw [hF] at n0
          rw [hG] at n1
          have HME := hidMk (show acc ++ (if F ≤ G then [(F, G)] else []) ++ (if r2 < q2 then meet x ((q1, q2) :: y) else meet ((r1, r2) :: x) y) = O by rw [← HA.out, HMC.out, hF, hG, List.append_assoc])
          have HS2 := hidMk hS2
          have s0 := hS2.c
          have sf := hS2.f
          have hW2 := hS2.hB
          clear hS2 f1 f2 f3 f4 hF hG HMC HA HS
          go_upto_if 44 with fail
          go_cut [] from 44 to 50 (fun W' => ∃ (vv : Value) (acc' : List Rn), SB w W' (w.heap.size + 1 + 1) (w.heap.size + 1 + 1 + 1) (w.heap.size + 1 + 1 + 1 + 1) vv acc' ∧ acc' = acc ++ (if F ≤ G then [(F, G)] else []))
          case first =>
            by_cases hC : F ≤ G
            · have HP := hidMk (show ∀ (Y : World) (v' : Value) (m : List Rn), OwnR Y (w.heap.size + 1 + 1 + 1 + 1) v' m → Chg (fun k => (Value.slice da acc.length dc).ownBlock = some k) (wc.alloc (.cells #[.int .i64 F, .int .i64 G] 47)) Y → _ from fun Y v' m ho hc => HS2.out.pushK ((Kept.refl wc).alloc _) ho hc)
              go_wp2_with (at_builtin; refine wpList_pushR _ (by rfl) _ _ (by rfl) (w.heap.size + 1 + 1 + 1 + 1) (.slice da acc.length dc) acc (by rfl) (HS2.out.own.kept ((Kept.refl _).alloc _)) (by simp; omega) wc.heap.size (F, G) (by rfl) (by simp) (by simp) (by omega) (wc.heap.size + 1) (by simp) ?_; intro g4 cap4 w4 o4 k4 a4 l4; obtain ⟨z1, z2, ⟨z3, z4⟩, z5, z6, z7, z8⟩ := HP.out _ _ _ o4 k4; have H4 := hidMk z8; clear o4 k4 a4 l4 z6 z7 z8)
              go_meet
              exact ⟨_, _, H4.out, by rw [if_pos hC]⟩
            · have HC := hidMk (show G < F by omega)
              go_wp2_with fail
              go_meet
              exact ⟨_, _, HS2.out, by rw [if_neg (by have := HC.out; omega), List.append_nil]⟩
          case rest =>
            obtain ⟨vv, acc', hS3, hacc⟩ := hcut
            have HE3 := hidMk (show acc' ++ (if r2 < q2 then meet x ((q1, q2) :: y) else meet ((r1, r2) :: x) y) = O by rw [hacc]; exact HME.out)
            have hal2 : acc'.length ≤ acc.length + 1 := by rw [hacc, List.length_append]; split <;> simp
            have HS3 := hidMk hS3
            have p2 := hS3.kept.cellp HE2.out
            have p4 := hS3.kept.cellp HE4.out
            clear hS3 s0 sf n0 n1 hacc HME HS2
            by_cases hB : r2 < q2
            · have HE5 := hidMk (show acc' ++ meet x ((q1, q2) :: y) = O by rw [← HE3.out, if_pos hB])
              go_wp2_with fail
              go_region
              go_wp2_with fail
              all_goals
                go_roundg (gk - 1)
                case measure => have := HG.out; omega
                case rel => exact ⟨x, (q1, q2) :: y, _, _, _, _, _, acc', by have := HG.out; simp; omega, rfl, rfl, by omega, by simpa using hcb, hidMk (by first | exact HX.out.tail | exact Rs.empty (by omega)), HY, HS3.out.keep (Kept.refl _).drew, HE5, by simp; omega, hidMk ⟨fun r hr => HK.out.1 r (List.mem_cons_of_mem _ hr), HK.out.2⟩⟩
            · have HE5 := hidMk (show acc' ++ meet ((r1, r2) :: x) y = O by rw [← HE3.out, if_neg hB])
              go_wp2_with fail
              go_region
              go_wp2_with fail
              all_goals
                go_roundg (gk - 1)
                case measure => have := HG.out; omega
                case rel => exact ⟨(r1, r2) :: x, y, _, _, _, _, _, acc', by have := HG.out; simp; omega, rfl, rfl, by simpa using hca, by omega, HX, hidMk (by first | exact HY.out.tail | exact Rs.empty (by omega)), HS3.out.keep (Kept.refl _).drew, HE5, by simp; omega, hidMk ⟨HK.out.1, fun r hr => HK.out.2 r (List.mem_cons_of_mem _ hr)⟩⟩
end Go.Proofs.Ythbogpnkdlbilaa
