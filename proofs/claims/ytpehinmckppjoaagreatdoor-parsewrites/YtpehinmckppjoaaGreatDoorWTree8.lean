/- Members gone down in order: the closure of tree.lay, whole. -/
import Derived.Test.YtpehinmckppjoaaGreatDoorWChgIB
import Derived.Deep.CutRange
import Derived.Deep.RegionLaw
namespace Go.Proofs.YtpehinmckppjoaaGreatDoor
open Go.RowKit Go.Maps
set_option linter.unusedSimpArgs false
set_option linter.unusedVariables false

/-- What has become of a tree when these have been gone down. -/
def DownS (w0 : World) (p mb pb : Nat) (l : List Nd) (kv : Nat → Option Addr × Nat × Nat) (rk fr tu : Nat → Int) (O L : List Nat) (d : Nat) (ps : List Nat) (w' : World) : Prop :=
  ∃ rk' fr' tu' ov' lv', DR w0 w' p mb pb l kv rk' fr' tu' ov' lv' (O ++ dfsL l d ps) (L ++ (dfsL l d ps).filter (leafB l)) ∧ (∀ j, j ∈ dfsL l d ps → Spn l (L ++ (dfsL l d ps).filter (leafB l)) rk' fr' tu' j) ∧
    (∀ j, j ∉ dfsL l d ps → rk' j = rk j ∧ fr' j = fr j ∧ tu' j = tu j) ∧ ∀ j, leafB l j = false → rk' j = rk j
def DownP (w0 : World) (p mb pb : Nat) (l : List Nd) (kv : Nat → Option Addr × Nat × Nat) (rk fr tu : Nat → Int) (O L : List Nat) (d : Nat) (ps : List Nat) (e : Ending) (w' : World) : Prop :=
  e = .returned (.tuple #[]) ∧ DownS w0 p mb pb l kv rk fr tu O L d ps w'

theorem rk_upd {l : List Nd} {rk1 : Nat → Int} {i j : Nat} {z : Int} (hj : j ≠ i ∨ leafB l i = false) (hb : leafB l i = true) : (if j = i then z else rk1 j) = rk1 j := by
  rcases hj with hj | hj
  · rw [if_neg hj]
  · rw [hb] at hj; cases hj
theorem down_step {w0 W : World} {p mb pb : Nat} {l : List Nd} {kv : Nat → Option Addr × Nat × Nat} {rk fr tu rk1 fr1 to1 rk2 rk3 fr3 to3 : Nat → Int} {ov3 lv3 : Value} {O L O1 L1 E D : List Nat} {d i m : Nat} {qs : List Nat}
    (hE : dfsL l (d + 1) qs = E ++ (i :: D)) (hD : D = dfsL l d (kidN l i)) (hO1 : O ++ E = O1) (hL1 : L ++ E.filter (leafB l) = L1) (hfit : Fit l d (kidN l i)) (hd : d ≤ 7) (hiD : i ∉ D)
    (hm : ((L1 ++ if leafB l i then [i] else []) ++ D.filter (leafB l)).length = m) (h : DR w0 W p mb pb l kv rk3 fr3 (fun j => if j = i then (m : Int) else to3 j) ov3 lv3 ((O1 ++ [i]) ++ D) ((L1 ++ if leafB l i then [i] else []) ++ D.filter (leafB l)))
    (s9 : ∀ j, j ∈ D → Spn l ((L1 ++ if leafB l i then [i] else []) ++ D.filter (leafB l)) rk3 fr3 to3 j)
    (u9 : ∀ j, j ∉ D → rk3 j = rk2 j ∧ fr3 j = (if j = i then (L1.length : Int) else fr1 j) ∧ to3 j = to1 j) (n9 : ∀ j, leafB l j = false → rk3 j = rk2 j)
    (r1 : leafB l i = true → rk2 i = L1.length) (r2 : ∀ j, (j ≠ i ∨ leafB l i = false) → rk2 j = rk1 j)
    (s1 : ∀ j, j ∈ E → Spn l L1 rk1 fr1 to1 j) (u1 : ∀ j, j ∉ E → rk1 j = rk j ∧ fr1 j = fr j ∧ to1 j = tu j) (n1 : ∀ j, leafB l j = false → rk1 j = rk j) :
    DownS w0 p mb pb l kv rk fr tu O L (d + 1) qs W := by
  have hf : L ++ (E ++ (i :: D)).filter (leafB l) = (L1 ++ if leafB l i then [i] else []) ++ D.filter (leafB l) := by
    rw [← hL1, List.filter_append, List.filter_cons]
    cases leafB l i <;> simp
  have hlv : lvS l i = (if leafB l i then [i] else []) ++ D.filter (leafB l) := by
    unfold lvS
    rw [sub_eq hfit hd, ← hD, List.filter_cons]
    cases leafB l i <;> simp
  refine ⟨rk3, fr3, (fun j => if j = i then (m : Int) else to3 j), ov3, lv3, ?_, fun j hj => ?_, fun j hj => ?_, fun j hj => ?_⟩
  · rw [hE, hf]
    have e : O ++ (E ++ i :: D) = (O1 ++ [i]) ++ D := by rw [← hO1]; simp
    rw [e]
    exact h
  · rw [hE] at hj ⊢
    rw [hf]
    by_cases e : j = i
    · subst e
      refine ⟨L1, [], ?_, ?_, ?_, fun hl => ?_⟩
      · rw [hlv]; simp
      · rw [(u9 j hiD).2.1, if_pos rfl]
      · rw [hlv]; rw [List.append_assoc, List.length_append] at hm; simp only [if_true]; omega
      · rw [(u9 j hiD).1, r1 hl]
    · by_cases e2 : j ∈ D
      · exact (s9 j e2).same rfl rfl (by simp [e])
      · have e3 : j ∈ E := by
          simp only [List.mem_append, List.mem_cons] at hj
          rcases hj with h | h | h
          · exact h
          · exact absurd h e
          · exact absurd h e2
        obtain ⟨a1, a2, a3⟩ := u9 j e2
        rw [if_neg e] at a2
        rw [List.append_assoc]
        exact ((s1 j e3).more _).same (a1.trans (r2 j (.inl e))) a2 (by simp [e, a3])
  · rw [hE] at hj
    simp only [List.mem_append, List.mem_cons, not_or] at hj
    obtain ⟨a1, a2, a3⟩ := u9 j hj.2.2
    obtain ⟨b1, b2, b3⟩ := u1 j hj.1
    rw [if_neg hj.2.1] at a2
    exact ⟨(a1.trans (r2 j (.inl hj.2.1))).trans b1, a2.trans b2, by simp [hj.2.1, a3, b3]⟩
  · rw [n9 j hj, ← n1 j hj]
    by_cases e : j = i
    · subst e; exact r2 j (.inr hj)
    · exact r2 j (.inl e)

set_option maxHeartbeats 4000000 in
set_option maxRecDepth 100000 in
theorem tree_down {w0 : World} {p mb pb bx fx : Nat} {l : List Nd} {kv : Nat → Option Addr × Nat × Nat}
    (hbx : w0.cell? ⟨bx, 0, none⟩ = some (.pointer (some ⟨p, 0, none⟩))) (hfx : w0.cell? ⟨fx, 0, none⟩ = some (.func (.func 113) #[] #[.pointer (some ⟨bx, 0, none⟩), .pointer (some ⟨fx, 0, none⟩)]))
    (nb : ¬ (bx = p ∨ bx = mb)) (nf : ¬ (fx = p ∨ fx = mb))
    (hkids : ∀ j : Nat, j < l.length → Sl .i64 w0 (kv j).1 (kv j).2.1 (ints (kidN l j)) ∧ (0 < (kv j).2.1 → ∀ ad, (kv j).1 = some ad → ¬ (ad.block = p ∨ ad.block = mb)))
    (hac : ∀ i : Nat, i < l.length → ∀ d, i ∉ dfsL l d (kidN l i)) (d : Nat) :
    ∀ (ps : List Nat) (a : Option Addr) (n c : Nat) (ws : World) (rk fr tu : Nat → Int) (ov lv : Value) (O L : List Nat), Fit l d ps → d ≤ 7 → (∀ i, i ∈ ps → i < l.length) → Sl .i64 w0 a n (ints ps) → (0 < n → ∀ ad, a = some ad → ¬ (ad.block = p ∨ ad.block = mb)) →
      DR w0 ws p mb pb l kv rk fr tu ov lv O L → O.length + (dfsL l d ps).length ≤ 1000 → L.length + (dfsL l d ps).length ≤ 1000 →
      Calls Tryz.prog 113 #[.slice a n c, .pointer (some ⟨bx, 0, none⟩), .pointer (some ⟨fx, 0, none⟩)] ws (DownP w0 p mb pb l kv rk fr tu O L d ps) := by
  induction d with
  | zero =>
    intro ps a n c ws rk fr tu ov lv O L hf _ _ hs _ hD _ _
    have e : ps = [] := hf
    subst e
    have hn : n = 0 := hs.len.symm
    subst hn
    have HD := hidMk hD
    clear hD hs hbx hfx hkids hac
    go_enter Tryz.func113, Tryz.ntmps113
    go_wp2_with fail
    refine wp_loop_rounds 1 ?_
    rw [rounds_succ]
    go_wp2_with fail
    go_end0
    exact ⟨rfl, rk, fr, tu, ov, lv, by simpa [dfsL] using HD.out, fun j hj => by simp [dfsL] at hj, fun j _ => ⟨rfl, rfl, rfl⟩, fun j _ => rfl⟩
  | succ d ih =>
    intro ps a n c ws rk fr tu ov lv O L hf hd hps hs hsb hD hbo hbl
    have IH := hidMk ih
    have HD := hidMk hD
    have HF := hidMk hf
    have HP := hidMk hps
    have HS := hidMk hs
    have HSB := hidMk hsb
    have HBX := hidMk hbx
    have HFX := hidMk hfx
    have HNB := hidMk nb
    have HNF := hidMk nf
    have HK := hidMk hkids
    have HAC := hidMk hac
    have hlen : ps.length = n := by rw [← ints_len]; exact hs.len
    have hbig := hs.big
    unfold maxLen at hbig
    have hlt := hD.lt
    have hb60 := hD.tm.big
    have HBO := hidMk hbo
    have HBL := hidMk hbl
    clear ih hD hf hps hs hsb hbx hfx nb nf hkids hac hbo hbl
    go_enter Tryz.func113, Tryz.ntmps113
    go_wp2_with fail
    go_loopg [9] n (fun g x wr => ∃ k : Nat, k + g = n ∧ x = .int .i64 k ∧ DownS w0 p mb pb l kv rk fr tu O L (d + 1) (ps.take k) wr)
    case atStart =>
      refine ⟨0, by omega, rfl, rk, fr, tu, ov, lv, ?_, fun j hj => by simp [dfsL] at hj, fun j _ => ⟨rfl, rfl, rfl⟩, fun j _ => rfl⟩
      simpa [dfsL] using HD.out
    case round =>
      obtain ⟨k, hkg, rfl, rk1, fr1, to1, ov1, lv1, h1, sp1, un1, nl1⟩ := hrel
      have HKG := hidMk hkg
      by_cases hkn : k < n
      · clear hkg
        have hkp : k < ps.length := by omega
        obtain ⟨i, hieq⟩ : ∃ i, ps[k] = i := ⟨_, rfl⟩
        have hi : i < l.length := by rw [← hieq]; exact HP.out _ (List.getElem_mem hkp)
        have HFI := hidMk (show Fit l d (kidN l i) by rw [← hieq]; exact HF.out _ (List.getElem_mem hkp))
        have HTK := hidMk (show dfsL l (d + 1) (ps.take (k + 1)) = dfsL l (d + 1) (ps.take k) ++ (i :: dfsL l d (kidN l i)) by
          rw [List.take_succ_eq_append_getElem hkp, dfsL_app, hieq]
          simp [dfsL])
        have HLE := hidMk (show (dfsL l (d + 1) (ps.take k)).length + 1 + (dfsL l d (kidN l i)).length ≤ (dfsL l (d + 1) ps).length by
          have e : dfsL l (d + 1) ps = dfsL l (d + 1) (ps.take (k + 1)) ++ dfsL l (d + 1) (ps.drop (k + 1)) := by rw [← dfsL_app, List.take_append_drop]
          rw [e, HTK.out]
          simp
          omega)
        obtain ⟨b, o, rfl, hb, hcs⟩ := HS.out.cells (by omega)
        have hcell : wr.cell? ⟨b, o + k, none⟩ = some (.int .i64 (i : Nat)) := by
          have e := hcs k hkn
          rw [ints_get ps k hkp, hieq] at e
          exact h1.chg.cellp e (HSB.out (by omega) _ rfl)
        clear hcs hieq
        obtain ⟨O1, hO1⟩ : ∃ O1, O ++ dfsL l (d + 1) (ps.take k) = O1 := ⟨_, rfl⟩
        obtain ⟨L1, hL1⟩ : ∃ L1, L ++ (dfsL l (d + 1) (ps.take k)).filter (leafB l) = L1 := ⟨_, rfl⟩
        have hO1l : O1.length + 1 + (dfsL l d (kidN l i)).length ≤ 1000 := by
          rw [← hO1, List.length_append]
          have := HLE.out
          have := HBO.out
          omega
        have hL1l : L1.length + 1 + (dfsL l d (kidN l i)).length ≤ 1000 := by
          rw [← hL1, List.length_append]
          have := HLE.out
          have := HBL.out
          have := List.length_filter_le (leafB l) (dfsL l (d + 1) (ps.take k))
          omega
        rw [hO1, hL1] at h1
        rw [hL1] at sp1
        obtain ⟨oa, oc, rfl, _⟩ := h1.ord.sl (by rw [ints_len]; unfold maxLen; omega)
        obtain ⟨la, lc, rfl, _⟩ := h1.lvs.sl (by rw [ints_len]; unfold maxLen; omega)
        rw [ints_len] at h1
        rw [ints_len] at h1
        have HO1 := hidMk hO1
        have HL1 := hidMk hL1
        have H1 := hidMk h1
        have SP1 := hidMk sp1
        have UN1 := hidMk un1
        have NL1 := hidMk nl1
        have t0 := h1.tm.c0
        have tb := h1.chg.cellp HBX.out HNB.out
        have t2 := h1.tm.c2
        have hsz := h1.chg.size
        have HOV := hidMk (show ∀ y, Kept wr y → OwnI y w0.heap.size (.slice oa O1.length oc) (ints O1) from fun y hy => (h1.kept hy).ord)
        have HPO := hidMk (show ∀ (y z : World) (g cap nl : Nat), Kept wr y → OwnI z w0.heap.size (.slice (some ⟨g, 0, none⟩) nl cap) (ints O1 ++ [(i : Int)]) → Chg (fun t => (Value.slice oa O1.length oc).ownBlock = some t) y z → ((Value.slice oa O1.length oc).ownBlock = some g ∨ g = y.heap.size) → _ from fun y z g cap nl hy ho hc hg => (h1.kept hy).pushO i ho hc hg)
        have HPB := hidMk (show ∀ (y z : World), Kept wr y → Chg (fun t => (Value.slice oa O1.length oc).ownBlock = some t) y z → z.cell? ⟨bx, 0, none⟩ = some (.pointer (some ⟨p, 0, none⟩)) from fun y z hy hc => hc.cellp (hy.cellp tb) (fun e => by have := (h1.ord.lt bx e).1; have hbl : bx < w0.heap.size := cell_lt HBX.out; omega))
        have tb' := fun o => (((Kept.refl wr).alloc o).drew).cellp tb
        have t2' := fun o => (((Kept.refl wr).alloc o).drew).cellp t2
        clear h1 sp1 un1 nl1 hO1 hL1
        have hil : (i : Int) < (l.length : Int) := by omega
        go_upto_region 4 with fail
        go_cut [] from 10 to 75 (fun w => ∃ oa' oc', DR w0 w p mb pb l kv rk1 fr1 to1 (.slice oa' (O1.length + 1) oc') (.slice la L1.length lc) (O1 ++ [i]) L1)
        case first =>
          go_region_law ((refine step_pushI _ (by rfl) _ _ (by rfl) w0.heap.size (.slice oa O1.length oc) (ints O1) (by rfl) (HOV.out _ (((Kept.refl _).alloc _).drew)) (by simp; omega) wr.heap.size (i : Int) (by rfl) (by simp) (by rw [ints_len]; omega) (wr.heap.size + 1) (by simp) ?_; intro g4 cap4 w4 o4 k4 a4 l4; rw [ints_len] at o4; obtain ⟨q4, f4, d4⟩ := HPO.out _ w4 g4 cap4 _ (((Kept.refl _).alloc _).drew) o4 k4 (by simpa using a4); have m4 := HPB.out _ w4 (((Kept.refl _).alloc _).drew) k4; have m5 := d4.chg.cellp HBX.out HNB.out; have H4 := hidMk d4; rw [ints_len]; clear o4 k4 a4 l4 d4))
          all_goals (try go_wp2_with fail)
          all_goals go_meet
          all_goals exact ⟨_, _, H4.out⟩
        case rest =>
          obtain ⟨oa', oc', h4⟩ := hcut
          have H4 := hidMk h4
          obtain ⟨ka, hka⟩ : ∃ ka, kv i = ka := ⟨_, rfl⟩
          obtain ⟨ka, kn, kc⟩ := ka
          have HKV := hidMk hka
          obtain ⟨hks, hkb⟩ := HK.out i hi
          rw [hka] at hks hkb
          have hknl : (kidN l i).length = kn := by rw [← ints_len]; exact hks.len
          have HKS := hidMk hks
          have HKB := hidMk hkb
          have x3 := h4.tm.c3
          have xb := h4.chg.cellp HBX.out HNB.out
          have x4 := h4.tm.fr i hi
          have x2 := h4.tm.kd i hi
          have xf := h4.tm.fm
          rw [hka] at x2
          simp only [slv] at x2
          have HFR := hidMk (h4.setFr i hi (L1.length : Int))
          clear h4 hka hks hkb tb' t2' t2 tb t0 hcell HOV HPO HPB
          have hil2 : L1.length ≤ 1000 := by omega
          go_upto_if 42 with fail
          refine gen_world (f := fun W => Code.wp _ _ _ _ W) (fun W => DR w0 W p mb pb l kv rk1 (fun j => if j = i then (L1.length : Int) else fr1 j) to1 (.slice oa' (O1.length + 1) oc') (.slice la L1.length lc) (O1 ++ [i]) L1) HFR.out ?_
          intro W5 h5
          have H5 := hidMk h5
          clear x3 xb x4 x2 xf HFR h5
          go_cut [] from 10 to 75 (fun w => ∃ (rk2 : Nat → Int) (lv2 : Value), DR w0 w p mb pb l kv rk2 (fun j => if j = i then (L1.length : Int) else fr1 j) to1 (.slice oa' (O1.length + 1) oc') lv2 (O1 ++ [i]) (L1 ++ if leafB l i then [i] else []) ∧ (leafB l i = true → rk2 i = L1.length) ∧ ∀ j, (j ≠ i ∨ leafB l i = false) → rk2 j = rk1 j)
          case first =>
            by_cases hlf : kn = 0
            · subst hlf
              have hlb : leafB l i = true := by
                have : kidN l i = [] := List.eq_nil_of_length_eq_zero hknl
                simp [leafB, this]
              have HLB := hidMk hlb
              clear hlb
              have y3 := H5.out.tm.c3
              have yb := H5.out.chg.cellp HBX.out HNB.out
              have yr := H5.out.tm.rk i hi
              have yf := H5.out.tm.fm
              have HRK := hidMk (H5.out.setRk i hi (L1.length : Int))
              go_upto_region 8 with fail
              refine gen_world (f := fun W => Code.wp _ _ _ _ W) (fun W => DR w0 W p mb pb l kv (fun j => if j = i then (L1.length : Int) else rk1 j) (fun j => if j = i then (L1.length : Int) else fr1 j) to1 (.slice oa' (O1.length + 1) oc') (.slice la L1.length lc) (O1 ++ [i]) L1) HRK.out ?_
              intro W7 h7
              have H7 := hidMk h7
              clear y3 yb yr yf HRK
              have z3 := h7.tm.c3
              have zb := h7.chg.cellp HBX.out HNB.out
              have zb' := fun o => (((Kept.refl W7).alloc o).drew).cellp zb
              have z3' := fun o => (((Kept.refl W7).alloc o).drew).cellp z3
              have zsz := h7.chg.size
              have HOL := hidMk (show ∀ y, Kept W7 y → OwnI y w0.heap.size (.slice la L1.length lc) (ints L1) from fun y hy => (h7.kept hy).lvs)
              have HPL := hidMk (show ∀ (y z : World) (g cap nl : Nat), Kept W7 y → OwnI z w0.heap.size (.slice (some ⟨g, 0, none⟩) nl cap) (ints L1 ++ [(i : Int)]) → Chg (fun t => (Value.slice la L1.length lc).ownBlock = some t) y z → ((Value.slice la L1.length lc).ownBlock = some g ∨ g = y.heap.size) → _ from fun y z g cap nl hy ho hc hg => (h7.kept hy).pushL i ho hc hg)
              have HPB := hidMk (show ∀ (y z : World), Kept W7 y → Chg (fun t => (Value.slice la L1.length lc).ownBlock = some t) y z → z.cell? ⟨bx, 0, none⟩ = some (.pointer (some ⟨p, 0, none⟩)) from fun y z hy hc => hc.cellp (hy.cellp zb) (fun e => by have := (h7.lvs.lt bx e).1; have hbl : bx < w0.heap.size := cell_lt HBX.out; omega))
              clear h7
              go_region_law ((refine step_pushI _ (by rfl) _ _ (by rfl) w0.heap.size (.slice la L1.length lc) (ints L1) (by rfl) (HOL.out _ (((Kept.refl _).alloc _).drew)) (by simp; omega) W7.heap.size (i : Int) (by rfl) (by simp) (by rw [ints_len]; omega) (W7.heap.size + 1) (by simp) ?_; intro g8 cap8 w8 o8 k8 a8 l8; rw [ints_len] at o8; obtain ⟨q8, f8, d8⟩ := HPL.out _ w8 g8 cap8 _ (((Kept.refl _).alloc _).drew) o8 k8 (by simpa using a8); have m8 := HPB.out _ w8 (((Kept.refl _).alloc _).drew) k8; have H8 := hidMk d8; rw [ints_len]; clear o8 k8 a8 l8 d8))
              all_goals (try go_wp2_with fail)
              all_goals go_meet
              all_goals exact ⟨_, _, by rw [HLB.out]; exact H8.out, fun _ => by simp, fun j hj => rk_upd hj HLB.out⟩
            · have hlb : leafB l i = false := by
                have : kidN l i ≠ [] := fun e => hlf (by rw [← hknl, e]; rfl)
                simp [leafB, this]
              have HLB := hidMk hlb
              clear hlb
              go_wp2_with fail
              go_meet
              exact ⟨rk1, _, by rw [HLB.out]; simpa using H5.out, fun h => (by rw [HLB.out] at h; cases h), fun j _ => rfl⟩
          case rest =>
            obtain ⟨rk2, lv2, h8, r1, r2⟩ := hcut
            have H8 := hidMk h8
            have R1 := hidMk r1
            have R2 := hidMk r2
            have m1 := h8.tm.kd i hi
            rw [HKV.out] at m1
            simp only [slv] at m1
            have m2 := h8.chg.cellp HBX.out HNB.out
            have m3 := h8.chg.cellp HFX.out HNF.out
            obtain ⟨L2, hL2⟩ : ∃ L2, (L1 ++ if leafB l i then [i] else []) = L2 := ⟨_, rfl⟩
            have hL2l : L2.length + (dfsL l d (kidN l i)).length ≤ 1000 := by
              rw [← hL2, List.length_append]
              have : (if leafB l i then [i] else []).length ≤ 1 := by cases leafB l i <;> simp
              omega
            rw [hL2] at H8
            have HKY := hidMk (show ∀ y, Kept wc y → Calls Tryz.prog 113 #[.slice ka kn kc, .pointer (some ⟨bx, 0, none⟩), .pointer (some ⟨fx, 0, none⟩)] y (DownP w0 p mb pb l kv rk2 (fun j => if j = i then (L1.length : Int) else fr1 j) to1 (O1 ++ [i]) L2 d (kidN l i)) from fun y hy =>
              IH.out (kidN l i) ka kn kc y _ _ _ _ _ _ _ HFI.out (by omega) (fun j hj => (mem_kidN.1 hj).1) HKS.out HKB.out (H8.out.kept hy) (by simp; omega) hL2l)
            have HL2 := hidMk hL2
            clear hL2 h8 r1 r2
            go_wp2_with fail
            go_region_held3 (fun w' => w'.cell? ⟨fx, 0, none⟩ = some (.func (.func 113) #[] #[.pointer (some ⟨bx, 0, none⟩), .pointer (some ⟨fx, 0, none⟩)]) ∧ w'.cell? ⟨mb, i * 6 + 2, none⟩ = some (.slice ka kn kc)) (first | go_keep | (refine ⟨?_, ?_⟩ <;> assumption)) ((go_at_call 113; refine (HKY.out _ ((Kept.refl _).drew)).mono ?_; rintro e W9 ⟨rfl, rk3, fr3, to3, ov3, lv3, h9, sp9, un9, nl9⟩; have c9a := h9.chg.cellp HFX.out HNF.out; have c9b := h9.tm.kd i hi; rw [HKV.out] at c9b; simp only [slv] at c9b; have H9 := hidMk h9; have S9 := hidMk sp9; have U9 := hidMk un9; have N9 := hidMk nl9; clear h9 sp9 un9 nl9))
            obtain ⟨la3, lc3, hlv3, _⟩ := H9.out.lvs.sl (by rw [ints_len, List.length_append]; have := List.length_filter_le (leafB l) (dfsL l d (kidN l i)); unfold maxLen; omega)
            rw [ints_len] at hlv3
            subst hlv3
            have y3 := H9.out.tm.c3
            have yb := H9.out.chg.cellp HBX.out HNB.out
            have yr := H9.out.tm.to i hi
            have yf := H9.out.tm.fm
            have HTO := hidMk (H9.out.setTo i hi ((L2 ++ (dfsL l d (kidN l i)).filter (leafB l)).length : Int))
            obtain ⟨nL3, hnL3⟩ : ∃ nL3, (L2 ++ (dfsL l d (kidN l i)).filter (leafB l)).length = nL3 := ⟨_, rfl⟩
            rw [hnL3] at y3 HTO
            have HN3 := hidMk hnL3
            clear hnL3
            go_wp2_with fail
            go_roundg (gk - 1)
            case measure => have := HKG.out; omega
            case rel =>
              refine ⟨k + 1, by have := HKG.out; omega, by go_num, ?_⟩
              have h10 := HTO.out
              rw [← HL2.out] at h10
              have hn3 := HN3.out
              rw [← HL2.out] at hn3
              have s9 := S9.out
              rw [← HL2.out] at s9
              exact down_step HTK.out rfl HO1.out HL1.out HFI.out (by omega) (HAC.out i hi d) hn3 h10 s9 U9.out N9.out R1.out R2.out SP1.out UN1.out NL1.out
      · have e : k = n := by omega
        subst e
        have HSS := hidMk (show DownS w0 p mb pb l kv rk fr tu O L (d + 1) (ps.take k) wr from ⟨rk1, fr1, to1, ov1, lv1, h1, sp1, un1, nl1⟩)
        clear h1 sp1 un1 nl1
        go_wp2_with fail
        go_end0
        refine ⟨rfl, ?_⟩
        have := HSS.out
        rwa [List.take_of_length_le (by omega)] at this
end Go.Proofs.YtpehinmckppjoaaGreatDoor
