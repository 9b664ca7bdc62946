/- dims.Cat, walked. -/
import Derived.Test.YtmedgkccicbieaaGreatQDims13B
import Derived.Deep.MidRow
namespace Go.Proofs.YtmedgkccicbieaaGreat
open Go.RowKit Go.Maps
set_option linter.unusedSimpArgs false
set_option linter.unusedVariables false

def CatPost (w : World) (ds : List Dm) (ms : List ByteArray) (lv sc : Int) (e : Ending) (w' : World) : Prop :=
  ∃ a c na b d, e = .returned (.agg #[.slice a ds.length c, .slice b ms.length d, .int .i64 lv, .int .i64 sc]) ∧ Dss w' a ds.length ds na ∧ Ss w' b ms.length ms ∧ Kept w w'
theorem far4 {W : World} {q p : Nat} (h : ¬ (q = p)) (a b c d : Value) (j : Nat) : ((((W.setCell ⟨q, 0, none⟩ a).setCell ⟨q, 1, none⟩ b).setCell ⟨q, 2, none⟩ c).setCell ⟨q, 3, none⟩ d).cell? ⟨p, j, none⟩ = W.cell? ⟨p, j, none⟩ := by
  have hn : ∀ o, (⟨p, j, none⟩ : Addr) ≠ ⟨q, o, none⟩ := fun o e => h (by simp only [Addr.mk.injEq] at e; exact e.1.symm)
  rw [World.cell?_setCell_other _ _ _ _ (fun e => hn 3 e.symm), World.cell?_setCell_other _ _ _ _ (fun e => hn 2 e.symm), World.cell?_setCell_other _ _ _ _ (fun e => hn 1 e.symm), World.cell?_setCell_other _ _ _ _ (fun e => hn 0 e.symm)]
theorem cr_new {w1 w3 : World} {T : TypeId} {mb : Option Addr} {m mc : Nat} {ms : List ByteArray} {lv sc : Int} {ds : List Dm} (k : Kept w1 w3) (hs : Ss w3 mb m ms) (hb : ∀ ad, mb = some ad → w1.heap.size ≤ ad.block) : CR w1 (w3.alloc (.cells #[.slice none 0 0, .slice mb m mc, .int .i64 lv, .int .i64 sc] T)) w3.heap.size ds (fun _ => (none, 0, 0)) 0 (.slice none 0 0) mb m mc ms lv sc := by
  refine ⟨k.alloc _, k.size, by simp, by simp, by simp, by simp, fun j => by simp, World.ownsRow_nil _ _ _ _, fun j hj => absurd hj (by omega), hs.kept ((Kept.refl w3).alloc _), fun hp ad had => ?_⟩
  obtain ⟨b, o, e1, e2, _⟩ := hs.cells hp
  have := hb ad had
  rw [had] at e1
  cases e1
  exact ⟨by simp only; omega, by simp only [World.size_alloc]; omega, by simp [Value.ownBlock], this⟩
theorem cr_old {w1 w3 : World} {mb : Option Addr} {m mc : Nat} {ms : List ByteArray} {lv sc : Int} {ds : List Dm} {u0 u1 u2 u3 : Value} (k : Kept w1 w3) (hs : Ss w3 mb m ms) (hb : ∀ ad, mb = some ad → w1.heap.size < ad.block) (c0 : w3.cell? ⟨w1.heap.size, 0, none⟩ = some u0) (c1 : w3.cell? ⟨w1.heap.size, 1, none⟩ = some u1) (c2 : w3.cell? ⟨w1.heap.size, 2, none⟩ = some u2) (c3 : w3.cell? ⟨w1.heap.size, 3, none⟩ = some u3) (hf : ∀ j, w3.frozen? ⟨w1.heap.size, j, none⟩ = false) :
    CR w1 ((((w3.setCell ⟨w1.heap.size, 0, none⟩ (.slice none 0 0)).setCell ⟨w1.heap.size, 1, none⟩ (.slice mb m mc)).setCell ⟨w1.heap.size, 2, none⟩ (.int .i64 lv)).setCell ⟨w1.heap.size, 3, none⟩ (.int .i64 sc)) w1.heap.size ds (fun _ => (none, 0, 0)) 0 (.slice none 0 0) mb m mc ms lv sc := by
  have g : Chg (· = w1.heap.size) w3 ((((w3.setCell ⟨w1.heap.size, 0, none⟩ (.slice none 0 0)).setCell ⟨w1.heap.size, 1, none⟩ (.slice mb m mc)).setCell ⟨w1.heap.size, 2, none⟩ (.int .i64 lv)).setCell ⟨w1.heap.size, 3, none⟩ (.int .i64 sc)) :=
    ((((Chg.refl (· = w1.heap.size) w3).setCell (p := ⟨w1.heap.size, 0, none⟩) (.inl rfl) _).setCell (p := ⟨w1.heap.size, 1, none⟩) (.inl rfl) _).setCell (p := ⟨w1.heap.size, 2, none⟩) (.inl rfl) _).setCell (p := ⟨w1.heap.size, 3, none⟩) (.inl rfl) _
  have hn : ∀ (i j : Nat), i ≠ j → ∀ (W : World) (v : Value), (W.setCell ⟨w1.heap.size, i, none⟩ v).cell? ⟨w1.heap.size, j, none⟩ = W.cell? ⟨w1.heap.size, j, none⟩ := fun i j hij W v => World.cell?_setCell_other _ _ _ _ (by intro e; simp only [Addr.mk.injEq] at e; omega)
  refine ⟨Chg.kept k g (fun j e => by omega), Nat.le_refl _, ?_, ?_, ?_, ?_, fun j => by simpa using hf j, World.ownsRow_nil _ _ _ _, fun j hj => absurd hj (by omega), hs.chg g (fun _ ad had e => by have := hb ad had; omega), fun hp ad had => ?_⟩
  · rw [hn 3 0 (by omega), hn 2 0 (by omega), hn 1 0 (by omega)]; exact World.cell?_setCell_same _ _ _ c0
  · rw [hn 3 1 (by omega), hn 2 1 (by omega)]; exact World.cell?_setCell_same _ _ _ ((hn 0 1 (by omega) _ _).trans c1)
  · rw [hn 3 2 (by omega)]; exact World.cell?_setCell_same _ _ _ ((hn 1 2 (by omega) _ _).trans ((hn 0 2 (by omega) _ _).trans c2))
  · exact World.cell?_setCell_same _ _ _ ((hn 2 3 (by omega) _ _).trans ((hn 1 3 (by omega) _ _).trans ((hn 0 3 (by omega) _ _).trans c3)))
  · obtain ⟨b, o, e1, e2, _⟩ := hs.cells hp
    have := hb ad had
    rw [had] at e1
    cases e1
    exact ⟨by simp only at this ⊢; omega, Nat.lt_of_lt_of_le e2 g.size, by simp [Value.ownBlock], by simp only at this ⊢; omega⟩
theorem set4 {W : World} {q : Nat} {u0 u1 u2 u3 : Value} (a b c d : Value) (c0 : W.cell? ⟨q, 0, none⟩ = some u0) (c1 : W.cell? ⟨q, 1, none⟩ = some u1) (c2 : W.cell? ⟨q, 2, none⟩ = some u2) (c3 : W.cell? ⟨q, 3, none⟩ = some u3) :
    ((((W.setCell ⟨q, 0, none⟩ a).setCell ⟨q, 1, none⟩ b).setCell ⟨q, 2, none⟩ c).setCell ⟨q, 3, none⟩ d).rangeAt q 0 [a, b, c, d] ∧ Chg (· = q) W ((((W.setCell ⟨q, 0, none⟩ a).setCell ⟨q, 1, none⟩ b).setCell ⟨q, 2, none⟩ c).setCell ⟨q, 3, none⟩ d) := by
  have hn : ∀ (i j : Nat), i ≠ j → ∀ (W : World) (v : Value), (W.setCell ⟨q, i, none⟩ v).cell? ⟨q, j, none⟩ = W.cell? ⟨q, j, none⟩ := fun i j hij W v => World.cell?_setCell_other _ _ _ _ (by intro e; simp only [Addr.mk.injEq] at e; omega)
  refine ⟨fun j v hv => ?_, ((((Chg.refl (· = q) W).setCell (p := ⟨q, 0, none⟩) (.inl rfl) _).setCell (p := ⟨q, 1, none⟩) (.inl rfl) _).setCell (p := ⟨q, 2, none⟩) (.inl rfl) _).setCell (p := ⟨q, 3, none⟩) (.inl rfl) _⟩
  have hj : j < 4 := by have := (List.getElem?_eq_some_iff.1 hv).1; simpa using this
  have : j = 0 ∨ j = 1 ∨ j = 2 ∨ j = 3 := by omega
  rw [Nat.zero_add]
  rcases this with rfl | rfl | rfl | rfl <;> (simp at hv; subst hv)
  · rw [hn 3 0 (by omega), hn 2 0 (by omega), hn 1 0 (by omega)]; exact World.cell?_setCell_same _ _ _ c0
  · rw [hn 3 1 (by omega), hn 2 1 (by omega)]; exact World.cell?_setCell_same _ _ _ ((hn 0 1 (by omega) _ _).trans c1)
  · rw [hn 3 2 (by omega)]; exact World.cell?_setCell_same _ _ _ ((hn 1 2 (by omega) _ _).trans ((hn 0 2 (by omega) _ _).trans c2))
  · exact World.cell?_setCell_same _ _ _ ((hn 2 3 (by omega) _ _).trans ((hn 1 3 (by omega) _ _).trans ((hn 0 3 (by omega) _ _).trans c3)))
theorem cat_size : (Tryz.prog.info? 25).map (·.size) = some 4 := by kernel_rfl
theorem cat_row : ∃ d, Tryz.prog.underlying 25 = some d ∧ d.isRow = true := ⟨_, Tryz.underlying25, rfl⟩
theorem cat_rets {R : Ending → World → Prop} {a : Act} {w : World} (g : Nat) (v0 v1 v2 v3 : Value) (hr : w.rangeAt g 0 [v0, v1, v2, v3]) (hp : a.tmps.getD 2 undef = .pointer (some ⟨g, 0, none⟩)) (hd : a.defers = [])
    (h : R (.returned (.agg #[v0, v1, v2, v3])) w) : bodyPost Tryz.prog Tryz.f93 R .ret a w := by
  obtain ⟨d, h1, h2⟩ := cat_row
  refine bodyPost_ret (v := .agg #[v0, v1, v2, v3]) ?_ hd h
  have hl := run_loadVar_mid (P := Tryz.prog) w g 0 25 [v0, v1, v2, v3] d hr h1 h2 cat_size
  have hp' : a.tmps[2]?.getD undef = .pointer (some ⟨g, 0, none⟩) := by simpa using hp
  have hres : Tryz.f93.results = #[.cell 2 25] := rfl
  simp [results, hres, hp', asAddr, hl]
theorem clone_new {w1 : World} {T : TypeId} {f : FuncId} {args : Array Value} {n : Nat} {l : List ByteArray} (hn : n ≤ 1000) (h : Calls Tryz.prog f args ((w1.alloc (.cells #[.slice none 0 0, .slice none 0 0, .int .i64 0, .int .i64 0] T)).drew) fun e w' => ∃ a' c', e = .returned (.slice a' n c') ∧ Ss w' a' n l ∧ (∀ ad, a' = some ad → ((w1.alloc (.cells #[.slice none 0 0, .slice none 0 0, .int .i64 0, .int .i64 0] T)).drew).heap.size ≤ ad.block) ∧ Kept ((w1.alloc (.cells #[.slice none 0 0, .slice none 0 0, .int .i64 0, .int .i64 0] T)).drew) w') :
    Calls Tryz.prog f args ((w1.alloc (.cells #[.slice none 0 0, .slice none 0 0, .int .i64 0, .int .i64 0] T)).drew) fun e W => ∃ a' c', e = .returned (.slice a' n c') ∧ Ss W a' n l ∧ (∀ ad, a' = some ad → ((w1.alloc (.cells #[.slice none 0 0, .slice none 0 0, .int .i64 0, .int .i64 0] T)).drew).heap.size ≤ ad.block) ∧ Kept ((w1.alloc (.cells #[.slice none 0 0, .slice none 0 0, .int .i64 0, .int .i64 0] T)).drew) W ∧ W.cell? ⟨w1.heap.size, 0, none⟩ = some (.slice none 0 0) ∧ W.cell? ⟨w1.heap.size, 1, none⟩ = some (.slice none 0 0) ∧ W.cell? ⟨w1.heap.size, 2, none⟩ = some (.int .i64 0) ∧ W.cell? ⟨w1.heap.size, 3, none⟩ = some (.int .i64 0) ∧ ∀ j, W.frozen? ⟨w1.heap.size, j, none⟩ = false := by
  refine h.mono ?_
  rintro e W ⟨a, c, he, hs, hb, k⟩
  have hf : ∀ j, W.frozen? ⟨w1.heap.size, j, none⟩ = false := fun j => (k.frozen (p := ⟨w1.heap.size, j, none⟩) (by simp)).trans (by simp)
  have hc : ∀ j v, (w1.alloc (.cells #[.slice none 0 0, .slice none 0 0, .int .i64 0, .int .i64 0] T)).drew.cell? ⟨w1.heap.size, j, none⟩ = some v → W.cell? ⟨w1.heap.size, j, none⟩ = some v := fun j v hv => k.cellp hv
  exact ⟨a, c, he, hs, hb, k, hc 0 _ (by simp), hc 1 _ (by simp), hc 2 _ (by simp), hc 3 _ (by simp), hf⟩
set_option maxHeartbeats 8000000 in
set_option maxRecDepth 100000 in
theorem dims_Cat {w0 w : World} {p : Nat} {ds : List Dm} {tp : Nat → Nat} {ma : Option Addr} {mc : Nat} {ms : List ByteArray} {lv sc : Int} {dv : Value} (h : DP w0 w p ds tp ma mc ms lv sc dv) (hm : ds.length ≤ 4) (hg : ∀ k, k < ds.length → 1 ≤ (dmL ds k).length ∧ (dmL ds k).length ≤ 60 ∧ (∀ i, i < (dmL ds k).length → (nmA (dmL ds k) i).size ≤ maxLen) ∧ (∀ i, i < (dmL ds k).length → isI (upA (dmL ds k) i))) (hn : ∀ k, k < ds.length → (dmN ds k).size ≤ maxLen) (hml : ms.length ≤ 4) :
    Calls Tryz.prog 93 #[.pointer (some ⟨p, 0, none⟩)] w (CatPost w ds ms lv sc) := by
  have hln : ds.length ≤ 60 := by omega
  obtain ⟨da, dc, rfl, hrows⟩ := h.rows (by omega)
  have HR := hidMk (And.intro hrows hn)
  have HND := hidMk (show ∀ y, Kept w y → ∀ k, k < ds.length → Calls Tryz.prog 132 #[.agg #[.string (dmN ds k), .pointer (some ⟨tp k, 0, none⟩)]] y (NodesPost y (dmL ds k)) from fun y hy k hk => by
    obtain ⟨lo, hi, hs, _⟩ := h.tr k hk
    obtain ⟨g1, g2, g3, g4⟩ := hg k hk
    exact dim_nodes (tp k) (dmN ds k) (dmL ds k) (hs.whole.kept hy) g1 g2 g3 g4)
  have hz : w.heap.size < w.heap.size + 1 := by omega
  have x0 := h.c0
  have x1 := h.c1
  have x2 := h.c2
  have x3 := h.c3
  have hMS := h.mss
  have HCL := hidMk (show ∀ y, Kept w y → _ from fun y hy => slices_CloneS ma ms.length mc ms y (hMS.kept hy) (by omega))
  clear h hg hn hrows hMS
  go_enter Tryz.func93, Tryz.ntmps93
  go_upto_region 3 with fail
  obtain ⟨w1, hw1⟩ : ∃ w1, w1 = w.alloc (.cells #[.slice none 0 0, .slice none 0 0, .int .i64 0, .int .i64 0] 25) := ⟨_, rfl⟩
  rw [← hw1]
  have K1 : Kept w w1 := by rw [hw1]; exact (Kept.refl w).alloc _
  have HK1 := hidMk K1
  have hs1 : w1.heap.size = w.heap.size + 1 := by rw [hw1]; simp
  have R1 := hidMk (show (∀ j, j < 4 → ∃ u, w1.cell? ⟨w.heap.size, j, none⟩ = some u) ∧ ∀ j, w1.frozen? ⟨w.heap.size, j, none⟩ = false from by
    rw [hw1]
    refine ⟨fun j hj => ?_, fun j => by simp⟩
    have : j = 0 ∨ j = 1 ∨ j = 2 ∨ j = 3 := by omega
    rcases this with rfl | rfl | rfl | rfl <;> simp)
  have y0 := K1.cellp x0
  have y1 := K1.cellp x1
  have y2 := K1.cellp x2
  have y3 := K1.cellp x3
  have HPN := hidMk <| show ¬ (w1.heap.size = p) from by have : p < w1.heap.size := cell_lt y0; omega
  clear x0 x1 x2 x3 hw1 K1
  have HCA := hidMk (clone_new (by omega) (HCL.out _ ((HK1.out.alloc (.cells #[.slice none 0 0, .slice none 0 0, .int .i64 0, .int .i64 0] 25)).drew)))
  have HS1 := hidMk hs1
  clear hs1
  go_cut [3] from 6 to 22 (fun c3 W => ∃ cb mb mcc, c3 = .pointer (some ⟨cb, 0, none⟩) ∧ CR w1 W cb ds (fun _ => (none, 0, 0)) 0 (.slice none 0 0) mb ms.length mcc ms lv sc)
  case first =>
    go_region_held3 (fun w' => w'.cell? ⟨p, 1, none⟩ = some (.slice ma ms.length mc) ∧ w'.cell? ⟨p, 2, none⟩ = some (.int .i64 lv) ∧ w'.cell? ⟨p, 3, none⟩ = some (.int .i64 sc)) (first | assumption | (refine ⟨Kept.cellp ?_ y1, Kept.cellp ?_ y2, Kept.cellp ?_ y3⟩ <;> ((repeat (first | (with_reducible exact Kept.refl _) | (with_reducible refine Kept.alloc ?_ _) | (with_reducible refine Kept.drew ?_) | (with_reducible refine Kept.drewN ?_ _) | (with_reducible refine Kept.trans ?_ (by assumption)))); done)) | (refine ⟨(far4 HPN.out _ _ _ _ _).trans (Kept.cellp ?_ y1), (far4 HPN.out _ _ _ _ _).trans (Kept.cellp ?_ y2), (far4 HPN.out _ _ _ _ _).trans (Kept.cellp ?_ y3)⟩ <;> ((repeat (first | (with_reducible exact Kept.refl _) | (with_reducible refine Kept.alloc ?_ _) | (with_reducible refine Kept.drew ?_) | (with_reducible refine Kept.drewN ?_ _) | (with_reducible refine Kept.trans ?_ (by assumption)))); done))) (first | (go_at_call 86; (with_reducible refine HCA.out.mono ?_); rintro e w3 ⟨mb, mcc, rfl, s3, b3, k3, z0, z1, z2, z3, zf⟩; have S3 := hidMk s3; have B3 := hidMk b3; have ZF := hidMk zf; have zf0 := zf 0; have zf1 := zf 1; have zf2 := zf 2; have zf3 := zf 3; clear s3 b3 zf) | (go_at_call 86; refine (HCL.out _ (HK1.out.trans (by (repeat (first | (with_reducible exact Kept.refl _) | (with_reducible refine Kept.drew ?_) | (with_reducible refine Kept.drewN ?_ _)))))).mono ?_; rintro e w3 ⟨mb, mcc, rfl, s3, b3, k3⟩; have S3 := hidMk s3; have B3 := hidMk b3; clear s3 b3))
    all_goals (try go_wp2_with fail)
    all_goals go_meet
    all_goals first | exact ⟨_, _, _, rfl, cr_new (((Kept.refl w1).drew).trans k3) S3.out (fun ad had => by have := B3.out ad had; simpa using this)⟩ | exact ⟨_, _, _, rfl, cr_old ((((Kept.refl w1).alloc _).drew).trans k3) S3.out (fun ad had => by have := B3.out ad had; simp at this; omega) z0 z1 z2 z3 ZF.out⟩
  case rest =>
    obtain ⟨cb, mb, mcc, rfl, hCR⟩ := hcut
    have e0 := hCR.kept.cellp y0
    have HC0 := hidMk hCR
    have hcbl := hCR.lo
    clear hCR y1 y2 y3
    go_wp2_with fail
    go_loopg [28] ds.length (fun g x wr => ∃ (k : Nat) (v : Value) (na : Nat → Option Addr × Nat × Nat), k + g = ds.length ∧ x = .int .i64 k ∧ CR w1 wr cb ds na k v mb ms.length mcc ms lv sc)
    case atStart => exact ⟨0, _, _, by omega, rfl, HC0.out⟩
    case round =>
      obtain ⟨k, v, na, hkg, rfl, hCR⟩ := hrel
      have HKG := hidMk hkg
      have HC := hidMk hCR
      by_cases hkd : k < ds.length
      · obtain ⟨b, rfl, hb⟩ := HR.out.1 (by omega)
        obtain ⟨c1, c2⟩ := hb k hkd
        have hkw := HK1.out.trans hCR.kept
        have d1 := hkw.cellp c1
        have d2 := hkw.cellp c2
        have kd' : (k : Int) < ds.length := by omega
        have HNK := hidMk (show ∀ y, Kept wr y → _ from fun y hy => HND.out y (hkw.trans hy) k hkd)
        have hcb : cb < wr.heap.size := cell_lt hCR.c0
        have cc0 := hCR.c0
        clear hb c1 c2 hkw hkg hCR HC0 e0
        go_upto_region 7 with fail
        refine gen_world (f := fun W => Code.wp _ _ _ _ W) (fun W => Kept wr W ∧ W.cell? ⟨wr.heap.size, 0, none⟩ = some (.string (dmN ds k)) ∧ W.cell? ⟨wr.heap.size, 1, none⟩ = some (.pointer (some ⟨tp k, 0, none⟩))) ⟨(Kept.refl wr).alloc _, by simp, by simp⟩ ?_
        rintro W0 ⟨hW0, f0, f1⟩
        have fc := hW0.cellp cc0
        have HC1 := hidMk (HC.out.keep hW0)
        have HW0 := hidMk hW0
        have hcbw : cb < W0.heap.size := Nat.lt_of_lt_of_le hcb hW0.size
        have hdz : W0.drew.heap.size = W0.heap.size := by simp
        have HPU := hidMk (show ∀ (x z : World) (g g' cap : Nat), Kept W0.drew x → Ns x (some ⟨g, 0, none⟩) (dmL ds k).length (dmL ds k) → W0.drew.heap.size ≤ g → g < x.heap.size → z.ownsRow (cb + 1) 94 2 (.slice (some ⟨g', 0, none⟩) (k + 1) cap) (k + 1) (rwL ds na k ++ [.string (dmN ds k), .slice (some ⟨g, 0, none⟩) (dmL ds k).length (dmL ds k).length]) → Chg (fun t => v.ownBlock = some t) x z → (v.ownBlock = some g' ∨ g' = x.heap.size) → _ from fun x z g g' cap hx hg hgl hgx ho hc hg' => (HC1.out.keep (((Kept.refl W0).drew).trans hx)).push hg hgx (by omega) (fun e => by have := (World.ownsRow.lt HC1.out.own g e).2; omega) ho hc hg')
        have HDZ := hidMk hdz
        have HOV := hidMk (show ∀ x, Kept W0.drew x → x.ownsRow (cb + 1) 94 2 v k (rwL ds na k) from fun x hx => (HC1.out.keep (((Kept.refl W0).drew).trans hx)).own)
        have HNW := hidMk (HNK.out W0.drew (hW0.drew))
        clear hW0 cc0 HNK HC d1 d2 hdz
        generalize dmN ds k = nm at *
        generalize hLn : (dmL ds k).length = ln at *
        generalize dmL ds k = L at *
        generalize tp k = q at *
        go_region_law (first | (go_simp; go_at_call 132; refine HNW.out.mono ?_; rintro e w5 ⟨g5, rfl, hg5, hg5', hn5, k5⟩; have i0 := k5.cellp (((Kept.refl W0).drew).cellp f0); have ic := k5.cellp (((Kept.refl W0).drew).cellp fc); have ic' := (fun o => ((Kept.refl w5).alloc o).cellp ic); have i0' := (fun o => ((Kept.refl w5).alloc o).cellp i0); have K5 := hidMk k5; have HN5 := hidMk (And.intro hg5 (And.intro hn5 hg5')); clear k5 hg5 hn5 hg5') | (refine step_pushC _ (by rfl) _ _ (by rfl) (cb + 1) v k (rwL ds na k) (by rfl) (HOV.out _ (K5.out.alloc _)) (by have := K5.out.size; have := HDZ.out; simp only [World.size_alloc]; omega) w5.heap.size nm (some ⟨g5, 0, none⟩, ln, ln) (by rfl) (by simp) (by simp [slv]) (by omega) (w5.heap.size + 1) (by simp) ?_; intro g6 cap6 w6 o6 c6 a6 l6; obtain ⟨q6, f6, d6⟩ := HPU.out _ w6 g5 g6 cap6 (K5.out.alloc _) (by rw [← hLn]; exact HN5.out.2.1.kept ((Kept.refl w5).alloc _)) HN5.out.1 (by have := HN5.out.2.2; simp only [World.size_alloc]; omega) o6 c6 (by simpa using a6); have H6 := hidMk d6; clear o6 c6 a6 l6 d6))
        all_goals (try go_wp2_with fail)
        all_goals (go_roundg (gk - 1))
        all_goals first | (have := HKG.out; omega) | exact ⟨k + 1, _, _, by have := HKG.out; omega, by go_num, H6.out⟩
      · have e : k = ds.length := by omega
        subst e
        have kd' : ¬ ((ds.length : Int) < ds.length) := by omega
        obtain ⟨a9, c9, rfl, hD9⟩ := hCR.dss hln HR.out.2
        have n0 := hCR.c0
        have n1 := hCR.c1
        have n2 := hCR.c2
        have n3 := hCR.c3
        obtain ⟨⟨r0, hr0⟩, ⟨r1, hr1⟩, ⟨r2, hr2⟩, ⟨r3, hr3⟩⟩ := (show (∃ u, w1.cell? ⟨w.heap.size, 0, none⟩ = some u) ∧ (∃ u, w1.cell? ⟨w.heap.size, 1, none⟩ = some u) ∧ (∃ u, w1.cell? ⟨w.heap.size, 2, none⟩ = some u) ∧ (∃ u, w1.cell? ⟨w.heap.size, 3, none⟩ = some u) from ⟨R1.out.1 0 (by omega), R1.out.1 1 (by omega), R1.out.1 2 (by omega), R1.out.1 3 (by omega)⟩)
        have m0 := hCR.kept.cellp hr0
        have m1 := hCR.kept.cellp hr1
        have m2 := hCR.kept.cellp hr2
        have m3 := hCR.kept.cellp hr3
        have hfr : ∀ j, wr.frozen? ⟨w.heap.size, j, none⟩ = false := fun j => (hCR.kept.frozen (p := ⟨w.heap.size, j, none⟩) (show w.heap.size < w1.heap.size from cell_lt hr0)).trans (R1.out.2 j)
        have hf0 := hfr 0
        have hf1 := hfr 1
        have hf2 := hfr 2
        have hf3 := hfr 3
        have HFIN := hidMk hCR
        have HS4 := hidMk (show ∀ a b c d, _ from fun a b c d => set4 (W := wr) (q := w.heap.size) a b c d m0 m1 m2 m3)
        have hq1 : w.heap.size < w1.heap.size := cell_lt hr0
        have HNM := hidMk HR.out.2
        clear hCR hkg hD9 hfr hr0 hr1 hr2 hr3 HC0 e0
        go_wp2_with fail
        refine cat_rets w.heap.size _ _ _ _ (HS4.out _ _ _ _).1 rfl rfl ?_
        have hlow := HFIN.out.low HK1.out (Nat.le_refl _) hq1 (HS4.out (.slice a9 ds.length c9) (.slice mb ms.length mcc) (.int .i64 lv) (.int .i64 sc)).2
        obtain ⟨a8, c8, he8, hD8⟩ := hlow.dss hln HNM.out
        cases he8
        exact ⟨_, _, _, _, _, rfl, hD8, hlow.mss, hlow.kept⟩
end Go.Proofs.YtmedgkccicbieaaGreat
