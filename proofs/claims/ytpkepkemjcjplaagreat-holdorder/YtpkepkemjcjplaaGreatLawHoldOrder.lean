/- HoldOrder: the order plays no part. -/
import Derived.Test.YtpkepkemjcjplaaGreatLaw13K
import Derived.Test.YtpkepkemjcjplaaGreatCellsFr
import Derived.Deep.RegionHeld3
namespace Go.Proofs.YtpkepkemjcjplaaGreat
open Go.RowKit Go.Maps
set_option linter.unusedSimpArgs false
set_option linter.unusedVariables false

/-- Two holds, each in a block of the caller's. -/
structure Hw (w1 w : World) (ms : List ByteArray) (ds : List Dm) (ab bb : Nat) (aa : Option Addr) (ac : Nat) (la : List Cl) (ba : Option Addr) (bc : Nat) (lb : List Cl) : Prop where
  a : Hv w1 w ms ds ab aa ac la
  b : Hv w1 w ms ds bb ba bc lb
  ne : ab ≠ bb
  xa : ∀ ad, aa = some ad → ad.block ≠ bb
  xb : ∀ ad, ba = some ad → ad.block ≠ ab
section
variable {w1 w w' : World} {ms : List ByteArray} {ds : List Dm} {ab bb : Nat} {aa : Option Addr} {ac : Nat} {la : List Cl} {ba : Option Addr} {bc : Nat} {lb : List Cl}
theorem Hw.keep (h : Hw w1 w ms ds ab bb aa ac la ba bc lb) (k : Kept w w') : Hw w1 w' ms ds ab bb aa ac la ba bc lb := ⟨h.a.keep k, h.b.keep k, h.ne, h.xa, h.xb⟩
theorem Hv.other {hb g : Nat} {a : Option Addr} {c : Nat} {l : List Cl} (h : Hv w1 w ms ds hb a c l) (v : Value) (hg : g ≠ hb) (hx : ∀ ad, a = some ad → ad.block ≠ g) (hw : w1.heap.size ≤ g) : Hv w1 (w.setCell ⟨g, 0, none⟩ v) ms ds hb a c l := by
  have k : Chg (· = g) w (w.setCell ⟨g, 0, none⟩ v) := chg_set _ _ _ _
  exact ⟨k.cellp h.cell (fun e => hg e.symm), (k.frozen (p := ⟨hb, 0, none⟩) h.lt (fun e => hg e.symm)).trans h.fz, h.hd.chg k (fun ad e f => hx ad e f), h.ap, k.kept h.kp (fun j e => by omega), h.nw⟩
theorem Hw.other {g : Nat} (h : Hw w1 w ms ds ab bb aa ac la ba bc lb) (v : Value) (ha : g ≠ ab) (hb : g ≠ bb) (xa : ∀ ad, aa = some ad → ad.block ≠ g) (xb : ∀ ad, ba = some ad → ad.block ≠ g) (hw : w1.heap.size ≤ g) : Hw w1 (w.setCell ⟨g, 0, none⟩ v) ms ds ab bb aa ac la ba bc lb :=
  ⟨h.a.other v ha xa hw, h.b.other v hb xb hw, h.ne, h.xa, h.xb⟩
theorem Hw.setA (h : Hw w1 w ms ds ab bb aa ac la ba bc lb) {a' : Option Addr} {c' n : Nat} {l' : List Cl} (hn : n = l'.length) (hd : Hd w ms ds a' c' l') (hf : ∀ ad, a' = some ad → ad.block ≠ ab ∧ ad.block ≠ bb) : Hw w1 (w.setCell ⟨ab, 0, none⟩ (.slice a' n c')) ms ds ab bb a' c' l' ba bc lb :=
  ⟨h.a.set hn hd (fun ad e => (hf ad e).1), h.b.other _ h.ne h.xb h.a.nw, h.ne, fun ad e => (hf ad e).2, h.xb⟩
theorem Hw.setB (h : Hw w1 w ms ds ab bb aa ac la ba bc lb) {a' : Option Addr} {c' n : Nat} {l' : List Cl} (hn : n = l'.length) (hd : Hd w ms ds a' c' l') (hf : ∀ ad, a' = some ad → ad.block ≠ ab ∧ ad.block ≠ bb) : Hw w1 (w.setCell ⟨bb, 0, none⟩ (.slice a' n c')) ms ds ab bb aa ac la a' c' l' :=
  ⟨h.a.other _ h.ne.symm h.xa h.b.nw, h.b.set hn hd (fun ad e => (hf ad e).2), h.ne, h.xa, fun ad e => (hf ad e).1⟩
theorem Hv.blt {hb : Nat} {a : Option Addr} {c : Nat} {l : List Cl} (h : Hv w1 w ms ds hb a c l) (hp : 0 < l.length) : ∀ ad, a = some ad → ad.block < w.heap.size := fun ad e => by
  obtain ⟨b, o, e2, hlt, _⟩ := h.hd.cq.cells hp
  rw [e] at e2
  cases e2
  exact hlt
end
/-- .. and a block for what is told. -/
structure Hn (w1 w : World) (ms : List ByteArray) (ds : List Dm) (ab bb nb : Nat) (aa : Option Addr) (ac : Nat) (la : List Cl) (ba : Option Addr) (bc : Nat) (lb : List Cl) : Prop where
  hw : Hw w1 w ms ds ab bb aa ac la ba bc lb
  nc : ∃ (a : Option Addr) (n c : Nat), w.cell? ⟨nb, 0, none⟩ = some (.slice a n c)
  nf : w.frozen? ⟨nb, 0, none⟩ = false
  na : nb ≠ ab
  nb' : nb ≠ bb
  nw : w1.heap.size ≤ nb
  ra : ∀ ad, aa = some ad → ad.block ≠ nb
  rb : ∀ ad, ba = some ad → ad.block ≠ nb
section
variable {w1 wr Y w3 : World} {ms : List ByteArray} {ds : List Dm} {ab bb : Nat} {aa : Option Addr} {ac : Nat} {la : List Cl} {ba : Option Addr} {bc : Nat} {lb : List Cl} {a3 : Option Addr} {d3 n3 : Nat} {l3 : List Cl}
theorem row_old {hb : Nat} {a : Option Addr} {c : Nat} {l : List Cl} (h : Hv w1 wr ms ds hb a c l) (e : l = [] → a = none) : ∀ ad, a = some ad → ad.block < wr.heap.size := fun ad q => by
  by_cases hp : 0 < l.length
  · exact h.blt hp ad q
  · rw [e (List.eq_nil_of_length_eq_zero (by omega))] at q; cases q
theorem row_new (hd : Hd w3 ms ds a3 d3 l3) (hp : l3 ≠ []) : ∀ ad, a3 = some ad → ad.block < w3.heap.size := fun ad q => by
  obtain ⟨b, o, e2, hlt, _⟩ := hd.cq.cells (by cases l3 with | nil => exact absurd rfl hp | cons x t => simp)
  rw [q] at e2
  cases e2
  exact hlt
theorem hn_A0 (h : Hw w1 wr ms ds ab bb aa ac la ba bc lb) (eb : lb = [] → ba = none) (k : Kept wr w3) (hd : Hd w3 ms ds a3 d3 l3) (hf : ∀ ad, a3 = some ad → wr.heap.size ≤ ad.block) (hn : n3 = l3.length) (hp : l3 ≠ []) (T : TypeId) :
    Hn w1 ((w3.setCell ⟨ab, 0, none⟩ (.slice a3 n3 d3)).alloc (.cells #[.slice a3 n3 d3] T)) ms ds ab bb w3.heap.size a3 d3 l3 ba bc lb := by
  have s := k.size
  have l1 := h.a.lt
  have l2 := h.b.lt
  have l4 := (h.a.kp.trans k).size
  refine ⟨((h.keep k).setA hn hd (fun ad e => ⟨fun f => by have := hf ad e; omega, fun f => by have := hf ad e; omega⟩)).keep ((Kept.refl _).alloc _), ⟨_, _, _, new_cell _ _ _ _ 0 _ (by simp) rfl⟩, new_frozen _ _ _ (by simp) 0, by omega, by omega, l4, fun ad e f => by have := row_new hd hp ad e; omega, fun ad e f => by have := row_old h.b eb ad e; omega⟩
theorem hn_B0 (h : Hw w1 wr ms ds ab bb aa ac la ba bc lb) (ea : la = [] → aa = none) (eb : lb = [] → ba = none) (k : Kept wr w3) (hd : Hd w3 ms ds a3 d3 l3) (hf : ∀ ad, a3 = some ad → wr.heap.size < ad.block) (hn : n3 = l3.length) {u : Value} (hc : w3.cell? ⟨wr.heap.size, 0, none⟩ = some u) (hz : w3.frozen? ⟨wr.heap.size, 0, none⟩ = false) (va : Option Addr) (vn vc : Nat) :
    Hn w1 ((w3.setCell ⟨wr.heap.size, 0, none⟩ (.slice va vn vc)).setCell ⟨ab, 0, none⟩ (.slice a3 n3 d3)) ms ds ab bb wr.heap.size a3 d3 l3 ba bc lb := by
  have l1 := h.a.lt
  have l2 := h.b.lt
  have l4 := h.a.kp.size
  have h1 := (h.keep k).other (g := wr.heap.size) (.slice va vn vc) (by omega) (by omega) (fun ad e f => by have := row_old h.a ea ad e; omega) (fun ad e f => by have := row_old h.b eb ad e; omega) l4
  refine ⟨h1.setA hn (hd.chg (chg_set _ _ _ _) (fun ad e (f : ad.block = wr.heap.size) => by have := hf ad e; omega)) (fun ad e => ⟨fun f => by have := hf ad e; omega, fun f => by have := hf ad e; omega⟩), ⟨va, vn, vc, (World.cell?_setCell_other _ _ _ _ (by simp <;> omega)).trans (World.cell?_setCell_same _ _ _ hc)⟩, by simpa using hz, by omega, by omega, l4, fun ad e f => by have := hf ad e; omega, fun ad e f => by have := row_old h.b eb ad e; omega⟩
theorem hn_A1 (h : Hw w1 wr ms ds ab bb aa ac la ba bc lb) (ea : la = [] → aa = none) (eb : lb = [] → ba = none) (k : Kept wr w3) (va : Option Addr) (vn vc : Nat) (T : TypeId) :
    Hn w1 (w3.alloc (.cells #[.slice va vn vc] T)) ms ds ab bb w3.heap.size aa ac la ba bc lb := by
  have s := k.size
  have l1 := h.a.lt
  have l2 := h.b.lt
  have l4 := (h.a.kp.trans k).size
  exact ⟨h.keep (k.alloc _), ⟨_, _, _, new_cell _ _ _ _ 0 _ rfl rfl⟩, new_frozen _ _ _ rfl 0, by omega, by omega, l4, fun ad e f => by have := row_old h.a ea ad e; omega, fun ad e f => by have := row_old h.b eb ad e; omega⟩
theorem hn_B1 (h : Hw w1 wr ms ds ab bb aa ac la ba bc lb) (ea : la = [] → aa = none) (eb : lb = [] → ba = none) (k : Kept wr w3) {u : Value} (hc : w3.cell? ⟨wr.heap.size, 0, none⟩ = some u) (hz : w3.frozen? ⟨wr.heap.size, 0, none⟩ = false) (va : Option Addr) (vn vc : Nat) :
    Hn w1 (w3.setCell ⟨wr.heap.size, 0, none⟩ (.slice va vn vc)) ms ds ab bb wr.heap.size aa ac la ba bc lb := by
  have l1 := h.a.lt
  have l2 := h.b.lt
  have l4 := h.a.kp.size
  have h1 := (h.keep k).other (g := wr.heap.size) (.slice va vn vc) (by omega) (by omega) (fun ad e f => by have := row_old h.a ea ad e; omega) (fun ad e f => by have := row_old h.b eb ad e; omega) l4
  exact ⟨h1, ⟨va, vn, vc, World.cell?_setCell_same _ _ _ hc⟩, by simpa using hz, by omega, by omega, l4, fun ad e f => by have := row_old h.a ea ad e; omega, fun ad e f => by have := row_old h.b eb ad e; omega⟩
end
theorem far0 {w : World} {b g o : Nat} {v u : Value} (h : g ≠ b) (hc : w.cell? ⟨b, o, none⟩ = some u) : (w.setCell ⟨g, 0, none⟩ v).cell? ⟨b, o, none⟩ = some u := (World.cell?_setCell_far w ⟨g, 0, none⟩ ⟨b, o, none⟩ v h).trans hc
/-- What a cell of a list holds at t. -/
def fC (l : List Cl) (i t : Nat) : Int := [(clA l i).1, (clA l i).2.1, (clA l i).2.2.1, (clA l i).2.2.2.1, (clA l i).2.2.2.2].getD t 0
theorem Cq.cs {w : World} {a : Option Addr} {l : List Cl} (h : Cq w a l) (hb : l.length ≤ maxLen) : Cs w a l.length (fC l) :=
  ⟨hb, fun hp => by
    obtain ⟨b, o, h1, h2, h3⟩ := h.cells hp
    refine ⟨b, o, h1, h2, fun i hi t ht => h3 i hi t ht _ ?_⟩
    have : t = 0 ∨ t = 1 ∨ t = 2 ∨ t = 3 ∨ t = 4 := by omega
    rcases this with rfl | rfl | rfl | rfl | rfl <;> rfl⟩
/-- What has been added, of a list from one end. -/
structure Od (ms : List ByteArray) (ds : List Dm) (T : List Cl) (k : Nat) (a : Option Addr) (l : List Cl) : Prop where
  mem : ∀ y, y ∈ l ↔ 0 ≤ ixC ms ds y ∧ y ∈ T
  len : l.length ≤ k
  em : l = [] → a = none
theorem Od.same {ms : List ByteArray} {ds : List Dm} {T T' : List Cl} {k : Nat} {a : Option Addr} {l : List Cl} {x : Cl} (h : Od ms ds T k a l) (hk : k < 16) (hr : ¬ addE ms ds l x = 0) (hT : ∀ y, y ∈ T' ↔ y = x ∨ y ∈ T) : Od ms ds T' (k + 1) a l := by
  refine ⟨fun y => ?_, by have := h.len; omega, h.em⟩
  rw [h.mem, hT]
  constructor
  · rintro ⟨h1, h2⟩; exact ⟨h1, .inr h2⟩
  · rintro ⟨h1, rfl | h2⟩
    · unfold addE at hr
      rw [if_neg (by omega)] at hr
      by_cases hx : y ∈ l
      · exact (h.mem y).1 hx
      · rw [if_neg hx, if_neg (by have := h.len; omega)] at hr
        exact absurd rfl hr
    · exact ⟨h1, h2⟩
theorem Od.more {ms : List ByteArray} {ds : List Dm} {T T' : List Cl} {k : Nat} {a a' : Option Addr} {l l' : List Cl} {x : Cl} (h : Od ms ds T k a l) (hr : addE ms ds l x = 0) (hm : ∀ y, y ∈ l' ↔ True ∧ (y = x ∨ y ∈ l)) (hl : l'.length = l.length + 1) (hT : ∀ y, y ∈ T' ↔ y = x ∨ y ∈ T) : Od ms ds T' (k + 1) a' l' := by
  have hx : 0 ≤ ixC ms ds x := by
    unfold addE at hr
    by_cases q : ixC ms ds x < 0
    · rw [if_pos q] at hr; cases hr
    · omega
  refine ⟨fun y => ?_, by have := h.len; omega, fun e => by rw [e] at hl; simp at hl⟩
  rw [hm, hT, h.mem]
  constructor
  · rintro ⟨_, rfl | ⟨h1, h2⟩⟩
    · exact ⟨hx, .inl rfl⟩
    · exact ⟨h1, .inr h2⟩
  · rintro ⟨h1, rfl | h2⟩
    · exact ⟨trivial, .inl rfl⟩
    · exact ⟨trivial, .inr ⟨h1, h2⟩⟩
theorem take_mem {l : List Cl} {k : Nat} (hk : k < l.length) : ∀ y, y ∈ l.take (k + 1) ↔ y = clA l k ∨ y ∈ l.take k := fun y => by
  rw [List.take_add_one, List.getElem?_eq_getElem hk, List.mem_append, clA_get hk]
  simp [or_comm]
theorem drop_mem {l : List Cl} {j : Nat} (hj : j < l.length) : ∀ y, y ∈ l.drop j ↔ y = clA l j ∨ y ∈ l.drop (j + 1) := fun y => by
  rw [List.drop_eq_getElem_cons hj, List.mem_cons, clA_get hj]
set_option maxHeartbeats 8000000 in
set_option maxRecDepth 100000 in
theorem law_HoldOrder (a : Option Addr) (n c : Nat) (ds : List Dm) (na : Nat → Option Addr × Nat × Nat) (b : Option Addr) (m d : Nat) (ms : List ByteArray) (lv sc : Int) (la : Option Addr) (ln lc : Nat) (l : List Cl) (w : World) (hs : Dss w a n ds na) (hm : Ss w b m ms) (hmz : ∀ i, i < ms.length → (msA ms i).size ≤ maxLen) (hl : Cqs w la ln l) :
    Calls Tryz.prog 5 #[.agg #[.slice a n c, .slice b m d, .int .i64 lv, .int .i64 sc], .slice la ln lc] w fun e w' => e = .returned (.bool true) ∧ Kept w w' := by
  obtain ⟨WA, hWA⟩ : ∃ V, V = w.alloc (.cells #[.slice a n c, .slice b m d, .int .i64 lv, .int .i64 sc] 25) := ⟨_, rfl⟩
  have kA : Kept w WA := by rw [hWA]; exact (Kept.refl w).alloc _
  have HOP := hidMk (law13_open a n c ds na b m d ms lv sc WA (hs.kept kA) (hm.kept kA) hmz)
  have HKN := hidMk law13_known
  have HKA := hidMk kA
  have HL := hidMk hl
  have hln := hl.len
  have hbig := hl.big
  unfold maxLen at hbig
  clear hs hm hmz hl kA
  subst hln
  go_enter Tryz.func5, Tryz.ntmps5
  go_wp2_with fail
  rw [← hWA]
  clear hWA
  refine HOP.out.mono ?_
  rintro e w1 (⟨W0, s, p, tp, rv, q, rt, rfl, hsm, _, hsw, _, hk, hw1⟩ | ⟨v1, v2, rfl, _, k1⟩)
  rotate_left
  · have HK1 := hidMk (HKA.out.trans k1)
    clear k1
    go_wp2_with fail
    refine (HKN.out _).mono ?_
    rintro e w2 ⟨rfl, k2⟩
    go_wp2_with fail
    go_ret
    exact ⟨rfl, HK1.out.trans k2⟩
  have k01 : Kept W0 w1 := by rw [hw1]; exact (Kept.refl _).alloc _
  have HK1 := hidMk (hk.trans k01)
  have HSW := hidMk (hsw.keep k01)
  have HSM := hidMk hsm
  generalize W0.heap.size = rb at *
  clear hw1 hk k01 hsw hsm HOP
  by_cases h16 : 16 < l.length
  · have h16' : (16 : Int) < (l.length : Int) := by omega
    go_wp2_with fail
    refine (HKN.out _).mono ?_
    rintro e w2 ⟨rfl, k2⟩
    go_wp2_with fail
    go_ret
    exact ⟨rfl, HKA.out.trans (HK1.out.trans k2)⟩
  have h16' : ¬ ((16 : Int) < (l.length : Int)) := by omega
  obtain ⟨ab, hab⟩ : ∃ x, x = w1.heap.size := ⟨_, rfl⟩
  obtain ⟨bb, hbb⟩ : ∃ x, x = w1.heap.size + 1 := ⟨_, rfl⟩
  have HV0 := hidMk (show Hw w1 ((w1.alloc (.cells #[.slice none 0 0] 37)).alloc (.cells #[.slice none 0 0] 37)) ms ds ab bb none 0 [] none 0 [] from
    ⟨⟨((Kept.refl _).alloc _).cellp (new_cell _ _ _ _ 0 _ hab rfl), by rw [hab]; simp, hd_nil _ _ _, fun ad e => (by cases e), ((Kept.refl _).alloc _).alloc _, by omega⟩, ⟨new_cell _ _ _ _ 0 _ (by simp [hbb]) rfl, by rw [hbb]; simp, hd_nil _ _ _, fun ad e => (by cases e), ((Kept.refl _).alloc _).alloc _, by omega⟩, by omega, fun ad e => (by cases e), fun ad e => (by cases e)⟩)
  go_wp2_with fail
  rw [← hbb, ← hab]
  clear hab hbb
  go_loopg [10] l.length (fun gg iv wr => ∃ (k : Nat) (aa : Option Addr) (ac : Nat) (La : List Cl) (ba : Option Addr) (bc : Nat) (Lb : List Cl), k + gg = l.length ∧ iv = .int .i64 (k : Int) ∧ Hid (Hw w1 wr ms ds ab bb aa ac La ba bc Lb ∧ Od ms ds (l.take k) k aa La ∧ Od ms ds (l.drop (l.length - k)) k ba Lb))
  case atStart => exact ⟨0, none, 0, [], none, 0, [], by omega, rfl, hidMk ⟨HV0.out, ⟨fun y => by simp, by simp, fun _ => rfl⟩, ⟨fun y => by simp, by simp, fun _ => rfl⟩⟩⟩
  case round =>
    obtain ⟨k, aa, ac, La, ba, bc, Lb, hkg, rfl, HJ⟩ := hrel
    have HKG := hidMk hkg
    by_cases hkM : k < l.length
    · have hk1 : (k : Int) < (l.length : Int) := by omega
      have hk0 : (0 : Int) ≤ (k : Int) := by omega
      obtain ⟨lb, lo, rfl⟩ := HL.out.cq.form (by omega)
      have HV := hidMk HJ.out.1
      have kW := HKA.out.trans (HK1.out.trans HV.out.a.kp)
      obtain ⟨c0, c1, c2, c3, c4⟩ := (HL.out.cq.kept kW).at hkM
      have hlb : lb < wr.heap.size := cell_lt c0
      have y0 := HV.out.a.cell
      have y1 := HV.out.a.fz
      have y2 := HV.out.a.lt
      obtain ⟨X, hX⟩ : ∃ X, clA l k = X := ⟨_, rfl⟩
      rw [hX] at c0 c1 c2 c3 c4
      have HX := hidMk hX
      have HAD := hidMk (show ∀ y, Kept wr y → Calls Tryz.prog 11 #[.agg #[.slice aa La.length ac], .pointer (some ⟨s, 0, none⟩), clV X] y (AddQ y ms ds La X) from fun y hy => hd_AddQ (HSW.out.keep (HV.out.a.kp.trans hy)) (HV.out.a.hd.kept hy) X)
      unfold AddQ at HAD
      obtain ⟨R, hR⟩ : ∃ R, R = addE ms ds La X := ⟨_, rfl⟩
      rw [← hR] at HAD
      have HRE := hidMk hR
      have HOA := hidMk HJ.out.2.1
      have HOB := hidMk HJ.out.2.2
      have HTM := hidMk (take_mem hkM)
      rw [hX] at HTM
      obtain ⟨x0, x1, x2, x3, x4⟩ := X
      unfold clV at HAD
      simp only at c0 c1 c2 c3 c4 HAD
      clear kW hX hkg hR
      by_cases hr : R = 0
      · subst hr
        go_wp2_with fail
        go_region_held3 (fun w' => w'.cell? ⟨ab, 0, none⟩ = some (.slice aa La.length ac) ∧ w'.cell? ⟨lb, lo + k * 5, none⟩ = some (.int .i64 x0) ∧ w'.cell? ⟨lb, lo + k * 5 + 1, none⟩ = some (.int .i64 x1) ∧ w'.cell? ⟨lb, lo + k * 5 + 2, none⟩ = some (.int .i64 x2) ∧ w'.cell? ⟨lb, lo + k * 5 + 3, none⟩ = some (.int .i64 x3) ∧ w'.cell? ⟨lb, lo + k * 5 + 4, none⟩ = some (.int .i64 x4))
          (first | assumption | (refine ⟨Kept.cellp ?_ y0, Kept.cellp ?_ c0, Kept.cellp ?_ c1, Kept.cellp ?_ c2, Kept.cellp ?_ c3, Kept.cellp ?_ c4⟩ <;> ((repeat (first | (with_reducible exact Kept.refl _) | (with_reducible refine Kept.alloc ?_ _) | (with_reducible refine Kept.drew ?_) | (with_reducible refine Kept.drewN ?_ _) | (with_reducible refine Kept.trans ?_ (by assumption)))); done)) | (refine ⟨Kept.cellp ?_ y0, Kept.cellp ?_ c0, Kept.cellp ?_ c1, Kept.cellp ?_ c2, Kept.cellp ?_ c3, Kept.cellp ?_ c4⟩ <;> (refine Kept.setCell ?_ (Nat.le_refl _) _; (repeat (first | (with_reducible exact Kept.refl _) | (with_reducible refine Kept.alloc ?_ _) | (with_reducible refine Kept.drew ?_) | (with_reducible refine Kept.drewN ?_ _) | (with_reducible refine Kept.trans ?_ (by assumption)))); done)))
          ((go_at_call 11; refine (HAD.out _ (by (repeat (first | (with_reducible exact Kept.refl _) | (with_reducible refine Kept.alloc ?_ _) | (with_reducible refine Kept.drew ?_) | (with_reducible refine Kept.drewN ?_ _) | (with_reducible refine Kept.trans ?_ (by assumption)))))).mono ?_; rintro e w3 ⟨a3, n3, d3, r3, rfl, ⟨rfl, l3, hn3, hd3, hm3, hl3, f3⟩, k3⟩; (first | (have q9 := by with_reducible exact new_kn k3) | skip); (first | (obtain ⟨q0, q1, q2⟩ := q9) | skip); have k3w : Kept wr w3 := (by (repeat (first | (with_reducible exact Kept.refl _) | (with_reducible refine Kept.alloc ?_ _) | (with_reducible refine Kept.drew ?_) | (with_reducible refine Kept.drewN ?_ _) | (with_reducible refine Kept.trans ?_ (by assumption))))); have yc := k3w.cellp y0; have yf := (k3w.frozen (p := ⟨ab, 0, none⟩) y2).trans y1; have yl : ab < w3.heap.size := cell_lt yc; have HN3 := hidMk hn3; have HD3 := hidMk hd3; have HM3 := hidMk hm3; have HL3 := hidMk hl3; have HF3 := hidMk f3; have HK3 := hidMk k3w; clear hn3 hd3 hm3 hl3 f3))
        all_goals (try go_wp2_with fail)
        all_goals
          have HOA2 := hidMk (HOA.out.more HRE.out.symm HM3.out (HL3.out (by simp)) HTM.out (a' := a3))
          first
            | (have HH := hidMk (hn_A0 HV.out HOB.out.em HK3.out HD3.out (fun ad e => by have h1 : wr.heap.size ≤ ad.block := HF3.out ad e; exact h1) HN3.out (fun e => by have := HL3.out (by simp); rw [e] at this; simp at this) 37); obtain ⟨nb, hnb⟩ : ∃ nb, nb = w3.heap.size := ⟨_, rfl⟩; rw [← hnb] at HH ⊢; refine gen_world (f := fun W => Code.wp _ _ _ _ W) (fun V => Hn w1 V ms ds ab bb nb a3 d3 l3 ba bc Lb) HH.out ?_)
            | (have HH := hidMk (hn_B0 HV.out HOA.out.em HOB.out.em HK3.out HD3.out (fun ad e => by have h1 := HF3.out ad e; simp at h1; omega) HN3.out q0 q1 a3 n3 d3); obtain ⟨nb, hnb⟩ : ∃ nb, nb = wr.heap.size := ⟨_, rfl⟩; rw [← hnb] at HH ⊢; refine gen_world (f := fun W => Code.wp _ _ _ _ W) (fun V => Hn w1 V ms ds ab bb nb a3 d3 l3 ba bc Lb) HH.out ?_)
          intro V hV
          clear hnb HH
          have HVV := hidMk hV
          obtain ⟨j, hj⟩ : ∃ j, l.length = j + 1 + k := ⟨l.length - 1 - k, by omega⟩
          have hjl : j < l.length := by omega
          have hw1 : IntKind.i64.wrap ((l.length : Int) - 1) = ((j + k : Nat) : Int) := by rw [IntKind.wrap_i64]; omega
          have hw2 : IntKind.i64.wrap (((j + k : Nat) : Int) - (k : Int)) = (j : Int) := by rw [IntKind.wrap_i64]; omega
          have hj0 : (0 : Int) ≤ (j : Int) := by omega
          have hj1 : (j : Int) < (l.length : Int) := by omega
          obtain ⟨JK, hJK⟩ : ∃ JK, JK = j + k := ⟨_, rfl⟩
          rw [← hJK] at hw1 hw2
          have kV := HKA.out.trans (HK1.out.trans hV.hw.a.kp)
          clear c0 c1 c2 c3 c4 y0 y1 y2 hJK hlb
          obtain ⟨c0, c1, c2, c3, c4⟩ := (HL.out.cq.kept kV).at hjl
          have hlb : lb < V.heap.size := cell_lt c0
          have y0 := hV.hw.b.cell
          have y1 := hV.hw.b.fz
          have y2 := hV.hw.b.lt
          obtain ⟨nua, nun, nuc, nc⟩ := hV.nc
          have nf := hV.nf
          have nl : nb < V.heap.size := cell_lt nc
          have hnbb : nb ≠ bb := hV.nb'
          have hnlb : nb ≠ lb := by
            obtain ⟨lb0, lo0, e0, hlt0, _⟩ := HL.out.cq.cells (by omega)
            cases e0
            have h1 := hV.nw
            have h2 := (HKA.out.trans HK1.out).size
            omega
          obtain ⟨Z, hZ⟩ : ∃ Z, clA l j = Z := ⟨_, rfl⟩
          rw [hZ] at c0 c1 c2 c3 c4
          have HAD2 := hidMk (show ∀ y, Kept V y → Calls Tryz.prog 11 #[.agg #[.slice ba Lb.length bc], .pointer (some ⟨s, 0, none⟩), clV Z] y (AddQ y ms ds Lb Z) from fun y hy => hd_AddQ (HSW.out.keep (HVV.out.hw.a.kp.trans hy)) (HVV.out.hw.b.hd.kept hy) Z)
          unfold AddQ at HAD2
          obtain ⟨R2, hR2⟩ : ∃ R, R = addE ms ds Lb Z := ⟨_, rfl⟩
          rw [← hR2] at HAD2
          have HRE2 := hidMk hR2
          have HDM := hidMk (show ∀ y, y ∈ l.drop (l.length - (k + 1)) ↔ y = Z ∨ y ∈ l.drop (l.length - k) from by
            rw [show l.length - (k + 1) = j by omega, show l.length - k = j + 1 by omega, ← hZ]
            exact drop_mem hjl)
          have HJJ := hidMk hj
          obtain ⟨z0, z1, z2, z3, z4⟩ := Z
          unfold clV at HAD2
          simp only at c0 c1 c2 c3 c4 HAD2
          clear hV kV hZ hR2 hj HAD
          by_cases hr2 : R2 = 0
          · subst hr2
            go_region_held3 (fun w' => w'.cell? ⟨bb, 0, none⟩ = some (.slice ba Lb.length bc) ∧ w'.cell? ⟨lb, lo + j * 5, none⟩ = some (.int .i64 z0) ∧ w'.cell? ⟨lb, lo + j * 5 + 1, none⟩ = some (.int .i64 z1) ∧ w'.cell? ⟨lb, lo + j * 5 + 2, none⟩ = some (.int .i64 z2) ∧ w'.cell? ⟨lb, lo + j * 5 + 3, none⟩ = some (.int .i64 z3) ∧ w'.cell? ⟨lb, lo + j * 5 + 4, none⟩ = some (.int .i64 z4))
              (first | assumption | (refine ⟨far0 hnbb (Kept.cellp ?_ y0), far0 hnlb (Kept.cellp ?_ c0), far0 hnlb (Kept.cellp ?_ c1), far0 hnlb (Kept.cellp ?_ c2), far0 hnlb (Kept.cellp ?_ c3), far0 hnlb (Kept.cellp ?_ c4)⟩ <;> ((repeat (first | (with_reducible exact Kept.refl _) | (with_reducible refine Kept.alloc ?_ _) | (with_reducible refine Kept.drew ?_) | (with_reducible refine Kept.drewN ?_ _) | (with_reducible refine Kept.trans ?_ (by assumption)))); done)) | (refine ⟨Kept.cellp ?_ y0, Kept.cellp ?_ c0, Kept.cellp ?_ c1, Kept.cellp ?_ c2, Kept.cellp ?_ c3, Kept.cellp ?_ c4⟩ <;> ((repeat (first | (with_reducible exact Kept.refl _) | (with_reducible refine Kept.alloc ?_ _) | (with_reducible refine Kept.drew ?_) | (with_reducible refine Kept.drewN ?_ _) | (with_reducible refine Kept.trans ?_ (by assumption)))); done)))
              ((go_at_call 11; refine (HAD2.out _ (by (repeat (first | (with_reducible exact Kept.refl _) | (with_reducible refine Kept.alloc ?_ _) | (with_reducible refine Kept.drew ?_) | (with_reducible refine Kept.drewN ?_ _) | (with_reducible refine Kept.trans ?_ (by assumption)))))).mono ?_; rintro e w5 ⟨a5, n5, d5, r5, rfl, ⟨rfl, l5, hn5, hd5, hm5, hl5, f5⟩, k5⟩; have k5w : Kept V w5 := (by (repeat (first | (with_reducible exact Kept.refl _) | (with_reducible refine Kept.alloc ?_ _) | (with_reducible refine Kept.drew ?_) | (with_reducible refine Kept.drewN ?_ _) | (with_reducible refine Kept.trans ?_ (by assumption))))); have nc5 := k5w.cellp nc; have nf5 := (k5w.frozen (p := ⟨nb, 0, none⟩) nl).trans nf; have nl5 : nb < w5.heap.size := cell_lt nc5; have yc5 := k5w.cellp y0; have yf5 := (k5w.frozen (p := ⟨bb, 0, none⟩) y2).trans y1; have yl5 : bb < w5.heap.size := cell_lt yc5; have HN5 := hidMk hn5; have HD5 := hidMk hd5; have HM5 := hidMk hm5; have HL5 := hidMk hl5; have HF5 := hidMk f5; have HK5 := hidMk k5w; clear hn5 hd5 hm5 hl5 f5))
            all_goals (try go_wp2_with fail)
            all_goals
              go_roundg (gk - 1)
              case measure => have := HKG.out; omega
              case rel =>
                refine ⟨k + 1, a3, d3, l3, a5, d5, l5, by have := HKG.out; omega, by go_num, hidMk ⟨?_, HOA2.out, HOB.out.more HRE2.out.symm HM5.out (HL5.out (by simp)) HDM.out⟩⟩
                have h := HVV.out
                have f5 : ∀ ad, a5 = some ad → V.heap.size ≤ ad.block := HF5.out
                have l1 := h.hw.a.lt
                have l2 := h.hw.b.lt
                exact ((h.hw.keep HK5.out).other (g := nb) _ h.na h.nb' h.ra h.rb h.nw).setB HN5.out (HD5.out.chg (chg_set _ _ _ _) (fun ad e (f : ad.block = nb) => by have := f5 ad e; omega)) (fun ad e => ⟨fun f => by have := f5 ad e; omega, fun f => by have := f5 ad e; omega⟩)
          · go_region_held3 (fun w' => w'.cell? ⟨bb, 0, none⟩ = some (.slice ba Lb.length bc) ∧ w'.cell? ⟨lb, lo + j * 5, none⟩ = some (.int .i64 z0) ∧ w'.cell? ⟨lb, lo + j * 5 + 1, none⟩ = some (.int .i64 z1) ∧ w'.cell? ⟨lb, lo + j * 5 + 2, none⟩ = some (.int .i64 z2) ∧ w'.cell? ⟨lb, lo + j * 5 + 3, none⟩ = some (.int .i64 z3) ∧ w'.cell? ⟨lb, lo + j * 5 + 4, none⟩ = some (.int .i64 z4))
              (first | assumption | (refine ⟨far0 hnbb (Kept.cellp ?_ y0), far0 hnlb (Kept.cellp ?_ c0), far0 hnlb (Kept.cellp ?_ c1), far0 hnlb (Kept.cellp ?_ c2), far0 hnlb (Kept.cellp ?_ c3), far0 hnlb (Kept.cellp ?_ c4)⟩ <;> ((repeat (first | (with_reducible exact Kept.refl _) | (with_reducible refine Kept.alloc ?_ _) | (with_reducible refine Kept.drew ?_) | (with_reducible refine Kept.drewN ?_ _) | (with_reducible refine Kept.trans ?_ (by assumption)))); done)) | (refine ⟨Kept.cellp ?_ y0, Kept.cellp ?_ c0, Kept.cellp ?_ c1, Kept.cellp ?_ c2, Kept.cellp ?_ c3, Kept.cellp ?_ c4⟩ <;> ((repeat (first | (with_reducible exact Kept.refl _) | (with_reducible refine Kept.alloc ?_ _) | (with_reducible refine Kept.drew ?_) | (with_reducible refine Kept.drewN ?_ _) | (with_reducible refine Kept.trans ?_ (by assumption)))); done)))
              ((go_at_call 11; refine (HAD2.out _ (by (repeat (first | (with_reducible exact Kept.refl _) | (with_reducible refine Kept.alloc ?_ _) | (with_reducible refine Kept.drew ?_) | (with_reducible refine Kept.drewN ?_ _) | (with_reducible refine Kept.trans ?_ (by assumption)))))).mono ?_; rintro e w5 ⟨a5, n5, d5, r5, rfl, ⟨rfl, l5, hn5, hd5, hm5, hl5, f5⟩, k5⟩; have k5w : Kept V w5 := (by (repeat (first | (with_reducible exact Kept.refl _) | (with_reducible refine Kept.alloc ?_ _) | (with_reducible refine Kept.drew ?_) | (with_reducible refine Kept.drewN ?_ _) | (with_reducible refine Kept.trans ?_ (by assumption))))); have nc5 := k5w.cellp nc; have nf5 := (k5w.frozen (p := ⟨nb, 0, none⟩) nl).trans nf; have nl5 : nb < w5.heap.size := cell_lt nc5; have yc5 := k5w.cellp y0; have yf5 := (k5w.frozen (p := ⟨bb, 0, none⟩) y2).trans y1; have yl5 : bb < w5.heap.size := cell_lt yc5; have HN5 := hidMk hn5; have HD5 := hidMk hd5; have HM5 := hidMk hm5; have HL5 := hidMk hl5; have HF5 := hidMk f5; have HK5 := hidMk k5w; clear hn5 hd5 hm5 hl5 f5))
            all_goals (try go_wp2_with fail)
            all_goals
              go_roundg (gk - 1)
              case measure => have := HKG.out; omega
              case rel =>
                have h := HVV.out
                exact ⟨k + 1, a3, d3, l3, ba, bc, Lb, by have := HKG.out; omega, by go_num, hidMk ⟨(h.hw.keep HK5.out).other (g := nb) _ h.na h.nb' h.ra h.rb h.nw, HOA2.out, HOB.out.same (by omega) (by rw [← HRE2.out]; exact hr2) HDM.out⟩⟩
      · go_wp2_with fail
        go_region_held3 (fun w' => w'.cell? ⟨ab, 0, none⟩ = some (.slice aa La.length ac) ∧ w'.cell? ⟨lb, lo + k * 5, none⟩ = some (.int .i64 x0) ∧ w'.cell? ⟨lb, lo + k * 5 + 1, none⟩ = some (.int .i64 x1) ∧ w'.cell? ⟨lb, lo + k * 5 + 2, none⟩ = some (.int .i64 x2) ∧ w'.cell? ⟨lb, lo + k * 5 + 3, none⟩ = some (.int .i64 x3) ∧ w'.cell? ⟨lb, lo + k * 5 + 4, none⟩ = some (.int .i64 x4))
          (first | assumption | (refine ⟨Kept.cellp ?_ y0, Kept.cellp ?_ c0, Kept.cellp ?_ c1, Kept.cellp ?_ c2, Kept.cellp ?_ c3, Kept.cellp ?_ c4⟩ <;> ((repeat (first | (with_reducible exact Kept.refl _) | (with_reducible refine Kept.alloc ?_ _) | (with_reducible refine Kept.drew ?_) | (with_reducible refine Kept.drewN ?_ _) | (with_reducible refine Kept.trans ?_ (by assumption)))); done)) | (refine ⟨Kept.cellp ?_ y0, Kept.cellp ?_ c0, Kept.cellp ?_ c1, Kept.cellp ?_ c2, Kept.cellp ?_ c3, Kept.cellp ?_ c4⟩ <;> (refine Kept.setCell ?_ (Nat.le_refl _) _; (repeat (first | (with_reducible exact Kept.refl _) | (with_reducible refine Kept.alloc ?_ _) | (with_reducible refine Kept.drew ?_) | (with_reducible refine Kept.drewN ?_ _) | (with_reducible refine Kept.trans ?_ (by assumption)))); done)))
          ((go_at_call 11; refine (HAD.out _ (by (repeat (first | (with_reducible exact Kept.refl _) | (with_reducible refine Kept.alloc ?_ _) | (with_reducible refine Kept.drew ?_) | (with_reducible refine Kept.drewN ?_ _) | (with_reducible refine Kept.trans ?_ (by assumption)))))).mono ?_; rintro e w3 ⟨a3, n3, d3, r3, rfl, ⟨rfl, l3, hn3, hd3, hm3, hl3, f3⟩, k3⟩; (first | (have q9 := by with_reducible exact new_kn k3) | skip); (first | (obtain ⟨q0, q1, q2⟩ := q9) | skip); have k3w : Kept wr w3 := (by (repeat (first | (with_reducible exact Kept.refl _) | (with_reducible refine Kept.alloc ?_ _) | (with_reducible refine Kept.drew ?_) | (with_reducible refine Kept.drewN ?_ _) | (with_reducible refine Kept.trans ?_ (by assumption))))); have yc := k3w.cellp y0; have yf := (k3w.frozen (p := ⟨ab, 0, none⟩) y2).trans y1; have yl : ab < w3.heap.size := cell_lt yc; have HN3 := hidMk hn3; have HD3 := hidMk hd3; have HM3 := hidMk hm3; have HL3 := hidMk hl3; have HF3 := hidMk f3; have HK3 := hidMk k3w; clear hn3 hd3 hm3 hl3 f3))
        all_goals (try go_wp2_with fail)
        all_goals
          have HOA2 := hidMk (HOA.out.same (by omega) (by rw [← HRE.out]; exact hr) HTM.out)
          first
            | (have HH := hidMk (hn_A1 HV.out HOA.out.em HOB.out.em HK3.out a3 n3 d3 37); obtain ⟨nb, hnb⟩ : ∃ nb, nb = w3.heap.size := ⟨_, rfl⟩; rw [← hnb] at HH ⊢; refine gen_world (f := fun W => Code.wp _ _ _ _ W) (fun V => Hn w1 V ms ds ab bb nb aa ac La ba bc Lb) HH.out ?_)
            | (have HH := hidMk (hn_B1 HV.out HOA.out.em HOB.out.em HK3.out q0 q1 a3 n3 d3); obtain ⟨nb, hnb⟩ : ∃ nb, nb = wr.heap.size := ⟨_, rfl⟩; rw [← hnb] at HH ⊢; refine gen_world (f := fun W => Code.wp _ _ _ _ W) (fun V => Hn w1 V ms ds ab bb nb aa ac La ba bc Lb) HH.out ?_)
          intro V hV
          clear hnb HH
          have HVV := hidMk hV
          obtain ⟨j, hj⟩ : ∃ j, l.length = j + 1 + k := ⟨l.length - 1 - k, by omega⟩
          have hjl : j < l.length := by omega
          have hw1 : IntKind.i64.wrap ((l.length : Int) - 1) = ((j + k : Nat) : Int) := by rw [IntKind.wrap_i64]; omega
          have hw2 : IntKind.i64.wrap (((j + k : Nat) : Int) - (k : Int)) = (j : Int) := by rw [IntKind.wrap_i64]; omega
          have hj0 : (0 : Int) ≤ (j : Int) := by omega
          have hj1 : (j : Int) < (l.length : Int) := by omega
          obtain ⟨JK, hJK⟩ : ∃ JK, JK = j + k := ⟨_, rfl⟩
          rw [← hJK] at hw1 hw2
          have kV := HKA.out.trans (HK1.out.trans hV.hw.a.kp)
          clear c0 c1 c2 c3 c4 y0 y1 y2 hJK hlb
          obtain ⟨c0, c1, c2, c3, c4⟩ := (HL.out.cq.kept kV).at hjl
          have hlb : lb < V.heap.size := cell_lt c0
          have y0 := hV.hw.b.cell
          have y1 := hV.hw.b.fz
          have y2 := hV.hw.b.lt
          obtain ⟨nua, nun, nuc, nc⟩ := hV.nc
          have nf := hV.nf
          have nl : nb < V.heap.size := cell_lt nc
          have hnbb : nb ≠ bb := hV.nb'
          have hnlb : nb ≠ lb := by
            obtain ⟨lb0, lo0, e0, hlt0, _⟩ := HL.out.cq.cells (by omega)
            cases e0
            have h1 := hV.nw
            have h2 := (HKA.out.trans HK1.out).size
            omega
          obtain ⟨Z, hZ⟩ : ∃ Z, clA l j = Z := ⟨_, rfl⟩
          rw [hZ] at c0 c1 c2 c3 c4
          have HAD2 := hidMk (show ∀ y, Kept V y → Calls Tryz.prog 11 #[.agg #[.slice ba Lb.length bc], .pointer (some ⟨s, 0, none⟩), clV Z] y (AddQ y ms ds Lb Z) from fun y hy => hd_AddQ (HSW.out.keep (HVV.out.hw.a.kp.trans hy)) (HVV.out.hw.b.hd.kept hy) Z)
          unfold AddQ at HAD2
          obtain ⟨R2, hR2⟩ : ∃ R, R = addE ms ds Lb Z := ⟨_, rfl⟩
          rw [← hR2] at HAD2
          have HRE2 := hidMk hR2
          have HDM := hidMk (show ∀ y, y ∈ l.drop (l.length - (k + 1)) ↔ y = Z ∨ y ∈ l.drop (l.length - k) from by
            rw [show l.length - (k + 1) = j by omega, show l.length - k = j + 1 by omega, ← hZ]
            exact drop_mem hjl)
          have HJJ := hidMk hj
          obtain ⟨z0, z1, z2, z3, z4⟩ := Z
          unfold clV at HAD2
          simp only at c0 c1 c2 c3 c4 HAD2
          clear hV kV hZ hR2 hj HAD
          by_cases hr2 : R2 = 0
          · subst hr2
            go_region_held3 (fun w' => w'.cell? ⟨bb, 0, none⟩ = some (.slice ba Lb.length bc) ∧ w'.cell? ⟨lb, lo + j * 5, none⟩ = some (.int .i64 z0) ∧ w'.cell? ⟨lb, lo + j * 5 + 1, none⟩ = some (.int .i64 z1) ∧ w'.cell? ⟨lb, lo + j * 5 + 2, none⟩ = some (.int .i64 z2) ∧ w'.cell? ⟨lb, lo + j * 5 + 3, none⟩ = some (.int .i64 z3) ∧ w'.cell? ⟨lb, lo + j * 5 + 4, none⟩ = some (.int .i64 z4))
              (first | assumption | (refine ⟨far0 hnbb (Kept.cellp ?_ y0), far0 hnlb (Kept.cellp ?_ c0), far0 hnlb (Kept.cellp ?_ c1), far0 hnlb (Kept.cellp ?_ c2), far0 hnlb (Kept.cellp ?_ c3), far0 hnlb (Kept.cellp ?_ c4)⟩ <;> ((repeat (first | (with_reducible exact Kept.refl _) | (with_reducible refine Kept.alloc ?_ _) | (with_reducible refine Kept.drew ?_) | (with_reducible refine Kept.drewN ?_ _) | (with_reducible refine Kept.trans ?_ (by assumption)))); done)) | (refine ⟨Kept.cellp ?_ y0, Kept.cellp ?_ c0, Kept.cellp ?_ c1, Kept.cellp ?_ c2, Kept.cellp ?_ c3, Kept.cellp ?_ c4⟩ <;> ((repeat (first | (with_reducible exact Kept.refl _) | (with_reducible refine Kept.alloc ?_ _) | (with_reducible refine Kept.drew ?_) | (with_reducible refine Kept.drewN ?_ _) | (with_reducible refine Kept.trans ?_ (by assumption)))); done)))
              ((go_at_call 11; refine (HAD2.out _ (by (repeat (first | (with_reducible exact Kept.refl _) | (with_reducible refine Kept.alloc ?_ _) | (with_reducible refine Kept.drew ?_) | (with_reducible refine Kept.drewN ?_ _) | (with_reducible refine Kept.trans ?_ (by assumption)))))).mono ?_; rintro e w5 ⟨a5, n5, d5, r5, rfl, ⟨rfl, l5, hn5, hd5, hm5, hl5, f5⟩, k5⟩; have k5w : Kept V w5 := (by (repeat (first | (with_reducible exact Kept.refl _) | (with_reducible refine Kept.alloc ?_ _) | (with_reducible refine Kept.drew ?_) | (with_reducible refine Kept.drewN ?_ _) | (with_reducible refine Kept.trans ?_ (by assumption))))); have nc5 := k5w.cellp nc; have nf5 := (k5w.frozen (p := ⟨nb, 0, none⟩) nl).trans nf; have nl5 : nb < w5.heap.size := cell_lt nc5; have yc5 := k5w.cellp y0; have yf5 := (k5w.frozen (p := ⟨bb, 0, none⟩) y2).trans y1; have yl5 : bb < w5.heap.size := cell_lt yc5; have HN5 := hidMk hn5; have HD5 := hidMk hd5; have HM5 := hidMk hm5; have HL5 := hidMk hl5; have HF5 := hidMk f5; have HK5 := hidMk k5w; clear hn5 hd5 hm5 hl5 f5))
            all_goals (try go_wp2_with fail)
            all_goals
              go_roundg (gk - 1)
              case measure => have := HKG.out; omega
              case rel =>
                refine ⟨k + 1, aa, ac, La, a5, d5, l5, by have := HKG.out; omega, by go_num, hidMk ⟨?_, HOA2.out, HOB.out.more HRE2.out.symm HM5.out (HL5.out (by simp)) HDM.out⟩⟩
                have h := HVV.out
                have f5 : ∀ ad, a5 = some ad → V.heap.size ≤ ad.block := HF5.out
                have l1 := h.hw.a.lt
                have l2 := h.hw.b.lt
                exact ((h.hw.keep HK5.out).other (g := nb) _ h.na h.nb' h.ra h.rb h.nw).setB HN5.out (HD5.out.chg (chg_set _ _ _ _) (fun ad e (f : ad.block = nb) => by have := f5 ad e; omega)) (fun ad e => ⟨fun f => by have := f5 ad e; omega, fun f => by have := f5 ad e; omega⟩)
          · go_region_held3 (fun w' => w'.cell? ⟨bb, 0, none⟩ = some (.slice ba Lb.length bc) ∧ w'.cell? ⟨lb, lo + j * 5, none⟩ = some (.int .i64 z0) ∧ w'.cell? ⟨lb, lo + j * 5 + 1, none⟩ = some (.int .i64 z1) ∧ w'.cell? ⟨lb, lo + j * 5 + 2, none⟩ = some (.int .i64 z2) ∧ w'.cell? ⟨lb, lo + j * 5 + 3, none⟩ = some (.int .i64 z3) ∧ w'.cell? ⟨lb, lo + j * 5 + 4, none⟩ = some (.int .i64 z4))
              (first | assumption | (refine ⟨far0 hnbb (Kept.cellp ?_ y0), far0 hnlb (Kept.cellp ?_ c0), far0 hnlb (Kept.cellp ?_ c1), far0 hnlb (Kept.cellp ?_ c2), far0 hnlb (Kept.cellp ?_ c3), far0 hnlb (Kept.cellp ?_ c4)⟩ <;> ((repeat (first | (with_reducible exact Kept.refl _) | (with_reducible refine Kept.alloc ?_ _) | (with_reducible refine Kept.drew ?_) | (with_reducible refine Kept.drewN ?_ _) | (with_reducible refine Kept.trans ?_ (by assumption)))); done)) | (refine ⟨Kept.cellp ?_ y0, Kept.cellp ?_ c0, Kept.cellp ?_ c1, Kept.cellp ?_ c2, Kept.cellp ?_ c3, Kept.cellp ?_ c4⟩ <;> ((repeat (first | (with_reducible exact Kept.refl _) | (with_reducible refine Kept.alloc ?_ _) | (with_reducible refine Kept.drew ?_) | (with_reducible refine Kept.drewN ?_ _) | (with_reducible refine Kept.trans ?_ (by assumption)))); done)))
              ((go_at_call 11; refine (HAD2.out _ (by (repeat (first | (with_reducible exact Kept.refl _) | (with_reducible refine Kept.alloc ?_ _) | (with_reducible refine Kept.drew ?_) | (with_reducible refine Kept.drewN ?_ _) | (with_reducible refine Kept.trans ?_ (by assumption)))))).mono ?_; rintro e w5 ⟨a5, n5, d5, r5, rfl, ⟨rfl, l5, hn5, hd5, hm5, hl5, f5⟩, k5⟩; have k5w : Kept V w5 := (by (repeat (first | (with_reducible exact Kept.refl _) | (with_reducible refine Kept.alloc ?_ _) | (with_reducible refine Kept.drew ?_) | (with_reducible refine Kept.drewN ?_ _) | (with_reducible refine Kept.trans ?_ (by assumption))))); have nc5 := k5w.cellp nc; have nf5 := (k5w.frozen (p := ⟨nb, 0, none⟩) nl).trans nf; have nl5 : nb < w5.heap.size := cell_lt nc5; have yc5 := k5w.cellp y0; have yf5 := (k5w.frozen (p := ⟨bb, 0, none⟩) y2).trans y1; have yl5 : bb < w5.heap.size := cell_lt yc5; have HN5 := hidMk hn5; have HD5 := hidMk hd5; have HM5 := hidMk hm5; have HL5 := hidMk hl5; have HF5 := hidMk f5; have HK5 := hidMk k5w; clear hn5 hd5 hm5 hl5 f5))
            all_goals (try go_wp2_with fail)
            all_goals
              go_roundg (gk - 1)
              case measure => have := HKG.out; omega
              case rel =>
                have h := HVV.out
                exact ⟨k + 1, aa, ac, La, ba, bc, Lb, by have := HKG.out; omega, by go_num, hidMk ⟨(h.hw.keep HK5.out).other (g := nb) _ h.na h.nb' h.ra h.rb h.nw, HOA2.out, HOB.out.same (by omega) (by rw [← HRE2.out]; exact hr2) HDM.out⟩⟩
    · have hk1 : ¬ ((k : Int) < (l.length : Int)) := by omega
      obtain rfl : k = l.length := by omega
      have HV := HJ.out.1
      have hab : La = Lb := riseC_ext HV.a.hd.rs HV.b.hd.rs (fun y => by
        rw [HJ.out.2.1.mem, HJ.out.2.2.mem, List.take_of_length_le (Nat.le_refl _), Nat.sub_self, List.drop_zero])
      subst hab
      have y0 := HV.a.cell
      have y1 := HV.b.cell
      have y2 := HV.a.lt
      have y3 := HV.b.lt
      have HKV := hidMk HV.a.kp
      have hsm := HV.a.hd.sm
      have HSA := hidMk (show ∀ y, Kept wr y → Calls Tryz.prog 23 #[.agg #[.slice aa La.length ac], .agg #[.slice ba La.length bc]] y fun e w' => e = .returned (.bool true) ∧ Kept y w' from fun y hy => by
        refine (hold_Same aa ba ac bc La La y (HV.a.hd.cq.kept hy) (HV.b.hd.cq.kept hy) (by omega)).mono ?_
        rintro e w' ⟨rfl, k⟩
        exact ⟨by simp, k⟩)
      have HLA := hidMk (show ∀ y, Kept wr y → Calls Tryz.prog 14 #[.agg #[.slice aa La.length ac]] y fun e w' => (∃ a c, e = .returned (.slice a La.length c) ∧ Cs w' a La.length (fC La)) ∧ Kept y w' from fun y hy => by
        refine (hold_List aa ac La y (HV.a.hd.cq.kept hy) HV.a.hd.nl (by omega)).mono ?_
        rintro e w' ⟨v, rfl, ho, k⟩
        obtain ⟨a, c, rfl, hq, _⟩ := ho.form
        exact ⟨⟨a, c, rfl, hq.cs (by unfold maxLen; omega)⟩, k⟩)
      have HLB := hidMk (show ∀ y, Kept wr y → Calls Tryz.prog 14 #[.agg #[.slice ba La.length bc]] y fun e w' => (∃ a c, e = .returned (.slice a La.length c) ∧ Cs w' a La.length (fC La)) ∧ Kept y w' from fun y hy => by
        refine (hold_List ba bc La y (HV.b.hd.cq.kept hy) HV.b.hd.nl (by omega)).mono ?_
        rintro e w' ⟨v, rfl, ho, k⟩
        obtain ⟨a, c, rfl, hq, _⟩ := ho.form
        exact ⟨⟨a, c, rfl, hq.cs (by unfold maxLen; omega)⟩, k⟩)
      clear HV
      go_wp2_with fail
      go_region_held3 (fun w' => w'.cell? ⟨ab, 0, none⟩ = some (.slice aa La.length ac) ∧ w'.cell? ⟨bb, 0, none⟩ = some (.slice ba La.length bc))
        (first | assumption | (refine ⟨Kept.cellp ?_ y0, Kept.cellp ?_ y1⟩ <;> ((repeat (first | (with_reducible exact Kept.refl _) | (with_reducible refine Kept.alloc ?_ _) | (with_reducible refine Kept.drew ?_) | (with_reducible refine Kept.drewN ?_ _) | (with_reducible refine Kept.trans ?_ (by assumption)))); done)))
        (first
          | (go_at_call 23; refine (HSA.out _ (by (repeat (first | (with_reducible exact Kept.refl _) | (with_reducible refine Kept.alloc ?_ _) | (with_reducible refine Kept.drew ?_) | (with_reducible refine Kept.drewN ?_ _) | (with_reducible refine Kept.trans ?_ (by assumption)))))).mono ?_; rintro e w5 ⟨rfl, k5⟩)
          | (go_at_call 14; refine (HLA.out _ (by (repeat (first | (with_reducible exact Kept.refl _) | (with_reducible refine Kept.alloc ?_ _) | (with_reducible refine Kept.drew ?_) | (with_reducible refine Kept.drewN ?_ _) | (with_reducible refine Kept.trans ?_ (by assumption)))))).mono ?_; rintro e w6 ⟨⟨a6, c6, rfl, s6⟩, k6⟩)
          | (go_at_call 14; refine (HLB.out _ (by (repeat (first | (with_reducible exact Kept.refl _) | (with_reducible refine Kept.alloc ?_ _) | (with_reducible refine Kept.drew ?_) | (with_reducible refine Kept.drewN ?_ _) | (with_reducible refine Kept.trans ?_ (by assumption)))))).mono ?_; rintro e w7 ⟨⟨a7, c7, rfl, s7⟩, k7⟩)
          | (go_at_call 13; refine (ref7_Same _ _ _ _ _ _ _ (Cs.kept (by assumption) (by (repeat (first | (with_reducible exact Kept.refl _) | (with_reducible refine Kept.alloc ?_ _) | (with_reducible refine Kept.drew ?_) | (with_reducible refine Kept.drewN ?_ _) | (with_reducible refine Kept.trans ?_ (by assumption)))))) (Cs.kept (by assumption) (by (repeat (first | (with_reducible exact Kept.refl _) | (with_reducible refine Kept.alloc ?_ _) | (with_reducible refine Kept.drew ?_) | (with_reducible refine Kept.drewN ?_ _) | (with_reducible refine Kept.trans ?_ (by assumption))))))).mono ?_; rintro e w8 ⟨rfl, k8⟩)
          | (go_at_call 8; refine (HKN.out _).mono ?_; rintro e w9 ⟨rfl, k9⟩; have HK9 := hidMk (show Kept wr w9 from by (repeat (first | (with_reducible exact Kept.refl _) | (with_reducible refine Kept.alloc ?_ _) | (with_reducible refine Kept.drew ?_) | (with_reducible refine Kept.drewN ?_ _) | (with_reducible refine Kept.trans ?_ (by assumption)))))))
      all_goals (try go_wp2_with fail)
      all_goals
        go_ret
        exact ⟨by simp, HKA.out.trans (HK1.out.trans (HKV.out.trans HK9.out))⟩
end Go.Proofs.YtpkepkemjcjplaaGreat
