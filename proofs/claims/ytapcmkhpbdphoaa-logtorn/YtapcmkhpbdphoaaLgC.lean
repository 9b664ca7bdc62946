/- log: Add: a record behind the others, or the power goes. -/
import Derived.Test.YtapcmkhpbdphoaaLgB
namespace Go.Proofs.Ytapcmkhpbdphoaa
open Go.RowKit Go.Maps Go.Shelf
set_option linter.unusedSimpArgs false
set_option linter.unusedVariables false
attribute [local go_sem] Oper.semAt_some

theorem new_cl (W : World) (cs : Array Value) (t : TypeId) (b i : Nat) (v : Value) (hb : b = W.heap.size) (hv : cs[i]? = some v) : (W.alloc (.cells cs t)).cell? ⟨b, i, none⟩ = some v := by subst hb; simp [hv]
theorem chg_put (X : World) (b : Nat) (o : Obj) : Chg (fun j => j = b) X (X.putObj b o) := ⟨rfl, rfl, rfl, by simp [World.putObj], fun j hj hb => World.putObj_heap_other hb⟩
theorem Chg.put {S : Nat → Prop} {x y : World} (h : Chg S x y) {b : Nat} (hb : x.heap.size ≤ b) (o : Obj) : Chg S x (y.putObj b o) := h.thn (chg_put y b o) (fun j hj e => by omega)
theorem range_pre {pre : List Nat} {x M : Nat} (h : pre ++ [x] <+: List.range M) : x = pre.length ∧ pre.length < M := by
  obtain ⟨t, ht⟩ := h
  have h1 : pre.length + 1 + t.length = M := by have := congrArg List.length ht; simp at this; omega
  have h2 : (pre ++ [x] ++ t)[pre.length]? = some x := by simp
  rw [ht, List.getElem?_range (by omega)] at h2
  exact ⟨(Option.some.inj h2).symm, by omega⟩
theorem range_le {a b : Nat} (h : a ≤ b) : List.range a <+: List.range b := by
  refine ⟨(List.range (b - a)).map (· + a), ?_⟩
  rw [show b = a + (b - a) by omega, List.range_add]
  congr 1
  rw [show a + (b - a) - a = b - a by omega]
  refine List.map_congr_left fun x _ => by omega
/-- Between two writes. -/
structure AddJ (W X : World) (p f d fr to : Nat) (wr : Int) (g L K : Nat) (va : Option Addr) (vn vc u N : Nat) (st : Bf) : Prop where
  lc : Lc X p f fr to false wr g L K va vn vc u true
  fl : Fl X f d N st
  c : Chg (fun j => j = p ∨ Of f d j) W X
theorem AddJ.put {W X : World} {p f d fr to : Nat} {wr : Int} {g L K : Nat} {va : Option Addr} {vn vc u N : Nat} {st : Bf} (h : AddJ W X p f d fr to wr g L K va vn vc u N st) {b : Nat} (hb : W.heap.size ≤ b) (h1 : p < b) (h2 : f < b) (h3 : d < b) (o : Obj) : AddJ W (X.putObj b o) p f d fr to wr g L K va vn vc u N st :=
  ⟨h.lc.chg (chg_put X b o) (show ¬ p = b by omega), h.fl.chg (chg_put X b o) (show ¬ f = b by omega) (show ¬ d = b by omega), h.c.put hb o⟩
/-- The power went. -/
structure AddX (W X : World) (p f d eb N M : Nat) (s : Bf) (G : List Int) (b : Nat) : Prop where
  ex : ∃ i : Nat, i < M ∧ s.wt = true ∧ s.be = i ∧ Fl X f d N (stX s G b i)
  ec : X.cell? ⟨eb, 0, none⟩ = some (.int .i64 21)
  c : Chg (fun j => (j = p ∨ Of f d j) ∨ j = eb) W X
theorem AddX.put {W X : World} {p f d eb N M : Nat} {s : Bf} {G : List Int} {b0 : Nat} (h : AddX W X p f d eb N M s G b0) {b : Nat} (hb : W.heap.size ≤ b) (h1 : eb < b) (h2 : f < b) (h3 : d < b) (o : Obj) : AddX W (X.putObj b o) p f d eb N M s G b0 := by
  obtain ⟨⟨i, e1, e2, e3, e4⟩, h5, h6⟩ := h
  exact ⟨⟨i, e1, e2, e3, e4.chg (chg_put X b o) (show ¬ f = b by omega) (show ¬ d = b by omega)⟩, (chg_put X b o).cellp h5 (show ¬ eb = b by omega), h6.put hb o⟩
theorem rec_at {d : Nat} {S : Nat → Prop} {X Y : World} {R : Obj} (h : Recs d R X) (k : Chg S X Y) (h1 : ¬ S (d + 1)) (h2 : ¬ S d) : Recs d R Y :=
  ⟨(k.block _ ((Array.getElem?_eq_some_iff.1 h.1).1) h1).trans h.1, (k.block _ ((Array.getElem?_eq_some_iff.1 h.2).1) h2).trans h.2⟩
theorem div32 (u q : Nat) (h : q = u / 32) : (u : Int).tdiv 32 = (q : Int) := by rw [h]; rfl
theorem div32w (u q : Nat) (h : q = u / 32) (hu : u ≤ 32000) : wrap64 ((u : Int).tdiv 32) = (q : Int) := by rw [div32 u q h]; unfold wrap64; omega
/-- What Add makes of a log and of the file. -/
def AddP (w : World) (T : Nat → Prop) (p f d g K N fr to : Nat) (s : Bf) (rs : List (List Int)) (l : List Int) (e : Ending) (w' : World) : Prop :=
  (e = .returned (.int .i64 0) ∧ ∃ va vn vc qs s', Lg w' T p f d g K va vn vc qs N fr to s' (rs ++ [l]) ∧ s'.wt = s.wt ∧ s'.wr ≤ s.wr + 12 ∧ Chg (fun j => ¬ T j) w w') ∨
  (e = .returned (.int .i64 21) ∧ s.wt = true ∧ ∃ (i : Nat) (s' : Bf), s.be = i ∧ Fl w' f d N s' ∧ ((catR rs).length / 32 + i) * 32 + 32 ≤ (to - fr) * 32 ∧ s'.F = mix (newF s.F fr to (logB ((to - fr) * 32) (rs ++ [l]))) s.F ((fr + (catR rs).length / 32 + i) * 32 + s.by_.toNat) ∧ 0 ≤ s'.wr ∧ s'.wr ≤ s.wr + 12 ∧ Chg (fun j => ¬ T j) w w')
theorem then_only {F : Fence} {n : Nat} {P : Program} {c : Code} {K : Act → World → Prop} {Q : Exit → Act → World → Prop} {a : Act} {w : World} (h : c.wpIn F n P (Exit.then K (fun _ _ _ => False)) a w) : c.wpIn F n P (Exit.then K Q) a w :=
  Go.wpIn_mono h (fun e a w h => by cases e <;> first | exact h | exact h.elim)
/-- What is read ahead of the last store. -/
def AddS (lb p f hb : Nat) (wr : Int) (g L K : Nat) (va : Option Addr) (vn vc u : Nat) (w9 : World) : Prop := Hid (w9.cell? ⟨lb, 0, none⟩ = some (.pointer (some ⟨p, 0, none⟩)) ∧ w9.cell? ⟨p, 0, none⟩ = some (.pointer (some ⟨f, 0, none⟩)) ∧ Cn w9 hb (.int .i64 wr) (.slice (some ⟨g, 0, none⟩) L K) (.slice va vn vc) (.int .i64 (u : Int)) (.bool true))
/-- Five cells of a log, set one behind another. -/
def setC (X : World) (p : Nat) (v0 v1 v2 v3 v4 : Value) : World := ((((X.setCell ⟨p, 4, none⟩ v0).setCell ⟨p, 5, none⟩ v1).setCell ⟨p, 6, none⟩ v2).setCell ⟨p, 7, none⟩ v3).setCell ⟨p, 8, none⟩ v4
theorem setC_chg (X : World) (p : Nat) (v0 v1 v2 v3 v4 : Value) : Chg (fun j => j = p) X (setC X p v0 v1 v2 v3 v4) := (((((Chg.refl (fun j => j = p) X).own 4 v0).own 5 v1).own 6 v2).own 7 v3).own 8 v4
theorem setC_zero {X : World} {p : Nat} {v : Value} (h : X.cell? ⟨p, 0, none⟩ = some v) (v0 v1 v2 v3 v4 : Value) : (setC X p v0 v1 v2 v3 v4).cell? ⟨p, 0, none⟩ = some v := so (so (so (so (so h (by simp)) (by simp)) (by simp)) (by simp)) (by simp)
theorem adds_set {lb p f hb : Nat} {wr : Int} {g L K : Nat} {va : Option Addr} {vn vc u : Nat} {X : World} (h : AddS lb p f hb wr g L K va vn vc u X) (hne : lb ≠ p ∧ hb ≠ p) (v0 v1 v2 v3 v4 : Value) : AddS lb p f hb wr g L K va vn vc u (((((X.setCell ⟨p, 4, none⟩ v0).setCell ⟨p, 5, none⟩ v1).setCell ⟨p, 6, none⟩ v2).setCell ⟨p, 7, none⟩ v3).setCell ⟨p, 8, none⟩ v4) := by
  obtain ⟨a1, a2, a3⟩ := h.out
  exact hidMk ⟨(setC_chg X p v0 v1 v2 v3 v4).cellp a1 hne.1, setC_zero a2 v0 v1 v2 v3 v4, a3.chg (setC_chg X p v0 v1 v2 v3 v4) hne.2⟩
theorem Lc.setC {w : World} {p f fr to : Nat} {bad : Bool} {wr : Int} {g L K : Nat} {va : Option Addr} {vn vc u : Nat} {cl : Bool} (h : Lc w p f fr to bad wr g L K va vn vc u cl) (wr' : Int) (va' : Option Addr) (vn' vc' : Nat) (u' : Int) (u2 : Nat) (hu : u' = u2) : Lc (setC w p (.int .i64 wr') (.slice (some ⟨g, 0, none⟩) L K) (.slice va' vn' vc') (.int .i64 u') (.bool cl)) p f fr to bad wr' g L K va' vn' vc' u2 cl := by
  subst hu
  refine ⟨setC_zero h.c0 _ _ _ _ _, so (so (so (so (so h.c1 (by simp)) (by simp)) (by simp)) (by simp)) (by simp), so (so (so (so (so h.c2 (by simp)) (by simp)) (by simp)) (by simp)) (by simp), so (so (so (so (so h.c3 (by simp)) (by simp)) (by simp)) (by simp)) (by simp), ?_, ?_, ?_, ?_, ?_, fun i hi => ?_, ?_⟩
  · exact (so (so (so (so (World.cell?_setCell_same _ _ _ h.c4) (by simp)) (by simp)) (by simp)) (by simp))
  · exact (so (so (so (World.cell?_setCell_same _ _ _ (so h.c5 (by simp))) (by simp)) (by simp)) (by simp))
  · exact (so (so (World.cell?_setCell_same _ _ _ (so (so h.c6 (by simp)) (by simp))) (by simp)) (by simp))
  · exact (so (World.cell?_setCell_same _ _ _ (so (so (so h.c7 (by simp)) (by simp)) (by simp))) (by simp))
  · exact World.cell?_setCell_same _ _ _ (so (so (so (so h.c8 (by simp)) (by simp)) (by simp)) (by simp))
  · unfold Go.Proofs.Ytapcmkhpbdphoaa.setC
    rw [World.frozen?_setCell, World.frozen?_setCell, World.frozen?_setCell, World.frozen?_setCell, World.frozen?_setCell]
    exact h.fz i hi
  · exact Nat.lt_of_lt_of_le h.lt (setC_chg w p _ _ _ _ _).size
section
variable {w Z : World} {T : Nat → Prop} {p f d g K : Nat} {va : Option Addr} {vn vc : Nat} {qs : List Sv} {N fr to : Nat} {s : Bf} {rs : List (List Int)}
/-- The log behind an Add. -/
theorem lg_added (h : Lg w T p f d g K va vn vc qs N fr to s rs) {l G : List Int} {L u q M : Nat} {va' : Option Addr} {vn' vc' : Nat} {qs' : List Sv} (hL : L = (to - fr) * 32) (hu : u = (catR rs).length) (hl : RecOk l) (hfit : (catR rs).length + (recB l).length ≤ L) (hG : G = newF s.F fr to (logB L (rs ++ [l]))) (hM1 : (q + M) * 32 ≤ L) (hM2 : (catR rs).length + (recB l).length ≤ (q + M) * 32) (hbe : s.wt = true → (M : Int) ≤ s.be)
    (hlc : Lc Z p f fr to false (stI s G (fr + q) M).wr g L K va' vn' vc' (u + (recB l).length) true) (hfl : Fl Z f d N (stI s G (fr + q) M)) (hdt : Dt Z g (putL (logB L rs) u (recB l))) (hrz : Rz Z 0 (.slice va' vn' vc') qs' (rs ++ [l])) (hsz : w.heap.size ≤ Z.heap.size)
    (hv : ∀ k, (Value.slice va' vn' vc').ownBlock = some k → (Value.slice va vn vc).ownBlock = some k ∨ w.heap.size ≤ k) (hq : ∀ x ∈ qs', x ∈ qs ∨ ∀ ad, x.1 = some ad → w.heap.size ≤ ad.block) : Lg Z T p f d g K va' vn' vc' qs' N fr to (stI s G (fr + q) M) (rs ++ [l]) := by
  subst hL hu
  have hF := h.fl.len
  have hft := h.ft
  have hlen : (catR (rs ++ [l])).length = (catR rs).length + (recB l).length := by rw [catR_app, catR_one, List.length_append]
  have hNR : (logB ((to - fr) * 32) (rs ++ [l])).length = (to - fr) * 32 := logB_len (by rw [hlen]; exact hfit)
  have hp := h.lc.lt
  have hf := h.fl.lt
  have hd := h.fl.dt.lt
  have hg := h.dt.lt
  refine ⟨by rw [hlen]; exact hlc, hfl, by rw [← logB_put hfit]; exact hdt, h.cap, hrz, ?_, fun r hr => ?_, by rw [hlen]; exact hfit, hft, stI_ok h.sok hbe, rfl, h.ne, fun k hk => ?_, fun x hx ad e => ?_, fun j hj => Nat.lt_of_lt_of_le (h.tb j hj) hsz, h.tp, fun k hk e => ?_, fun x hx ad e e2 => ?_⟩
  · show reg (mix G s.F ((fr + q + M) * 32)) fr to = _
    obtain ⟨e1, e2⟩ := logB_end hfit hM2
    rw [hG, show (fr + q + M) * 32 = fr * 32 + (q + M) * 32 by omega, mix_newF hF (by omega) hft.2.1 hNR hM1, h.rg, mix_all (by rw [e1, e2])]
    exact reg_newF hF (by omega) hft.2.1 hNR
  · rcases List.mem_append.1 hr with hr | hr
    · exact h.ok r hr
    · simp at hr; subst hr; exact hl
  · rcases hv k hk with e | e
    · exact h.nv k e
    · omega
  · rcases hq x hx with e1 | e1
    · exact h.nq x e1 ad e
    · have := e1 ad e; omega
  · rcases hv k hk with e1 | e1
    · exact h.tv k e1 e
    · have := h.tb k e; omega
  · rcases hq x hx with e1 | e1
    · exact h.tq x e1 ad e e2
    · have := e1 ad e; have := h.tb _ e2; omega
end
def pk (m i : Nat) : Nat := if i * 32 + 32 ≤ m then 32 else m - i * 32
section
variable {w : World} {T : Nat → Prop} {p f d g K : Nat} {va : Option Addr} {vn vc : Nat} {qs : List Sv} {N fr to : Nat} {s : Bf} {rs : List (List Int)}
set_option maxHeartbeats 1000000 in
set_option maxRecDepth 100000 in
theorem log_Add (h : Lg w T p f d g K va vn vc qs N fr to s rs) (a : Option Addr) (n c : Nat) (l : List Int) (hs : Sl .u8 w a n l) (hl : RecOk l) (hf : (catR rs).length + (recB l).length ≤ (to - fr) * 32) (hta : ∀ ad, a = some ad → T ad.block) (hwr : s.wr ≤ 900000) (hqs : rs.length ≤ 10000) : Calls Try.prog 7 #[.pointer (some ⟨p, 0, none⟩), .slice a n c] w fun e w' => AddP w T p f d g K N fr to s rs l e w' := by
  obtain ⟨W2, hW2⟩ : ∃ W2, W2 = (w.alloc (.cells #[.pointer (some ⟨p, 0, none⟩)] 27)).alloc (.cells #[.int .i64 0] 25) := ⟨_, rfl⟩
  have k2 : Kept w W2 := by rw [hW2]; exact ((Kept.refl w).alloc _).alloc _
  have K2 := hidMk k2
  obtain ⟨y0, y1, f1⟩ := box2 w (.pointer (some ⟨p, 0, none⟩)) 27 25
  rw [← hW2] at y0 y1 f1
  have HN := hidMk (callsIn_wide (n := 2).2 (none_ok p f W2 (k2.cellp h.lc.c0)))
  have hlen := hs.len
  have HP := hidMk (callsIn_wide (n := 2).2 (rec_Put a n c l W2 (hs.kept k2) hl.2.2 (fun e => by subst e; have := hs.cells (by have := hl.1; omega); obtain ⟨_, _, e, _⟩ := this; cases e) (by have := hl.1; omega) (by have := hl.2.1; omega)))
  have H := hidMk h
  have HS := hidMk hs
  have HLK := hidMk hl
  have HTA := hidMk hta
  have HWR := hidMk hwr
  have HQS := hidMk hqs
  have HW2 := hidMk hW2
  have HRS := hidMk (recB_small hl)
  obtain ⟨rl, hrl⟩ : ∃ rl, rl = (recB l).length := ⟨_, rfl⟩
  obtain ⟨u, hu⟩ : ∃ u, u = (catR rs).length := ⟨_, rfl⟩
  obtain ⟨L, hL⟩ : ∃ L, L = (to - fr) * 32 := ⟨_, rfl⟩
  have HLB := hidMk (show L ≤ 32000 ∧ u ≤ L ∧ L ≤ K ∧ K ≤ 9223372036854775807 by have := h.ft; have := h.le; have := h.cap; omega)
  rw [← hL, ← hu, ← hrl] at hf
  rw [← hrl] at HRS
  have HFIT := hidMk hf
  have hf' : (rl : Int) ≤ (L : Int) - (u : Int) := by omega
  have HCL := hidMk (show ∀ Y, Kept W2 Y → _ from fun Y kY => callsIn_wide (n := 2).2 (log_Clean ((h.lc.kept k2).kept kY) ((h.fl.kept k2).kept kY)))
  have HRM := hidMk (show ∀ Y, Kept W2 Y → CallsIn Fence.wide 2 Try.prog 18 #[.pointer (some ⟨p, 0, none⟩)] Y fun e w' => e = .returned (.int .i64 ((L : Int) - (u : Int))) ∧ Kept Y w' from fun Y kY => by
    rw [hL, hu]
    exact callsIn_wide.2 (log_Room ((h.lc.kept k2).kept kY) ((h.fl.kept k2).kept kY) h.le (by have := h.ft; omega)))
  have HLO := hidMk (show ∀ Y, Kept W2 Y → CallsIn Fence.wide 2 Try.prog 25 #[.pointer (some ⟨p, 0, none⟩)] Y fun e w' => e = .returned (.agg #[.int .i64 s.wr, .slice (some ⟨g, 0, none⟩) L K, .slice va vn vc, .int .i64 (u : Int), .bool true]) ∧ Kept Y w' from fun Y kY => by
    rw [hL, hu]
    exact callsIn_wide.2 (look_ok ((h.lc.kept k2).kept kY) ((h.fl.kept k2).kept kY)))
  have yp := h.lc.c3
  have HYP := hidMk (show ∀ Y, Kept W2 Y → Y.cell? ⟨p, 3, none⟩ = some (.bool false) from fun Y kY => (k2.trans kY).cellp yp)
  have HY0 := hidMk (show ∀ Y, Kept W2 Y → Y.cell? ⟨w.heap.size, 0, none⟩ = some (.pointer (some ⟨p, 0, none⟩)) from fun Y kY => kY.cellp y0)
  have HY1 := hidMk (show ∀ Y, Kept W2 Y → Y.cell? ⟨w.heap.size + 1, 0, none⟩ = some (.int .i64 0) from fun Y kY => kY.cellp y1)
  have HF1 := hidMk (show ∀ Y, Kept W2 Y → Y.frozen? ⟨w.heap.size + 1, 0, none⟩ = false from fun Y kY => (kY.frozen (p := ⟨w.heap.size + 1, 0, none⟩) (cell_lt y1)).trans f1)
  have HRLE := hidMk hrl
  have HUE := hidMk hu
  have HLE := hidMk hL
  clear h hs hl hW2 k2 hlen hrl hu hL hf yp f1 hta hwr hqs
  refine (callsIn_wide (n := 3)).1 ?_
  refine callsIn_of_wp_marks Try.func7 rfl trivial ?_ rfl
  simp only [Try.ntmps7, List.size_toArray, List.length_cons, List.length_nil, Nat.reduceAdd, Nat.reduceSub, Array.replicate_succ, Array.replicate_zero, List.push_toArray, List.append_toArray, List.nil_append, List.cons_append]
  gi_wp2
  rw [← HW2.out]
  refine ⟨trivial, ?_⟩
  refine HN.out.mono ?_
  rintro e w1 ⟨rfl, hw1⟩
  rw [hw1]
  clear hw1 w1
  gi_wp2
  refine ⟨trivial, ?_⟩
  refine HP.out.mono ?_
  rintro e w3 ⟨v3, rfl, o3, k3⟩
  obtain ⟨rb, c3, rfl, hrb1, hrb2⟩ := owned_at o3 (by have := HRS.out; have := HRLE.out; omega)
  have SR := hidMk (owned_slx o3 rfl (by have := HRS.out; have := HRLE.out; unfold maxLen; omega))
  rw [← HRLE.out] at SR ⊢
  have K3 := hidMk k3
  clear o3 k3 y0 y1
  have y0 := HY0.out _ K3.out
  have yp := HYP.out _ K3.out
  gi_wp2
  refine ⟨trivial, ?_⟩
  refine (HCL.out w3 K3.out).mono ?_
  rintro e w4 ⟨rfl, k4⟩
  have K34 := hidMk k4
  have K4 := hidMk (K3.out.trans k4)
  clear k4 y0 yp
  have y0 := HY0.out _ K4.out
  gi_wp2
  refine ⟨trivial, ?_⟩
  refine (HRM.out w4 K4.out).mono ?_
  rintro e w5 ⟨rfl, k5⟩
  have K35 := hidMk (K34.out.trans k5)
  have K5 := hidMk (K4.out.trans k5)
  clear k5 y0 K34
  have y0 := HY0.out _ K5.out
  gi_wp2
  refine ⟨trivial, ?_⟩
  refine (HLO.out w5 K5.out).mono ?_
  rintro e w6 ⟨rfl, k6⟩
  have K36 := hidMk (K35.out.trans k6)
  have K6 := hidMk (K5.out.trans k6)
  clear k6 y0 K35
  obtain ⟨q, hq⟩ : ∃ q : Nat, q = u / 32 := ⟨_, rfl⟩
  have hub : u ≤ 32000 := by have := HLB.out; omega
  have HQ := hidMk (show q * 32 ≤ u ∧ u < q * 32 + 32 by omega)
  have hq1 : (q : Int) ≤ 1000 := by have := HQ.out; omega
  have hq2 : (q : Int) * 32 ≤ (u : Int) := by have := HQ.out; omega
  have hu1 : (u : Int) ≤ (K : Int) := by have := HLB.out; omega
  have hu2 : (u : Int) ≤ 32000 := by omega
  have hqK : ¬ K = q * 32 := by have := HQ.out; have := HLB.out; have := HFIT.out; have := HRS.out; omega
  have hdiv := div32 u q hq
  have HQE := hidMk hq
  obtain ⟨W9, hW9⟩ : ∃ W9, W9 = ((w6.alloc (.cells #[.int .i64 s.wr, .slice (some ⟨g, 0, none⟩) L K, .slice va vn vc, .int .i64 (u : Int), .bool true] 53)).alloc (.cells #[.int .i64 (q : Int)] 3)).alloc (.cells #[.slice (some ⟨g, q * 32, none⟩) (u - q * 32) (K - q * 32), .slice (some ⟨rb, 0, none⟩) rl c3] 33) := ⟨_, rfl⟩
  have HW9 := hidMk hW9
  have k69 : Kept w6 W9 := by rw [hW9]; exact (((Kept.refl w6).alloc _).alloc _).alloc _
  have hs9 : W9.heap.size = w6.heap.size + 3 := by rw [hW9]; simp
  obtain ⟨hb, hhb⟩ : ∃ hb, hb = w6.heap.size := ⟨_, rfl⟩
  obtain ⟨qb, hqb⟩ : ∃ qb, qb = w6.heap.size + 1 := ⟨_, rfl⟩
  obtain ⟨pb, hpb⟩ : ∃ pb, pb = w6.heap.size + 2 := ⟨_, rfl⟩
  have HBE := hidMk (show hb = w6.heap.size ∧ qb = w6.heap.size + 1 ∧ pb = w6.heap.size + 2 from ⟨hhb, hqb, hpb⟩)
  have HCN9 := hidMk (show Cn W9 hb (.int .i64 s.wr) (.slice (some ⟨g, 0, none⟩) L K) (.slice va vn vc) (.int .i64 (u : Int)) (.bool true) from by
    rw [hW9, hhb]
    have h1 : Cn (w6.alloc (.cells #[.int .i64 s.wr, .slice (some ⟨g, 0, none⟩) L K, .slice va vn vc, .int .i64 (u : Int), .bool true] 53)) w6.heap.size (.int .i64 s.wr) (.slice (some ⟨g, 0, none⟩) L K) (.slice va vn vc) (.int .i64 (u : Int)) (.bool true) := ⟨by simp, by simp, by simp, by simp, by simp, fun i hi => by simp⟩
    exact h1.kept (((Kept.refl _).alloc _).alloc _))
  have HQB := hidMk (show W9.cell? ⟨qb, 0, none⟩ = some (.int .i64 (q : Int)) from by
    have hs1 : (w6.alloc (.cells #[.int .i64 s.wr, .slice (some ⟨g, 0, none⟩) L K, .slice va vn vc, .int .i64 (u : Int), .bool true] 53)).heap.size = w6.heap.size + 1 := by simp
    rw [hW9, hqb, ← hs1]
    exact ((Kept.refl _).alloc _).cellp (by simp))
  have HPB := hidMk (show W9.cell? ⟨pb, 0, none⟩ = some (.slice (some ⟨g, q * 32, none⟩) (u - q * 32) (K - q * 32)) ∧ W9.cell? ⟨pb, 1, none⟩ = some (.slice (some ⟨rb, 0, none⟩) rl c3) from by
    have hs1 : ((w6.alloc (.cells #[.int .i64 s.wr, .slice (some ⟨g, 0, none⟩) L K, .slice va vn vc, .int .i64 (u : Int), .bool true] 53)).alloc (.cells #[.int .i64 (q : Int)] 3)).heap.size = w6.heap.size + 2 := by simp
    rw [hW9]
    exact ⟨new_cl _ _ _ _ 0 _ (hpb.trans hs1.symm) rfl, new_cl _ _ _ _ 1 _ (hpb.trans hs1.symm) rfl⟩)
  have K69 := hidMk k69
  have HS9 := hidMk hs9
  have HLG9 := hidMk (show Lg W9 T p f d g K va vn vc qs N fr to s rs from ((H.out.kept K2.out).kept K6.out).kept k69)
  have SR9 := hidMk (show Sl .u8 W9 (some ⟨rb, 0, none⟩) rl (recB l) from (SR.out.kept K36.out).kept k69)
  have HRX := hidMk (show (catR rs).drop (q * 32) ++ recB l = rowX rs l by unfold rowX; rw [← HUE.out, ← hq])
  have HDROP := hidMk (show ((catR rs).drop (q * 32)).length = u - q * 32 ∧ Sl .u8 W9 (some ⟨g, q * 32, none⟩) (u - q * 32) ((catR rs).drop (q * 32)) from by
    have hlen : ((catR rs).drop (q * 32)).length = u - q * 32 := by rw [List.length_drop, HUE.out]
    refine ⟨hlen, ?_⟩
    have h1 := HLG9.out.dt.sl (q * 32) (u - q * 32) (by rw [logB_len HLG9.out.le, ← HLE.out]; have := HLB.out; have := HQ.out; omega) (by unfold maxLen; omega)
    have e : ((logB ((to - fr) * 32) rs).drop (q * 32)).take (u - q * 32) = (catR rs).drop (q * 32) := by
      unfold logB
      rw [List.drop_append_of_le_length (by rw [← HUE.out]; have := HQ.out; omega), List.take_left' hlen]
    rw [e] at h1
    exact h1)
  have HCC := hidMk (callsIn_wide (n := 2).2 (slices_ConcatB pb 2 2 (fun i => if i = 0 then some ⟨g, q * 32, none⟩ else some ⟨rb, 0, none⟩) (fun i => if i = 0 then K - q * 32 else c3) (fun i => if i = 0 then (catR rs).drop (q * 32) else recB l) W9 (by omega) (fun i hi => by
    rcases (show i = 0 ∨ i = 1 by omega) with rfl | rfl
    · simp only [if_true]
      refine ⟨?_, ?_, fun e => (by cases e), ?_⟩
      · rw [HDROP.out.1]; exact HPB.out.1
      · rw [HDROP.out.1]; exact HDROP.out.2
      · rw [HDROP.out.1]; have := HQ.out; omega
    · simp only [show ¬ (1 = 0) by omega, if_false]
      refine ⟨?_, ?_, fun e => (by cases e), ?_⟩
      · rw [← HRLE.out]; exact HPB.out.2
      · rw [← HRLE.out]; exact SR9.out
      · rw [← HRLE.out]; have := HRS.out; omega)))
  have HCAT := hidMk (show catB (fun i => if i = 0 then (catR rs).drop (q * 32) else recB l) 2 = rowX rs l by simp [catB, List.range_succ]; exact HRX.out)
  rw [HCAT.out] at HCC
  clear hW9 k69 hs9 hhb hqb hpb hq
  gi_wp2
  rw [← HW9.out, show w6.heap.size + 1 + 1 = pb from HBE.out.2.2.symm, show w6.heap.size + 1 = qb from HBE.out.2.1.symm, ← HBE.out.1]
  refine ⟨trivial, ?_⟩
  refine HCC.out.mono ?_
  rintro e w10 ⟨v10, rfl, o10, k10⟩
  have HXL := hidMk (show (rowX rs l).length = u - q * 32 + rl by rw [← HRX.out, List.length_append, HDROP.out.1, ← HRLE.out])
  obtain ⟨m, hm⟩ : ∃ m, m = (rowX rs l).length := ⟨_, rfl⟩
  have HM := hidMk (show m = u - q * 32 + rl by rw [hm]; exact HXL.out)
  have HMB := hidMk (show 6 ≤ m ∧ m ≤ 300 by have := HM.out; have := HRS.out; have := HQ.out; omega)
  obtain ⟨xb, xc, rfl, hxb1, hxb2⟩ := owned_at o10 (by rw [← hm]; have := HMB.out; omega)
  have HXC := hidMk (own_cap o10)
  have SX := hidMk (owned_slx o10 rfl (by rw [← hm]; have := HMB.out; unfold maxLen; omega))
  rw [← hm] at SX HXC ⊢
  have K10 := hidMk k10
  have HXB := hidMk (show W9.heap.size ≤ xb ∧ xb < w10.heap.size from ⟨hxb1, hxb2⟩)
  have HMM := hidMk hm
  clear o10 k10 hm hxb1 hxb2 HCC HCAT
  have HBK := hidMk (fun W => callsIn_wide (n := 2).2 (log_blocks (some ⟨xb, 0, none⟩) m xc W))
  gi_wp2
  refine ⟨trivial, ?_⟩
  refine (HBK.out w10).mono ?_
  rintro e w11 ⟨rfl, hw11⟩
  rw [hw11]
  clear hw11 w11 HBK
  obtain ⟨W11, hW11⟩ : ∃ W11, W11 = w10.alloc (.cells #[.slice (some ⟨xb, 0, none⟩) m xc] 33) := ⟨_, rfl⟩
  obtain ⟨vb, hvb⟩ : ∃ vb, vb = w10.heap.size := ⟨_, rfl⟩
  have K911 := hidMk (show Kept W9 W11 by rw [hW11]; exact K10.out.alloc _)
  have HVB := hidMk (show W11.cell? ⟨vb, 0, none⟩ = some (.slice (some ⟨xb, 0, none⟩) m xc) by rw [hW11]; exact new_cl _ _ _ _ 0 _ hvb rfl)
  have HS11 := hidMk (show W11.heap.size = vb + 1 by rw [hW11, hvb]; simp)
  have SX11 := hidMk (show Sl .u8 W11 (some ⟨xb, 0, none⟩) m (rowX rs l) by rw [hW11]; exact SX.out.kept ((Kept.refl _).alloc _))
  have HVE := hidMk hvb
  rw [← hW11, ← hvb]
  clear hW11 hvb
  obtain ⟨lb, hlb⟩ : ∃ lb, lb = w.heap.size := ⟨_, rfl⟩
  obtain ⟨eb, heb⟩ : ∃ eb, eb = w.heap.size + 1 := ⟨_, rfl⟩
  have HLE2 := hidMk (show lb = w.heap.size ∧ eb = w.heap.size + 1 from ⟨hlb, heb⟩)
  rw [← heb] at HY1 HF1
  rw [← hlb] at HY0
  rw [← heb, ← hlb]
  have K211 := hidMk (show Kept W2 W11 from (K6.out.trans K69.out).trans K911.out)
  have HLG := hidMk (show Lg W11 T p f d g K va vn vc qs N fr to s rs from HLG9.out.kept K911.out)
  have HLT := hidMk (show p < w.heap.size ∧ f < w.heap.size ∧ d < w.heap.size ∧ g < w.heap.size from ⟨H.out.lc.lt, H.out.fl.lt, H.out.fl.dt.lt, H.out.dt.lt⟩)
  have HSZ := hidMk (show w.heap.size + 2 ≤ w6.heap.size ∧ w6.heap.size + 3 ≤ xb ∧ xb < vb ∧ W11.heap.size = vb + 1 ∧ lb = w.heap.size ∧ eb = w.heap.size + 1 ∧ hb = w6.heap.size ∧ qb = w6.heap.size + 1 ∧ w.heap.size + 2 ≤ rb ∧ rb < w6.heap.size from by
    have h1 := K6.out.size
    have h2 : W2.heap.size = w.heap.size + 2 := by rw [HW2.out]; simp
    have h3 := HS9.out
    have h4 := HXB.out
    have h5 := HVE.out
    have h6 := HS11.out
    have h7 := HBE.out
    have h8 := HLE2.out
    have h9 := K36.out.size
    omega)
  clear hlb heb
  obtain ⟨M, hM⟩ : ∃ M, M = (m + 31) / 32 := ⟨_, rfl⟩
  have HMM2 := hidMk (show M * 32 < m + 32 ∧ m ≤ M * 32 by omega)
  clear hM
  obtain ⟨G, hG⟩ : ∃ G, G = newF s.F fr to (logB L (rs ++ [l])) := ⟨_, rfl⟩
  have HG := hidMk hG
  have HNRL := hidMk (show (logB L (rs ++ [l])).length = L from logB_len (by rw [catR_app, catR_one, List.length_append, ← HUE.out, ← HRLE.out]; exact HFIT.out))
  have HFL := hidMk (show s.F.length = N * 32 from H.out.fl.len)
  have HFT := hidMk (show fr < to ∧ to ≤ N ∧ N ≤ 1000 from H.out.ft)
  have HGL := hidMk (show G.length = s.F.length by rw [hG]; exact newF_len HFL.out (by have := HFT.out; omega) HFT.out.2.1 (by rw [HNRL.out, HLE.out]))
  have HIN := hidMk (show ∀ i, i < M → (q + i) * 32 + 32 ≤ L from fun i hi => by
    have h1 := HMM2.out
    have h2 := HM.out
    have h3 := HFIT.out
    have h4 := HLE.out
    have h5 := HQ.out
    omega)
  have HFITC := hidMk (show (catR rs).length + (recB l).length ≤ L by rw [← HUE.out, ← HRLE.out]; exact HFIT.out)
  have HWAT := hidMk (show ∀ i, i < M → (s.wt = true → (i : Int) ≤ s.be) → (((rowX rs l).drop (i * 32)).take 32).length = pk m i ∧ wrE (stI s G (fr + q) i) N ((fr + q + i : Nat) : Int) (pk m i) = (if cmB (stI s G (fr + q) i) then 21 else 0) ∧ wrS (stI s G (fr + q) i) N ((fr + q + i : Nat) : Int) (((rowX rs l).drop (i * 32)).take 32) = if cmB (stI s G (fr + q) i) then stX s G (fr + q) i else stI s G (fr + q) (i + 1) from fun i hi hbe => by
    have h1 := HIN.out i hi
    have h2 := HFT.out
    have h3 := HLE.out
    have h4 := HMM2.out
    have hpl : (((rowX rs l).drop (i * 32)).take 32).length = pk m i := by
      rw [List.length_take, List.length_drop, ← HMM.out]
      unfold pk
      split <;> omega
    have hpk : pk m i ≤ 32 := by unfold pk; split <;> omega
    have hw : whole (((rowX rs l).drop (i * 32)).take 32) = (G.drop ((fr + q + i) * 32)).take 32 := by
      rw [row_part HFITC.out (by rw [← HUE.out, ← HQE.out]; omega) (by rw [← HMM.out]; omega), ← HUE.out, ← HQE.out, hG, show (fr + q + i) * 32 = fr * 32 + (q + i) * 32 by omega, newF_drop HFL.out (by omega) h2.2.1 (by rw [HNRL.out, h3]) (by omega), List.take_append_of_le_length (by rw [List.length_drop, HNRL.out]; omega)]
    have := wr_at (b := fr + q) (i := i) HGL.out HFL.out (by omega) _ (by rw [hpl]; exact hpk) hw H.out.sok hbe
    rw [hpl] at this
    exact ⟨hpl, this.1, this.2⟩)
  have HSTZ := hidMk (show stI s G (fr + q) 0 = s from stI_zero H.out.off (by
    have h2 := HFT.out
    rw [hG, show (fr + q) * 32 = fr * 32 + q * 32 by omega, mix_newF HFL.out (by omega) h2.2.1 (by rw [HNRL.out, HLE.out]) (by have := HQ.out; have := HLB.out; rw [← HLE.out]; omega), H.out.rg, mix_none (by rw [HLE.out] at *; exact logB_take HFITC.out (by rw [← HUE.out]; exact HQ.out.1)), ← H.out.rg]
    exact old_newF HFL.out (by omega) h2.2.1))
  clear hG
  have HNPF := hidMk (show ¬ Of f d p from by have := H.out.ne; rintro (e | e) <;> omega)
  have HJ0 := hidMk (show AddJ W11 W11 p f d fr to s.wr g L K va vn vc u N (stI s G (fr + q) 0) from ⟨by have := HLG.out.lc; rw [← HLE.out, ← HUE.out] at this; exact this, by rw [HSTZ.out]; exact HLG.out.fl, Chg.refl _ _⟩)
  have HXY := hidMk (show ∀ i, i < M → ∀ Y, Chg (fun j => j = p ∨ Of f d j) W11 Y → Sl .u8 Y (some ⟨xb, i * 32, none⟩) (pk m i) (((rowX rs l).drop (i * 32)).take 32) from fun i hi Y hY => by
    have h4 := HMM2.out
    have hpl : pk m i = (((rowX rs l).drop (i * 32)).take 32).length := by
      rw [List.length_take, List.length_drop, ← HMM.out]
      unfold pk
      split <;> omega
    have h5 : i * 32 + pk m i ≤ m := by unfold pk; split <;> omega
    have h6 := sl_mid SX11.out (i * 32) (pk m i) h5
    rw [Nat.zero_add] at h6
    have h7 : ((rowX rs l).drop (i * 32)).take (pk m i) = ((rowX rs l).drop (i * 32)).take 32 := by
      unfold pk
      split
      · rfl
      · rw [List.take_of_length_le (by rw [List.length_drop, ← HMM.out]; omega), List.take_of_length_le (by rw [List.length_drop, ← HMM.out]; omega)]
    rw [h7] at h6
    refine h6.chgB hY (fun ad e => ?_)
    cases e
    have h8 := HSZ.out
    have h9 := HLT.out
    rintro (e | e | e) <;> (try dsimp only at e) <;> omega)
  have HXB2 := hidMk (show ∀ x ∈ rowX rs l, isB x from fun x hx => by
    rcases List.mem_append.1 hx with hx | hx
    · exact catR_isB H.out.ok x (List.mem_of_mem_drop hx)
    · exact recB_isBL HLK.out.2.2 x hx)
  have HWRT := hidMk (show ∀ (lv k i : Nat), i < M → (s.wt = true → (i : Int) ≤ s.be) → ∀ Y, AddJ W11 Y p f d fr to s.wr g L K va vn vc u N (stI s G (fr + q) i) → CallsIn (Fence.wide.inRound lv) k Try.prog 28 #[.pointer (some ⟨p, 0, none⟩), .int .i64 ((q + i : Nat) : Int), .slice (some ⟨xb, i * 32, none⟩) (pk m i) (pk m i)] Y fun e w' =>
      (e = .returned (.int .i64 21) ∧ s.wt = true ∧ s.be = i ∧ Fl w' f d N (stX s G (fr + q) i) ∧ Chg (fun j => j = p ∨ Of f d j) Y w') ∨ (e = .returned (.int .i64 0) ∧ AddJ W11 w' p f d fr to s.wr g L K va vn vc u N (stI s G (fr + q) (i + 1)) ∧ (s.wt = true → ((i + 1 : Nat) : Int) ≤ s.be) ∧ Chg (fun j => j = p ∨ Of f d j) Y w') from fun lv k i hi hbe Y hY => by
    obtain ⟨hpl, hE, hS⟩ := HWAT.out i hi hbe
    have hM32 : M ≤ 100 := by have := HMM2.out; have := HMB.out; omega
    have hb0 := H.out.sok.w0
    have hc := log_write hY.lc hY.fl (stI_ok H.out.sok hbe) (by show s.wr + (i : Int) < 1000000; have := HWR.out; omega) HNPF.out (q + i) (by have := HQ.out; have := HLB.out; omega) (by have := HFT.out; omega) (some ⟨xb, i * 32, none⟩) (pk m i) (pk m i) _ (HXY.out i hi Y hY.c) (fun x hx => HXB2.out x (List.mem_of_mem_drop (List.mem_of_mem_take hx)))
    rw [show fr + (q + i) = fr + q + i by omega, hE, hS] at hc
    refine CallsIn.inRound lv (callsIn_wide.2 (hc.mono ?_))
    rintro e w' ⟨rfl, h1, h2, h3⟩
    by_cases hcm : cmB (stI s G (fr + q) i) = true
    · rw [if_pos hcm] at h2
      rw [if_pos hcm]
      obtain ⟨e1, e2⟩ := stI_cm.1 hcm
      exact .inl ⟨rfl, e1, e2, h2, h3⟩
    · rw [if_neg hcm] at h1 h2
      rw [if_neg hcm]
      refine .inr ⟨rfl, ⟨h1, h2, hY.c.trans h3⟩, fun hwt => ?_, h3⟩
      have := hbe hwt
      have hn := mt stI_cm.2 hcm
      have : ¬ s.be = i := fun e => hn ⟨hwt, e⟩
      omega)
  have HCELL := hidMk (show ∀ Y, Chg (fun j => j = p ∨ Of f d j) W11 Y → Y.cell? ⟨lb, 0, none⟩ = some (.pointer (some ⟨p, 0, none⟩)) ∧ Y.cell? ⟨qb, 0, none⟩ = some (.int .i64 (q : Int)) ∧ Y.cell? ⟨eb, 0, none⟩ = some (.int .i64 0) ∧ Y.frozen? ⟨eb, 0, none⟩ = false ∧ Y.cell? ⟨vb, 0, none⟩ = some (.slice (some ⟨xb, 0, none⟩) m xc) from fun Y hY => by
    have h8 := HSZ.out
    have h9 := HLT.out
    have he := HY1.out _ K211.out
    refine ⟨hY.cellp (HY0.out _ K211.out) ?_, hY.cellp (K911.out.cellp HQB.out) ?_, hY.cellp he ?_, (hY.frozen (p := ⟨eb, 0, none⟩) (show eb < W11.heap.size by omega) ?_).trans (HF1.out _ K211.out), hY.cellp HVB.out ?_⟩ <;> rintro (e | e | e) <;> (try dsimp only at e) <;> omega)
  have hqi : (q : Int) ≤ 1000 := hq1
  gi_wp2
  refine range_sr (n := 1) (gf := 42) (lb := #[.pointer (some ⟨vb, 0, none⟩)]) ?g1 ?g2 (encs := fun i : Nat => #[.int .i64 (i : Int), .slice (some ⟨xb, i * 32, none⟩) (pk m i) (pk m i)]) ?g3 (List.range M)
    (fun pre X => AddJ W11 X p f d fr to s.wr g L K va vn vc u N (stI s G (fr + q) pre.length) ∧ (s.wt = true → (pre.length : Int) ≤ s.be)) (fun _ X => AddX W11 X p f d eb N M s G (fr + q)) ?g4 ?g5 ?g6 ?g7 ?g8 ?g9
  case g1 => rfl
  case g2 => exact enters_of Try.func42 (by kernel_rfl) rfl
  case g3 => exact fun _ => rfl
  case g4 => exact fun pre X o h _ => ⟨h.1.put (by omega) (by have := HLT.out; have := HSZ.out; omega) (by have := HLT.out; have := HSZ.out; omega) (by have := HLT.out; have := HSZ.out; omega) o, h.2⟩
  case g5 => exact fun pre X o h _ => h.put (by omega) (by have := HSZ.out; omega) (by have := HLT.out; have := HSZ.out; omega) (by have := HLT.out; have := HSZ.out; omega) o
  case g6 =>
    intro R R' pre x X hJ hpre hR
    obtain ⟨hx, hxM⟩ := range_pre hpre
    obtain ⟨i, hi⟩ : ∃ i, i = pre.length := ⟨_, rfl⟩
    rw [← hi] at hx hxM hJ
    subst hx
    have HI := hidMk (show x = pre.length ∧ x < M from ⟨hi, hxM⟩)
    have HR := hidMk hR
    have HJ := hidMk hJ
    have HLN := hidMk (show (pre ++ [x]).length = x + 1 by rw [List.length_append, ← hi]; rfl)
    clear hpre hR hJ hi
    have hxi : (x : Int) ≤ 1000 := by have := HMM2.out; have := HMB.out; omega
    clear hxM
    gi_wp2
    refine ⟨by rw [← HI.out.1]; exact HJ.out, HR.out, ?_⟩
    have HY := hidMk (HJ.out.1.put (b := W11.heap.size + 1) (by omega) (by have := HLT.out; have := HSZ.out; omega) (by have := HLT.out; have := HSZ.out; omega) (by have := HLT.out; have := HSZ.out; omega) R')
    have HRY := hidMk (show Recs W11.heap.size R' (X.putObj (W11.heap.size + 1) R') from ⟨World.putObj_heap_same ((Array.getElem?_eq_some_iff.1 HR.out.1).1), (World.putObj_heap_other (by omega)).trans HR.out.2⟩)
    have HBEX := hidMk HJ.out.2
    generalize X.putObj (W11.heap.size + 1) R' = Y at *
    clear HJ HR
    obtain ⟨y0, y1, y2, y3, _⟩ := HCELL.out Y HY.out.c
    have hqx : (q : Int) + (x : Int) = ((q + x : Nat) : Int) := by omega
    have HQX := hidMk hqx
    clear hqx
    gi_wp2
    refine ⟨trivial, ?_⟩
    rw [HQX.out]
    refine (HWRT.out _ 0 x HI.out.2 HBEX.out Y HY.out).mono ?_
    have HNR := hidMk (show ¬ (W11.heap.size + 1 = p ∨ Of f d (W11.heap.size + 1)) ∧ ¬ (W11.heap.size = p ∨ Of f d W11.heap.size) ∧ W11.heap.size + 1 ≠ eb ∧ W11.heap.size ≠ eb from by
      have h8 := HSZ.out
      have h9 := HLT.out
      refine ⟨?_, ?_, by omega, by omega⟩ <;> rintro (e | e | e) <;> (try dsimp only at e) <;> omega)
    rintro e w9 (⟨rfl, e1, e2, f9, c9⟩ | ⟨rfl, j9, b9, c9⟩)
    · have F9 := hidMk f9
      have C9 := hidMk c9
      have E9 := hidMk (show s.wt = true ∧ s.be = x from ⟨e1, e2⟩)
      clear f9 c9 e1 e2 y0 y1 y2 y3
      obtain ⟨_, _, y2, y3, _⟩ := HCELL.out w9 (HY.out.c.trans C9.out)
      gi_wp2
      have hcs : Chg (fun j => (j = p ∨ Of f d j) ∨ j = eb) Y (w9.setCell ⟨eb, 0, none⟩ (.int .i64 21)) := (C9.out.mono (fun j _ e => .inl e)).setCell (p := ⟨eb, 0, none⟩) (.inl (.inr rfl)) _
      refine ⟨⟨⟨x, HI.out.2, E9.out.1, E9.out.2, F9.out.chg (S := fun j => j = eb) ((Chg.refl (fun j => j = eb) _).own 0 _) (show ¬ f = eb by have := HLT.out; have := HSZ.out; omega) (show ¬ d = eb by have := HLT.out; have := HSZ.out; omega)⟩, World.cell?_setCell_same _ _ _ y2, (HY.out.c.mono (fun j _ e => .inl e)).trans hcs⟩, rec_at HRY.out hcs ?_ ?_⟩
      · rintro (e | e)
        · exact HNR.out.1 e
        · exact HNR.out.2.2.1 e
      · rintro (e | e)
        · exact HNR.out.2.1 e
        · exact HNR.out.2.2.2 e
    · have J9 := hidMk j9
      have B9 := hidMk b9
      have C9 := hidMk c9
      clear j9 b9 c9 y0 y1 y2 y3
      gi_wp2
      refine ⟨⟨?_, ?_⟩, rec_at HRY.out C9.out HNR.out.1 HNR.out.2.1⟩
      · rw [← HI.out.1]; exact J9.out
      · intro h
        have h1 := B9.out h
        have h2 := HI.out.1
        omega
  case g7 =>
    intro R D hy
    refine (blocks_it (l := W11.heap.size + 1) (vb := vb) (xb := xb) (xc := xc) (m := m) (M := M) _ (fun j X => (AddJ W11 X p f d fr to s.wr g L K va vn vc u N (stI s G (fr + q) j) ∧ (s.wt = true → (j : Int) ≤ s.be)) ∧ Recs W11.heap.size R X) (fun _ X => AddX W11 X p f d eb N M s G (fr + q) ∧ Recs W11.heap.size D X) (by have := HMB.out; omega) HMM2.out.1 HMM2.out.2 HXC.out.1 HXC.out.2 ?h1 (1 + 1) ?h2 ?h3).mono ?h4
    case h1 => exact fun j X h => (HCELL.out X h.1.1.c).2.2.2.2
    case h2 =>
      intro j k X hJ hj hk
      obtain rfl : k = pk m j := hk
      refine (hy (List.range j) j X ⟨by rw [List.length_range]; exact hJ.1.1, by rw [List.length_range]; exact hJ.1.2⟩ hJ.2 (by rw [← List.range_succ]; exact range_le (by omega))).mono ?_
      rintro e X' (⟨h1, h2, h3⟩ | ⟨h1, h2, h3⟩)
      · rw [List.length_append, List.length_range, List.length_singleton] at h2
        exact .inl ⟨h1, h2, h3⟩
      · exact .inr ⟨h1, h2, h3⟩
    case h3 =>
      have kA : Kept W11 ((W11.alloc (.deferred (some []))).alloc R) := ((Kept.refl W11).alloc _).alloc _
      refine ⟨⟨⟨HJ0.out.lc.kept kA, HJ0.out.fl.kept kA, Chg.of_kept kA⟩, fun _ => ?_⟩, ?_, ?_⟩
      · have := H.out.sok.b0; simpa using this
      · have := World.alloc_heap_new (W11.alloc (.deferred (some []))) R
        rw [World.size_alloc] at this
        exact this
      · have h1 := World.alloc_heap_new W11 (.deferred (some []))
        have h2 := ((Kept.refl (W11.alloc (.deferred (some [])))).alloc R).block W11.heap.size (by rw [World.size_alloc]; omega)
        exact h2.trans h1
    case h4 =>
      rintro e X (⟨hv, (h1 | ⟨j, h1, h2⟩)⟩)
      · exact ⟨hv, .inl ⟨by rw [List.length_range]; exact h1.1, h1.2⟩⟩
      · exact ⟨hv, .inr ⟨[], h1, h2⟩⟩
  case g8 =>
    intro X hJ hD
    rw [List.length_range] at hJ
    have HJ := hidMk hJ.1
    have HBM := hidMk hJ.2
    have HD := hidMk hD
    clear hJ hD HCELL HWRT HXY
    obtain ⟨wv, hwv⟩ : ∃ wv, wv = s.wr + (M : Int) := ⟨_, rfl⟩
    have HWV := hidMk (show (stI s G (fr + q) M).wr = wv from hwv.symm)
    clear hwv
    have h8 := HSZ.out
    have h9 := HLT.out
    have HNP := hidMk (show lb ≠ p ∧ hb ≠ p by omega)
    have HPG := hidMk (show ¬ (p = g ∨ (Value.slice va vn vc).ownBlock = some p) from by
      rintro (e | e)
      · exact H.out.ne.2.2.1 e
      · exact (H.out.nv p e).1 rfl)
    have hcx := HJ.out.c
    have hnS : ∀ j, w.heap.size ≤ j → ¬ (j = p ∨ Of f d j) := fun j hj => by rintro (e | e | e) <;> (try dsimp only at e) <;> omega
    have HSX := hidMk (show AddS lb p f hb s.wr g L K va vn vc u X from hidMk ⟨hcx.cellp (HY0.out _ K211.out) (hnS _ (by omega)), HJ.out.lc.c0, (HCN9.out.kept K911.out).chg hcx (hnS _ (by omega))⟩)
    have HSD := hidMk (show AddS lb p f hb s.wr g L K va vn vc u X.drew from hidMk ⟨HSX.out.out.1, HSX.out.out.2.1, HSX.out.out.2.2.kept (Kept.refl _).drew⟩)
    have HSK := hidMk (show ∀ w12, Chg (fun j => j = g ∨ (Value.slice va vn vc).ownBlock = some j) X.drew w12 → AddS lb p f hb s.wr g L K va vn vc u w12 from fun w12 hc => by
      obtain ⟨a1, a2, a3⟩ := HSD.out.out
      have hn : ∀ j, w.heap.size ≤ j → ¬ (j = g ∨ (Value.slice va vn vc).ownBlock = some j) := fun j hj => by
        rintro (e | e)
        · omega
        · have := (H.out.rz.olt j e).2; omega
      exact hidMk ⟨hc.cellp a1 (hn _ (by omega)), hc.cellp a2 HPG.out, a3.chg hc (hn _ (by omega))⟩)
    have hgS : ¬ (g = p ∨ Of f d g) := by have := H.out.ne; rintro (e | e | e) <;> (try dsimp only at e) <;> omega
    have hvS : ∀ k, (Value.slice va vn vc).ownBlock = some k → ¬ (k = p ∨ Of f d k) := fun k hk => by have := H.out.nv k hk; rintro (e | e | e) <;> (try dsimp only at e) <;> omega
    have hqS : ∀ q ∈ qs, ∀ ad, q.1 = some ad → ¬ (ad.block = p ∨ Of f d ad.block) := fun q hq ad e => by have := H.out.nq q hq ad e; rintro (e | e | e) <;> (try dsimp only at e) <;> omega
    have hta : ∀ ad, a = some ad → ¬ (ad.block = p ∨ Of f d ad.block) ∧ ad.block ≠ g := fun ad e => by
      have ht := HTA.out ad e
      obtain ⟨t1, t2, t3, t4⟩ := H.out.tp
      refine ⟨?_, fun e2 => t4 (by rw [← e2]; exact ht)⟩
      rintro (e2 | e2 | e2)
      · exact t1 (by rw [← e2]; exact ht)
      · exact t2 (by rw [← e2]; exact ht)
      · exact t3 (by rw [← e2]; exact ht)
    have kw11 : Kept w W11 := K2.out.trans K211.out
    have HDX := hidMk (show Dt X.drew g (logB L rs) from by have := HLG.out.dt; rw [← HLE.out] at this; exact (this.chg hcx hgS).drew)
    have HRZX := hidMk (show Rz X.drew 0 (.slice va vn vc) qs rs from ((HLG.out.rz.chg hcx hvS hqS)).kept (Kept.refl _).drew)
    have HSLX := hidMk (show Sl .u8 X.drew a n l from ((HS.out.kept kw11).chgB hcx (fun ad e => (hta ad e).1)).kept (Kept.refl _).drew)
    have HSRX := hidMk (show Sl .u8 X.drew (some ⟨rb, 0, none⟩) rl (recB l) from (((SR9.out.kept K911.out).chgB hcx (fun ad e => by cases e; exact hnS _ (by dsimp only; omega)))).kept (Kept.refl _).drew)
    have hqlen : qs.length = rs.length := H.out.rz.len.symm
    have HBH := hidMk (log_behind (rs := rs) (qs := qs) s.wr wv u true a n c l rb 0 rl c3 (recB l) HDX.out (by have := logB_len H.out.le; rw [← HLE.out] at this; exact this) HFIT.out (by have := HRS.out; omega) (by have := HLB.out; omega) HLB.out.2.2.1 HLB.out.2.2.2 HRZX.out (by have := HQS.out; omega) HSLX.out (by have := HLK.out.2.1; have := HS.out.len; omega) HSRX.out (fun k hk => (H.out.nv k hk).2.2.2) (fun q hq ad e => (H.out.nq q hq ad e).2.2.2) (fun ad e => (hta ad e).2) (by omega))
    have HEB := hidMk (show X.cell? ⟨eb, 0, none⟩ = some (.int .i64 0) ∧ X.frozen? ⟨eb, 0, none⟩ = false from ⟨hcx.cellp (HY1.out _ K211.out) (hnS _ (by omega)), (hcx.frozen (p := ⟨eb, 0, none⟩) (show eb < W11.heap.size by omega) (hnS eb (by omega))).trans (HF1.out _ K211.out)⟩)
    clear h8 h9 hcx hnS hgS hvS hqS hta kw11 hqlen
    gi_wp2
    refine then_only ?_
    refine wpIn_wide.2 ?_
    refine wp_region_held_drew (S := (fun w9 => AddS lb p f hb s.wr g L K va vn vc u w9)) (by kernel_rfl) ?_ (fun hHeld => ?_)
    · exact HSD.out
    refine wpAnyH_take (i := 0) (oi := { dst := some 63, op := _, type := _, pos := _, after := _, guard := _ }) (v := ?_) rfl (by kernel_rfl) (by kernel_rfl) (by kernel_rfl) (fun _ _ _ h => h) (Or.inl ⟨by rfl, ?_⟩) (by assumption) ?_
    rotate_left
    · (intro w9 hSw; obtain ⟨s0, s1, cn⟩ := hSw.out; obtain ⟨n0, n1, n2, n3, n4, _⟩ := cn; clear hSw; go_simp; (try with_reducible rfl))
    (try simp only [Act.put, List.setIfInBounds_toArray, List.set_cons_zero, List.set_cons_succ])
    refine wpAnyH_take (i := 1) (oi := { dst := some 64, op := _, type := _, pos := _, after := _, guard := _ }) (v := ?_) rfl (by kernel_rfl) (by kernel_rfl) (by kernel_rfl) (fun _ _ _ h => h) (Or.inl ⟨by rfl, ?_⟩) (by assumption) ?_
    rotate_left
    · (intro w9 hSw; obtain ⟨s0, s1, cn⟩ := hSw.out; obtain ⟨n0, n1, n2, n3, n4, _⟩ := cn; clear hSw; go_simp; (try with_reducible rfl))
    (try simp only [Act.put, List.setIfInBounds_toArray, List.set_cons_zero, List.set_cons_succ])
    refine wpAnyH_take (i := 2) (oi := { dst := some 65, op := _, type := _, pos := _, after := _, guard := _ }) (v := ?_) rfl (by kernel_rfl) (by kernel_rfl) (by kernel_rfl) (fun _ _ _ h => h) (Or.inl ⟨by rfl, ?_⟩) (by assumption) ?_
    rotate_left
    · (intro w9 hSw; obtain ⟨s0, s1, cn⟩ := hSw.out; obtain ⟨n0, n1, n2, n3, n4, _⟩ := cn; clear hSw; go_simp; (try with_reducible rfl))
    (try simp only [Act.put, List.setIfInBounds_toArray, List.set_cons_zero, List.set_cons_succ])
    refine wpAnyH_take (i := 3) (oi := { dst := some 66, op := _, type := _, pos := _, after := _, guard := _ }) (v := ?_) rfl (by kernel_rfl) (by kernel_rfl) (by kernel_rfl) (fun _ _ _ h => h) (Or.inl ⟨by rfl, ?_⟩) (by assumption) ?_
    rotate_left
    · (intro w9 hSw; obtain ⟨s0, s1, cn⟩ := hSw.out; obtain ⟨n0, n1, n2, n3, n4, _⟩ := cn; clear hSw; go_simp; (try with_reducible rfl))
    (try simp only [Act.put, List.setIfInBounds_toArray, List.set_cons_zero, List.set_cons_succ])
    refine wpAnyH_take (i := 4) (oi := { dst := some 67, op := _, type := _, pos := _, after := _, guard := _ }) (v := ?_) rfl (by kernel_rfl) (by kernel_rfl) (by kernel_rfl) (fun _ _ _ h => h) (Or.inl ⟨by rfl, ?_⟩) (by assumption) ?_
    rotate_left
    · (intro w9 hSw; obtain ⟨s0, s1, cn⟩ := hSw.out; obtain ⟨n0, n1, n2, n3, n4, _⟩ := cn; clear hSw; go_simp; (try with_reducible rfl))
    (try simp only [Act.put, List.setIfInBounds_toArray, List.set_cons_zero, List.set_cons_succ])
    refine wpAnyH_take (i := 5) (oi := { dst := some 68, op := _, type := _, pos := _, after := _, guard := _ }) (v := ?_) rfl (by kernel_rfl) (by kernel_rfl) (by kernel_rfl) (fun _ _ _ h => h) (Or.inl ⟨by rfl, ?_⟩) (by assumption) ?_
    rotate_left
    · (intro w9 hSw; obtain ⟨s0, s1, cn⟩ := hSw.out; obtain ⟨n0, n1, n2, n3, n4, _⟩ := cn; clear hSw; go_simp; (try with_reducible rfl))
    (try simp only [Act.put, List.setIfInBounds_toArray, List.set_cons_zero, List.set_cons_succ])
    refine wpAnyH_take (i := 6) (oi := { dst := some 69, op := _, type := _, pos := _, after := _, guard := _ }) (v := ?_) rfl (by kernel_rfl) (by kernel_rfl) (by kernel_rfl) (fun _ _ _ h => h) (Or.inl ⟨by rfl, ?_⟩) (by assumption) ?_
    rotate_left
    · (intro w9 hSw; obtain ⟨s0, s1, cn⟩ := hSw.out; obtain ⟨n0, n1, n2, n3, n4, _⟩ := cn; clear hSw; go_simp; (try with_reducible rfl))
    (try simp only [Act.put, List.setIfInBounds_toArray, List.set_cons_zero, List.set_cons_succ])
    refine wpAnyH_take (i := 7) (oi := { dst := some 70, op := _, type := _, pos := _, after := _, guard := _ }) (v := ?_) rfl (by kernel_rfl) (by kernel_rfl) (by kernel_rfl) (fun _ _ _ h => h) (Or.inl ⟨by rfl, ?_⟩) (by assumption) ?_
    rotate_left
    · (intro w9 hSw; obtain ⟨s0, s1, cn⟩ := hSw.out; obtain ⟨n0, n1, n2, n3, n4, _⟩ := cn; clear hSw; go_simp; (try with_reducible rfl))
    (try simp only [Act.put, List.setIfInBounds_toArray, List.set_cons_zero, List.set_cons_succ])
    refine wpAnyH_ready (rs := [8]) (by kernel_rfl) (by simp) ?_
    refine AllReadyH.cons (o := { dst := some 71, op := _, type := _, pos := _, after := _, guard := _ }) rfl (fun K hK => ?_) AllReadyH.nil
    go_simp
    refine (bk_Writes (HJ.out.fl.kept (Kept.refl _).drew)).mono ?_
    rintro e w12 ⟨rfl, hw12⟩
    rw [hw12, HWV.out]
    clear hw12 w12
    (try go_wp2_with fail)
    refine hK.out _ _ ?_ (fun hHeld => ?_)
    · first | (with_reducible exact hHeld) | (with_reducible exact HS12.out) | (exact adds_set HS12.out HNP.out _ _ _ _ _)
    clear hK K
    (try simp only [Act.put, List.setIfInBounds_toArray, List.set_cons_zero, List.set_cons_succ])
    refine wpAnyH_ready (rs := [9]) (by kernel_rfl) (by simp) ?_
    refine AllReadyH.cons (o := { dst := some 72, op := _, type := _, pos := _, after := _, guard := _ }) rfl (fun K hK => ?_) AllReadyH.nil
    go_simp
    refine HBH.out.mono ?_
    rintro e w12 ⟨va9, vn9, vc9, qs9, rfl, t1, t2, t3, t4, t5⟩
    have T1 := hidMk t1
    have T2 := hidMk t2
    have T3 := hidMk t3
    have T4 := hidMk t4
    have T5 := hidMk t5
    clear t1 t2 t3 t4 t5
    have HS12 := hidMk (HSK.out w12 T5.out)
    have HL12 := hidMk ((HJ.out.lc.kept (Kept.refl _).drew).chg T5.out HPG.out)
    (try go_wp2_with fail)
    refine hK.out _ _ ?_ (fun hHeld => ?_)
    · first | (with_reducible exact hHeld) | (with_reducible exact HS12.out) | (exact adds_set HS12.out HNP.out _ _ _ _ _)
    clear hK K
    (try simp only [Act.put, List.setIfInBounds_toArray, List.set_cons_zero, List.set_cons_succ])
    refine wpAnyH_take (i := 10) (oi := { dst := some 73, op := _, type := _, pos := _, after := _, guard := _ }) (v := ?_) rfl (by kernel_rfl) (by kernel_rfl) (by kernel_rfl) (fun _ _ _ h => h) (Or.inl ⟨by rfl, ?_⟩) (by assumption) ?_
    rotate_left
    · (intro w9 hSw; obtain ⟨s0, s1, cn⟩ := hSw.out; obtain ⟨n0, n1, n2, n3, n4, _⟩ := cn; clear hSw; go_simp; (try with_reducible rfl))
    (try simp only [Act.put, List.setIfInBounds_toArray, List.set_cons_zero, List.set_cons_succ])
    refine wpAnyH_take (i := 11) (oi := { dst := some 74, op := _, type := _, pos := _, after := _, guard := _ }) (v := ?_) rfl (by kernel_rfl) (by kernel_rfl) (by kernel_rfl) (fun _ _ _ h => h) (Or.inl ⟨by rfl, ?_⟩) (by assumption) ?_
    rotate_left
    · (intro w9 hSw; obtain ⟨s0, s1, cn⟩ := hSw.out; obtain ⟨n0, n1, n2, n3, n4, _⟩ := cn; clear hSw; go_simp; (try with_reducible rfl))
    (try simp only [Act.put, List.setIfInBounds_toArray, List.set_cons_zero, List.set_cons_succ])
    refine wpAnyH_ready (rs := [12]) (by kernel_rfl) (by simp) ?_
    refine AllReadyH.cons (o := { dst := none, op := _, type := _, pos := _, after := _, guard := _ }) rfl (fun K hK => ?_) AllReadyH.nil
    obtain ⟨_, _, _, _, l4, l5, l6, l7, l8, lz, _⟩ := HL12.out
    have z4 := lz 4 (by omega)
    have z5 := lz 5 (by omega)
    have z6 := lz 6 (by omega)
    have z7 := lz 7 (by omega)
    have z8 := lz 8 (by omega)
    clear lz
    go_simp
    clear l4 l5 l6 l7 l8 z4 z5 z6 z7 z8
    refine hK.out _ _ ?_ (fun hHeld => ?_)
    · first | (with_reducible exact hHeld) | (with_reducible exact HS12.out) | (exact adds_set HS12.out HNP.out _ _ _ _ _)
    clear hK K
    (try simp only [Act.put, List.setIfInBounds_toArray, List.set_cons_zero, List.set_cons_succ])
    refine wpAnyH_done (by kernel_rfl) ?_ _
    clear hHeld HSD HSK HBH HSX HS12
    have h8 := HSZ.out
    have h9 := HLT.out
    have hne := H.out.ne
    have hfS : ¬ (f = g ∨ (Value.slice va vn vc).ownBlock = some f) := by rintro (e | e); exact hne.2.2.2.1 e; exact (H.out.nv f e).2.1 rfl
    have hdS : ¬ (d = g ∨ (Value.slice va vn vc).ownBlock = some d) := by rintro (e | e); exact hne.2.2.2.2 e; exact (H.out.nv d e).2.2.1 rfl
    have hXs : W11.heap.size < X.heap.size := (Array.getElem?_eq_some_iff.1 HD.out).1
    have hown : ∀ k, (Value.slice va9 vn9 vc9).ownBlock = some k → (Value.slice va vn vc).ownBlock = some k ∨ W11.heap.size < k := fun k hk => (T3.out k hk).imp_right (fun e => by have : X.heap.size ≤ k := e; omega)
    have hrow : ∀ x ∈ qs9, x ∈ qs ∨ ∀ ad, x.1 = some ad → W11.heap.size < ad.block := fun x hx => (T4.out x hx).imp_right (fun e ad e2 => by have : X.heap.size ≤ ad.block := e ad e2; omega)
    have hLV : Lc (setC w12 p (.int .i64 wv) (.slice (some ⟨g, 0, none⟩) L K) (.slice va9 vn9 vc9) (.int .i64 ((u : Int) + (rl : Int))) (.bool true)) p f fr to false wv g L K va9 vn9 vc9 (u + rl) true := HL12.out.setC wv va9 vn9 vc9 _ (u + rl) (by omega)
    have hsc := setC_chg w12 p (.int .i64 wv) (.slice (some ⟨g, 0, none⟩) L K) (.slice va9 vn9 vc9) (.int .i64 ((u : Int) + (rl : Int))) (.bool true)
    have hFV := ((HJ.out.fl.kept (Kept.refl X).drew).chg T5.out hfS hdS).chg hsc (fun e => hne.1 e.symm) (fun e => hne.2.1 e.symm)
    have hDV := T1.out.chg hsc (fun e => hne.2.2.1 e.symm)
    have hZV := T2.out.chg hsc (fun k hk e => by rcases hown k hk with e2 | e2; exact (H.out.nv k e2).1 e; omega) (fun x hx ad e e2 => by rcases hrow x hx with e3 | e3; exact (H.out.nq x e3 ad e).1 e2; have := e3 ad e; omega)
    have hebS : ¬ (eb = g ∨ (Value.slice va vn vc).ownBlock = some eb) := by rintro (e | e); omega; have := (H.out.rz.olt eb e).2; omega
    have heV : ¬ eb = p := by omega
    have hEV := hsc.cellp (T5.out.cellp (((Kept.refl X).drew).cellp HEB.out.1) hebS) heV
    have hEF : (setC w12 p (.int .i64 wv) (.slice (some ⟨g, 0, none⟩) L K) (.slice va9 vn9 vc9) (.int .i64 ((u : Int) + (rl : Int))) (.bool true)).frozen? ⟨eb, 0, none⟩ = false := (hsc.frozen (p := ⟨eb, 0, none⟩) (show eb < w12.heap.size by have := T5.out.size; have : X.heap.size ≤ w12.heap.size := this; omega) heV).trans ((T5.out.frozen (p := ⟨eb, 0, none⟩) (show eb < X.heap.size by omega) hebS).trans HEB.out.2)
    have hCV : Chg (fun j => ¬ T j) w (setC w12 p (.int .i64 wv) (.slice (some ⟨g, 0, none⟩) L K) (.slice va9 vn9 vc9) (.int .i64 ((u : Int) + (rl : Int))) (.bool true)) := by
      obtain ⟨t1, t2, t3, t4⟩ := H.out.tp
      have k1 : Chg (fun j => ¬ T j) w W11 := Chg.of_kept (K2.out.trans K211.out)
      have k2 := k1.thn HJ.out.c (fun j hj e => by rcases e with rfl | rfl | rfl; exact t1; exact t2; exact t3)
      have k3 := k2.drew.thn T5.out (fun j hj e => by rcases e with rfl | e; exact t4; exact H.out.tv j e)
      exact k3.thn hsc (fun j hj e => by subst e; exact t1)
    have hDV2 : (setC w12 p (.int .i64 wv) (.slice (some ⟨g, 0, none⟩) L K) (.slice va9 vn9 vc9) (.int .i64 ((u : Int) + (rl : Int))) (.bool true)).heap[W11.heap.size]? = some (.deferred (some [])) := by
      have hlt : W11.heap.size < X.heap.size := (Array.getElem?_eq_some_iff.1 HD.out).1
      have hlt2 : W11.heap.size < w12.heap.size := by have := T5.out.size; have : X.heap.size ≤ w12.heap.size := this; omega
      rw [hsc.block _ hlt2 (by omega), T5.out.block _ hlt (by rintro (e | e); omega; have := (H.out.rz.olt _ e).2; omega)]
      exact HD.out
    have HSC := hidMk (show w.heap.size ≤ (setC w12 p (.int .i64 wv) (.slice (some ⟨g, 0, none⟩) L K) (.slice va9 vn9 vc9) (.int .i64 ((u : Int) + (rl : Int))) (.bool true)).heap.size from hCV.size)
    have HLV := hidMk hLV
    have HFV := hidMk hFV
    have HDV := hidMk hDV
    have HZV := hidMk hZV
    have HCV := hidMk hCV
    have HDF := hidMk hDV2
    have HOWN := hidMk (And.intro hown hrow)
    clear hLV hFV hDV hZV hCV hDV2 hown hrow hsc hfS hdS hXs hebS heV hne h8 h9
    change Exit.then _ (fun _ _ _ => False) Exit.normal _ (setC w12 p (.int .i64 wv) (.slice (some ⟨g, 0, none⟩) L K) (.slice va9 vn9 vc9) (.int .i64 ((u : Int) + (rl : Int))) (.bool true))
    generalize setC w12 p (.int .i64 wv) (.slice (some ⟨g, 0, none⟩) L K) (.slice va9 vn9 vc9) (.int .i64 ((u : Int) + (rl : Int))) (.bool true) = V at *
    clear HL12 T1 T2 T3 T4 T5 HJ HDX HRZX HSLX HSRX HEB HD
    gi_wp2
    have h8 := HSZ.out
    have h9 := HLT.out
    have hD2 : (V.setCell ⟨eb, 0, none⟩ (.int .i64 0)).heap[W11.heap.size]? = some (.deferred (some [])) := by
      rw [Go.Deep.blk_setCell_other _ _ _ _ (by dsimp only; omega)]
      exact HDF.out
    refine ⟨by simp, .inl ⟨_, _, rfl, run_takeDeferred hD2, ?_⟩⟩
    have hz : Chg (fun j => j = eb ∨ j = W11.heap.size) V ((V.setCell ⟨eb, 0, none⟩ (.int .i64 0)).putObj W11.heap.size (.deferred none)) := ((Chg.refl _ V).setCell (S := fun j => j = eb ∨ j = W11.heap.size) (p := ⟨eb, 0, none⟩) (.inl (.inl rfl)) _).trans ((chg_put _ _ _).mono (fun j _ e => .inr e))
    have hc : ((V.setCell ⟨eb, 0, none⟩ (.int .i64 0)).putObj W11.heap.size (.deferred none)).cell? ⟨eb, 0, none⟩ = some (.int .i64 0) := (chg_put _ _ _).cellp (World.cell?_setCell_same _ _ _ hEV) (show ¬ eb = W11.heap.size by omega)
    generalize (V.setCell ⟨eb, 0, none⟩ (.int .i64 0)).putObj W11.heap.size (.deferred none) = Z at *
    have hS : ∀ j, j < w.heap.size → ¬ (j = eb ∨ j = W11.heap.size) := fun j hj => by omega
    refine ⟨.int .i64 0, results_cell1 rfl _ _ eb _ rfl (err_load hc), .inl ⟨rfl, va9, vn9, vc9, qs9, stI s G (fr + q) M, ?_, rfl, ?_, ?_⟩⟩
    · refine lg_added H.out HLE.out HUE.out HLK.out HFITC.out HG.out ?_ ?_ HBM.out ?_ (HFV.out.chg hz (hS _ (by omega)) (hS _ (by omega))) ((HDV.out.chg hz (hS _ (by omega)))) (HZV.out.chg hz (fun k hk => ?_) (fun x hx ad e => ?_)) (Nat.le_trans HSC.out hz.size) (fun k hk => (HOWN.out.1 k hk).imp_right (fun e => by omega)) (fun x hx => (HOWN.out.2 x hx).imp_right (fun e ad e2 => by have := e ad e2; omega))
      · have h1 := HMM2.out
        have h2 := HMB.out
        have := HIN.out (M - 1) (by omega)
        omega
      · have h1 := HMM2.out
        have h2 := HM.out
        have h3 := HQ.out
        rw [← HUE.out, ← HRLE.out]
        omega
      · rw [HWV.out, ← HRLE.out]
        exact HLV.out.chg hz (hS _ (by omega))
      · rcases HOWN.out.1 k hk with e | e
        · exact hS _ (H.out.rz.olt k e).2
        · omega
      · rcases HOWN.out.2 x hx with e1 | e1
        · exact hS _ (H.out.rz.ap x e1 ad e).2
        · have := e1 ad e
          omega
    · show s.wr + (M : Int) ≤ s.wr + 12
      have h1 := HMM2.out
      have h2 := HMB.out
      omega
    · exact HCV.out.thn hz (fun j hj e => by omega)
  case g9 =>
    intro pre X hJ hD
    have HJ := hidMk hJ
    have HD := hidMk hD
    clear hJ hD
    gi_wp2
    refine ⟨by simp, .inl ⟨_, _, rfl, run_takeDeferred HD.out, ?_⟩⟩
    have hx := HJ.out.put (b := W11.heap.size) (Nat.le_refl _) (by have := HSZ.out; omega) (by have := HLT.out; have := HSZ.out; omega) (by have := HLT.out; have := HSZ.out; omega) (.deferred none)
    generalize X.putObj W11.heap.size (.deferred none) = Z at *
    obtain ⟨⟨i, e1, e2, e3, e4⟩, e5, e6⟩ := hx
    refine ⟨.int .i64 21, results_cell1 rfl _ _ eb _ rfl (err_load e5), .inr ⟨rfl, e2, i, stX s G (fr + q) i, e3, e4, ?_, ?_, ?_, ?_, ?_⟩⟩
    · have := HIN.out i e1
      rw [← HLE.out, ← HUE.out, ← HQE.out]
      exact this
    · rw [← HLE.out, ← HUE.out, ← HQE.out, ← HG.out]
      rfl
    · show 0 ≤ s.wr + (i : Int) + 1
      have := H.out.sok.w0
      omega
    · show s.wr + (i : Int) + 1 ≤ s.wr + 12
      have := HMM2.out
      have := HMB.out
      omega
    · have k1 : Chg (fun j => ¬ T j) w W11 := Chg.of_kept (K2.out.trans K211.out)
      refine k1.thn e6 (fun j hj e => ?_)
      have ht := H.out.tp
      have h8 := HSZ.out
      rcases e with (rfl | rfl | rfl) | e
      · exact ht.1
      · exact ht.2.1
      · exact ht.2.2.1
      · omega
end
end Go.Proofs.Ytapcmkhpbdphoaa
