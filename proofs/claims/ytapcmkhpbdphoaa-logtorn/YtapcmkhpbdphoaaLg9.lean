/- log: content.behind: one more record. -/
import Derived.Test.YtapcmkhpbdphoaaLg8
namespace Go.Proofs.Ytapcmkhpbdphoaa
open Go.RowKit Go.Maps
set_option linter.unusedSimpArgs false
set_option linter.unusedVariables false

/-- A content's five cells. -/
structure Cn (w : World) (b : Nat) (v0 v1 v2 v3 v4 : Value) : Prop where
  c0 : w.cell? ⟨b, 0, none⟩ = some v0
  c1 : w.cell? ⟨b, 1, none⟩ = some v1
  c2 : w.cell? ⟨b, 2, none⟩ = some v2
  c3 : w.cell? ⟨b, 3, none⟩ = some v3
  c4 : w.cell? ⟨b, 4, none⟩ = some v4
  fz : ∀ i, i < 5 → w.frozen? ⟨b, i, none⟩ = false
section
variable {w W : World} {b : Nat} {v0 v1 v2 v3 v4 : Value}
theorem Cn.chg {S : Nat → Prop} (h : Cn w b v0 v1 v2 v3 v4) (k : Chg S w W) (hb : ¬ S b) : Cn W b v0 v1 v2 v3 v4 :=
  ⟨k.cellp h.c0 hb, k.cellp h.c1 hb, k.cellp h.c2 hb, k.cellp h.c3 hb, k.cellp h.c4 hb, fun i hi => (k.frozen (p := ⟨b, i, none⟩) (show b < w.heap.size from cell_lt h.c0) hb).trans (h.fz i hi)⟩
theorem Cn.kept (h : Cn w b v0 v1 v2 v3 v4) (k : Kept w W) : Cn W b v0 v1 v2 v3 v4 := h.chg (S := fun _ => False) (Chg.of_kept k) (fun e => e)
theorem Cn.set2 (h : Cn w b v0 v1 v2 v3 v4) (v : Value) : Cn (w.setCell ⟨b, 2, none⟩ v) b v0 v1 v v3 v4 :=
  ⟨so h.c0 (by simp), so h.c1 (by simp), World.cell?_setCell_same _ _ _ h.c2, so h.c3 (by simp), so h.c4 (by simp), fun i hi => by rw [World.frozen?_setCell]; exact h.fz i hi⟩
theorem NewCon.chg {S : Nat → Prop} (h : NewCon w b) (k : Chg S w W) (hb : ¬ S b) : NewCon W b :=
  ⟨k.cellp h.c0 hb, k.cellp h.c1 hb, k.cellp h.c2 hb, k.cellp h.c3 hb, k.cellp h.c4 hb, fun i hi => (k.frozen (p := ⟨b, i, none⟩) (show b < w.heap.size from cell_lt h.c0) hb).trans (h.fz i hi)⟩
end
/-- What behind tells. -/
def BhP (w : World) (g L K : Nat) (va : Option Addr) (vn vc : Nat) (qs : List Sv) (rs : List (List Int)) (B r : List Int) (u rn : Nat) (l : List Int) (cl : Bool) (wv : Int) (e : Ending) (w' : World) : Prop := ∃ va' vn' vc' qs', e = .returned (.agg #[.int .i64 wv, .slice (some ⟨g, 0, none⟩) L K, .slice va' vn' vc', .int .i64 ((u : Int) + (rn : Int)), .bool cl]) ∧
  Dt w' g (putL B u r) ∧ Rz w' 0 (.slice va' vn' vc') qs' (rs ++ [l]) ∧ (∀ k, (Value.slice va' vn' vc').ownBlock = some k → (Value.slice va vn vc).ownBlock = some k ∨ w.heap.size ≤ k) ∧ (∀ q ∈ qs', q ∈ qs ∨ ∀ ad, q.1 = some ad → w.heap.size ≤ ad.block) ∧ Chg (fun j => j = g ∨ (Value.slice va vn vc).ownBlock = some j) w w'
set_option maxHeartbeats 4000000 in
set_option maxRecDepth 100000 in
theorem log_behind {w : World} {g L K : Nat} {va : Option Addr} {vn vc : Nat} {qs : List Sv} {rs : List (List Int)} {B : List Int} (x0 wv : Int) (u : Nat) (cl : Bool) (a : Option Addr) (n c : Nat) (l : List Int) (rg ro rn rc : Nat) (r : List Int)
    (hB : Dt w g B) (hBl : B.length = L) (hu : u + rn ≤ L) (hrn : 0 < rn) (hL : L ≤ 100000) (hK : L ≤ K) (hKm : K ≤ 9223372036854775807) (hz : Rz w 0 (.slice va vn vc) qs rs) (hq : qs.length ≤ 10000)
    (hl : Sl .u8 w a n l) (hn : n ≤ 1000) (hr : Sl .u8 w (some ⟨rg, ro, none⟩) rn r) (hv : ∀ k, (Value.slice va vn vc).ownBlock = some k → k ≠ g) (hqg : ∀ q ∈ qs, ∀ ad, q.1 = some ad → ad.block ≠ g) (hag : ∀ ad, a = some ad → ad.block ≠ g) (hrg : rg ≠ g) :
    Calls Try.prog 29 #[.agg #[.int .i64 x0, .slice (some ⟨g, 0, none⟩) L K, .slice va vn vc, .int .i64 (u : Int), .bool cl], .slice a n c, .slice (some ⟨rg, ro, none⟩) rn rc, .int .i64 wv] w fun e w' => BhP w g L K va vn vc qs rs B r u rn l cl wv e w' := by
  obtain ⟨W2, hW2⟩ : ∃ W2, W2 = (w.alloc (.cells #[.int .i64 x0, .slice (some ⟨g, 0, none⟩) L K, .slice va vn vc, .int .i64 (u : Int), .bool cl] 53)).alloc (.cells #[.int .i64 0, .slice none 0 0, .slice none 0 0, .int .i64 0, .bool false] 53) := ⟨_, rfl⟩
  obtain ⟨hb, hhb⟩ : ∃ hb, hb = w.heap.size := ⟨_, rfl⟩
  obtain ⟨rb, hrb⟩ : ∃ rb, rb = w.heap.size + 1 := ⟨_, rfl⟩
  have hsz : W2.heap.size = w.heap.size + 2 := by rw [hW2]; simp
  have k2 : Kept w W2 := by rw [hW2]; exact ((Kept.refl w).alloc _).alloc _
  have hcn : Cn W2 hb (.int .i64 x0) (.slice (some ⟨g, 0, none⟩) L K) (.slice va vn vc) (.int .i64 (u : Int)) (.bool cl) := by
    rw [hW2, hhb]
    have h1 : Cn (w.alloc (.cells #[.int .i64 x0, .slice (some ⟨g, 0, none⟩) L K, .slice va vn vc, .int .i64 (u : Int), .bool cl] 53)) w.heap.size (.int .i64 x0) (.slice (some ⟨g, 0, none⟩) L K) (.slice va vn vc) (.int .i64 (u : Int)) (.bool cl) := ⟨by simp, by simp, by simp, by simp, by simp, fun i hi => by simp⟩
    exact h1.kept ((Kept.refl _).alloc _)
  have hnc : NewCon W2 rb := by
    have hs1 : (w.alloc (.cells #[.int .i64 x0, .slice (some ⟨g, 0, none⟩) L K, .slice va vn vc, .int .i64 (u : Int), .bool cl] 53)).heap.size = w.heap.size + 1 := by simp
    rw [hW2, hrb, ← hs1]
    exact ⟨by simp, by simp, by simp, by simp, by simp, fun i hi => by simp⟩
  have hglt := hB.lt
  have hghb : g ≠ hb := by omega
  have hgrb : g ≠ rb := by omega
  have hcp : Chg (fun j => j = g) W2 (W2.setCells g u (bv r)) := Chg.setCells (S := fun j => j = g) (.inl rfl) _ _ _ (Chg.refl _ _)
  obtain ⟨W3, hW3⟩ : ∃ W3, W3 = W2.setCells g u (bv r) := ⟨_, rfl⟩
  rw [← hW3] at hcp
  have hrl := hr.len
  have HD3 := hidMk (show Dt W3 g (putL B u r) from by rw [hW3]; exact (hB.kept k2).put u r (by omega))
  have HCN := hidMk (hcn.chg hcp (fun e => hghb e.symm))
  have HNC := hidMk (hnc.chg hcp (fun e => hgrb e.symm))
  have HRZ := hidMk (show Rz W3 0 (.slice va vn vc) qs rs from (hz.kept k2).chg hcp (fun k hk e => hv k hk e) (fun q hq' ad e e2 => hqg q hq' ad e e2))
  have HLL := hidMk hl.len
  have HCLN := hidMk (show ∀ Y, Kept W3 Y → Calls Try.prog 34 #[.slice a n c] Y fun e w' => ∃ v, e = .returned v ∧ Owned Y w' v l ∧ Kept Y w' from fun Y kY => slices_Clone a n c l Y (((hl.kept k2).chgB hcp (fun ad e => hag ad e)).kept kY) (by omega))
  have HLQ := hidMk (show qs.length ≤ 100000 by omega)
  have hvn : vn = qs.length := by obtain ⟨_, _, e, _⟩ := hz.shape; cases e; rfl
  have hs3 : W3.heap.size = w.heap.size + 2 := by rw [hW3, setCells_size, hsz]
  have HHB := hidMk (show hb < W3.heap.size ∧ rb < W3.heap.size by omega)
  have HNO := hidMk (show ∀ k, (Value.slice va vn vc).ownBlock = some k → k ≠ hb from fun k hk => by have := (hz.olt k hk).2; omega)
  have HNO2 := hidMk (show ∀ k, (Value.slice va vn vc).ownBlock = some k → k ≠ rb from fun k hk => by have := (hz.olt k hk).2; omega)
  have HNQ := hidMk (show ∀ q ∈ qs, ∀ ad, q.1 = some ad → ¬ ad.block = hb from fun q hq' ad e => by have := (hz.ap q hq' ad e).2; omega)
  have hne2 : hb ≠ rb := by omega
  have HCPY := hidMk (show ∀ ty, (Builtin.copy_ #[33, 33] ty #[.slice (some ⟨g, u, none⟩) (L - u) (K - u), .slice (some ⟨rg, ro, none⟩) rn rc]).run Try.prog W2 = .ok (goInt rn) W3 from fun ty => by
    rw [hW3]
    exact run_copyB W2 ty g u (L - u) (K - u) (some ⟨rg, ro, none⟩) rn rc r (hr.kept k2) (by omega) ((hB.kept k2).there (by omega)))
  have HFIN := hidMk (show ∀ (va' : Option Addr) (vn' vc' : Nat) (qs' : List Sv) (W5 W6 : World), Chg (fun k => k = hb ∨ (Value.slice va vn vc).ownBlock = some k) W3 W5 → Rz W5 0 (.slice va' vn' vc') qs' (rs ++ [l]) → (∀ k, (Value.slice va' vn' vc').ownBlock = some k → (Value.slice va vn vc).ownBlock = some k ∨ W3.heap.size ≤ k) → (∀ q ∈ qs', q ∈ qs ∨ ∀ ad, q.1 = some ad → W3.heap.size ≤ ad.block) → Chg (fun j => j = hb ∨ j = rb) W5 W6 → BhP w g L K va vn vc qs rs B r u rn l cl wv (.returned (.agg #[.int .i64 wv, .slice (some ⟨g, 0, none⟩) L K, .slice va' vn' vc', .int .i64 ((u : Int) + (rn : Int)), .bool cl])) W6 from fun va' vn' vc' qs' W5 W6 h1 h2 h3 h4 h5 => by
    have hown : ∀ k, (Value.slice va' vn' vc').ownBlock = some k → k ≠ hb ∧ k ≠ rb := fun k hk => by
      rcases h3 k hk with e | e
      · have := (hz.olt k e).2; omega
      · omega
    refine ⟨va', vn', vc', qs', rfl, (HD3.out.chg h1 (fun e => ?_)).chg h5 (by omega), h2.chg h5 (fun k hk e => ?_) (fun q hq' ad e e2 => ?_), fun k hk => ?_, fun q hq' => ?_, ?_⟩
    · rcases e with e | e
      · omega
      · exact hv g e rfl
    · have := hown k hk; omega
    · rcases h4 q hq' with e3 | e3
      · have := (hz.ap q e3 ad e).2; omega
      · have := e3 ad e; omega
    · rcases h3 k hk with e | e
      · exact .inl e
      · exact .inr (by omega)
    · rcases h4 q hq' with e3 | e3
      · exact .inl e3
      · exact .inr (fun ad e => by have := e3 ad e; omega)
    · have c1 : Chg (fun j => j = g ∨ (Value.slice va vn vc).ownBlock = some j) w W3 := (Chg.of_kept k2).trans (hcp.mono (fun j _ e => .inl e))
      have c2 := c1.thn h1 (fun j hj e => by rcases e with e | e; omega; exact .inr e)
      exact c2.thn h5 (fun j hj e => by omega))
  have HW2 := hidMk hW2
  have HE := hidMk (show hb = w.heap.size ∧ rb = w.heap.size + 1 from ⟨hhb, hrb⟩)
  have huL : (u : Int) + (rn : Int) ≤ (L : Int) := by omega
  have hLi : (L : Int) ≤ 100000 := by omega
  have hLK : (L : Int) ≤ (K : Int) := by omega
  have huK : ¬ K = u := by omega
  have hn' : n ≤ 1000 := hn
  have y1 := hcn.c1
  have y3 := hcn.c3
  clear hB hBl hu hrn hL hK hKm hz hq hl hn hr hv hqg hag hrg hW2 hhb hrb hsz k2 hcn hnc hglt hcp hW3 hrl hs3 hvn
  go_enter Try.func29, Try.ntmps29
  go_wp2_with fail
  rw [← HW2.out, ← HE.out.2, ← HE.out.1]
  rw [HCPY.out]
  clear y1 y3
  go_wp2_with fail
  refine wp_region_held_drew (S := (fun _ => True)) (by kernel_rfl) ?_ (fun hHeld => ?_)
  · trivial
  refine wpAnyH_take (i := 0) (oi := { dst := some 16, op := _, type := _, pos := _, after := _, guard := _ }) (v := ?_) rfl (by kernel_rfl) (by kernel_rfl) (by kernel_rfl) (fun _ _ _ h => h) (Or.inl ⟨by rfl, ?_⟩) (by assumption) ?_
  rotate_left
  · (intro w9 hSw; go_simp; (try with_reducible rfl))
  (try simp only [Act.put, List.setIfInBounds_toArray, List.set_cons_zero, List.set_cons_succ])
  refine wpAnyH_take (i := 2) (oi := { dst := some 18, op := _, type := _, pos := _, after := _, guard := _ }) (v := ?_) rfl (by kernel_rfl) (by kernel_rfl) (by kernel_rfl) (fun _ _ _ h => h) (Or.inl ⟨by rfl, ?_⟩) (by assumption) ?_
  rotate_left
  · (intro w9 hSw; go_simp; (try with_reducible rfl))
  (try simp only [Act.put, List.setIfInBounds_toArray, List.set_cons_zero, List.set_cons_succ])
  refine wpAnyH_ready (rs := [1, 3]) (by kernel_rfl) (by simp) ?_
  refine (AllReadyH.cons (o := { dst := some 17, op := _, type := _, pos := _, after := _, guard := _ }) rfl (fun K hK => ?_) (AllReadyH.cons (o := { dst := some 19, op := _, type := _, pos := _, after := _, guard := _ }) rfl (fun K hK => ?_) AllReadyH.nil))
  · have y2 := (HCN.out.kept ((Kept.refl W3).drew)).c2
    go_simp
    clear y2
    refine hK.out _ _ ?_ (fun hHeld => ?_)
    · trivial
    clear hK K
    (try simp only [Act.put, List.setIfInBounds_toArray, List.set_cons_zero, List.set_cons_succ])
    refine wpAnyH_ready (rs := [3]) (by kernel_rfl) (by simp) ?_
    refine (AllReadyH.cons (o := { dst := some 19, op := _, type := _, pos := _, after := _, guard := _ }) rfl (fun K hK => ?_) AllReadyH.nil)
    go_simp
    refine (HCLN.out _ ((Kept.refl W3).drew)).mono ?_
    rintro e wB ⟨vB, rfl, oB, kB⟩
    obtain ⟨aB, cB, rfl, sB, _, bB⟩ := owned_sl oB (by rw [HLL.out]; unfold maxLen; omega)
    rw [HLL.out] at sB ⊢
    have SB := hidMk sB
    have KB := hidMk (show Kept W3 wB from (((Kept.refl W3).drew)).trans kB)
    have BB := hidMk (show ∀ ad, aB = some ad → W3.heap.size ≤ ad.block ∧ ad.block < wB.heap.size from fun ad e => bB ad e)
    clear sB kB bB oB
    (try go_wp2_with fail)
    refine hK.out _ _ ?_ (fun hHeld => ?_)
    · trivial
    clear hK K
    (try simp only [Act.put, List.setIfInBounds_toArray, List.set_cons_zero, List.set_cons_succ])
    refine wpAnyH_ready (rs := [4]) (by kernel_rfl) (by simp) ?_
    refine (AllReadyH.cons (o := { dst := some 20, op := _, type := _, pos := _, after := _, guard := _ }) rfl (fun K hK => ?_) AllReadyH.nil)
    go_simp
    refine hK.out _ _ ?_ (fun hHeld => ?_)
    · trivial
    clear hK K
    (try simp only [Act.put, List.setIfInBounds_toArray, List.set_cons_zero, List.set_cons_succ])
    refine wpAnyH_ready (rs := [5]) (by kernel_rfl) (by simp) ?_
    refine (AllReadyH.cons (o := { dst := some 21, op := _, type := _, pos := _, after := _, guard := _ }) rfl (fun K hK => ?_) AllReadyH.nil)
    have HSD := hidMk (show ∀ ad, aB = some ad → (Value.slice va vn vc).ownBlock ≠ some ad.block ∧ ad.block < (wB.alloc (.cells #[.slice aB n cB] 33)).heap.size from fun ad e => ⟨fun e2 => by have := (HRZ.out.olt _ e2).2; have := (BB.out ad e).1; omega, by rw [World.size_alloc]; have := (BB.out ad e).2; omega⟩)
    refine step_pushZ _ rfl _ _ rfl 0 _ qs rs rfl (HRZ.out.kept (KB.out.alloc _)) (Nat.zero_le _) wB.heap.size (aB, n, cB) l rfl (by simp [slv3]) (SB.out.kept ((Kept.refl _).alloc _)) HSD.out HLQ.out ?_
    intro g9 cap9 w9 z9 k9 g9x
    have Z9 := hidMk z9
    have K9 := hidMk (show Chg (fun k => (Value.slice va vn vc).ownBlock = some k) W3 w9 from (Chg.of_kept (KB.out.alloc _)).trans k9)
    have G9 := hidMk (show (Value.slice va vn vc).ownBlock = some g9 ∨ W3.heap.size ≤ g9 from g9x.imp_right (fun e => by rw [e, World.size_alloc]; have := KB.out.size; omega))
    clear z9 k9 g9x
    have HC9 := hidMk (HCN.out.chg K9.out (fun e => HNO.out _ e rfl))
    refine hK.out _ _ ?_ (fun hHeld => ?_)
    · trivial
    clear hK K
    (try simp only [Act.put, List.setIfInBounds_toArray, List.set_cons_zero, List.set_cons_succ])
    refine wpAnyH_take (i := 6) (oi := { dst := some 22, op := _, type := _, pos := _, after := _, guard := _ }) (v := ?_) rfl (by kernel_rfl) (by kernel_rfl) (by kernel_rfl) (fun _ _ _ h => h) (Or.inl ⟨by rfl, ?_⟩) (by assumption) ?_
    rotate_left
    · (intro w9 hSw; go_simp; (try with_reducible rfl))
    (try simp only [Act.put, List.setIfInBounds_toArray, List.set_cons_zero, List.set_cons_succ])
    refine wpAnyH_ready (rs := [7]) (by kernel_rfl) (by simp) ?_
    refine (AllReadyH.cons (o := { dst := none, op := _, type := _, pos := _, after := _, guard := _ }) rfl (fun K hK => ?_) AllReadyH.nil)
    have y2 := HC9.out.c2
    have f2 := HC9.out.fz 2 (by omega)
    go_simp
    clear y2 f2
    refine hK.out _ _ ?_ (fun hHeld => ?_)
    · trivial
    clear hK K
    (try simp only [Act.put, List.setIfInBounds_toArray, List.set_cons_zero, List.set_cons_succ])
    refine wpAnyH_done (by kernel_rfl) ?_ _
    have HC10 := hidMk (HC9.out.set2 (.slice (some ⟨g9, 0, none⟩) (qs.length + 1) cap9))
    have HN10 := hidMk (show NewCon (w9.setCell ⟨hb, 2, none⟩ (.slice (some ⟨g9, 0, none⟩) (qs.length + 1) cap9)) rb from (HNC.out.chg K9.out (fun e => HNO2.out _ e rfl)).out hne2)
    have HK10 := hidMk (show Chg (fun k => k = hb ∨ (Value.slice va vn vc).ownBlock = some k) W3 (w9.setCell ⟨hb, 2, none⟩ (.slice (some ⟨g9, 0, none⟩) (qs.length + 1) cap9)) from (K9.out.mono (fun j _ e => .inr e)).setCell (p := ⟨hb, 2, none⟩) (.inl (.inl rfl)) _)
    have HZ10 := hidMk (show Rz (w9.setCell ⟨hb, 2, none⟩ (.slice (some ⟨g9, 0, none⟩) (qs.length + 1) cap9)) 0 (.slice (some ⟨g9, 0, none⟩) (qs.length + 1) cap9) (qs ++ [(aB, n, cB)]) (rs ++ [l]) from Z9.out.chg (S := fun j => j = hb) ((Chg.refl (fun j => j = hb) _).own 2 _) (fun k hk e => by simp only [Value.ownBlock, Option.some.injEq] at hk; have := HHB.out; rcases G9.out with e2 | e2; exact HNO.out _ e2 (by omega); omega) (fun q hq ad e e2 => by rcases List.mem_append.1 hq with hq | hq; exact HNQ.out q hq ad e e2; simp at hq; subst hq; have := (BB.out ad e).1; have := HHB.out; omega))
    generalize w9.setCell ⟨hb, 2, none⟩ (.slice (some ⟨g9, 0, none⟩) (qs.length + 1) cap9) = W5 at *
    clear HC9 K9 Z9
    obtain ⟨e0, e1, e2, e3, e4, ef⟩ := HC10.out
    have f0 := ef 0 (by omega)
    have f3 := ef 3 (by omega)
    obtain ⟨x0, x1, x2, x3, x4, xf⟩ := HN10.out
    have g0 := xf 0 (by omega)
    have g1 := xf 1 (by omega)
    have g2 := xf 2 (by omega)
    have g3 := xf 3 (by omega)
    have g4 := xf 4 (by omega)
    clear ef xf
    go_wp2_with fail
    have hc5 := NewCon.set (NewCon.out (c := hb) (i := 0) (v := .int .i64 wv) (NewCon.out (c := hb) (i := 3) (v := .int .i64 ((u : Int) + (rn : Int))) HN10.out hne2) hne2) (.int .i64 wv) (.slice (some ⟨g, 0, none⟩) L K) (.slice (some ⟨g9, 0, none⟩) (qs.length + 1) cap9) (.int .i64 ((u : Int) + (rn : Int))) (.bool cl)
    refine con_ret rfl rb rfl rfl hc5.1 hc5.2.1 hc5.2.2.1 hc5.2.2.2.1 hc5.2.2.2.2 (HFIN.out _ _ _ _ _ _ HK10.out HZ10.out (fun k hk => by simp only [Value.ownBlock, Option.some.injEq] at hk; subst hk; exact G9.out) (fun q hq => by rcases List.mem_append.1 hq with hq | hq; exact .inl hq; simp at hq; subst hq; exact .inr (fun ad e => (BB.out ad e).1)) ?_)
    have cb : ∀ {X : World} (i : Nat) (v : Value), Chg (fun j => j = hb ∨ j = rb) W5 X → Chg (fun j => j = hb ∨ j = rb) W5 (X.setCell ⟨hb, i, none⟩ v) := fun i v h => h.setCell (p := ⟨hb, i, none⟩) (.inl (.inl rfl)) v
    have cr : ∀ {X : World} (i : Nat) (v : Value), Chg (fun j => j = hb ∨ j = rb) W5 X → Chg (fun j => j = hb ∨ j = rb) W5 (X.setCell ⟨rb, i, none⟩ v) := fun i v h => h.setCell (p := ⟨rb, i, none⟩) (.inl (.inr rfl)) v
    exact cr _ _ (cr _ _ (cr _ _ (cr _ _ (cr _ _ (cb _ _ (cb _ _ (Chg.refl _ _)))))))
  · go_simp
    refine (HCLN.out _ ((Kept.refl W3).drew)).mono ?_
    rintro e wB ⟨vB, rfl, oB, kB⟩
    obtain ⟨aB, cB, rfl, sB, _, bB⟩ := owned_sl oB (by rw [HLL.out]; unfold maxLen; omega)
    rw [HLL.out] at sB ⊢
    have SB := hidMk sB
    have KB := hidMk (show Kept W3 wB from (((Kept.refl W3).drew)).trans kB)
    have BB := hidMk (show ∀ ad, aB = some ad → W3.heap.size ≤ ad.block ∧ ad.block < wB.heap.size from fun ad e => bB ad e)
    clear sB kB bB oB
    (try go_wp2_with fail)
    refine hK.out _ _ ?_ (fun hHeld => ?_)
    · trivial
    clear hK K
    (try simp only [Act.put, List.setIfInBounds_toArray, List.set_cons_zero, List.set_cons_succ])
    refine wpAnyH_ready (rs := [1, 4]) (by kernel_rfl) (by simp) ?_
    refine (AllReadyH.cons (o := { dst := some 17, op := _, type := _, pos := _, after := _, guard := _ }) rfl (fun K hK => ?_) (AllReadyH.cons (o := { dst := some 20, op := _, type := _, pos := _, after := _, guard := _ }) rfl (fun K hK => ?_) AllReadyH.nil))
    · have y2 := (HCN.out.kept KB.out).c2
      go_simp
      clear y2
      refine hK.out _ _ ?_ (fun hHeld => ?_)
      · trivial
      clear hK K
      (try simp only [Act.put, List.setIfInBounds_toArray, List.set_cons_zero, List.set_cons_succ])
      refine wpAnyH_ready (rs := [4]) (by kernel_rfl) (by simp) ?_
      refine (AllReadyH.cons (o := { dst := some 20, op := _, type := _, pos := _, after := _, guard := _ }) rfl (fun K hK => ?_) AllReadyH.nil)
      go_simp
      refine hK.out _ _ ?_ (fun hHeld => ?_)
      · trivial
      clear hK K
      (try simp only [Act.put, List.setIfInBounds_toArray, List.set_cons_zero, List.set_cons_succ])
      refine wpAnyH_ready (rs := [5]) (by kernel_rfl) (by simp) ?_
      refine (AllReadyH.cons (o := { dst := some 21, op := _, type := _, pos := _, after := _, guard := _ }) rfl (fun K hK => ?_) AllReadyH.nil)
      have HSD := hidMk (show ∀ ad, aB = some ad → (Value.slice va vn vc).ownBlock ≠ some ad.block ∧ ad.block < (wB.alloc (.cells #[.slice aB n cB] 33)).heap.size from fun ad e => ⟨fun e2 => by have := (HRZ.out.olt _ e2).2; have := (BB.out ad e).1; omega, by rw [World.size_alloc]; have := (BB.out ad e).2; omega⟩)
      refine step_pushZ _ rfl _ _ rfl 0 _ qs rs rfl (HRZ.out.kept (KB.out.alloc _)) (Nat.zero_le _) wB.heap.size (aB, n, cB) l rfl (by simp [slv3]) (SB.out.kept ((Kept.refl _).alloc _)) HSD.out HLQ.out ?_
      intro g9 cap9 w9 z9 k9 g9x
      have Z9 := hidMk z9
      have K9 := hidMk (show Chg (fun k => (Value.slice va vn vc).ownBlock = some k) W3 w9 from (Chg.of_kept (KB.out.alloc _)).trans k9)
      have G9 := hidMk (show (Value.slice va vn vc).ownBlock = some g9 ∨ W3.heap.size ≤ g9 from g9x.imp_right (fun e => by rw [e, World.size_alloc]; have := KB.out.size; omega))
      clear z9 k9 g9x
      have HC9 := hidMk (HCN.out.chg K9.out (fun e => HNO.out _ e rfl))
      refine hK.out _ _ ?_ (fun hHeld => ?_)
      · trivial
      clear hK K
      (try simp only [Act.put, List.setIfInBounds_toArray, List.set_cons_zero, List.set_cons_succ])
      refine wpAnyH_take (i := 6) (oi := { dst := some 22, op := _, type := _, pos := _, after := _, guard := _ }) (v := ?_) rfl (by kernel_rfl) (by kernel_rfl) (by kernel_rfl) (fun _ _ _ h => h) (Or.inl ⟨by rfl, ?_⟩) (by assumption) ?_
      rotate_left
      · (intro w9 hSw; go_simp; (try with_reducible rfl))
      (try simp only [Act.put, List.setIfInBounds_toArray, List.set_cons_zero, List.set_cons_succ])
      refine wpAnyH_ready (rs := [7]) (by kernel_rfl) (by simp) ?_
      refine (AllReadyH.cons (o := { dst := none, op := _, type := _, pos := _, after := _, guard := _ }) rfl (fun K hK => ?_) AllReadyH.nil)
      have y2 := HC9.out.c2
      have f2 := HC9.out.fz 2 (by omega)
      go_simp
      clear y2 f2
      refine hK.out _ _ ?_ (fun hHeld => ?_)
      · trivial
      clear hK K
      (try simp only [Act.put, List.setIfInBounds_toArray, List.set_cons_zero, List.set_cons_succ])
      refine wpAnyH_done (by kernel_rfl) ?_ _
      have HC10 := hidMk (HC9.out.set2 (.slice (some ⟨g9, 0, none⟩) (qs.length + 1) cap9))
      have HN10 := hidMk (show NewCon (w9.setCell ⟨hb, 2, none⟩ (.slice (some ⟨g9, 0, none⟩) (qs.length + 1) cap9)) rb from (HNC.out.chg K9.out (fun e => HNO2.out _ e rfl)).out hne2)
      have HK10 := hidMk (show Chg (fun k => k = hb ∨ (Value.slice va vn vc).ownBlock = some k) W3 (w9.setCell ⟨hb, 2, none⟩ (.slice (some ⟨g9, 0, none⟩) (qs.length + 1) cap9)) from (K9.out.mono (fun j _ e => .inr e)).setCell (p := ⟨hb, 2, none⟩) (.inl (.inl rfl)) _)
      have HZ10 := hidMk (show Rz (w9.setCell ⟨hb, 2, none⟩ (.slice (some ⟨g9, 0, none⟩) (qs.length + 1) cap9)) 0 (.slice (some ⟨g9, 0, none⟩) (qs.length + 1) cap9) (qs ++ [(aB, n, cB)]) (rs ++ [l]) from Z9.out.chg (S := fun j => j = hb) ((Chg.refl (fun j => j = hb) _).own 2 _) (fun k hk e => by simp only [Value.ownBlock, Option.some.injEq] at hk; have := HHB.out; rcases G9.out with e2 | e2; exact HNO.out _ e2 (by omega); omega) (fun q hq ad e e2 => by rcases List.mem_append.1 hq with hq | hq; exact HNQ.out q hq ad e e2; simp at hq; subst hq; have := (BB.out ad e).1; have := HHB.out; omega))
      generalize w9.setCell ⟨hb, 2, none⟩ (.slice (some ⟨g9, 0, none⟩) (qs.length + 1) cap9) = W5 at *
      clear HC9 K9 Z9
      obtain ⟨e0, e1, e2, e3, e4, ef⟩ := HC10.out
      have f0 := ef 0 (by omega)
      have f3 := ef 3 (by omega)
      obtain ⟨x0, x1, x2, x3, x4, xf⟩ := HN10.out
      have g0 := xf 0 (by omega)
      have g1 := xf 1 (by omega)
      have g2 := xf 2 (by omega)
      have g3 := xf 3 (by omega)
      have g4 := xf 4 (by omega)
      clear ef xf
      go_wp2_with fail
      have hc5 := NewCon.set (NewCon.out (c := hb) (i := 0) (v := .int .i64 wv) (NewCon.out (c := hb) (i := 3) (v := .int .i64 ((u : Int) + (rn : Int))) HN10.out hne2) hne2) (.int .i64 wv) (.slice (some ⟨g, 0, none⟩) L K) (.slice (some ⟨g9, 0, none⟩) (qs.length + 1) cap9) (.int .i64 ((u : Int) + (rn : Int))) (.bool cl)
      refine con_ret rfl rb rfl rfl hc5.1 hc5.2.1 hc5.2.2.1 hc5.2.2.2.1 hc5.2.2.2.2 (HFIN.out _ _ _ _ _ _ HK10.out HZ10.out (fun k hk => by simp only [Value.ownBlock, Option.some.injEq] at hk; subst hk; exact G9.out) (fun q hq => by rcases List.mem_append.1 hq with hq | hq; exact .inl hq; simp at hq; subst hq; exact .inr (fun ad e => (BB.out ad e).1)) ?_)
      have cb : ∀ {X : World} (i : Nat) (v : Value), Chg (fun j => j = hb ∨ j = rb) W5 X → Chg (fun j => j = hb ∨ j = rb) W5 (X.setCell ⟨hb, i, none⟩ v) := fun i v h => h.setCell (p := ⟨hb, i, none⟩) (.inl (.inl rfl)) v
      have cr : ∀ {X : World} (i : Nat) (v : Value), Chg (fun j => j = hb ∨ j = rb) W5 X → Chg (fun j => j = hb ∨ j = rb) W5 (X.setCell ⟨rb, i, none⟩ v) := fun i v h => h.setCell (p := ⟨rb, i, none⟩) (.inl (.inr rfl)) v
      exact cr _ _ (cr _ _ (cr _ _ (cr _ _ (cr _ _ (cb _ _ (cb _ _ (Chg.refl _ _)))))))
    · go_simp
      refine hK.out _ _ ?_ (fun hHeld => ?_)
      · trivial
      clear hK K
      (try simp only [Act.put, List.setIfInBounds_toArray, List.set_cons_zero, List.set_cons_succ])
      refine wpAnyH_ready (rs := [1]) (by kernel_rfl) (by simp) ?_
      refine (AllReadyH.cons (o := { dst := some 17, op := _, type := _, pos := _, after := _, guard := _ }) rfl (fun K hK => ?_) AllReadyH.nil)
      have y2 := (HCN.out.kept (KB.out.alloc (.cells #[.slice aB n cB] 33))).c2
      go_simp
      clear y2
      refine hK.out _ _ ?_ (fun hHeld => ?_)
      · trivial
      clear hK K
      (try simp only [Act.put, List.setIfInBounds_toArray, List.set_cons_zero, List.set_cons_succ])
      refine wpAnyH_ready (rs := [5]) (by kernel_rfl) (by simp) ?_
      refine (AllReadyH.cons (o := { dst := some 21, op := _, type := _, pos := _, after := _, guard := _ }) rfl (fun K hK => ?_) AllReadyH.nil)
      have HSD := hidMk (show ∀ ad, aB = some ad → (Value.slice va vn vc).ownBlock ≠ some ad.block ∧ ad.block < (wB.alloc (.cells #[.slice aB n cB] 33)).heap.size from fun ad e => ⟨fun e2 => by have := (HRZ.out.olt _ e2).2; have := (BB.out ad e).1; omega, by rw [World.size_alloc]; have := (BB.out ad e).2; omega⟩)
      refine step_pushZ _ rfl _ _ rfl 0 _ qs rs rfl (HRZ.out.kept (KB.out.alloc _)) (Nat.zero_le _) wB.heap.size (aB, n, cB) l rfl (by simp [slv3]) (SB.out.kept ((Kept.refl _).alloc _)) HSD.out HLQ.out ?_
      intro g9 cap9 w9 z9 k9 g9x
      have Z9 := hidMk z9
      have K9 := hidMk (show Chg (fun k => (Value.slice va vn vc).ownBlock = some k) W3 w9 from (Chg.of_kept (KB.out.alloc _)).trans k9)
      have G9 := hidMk (show (Value.slice va vn vc).ownBlock = some g9 ∨ W3.heap.size ≤ g9 from g9x.imp_right (fun e => by rw [e, World.size_alloc]; have := KB.out.size; omega))
      clear z9 k9 g9x
      have HC9 := hidMk (HCN.out.chg K9.out (fun e => HNO.out _ e rfl))
      refine hK.out _ _ ?_ (fun hHeld => ?_)
      · trivial
      clear hK K
      (try simp only [Act.put, List.setIfInBounds_toArray, List.set_cons_zero, List.set_cons_succ])
      refine wpAnyH_take (i := 6) (oi := { dst := some 22, op := _, type := _, pos := _, after := _, guard := _ }) (v := ?_) rfl (by kernel_rfl) (by kernel_rfl) (by kernel_rfl) (fun _ _ _ h => h) (Or.inl ⟨by rfl, ?_⟩) (by assumption) ?_
      rotate_left
      · (intro w9 hSw; go_simp; (try with_reducible rfl))
      (try simp only [Act.put, List.setIfInBounds_toArray, List.set_cons_zero, List.set_cons_succ])
      refine wpAnyH_ready (rs := [7]) (by kernel_rfl) (by simp) ?_
      refine (AllReadyH.cons (o := { dst := none, op := _, type := _, pos := _, after := _, guard := _ }) rfl (fun K hK => ?_) AllReadyH.nil)
      have y2 := HC9.out.c2
      have f2 := HC9.out.fz 2 (by omega)
      go_simp
      clear y2 f2
      refine hK.out _ _ ?_ (fun hHeld => ?_)
      · trivial
      clear hK K
      (try simp only [Act.put, List.setIfInBounds_toArray, List.set_cons_zero, List.set_cons_succ])
      refine wpAnyH_done (by kernel_rfl) ?_ _
      have HC10 := hidMk (HC9.out.set2 (.slice (some ⟨g9, 0, none⟩) (qs.length + 1) cap9))
      have HN10 := hidMk (show NewCon (w9.setCell ⟨hb, 2, none⟩ (.slice (some ⟨g9, 0, none⟩) (qs.length + 1) cap9)) rb from (HNC.out.chg K9.out (fun e => HNO2.out _ e rfl)).out hne2)
      have HK10 := hidMk (show Chg (fun k => k = hb ∨ (Value.slice va vn vc).ownBlock = some k) W3 (w9.setCell ⟨hb, 2, none⟩ (.slice (some ⟨g9, 0, none⟩) (qs.length + 1) cap9)) from (K9.out.mono (fun j _ e => .inr e)).setCell (p := ⟨hb, 2, none⟩) (.inl (.inl rfl)) _)
      have HZ10 := hidMk (show Rz (w9.setCell ⟨hb, 2, none⟩ (.slice (some ⟨g9, 0, none⟩) (qs.length + 1) cap9)) 0 (.slice (some ⟨g9, 0, none⟩) (qs.length + 1) cap9) (qs ++ [(aB, n, cB)]) (rs ++ [l]) from Z9.out.chg (S := fun j => j = hb) ((Chg.refl (fun j => j = hb) _).own 2 _) (fun k hk e => by simp only [Value.ownBlock, Option.some.injEq] at hk; have := HHB.out; rcases G9.out with e2 | e2; exact HNO.out _ e2 (by omega); omega) (fun q hq ad e e2 => by rcases List.mem_append.1 hq with hq | hq; exact HNQ.out q hq ad e e2; simp at hq; subst hq; have := (BB.out ad e).1; have := HHB.out; omega))
      generalize w9.setCell ⟨hb, 2, none⟩ (.slice (some ⟨g9, 0, none⟩) (qs.length + 1) cap9) = W5 at *
      clear HC9 K9 Z9
      obtain ⟨e0, e1, e2, e3, e4, ef⟩ := HC10.out
      have f0 := ef 0 (by omega)
      have f3 := ef 3 (by omega)
      obtain ⟨x0, x1, x2, x3, x4, xf⟩ := HN10.out
      have g0 := xf 0 (by omega)
      have g1 := xf 1 (by omega)
      have g2 := xf 2 (by omega)
      have g3 := xf 3 (by omega)
      have g4 := xf 4 (by omega)
      clear ef xf
      go_wp2_with fail
      have hc5 := NewCon.set (NewCon.out (c := hb) (i := 0) (v := .int .i64 wv) (NewCon.out (c := hb) (i := 3) (v := .int .i64 ((u : Int) + (rn : Int))) HN10.out hne2) hne2) (.int .i64 wv) (.slice (some ⟨g, 0, none⟩) L K) (.slice (some ⟨g9, 0, none⟩) (qs.length + 1) cap9) (.int .i64 ((u : Int) + (rn : Int))) (.bool cl)
      refine con_ret rfl rb rfl rfl hc5.1 hc5.2.1 hc5.2.2.1 hc5.2.2.2.1 hc5.2.2.2.2 (HFIN.out _ _ _ _ _ _ HK10.out HZ10.out (fun k hk => by simp only [Value.ownBlock, Option.some.injEq] at hk; subst hk; exact G9.out) (fun q hq => by rcases List.mem_append.1 hq with hq | hq; exact .inl hq; simp at hq; subst hq; exact .inr (fun ad e => (BB.out ad e).1)) ?_)
      have cb : ∀ {X : World} (i : Nat) (v : Value), Chg (fun j => j = hb ∨ j = rb) W5 X → Chg (fun j => j = hb ∨ j = rb) W5 (X.setCell ⟨hb, i, none⟩ v) := fun i v h => h.setCell (p := ⟨hb, i, none⟩) (.inl (.inl rfl)) v
      have cr : ∀ {X : World} (i : Nat) (v : Value), Chg (fun j => j = hb ∨ j = rb) W5 X → Chg (fun j => j = hb ∨ j = rb) W5 (X.setCell ⟨rb, i, none⟩ v) := fun i v h => h.setCell (p := ⟨rb, i, none⟩) (.inl (.inr rfl)) v
      exact cr _ _ (cr _ _ (cr _ _ (cr _ _ (cr _ _ (cb _ _ (cb _ _ (Chg.refl _ _)))))))
end Go.Proofs.Ytapcmkhpbdphoaa
