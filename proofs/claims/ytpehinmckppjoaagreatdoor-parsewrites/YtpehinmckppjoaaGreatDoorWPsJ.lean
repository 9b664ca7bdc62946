/- parse.Name; a writer's first word; Line. -/
import Derived.Test.YtpehinmckppjoaaGreatDoorWPsHB
import Derived.Test.YtpehinmckppjoaaGreatDoorWPsI
import Derived.Test.YtpehinmckppjoaaGreatDoorWPsD
namespace Go.Proofs.YtpehinmckppjoaaGreatDoor
open Go.RowKit Go.Maps
set_option linter.unusedSimpArgs false
set_option linter.unusedVariables false

theorem kwI_at (k : Nat) (h : k < 19) : kwI (k : Int) = kwL.getD k ByteArray.empty := by
  unfold kwI
  rw [if_pos ⟨by omega, by omega⟩, Int.toNat_natCast]
set_option maxHeartbeats 1000000 in
theorem ps_Name (W : World) (h : FV W) (k : Int) : Calls Tryz.prog 11 #[.int .i64 k] W fun e w' => e = .returned (.string (kwI k)) ∧ Kept W w' := by
  by_cases h0 : k < 0
  · have e : kwI k = ⟨#[]⟩ := by unfold kwI; rw [if_neg (by omega)]
    rw [e]
    have hd : decide (k < 0) = true := by simpa using h0
    clear h e
    go_enter Tryz.func11, Tryz.ntmps11
    go_wp2_with fail
    go_ret
    exact ⟨rfl, Kept.refl _⟩
  · have hd : decide (k < 0) = false := by simpa using h0
    by_cases h1 : 19 ≤ k
    · have e : kwI k = ⟨#[]⟩ := by unfold kwI; rw [if_neg (by omega)]
      rw [e]
      have hd2 : decide (19 ≤ k) = true := by simpa using h1
      clear h e
      go_enter Tryz.func11, Tryz.ntmps11
      go_wp2_with fail
      go_ret
      exact ⟨rfl, Kept.refl _⟩
    · have hd2 : decide (19 ≤ k) = false := by simpa using h1
      obtain ⟨n, rfl⟩ : ∃ n : Nat, k = n := ⟨k.toNat, by omega⟩
      have hn : n < 19 := by omega
      have hn2 : (n : Int) < 19 := by omega
      have q := h n hn
      rw [kwI_at n hn]
      clear h
      generalize kwL.getD n ByteArray.empty = t at *
      go_enter Tryz.func11, Tryz.ntmps11
      go_wp2_with fail
      go_ret
      exact ⟨rfl, Kept.refl _⟩
section
variable {w0 W : World} {pr px pd : Nat} {ms : List ByteArray} {ds : List Dm} {x : Cm} {v : Value} {l : List ByteArray}
set_option maxHeartbeats 2000000 in
set_option maxRecDepth 100000 in
theorem wr_first (hV : ∀ y, Kept W y → FV y) (hS : WS w0 W pr px pd x v l) (hl : l.length ≤ 19) (k : Int) :
    Calls Tryz.prog 33 #[.pointer (some ⟨pr, 0, none⟩), .int .i64 k] W (WrPost w0 W pr px pd x v l (if (kwI k).size = 0 then none else some [kwI k])) := by
  have HN := hidMk (ps_Name W (hV W (Kept.refl W)) k)
  have HP := hidMk (fun y (hy : Kept W y) t => wr_from hy (wr_put (hS.keep hy) hl t))
  have HMY := hidMk (wr_must_yes ⟨pr, 0, none⟩)
  have HMN := hidMk (wr_must_no ⟨pr, 0, none⟩)
  clear hV hS
  generalize kwI k = t at *
  by_cases h0 : t.size = 0
  · rw [if_pos h0]
    have e : t = ⟨#[]⟩ := data_inj (by
      have : t.data.toList.length = 0 := by rw [data_len]; exact h0
      rw [List.length_eq_zero_iff.1 this])
    subst e
    show Calls _ _ _ _ (fun e w' => e = .panicked (flt 0 2) ∧ ∃ v', WC pr v v' W w')
    go_enter Tryz.func33, Tryz.ntmps33
    go_wp2_with fail
    refine HN.out.mono ?_
    rintro e w1 ⟨rfl, k1⟩
    have K1 := hidMk k1
    clear k1
    go_wp2_with fail
    refine (HMN.out _).mono ?_
    rintro e w2 ⟨rfl, rfl⟩
    go_wp2_with fail
    exact ⟨rfl, rfl, _, WC.of_kept K1.out⟩
  · rw [if_neg h0]
    have hne : ¬ t = (⟨#[]⟩ : ByteArray) := fun e => h0 (by rw [e]; rfl)
    have hb := str_ne hne
    show Calls _ _ _ _ (fun e w' => e = .returned (.tuple #[]) ∧ ∃ v', WS w0 w' pr px pd x v' (l ++ [t]) ∧ WC pr v v' W w')
    go_enter Tryz.func33, Tryz.ntmps33
    go_wp2_with fail
    refine HN.out.mono ?_
    rintro e w1 ⟨rfl, k1⟩
    have K1 := hidMk k1
    clear k1
    go_wp2_with fail
    refine (HMY.out _).mono ?_
    rintro e w2 ⟨rfl, rfl⟩
    go_wp2_with fail
    refine (HP.out _ K1.out _).mono ?_
    rintro e w3 ⟨rfl, hq⟩
    have HQ := hidMk hq
    clear hq
    go_wp2_with fail
    go_end0
    exact ⟨rfl, HQ.out⟩
/-- The fields of any kind. -/
theorem wr_fields (hX : WX w0 pd ms ds) (hS : WS w0 W pr px pd x v l) (hx : XOk x) (hl : l.length ≤ 1) (hk : 1 ≤ x.k ∧ x.k ≤ 18) :
    Calls Tryz.prog 26 #[wrV pr, .pointer (some ⟨px, 0, none⟩)] W (WrPost w0 W pr px pd x v l (foldW ms ds (shapeL x.k) x)) := by
  rcases (by omega : x.k = 1 ∨ x.k = 2 ∨ x.k = 3 ∨ x.k = 4 ∨ x.k = 5 ∨ x.k = 6 ∨ x.k = 7 ∨ x.k = 8 ∨ x.k = 9 ∨ x.k = 10 ∨ x.k = 11 ∨ x.k = 12 ∨ x.k = 13 ∨ x.k = 14 ∨ x.k = 15 ∨ x.k = 16 ∨ x.k = 17 ∨ x.k = 18) with h | h | h | h | h | h | h | h | h | h | h | h | h | h | h | h | h | h
  · rw [h]; exact wr_fields_1 hX hS hx hl h
  · rw [h]; exact wr_fields_2 hX hS hx hl (by omega)
  · rw [h]; exact wr_fields_2 hX hS hx hl (by omega)
  · rw [h]; exact wr_fields_4 hX hS hx hl (by omega)
  · rw [h]; exact wr_fields_4 hX hS hx hl (by omega)
  · rw [h]; exact wr_fields_6 hX hS hx hl (by omega)
  · rw [h]; exact wr_fields_6 hX hS hx hl (by omega)
  · rw [h]; exact wr_fields_8 hX hS hx hl (by omega)
  · rw [h]; exact wr_fields_6 hX hS hx hl (by omega)
  · rw [h]; exact wr_fields_10 hX hS hx hl h
  · rw [h]; exact wr_fields_2 hX hS hx hl (by omega)
  · rw [h]; exact wr_fields_4 hX hS hx hl (by omega)
  · rw [h]; exact wr_fields_8 hX hS hx hl (by omega)
  · rw [h]; exact wr_fields_6 hX hS hx hl (by omega)
  · rw [h]; exact wr_fields_6 hX hS hx hl (by omega)
  · rw [h]; exact wr_fields_16 hX hS hx hl h
  · rw [h]; exact wr_fields_17 hX hS hx hl h
  · rw [h]; exact wr_fields_18 hX hS hx hl h
set_option maxHeartbeats 2000000 in
set_option maxRecDepth 100000 in
theorem wr_body (hX : WX w0 pd ms ds) (hV : ∀ y, Kept w0 y → FV y) (hS : WS w0 W pr px pd x v []) (hx : XOk x) (pc : Nat) (hpc : pc ≠ pr ∧ v.ownBlock ≠ some pc) (hc : W.cell? ⟨pc, 0, none⟩ = some (.pointer (some ⟨pr, 0, none⟩))) :
    Calls Tryz.prog 32 #[.pointer (some ⟨pc, 0, none⟩), .pointer (some ⟨px, 0, none⟩)] W (WrPost w0 W pr px pd x v [] (writeP ms ds x)) := by
  have HX := hidMk hX
  have HXO := hidMk hx
  have HF := hidMk (wr_first (fun y hy => hV y (hS.kept.trans hy)) hS (by decide) x.k)
  have HPC := hidMk hpc
  have x0 := hS.x 0 _ rfl
  unfold writeP
  clear hX hV hS hpc hx
  by_cases h0 : (kwI x.k).size = 0
  · rw [if_pos h0] at HF ⊢
    show Calls _ _ _ _ (fun e w' => e = .panicked (flt 0 2) ∧ ∃ v', WC pr v v' W w')
    generalize x.k = k at *
    go_enter Tryz.func32, Tryz.ntmps32
    go_wp2_with fail
    refine HF.out.mono ?_
    rintro e w1 ⟨rfl, hq⟩
    have HQ := hidMk hq
    clear hq
    go_wp2_with fail
    exact ⟨rfl, rfl, HQ.out⟩
  · rw [if_neg h0] at HF ⊢
    have HK := hidMk (kw_size.1 h0)
    obtain ⟨r, hr⟩ : ∃ r, foldW ms ds (shapeL x.k) x = r := ⟨_, rfl⟩
    rw [hr]
    have HR := hidMk hr
    clear hr h0
    generalize hxk : x.k = k at *
    have HXK := hidMk hxk
    clear hxk
    go_enter Tryz.func32, Tryz.ntmps32
    go_wp2_with fail
    refine HF.out.mono ?_
    rintro e w1 ⟨rfl, v1, s1, c1⟩
    have HC1 := hidMk c1
    have e1 := (c1.cellp hc HPC.out.1 HPC.out.2).1
    have HFL := hidMk (show Calls Tryz.prog 26 #[.iface 83 (.pointer (some ⟨pr, 0, none⟩)), .pointer (some ⟨px, 0, none⟩)] w1 (WrPost w0 w1 pr px pd x v1 ([] ++ [kwI k]) r) from by
      rw [← HR.out, ← HXK.out]
      exact wr_fields HX.out (by rw [HXK.out]; exact s1) HXO.out (by simp) (by rw [HXK.out]; exact HK.out))
    clear s1 c1 HF
    go_wp2_with fail
    refine HFL.out.mono ?_
    intro e w2 hp
    rcases r with _ | m
    · obtain ⟨rfl, v2, hq⟩ := hp
      have HQ := hidMk (HC1.out.trans hq)
      clear hq
      go_wp2_with fail
      exact ⟨rfl, rfl, _, HQ.out⟩
    · obtain ⟨rfl, v2, hs, hq⟩ := hp
      have HQ := hidMk (HC1.out.trans hq)
      have HS2 := hidMk hs
      clear hs hq
      go_wp2_with fail
      go_end0
      exact ⟨rfl, _, HS2.out, HQ.out⟩
/-- What 'caught' tells of a body. -/
def CwPost (w0 W : World) (pr px pd : Nat) (x : Cm) (v : Value) (r : Option (List ByteArray)) (e : Ending) (w' : World) : Prop := ∃ v', WC pr v v' W w' ∧ match r with
  | none => e = .returned (.agg #[.int .i64 0, .int .i64 2])
  | some m => e = .returned (.agg #[.int .i64 0, .int .i64 0]) ∧ WS w0 w' pr px pd x v' m
theorem WC.setNew {v v' : Value} {W1 : World} (h : WC pr v v' W W1) {p : Addr} (hp : W.heap.size ≤ p.block) (u : Value) : WC pr v v' W (W1.setCell p u) := ⟨h.chg.setCell (.inr hp) u, h.blk⟩
theorem WS.chg {W' : World} (h : WS w0 W pr px pd x v l) {S : Nat → Prop} (k : Chg S W W') (hr : ¬ S pr) (hx : ¬ S px) (hv : ∀ g, v.ownBlock = some g → ¬ S g) (h0 : ∀ j, S j → w0.heap.size ≤ j) : WS w0 W' pr px pd x v l :=
  ⟨Chg.kept h.kept k h0, h.lo, h.ne, k.cellp h.d hr, k.cellp h.ws hr, ownsRow_chg h.own k hv, h.nb, (k.frozen (p := ⟨pr, 1, none⟩) h.lt.1 hr).trans h.fr, fun j u hu => k.cellp (h.x j u hu) hx, h.few⟩
set_option maxHeartbeats 2000000 in
set_option maxRecDepth 100000 in
theorem wr_caught (hX : WX w0 pd ms ds) (hV : ∀ y, Kept w0 y → FV y) (hS : WS w0 W pr px pd x v []) (hx : XOk x) (pc : Nat) (hpc : pc ≠ pr ∧ v.ownBlock ≠ some pc) (hc : W.cell? ⟨pc, 0, none⟩ = some (.pointer (some ⟨pr, 0, none⟩))) :
    Calls Tryz.prog 23 #[.func (.func 32) #[] #[.pointer (some ⟨pc, 0, none⟩), .pointer (some ⟨px, 0, none⟩)]] W (CwPost w0 W pr px pd x v (writeP ms ds x)) := by
  have hmf : ∀ fn first cap w, (Instr.makeFunc fn first cap).run Tryz.prog w = .ok (.func fn first cap) w := fun _ _ _ _ => rfl
  obtain ⟨hlr, hlx, hlv⟩ := hS.lt
  have HB := hidMk (show ∀ o, Calls Tryz.prog 32 #[.pointer (some ⟨pc, 0, none⟩), .pointer (some ⟨px, 0, none⟩)] (W.alloc o) (WrPost w0 (W.alloc o) pr px pd x v [] (writeP ms ds x)) from fun o => wr_body hX hV (hS.keep ((Kept.refl W).alloc o)) hx pc hpc (((Kept.refl W).alloc o).cellp hc))
  have hk0 := hidMk (hS.kept.size)
  have HLV := hidMk (show v.ownBlock ≠ some W.heap.size from fun e => by have := hlv _ e; omega)
  clear hX hV hS hpc hx hlv
  generalize writeP ms ds x = R at *
  go_enter_defers Tryz.func23, Tryz.ntmps23
  go_wp2_with fail
  refine (HB.out _).mono ?_
  intro e w1 hp
  have hn : W.heap.size ≠ pr := by omega
  rcases R with _ | m
  · obtain ⟨rfl, v1, c1⟩ := hp
    have g0 : w1.cell? ⟨W.heap.size, 0, none⟩ = some (.int .i64 0) := (c1.cellp (by simp) hn HLV.out).1
    have g1 : w1.cell? ⟨W.heap.size, 1, none⟩ = some (.int .i64 0) := (c1.cellp (by simp) hn HLV.out).1
    have hns : ¬ (W.heap.size = pr ∨ v.ownBlock = some W.heap.size) := fun e => e.elim hn HLV.out
    have f0 : w1.frozen? ⟨W.heap.size, 0, none⟩ = false := (c1.chg.frozen (p := ⟨W.heap.size, 0, none⟩) (by simp) hns).trans (by simp)
    have f1 : w1.frozen? ⟨W.heap.size, 1, none⟩ = false := (c1.chg.frozen (p := ⟨W.heap.size, 1, none⟩) (by simp) hns).trans (by simp)
    have C1 := hidMk (((WC.ahead ((Kept.refl W).alloc _) c1).setNew (p := ⟨W.heap.size, 0, none⟩) (Nat.le_refl _) (.int .i64 0)).setNew (p := ⟨W.heap.size, 1, none⟩) (Nat.le_refl _) (.int .i64 2))
    refine leaves_cons (f := 47) (args := #[.pointer (some ⟨W.heap.size, 0, none⟩)]) (by simp) (by simp [go_sem]) ?_
    refine (catch_flt W.heap.size 0 2 [] _ g0 g1 f0 f1).mono ?_
    rintro e u' w'' ⟨rfl, rfl, rfl⟩
    have j0 := World.cell?_setCell_same w1 ⟨W.heap.size, 0, none⟩ (.int .i64 0) g0
    have j1 := World.cell?_setCell_same (w1.setCell ⟨W.heap.size, 0, none⟩ (.int .i64 0)) ⟨W.heap.size, 1, none⟩ (.int .i64 2) (so g1 (by simp))
    simp [Leaves, settle, results, Tryz.results23, go_sem, j0, j1]
    exact ⟨_, C1.out, rfl⟩
  · obtain ⟨rfl, v1, s2, c1⟩ := hp
    have g0 : w1.cell? ⟨W.heap.size, 0, none⟩ = some (.int .i64 0) := (c1.cellp (by simp) hn HLV.out).1
    have g1 : w1.cell? ⟨W.heap.size, 1, none⟩ = some (.int .i64 0) := (c1.cellp (by simp) hn HLV.out).1
    have hns : ¬ (W.heap.size = pr ∨ v.ownBlock = some W.heap.size) := fun e => e.elim hn HLV.out
    have f0 : w1.frozen? ⟨W.heap.size, 0, none⟩ = false := (c1.chg.frozen (p := ⟨W.heap.size, 0, none⟩) (by simp) hns).trans (by simp)
    have f1 : w1.frozen? ⟨W.heap.size, 1, none⟩ = false := (c1.chg.frozen (p := ⟨W.heap.size, 1, none⟩) (by simp) hns).trans (by simp)
    have hv1 : v1.ownBlock ≠ some W.heap.size := (c1.cellp (b := W.heap.size) (o := 0) (u := .int .i64 0) (by simp) hn HLV.out).2
    have HV1 := hidMk hv1
    have C1 := hidMk (WC.ahead ((Kept.refl W).alloc (.cells #[.int .i64 0, .int .i64 0] 68)) c1)
    have S2 := hidMk s2
    clear s2 c1 HB hv1
    go_wp2_with fail
    have j0 := World.cell?_setCell_same w1 ⟨W.heap.size, 0, none⟩ (.int .i64 0) g0
    have j1 := World.cell?_setCell_same (w1.setCell ⟨W.heap.size, 0, none⟩ (.int .i64 0)) ⟨W.heap.size, 1, none⟩ (.int .i64 0) (so g1 (by simp))
    refine leaves_cons (f := 47) (args := #[.pointer (some ⟨W.heap.size, 0, none⟩)]) (by simp) (by simp [go_sem]) ?_
    refine (catch_idle ⟨W.heap.size, 0, none⟩ _).mono ?_
    rintro e u' w'' ⟨rfl, rfl, rfl⟩
    simp [Leaves, settle, results, Tryz.results23, go_sem, j0, j1]
    have CE : Chg (fun b => b = W.heap.size) w1 ((w1.setCell ⟨W.heap.size, 0, none⟩ (.int .i64 0)).setCell ⟨W.heap.size, 1, none⟩ (.int .i64 0)) := ((Chg.refl (fun b => b = W.heap.size) w1).setCell (S := fun b => b = W.heap.size) (p := ⟨W.heap.size, 0, none⟩) (.inl rfl) _).setCell (S := fun b => b = W.heap.size) (p := ⟨W.heap.size, 1, none⟩) (.inl rfl) _
    exact ⟨_, (C1.out.setNew (p := ⟨W.heap.size, 0, none⟩) (Nat.le_refl _) _).setNew (p := ⟨W.heap.size, 1, none⟩) (Nat.le_refl _) _, rfl, S2.out.chg CE (by omega) (by omega) (fun g e h => HV1.out (by rw [← h]; exact e)) (fun j hj => by have := hk0.out; omega)⟩
end
end Go.Proofs.YtpehinmckppjoaaGreatDoor
