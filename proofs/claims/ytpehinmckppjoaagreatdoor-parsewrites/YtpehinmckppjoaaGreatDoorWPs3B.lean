/- parse: Name and Kind, and the definition's; a fault that is handed up. · parse's reader: its block, the command's block, the next word. · parse's reader: a name, a number, a measure, a dimension. -/
import Derived.Test.YtpehinmckppjoaaGreatDoorWPsMath
import Derived.Test.YtpehinmckppjoaaGreatDoorWLex8B
import Derived.WalkLawsBesides
import Derived.BigRegion
import Derived.Deep.RegionHeld3
namespace Go.Proofs.YtpehinmckppjoaaGreatDoor
open Go.RowKit Go.Maps
set_option linter.unusedSimpArgs false
set_option linter.unusedVariables false

/-- What is handed up: the word's number, and why. -/
def flt (a y : Int) : List PanicEntry := [{ v := .iface 68 (.agg #[.int .i64 a, .int .i64 y]), recovered := false }]
set_option maxHeartbeats 1000000 in
theorem rd_fail (p : Nat) (i : Nat) (why : Int) (w : World) (h : w.cell? ⟨p, 2, none⟩ = some (.int .i64 i)) :
    Calls Tryz.prog 51 #[.pointer (some ⟨p, 0, none⟩), .int .i64 why] w fun e w' => e = .panicked (flt i why) ∧ w' = w := by
  go_enter Tryz.func51, Tryz.ntmps51
  go_wp2_with fail
  exact ⟨rfl, rfl, rfl⟩
set_option maxHeartbeats 1000000 in
theorem rd_pass_yes (p : Nat) (i : Nat) (why : Int) (w : World) (h : w.cell? ⟨p, 2, none⟩ = some (.int .i64 i)) (hf : w.frozen? ⟨p, 2, none⟩ = false) (hi : i ≤ 100000) :
    Calls Tryz.prog 49 #[.pointer (some ⟨p, 0, none⟩), .bool true, .int .i64 why] w fun e w' => e = .returned (.tuple #[]) ∧ w' = w.setCell ⟨p, 2, none⟩ (.int .i64 ((i + 1 : Nat) : Int)) := by
  have hw : IntKind.i64.wrap ((i : Int) + 1) = (i : Int) + 1 := by rw [IntKind.wrap_i64]; omega
  go_enter Tryz.func49, Tryz.ntmps49
  go_wp2_with fail
  go_end0
  exact ⟨rfl, by rw [Int.natCast_add]; rfl⟩
set_option maxHeartbeats 1000000 in
theorem rd_pass_no (p : Nat) (i : Nat) (why : Int) (w : World) (h : w.cell? ⟨p, 2, none⟩ = some (.int .i64 i)) :
    Calls Tryz.prog 49 #[.pointer (some ⟨p, 0, none⟩), .bool false, .int .i64 why] w fun e w' => e = .panicked (flt i why) ∧ w' = w := by
  have H := hidMk (rd_fail p i why w h)
  go_enter Tryz.func49, Tryz.ntmps49
  go_wp2_with fail
  refine H.out.mono ?_
  rintro e w1 ⟨rfl, rfl⟩
  go_wp2_with fail
  exact ⟨rfl, rfl, rfl⟩
end Go.Proofs.YtpehinmckppjoaaGreatDoor
namespace Go.Proofs.YtpehinmckppjoaaGreatDoor
open Go.RowKit Go.Maps
set_option linter.unusedSimpArgs false
set_option linter.unusedVariables false

def tkA (L : List ByteArray) (i : Nat) : ByteArray := L.getD i ByteArray.empty
/-- A line's words in memory, as the texts L tell. -/
structure WL (w : World) (ra : Option Addr) (L : List ByteArray) : Prop where
  at_ : ∀ i, i < L.length → ∃ b o x, ra = some ⟨b, o, none⟩ ∧ w.cell? ⟨b, o + i * 5, none⟩ = some (.int .i64 (rdK (tkA L i))) ∧ w.cell? ⟨b, o + i * 5 + 1, none⟩ = some (.string (tkA L i)) ∧ w.cell? ⟨b, o + i * 5 + 2, none⟩ = some (.int .i64 (Wd.p x)) ∧ w.cell? ⟨b, o + i * 5 + 3, none⟩ = some (.int .i64 (rdN (tkA L i))) ∧ w.cell? ⟨b, o + i * 5 + 4, none⟩ = some (.slice x.a x.m x.c) ∧ Ss w x.a x.m (rdP (tkA L i)) ∧ x.m ≤ x.c
  big : L.length ≤ 20000
  sz : ∀ i, (tkA L i).size ≤ 10000
theorem WL.kept {w w' : World} {ra : Option Addr} {L : List ByteArray} (h : WL w ra L) (k : Kept w w') : WL w' ra L :=
  ⟨fun i hi => by
    obtain ⟨b, o, x, e, h0, h1, h2, h3, h4, h5, h6⟩ := h.at_ i hi
    exact ⟨b, o, x, e, k.cellp h0, k.cellp h1, k.cellp h2, k.cellp h3, k.cellp h4, h5.kept k, h6⟩, h.big, h.sz⟩
/-- The blocks that a reader writes into. -/
def Two (pr px : Nat) (b : Nat) : Prop := b = pr ∨ b = px
theorem chg_kept {S : Nat → Prop} {a b c : World} (h : Chg S a b) (k : Kept b c) : Chg S a c := h.thn (Chg.of_kept (S := fun _ => False) k) (fun _ _ e => e.elim)
/-- What a reader stands on. -/
structure RX (w0 : World) (pr px pd : Nat) (ra : Option Addr) (rc : Nat) (ms : List ByteArray) (ds : List Dm) (L : List ByteArray) : Prop where
  dp : ∀ W, Chg (Two pr px) w0 W → ∃ y tp ma mc lv sc dv, DP y W pd ds tp ma mc ms lv sc dv
  ok : CatOk ds ms
  wl : ∀ W, Chg (Two pr px) w0 W → WL W ra L
  hc : L.length ≤ rc
  big : L.length ≤ 20000
  sz : ∀ i, (tkA L i).size ≤ 10000
/-- A reader in memory, and the command that it fills. -/
structure RS (w0 W : World) (pr px pd : Nat) (ra : Option Addr) (rn rc : Nat) (s : Nat × Cm) : Prop where
  kept : Chg (Two pr px) w0 W
  ne : pr ≠ px
  d : W.cell? ⟨pr, 0, none⟩ = some (.pointer (some ⟨pd, 0, none⟩))
  ws : W.cell? ⟨pr, 1, none⟩ = some (.slice ra rn rc)
  at_ : W.cell? ⟨pr, 2, none⟩ = some (.int .i64 s.1)
  fr : W.frozen? ⟨pr, 2, none⟩ = false
  x : ∀ j u, (cmL s.2)[j]? = some u → W.cell? ⟨px, j, none⟩ = some u
  fx : ∀ j, j < 12 → W.frozen? ⟨px, j, none⟩ = false
  le : s.1 ≤ rn
section
variable {w0 W W' : World} {pr px pd : Nat} {ra : Option Addr} {rn rc : Nat} {s : Nat × Cm}
theorem RS.ltr (h : RS w0 W pr px pd ra rn rc s) : pr < W.heap.size := cell_lt h.d
theorem RS.ltx (h : RS w0 W pr px pd ra rn rc s) : px < W.heap.size := cell_lt (h.x 0 _ rfl)
theorem RS.keep (h : RS w0 W pr px pd ra rn rc s) (k : Kept W W') : RS w0 W' pr px pd ra rn rc s :=
  ⟨chg_kept h.kept k, h.ne, k.cellp h.d, k.cellp h.ws, k.cellp h.at_, (k.frozen (p := ⟨pr, 2, none⟩) h.ltr).trans h.fr, fun j u hu => k.cellp (h.x j u hu), fun j hj => (k.frozen (p := ⟨px, j, none⟩) h.ltx).trans (h.fx j hj), h.le⟩
/-- The place is moved. -/
theorem RS.setAt (h : RS w0 W pr px pd ra rn rc s) (i : Nat) (hi : i ≤ rn) : RS w0 (W.setCell ⟨pr, 2, none⟩ (.int .i64 (i : Int))) pr px pd ra rn rc (i, s.2) := by
  refine ⟨h.kept.setCell (p := ⟨pr, 2, none⟩) (.inl (.inl rfl)) _, h.ne, so h.d (by simp), so h.ws (by simp), World.cell?_setCell_same _ _ _ h.at_, ?_, fun j u hu => so (h.x j u hu) (by intro e; simp only [Addr.mk.injEq] at e; exact h.ne e.1), fun j hj => ?_, hi⟩
  · rw [World.frozen?_setCell]; exact h.fr
  · rw [World.frozen?_setCell]; exact h.fx j hj
/-- A field is filled. -/
theorem RS.setX (h : RS w0 W pr px pd ra rn rc s) {x : Cm} {o : Nat} {v : Value} (ho : o < 12) (hx : cmL x = (cmL s.2).set o v) : RS w0 (W.setCell ⟨px, o, none⟩ v) pr px pd ra rn rc (s.1, x) := by
  have hne := h.ne
  refine ⟨h.kept.setCell (p := ⟨px, o, none⟩) (.inl (.inr rfl)) _, h.ne, so h.d (by intro e; simp only [Addr.mk.injEq] at e; exact hne e.1.symm), so h.ws (by intro e; simp only [Addr.mk.injEq] at e; exact hne e.1.symm), so h.at_ (by intro e; simp only [Addr.mk.injEq] at e; exact hne e.1.symm), ?_, fun j u hu => ?_, fun j hj => ?_, h.le⟩
  · rw [World.frozen?_setCell]; exact h.fr
  · have hl : (cmL s.2).length = 12 := rfl
    simp only at hu
    rw [hx, List.getElem?_set] at hu
    by_cases e : o = j
    · subst e
      rw [if_pos rfl, if_pos (by omega)] at hu
      cases hu
      obtain ⟨u0, hu0⟩ : ∃ u0, (cmL s.2)[o]? = some u0 := ⟨_, List.getElem?_eq_getElem (by omega)⟩
      exact World.cell?_setCell_same _ _ _ (h.x o u0 hu0)
    · rw [if_neg e] at hu
      exact so (h.x j u hu) (by intro e'; simp only [Addr.mk.injEq] at e'; exact e e'.2.1)
  · rw [World.frozen?_setCell]; exact h.fx j hj
end
section
variable {w0 W : World} {pr px pd : Nat} {ra : Option Addr} {rc : Nat} {ms : List ByteArray} {ds : List Dm} {L : List ByteArray} {s : Nat × Cm}
theorem nx_none {kind : Int} {i : Nat} (h : nx L kind i = none) (hi : i ≤ L.length) : i = L.length ∨ (i < L.length ∧ rdK (tkA L i) ≠ kind) := by
  unfold nx at h
  by_cases e : i < L.length
  · right
    refine ⟨e, fun e2 => ?_⟩
    rw [if_pos ⟨e, e2⟩] at h
    cases h
  · left; omega
theorem nx_some {kind : Int} {i : Nat} {t : ByteArray} (h : nx L kind i = some t) : i < L.length ∧ tkA L i = t ∧ rdK t = kind := by
  unfold nx at h
  split at h
  · rename_i hc
    cases h
    exact ⟨hc.1, rfl, hc.2⟩
  · cases h
set_option maxHeartbeats 2000000 in
theorem rd_word_no (hX : RX w0 pr px pd ra rc ms ds L) (hS : RS w0 W pr px pd ra L.length rc s) {kind : Int} (hn : nx L kind s.1 = none) :
    Calls Tryz.prog 48 #[.pointer (some ⟨pr, 0, none⟩), .int .i64 kind] W fun e w' => e = .panicked (flt s.1 6) ∧ Kept W w' := by
  obtain ⟨i, x⟩ := s
  simp only at hn ⊢
  have q1 := hS.ws
  have q2 := hS.at_
  simp only at q2
  have z1 := fun o => ((Kept.refl W).alloc o).cellp q1
  have z2 := fun o => ((Kept.refl W).alloc o).cellp q2
  have HF := hidMk (fun (y : World) (h : Kept W y) => rd_fail pr i 6 y (h.cellp q2))
  rcases nx_none hn hS.le with e | ⟨hi, hk⟩
  · subst e
    clear hX hS hn
    go_enter Tryz.func48, Tryz.ntmps48
    go_wp2_with fail
    go_quiet (fail)
    go_wp2_with fail
    refine (HF.out _ (((Kept.refl _).alloc _).drewN _)).mono ?_
    rintro e w1 ⟨rfl, rfl⟩
    go_wp2_with fail
    exact ⟨rfl, rfl, ((Kept.refl _).alloc _).drewN _⟩
  · obtain ⟨b, o, wx, rfl, h0, h1, h2, h3, h4, h5, h6⟩ := (hX.wl _ hS.kept).at_ i hi
    have z0 := fun o => ((Kept.refl W).alloc o).cellp h0
    have hil : (i : Int) < (L.length : Int) := by omega
    have hne : ((i : Int) == (L.length : Int)) = false := by simp; omega
    have hnd : decide ((i : Int) = (L.length : Int)) = false := by simp; omega
    have hkn : (rdK (tkA L i) != kind) = true := by simpa using hk
    generalize rdK (tkA L i) = kk at *
    clear hX hS hn h0 h1 h2 h3 h4 h5 h6
    go_enter Tryz.func48, Tryz.ntmps48
    go_wp2_with fail
    go_quiet (fail)
    go_wp2_with fail
    refine (HF.out _ (((Kept.refl _).alloc _).drewN _)).mono ?_
    rintro e w1 ⟨rfl, rfl⟩
    go_wp2_with fail
    exact ⟨rfl, rfl, ((Kept.refl _).alloc _).drewN _⟩
set_option maxHeartbeats 4000000 in
set_option maxRecDepth 100000 in
theorem rd_word_yes (hX : RX w0 pr px pd ra rc ms ds L) (hS : RS w0 W pr px pd ra L.length rc s) {kind : Int} {t : ByteArray} (hn : nx L kind s.1 = some t) :
    Calls Tryz.prog 48 #[.pointer (some ⟨pr, 0, none⟩), .int .i64 kind] W fun e w' => ∃ wx : Wd, e = .returned (.agg #[.int .i64 kind, .string t, .int .i64 wx.p, .int .i64 (rdN t), .slice wx.a wx.m wx.c]) ∧ Ss w' wx.a wx.m (rdP t) ∧ wx.m ≤ wx.c ∧ Kept W w' := by
  obtain ⟨i, x⟩ := s
  simp only at hn ⊢
  obtain ⟨hi, ht, hk⟩ := nx_some hn
  have q1 := hS.ws
  have q2 := hS.at_
  simp only at q2
  have q1l := cell_lt q1
  obtain ⟨b, o, wx, rfl, h0, h1, h2, h3, h4, h5, h6⟩ := (hX.wl _ hS.kept).at_ i hi
  rw [ht] at h0 h1 h3 h5
  rw [hk] at h0
  have bl := cell_lt h0
  have HSS := hidMk h5
  have HMC := hidMk h6
  have hil : (i : Int) < (L.length : Int) := by omega
  have hne : ((i : Int) == (L.length : Int)) = false := by simp; omega
  have hnd : decide ((i : Int) = (L.length : Int)) = false := by simp; omega
  have hkn : (kind != kind) = false := by simp
  obtain ⟨W1, hW1⟩ : ∃ W1, W1 = W.alloc (.cells #[.int .i64 0, .string ⟨#[]⟩, .int .i64 0, .int .i64 0, .slice none 0 0] 112) := ⟨_, rfl⟩
  have K1 : Kept W W1 := by rw [hW1]; exact (Kept.refl W).alloc _
  have z1 := K1.cellp q1
  have z2 := K1.cellp q2
  have y0 := K1.cellp h0
  have y1 := K1.cellp h1
  have y2 := K1.cellp h2
  have y3 := K1.cellp h3
  have y4 := K1.cellp h4
  have HNW := hidMk (show NW W1 W.heap.size by rw [hW1]; exact nw_new W _ rfl)
  have HK1 := hidMk K1
  clear hX hS hn h0 h1 h2 h3 h4 h5 h6 q1 q2 hk ht K1
  generalize rdN t = nn at *
  generalize rdP t = pp at *
  have n0 := HNW.out.c0
  have n1 := HNW.out.c1
  have n2 := HNW.out.c2
  have n3 := HNW.out.c3
  have n4 := HNW.out.c4
  have f0 := HNW.out.fz 0 (by omega)
  have f1 := HNW.out.fz 1 (by omega)
  have f2 := HNW.out.fz 2 (by omega)
  have f3 := HNW.out.fz 3 (by omega)
  have f4 := HNW.out.fz 4 (by omega)
  go_enter Tryz.func48, Tryz.ntmps48
  go_wp2_with fail
  rw [← hW1]
  clear hW1
  go_quiet (fail)
  go_wp2_with fail
  go_region
  go_wp2_with fail
  exact word_ret wload_l rfl W.heap.size rfl rfl (NW.set (HNW.out.kept ((Kept.refl W1).drewN _)) _ _ _ _ _) ⟨wx, rfl, HSS.out.kept (set5_kept (HK1.out.drewN _) (Nat.le_refl _) _ _ _ _ _), HMC.out, set5_kept (HK1.out.drewN _) (Nat.le_refl _) _ _ _ _ _⟩
end
end Go.Proofs.YtpehinmckppjoaaGreatDoor
namespace Go.Proofs.YtpehinmckppjoaaGreatDoor
open Go.RowKit Go.Maps
set_option linter.unusedSimpArgs false
set_option linter.unusedVariables false

/-- What a method of the reader does, as r tells. -/
def RdPost (w0 W : World) (pr px pd : Nat) (ra : Option Addr) (rn rc : Nat) (r : PR) (e : Ending) (w' : World) : Prop := match r with
  | .error p => e = .panicked (flt p.1 p.2) ∧ Chg (Two pr px) W w'
  | .ok s' => e = .returned (.tuple #[]) ∧ RS w0 w' pr px pd ra rn rc s' ∧ Chg (Two pr px) W w'
theorem cmL_put {b : Int} (hb : b = 117 ∨ b = 115 ∨ b = 111) (t : ByteArray) (x : Cm) : cmL (putT b t x) = (cmL x).set (offT b) (.string t) ∧ (cmL x)[offT b]? = some (.string (getT b x)) ∧ offT b < 12 := by
  rcases hb with rfl | rfl | rfl <;> exact ⟨rfl, rfl, by decide⟩
theorem wd_field (v0 v1 v2 v3 v4 : Value) (w : World) : (Instr.field 112 (.agg #[v0, v1, v2, v3, v4]) 1).run Tryz.prog w = .ok v1 w ∧ (Instr.field 112 (.agg #[v0, v1, v2, v3, v4]) 3).run Tryz.prog w = .ok v3 w ∧ (Instr.field 112 (.agg #[v0, v1, v2, v3, v4]) 4).run Tryz.prog w = .ok v4 w := ⟨by kernel_rfl, by kernel_rfl, by kernel_rfl⟩
section
variable {w0 W : World} {pr px pd : Nat} {ra : Option Addr} {rc : Nat} {ms : List ByteArray} {ds : List Dm} {L : List ByteArray} {s : Nat × Cm}
set_option maxHeartbeats 2000000 in
set_option maxRecDepth 100000 in
theorem rd_name (hX : RX w0 pr px pd ra rc ms ds L) (hS : RS w0 W pr px pd ra L.length rc s) {b : Int} (hb : b = 117 ∨ b = 115 ∨ b = 111) :
    Calls Tryz.prog 175 #[.pointer (some ⟨pr, 0, none⟩), .pointer (some ⟨px, offT b, none⟩)] W (RdPost w0 W pr px pd ra L.length rc (nameP L b s)) := by
  obtain ⟨hp1, hp2, hp3⟩ := cmL_put hb ByteArray.empty s.2
  unfold nameP
  cases hn : nx L 1 s.1 with
  | none =>
    have HW := hidMk (rd_word_no hX hS hn)
    clear hX hS hn
    show Calls _ _ _ _ (fun e w' => e = .panicked (flt s.1 6) ∧ Chg (Two pr px) W w')
    go_enter Tryz.func175, Tryz.ntmps175
    go_wp2_with fail
    refine HW.out.mono ?_
    rintro e w1 ⟨rfl, k1⟩
    go_wp2_with fail
    exact ⟨rfl, rfl, Chg.of_kept k1⟩
  | some t =>
    have HW := hidMk (rd_word_yes hX hS hn)
    have hi := (nx_some hn).1
    have hbig := hX.big
    have HS := hidMk hS
    have HP := hidMk (cmL_put hb t s.2).1
    show Calls _ _ _ _ (fun e w' => e = .returned (.tuple #[]) ∧ RS w0 w' pr px pd ra L.length rc (s.1 + 1, putT b t s.2) ∧ Chg (Two pr px) W w')
    have hwr : IntKind.i64.wrap ((s.1 : Int) + 1) = (s.1 : Int) + 1 := by rw [IntKind.wrap_i64]; omega
    clear hX hS hn hp1
    generalize offT b = o at *
    obtain ⟨i, x⟩ := s
    simp only at HS HP hp2 hwr hi HW ⊢
    generalize getT b x = old at *
    have HFD := fun v0 v1 v2 v3 v4 w => (wd_field v0 v1 v2 v3 v4 w).1
    go_enter Tryz.func175, Tryz.ntmps175
    go_wp2_with fail
    refine HW.out.mono ?_
    rintro e w1 ⟨wx, rfl, _, _, k1⟩
    have S1 := hidMk (HS.out.keep k1)
    have K1 := hidMk k1
    have x0 := S1.out.x o _ hp2
    have xf := S1.out.fx o hp3
    have r2 := S1.out.at_
    have rf := S1.out.fr
    have hne := S1.out.ne
    have y2 := fun v => so (p := ⟨px, o, none⟩) (u := v) r2 (by intro e; simp only [Addr.mk.injEq] at e; exact hne e.1.symm)
    simp only at r2 y2
    clear k1 hne
    go_wp2_with fail
    go_end0
    have h2 := S1.out.setX hp3 HP.out
    have h3 := h2.setAt (i + 1) (by show i + 1 ≤ L.length; omega)
    refine ⟨rfl, ?_, ?_⟩
    · have e1 : ((i : Int) + 1) = ((i + 1 : Nat) : Int) := by omega
      rw [e1]; exact h3
    · exact ((Chg.of_kept K1.out).setCell (p := ⟨px, o, none⟩) (.inl (.inr rfl)) _).setCell (p := ⟨pr, 2, none⟩) (.inl (.inl rfl)) _
set_option maxHeartbeats 2000000 in
set_option maxRecDepth 100000 in
theorem rd_num (hX : RX w0 pr px pd ra rc ms ds L) (hS : RS w0 W pr px pd ra L.length rc s) :
    Calls Tryz.prog 176 #[.pointer (some ⟨pr, 0, none⟩), .pointer (some ⟨px, 9, none⟩)] W (RdPost w0 W pr px pd ra L.length rc (numP L s)) := by
  unfold numP
  cases hn : nx L 2 s.1 with
  | none =>
    have HW := hidMk (rd_word_no hX hS hn)
    clear hX hS hn
    show Calls _ _ _ _ (fun e w' => e = .panicked (flt s.1 6) ∧ Chg (Two pr px) W w')
    go_enter Tryz.func176, Tryz.ntmps176
    go_wp2_with fail
    refine HW.out.mono ?_
    rintro e w1 ⟨rfl, k1⟩
    go_wp2_with fail
    exact ⟨rfl, rfl, Chg.of_kept k1⟩
  | some t =>
    have HW := hidMk (rd_word_yes hX hS hn)
    have hi := (nx_some hn).1
    have hbig := hX.big
    have HS := hidMk hS
    show Calls _ _ _ _ (fun e w' => e = .returned (.tuple #[]) ∧ RS w0 w' pr px pd ra L.length rc (s.1 + 1, { s.2 with n := rdN t }) ∧ Chg (Two pr px) W w')
    have HP := hidMk (show cmL { s.2 with n := rdN t } = (cmL s.2).set 9 (.int .i64 (rdN t)) from rfl)
    have hwr : IntKind.i64.wrap ((s.1 : Int) + 1) = (s.1 : Int) + 1 := by rw [IntKind.wrap_i64]; omega
    clear hX hS hn
    obtain ⟨i, x⟩ := s
    simp only at HS HP hwr hi HW ⊢
    generalize hnn : rdN t = nn at *
    have HFD := fun v0 v1 v2 v3 v4 w => (wd_field v0 v1 v2 v3 v4 w).2.1
    go_enter Tryz.func176, Tryz.ntmps176
    go_wp2_with fail
    refine HW.out.mono ?_
    rintro e w1 ⟨wx, rfl, _, _, k1⟩
    have S1 := hidMk (HS.out.keep k1)
    have K1 := hidMk k1
    have x0 : w1.cell? ⟨px, 9, none⟩ = some (.int .i64 x.n) := S1.out.x 9 _ rfl
    have xf := S1.out.fx 9 (by omega)
    have r2 := S1.out.at_
    have rf := S1.out.fr
    have hne := S1.out.ne
    have y2 := fun v => so (p := ⟨px, 9, none⟩) (u := v) r2 (by intro e; simp only [Addr.mk.injEq] at e; exact hne e.1.symm)
    simp only at r2 y2
    clear k1 hne
    go_wp2_with fail
    go_end0
    have h2 := S1.out.setX (by omega) HP.out
    have h3 := h2.setAt (i + 1) (by show i + 1 ≤ L.length; omega)
    refine ⟨rfl, ?_, ?_⟩
    · have e1 : ((i : Int) + 1) = ((i + 1 : Nat) : Int) := by omega
      rw [e1]; exact h3
    · exact ((Chg.of_kept K1.out).setCell (p := ⟨px, 9, none⟩) (.inl (.inr rfl)) _).setCell (p := ⟨pr, 2, none⟩) (.inl (.inl rfl)) _
end
end Go.Proofs.YtpehinmckppjoaaGreatDoor
