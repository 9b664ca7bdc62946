/- parse's writer: its block, its words; a word more, a word that must be. -/
import Derived.Test.YtpehinmckppjoaaGreatDoorWPsCB
import Derived.Test.YtpehinmckppjoaaGreatDoorWPsPB
import Derived.Test.YtpehinmckppjoaaGreatDoorWDims14B
namespace Go.Proofs.YtpehinmckppjoaaGreatDoor
open Go.RowKit Go.Maps
set_option linter.unusedSimpArgs false
set_option linter.unusedVariables false

/-- What a writer stands on. -/
structure WX (w0 : World) (pd : Nat) (ms : List ByteArray) (ds : List Dm) : Prop where
  dp : ∀ W, Kept w0 W → ∃ y tp ma mc lv sc dv, DP y W pd ds tp ma mc ms lv sc dv
  ok : CatOk ds ms
/-- A writer in memory, and the command that it puts. -/
structure WS (w0 W : World) (pr px pd : Nat) (x : Cm) (v : Value) (l : List ByteArray) : Prop where
  kept : Kept w0 W
  lo : w0.heap.size ≤ pr ∧ w0.heap.size ≤ px
  ne : pr ≠ px
  d : W.cell? ⟨pr, 0, none⟩ = some (.pointer (some ⟨pd, 0, none⟩))
  ws : W.cell? ⟨pr, 1, none⟩ = some v
  own : OwnS W w0.heap.size v l
  nb : ∀ g, v.ownBlock = some g → g ≠ pr ∧ g ≠ px
  fr : W.frozen? ⟨pr, 1, none⟩ = false
  x : ∀ j u, (cmL x)[j]? = some u → W.cell? ⟨px, j, none⟩ = some u
  few : l.length ≤ 20
/-- What a writer changes: its block, its words'. -/
structure WC (pr : Nat) (v v' : Value) (W W' : World) : Prop where
  chg : Chg (fun k => k = pr ∨ v.ownBlock = some k) W W'
  blk : ∀ g, v'.ownBlock = some g → v.ownBlock = some g ∨ W.heap.size ≤ g
section
variable {w0 W W' W2 : World} {pr px pd : Nat} {x : Cm} {v v' v2 : Value} {l : List ByteArray}
theorem WC.of_kept (k : Kept W W') : WC pr v v W W' := ⟨Chg.of_kept k, fun g e => .inl e⟩
theorem WC.trans (h : WC pr v v' W W') (k : WC pr v' v2 W' W2) : WC pr v v2 W W2 := by
  refine ⟨h.chg.thn k.chg fun j hj e => ?_, fun g e => ?_⟩
  · rcases e with e | e
    · exact .inl e
    · rcases h.blk j e with e | e
      · exact .inr e
      · omega
  · have := h.chg.size
    rcases k.blk g e with e | e
    · exact h.blk g e
    · exact .inr (by omega)
theorem WC.keep (h : WC pr v v' W W') (k : Kept W' W2) : WC pr v v' W W2 := h.trans (WC.of_kept k)
theorem WC.ahead (k : Kept W W') (h : WC pr v v' W' W2) : WC pr v v' W W2 := (WC.of_kept k).trans h
/-- A block that is none of the writer's stays none, and as it was. -/
theorem WC.cellp (h : WC pr v v' W W') {b o : Nat} {u : Value} (hu : W.cell? ⟨b, o, none⟩ = some u) (hp : b ≠ pr) (hv : v.ownBlock ≠ some b) : W'.cell? ⟨b, o, none⟩ = some u ∧ v'.ownBlock ≠ some b := by
  refine ⟨h.chg.cellp hu (fun e => e.elim hp hv), fun e => ?_⟩
  have h1 : b < W.heap.size := cell_lt hu
  rcases h.blk _ e with e | e
  · exact hv e
  · omega
theorem WS.lt (h : WS w0 W pr px pd x v l) : pr < W.heap.size ∧ px < W.heap.size ∧ ∀ g, v.ownBlock = some g → w0.heap.size ≤ g ∧ g < W.heap.size := ⟨cell_lt h.d, cell_lt (h.x 0 _ rfl), h.own.lt⟩
theorem WS.keep (h : WS w0 W pr px pd x v l) (k : Kept W W') : WS w0 W' pr px pd x v l :=
  ⟨h.kept.trans k, h.lo, h.ne, k.cellp h.d, k.cellp h.ws, h.own.kept k, h.nb, (k.frozen (p := ⟨pr, 1, none⟩) h.lt.1).trans h.fr, fun j u hu => k.cellp (h.x j u hu), h.few⟩
end
/-- What a method of the writer does, as r tells: more words, or it is handed up that there is no such line. -/
def WrPost (w0 W : World) (pr px pd : Nat) (x : Cm) (v : Value) (l : List ByteArray) (r : Option (List ByteArray)) (e : Ending) (w' : World) : Prop := match r with
  | none => e = .panicked (flt 0 2) ∧ ∃ v', WC pr v v' W w'
  | some m => e = .returned (.tuple #[]) ∧ ∃ v', WS w0 w' pr px pd x v' (l ++ m) ∧ WC pr v v' W w'
theorem wr_from {f : FuncId} {args : Array Value} {w0 W y : World} {pr px pd : Nat} {x : Cm} {v : Value} {l : List ByteArray} {r : Option (List ByteArray)} (hy : Kept W y) (h : Calls Tryz.prog f args y (WrPost w0 y pr px pd x v l r)) : Calls Tryz.prog f args y (WrPost w0 W pr px pd x v l r) := h.mono fun e w' h => by
  cases r with
  | none =>
    obtain ⟨h1, v', h2⟩ := h
    exact ⟨h1, v', WC.ahead hy h2⟩
  | some m =>
    obtain ⟨h1, v', h2, h3⟩ := h
    exact ⟨h1, v', h2, WC.ahead hy h3⟩
set_option maxHeartbeats 1000000 in
theorem wr_must_yes (p : Addr) (w : World) :
    Calls Tryz.prog 55 #[.pointer (some p), .bool true] w fun e w' => e = .returned (.tuple #[]) ∧ w' = w := by
  go_enter Tryz.func55, Tryz.ntmps55
  go_wp2_with fail
  go_end0
  exact ⟨rfl, rfl⟩
set_option maxHeartbeats 1000000 in
theorem wr_must_no (p : Addr) (w : World) :
    Calls Tryz.prog 55 #[.pointer (some p), .bool false] w fun e w' => e = .panicked (flt 0 2) ∧ w' = w := by
  go_enter Tryz.func55, Tryz.ntmps55
  go_wp2_with fail
  exact ⟨rfl, rfl, rfl⟩
/-- A word more. -/
theorem ws_push {w0 W W1 : World} {pr px pd : Nat} {x : Cm} {v : Value} {l : List ByteArray} (hS : WS w0 W pr px pd x v l) (hl : l.length ≤ 19) (t : ByteArray) {o : Obj} {g cap : Nat}
    (hO : OwnS W1 w0.heap.size (.slice (some ⟨g, 0, none⟩) (l.length + 1) cap) (l ++ [t])) (hc : Chg (fun k => v.ownBlock = some k) (W.alloc o) W1) (hg : v.ownBlock = some g ∨ g = W.heap.size + 1) :
    W1.cell? ⟨pr, 1, none⟩ = some v ∧ W1.frozen? ⟨pr, 1, none⟩ = false ∧ ∃ v', WS w0 (W1.setCell ⟨pr, 1, none⟩ (.slice (some ⟨g, 0, none⟩) (l.length + 1) cap)) pr px pd x v' (l ++ [t]) ∧ WC pr v v' W (W1.setCell ⟨pr, 1, none⟩ (.slice (some ⟨g, 0, none⟩) (l.length + 1) cap)) := by
  obtain ⟨lr, lx, lv⟩ := hS.lt
  have hlo := hS.lo
  have ka : Kept W (W.alloc o) := (Kept.refl W).alloc o
  have hsz : (W.alloc o).heap.size = W.heap.size + 1 := by simp
  have nr : ¬ v.ownBlock = some pr := fun e => (hS.nb pr e).1 rfl
  have nx' : ¬ v.ownBlock = some px := fun e => (hS.nb px e).2 rfl
  have hcW : Chg (fun k => v.ownBlock = some k) W W1 := (Chg.of_kept ka).trans hc
  have k1 : Kept w0 W1 := Chg.kept hS.kept hcW fun j e => (lv j e).1
  have q1 := hcW.cellp hS.ws nr
  have c2 : Chg (fun k => k = pr ∨ v.ownBlock = some k) W (W1.setCell ⟨pr, 1, none⟩ (.slice (some ⟨g, 0, none⟩) (l.length + 1) cap)) := (hcW.mono fun j _ e => .inr e).setCell (p := ⟨pr, 1, none⟩) (.inl (.inl rfl)) _
  have gr : g ≠ pr ∧ g ≠ px := by
    rcases hg with hg | hg
    · exact hS.nb g hg
    · omega
  refine ⟨q1, (hcW.frozen (p := ⟨pr, 1, none⟩) lr nr).trans hS.fr, _, ⟨Chg.kept hS.kept c2 fun j e => ?_, hlo, hS.ne, so (hcW.cellp hS.d nr) (by simp), World.cell?_setCell_same _ _ _ q1, ?_, fun g' e => ?_, ?_, fun j u hu => ?_, ?_⟩, c2, fun g' e => ?_⟩
  · rcases e with e | e
    · omega
    · exact (lv j e).1
  · exact ownsRow_chg hO ((Chg.refl (fun k => k = pr) W1).setCell (p := ⟨pr, 1, none⟩) (.inl rfl) _) fun k e => by
      simp only [Value.ownBlock, Option.some.injEq] at e
      subst e
      exact gr.1
  · simp only [Value.ownBlock, Option.some.injEq] at e
    subst e
    exact gr
  · rw [World.frozen?_setCell]
    exact (hcW.frozen (p := ⟨pr, 1, none⟩) lr nr).trans hS.fr
  · have hne := hS.ne
    exact so (hcW.cellp (hS.x j u hu) nx') (by intro e; simp only [Addr.mk.injEq] at e; exact hne e.1)
  · rw [List.length_append, List.length_singleton]; omega
  · simp only [Value.ownBlock, Option.some.injEq] at e
    subst e
    rcases hg with hg | hg
    · exact .inl hg
    · exact .inr (by omega)
set_option maxHeartbeats 2000000 in
set_option maxRecDepth 100000 in
theorem wr_put {w0 W : World} {pr px pd : Nat} {x : Cm} {v : Value} {l : List ByteArray} (hS : WS w0 W pr px pd x v l) (hl : l.length ≤ 19) (t : ByteArray) :
    Calls Tryz.prog 56 #[.pointer (some ⟨pr, 0, none⟩), .string t] W (WrPost w0 W pr px pd x v l (some [t])) := by
  show Calls _ _ _ _ (fun e w' => e = .returned (.tuple #[]) ∧ ∃ v', WS w0 w' pr px pd x v' (l ++ [t]) ∧ WC pr v v' W w')
  have HS := hidMk hS
  have q1 := hS.ws
  have q1l := cell_lt q1
  have hB := hS.kept.size
  have HO := hidMk (show ∀ y, Kept W y → OwnS y w0.heap.size v l from fun y hy => hS.own.kept hy)
  have HPU := hidMk (fun W1 o g cap h1 h2 h3 => ws_push hS hl t (W1 := W1) (o := o) (g := g) (cap := cap) h1 h2 h3)
  have hn := fun o => ((Kept.refl W).alloc o).cellp q1
  clear hS
  go_enter Tryz.func56, Tryz.ntmps56
  go_wp2_with (at_builtin; refine wpList_pushS _ rfl _ _ rfl w0.heap.size v l rfl (HO.out _ ((Kept.refl W).alloc _)) ?c1 W.heap.size t rfl ?c2 ?c3 _ rfl ?_)
  case c1 => first | (simp; omega) | (trace_state; omega)
  case c3 => first | omega | (trace_state; simp)
  intro g cap W1 o1 k1 h1 _
  obtain ⟨q2, f2, hq⟩ := HPU.out W1 _ g cap o1 k1 h1
  have HQ := hidMk hq
  clear o1 k1 h1 hq HPU HO
  go_wp2_with fail
  go_end0
  exact ⟨rfl, HQ.out⟩
/-- What is asked of a command's fields. -/
structure XOk (x : Cm) : Prop where
  u : x.u.size ≤ 1000000
  s : x.s.size ≤ 1000000
  o : x.o.size ≤ 1000000
  n : isI x.n
set_option maxHeartbeats 2000000 in
set_option maxRecDepth 100000 in
theorem wr_name {w0 W : World} {pr px pd : Nat} {x : Cm} {v : Value} {l : List ByteArray} (hS : WS w0 W pr px pd x v l) (hx : XOk x) (hl : l.length ≤ 19) {b : Int} (hb : b = 117 ∨ b = 115 ∨ b = 111) :
    Calls Tryz.prog 183 #[.pointer (some ⟨pr, 0, none⟩), .pointer (some ⟨px, offT b, none⟩)] W (WrPost w0 W pr px pd x v l (if nameB (getT b x) = true then some [getT b x] else none)) := by
  obtain ⟨_, hp2, hp3⟩ := cmL_put hb ByteArray.empty x
  have hz : (getT b x).size ≤ maxLen := by
    unfold getT maxLen
    have h1 := hx.u
    have h2 := hx.s
    have h3 := hx.o
    split
    · omega
    · split <;> omega
  have q := hS.x _ _ hp2
  have HN := hidMk (fun y => text_Name (getT b x) hz y)
  have HP := hidMk (wr_put hS hl (getT b x))
  have HMY := hidMk (wr_must_yes ⟨pr, 0, none⟩)
  have HMN := hidMk (wr_must_no ⟨pr, 0, none⟩)
  clear hS hx hz hp2
  generalize getT b x = t at *
  generalize offT b = o at *
  by_cases hn : nameB t = true
  · rw [if_pos hn]
    go_enter Tryz.func183, Tryz.ntmps183
    go_wp2_with fail
    refine (HN.out _).mono ?_
    rintro e w1 ⟨rfl, rfl⟩
    rw [hn]
    go_wp2_with fail
    refine (HMY.out _).mono ?_
    rintro e w2 ⟨rfl, rfl⟩
    go_wp2_with fail
    refine HP.out.mono ?_
    rintro e w3 ⟨rfl, hr⟩
    have HR := hidMk hr
    clear hr
    go_wp2_with fail
    go_end0
    exact ⟨rfl, HR.out⟩
  · rw [if_neg hn]
    have hnf : nameB t = false := by simpa using hn
    show Calls _ _ _ _ (fun e w' => e = .panicked (flt 0 2) ∧ ∃ v', WC pr v v' W w')
    go_enter Tryz.func183, Tryz.ntmps183
    go_wp2_with fail
    refine (HN.out _).mono ?_
    rintro e w1 ⟨rfl, rfl⟩
    rw [hnf]
    go_wp2_with fail
    refine (HMN.out _).mono ?_
    rintro e w2 ⟨rfl, rfl⟩
    go_wp2_with fail
    exact ⟨rfl, rfl, _, WC.of_kept (Kept.refl _)⟩
set_option maxHeartbeats 2000000 in
set_option maxRecDepth 100000 in
theorem wr_num {w0 W : World} {pr px pd : Nat} {x : Cm} {v : Value} {l : List ByteArray} (hS : WS w0 W pr px pd x v l) (hx : XOk x) (hl : l.length ≤ 19) :
    Calls Tryz.prog 184 #[.pointer (some ⟨pr, 0, none⟩), .pointer (some ⟨px, 9, none⟩)] W (WrPost w0 W pr px pd x v l (some [numS x.n])) := by
  have q := hS.x 9 _ rfl
  have HN := hidMk (fun y => text_Num x.n hx.n y)
  have HP := hidMk (fun y (hy : Kept W y) => wr_from hy (wr_put (hS.keep hy) hl (numS x.n)))
  clear hS hx
  generalize x.n = n at *
  go_enter Tryz.func184, Tryz.ntmps184
  go_wp2_with fail
  refine (HN.out _).mono ?_
  rintro e w1 ⟨rfl, k1⟩
  have K1 := hidMk k1
  clear k1
  go_wp2_with fail
  refine (HP.out _ K1.out).mono ?_
  rintro e w3 ⟨rfl, hr⟩
  have HR := hidMk hr
  clear hr
  go_wp2_with fail
  go_end0
  exact ⟨rfl, HR.out⟩
set_option maxHeartbeats 2000000 in
set_option maxRecDepth 100000 in
theorem wr_pick {w0 W : World} {pr px pd : Nat} {x : Cm} {v : Value} {l : List ByteArray} (hS : WS w0 W pr px pd x v l) (hl : l.length ≤ 19) (wa : Option Addr) (wn wc : Nat) (ws : List ByteArray) (hw : Ss W wa wn ws) (k : Int) :
    Calls Tryz.prog 186 #[.pointer (some ⟨pr, 0, none⟩), .int .i64 k, .slice wa wn wc] W (WrPost w0 W pr px pd x v l (pickW ws k)) := by
  have HP := hidMk (fun t => wr_put hS hl t)
  have HMY := hidMk (wr_must_yes ⟨pr, 0, none⟩)
  have HMN := hidMk (wr_must_no ⟨pr, 0, none⟩)
  have hlen := hw.len
  have hbig := hw.big
  unfold maxLen at hbig
  unfold pickW
  by_cases h0 : 0 ≤ k
  · by_cases h1 : k < ws.length
    · rw [if_pos ⟨h0, h1⟩]
      obtain ⟨b, o, rfl, hb, hc⟩ := hw.cells (by omega)
      have c1 := hc k.toNat (by omega)
      obtain ⟨kn, rfl⟩ : ∃ kn : Nat, k = kn := ⟨k.toNat, by omega⟩
      rw [Int.toNat_natCast] at c1 ⊢
      have h1' : (kn : Int) < (wn : Int) := by omega
      have hd : decide ((kn : Int) < (wn : Int)) = true := by simp; omega
      have hd0 : decide ((0 : Int) ≤ (kn : Int)) = true := by simp
      clear hS hw hc h1 hlen
      unfold msA
      generalize ws.getD kn ByteArray.empty = t at *
      show Calls _ _ _ _ (fun e w' => e = .returned (.tuple #[]) ∧ ∃ v', WS w0 w' pr px pd x v' (l ++ [t]) ∧ WC pr v v' W w')
      go_enter Tryz.func186, Tryz.ntmps186
      go_wp2_with fail
      refine (HMY.out _).mono ?_
      rintro e w2 ⟨rfl, rfl⟩
      go_wp2_with fail
      refine (HP.out _).mono ?_
      rintro e w3 ⟨rfl, hr⟩
      have HR := hidMk hr
      clear hr
      go_wp2_with fail
      go_end0
      exact ⟨rfl, HR.out⟩
    · rw [if_neg (fun e => h1 e.2)]
      have h1' : ¬ (k < (wn : Int)) := by omega
      have hd : decide (k < (wn : Int)) = false := by simp; omega
      have hd0 : decide ((0 : Int) ≤ k) = true := by simp; omega
      clear hS hw h1
      show Calls _ _ _ _ (fun e w' => e = .panicked (flt 0 2) ∧ ∃ v', WC pr v v' W w')
      go_enter Tryz.func186, Tryz.ntmps186
      go_wp2_with fail
      refine (HMN.out _).mono ?_
      rintro e w2 ⟨rfl, rfl⟩
      go_wp2_with fail
      exact ⟨rfl, rfl, _, WC.of_kept (Kept.refl _)⟩
  · rw [if_neg (fun e => h0 e.1)]
    have hd0 : decide ((0 : Int) ≤ k) = false := by simp; omega
    clear hS hw
    show Calls _ _ _ _ (fun e w' => e = .panicked (flt 0 2) ∧ ∃ v', WC pr v v' W w')
    go_enter Tryz.func186, Tryz.ntmps186
    go_wp2_with fail
    refine (HMN.out _).mono ?_
    rintro e w2 ⟨rfl, rfl⟩
    go_wp2_with fail
    exact ⟨rfl, rfl, _, WC.of_kept (Kept.refl _)⟩
set_option maxHeartbeats 2000000 in
set_option maxRecDepth 100000 in
theorem wr_choice {w0 W : World} {pr px pd : Nat} {x : Cm} {v : Value} {l : List ByteArray} (hS : WS w0 W pr px pd x v l) (hl : l.length ≤ 19) (wa : Option Addr) (wn wc : Nat) (ws : List ByteArray) (hw : Ss W wa wn ws) :
    Calls Tryz.prog 180 #[.pointer (some ⟨pr, 0, none⟩), .pointer (some ⟨px, 10, none⟩), .slice wa wn wc] W (WrPost w0 W pr px pd x v l (chW ws x.h)) := by
  have q := hS.x 10 _ rfl
  have HS := hidMk hS
  have HP := hidMk (fun k => wr_pick hS hl wa wn wc ws hw k)
  unfold chW
  clear hS hw
  generalize x.h = k at *
  by_cases h0 : k = 0
  · subst h0
    rw [if_pos rfl]
    show Calls _ _ _ _ (fun e w' => e = .returned (.tuple #[]) ∧ ∃ v', WS w0 w' pr px pd x v' (l ++ []) ∧ WC pr v v' W w')
    go_enter Tryz.func180, Tryz.ntmps180
    go_wp2_with fail
    go_end0
    exact ⟨rfl, _, by rw [List.append_nil]; exact HS.out, WC.of_kept (Kept.refl _)⟩
  · rw [if_neg h0]
    have h1 : (k != 0) = true := by simpa using h0
    generalize hr : pickW ws k = r at *
    have HPK := hidMk (hr ▸ HP.out k)
    clear HP
    go_enter Tryz.func180, Tryz.ntmps180
    go_wp2_with fail
    refine HPK.out.mono ?_
    intro e w2 hw
    cases r with
    | none =>
      obtain ⟨rfl, hr⟩ := hw
      have HR := hidMk hr
      clear hr
      go_wp2_with fail
      exact ⟨rfl, rfl, HR.out⟩
    | some m =>
      obtain ⟨rfl, hr⟩ := hw
      have HR := hidMk hr
      clear hr
      go_wp2_with fail
      go_end0
      exact ⟨rfl, HR.out⟩
end Go.Proofs.YtpehinmckppjoaaGreatDoor
