/- log: a log in memory; write, look, Used, Room, Clean. -/
import Derived.Test.YtapcmkhpbdphoaaLg2
import Derived.Test.YtapcmkhpbdphoaaLgMath
namespace Go.Proofs.Ytapcmkhpbdphoaa
open Go.RowKit Go.Maps
set_option linter.unusedSimpArgs false
set_option linter.unusedVariables false

/-- A log's cells. -/
structure Lc (w : World) (p f fr to : Nat) (bad : Bool) (wr : Int) (g L K : Nat) (va : Option Addr) (vn vc u : Nat) (cl : Bool) : Prop where
  c0 : w.cell? ⟨p, 0, none⟩ = some (.pointer (some ⟨f, 0, none⟩))
  c1 : w.cell? ⟨p, 1, none⟩ = some (.int .i64 (fr : Int))
  c2 : w.cell? ⟨p, 2, none⟩ = some (.int .i64 (to : Int))
  c3 : w.cell? ⟨p, 3, none⟩ = some (.bool bad)
  c4 : w.cell? ⟨p, 4, none⟩ = some (.int .i64 wr)
  c5 : w.cell? ⟨p, 5, none⟩ = some (.slice (some ⟨g, 0, none⟩) L K)
  c6 : w.cell? ⟨p, 6, none⟩ = some (.slice va vn vc)
  c7 : w.cell? ⟨p, 7, none⟩ = some (.int .i64 (u : Int))
  c8 : w.cell? ⟨p, 8, none⟩ = some (.bool cl)
  fz : ∀ i, i < 9 → w.frozen? ⟨p, i, none⟩ = false
  lt : p < w.heap.size
section
variable {w W : World} {p f fr to : Nat} {bad : Bool} {wr : Int} {g L K : Nat} {va : Option Addr} {vn vc u : Nat} {cl : Bool}
theorem Lc.chg {S : Nat → Prop} (h : Lc w p f fr to bad wr g L K va vn vc u cl) (k : Chg S w W) (hp : ¬ S p) : Lc W p f fr to bad wr g L K va vn vc u cl :=
  ⟨k.cellp h.c0 hp, k.cellp h.c1 hp, k.cellp h.c2 hp, k.cellp h.c3 hp, k.cellp h.c4 hp, k.cellp h.c5 hp, k.cellp h.c6 hp, k.cellp h.c7 hp, k.cellp h.c8 hp, fun i hi => (k.frozen (p := ⟨p, i, none⟩) h.lt hp).trans (h.fz i hi), Nat.lt_of_lt_of_le h.lt k.size⟩
theorem Lc.kept (h : Lc w p f fr to bad wr g L K va vn vc u cl) (k : Kept w W) : Lc W p f fr to bad wr g L K va vn vc u cl := h.chg (S := fun _ => False) (Chg.of_kept k) (fun e => e)
theorem Lc.set3 (h : Lc w p f fr to bad wr g L K va vn vc u cl) (b : Bool) : Lc (w.setCell ⟨p, 3, none⟩ (.bool b)) p f fr to b wr g L K va vn vc u cl :=
  ⟨so h.c0 (by simp), so h.c1 (by simp), so h.c2 (by simp), World.cell?_setCell_same _ _ _ h.c3, so h.c4 (by simp), so h.c5 (by simp), so h.c6 (by simp), so h.c7 (by simp), so h.c8 (by simp), fun i hi => by rw [World.frozen?_setCell]; exact h.fz i hi, by simpa [World.setCell] using h.lt⟩
theorem con_load {w : World} {g o : Nat} {v0 v1 v2 v3 v4 : Value} (c0 : w.cell? ⟨g, o, none⟩ = some v0) (c1 : w.cell? ⟨g, o + 1, none⟩ = some v1) (c2 : w.cell? ⟨g, o + 2, none⟩ = some v2) (c3 : w.cell? ⟨g, o + 3, none⟩ = some v3) (c4 : w.cell? ⟨g, o + 4, none⟩ = some v4) : (loadVar 53 ⟨g, o, none⟩).run Try.prog w = .ok (.agg #[v0, v1, v2, v3, v4]) w := by
  have hl := run_loadCells_list (P := Try.prog) w ⟨g, o, none⟩ [v0, v1, v2, v3, v4] (fun j u hu => by
    rw [Addr.add_mid]
    have hj : j < 5 := by
      have := (List.getElem?_eq_some_iff.1 hu).1
      simpa using this
    have : j = 0 ∨ j = 1 ∨ j = 2 ∨ j = 3 ∨ j = 4 := by omega
    rcases this with rfl | rfl | rfl | rfl | rfl <;> simp_all)
  have hi : (Try.prog.info? 53).map (·.size) = some 5 := by kernel_rfl
  obtain ⟨i, h1, h2⟩ := Option.map_eq_some_iff.1 hi
  simp only [List.length_cons, List.length_nil, Nat.reduceAdd] at hl
  simp [loadVar, Sem.run_bind, Try.isAgg53, sizeOf, typeInfo, h1, h2, hl]
theorem results_cell1 {P : Program} {fn : Func} {p : Tmp} {ty : TypeId} (h : fn.results = #[.cell p ty]) (tmps : Array Value) (w : World) (g : Nat) (v : Value)
    (hp : tmps.getD p undef = .pointer (some ⟨g, 0, none⟩)) (hg : (loadVar ty ⟨g, 0, none⟩).run P w = .ok v w) : (results fn tmps).run P w = .ok v w := by
  have hp' : tmps[p]?.getD undef = .pointer (some ⟨g, 0, none⟩) := by simpa using hp
  simp [results, h, hp', asAddr, hg]
/-- A content's block, new. -/
structure NewCon (w : World) (b : Nat) : Prop where
  c0 : w.cell? ⟨b, 0, none⟩ = some (.int .i64 0)
  c1 : w.cell? ⟨b, 1, none⟩ = some (.slice none 0 0)
  c2 : w.cell? ⟨b, 2, none⟩ = some (.slice none 0 0)
  c3 : w.cell? ⟨b, 3, none⟩ = some (.int .i64 0)
  c4 : w.cell? ⟨b, 4, none⟩ = some (.bool false)
  fz : ∀ i, i < 5 → w.frozen? ⟨b, i, none⟩ = false
/-- A content as a result that lies in its block. -/
theorem con_ret {R : Ending → World → Prop} {fn : Func} {p : Tmp} (hfn : fn.results = #[.cell p 53]) {a : Act} {w : World} (g : Nat) {v0 v1 v2 v3 v4 : Value} (hp : a.tmps.getD p undef = .pointer (some ⟨g, 0, none⟩)) (hd : a.defers = [])
    (c0 : w.cell? ⟨g, 0, none⟩ = some v0) (c1 : w.cell? ⟨g, 1, none⟩ = some v1) (c2 : w.cell? ⟨g, 2, none⟩ = some v2) (c3 : w.cell? ⟨g, 3, none⟩ = some v3) (c4 : w.cell? ⟨g, 4, none⟩ = some v4) (h : R (.returned (.agg #[v0, v1, v2, v3, v4])) w) : bodyPost Try.prog fn R .ret a w :=
  bodyPost_ret (results_cell1 hfn _ _ g _ hp (con_load (o := 0) c0 c1 c2 c3 c4)) hd h
variable {d N : Nat} {s : Bf}
theorem write_end {w0 : World} (h : Lc w p f fr to bad wr g L K va vn vc u cl) (hf : Fl w f d N s) (hc : Chg (Of f d) w0 w) (hpf : ¬ Of f d p) (b : Bool) : Lc (w.setCell ⟨p, 3, none⟩ (.bool b)) p f fr to b wr g L K va vn vc u cl ∧ Fl (w.setCell ⟨p, 3, none⟩ (.bool b)) f d N s ∧ Chg (fun j => j = p ∨ Of f d j) w0 (w.setCell ⟨p, 3, none⟩ (.bool b)) := by
  have h1 : f ≠ p := fun e => hpf (.inl e.symm)
  have h2 : d ≠ p := fun e => hpf (.inr e.symm)
  have hk : Chg (fun j => j = p) w (w.setCell ⟨p, 3, none⟩ (.bool b)) := Chg.setCell (S := fun j => j = p) (Chg.refl _ _) (p := ⟨p, 3, none⟩) (.inl rfl) _
  exact ⟨h.set3 b, hf.chg hk h1 h2, (hc.mono (fun j _ e => .inr e)).setCell (p := ⟨p, 3, none⟩) (.inl (.inl rfl)) _⟩
set_option maxHeartbeats 400000 in
set_option maxRecDepth 100000 in
theorem log_write (h : Lc w p f fr to bad wr g L K va vn vc u cl) (hf : Fl w f d N s) (hok : Ok s) (hwr : s.wr < 1000000) (hpf : ¬ Of f d p) (x : Nat) (hx : x ≤ 100000) (hfr : fr ≤ 100000) (a : Option Addr) (m c : Nat) (l : List Int) (hs : Sl .u8 w a m l) (hlb : ∀ x ∈ l, isB x) :
    Calls Try.prog 28 #[.pointer (some ⟨p, 0, none⟩), .int .i64 (x : Int), .slice a m c] w fun e w' => e = .returned (.int .i64 (wrE s N (fr + x : Nat) m)) ∧ Lc w' p f fr to (wrE s N (fr + x : Nat) m != 0) wr g L K va vn vc u cl ∧ Fl w' f d N (wrS s N (fr + x : Nat) l) ∧ Chg (fun j => j = p ∨ Of f d j) w w' := by
  have HQN := hidMk (show IntKind.i64.wrap ((fr : Int) + (x : Int)) = ((fr + x : Nat) : Int) by rw [IntKind.wrap_i64]; omega)
  have H := hidMk h
  have HF := hidMk hf
  have HPF := hidMk hpf
  have HOK := hidMk hok
  have HWR := hidMk hwr
  have HSL := hidMk hs
  have HLB := hidMk hlb
  have hx' : (x : Int) ≤ 100000 := by omega
  have hfr' : (fr : Int) ≤ 100000 := by omega
  clear h hf hpf hok hwr hs hlb hx hfr
  go_enter Try.func28, Try.ntmps28
  go_wp2_with fail
  refine wp_region_held_drew (S := (fun w9 => w9.cell? ⟨p, 0, none⟩ = some (.pointer (some ⟨f, 0, none⟩)) ∧ w9.cell? ⟨p, 1, none⟩ = some (.int .i64 (fr : Int)))) (by kernel_rfl) ?_ (fun hHeld => ?_)
  · exact ⟨H.out.c0, H.out.c1⟩
  refine wpAnyH_take (i := 0) (oi := { dst := some 8, op := _, type := _, pos := _, after := _, guard := _ }) (v := ?_) rfl (by kernel_rfl) (by kernel_rfl) (by kernel_rfl) (fun _ _ _ h => h) (Or.inl ⟨by rfl, ?_⟩) (by assumption) ?_
  rotate_left
  · (intro w9 hSw; (try dsimp only at hSw); (try obtain ⟨hSw1, hSw2⟩ := hSw); go_simp; (try with_reducible rfl))
  (try simp only [Act.put, List.setIfInBounds_toArray, List.set_cons_zero, List.set_cons_succ])
  refine wpAnyH_take (i := 1) (oi := { dst := some 9, op := _, type := _, pos := _, after := _, guard := _ }) (v := ?_) rfl (by kernel_rfl) (by kernel_rfl) (by kernel_rfl) (fun _ _ _ h => h) (Or.inl ⟨by rfl, ?_⟩) (by assumption) ?_
  rotate_left
  · (intro w9 hSw; (try dsimp only at hSw); (try obtain ⟨hSw1, hSw2⟩ := hSw); go_simp; (try with_reducible rfl))
  (try simp only [Act.put, List.setIfInBounds_toArray, List.set_cons_zero, List.set_cons_succ])
  refine wpAnyH_take (i := 2) (oi := { dst := some 10, op := _, type := _, pos := _, after := _, guard := _ }) (v := ?_) rfl (by kernel_rfl) (by kernel_rfl) (by kernel_rfl) (fun _ _ _ h => h) (Or.inl ⟨by rfl, ?_⟩) (by assumption) ?_
  rotate_left
  · (intro w9 hSw; (try dsimp only at hSw); (try obtain ⟨hSw1, hSw2⟩ := hSw); go_simp; (try with_reducible rfl))
  (try simp only [Act.put, List.setIfInBounds_toArray, List.set_cons_zero, List.set_cons_succ])
  refine wpAnyH_take (i := 3) (oi := { dst := some 11, op := _, type := _, pos := _, after := _, guard := _ }) (v := ?_) rfl (by kernel_rfl) (by kernel_rfl) (by kernel_rfl) (fun _ _ _ h => h) (Or.inl ⟨by rfl, ?_⟩) (by assumption) ?_
  rotate_left
  · (intro w9 hSw; (try dsimp only at hSw); (try obtain ⟨hSw1, hSw2⟩ := hSw); go_simp; (try with_reducible rfl))
  (try simp only [Act.put, List.setIfInBounds_toArray, List.set_cons_zero, List.set_cons_succ])
  refine wpAnyH_take (i := 4) (oi := { dst := some 12, op := _, type := _, pos := _, after := _, guard := _ }) (v := ?_) rfl (by kernel_rfl) (by kernel_rfl) (by kernel_rfl) (fun _ _ _ h => h) (Or.inl ⟨by rfl, ?_⟩) (by assumption) ?_
  rotate_left
  · (intro w9 hSw; (try dsimp only at hSw); (try obtain ⟨hSw1, hSw2⟩ := hSw); go_simp; (try with_reducible rfl))
  (try simp only [Act.put, List.setIfInBounds_toArray, List.set_cons_zero, List.set_cons_succ])
  refine wpAnyH_take (i := 5) (oi := { dst := some 13, op := _, type := _, pos := _, after := _, guard := _ }) (v := ?_) rfl (by kernel_rfl) (by kernel_rfl) (by kernel_rfl) (fun _ _ _ h => h) (Or.inl ⟨by rfl, ?_⟩) (by assumption) ?_
  rotate_left
  · (intro w9 hSw; (try dsimp only at hSw); (try obtain ⟨hSw1, hSw2⟩ := hSw); go_simp; (try with_reducible rfl))
  (try simp only [Act.put, List.setIfInBounds_toArray, List.set_cons_zero, List.set_cons_succ])
  refine wpAnyH_take (i := 6) (oi := { dst := some 14, op := _, type := _, pos := _, after := _, guard := _ }) (v := ?_) rfl (by kernel_rfl) (by kernel_rfl) (by kernel_rfl) (fun _ _ _ h => h) (Or.inl ⟨by rfl, ?_⟩) (by assumption) ?_
  rotate_left
  · (intro w9 hSw; (try dsimp only at hSw); (try obtain ⟨hSw1, hSw2⟩ := hSw); go_simp; (try with_reducible rfl))
  (try simp only [Act.put, List.setIfInBounds_toArray, List.set_cons_zero, List.set_cons_succ])
  refine wpAnyH_take (i := 7) (oi := { dst := some 15, op := _, type := _, pos := _, after := _, guard := _ }) (v := ?_) rfl (by kernel_rfl) (by kernel_rfl) (by kernel_rfl) (fun _ _ _ h => h) (Or.inl ⟨by rfl, ?_⟩) (by assumption) ?_
  rotate_left
  · (intro w9 hSw; (try dsimp only at hSw); (try obtain ⟨hSw1, hSw2⟩ := hSw); go_simp; (try with_reducible rfl))
  (try simp only [Act.put, List.setIfInBounds_toArray, List.set_cons_zero, List.set_cons_succ])
  refine wpAnyH_take (i := 8) (oi := { dst := some 16, op := _, type := _, pos := _, after := _, guard := _ }) (v := ?_) rfl (by kernel_rfl) (by kernel_rfl) (by kernel_rfl) (fun _ _ _ h => h) (Or.inl ⟨by rfl, ?_⟩) (by assumption) ?_
  rotate_left
  · (intro w9 hSw; (try dsimp only at hSw); (try obtain ⟨hSw1, hSw2⟩ := hSw); go_simp; (try with_reducible rfl))
  (try simp only [Act.put, List.setIfInBounds_toArray, List.set_cons_zero, List.set_cons_succ])
  refine wpAnyH_take (i := 9) (oi := { dst := some 17, op := _, type := _, pos := _, after := _, guard := _ }) (v := ?_) rfl (by kernel_rfl) (by kernel_rfl) (by kernel_rfl) (fun _ _ _ h => h) (Or.inl ⟨by rfl, ?_⟩) (by assumption) ?_
  rotate_left
  · (intro w9 hSw; (try dsimp only at hSw); (try obtain ⟨hSw1, hSw2⟩ := hSw); go_simp; (try with_reducible rfl))
  (try simp only [Act.put, List.setIfInBounds_toArray, List.set_cons_zero, List.set_cons_succ])
  refine wpAnyH_take (i := 10) (oi := { dst := some 18, op := _, type := _, pos := _, after := _, guard := _ }) (v := ?_) rfl (by kernel_rfl) (by kernel_rfl) (by kernel_rfl) (fun _ _ _ h => h) (Or.inl ⟨by rfl, ?_⟩) (by assumption) ?_
  rotate_left
  · (intro w9 hSw; (try dsimp only at hSw); (try obtain ⟨hSw1, hSw2⟩ := hSw); go_simp; (try with_reducible rfl))
  (try simp only [Act.put, List.setIfInBounds_toArray, List.set_cons_zero, List.set_cons_succ])
  refine wpAnyH_ready (rs := [11]) (by kernel_rfl) (by simp) ?_
  refine AllReadyH.cons (o := { dst := some 19, op := _, type := _, pos := _, after := _, guard := _ }) rfl (fun K hK => ?_) AllReadyH.nil
  go_simp
  rw [HQN.out]
  refine (bk_Write HF.out.drew HOK.out HWR.out (fr + x : Nat) a m c l (HSL.out.kept (Kept.refl _).drew) HLB.out).mono ?_
  rintro e w3 ⟨rfl, f3, c3⟩
  have F3 := hidMk f3
  have C3 := hidMk (show Chg (Of f d) w w3 from (Chg.refl _ _).drew.trans c3)
  clear f3 c3
  (try go_wp2_with fail)
  refine hK.out _ _ ?_ (fun hHeld => ?_)
  · exact ⟨C3.out.cellp H.out.c0 HPF.out, C3.out.cellp H.out.c1 HPF.out⟩
  clear hK K
  (try simp only [Act.put, List.setIfInBounds_toArray, List.set_cons_zero, List.set_cons_succ])
  refine wpAnyH_take (i := 12) (oi := { dst := some 7, op := _, type := _, pos := _, after := _, guard := _ }) (v := ?_) rfl (by kernel_rfl) (by kernel_rfl) (by kernel_rfl) (fun _ _ _ h => h) (Or.inl ⟨by rfl, ?_⟩) (by assumption) ?_
  rotate_left
  · (intro w9 hSw; (try dsimp only at hSw); (try obtain ⟨hSw1, hSw2⟩ := hSw); go_simp; (try with_reducible rfl))
  (try simp only [Act.put, List.setIfInBounds_toArray, List.set_cons_zero, List.set_cons_succ])
  refine wpAnyH_done (by kernel_rfl) ?_ _
  have HL3 := hidMk (H.out.chg C3.out HPF.out)
  have z3 := HL3.out.c3
  have zf := HL3.out.fz 3 (by omega)
  generalize wrE s N (fr + x : Nat) m = E at *
  go_wp2_with fail
  go_ret
  exact ⟨rfl, write_end HL3.out F3.out C3.out HPF.out _⟩
set_option maxHeartbeats 400000 in
set_option maxRecDepth 100000 in
theorem look_ok (h : Lc w p f fr to bad s.wr g L K va vn vc u cl) (hf : Fl w f d N s) :
    Calls Try.prog 25 #[.pointer (some ⟨p, 0, none⟩)] w fun e w' => e = .returned (.agg #[.int .i64 s.wr, .slice (some ⟨g, 0, none⟩) L K, .slice va vn vc, .int .i64 (u : Int), .bool cl]) ∧ Kept w w' := by
  have HF := hidMk hf
  have H := hidMk h
  obtain ⟨W1, hW1⟩ : ∃ W1, W1 = w.alloc (.cells #[.int .i64 0, .slice none 0 0, .slice none 0 0, .int .i64 0, .bool false] 53) := ⟨_, rfl⟩
  have k1 : Kept w W1 := by rw [hW1]; exact (Kept.refl w).alloc _
  have K1 := hidMk k1
  have HN := hidMk (none_ok p f W1 (k1.cellp h.c0))
  have HW1 := hidMk hW1
  clear h hf k1 hW1
  go_enter Try.func25, Try.ntmps25
  go_wp2_with (go_at_call 23; rw [← HW1.out]; refine HN.out.mono ?_; rintro e w1 ⟨rfl, hw1⟩; rw [hw1]; clear hw1 w1)
  refine wp_region_held_drew (S := (fun w9 => w9.cell? ⟨p, 0, none⟩ = some (.pointer (some ⟨f, 0, none⟩)) ∧ w9.cell? ⟨p, 4, none⟩ = some (.int .i64 s.wr))) (by kernel_rfl) ?_ (fun hHeld => ?_)
  · exact ⟨K1.out.cellp H.out.c0, K1.out.cellp H.out.c4⟩
  refine wpAnyH_take (i := 0) (oi := { dst := some 6, op := _, type := _, pos := _, after := _, guard := _ }) (v := ?_) rfl (by kernel_rfl) (by kernel_rfl) (by kernel_rfl) (fun _ _ _ h => h) (Or.inl ⟨by rfl, ?_⟩) (by assumption) ?_
  rotate_left
  · (intro w9 hSw; (try dsimp only at hSw); (try obtain ⟨hSw1, hSw2⟩ := hSw); go_simp; (try with_reducible rfl))
  (try simp only [Act.put, List.setIfInBounds_toArray, List.set_cons_zero, List.set_cons_succ])
  refine wpAnyH_take (i := 1) (oi := { dst := some 7, op := _, type := _, pos := _, after := _, guard := _ }) (v := ?_) rfl (by kernel_rfl) (by kernel_rfl) (by kernel_rfl) (fun _ _ _ h => h) (Or.inl ⟨by rfl, ?_⟩) (by assumption) ?_
  rotate_left
  · (intro w9 hSw; (try dsimp only at hSw); (try obtain ⟨hSw1, hSw2⟩ := hSw); go_simp; (try with_reducible rfl))
  (try simp only [Act.put, List.setIfInBounds_toArray, List.set_cons_zero, List.set_cons_succ])
  refine wpAnyH_take (i := 2) (oi := { dst := some 8, op := _, type := _, pos := _, after := _, guard := _ }) (v := ?_) rfl (by kernel_rfl) (by kernel_rfl) (by kernel_rfl) (fun _ _ _ h => h) (Or.inl ⟨by rfl, ?_⟩) (by assumption) ?_
  rotate_left
  · (intro w9 hSw; (try dsimp only at hSw); (try obtain ⟨hSw1, hSw2⟩ := hSw); go_simp; (try with_reducible rfl))
  (try simp only [Act.put, List.setIfInBounds_toArray, List.set_cons_zero, List.set_cons_succ])
  refine wpAnyH_take (i := 3) (oi := { dst := some 9, op := _, type := _, pos := _, after := _, guard := _ }) (v := ?_) rfl (by kernel_rfl) (by kernel_rfl) (by kernel_rfl) (fun _ _ _ h => h) (Or.inl ⟨by rfl, ?_⟩) (by assumption) ?_
  rotate_left
  · (intro w9 hSw; (try dsimp only at hSw); (try obtain ⟨hSw1, hSw2⟩ := hSw); go_simp; (try with_reducible rfl))
  (try simp only [Act.put, List.setIfInBounds_toArray, List.set_cons_zero, List.set_cons_succ])
  refine wpAnyH_take (i := 4) (oi := { dst := some 10, op := _, type := _, pos := _, after := _, guard := _ }) (v := ?_) rfl (by kernel_rfl) (by kernel_rfl) (by kernel_rfl) (fun _ _ _ h => h) (Or.inl ⟨by rfl, ?_⟩) (by assumption) ?_
  rotate_left
  · (intro w9 hSw; (try dsimp only at hSw); (try obtain ⟨hSw1, hSw2⟩ := hSw); go_simp; (try with_reducible rfl))
  (try simp only [Act.put, List.setIfInBounds_toArray, List.set_cons_zero, List.set_cons_succ])
  refine wpAnyH_take (i := 5) (oi := { dst := some 11, op := _, type := _, pos := _, after := _, guard := _ }) (v := ?_) rfl (by kernel_rfl) (by kernel_rfl) (by kernel_rfl) (fun _ _ _ h => h) (Or.inl ⟨by rfl, ?_⟩) (by assumption) ?_
  rotate_left
  · (intro w9 hSw; (try dsimp only at hSw); (try obtain ⟨hSw1, hSw2⟩ := hSw); go_simp; (try with_reducible rfl))
  (try simp only [Act.put, List.setIfInBounds_toArray, List.set_cons_zero, List.set_cons_succ])
  refine wpAnyH_take (i := 6) (oi := { dst := some 12, op := _, type := _, pos := _, after := _, guard := _ }) (v := ?_) rfl (by kernel_rfl) (by kernel_rfl) (by kernel_rfl) (fun _ _ _ h => h) (Or.inl ⟨by rfl, ?_⟩) (by assumption) ?_
  rotate_left
  · (intro w9 hSw; (try dsimp only at hSw); (try obtain ⟨hSw1, hSw2⟩ := hSw); go_simp; (try with_reducible rfl))
  (try simp only [Act.put, List.setIfInBounds_toArray, List.set_cons_zero, List.set_cons_succ])
  refine wpAnyH_take (i := 7) (oi := { dst := some 13, op := _, type := _, pos := _, after := _, guard := _ }) (v := ?_) rfl (by kernel_rfl) (by kernel_rfl) (by kernel_rfl) (fun _ _ _ h => h) (Or.inl ⟨by rfl, ?_⟩) (by assumption) ?_
  rotate_left
  · (intro w9 hSw; (try dsimp only at hSw); (try obtain ⟨hSw1, hSw2⟩ := hSw); go_simp; (try with_reducible rfl))
  (try simp only [Act.put, List.setIfInBounds_toArray, List.set_cons_zero, List.set_cons_succ])
  refine wpAnyH_take (i := 8) (oi := { dst := some 14, op := _, type := _, pos := _, after := _, guard := _ }) (v := ?_) rfl (by kernel_rfl) (by kernel_rfl) (by kernel_rfl) (fun _ _ _ h => h) (Or.inl ⟨by rfl, ?_⟩) (by assumption) ?_
  rotate_left
  · (intro w9 hSw; (try dsimp only at hSw); (try obtain ⟨hSw1, hSw2⟩ := hSw); go_simp; (try with_reducible rfl))
  (try simp only [Act.put, List.setIfInBounds_toArray, List.set_cons_zero, List.set_cons_succ])
  refine wpAnyH_ready (rs := [9]) (by kernel_rfl) (by simp) ?_
  refine AllReadyH.cons (o := { dst := some 15, op := _, type := _, pos := _, after := _, guard := _ }) rfl (fun K hK => ?_) AllReadyH.nil
  go_simp
  refine (bk_Writes (HF.out.kept ((K1.out).drew))).mono ?_
  rintro e w3 ⟨rfl, hw3⟩
  rw [hw3]
  clear hw3 w3
  (try go_wp2_with fail)
  refine hK.out _ _ ?_ (fun hHeld => ?_)
  · exact hHeld
  clear hK K
  (try simp only [Act.put, List.setIfInBounds_toArray, List.set_cons_zero, List.set_cons_succ])
  refine wpAnyH_take (i := 10) (oi := { dst := some 16, op := _, type := _, pos := _, after := _, guard := _ }) (v := ?_) rfl (by kernel_rfl) (by kernel_rfl) (by kernel_rfl) (fun _ _ _ h => h) (Or.inl ⟨by rfl, ?_⟩) (by assumption) ?_
  rotate_left
  · (intro w9 hSw; (try dsimp only at hSw); (try obtain ⟨hSw1, hSw2⟩ := hSw); go_simp; (try with_reducible rfl))
  (try simp only [Act.put, List.setIfInBounds_toArray, List.set_cons_zero, List.set_cons_succ])
  refine wpAnyH_done (by kernel_rfl) ?_ _
  have HL1 := hidMk (H.out.kept K1.out.drew)
  obtain ⟨_, _, _, _, z4, z5, z6, z7, z8, _, _⟩ := HL1.out
  obtain ⟨rb, hrb⟩ : ∃ rb, rb = w.heap.size := ⟨_, rfl⟩
  have HG := hidMk (show NewCon W1.drew rb from by rw [hrb, HW1.out]; exact ⟨by simp, by simp, by simp, by simp, by simp, fun i hi => by simp⟩)
  have HRB := hidMk hrb
  obtain ⟨e0, e1, e2, e3, e4, ef⟩ := HG.out
  have f0 := ef 0 (by omega)
  have f1 := ef 1 (by omega)
  have f2 := ef 2 (by omega)
  have f3 := ef 3 (by omega)
  have f4 := ef 4 (by omega)
  have HK1 := hidMk K1.out.drew
  rw [← hrb]
  clear ef hrb
  generalize W1.drew = W2 at *
  go_wp2_with fail
  refine con_ret rfl rb rfl rfl ?_ ?_ ?_ ?_ ?_ ⟨rfl, ?_⟩
  · exact (so (so (so (so (World.cell?_setCell_same _ _ _ e0) (by simp)) (by simp)) (by simp)) (by simp))
  · exact (so (so (so (World.cell?_setCell_same _ _ _ (so e1 (by simp))) (by simp)) (by simp)) (by simp))
  · exact (so (so (World.cell?_setCell_same _ _ _ (so (so e2 (by simp)) (by simp))) (by simp)) (by simp))
  · exact (so (World.cell?_setCell_same _ _ _ (so (so (so e3 (by simp)) (by simp)) (by simp))) (by simp))
  · exact World.cell?_setCell_same _ _ _ (so (so (so (so e4 (by simp)) (by simp)) (by simp)) (by simp))
  · have hge := Nat.le_of_eq HRB.out.symm
    exact ((((HK1.out.setCell hge _).setCell hge _).setCell hge _).setCell hge _).setCell hge _
end
end Go.Proofs.Ytapcmkhpbdphoaa
