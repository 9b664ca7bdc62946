/- pages: together, All, Differ. · moietylaw10: what trees of a play have, asked of both sides. -/
import Derived.Test.YtjkbhaplngnniaaDoorPg23
import Derived.Test.YtjkbhaplngnniaaDoorPg24
import Derived.Laws.EntriesVeiled
namespace Go.Proofs.YtjkbhaplngnniaaDoor
open Go.RowKit Go.Maps
set_option linter.unusedSimpArgs false
set_option linter.unusedVariables false

theorem new_val_at (w : World) (v : Value) (t : TypeId) {b : Nat} (hb : w.heap.size = b) : (w.alloc (.cells #[v] t)).cell? ⟨b, 0, none⟩ = some v := by
  have := new_range_at w [v] t hb 0 _ rfl
  simpa using this
theorem new_val (w : World) (v : Value) (t : TypeId) : (w.alloc (.cells #[v] t)).cell? ⟨w.heap.size, 0, none⟩ = some v := new_val_at w v t rfl
section
variable {w0 : World} {g p : Nat} {ow : Option Nat} {most : Int} {n : Nat} {rf : Int → Nat} {nd : Int → ANd} {M : Nat} {codes : Int} {T lev : Int → Nat}
set_option maxHeartbeats 4000000 in
set_option maxRecDepth 100000 in
theorem tog_All {X : World} {ab : Nat} (hA : AS w0 X p ow most n rf nd M) (hG : PG X g p codes) (iv : PInv n rf nd T lev (lvls codes)) (a b : Int) (ha : RootOk rf lev (lvls codes) a) (hb : RootOk rf lev (lvls codes) b) (hb0 : b = 0) (hab : X.cell? ⟨ab, 0, none⟩ = some (.slice none 0 0)) (hfz : X.frozen? ⟨ab, 0, none⟩ = false) (hlo : w0.heap.size ≤ ab) (hne : p ≠ ab ∧ (∀ j, ow = some j → j ≠ ab) ∧ g ≠ ab) :
    Calls Tryd.prog 35 #[.pointer (some ⟨g, 0, none⟩), .int .i64 a, .int .i64 b, .func (.func 36) #[] #[.pointer (some ⟨ab, 0, none⟩)]] X fun e w' => e = .returned (.int .i64 0) ∧ ∃ v', RW ab (X.heap.size + 3) 80 3 cfL w' v' (selL nd (lvls codes) a b 0 (8 ^ lvls codes)) ∧ Chg (fun k => k = ab) X w' := by
  obtain ⟨pb, hpb⟩ : ∃ x, x = X.heap.size := ⟨_, rfl⟩
  obtain ⟨sb, hsb⟩ : ∃ x, x = X.heap.size + 1 := ⟨_, rfl⟩
  obtain ⟨fb, hfb⟩ : ∃ x, x = X.heap.size + 1 + 1 := ⟨_, rfl⟩
  obtain ⟨B, hB⟩ : ∃ x, x = X.heap.size + 3 := ⟨_, rfl⟩
  obtain ⟨W3, hW3⟩ : ∃ W, W = (((X.alloc (.cells #[.pointer (some ⟨g, 0, none⟩)] 26)).alloc (.cells #[.func (.func 36) #[] #[.pointer (some ⟨ab, 0, none⟩)]] 82)).alloc (.cells #[.func (.func 49) #[] #[.pointer (some ⟨pb, 0, none⟩), .pointer (some ⟨sb, 0, none⟩), .pointer (some ⟨fb, 0, none⟩)]] 97)) := ⟨_, rfl⟩
  have k3 : Kept X W3 := by rw [hW3]; exact (((Kept.refl X).alloc _).alloc _).alloc _
  have hs3 : W3.heap.size = B := by rw [hW3, hB]; simp
  have habl : ab < X.heap.size := cell_lt hab
  have HR3 := hidMk (show RW ab B 80 3 cfL W3.drew (.slice none 0 0) [] from (⟨k3.cellp hab, (k3.frozen (p := ⟨ab, 0, none⟩) habl).trans hfz, World.ownsRow_nil _ _ _ _, by omega, by omega⟩ : RW ab B 80 3 cfL W3 (.slice none 0 0) []).kept ((Kept.refl W3).drew))
  have c4 : W3.cell? ⟨pb, 0, none⟩ = some (.pointer (some ⟨g, 0, none⟩)) := by rw [hW3, hpb]; exact ((((Kept.refl (X.alloc _)).alloc _).alloc _)).cellp (new_val X _ _)
  have c5 : W3.cell? ⟨sb, 0, none⟩ = some (.func (.func 36) #[] #[.pointer (some ⟨ab, 0, none⟩)]) := by rw [hW3, hsb]; exact ((Kept.refl _).alloc _).cellp (new_val_at _ _ _ (by simp))
  have c6 : W3.cell? ⟨fb, 0, none⟩ = some (.func (.func 49) #[] #[.pointer (some ⟨pb, 0, none⟩), .pointer (some ⟨sb, 0, none⟩), .pointer (some ⟨fb, 0, none⟩)]) := by rw [hW3, hfb]; exact new_val_at _ _ _ (by simp)
  have hg9 := hG.lt
  have HD3 := hidMk (show DE w0 g p ow most n rf nd M codes pb sb fb ab B (.func (.func 36) #[] #[.pointer (some ⟨ab, 0, none⟩)]) (.func (.func 49) #[] #[.pointer (some ⟨pb, 0, none⟩), .pointer (some ⟨sb, 0, none⟩), .pointer (some ⟨fb, 0, none⟩)]) W3 from ⟨hA.keep k3, hG.kept k3, c4, c5, c6, ⟨hlo, by have := hA.1.size; omega⟩, ⟨by have := hA.ok.2.2.2.2.2.2.1; omega, hne.1⟩, fun j hj => ⟨by have := (hA.ok.2.2.2.2.2.2.2 j hj).1; omega, hne.2.1 j hj⟩, ⟨by omega, hne.2.2⟩, ⟨by omega, by omega⟩, ⟨by omega, by omega⟩, by omega, by omega⟩)
  have hlv := lvls_le codes
  obtain ⟨L, hL⟩ : ∃ L, lvls codes = L + 1 := ⟨lvls codes - 1, by omega⟩
  have HDN := hidMk (show Calls Tryd.prog 49 #[.int .i64 a, .int .i64 b, .int .i64 ((lvls codes : Nat) : Int), .int .i64 0, .pointer (some ⟨pb, 0, none⟩), .pointer (some ⟨sb, 0, none⟩), .pointer (some ⟨fb, 0, none⟩)] W3.drew fun e w' => e = .returned (.int .i64 0) ∧ StepR ab B 80 3 cfL W3.drew (.slice none 0 0) w' (selL nd (lvls codes) a b 0 (8 ^ lvls codes)) from by
    have hp : 8 ^ (L + 1) ≤ 8 ^ 4 := Nat.pow_le_pow_right (by omega) (by omega)
    rw [hL] at ha hb ⊢
    have := down_All iv L (by omega) a b 0 W3.drew (.slice none 0 0) [] (by omega) (by omega) ha hb hb0 (HD3.out.keep ((Kept.refl W3).drew)) HR3.out (by simp; omega)
    rw [List.nil_append] at this
    exact this)
  have HKX := hidMk k3
  have HBB := hidMk hB
  clear hA hG iv ha hb hab hfz hlo hne k3 hs3 habl c4 c5 c6 hg9 hL hlv hB hb0
  go_enter Tryd.func35, Tryd.ntmps35
  go_upto_region 5 with fail
  rw [← hfb, ← hsb, ← hpb, ← hW3]
  clear hfb hsb hpb hW3
  refine wp_region_held_drew (S := (DE w0 g p ow most n rf nd M codes pb sb fb ab B (.func (.func 36) #[] #[.pointer (some ⟨ab, 0, none⟩)]) (.func (.func 49) #[] #[.pointer (some ⟨pb, 0, none⟩), .pointer (some ⟨sb, 0, none⟩), .pointer (some ⟨fb, 0, none⟩)]))) (by kernel_rfl) ?_ (fun hHeld => ?_)
  · exact HD3.out.keep ((Kept.refl W3).drew)
  refine wpAnyH_take (i := 0) (oi := { dst := some 13, op := _, type := _, pos := _, after := _, guard := _ }) (v := ?_) rfl (by kernel_rfl) (by kernel_rfl) (by kernel_rfl) (fun _ _ _ h => h) (Or.inl ⟨by rfl, ?_⟩) (by assumption) ?_
  rotate_left
  · (intro w hSw; have s0 := hSw.c6; have s1 := hSw.c4; have s2 := hSw.pg.c2; clear hSw; go_simp; (try with_reducible rfl))
  (try simp only [Act.put, List.setIfInBounds_toArray, List.set_cons_zero, List.set_cons_succ])
  refine wpAnyH_take (i := 1) (oi := { dst := some 14, op := _, type := _, pos := _, after := _, guard := _ }) (v := ?_) rfl (by kernel_rfl) (by kernel_rfl) (by kernel_rfl) (fun _ _ _ h => h) (Or.inl ⟨by rfl, ?_⟩) (by assumption) ?_
  rotate_left
  · (intro w hSw; have s0 := hSw.c6; have s1 := hSw.c4; have s2 := hSw.pg.c2; clear hSw; go_simp; (try with_reducible rfl))
  (try simp only [Act.put, List.setIfInBounds_toArray, List.set_cons_zero, List.set_cons_succ])
  refine wpAnyH_take (i := 2) (oi := { dst := some 15, op := _, type := _, pos := _, after := _, guard := _ }) (v := ?_) rfl (by kernel_rfl) (by kernel_rfl) (by kernel_rfl) (fun _ _ _ h => h) (Or.inl ⟨by rfl, ?_⟩) (by assumption) ?_
  rotate_left
  · (intro w hSw; have s0 := hSw.c6; have s1 := hSw.c4; have s2 := hSw.pg.c2; clear hSw; go_simp; (try with_reducible rfl))
  (try simp only [Act.put, List.setIfInBounds_toArray, List.set_cons_zero, List.set_cons_succ])
  refine wpAnyH_take (i := 3) (oi := { dst := some 16, op := _, type := _, pos := _, after := _, guard := _ }) (v := ?_) rfl (by kernel_rfl) (by kernel_rfl) (by kernel_rfl) (fun _ _ _ h => h) (Or.inl ⟨by rfl, ?_⟩) (by assumption) ?_
  rotate_left
  · (intro w hSw; have s0 := hSw.c6; have s1 := hSw.c4; have s2 := hSw.pg.c2; clear hSw; go_simp; (try with_reducible rfl))
  (try simp only [Act.put, List.setIfInBounds_toArray, List.set_cons_zero, List.set_cons_succ])
  refine wpAnyH_take (i := 4) (oi := { dst := some 17, op := _, type := _, pos := _, after := _, guard := _ }) (v := ?_) rfl (by kernel_rfl) (by kernel_rfl) (by kernel_rfl) (fun _ _ _ h => h) (Or.inl ⟨by rfl, ?_⟩) (by assumption) ?_
  rotate_left
  · (intro w hSw; have s0 := hSw.c6; have s1 := hSw.c4; have s2 := hSw.pg.c2; clear hSw; go_simp; (try with_reducible rfl))
  (try simp only [Act.put, List.setIfInBounds_toArray, List.set_cons_zero, List.set_cons_succ])
  refine wpAnyH_take (i := 5) (oi := { dst := some 18, op := _, type := _, pos := _, after := _, guard := _ }) (v := ?_) rfl (by kernel_rfl) (by kernel_rfl) (by kernel_rfl) (fun _ _ _ h => h) (Or.inl ⟨by rfl, ?_⟩) (by assumption) ?_
  rotate_left
  · (intro w hSw; have s0 := hSw.c6; have s1 := hSw.c4; have s2 := hSw.pg.c2; clear hSw; go_simp; (try with_reducible rfl))
  (try simp only [Act.put, List.setIfInBounds_toArray, List.set_cons_zero, List.set_cons_succ])
  refine wpAnyH_take (i := 6) (oi := { dst := some 19, op := _, type := _, pos := _, after := _, guard := _ }) (v := ?_) rfl (by kernel_rfl) (by kernel_rfl) (by kernel_rfl) (fun _ _ _ h => h) (Or.inl ⟨by rfl, ?_⟩) (by assumption) ?_
  rotate_left
  · (intro w hSw; have s0 := hSw.c6; have s1 := hSw.c4; have s2 := hSw.pg.c2; clear hSw; go_simp; (try with_reducible rfl))
  (try simp only [Act.put, List.setIfInBounds_toArray, List.set_cons_zero, List.set_cons_succ])
  refine wpAnyH_ready (rs := [7]) (by kernel_rfl) (by simp) ?_
  refine AllReadyH.cons (o := { dst := some 20, op := _, type := _, pos := _, after := _, guard := _ }) rfl (fun K hK => ?_) AllReadyH.nil
  go_simp
  refine HDN.out.mono ?_
  rintro e wK ⟨rfl, hst⟩
  have HST := hidMk hst
  clear hst
  (try go_wp2_with fail)
  refine hK.out _ _ ?_ (fun hHeld => ?_)
  · exact (HD3.out.keep ((Kept.refl W3).drew)).step HR3.out (Classical.choose_spec HST.out).2.1
  clear hK K
  (try simp only [Act.put, List.setIfInBounds_toArray, List.set_cons_zero, List.set_cons_succ])
  refine wpAnyH_take (i := 8) (oi := { dst := some 8, op := _, type := _, pos := _, after := _, guard := _ }) (v := ?_) rfl (by kernel_rfl) (by kernel_rfl) (by kernel_rfl) (fun _ _ _ h => h) (Or.inl ⟨by rfl, ?_⟩) (by assumption) ?_
  rotate_left
  · (intro w hSw; have s0 := hSw.c6; have s1 := hSw.c4; have s2 := hSw.pg.c2; clear hSw; go_simp; (try with_reducible rfl))
  (try simp only [Act.put, List.setIfInBounds_toArray, List.set_cons_zero, List.set_cons_succ])
  refine wpAnyH_done (by kernel_rfl) ?_ _
  go_wp2_with fail
  go_ret
  obtain ⟨v', h1, h2, h3⟩ := HST.out
  refine ⟨rfl, v', by rw [← HBB.out]; exact h1, ?_⟩
  exact ((Chg.of_kept (HKX.out.drew)).trans (h2.mono (fun j _ e => e.elim id (fun e => by simp [Value.ownBlock] at e))))
set_option maxHeartbeats 4000000 in
set_option maxRecDepth 100000 in
theorem tog_Differ {X : World} {ab : Nat} (hA : AS w0 X p ow most n rf nd M) (hG : PG X g p codes) (iv : PInv n rf nd T lev (lvls codes)) (a b : Int) (ha : RootOk rf lev (lvls codes) a) (hb : RootOk rf lev (lvls codes) b) (hab : X.cell? ⟨ab, 0, none⟩ = some (.slice none 0 0)) (hfz : X.frozen? ⟨ab, 0, none⟩ = false) (hlo : w0.heap.size ≤ ab) (hne : p ≠ ab ∧ (∀ j, ow = some j → j ≠ ab) ∧ g ≠ ab) :
    Calls Tryd.prog 35 #[.pointer (some ⟨g, 0, none⟩), .int .i64 a, .int .i64 b, .func (.func 38) #[] #[.pointer (some ⟨ab, 0, none⟩)]] X fun e w' => e = .returned (.int .i64 0) ∧ ∃ v', RW ab (X.heap.size + 3) 3 1 cfI w' v' (selL nd (lvls codes) a b 0 (8 ^ lvls codes)) ∧ Chg (fun k => k = ab) X w' := by
  obtain ⟨pb, hpb⟩ : ∃ x, x = X.heap.size := ⟨_, rfl⟩
  obtain ⟨sb, hsb⟩ : ∃ x, x = X.heap.size + 1 := ⟨_, rfl⟩
  obtain ⟨fb, hfb⟩ : ∃ x, x = X.heap.size + 1 + 1 := ⟨_, rfl⟩
  obtain ⟨B, hB⟩ : ∃ x, x = X.heap.size + 3 := ⟨_, rfl⟩
  obtain ⟨W3, hW3⟩ : ∃ W, W = (((X.alloc (.cells #[.pointer (some ⟨g, 0, none⟩)] 26)).alloc (.cells #[.func (.func 38) #[] #[.pointer (some ⟨ab, 0, none⟩)]] 82)).alloc (.cells #[.func (.func 49) #[] #[.pointer (some ⟨pb, 0, none⟩), .pointer (some ⟨sb, 0, none⟩), .pointer (some ⟨fb, 0, none⟩)]] 97)) := ⟨_, rfl⟩
  have k3 : Kept X W3 := by rw [hW3]; exact (((Kept.refl X).alloc _).alloc _).alloc _
  have hs3 : W3.heap.size = B := by rw [hW3, hB]; simp
  have habl : ab < X.heap.size := cell_lt hab
  have HR3 := hidMk (show RW ab B 3 1 cfI W3.drew (.slice none 0 0) [] from (⟨k3.cellp hab, (k3.frozen (p := ⟨ab, 0, none⟩) habl).trans hfz, World.ownsRow_nil _ _ _ _, by omega, by omega⟩ : RW ab B 3 1 cfI W3 (.slice none 0 0) []).kept ((Kept.refl W3).drew))
  have c4 : W3.cell? ⟨pb, 0, none⟩ = some (.pointer (some ⟨g, 0, none⟩)) := by rw [hW3, hpb]; exact ((((Kept.refl (X.alloc _)).alloc _).alloc _)).cellp (new_val X _ _)
  have c5 : W3.cell? ⟨sb, 0, none⟩ = some (.func (.func 38) #[] #[.pointer (some ⟨ab, 0, none⟩)]) := by rw [hW3, hsb]; exact ((Kept.refl _).alloc _).cellp (new_val_at _ _ _ (by simp))
  have c6 : W3.cell? ⟨fb, 0, none⟩ = some (.func (.func 49) #[] #[.pointer (some ⟨pb, 0, none⟩), .pointer (some ⟨sb, 0, none⟩), .pointer (some ⟨fb, 0, none⟩)]) := by rw [hW3, hfb]; exact new_val_at _ _ _ (by simp)
  have hg9 := hG.lt
  have HD3 := hidMk (show DE w0 g p ow most n rf nd M codes pb sb fb ab B (.func (.func 38) #[] #[.pointer (some ⟨ab, 0, none⟩)]) (.func (.func 49) #[] #[.pointer (some ⟨pb, 0, none⟩), .pointer (some ⟨sb, 0, none⟩), .pointer (some ⟨fb, 0, none⟩)]) W3 from ⟨hA.keep k3, hG.kept k3, c4, c5, c6, ⟨hlo, by have := hA.1.size; omega⟩, ⟨by have := hA.ok.2.2.2.2.2.2.1; omega, hne.1⟩, fun j hj => ⟨by have := (hA.ok.2.2.2.2.2.2.2 j hj).1; omega, hne.2.1 j hj⟩, ⟨by omega, hne.2.2⟩, ⟨by omega, by omega⟩, ⟨by omega, by omega⟩, by omega, by omega⟩)
  have hlv := lvls_le codes
  obtain ⟨L, hL⟩ : ∃ L, lvls codes = L + 1 := ⟨lvls codes - 1, by omega⟩
  have HDN := hidMk (show Calls Tryd.prog 49 #[.int .i64 a, .int .i64 b, .int .i64 ((lvls codes : Nat) : Int), .int .i64 0, .pointer (some ⟨pb, 0, none⟩), .pointer (some ⟨sb, 0, none⟩), .pointer (some ⟨fb, 0, none⟩)] W3.drew fun e w' => e = .returned (.int .i64 0) ∧ StepR ab B 3 1 cfI W3.drew (.slice none 0 0) w' (selL nd (lvls codes) a b 0 (8 ^ lvls codes)) from by
    have hp : 8 ^ (L + 1) ≤ 8 ^ 4 := Nat.pow_le_pow_right (by omega) (by omega)
    rw [hL] at ha hb ⊢
    have := down_Differ iv L (by omega) a b 0 W3.drew (.slice none 0 0) [] (by omega) (by omega) ha hb (HD3.out.keep ((Kept.refl W3).drew)) HR3.out (by simp; omega)
    rw [List.nil_append] at this
    exact this)
  have HKX := hidMk k3
  have HBB := hidMk hB
  clear hA hG iv ha hb hab hfz hlo hne k3 hs3 habl c4 c5 c6 hg9 hL hlv hB
  go_enter Tryd.func35, Tryd.ntmps35
  go_upto_region 5 with fail
  rw [← hfb, ← hsb, ← hpb, ← hW3]
  clear hfb hsb hpb hW3
  refine wp_region_held_drew (S := (DE w0 g p ow most n rf nd M codes pb sb fb ab B (.func (.func 38) #[] #[.pointer (some ⟨ab, 0, none⟩)]) (.func (.func 49) #[] #[.pointer (some ⟨pb, 0, none⟩), .pointer (some ⟨sb, 0, none⟩), .pointer (some ⟨fb, 0, none⟩)]))) (by kernel_rfl) ?_ (fun hHeld => ?_)
  · exact HD3.out.keep ((Kept.refl W3).drew)
  refine wpAnyH_take (i := 0) (oi := { dst := some 13, op := _, type := _, pos := _, after := _, guard := _ }) (v := ?_) rfl (by kernel_rfl) (by kernel_rfl) (by kernel_rfl) (fun _ _ _ h => h) (Or.inl ⟨by rfl, ?_⟩) (by assumption) ?_
  rotate_left
  · (intro w hSw; have s0 := hSw.c6; have s1 := hSw.c4; have s2 := hSw.pg.c2; clear hSw; go_simp; (try with_reducible rfl))
  (try simp only [Act.put, List.setIfInBounds_toArray, List.set_cons_zero, List.set_cons_succ])
  refine wpAnyH_take (i := 1) (oi := { dst := some 14, op := _, type := _, pos := _, after := _, guard := _ }) (v := ?_) rfl (by kernel_rfl) (by kernel_rfl) (by kernel_rfl) (fun _ _ _ h => h) (Or.inl ⟨by rfl, ?_⟩) (by assumption) ?_
  rotate_left
  · (intro w hSw; have s0 := hSw.c6; have s1 := hSw.c4; have s2 := hSw.pg.c2; clear hSw; go_simp; (try with_reducible rfl))
  (try simp only [Act.put, List.setIfInBounds_toArray, List.set_cons_zero, List.set_cons_succ])
  refine wpAnyH_take (i := 2) (oi := { dst := some 15, op := _, type := _, pos := _, after := _, guard := _ }) (v := ?_) rfl (by kernel_rfl) (by kernel_rfl) (by kernel_rfl) (fun _ _ _ h => h) (Or.inl ⟨by rfl, ?_⟩) (by assumption) ?_
  rotate_left
  · (intro w hSw; have s0 := hSw.c6; have s1 := hSw.c4; have s2 := hSw.pg.c2; clear hSw; go_simp; (try with_reducible rfl))
  (try simp only [Act.put, List.setIfInBounds_toArray, List.set_cons_zero, List.set_cons_succ])
  refine wpAnyH_take (i := 3) (oi := { dst := some 16, op := _, type := _, pos := _, after := _, guard := _ }) (v := ?_) rfl (by kernel_rfl) (by kernel_rfl) (by kernel_rfl) (fun _ _ _ h => h) (Or.inl ⟨by rfl, ?_⟩) (by assumption) ?_
  rotate_left
  · (intro w hSw; have s0 := hSw.c6; have s1 := hSw.c4; have s2 := hSw.pg.c2; clear hSw; go_simp; (try with_reducible rfl))
  (try simp only [Act.put, List.setIfInBounds_toArray, List.set_cons_zero, List.set_cons_succ])
  refine wpAnyH_take (i := 4) (oi := { dst := some 17, op := _, type := _, pos := _, after := _, guard := _ }) (v := ?_) rfl (by kernel_rfl) (by kernel_rfl) (by kernel_rfl) (fun _ _ _ h => h) (Or.inl ⟨by rfl, ?_⟩) (by assumption) ?_
  rotate_left
  · (intro w hSw; have s0 := hSw.c6; have s1 := hSw.c4; have s2 := hSw.pg.c2; clear hSw; go_simp; (try with_reducible rfl))
  (try simp only [Act.put, List.setIfInBounds_toArray, List.set_cons_zero, List.set_cons_succ])
  refine wpAnyH_take (i := 5) (oi := { dst := some 18, op := _, type := _, pos := _, after := _, guard := _ }) (v := ?_) rfl (by kernel_rfl) (by kernel_rfl) (by kernel_rfl) (fun _ _ _ h => h) (Or.inl ⟨by rfl, ?_⟩) (by assumption) ?_
  rotate_left
  · (intro w hSw; have s0 := hSw.c6; have s1 := hSw.c4; have s2 := hSw.pg.c2; clear hSw; go_simp; (try with_reducible rfl))
  (try simp only [Act.put, List.setIfInBounds_toArray, List.set_cons_zero, List.set_cons_succ])
  refine wpAnyH_take (i := 6) (oi := { dst := some 19, op := _, type := _, pos := _, after := _, guard := _ }) (v := ?_) rfl (by kernel_rfl) (by kernel_rfl) (by kernel_rfl) (fun _ _ _ h => h) (Or.inl ⟨by rfl, ?_⟩) (by assumption) ?_
  rotate_left
  · (intro w hSw; have s0 := hSw.c6; have s1 := hSw.c4; have s2 := hSw.pg.c2; clear hSw; go_simp; (try with_reducible rfl))
  (try simp only [Act.put, List.setIfInBounds_toArray, List.set_cons_zero, List.set_cons_succ])
  refine wpAnyH_ready (rs := [7]) (by kernel_rfl) (by simp) ?_
  refine AllReadyH.cons (o := { dst := some 20, op := _, type := _, pos := _, after := _, guard := _ }) rfl (fun K hK => ?_) AllReadyH.nil
  go_simp
  refine HDN.out.mono ?_
  rintro e wK ⟨rfl, hst⟩
  have HST := hidMk hst
  clear hst
  (try go_wp2_with fail)
  refine hK.out _ _ ?_ (fun hHeld => ?_)
  · exact (HD3.out.keep ((Kept.refl W3).drew)).step HR3.out (Classical.choose_spec HST.out).2.1
  clear hK K
  (try simp only [Act.put, List.setIfInBounds_toArray, List.set_cons_zero, List.set_cons_succ])
  refine wpAnyH_take (i := 8) (oi := { dst := some 8, op := _, type := _, pos := _, after := _, guard := _ }) (v := ?_) rfl (by kernel_rfl) (by kernel_rfl) (by kernel_rfl) (fun _ _ _ h => h) (Or.inl ⟨by rfl, ?_⟩) (by assumption) ?_
  rotate_left
  · (intro w hSw; have s0 := hSw.c6; have s1 := hSw.c4; have s2 := hSw.pg.c2; clear hSw; go_simp; (try with_reducible rfl))
  (try simp only [Act.put, List.setIfInBounds_toArray, List.set_cons_zero, List.set_cons_succ])
  refine wpAnyH_done (by kernel_rfl) ?_ _
  go_wp2_with fail
  go_ret
  obtain ⟨v', h1, h2, h3⟩ := HST.out
  refine ⟨rfl, v', by rw [← HBB.out]; exact h1, ?_⟩
  exact ((Chg.of_kept (HKX.out.drew)).trans (h2.mono (fun j _ e => e.elim id (fun e => by simp [Value.ownBlock] at e))))
set_option maxHeartbeats 4000000 in
theorem pg_All {W : World} (hA : AS w0 W p ow most n rf nd M) (hG : PG W g p codes) (iv : PInv n rf nd T lev (lvls codes)) (a : Int) (ha : RootOk rf lev (lvls codes) a) :
    Calls Tryd.prog 22 #[.pointer (some ⟨g, 0, none⟩), .int .i64 a] W fun e w' => ∃ v, e = .returned (.tuple #[v, .int .i64 0]) ∧ w'.ownsRow W.heap.size 80 3 v (selL nd (lvls codes) a 0 0 (8 ^ lvls codes)).length (cfL (selL nd (lvls codes) a 0 0 (8 ^ lvls codes))) ∧ Kept W w' := by
  obtain ⟨ab, hab⟩ : ∃ x, x = W.heap.size := ⟨_, rfl⟩
  obtain ⟨X, hX⟩ : ∃ X, X = W.alloc (.cells #[.slice none 0 0] 50) := ⟨_, rfl⟩
  have kX : Kept W X := by rw [hX]; exact (Kept.refl W).alloc _
  have cX : X.cell? ⟨ab, 0, none⟩ = some (.slice none 0 0) := by rw [hX, hab]; exact new_val _ _ _
  have fX : X.frozen? ⟨ab, 0, none⟩ = false := by
    have hh := World.heap_new W (.cells #[.slice none 0 0] 50)
    rw [hX, hab]; simp only [World.frozen?, hh]; simp
  have HTG := hidMk (tog_All (hA.keep kX) (hG.kept kX) iv a 0 ha (.inl rfl) rfl cX fX (by rw [hab]; exact hA.1.size) ⟨by have := hA.ok.2.2.2.2.2.2.1; omega, fun j hj => by have := (hA.ok.2.2.2.2.2.2.2 j hj).1; omega, by have := hG.lt; omega⟩)
  have HAB := hidMk (show W.heap.size ≤ ab ∧ W.heap.size ≤ X.heap.size from ⟨by omega, kX.size⟩)
  have HKX := hidMk kX
  generalize hS : selL nd (lvls codes) a 0 0 (8 ^ lvls codes) = S at *
  clear hA hG iv ha kX cX fX hS
  go_enter Tryd.func22, Tryd.ntmps22
  go_wp2_with fail
  rw [← hX, ← hab]
  clear hX hab
  refine HTG.out.mono ?_
  rintro e w2 ⟨rfl, v, hr, hc⟩
  obtain ⟨va, vc, hv⟩ := hr.shape
  subst hv
  have c2 := hr.c
  have HR := hidMk hr
  have HC := hidMk hc
  generalize hm : S.length = m at c2
  have HM := hidMk hm
  clear hr hc hm HTG
  go_wp2_with fail
  go_ret2
  have hm := HM.out
  subst hm
  refine ⟨_, rfl, ?_, ?_⟩
  · obtain ⟨h0, ⟨h1, h2⟩ | ⟨k, cap, cur, hv, hb', hh, r⟩⟩ := HR.out.ow
    · exact ⟨h0, .inl ⟨h1, h2⟩⟩
    · exact ⟨h0, .inr ⟨k, cap, cur, hv, by have := HAB.out.2; omega, hh, r⟩⟩
  · exact Chg.kept HKX.out HC.out (fun j e => by have := HAB.out.1; omega)
set_option maxHeartbeats 4000000 in
theorem pg_Differ {W : World} (hA : AS w0 W p ow most n rf nd M) (hG : PG W g p codes) (iv : PInv n rf nd T lev (lvls codes)) (a b : Int) (ha : RootOk rf lev (lvls codes) a) (hb : RootOk rf lev (lvls codes) b) :
    Calls Tryd.prog 24 #[.pointer (some ⟨g, 0, none⟩), .int .i64 a, .int .i64 b] W fun e w' => ∃ v, e = .returned (.tuple #[v, .int .i64 0]) ∧ w'.ownsRow W.heap.size 3 1 v (selL nd (lvls codes) a b 0 (8 ^ lvls codes)).length (cfI (selL nd (lvls codes) a b 0 (8 ^ lvls codes))) ∧ Kept W w' := by
  obtain ⟨ab, hab⟩ : ∃ x, x = W.heap.size := ⟨_, rfl⟩
  obtain ⟨X, hX⟩ : ∃ X, X = W.alloc (.cells #[.slice none 0 0] 54) := ⟨_, rfl⟩
  have kX : Kept W X := by rw [hX]; exact (Kept.refl W).alloc _
  have cX : X.cell? ⟨ab, 0, none⟩ = some (.slice none 0 0) := by rw [hX, hab]; exact new_val _ _ _
  have fX : X.frozen? ⟨ab, 0, none⟩ = false := by
    have hh := World.heap_new W (.cells #[.slice none 0 0] 54)
    rw [hX, hab]; simp only [World.frozen?, hh]; simp
  have HTG := hidMk (tog_Differ (hA.keep kX) (hG.kept kX) iv a b ha hb cX fX (by rw [hab]; exact hA.1.size) ⟨by have := hA.ok.2.2.2.2.2.2.1; omega, fun j hj => by have := (hA.ok.2.2.2.2.2.2.2 j hj).1; omega, by have := hG.lt; omega⟩)
  have HAB := hidMk (show W.heap.size ≤ ab ∧ W.heap.size ≤ X.heap.size from ⟨by omega, kX.size⟩)
  have HKX := hidMk kX
  generalize hS : selL nd (lvls codes) a b 0 (8 ^ lvls codes) = S at *
  clear hA hG iv ha kX cX fX hS
  go_enter Tryd.func24, Tryd.ntmps24
  go_wp2_with fail
  rw [← hX, ← hab]
  clear hX hab
  refine HTG.out.mono ?_
  rintro e w2 ⟨rfl, v, hr, hc⟩
  obtain ⟨va, vc, hv⟩ := hr.shape
  subst hv
  have c2 := hr.c
  have HR := hidMk hr
  have HC := hidMk hc
  generalize hm : S.length = m at c2
  have HM := hidMk hm
  clear hr hc hm HTG
  go_wp2_with fail
  go_ret2
  have hm := HM.out
  subst hm
  refine ⟨_, rfl, ?_, ?_⟩
  · obtain ⟨h0, ⟨h1, h2⟩ | ⟨k, cap, cur, hv, hb', hh, r⟩⟩ := HR.out.ow
    · exact ⟨h0, .inl ⟨h1, h2⟩⟩
    · exact ⟨h0, .inr ⟨k, cap, cur, hv, by have := HAB.out.2; omega, hh, r⟩⟩
  · exact Chg.kept HKX.out HC.out (fun j e => by have := HAB.out.1; omega)
end
end Go.Proofs.YtjkbhaplngnniaaDoor
namespace Go.Proofs.YtjkbhaplngnniaaDoor
open Go.RowKit Go.Maps
set_option linter.unusedSimpArgs false
set_option linter.unusedVariables false

theorem OwnI.kp {w w' : World} {B : Nat} {v : Value} {l : List Int} (h : OwnI w B v l) (k : Kept w w') : OwnI w' B v l := h.chg (S := fun _ => False) (Chg.of_kept k) (fun _ _ e => e)
theorem owns_shape {X : World} {B : Nat} {T : TypeId} {sz n : Nat} {v : Value} {xs : List Value} (h : X.ownsRow B T sz v n xs) : ∃ a c, v = .slice a n c := by
  obtain ⟨h0, ⟨h1, h2⟩ | ⟨k, cap, cur, hv, _⟩⟩ := h
  · exact ⟨none, 0, by rw [h1, h2]⟩
  · exact ⟨_, _, hv⟩
theorem selL_snoc (nd : Int → ANd) (l : Nat) (a b first : Int) (m : Nat) : selL nd l a b first (m + 1) = selL nd l a b first m ++ sel (first + (m : Int)) (entL nd l a m) (entL nd l b m) := by
  unfold selL
  rw [List.range_succ, List.flatMap_append]
  simp
theorem selL_cut (nd : Int → ANd) (l : Nat) (a b first : Int) (m : Nat) : ∀ k, (∀ o, m ≤ o → o < m + k → entL nd l a o = entL nd l b o) → selL nd l a b first (m + k) = selL nd l a b first m := by
  intro k
  induction k with
  | zero => intro _; rfl
  | succ k ih =>
    intro h
    rw [← Nat.add_assoc, selL_snoc, ih (fun o h1 h2 => h o h1 (by omega)), h (m + k) (by omega) (by omega)]
    unfold sel
    rw [if_pos rfl, List.append_nil]
section
variable {w0 W : World} {t g p q tb cap : Nat} {codes room : Int} {l : List (Int × Int)} {n : Nat} {rf : Int → Nat} {nd : Int → ANd} {n2 : Nat} {nd2 : Int → ANd} {M : Nat} {lev : Int → Nat}
theorem JS.cut (h : JS w0 W t g p q tb cap codes room l n rf nd n2 nd2 M lev) {k1 k2 : Nat} (h1 : k1 < l.length) (h1p : 0 < (l.getD k1 (0, 0)).2) (h2 : k2 < l.length) (h2p : 0 < (l.getD k2 (0, 0)).2) :
    selL nd (lvls codes) (l.getD k1 (0, 0)).1 (l.getD k2 (0, 0)).1 0 (8 ^ lvls codes) = selL nd (lvls codes) (l.getD k1 (0, 0)).1 (l.getD k2 (0, 0)).1 0 codes.toNat := by
  have hk := h.pg.k1
  have hp := lvls_pow (c := codes) (by have := h.pg.k2; omega)
  obtain ⟨d, hd⟩ : ∃ d, 8 ^ lvls codes = codes.toNat + d := ⟨8 ^ lvls codes - codes.toNat, by omega⟩
  rw [hd]
  refine selL_cut _ _ _ _ _ _ d (fun o ho1 ho2 => ?_)
  rw [h.hz k1 h1 h1p o (by omega) (by omega), h.hz k2 h2 h2p o (by omega) (by omega)]
theorem js_rget (h : JS w0 W t g p q tb cap codes room l n rf nd n2 nd2 M lev) {k : Nat} (hk : k < l.length) (hp : 0 < (l.getD k (0, 0)).2) {X : World} (kX : Kept W X) (c : Nat) (hc : (c : Int) < codes) :
    Calls Tryd.prog 23 #[.pointer (some ⟨q, 0, none⟩), .int .i64 (l.getD k (0, 0)).1, .int .i64 c, .int .i64 (lvls codes)] X fun e w' => e = .returned (.agg #[.int .i64 (entL nd (lvls codes) (l.getD k (0, 0)).1 c).1, .bool (entL nd (lvls codes) (l.getD k (0, 0)).1 c).2]) ∧ Kept X w' := by
  obtain ⟨_, _, _, _, _, hq⟩ := (h.ba.keep kX).rq
  have hlv := lvls_le codes
  have hk2 := h.pg.k2
  have hr := h.rt k hk hp
  have iv2 := h.iv.transfer h.sm hq.ok hq.kok
  have hpw := lvls_pow (c := codes) (by omega)
  have := r10_Get hq (l.getD k (0, 0)).1 c (lvls codes) (by omega) (by omega) (by omega) (by omega) (iv2.wayOk hr c)
  rw [wN_congr h.iv hr h.sm (Nat.le_refl 1) hlv.1, ent_get nd c _ _ hlv.1 (by omega)] at this
  exact this
theorem js_get (h : JS w0 W t g p q tb cap codes room l n rf nd n2 nd2 M lev) {k : Nat} (hk : k < l.length) (hp : 0 < (l.getD k (0, 0)).2) {X : World} (kX : Kept W X) (c : Nat) (hc : (c : Int) < codes) :
    Calls Tryd.prog 27 #[.pointer (some ⟨g, 0, none⟩), .int .i64 (l.getD k (0, 0)).1, .int .i64 c] X fun e w' => e = .returned (.tuple #[.agg #[.int .i64 (entL nd (lvls codes) (l.getD k (0, 0)).1 c).1, .bool (entL nd (lvls codes) (l.getD k (0, 0)).1 c).2], .int .i64 0]) ∧ Kept X w' := by
  obtain ⟨ow, hA⟩ := (h.ba.keep kX).as
  have hlv := lvls_le codes
  have hk2 := h.pg.k2
  have hr := h.rt k hk hp
  have hpw := lvls_pow (c := codes) (by omega)
  have := pg_Get hA (h.pg.kept kX) (l.getD k (0, 0)).1 c (by omega) hc (h.iv.wayOk hr c)
  rw [ent_get nd c _ _ hlv.1 (by omega)] at this
  exact this
theorem js_Differ (h : JS w0 W t g p q tb cap codes room l n rf nd n2 nd2 M lev) {k1 k2 : Nat} (h1 : k1 < l.length) (h1p : 0 < (l.getD k1 (0, 0)).2) (h2 : k2 < l.length) (h2p : 0 < (l.getD k2 (0, 0)).2) {X : World} (kX : Kept W X) :
    Calls Tryd.prog 24 #[.pointer (some ⟨g, 0, none⟩), .int .i64 (l.getD k1 (0, 0)).1, .int .i64 (l.getD k2 (0, 0)).1] X fun e w' => ∃ v, e = .returned (.tuple #[v, .int .i64 0]) ∧ OwnI w' X.heap.size v ((selL nd (lvls codes) (l.getD k1 (0, 0)).1 (l.getD k2 (0, 0)).1 0 codes.toNat).map fun x => x.1) ∧ Kept X w' := by
  obtain ⟨ow, hA⟩ := (h.ba.keep kX).as
  have := pg_Differ hA (h.pg.kept kX) h.iv _ _ (h.rt k1 h1 h1p) (h.rt k2 h2 h2p)
  rw [h.cut h1 h1p h2 h2p] at this
  refine this.mono ?_
  rintro e w' ⟨v, rfl, a, b⟩
  exact ⟨v, rfl, by unfold OwnI; rw [List.length_map]; exact a, b⟩
theorem js_All (h : JS w0 W t g p q tb cap codes room l n rf nd n2 nd2 M lev) {k : Nat} (h1 : k < l.length) (h1p : 0 < (l.getD k (0, 0)).2) {X : World} (kX : Kept W X) :
    Calls Tryd.prog 22 #[.pointer (some ⟨g, 0, none⟩), .int .i64 (l.getD k (0, 0)).1] X fun e w' => ∃ v, e = .returned (.tuple #[v, .int .i64 0]) ∧ w'.ownsRow X.heap.size 80 3 v (selL nd (lvls codes) (l.getD k (0, 0)).1 0 0 codes.toNat).length (cfL (selL nd (lvls codes) (l.getD k (0, 0)).1 0 0 codes.toNat)) ∧ Kept X w' := by
  obtain ⟨ow, hA⟩ := (h.ba.keep kX).as
  have := pg_All hA (h.pg.kept kX) h.iv _ (h.rt k h1 h1p)
  have hc := h.cut (k2 := 0) h1 h1p h.fs.1 h.fs.2.2
  rw [h.fs.2.1] at hc
  rw [hc] at this
  exact this
end
end Go.Proofs.YtjkbhaplngnniaaDoor
