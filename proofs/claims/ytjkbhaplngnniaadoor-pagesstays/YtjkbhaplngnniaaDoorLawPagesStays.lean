/- PagesStays: each tree that is still asked for has all its entries as they were; a tree whose entries are all nothing has the root 0. -/
import Derived.Test.YtjkbhaplngnniaaDoorPg28
namespace Go.Proofs.YtjkbhaplngnniaaDoor
open Go.RowKit Go.Maps
set_option linter.unusedSimpArgs false
set_option linter.unusedVariables false

section
variable {w0 : World} {g p : Nat} {ow : Option Nat} {most : Int} {n : Nat} {rf : Int → Nat} {nd : Int → ANd} {M : Nat} {codes : Int} {T lev : Int → Nat}
set_option maxHeartbeats 4000000 in
set_option maxRecDepth 100000 in
theorem tog_Any {X : World} {ab : Nat} (hA : AS w0 X p ow most n rf nd M) (hG : PG X g p codes) (iv : PInv n rf nd T lev (lvls codes)) (a : Int) (hab : X.cell? ⟨ab, 0, none⟩ = some (.slice none 0 0)) (hfz : X.frozen? ⟨ab, 0, none⟩ = false) (hlo : w0.heap.size ≤ ab) (hne : p ≠ ab ∧ (∀ j, ow = some j → j ≠ ab) ∧ g ≠ ab) :
    Calls Tryd.prog 35 #[.pointer (some ⟨g, 0, none⟩), .int .i64 a, .int .i64 0, .func (.func 36) #[] #[.pointer (some ⟨ab, 0, none⟩)]] X fun e w' => ∃ er : Int, e = .returned (.int .i64 er) ∧ ∃ v' L1, RW ab (X.heap.size + 3) 80 3 cfL w' v' L1 ∧ Chg (fun k => k = ab) X w' := by
  obtain ⟨pb, hpb⟩ : ∃ x, x = X.heap.size := ⟨_, rfl⟩
  obtain ⟨sb, hsb⟩ : ∃ x, x = X.heap.size + 1 := ⟨_, rfl⟩
  obtain ⟨fb, hfb⟩ : ∃ x, x = X.heap.size + 1 + 1 := ⟨_, rfl⟩
  obtain ⟨B, hB⟩ : ∃ x, x = X.heap.size + 3 := ⟨_, rfl⟩
  obtain ⟨W3, hW3⟩ : ∃ W, W = (((X.alloc (.cells #[.pointer (some ⟨g, 0, none⟩)] 26)).alloc (.cells #[.func (.func 36) #[] #[.pointer (some ⟨ab, 0, none⟩)]] 82)).alloc (.cells #[.func (.func 49) #[] #[.pointer (some ⟨pb, 0, none⟩), .pointer (some ⟨sb, 0, none⟩), .pointer (some ⟨fb, 0, none⟩)]] 97)) := ⟨_, rfl⟩
  have k3 : Kept X W3 := by rw [hW3]; exact (((Kept.refl X).alloc _).alloc _).alloc _
  have hs3 : W3.heap.size = B := by rw [hW3, hB]; simp
  have habl : ab < X.heap.size := cell_lt hab
  have HR3 := hidMk (show RW ab B 80 3 cfL W3.drew (.slice none 0 0) [] from (⟨k3.cellp hab, (k3.frozen (p := ⟨ab, 0, none⟩) habl).trans hfz, World.ownsRow_nil _ _ _ _, by omega, by omega⟩ : RW ab B 80 3 cfL W3 (.slice none 0 0) []).kept ((Kept.refl W3).drew))
  have c4 : W3.cell? ⟨pb, 0, none⟩ = some (.pointer (some ⟨g, 0, none⟩)) := by rw [hW3, hpb]; exact ((((Kept.refl (X.alloc _)).alloc _).alloc _)).cellp (new_val X _ _)
  have c5 : W3.cell? ⟨sb, 0, none⟩ = some (.func (.func 36) #[] #[.pointer (some ⟨ab, 0, none⟩)]) := by rw [hW3, hsb]; exact ((Kept.refl _).alloc _).cellp (new_val_at _ _ _ (by simp))
  have c6 : W3.cell? ⟨fb, 0, none⟩ = some (.func (.func 49) #[] #[.pointer (some ⟨pb, 0, none⟩), .pointer (some ⟨sb, 0, none⟩), .pointer (some ⟨fb, 0, none⟩)]) := by rw [hW3, hfb]; exact new_val_at _ _ _ (by simp)
  have hg9 := hG.lt
  have HD3 := hidMk (show DE w0 g p ow most n rf nd M codes pb sb fb ab B (.func (.func 36) #[] #[.pointer (some ⟨ab, 0, none⟩)]) (.func (.func 49) #[] #[.pointer (some ⟨pb, 0, none⟩), .pointer (some ⟨sb, 0, none⟩), .pointer (some ⟨fb, 0, none⟩)]) W3 from ⟨hA.keep k3, hG.kept k3, c4, c5, c6, ⟨hlo, by have := hA.1.size; omega⟩, ⟨by have := hA.ok.2.2.2.2.2.2.1; omega, hne.1⟩, fun j hj => ⟨by have := (hA.ok.2.2.2.2.2.2.2 j hj).1; omega, hne.2.1 j hj⟩, ⟨by omega, hne.2.2⟩, ⟨by omega, by omega⟩, ⟨by omega, by omega⟩, by omega, by omega⟩)
  have hlv := lvls_le codes
  obtain ⟨L, hL⟩ : ∃ L, lvls codes = L + 1 := ⟨lvls codes - 1, by omega⟩
  have HDN := hidMk (show Calls Tryd.prog 49 #[.int .i64 a, .int .i64 0, .int .i64 ((lvls codes : Nat) : Int), .int .i64 0, .pointer (some ⟨pb, 0, none⟩), .pointer (some ⟨sb, 0, none⟩), .pointer (some ⟨fb, 0, none⟩)] W3.drew fun e w' => ∃ er : Int, e = .returned (.int .i64 er) ∧ ∃ L1 : List (Int × Int × Bool), L1.length ≤ ([] : List (Int × Int × Bool)).length + 8 ^ (L + 1) ∧ StepR ab B 80 3 cfL W3.drew (.slice none 0 0) w' L1 from by
    have hp : 8 ^ (L + 1) ≤ 8 ^ 4 := Nat.pow_le_pow_right (by omega) (by omega)
    rw [hL]
    exact down_Any iv L (by omega) a 0 W3.drew (.slice none 0 0) [] (by omega) (by omega) (HD3.out.keep ((Kept.refl W3).drew)) HR3.out (by simp; omega))
  have HKX := hidMk k3
  have HBB := hidMk hB
  clear hA hG iv hab hfz hlo hne k3 hs3 habl c4 c5 c6 hg9 hL hlv hB
  go_enter Tryd.func35, Tryd.ntmps35
  go_upto_region 5 with fail
  rw [← hfb, ← hsb, ← hpb, ← hW3]
  clear hfb hsb hpb hW3
  refine wp_region_held_drew (S := (DE w0 g p ow most n rf nd M codes pb sb fb ab B (.func (.func 36) #[] #[.pointer (some ⟨ab, 0, none⟩)]) (.func (.func 49) #[] #[.pointer (some ⟨pb, 0, none⟩), .pointer (some ⟨sb, 0, none⟩), .pointer (some ⟨fb, 0, none⟩)]))) (by kernel_rfl) ?_ (fun hHeld => ?_)
  · exact HD3.out.keep ((Kept.refl W3).drew)
  refine wpAnyH_take (i := 0) (oi := { dst := some 13, op := _, type := _, pos := _, after := _, guard := _ }) (v := ?_) rfl (by kernel_rfl) (by kernel_rfl) (by kernel_rfl) (fun _ _ _ h => h) (Or.inl ⟨by rfl, ?_⟩) (by assumption) ?_
  rotate_left
  · (intro w hSw; have s0 := hSw.c6; have s1 := hSw.c4; have s2 := hSw.pg.c2; clear hSw; go_simp; (try with_reducible rfl))
  (try simp only [Act.put, List.setIfInBounds_toArray, List.set_cons_zero, List.set_cons_succ])
  refine wpAnyH_take (i := 1) (oi := { dst := some 14, op := _, type := _, pos := _, after := _, guard := _ }) (v := ?_) rfl (by kernel_rfl) (by kernel_rfl) (by kernel_rfl) (fun _ _ _ h => h) (Or.inl ⟨by rfl, ?_⟩) (by assumption) ?_
  rotate_left
  · (intro w hSw; have s0 := hSw.c6; have s1 := hSw.c4; have s2 := hSw.pg.c2; clear hSw; go_simp; (try with_reducible rfl))
  (try simp only [Act.put, List.setIfInBounds_toArray, List.set_cons_zero, List.set_cons_succ])
  refine wpAnyH_take (i := 2) (oi := { dst := some 15, op := _, type := _, pos := _, after := _, guard := _ }) (v := ?_) rfl (by kernel_rfl) (by kernel_rfl) (by kernel_rfl) (fun _ _ _ h => h) (Or.inl ⟨by rfl, ?_⟩) (by assumption) ?_
  rotate_left
  · (intro w hSw; have s0 := hSw.c6; have s1 := hSw.c4; have s2 := hSw.pg.c2; clear hSw; go_simp; (try with_reducible rfl))
  (try simp only [Act.put, List.setIfInBounds_toArray, List.set_cons_zero, List.set_cons_succ])
  refine wpAnyH_take (i := 3) (oi := { dst := some 16, op := _, type := _, pos := _, after := _, guard := _ }) (v := ?_) rfl (by kernel_rfl) (by kernel_rfl) (by kernel_rfl) (fun _ _ _ h => h) (Or.inl ⟨by rfl, ?_⟩) (by assumption) ?_
  rotate_left
  · (intro w hSw; have s0 := hSw.c6; have s1 := hSw.c4; have s2 := hSw.pg.c2; clear hSw; go_simp; (try with_reducible rfl))
  (try simp only [Act.put, List.setIfInBounds_toArray, List.set_cons_zero, List.set_cons_succ])
  refine wpAnyH_take (i := 4) (oi := { dst := some 17, op := _, type := _, pos := _, after := _, guard := _ }) (v := ?_) rfl (by kernel_rfl) (by kernel_rfl) (by kernel_rfl) (fun _ _ _ h => h) (Or.inl ⟨by rfl, ?_⟩) (by assumption) ?_
  rotate_left
  · (intro w hSw; have s0 := hSw.c6; have s1 := hSw.c4; have s2 := hSw.pg.c2; clear hSw; go_simp; (try with_reducible rfl))
  (try simp only [Act.put, List.setIfInBounds_toArray, List.set_cons_zero, List.set_cons_succ])
  refine wpAnyH_take (i := 5) (oi := { dst := some 18, op := _, type := _, pos := _, after := _, guard := _ }) (v := ?_) rfl (by kernel_rfl) (by kernel_rfl) (by kernel_rfl) (fun _ _ _ h => h) (Or.inl ⟨by rfl, ?_⟩) (by assumption) ?_
  rotate_left
  · (intro w hSw; have s0 := hSw.c6; have s1 := hSw.c4; have s2 := hSw.pg.c2; clear hSw; go_simp; (try with_reducible rfl))
  (try simp only [Act.put, List.setIfInBounds_toArray, List.set_cons_zero, List.set_cons_succ])
  refine wpAnyH_take (i := 6) (oi := { dst := some 19, op := _, type := _, pos := _, after := _, guard := _ }) (v := ?_) rfl (by kernel_rfl) (by kernel_rfl) (by kernel_rfl) (fun _ _ _ h => h) (Or.inl ⟨by rfl, ?_⟩) (by assumption) ?_
  rotate_left
  · (intro w hSw; have s0 := hSw.c6; have s1 := hSw.c4; have s2 := hSw.pg.c2; clear hSw; go_simp; (try with_reducible rfl))
  (try simp only [Act.put, List.setIfInBounds_toArray, List.set_cons_zero, List.set_cons_succ])
  refine wpAnyH_ready (rs := [7]) (by kernel_rfl) (by simp) ?_
  refine AllReadyH.cons (o := { dst := some 20, op := _, type := _, pos := _, after := _, guard := _ }) rfl (fun K hK => ?_) AllReadyH.nil
  go_simp
  refine HDN.out.mono ?_
  rintro e wK ⟨er, rfl, L1, hL1, hst⟩
  have HST := hidMk (And.intro hL1 hst)
  clear hst hL1
  (try go_wp2_with fail)
  refine hK.out _ _ ?_ (fun hHeld => ?_)
  · exact (HD3.out.keep ((Kept.refl W3).drew)).step HR3.out (Classical.choose_spec HST.out.2).2.1
  clear hK K
  (try simp only [Act.put, List.setIfInBounds_toArray, List.set_cons_zero, List.set_cons_succ])
  refine wpAnyH_take (i := 8) (oi := { dst := some 8, op := _, type := _, pos := _, after := _, guard := _ }) (v := ?_) rfl (by kernel_rfl) (by kernel_rfl) (by kernel_rfl) (fun _ _ _ h => h) (Or.inl ⟨by rfl, ?_⟩) (by assumption) ?_
  rotate_left
  · (intro w hSw; have s0 := hSw.c6; have s1 := hSw.c4; have s2 := hSw.pg.c2; clear hSw; go_simp; (try with_reducible rfl))
  (try simp only [Act.put, List.setIfInBounds_toArray, List.set_cons_zero, List.set_cons_succ])
  refine wpAnyH_done (by kernel_rfl) ?_ _
  go_wp2_with fail
  go_ret
  obtain ⟨v', h1, h2, h3⟩ := HST.out.2
  refine ⟨er, rfl, v', _, by rw [← HBB.out]; exact h1, ?_⟩
  exact ((Chg.of_kept (HKX.out.drew)).trans (h2.mono (fun j _ e => e.elim id (fun e => by simp [Value.ownBlock] at e))))
def AnyP (W : World) (e : Ending) (w' : World) : Prop := ∃ va vn vc er, e = .returned (.tuple #[.slice va vn vc, .int .i64 er]) ∧ Kept W w'
set_option maxHeartbeats 4000000 in
theorem pg_AllAny {W : World} (hA : AS w0 W p ow most n rf nd M) (hG : PG W g p codes) (iv : PInv n rf nd T lev (lvls codes)) (a : Int) :
    Calls Tryd.prog 22 #[.pointer (some ⟨g, 0, none⟩), .int .i64 a] W (AnyP W) := by
  obtain ⟨ab, hab⟩ : ∃ x, x = W.heap.size := ⟨_, rfl⟩
  obtain ⟨X, hX⟩ : ∃ X, X = W.alloc (.cells #[.slice none 0 0] 50) := ⟨_, rfl⟩
  have kX : Kept W X := by rw [hX]; exact (Kept.refl W).alloc _
  have cX : X.cell? ⟨ab, 0, none⟩ = some (.slice none 0 0) := by rw [hX, hab]; exact new_val _ _ _
  have fX : X.frozen? ⟨ab, 0, none⟩ = false := by
    have hh := World.heap_new W (.cells #[.slice none 0 0] 50)
    rw [hX, hab]; simp only [World.frozen?, hh]; simp
  have HTG := hidMk (tog_Any (hA.keep kX) (hG.kept kX) iv a cX fX (by rw [hab]; exact hA.1.size) ⟨by have := hA.ok.2.2.2.2.2.2.1; omega, fun j hj => by have := (hA.ok.2.2.2.2.2.2.2 j hj).1; omega, by have := hG.lt; omega⟩)
  have HAB := hidMk (show W.heap.size ≤ ab from by omega)
  have HKX := hidMk kX
  clear hA hG iv kX cX fX
  go_enter Tryd.func22, Tryd.ntmps22
  go_wp2_with fail
  rw [← hX, ← hab]
  clear hX hab
  refine HTG.out.mono ?_
  rintro e w2 ⟨er, rfl, v, L1, hr, hc⟩
  obtain ⟨va, vc, hv⟩ := hr.shape
  subst hv
  have c2 := hr.c
  have HK := hidMk (Chg.kept HKX.out hc (fun j e => by have := HAB.out; omega))
  generalize L1.length = m at c2
  clear hr hc HTG
  by_cases her : er = 0
  · subst her
    go_wp2_with fail
    go_ret2
    exact ⟨va, m, vc, 0, rfl, HK.out⟩
  · have herb : (er == 0) = false := by simpa using her
    clear her
    go_wp2_with fail
    go_ret2
    exact ⟨none, 0, 0, er, rfl, HK.out⟩
end
theorem selL_nil (nd : Int → ANd) (l : Nat) (a b first : Int) : ∀ m, selL nd l a b first m = [] → ∀ o, o < m → entL nd l a o = entL nd l b o := by
  intro m
  induction m with
  | zero => intro _ o ho; omega
  | succ m ih =>
    intro h o ho
    rw [selL_snoc] at h
    obtain ⟨h1, h2⟩ := List.append_eq_nil_iff.1 h
    by_cases e : o = m
    · subst e
      unfold sel at h2
      by_cases e2 : entL nd l a o = entL nd l b o
      · exact e2
      · rw [if_neg e2] at h2; cases h2
    · exact ih h1 o (by omega)
theorem list_some {α : Type} (z : α) : ∀ (l : List α), (∀ d, d < l.length → l.getD d z = z) → l = List.replicate l.length z := by
  intro l
  induction l with
  | nil => intro _; rfl
  | cons x r ih =>
    intro h
    have h0 : x = z := h 0 (by simp)
    have := ih (fun d hd => h (d + 1) (by simpa using hd))
    rw [List.length_cons, List.replicate_succ, ← this, h0]
/-- A tree that is there has something. -/
theorem ent_some {n : Nat} {rf : Int → Nat} {nd : Int → ANd} {T lev : Int → Nat} {L : Nat} (h : PInv n rf nd T lev L) : ∀ (l : Nat) (a : Int), 1 ≤ l → a ≠ 0 → RootOk rf lev l a → ∃ o, o < 8 ^ l ∧ entL nd l a o ≠ (0, false) := by
  intro l
  induction l with
  | zero => intro a h1; omega
  | succ l ih =>
    intro a _ ha hr
    obtain ⟨h1, h2⟩ := hr.resolve_left ha
    obtain ⟨_, _, hlf, hbr, hem, hkd⟩ := h.shp a h1
    have hk8 := h.kok a
    have hz : ndZ nd a = nd a := by unfold ndZ; rw [if_neg ha]
    cases l with
    | zero =>
      have hlf' : (nd a).leaf = true := by rw [hlf, decide_eq_true (by omega)]
      have hkz := bare_kids hbr hlf'
      have : ¬ ∀ d, d < (nd a).vals.length → (nd a).vals.getD d (0, false) = (0, false) := fun hall => by
        have hv := list_some (0, false) (nd a).vals hall
        rw [hk8.2] at hv
        unfold emptyN at hem
        rw [hkz, decide_eq_true rfl, hv] at hem
        exact absurd hem (by decide)
      have : ∃ d, d < (nd a).vals.length ∧ (nd a).vals.getD d (0, false) ≠ (0, false) := Classical.byContradiction (fun hn => this (fun d hd => Classical.byContradiction (fun e => hn ⟨d, hd, e⟩)))
      obtain ⟨d, hd, he⟩ := this
      exact ⟨d, by rw [hk8.2] at hd; exact hd, by show (ndZ nd a).vals.getD d (0, false) ≠ _; rw [hz]; exact he⟩
    | succ l =>
      have hlf' : (nd a).leaf = false := by rw [hlf, decide_eq_false (by omega)]
      have hvz := bare_vals hbr hlf'
      have : ¬ ∀ d, d < (nd a).kids.length → (nd a).kids.getD d 0 = 0 := fun hall => by
        have hv := list_some 0 (nd a).kids hall
        rw [hk8.1] at hv
        unfold emptyN at hem
        rw [hvz, decide_eq_true (rfl : zNd.vals = zNd.vals), hv] at hem
        exact absurd hem (by decide)
      have : ∃ d, d < (nd a).kids.length ∧ (nd a).kids.getD d 0 ≠ 0 := Classical.byContradiction (fun hn => this (fun d hd => Classical.byContradiction (fun e => hn ⟨d, hd, e⟩)))
      obtain ⟨d, hd, he⟩ := this
      rw [hk8.1] at hd
      have hrk := h.kidOk hr d
      rw [hz] at hrk
      obtain ⟨o, ho, hne⟩ := ih _ (by omega) he hrk
      have hP : 0 < 8 ^ (l + 1) := Nat.pow_pos (by omega)
      have hb : 8 ^ (l + 2) = 8 * 8 ^ (l + 1) := by rw [Nat.pow_succ 8 (l + 1), Nat.mul_comm]
      have hb2 : (d + 1) * 8 ^ (l + 1) ≤ 8 * 8 ^ (l + 1) := Nat.mul_le_mul_right _ (by omega)
      rw [Nat.add_mul, Nat.one_mul] at hb2
      refine ⟨d * 8 ^ (l + 1) + o, by rw [hb]; omega, ?_⟩
      show entL nd (l + 1) ((ndZ nd a).kids.getD ((d * 8 ^ (l + 1) + o) / 8 ^ (l + 1)) 0) ((d * 8 ^ (l + 1) + o) % 8 ^ (l + 1)) ≠ _
      rw [hz, Nat.mul_comm d, Nat.mul_add_div hP, Nat.div_eq_of_lt ho, Nat.add_zero, Nat.mul_add_mod, Nat.mod_eq_of_lt ho]
      exact hne
section
variable {w0 W : World} {t g p q tb cap : Nat} {codes room : Int} {l : List (Int × Int)} {n : Nat} {rf : Int → Nat} {nd : Int → ANd} {n2 : Nat} {nd2 : Int → ANd} {M : Nat} {lev : Int → Nat}
theorem js_empty (h : JS w0 W t g p q tb cap codes room l n rf nd n2 nd2 M lev) {k : Nat} (hk : k < l.length) (hp : 0 < (l.getD k (0, 0)).2) : ((selL nd (lvls codes) (l.getD k (0, 0)).1 0 0 codes.toNat).length = 0) ↔ ((l.getD k (0, 0)).1 = 0) := by
  constructor
  · intro e
    have e1 : selL nd (lvls codes) (l.getD k (0, 0)).1 0 0 codes.toNat = [] := List.length_eq_zero_iff.1 e
    have hall := selL_nil _ _ _ _ _ _ e1
    by_cases h0 : (l.getD k (0, 0)).1 = 0
    · exact h0
    · obtain ⟨o, ho, hne⟩ := ent_some h.iv (lvls codes) _ (lvls_le codes).1 h0 (h.rt k hk hp)
      exfalso
      by_cases hoc : o < codes.toNat
      · have := hall o hoc
        rw [entL_zero] at this
        exact hne this
      · exact hne (h.hz k hk hp o (by have := h.pg.k1; omega) ho)
  · intro e
    rw [e, selL_same]; rfl
theorem js_AllAny (h : JS w0 W t g p q tb cap codes room l n rf nd n2 nd2 M lev) (a : Int) {X : World} (kX : Kept W X) : Calls Tryd.prog 22 #[.pointer (some ⟨g, 0, none⟩), .int .i64 a] X (AnyP X) := by
  obtain ⟨ow, hA⟩ := (h.ba.keep kX).as
  exact pg_AllAny hA (h.pg.kept kX) h.iv a
end
set_option maxHeartbeats 16000000 in
set_option maxRecDepth 100000 in
theorem law_PagesStays (codes : Int) (a : Option Addr) (n c : Nat) (f : Nat → AcP) (w : World) (hA : AcsP w a n f) (hV : Vars w) : Calls Tryd.prog 5 #[.int .i64 codes, .slice a n c] w fun e w' => e = .returned (.bool true) ∧ Kept w w' := by
  have HV := hidMk hV
  have HAC := hidMk hA
  have HKN := hidMk (fun W (h : Kept w W) => l10_known W (hV.kept h))
  obtain ⟨cd, hcd⟩ : ∃ r, codes.tmod 70 = r := ⟨_, rfl⟩
  have hb : -70 < cd ∧ cd < 70 := by have := tmod_bound codes (m := 70) (by omega); rw [← hcd]; exact this
  have hw : wrap64 cd = cd := wrap_fit (by omega) (by omega)
  clear hV hA
  by_cases hok : 1 ≤ (2000 : Int) ∧ (2000 : Int) ≤ 20000 ∧ 1 ≤ cd
  · obtain ⟨o1, o2, o3⟩ := hok
    have HBG := hidMk (l10_begin (2000 : Int) cd w o1 o2 o3 (by omega))
    have HO1 := hidMk o1
    have HCD := hidMk (And.intro o3 hb.2)
    clear o1 o2 o3
    go_enter Tryd.func5, Tryd.ntmps5
    go_wp2_with fail
    refine HBG.out.mono ?_
    rintro e w1 ⟨t, g, p, q, tb0, rfl, hbeg⟩
    have HL1 := hidMk (lp_begin hbeg HO1.out)
    clear hbeg HBG hw hcd hb
    go_wp2_with fail
    go_loopg [6] 42 (fun gg x wr => ∃ k : Nat, k + gg = 42 ∧ k ≤ 40 ∧ x = .int .i64 k ∧ Hid (LP w wr t g p q cd (2000 : Int) k))
    case atStart => exact ⟨0, by omega, by omega, rfl, HL1⟩
    case round =>
      clear HL1
      obtain ⟨k, hkg, hk4, rfl, HL⟩ := hrel
      have HDOX := hidMk (show ∀ x : AcP, k ≤ 50 → Calls Tryd.prog 17 #[.pointer (some ⟨t, 0, none⟩), .agg #[.int .i64 x.kd, .int .i64 x.of, .int .i64 x.cd, .int .i64 x.v, .bool x.hd]] wr fun e w' => e = .returned (.bool true) ∧ LP w w' t g p q cd (2000 : Int) (k + 1) from fun x hk => lp_do HV.out HL.out hk x)
      by_cases hkn : k < n
      · by_cases hk6 : k < 40
        · have hk1 : (k : Int) < n := by omega
          have hk2 : (k : Int) < 40 := by omega
          obtain ⟨ba, off, rfl, hra⟩ := acsP_at HAC.out hkn
          have hr := HL.out.kept.range hra
          have c0 : wr.cell? ⟨ba, off + k * 5, none⟩ = some (.int .i64 (f k).kd) := by have := hr 0 _ rfl; simpa using this
          have c1 : wr.cell? ⟨ba, off + k * 5 + 1, none⟩ = some (.int .i64 (f k).of) := hr 1 _ rfl
          have c2 : wr.cell? ⟨ba, off + k * 5 + 2, none⟩ = some (.int .i64 (f k).cd) := hr 2 _ rfl
          have c3 : wr.cell? ⟨ba, off + k * 5 + 3, none⟩ = some (.int .i64 (f k).v) := hr 3 _ rfl
          have c4 : wr.cell? ⟨ba, off + k * 5 + 4, none⟩ = some (.bool (f k).hd) := hr 4 _ rfl
          have HDO := hidMk (HDOX.out (f k) (by omega))
          generalize (f k).kd = z0 at *
          generalize (f k).of = z1 at *
          generalize (f k).cd = z2 at *
          generalize (f k).v = z3 at *
          generalize (f k).hd = z4 at *
          have HG := hidMk hkg
          clear hr hra hkg hkn HDOX HL
          go_wp2_with fail
          refine HDO.out.mono ?_
          rintro e w2 ⟨rfl, hl2⟩
          have HL2 := hidMk hl2
          clear hl2 HDO c0 c1 c2 c3 c4
          go_wp2_with fail
          go_roundg (gk - 1)
          case measure => have := HG.out; omega
          case rel => exact ⟨k + 1, by have := HG.out; omega, by omega, by go_num, HL2⟩
        · have hk2 : ¬ ((k : Int) < 40) := by omega
          have hk1 : (k : Int) < n := by omega
          clear hk6 hkn hkg
          obtain ⟨tb, cap, l, nn, rf, nd, n2, nd2, M, lev, hj, hl1, hM1, hcs⟩ := HL.out
          have HJ := hidMk hj
          obtain ⟨m, hml⟩ : ∃ m, m = l.length := ⟨_, rfl⟩
          have HML := hidMk hml
          have hm6 : m ≤ 60 := by omega
          have HKQ := hidMk hj.ba.kept
          obtain ⟨wq, hwq⟩ : ∃ x, x = wr := ⟨_, rfl⟩
          rw [← hwq] at HJ HKQ ⊢
          clear hj hl1 hM1 hcs HL HDOX hml hwq
          go_wp2_with fail
          go_loopg [7] (m + 1) (fun gg s wr => ∃ j : Nat, j + gg = m + 1 ∧ j ≤ m ∧ s = .int .i64 j ∧ Hid (Kept wq wr))
          case atStart => exact ⟨0, by omega, by omega, rfl, hidMk (Kept.refl _)⟩
          case round =>
            obtain ⟨j, hjg, hjm, rfl, HKA⟩ := hrel
            have HG := hidMk hjg
            clear hjg
            have hc4 : wq.cell? ⟨t, 4, none⟩ = some (.slice (some ⟨tb, 0, none⟩) m cap) := by rw [HML.out]; exact HJ.out.pl.c4
            have y4 := HKA.out.cellp hc4
            by_cases hj : j < m
            · have hj' : (j : Int) < (m : Int) := by omega
              have hjl : j < l.length := by have := HML.out; omega
              obtain ⟨q1, q2, q3⟩ := HJ.out.cells hjl
              obtain ⟨x, hx⟩ : ∃ x, x = (l.getD j (0, 0)).1 := ⟨_, rfl⟩
              obtain ⟨cc, hcc⟩ : ∃ x, x = (l.getD j (0, 0)).2 := ⟨_, rfl⟩
              rw [← hx] at q1
              rw [← hcc] at q3
              have HCK := hidMk (show wq.cell? ⟨t, 0, none⟩ = some (.pointer (some ⟨g, 0, none⟩)) ∧ wq.cell? ⟨t, 4, none⟩ = some (.slice (some ⟨tb, 0, none⟩) m cap) ∧ wq.cell? ⟨tb, j * 3, none⟩ = some (.int .i64 x) ∧ wq.cell? ⟨tb, j * 3 + 2, none⟩ = some (.int .i64 cc) from ⟨HJ.out.pl.c0, hc4, q1, q3⟩)
              have y3 := HKA.out.cellp q3
              by_cases hcp : 0 < cc
              · have hcp' : 0 < (l.getD j (0, 0)).2 := by rw [← hcc]; exact hcp
                have HAK := hidMk (js_alike (HJ.out.keep HKA.out) (by have := HML.out; omega) (by have := HCD.out.2; omega) hjl hcp')
                have HALL := hidMk (fun X (kX : Kept wq X) => js_All HJ.out hjl hcp' kX)
                have hem := js_empty HJ.out hjl hcp'
                rw [← hx] at HALL hem
                generalize hln : (selL nd (lvls cd) x 0 0 cd.toNat).length = ln at HALL hem
                have hb1 : ((ln : Int) == 0) = (x == 0) := by
                  by_cases e : x = 0
                  · have e' := hem.2 e
                    rw [e, e']; rfl
                  · have e' : ¬ ln = 0 := fun e' => e (hem.1 e')
                    have h1 : ((ln : Int) == 0) = false := by simpa using e'
                    have h2 : (x == 0) = false := by simpa using e
                    rw [h1, h2]
                have HB1 := hidMk hb1
                clear hem hln hcp' hx hcc q1 q2 q3 hc4 hb1
                go_wp2_with fail
                refine HAK.out.mono ?_
                rintro e w5 ⟨rfl, k5⟩
                have HKA := hidMk (HKA.out.trans k5)
                clear k5 HAK y4 y3
                go_upto_region 14 with fail
                refine wp_region_held_drew (S := (fun w' => Kept wq w')) (by kernel_rfl) ?_ (fun hHeld => ?_)
                · exact HKA.out.drew
                refine wpAnyH_take (i := 0) (oi := { dst := some 58, op := _, type := _, pos := _, after := _, guard := _ }) (v := ?_) rfl (by kernel_rfl) (by kernel_rfl) (by kernel_rfl) (fun _ _ _ h => h) (Or.inl ⟨by rfl, ?_⟩) (by assumption) ?_
                rotate_left
                · (intro w9 hSw; have s0 := hSw.cellp HCK.out.1; have s1 := hSw.cellp HCK.out.2.1; have s2 := hSw.cellp HCK.out.2.2.1; have s3 := hSw.cellp HCK.out.2.2.2; clear hSw; go_simp; (try with_reducible rfl))
                (try simp only [Act.put, List.setIfInBounds_toArray, List.set_cons_zero, List.set_cons_succ])
                refine wpAnyH_take (i := 1) (oi := { dst := some 59, op := _, type := _, pos := _, after := _, guard := _ }) (v := ?_) rfl (by kernel_rfl) (by kernel_rfl) (by kernel_rfl) (fun _ _ _ h => h) (Or.inl ⟨by rfl, ?_⟩) (by assumption) ?_
                rotate_left
                · (intro w9 hSw; have s0 := hSw.cellp HCK.out.1; have s1 := hSw.cellp HCK.out.2.1; have s2 := hSw.cellp HCK.out.2.2.1; have s3 := hSw.cellp HCK.out.2.2.2; clear hSw; go_simp; (try with_reducible rfl))
                (try simp only [Act.put, List.setIfInBounds_toArray, List.set_cons_zero, List.set_cons_succ])
                refine wpAnyH_take (i := 2) (oi := { dst := some 60, op := _, type := _, pos := _, after := _, guard := _ }) (v := ?_) rfl (by kernel_rfl) (by kernel_rfl) (by kernel_rfl) (fun _ _ _ h => h) (Or.inl ⟨by rfl, ?_⟩) (by assumption) ?_
                rotate_left
                · (intro w9 hSw; have s0 := hSw.cellp HCK.out.1; have s1 := hSw.cellp HCK.out.2.1; have s2 := hSw.cellp HCK.out.2.2.1; have s3 := hSw.cellp HCK.out.2.2.2; clear hSw; go_simp; (try with_reducible rfl))
                (try simp only [Act.put, List.setIfInBounds_toArray, List.set_cons_zero, List.set_cons_succ])
                refine wpAnyH_take (i := 3) (oi := { dst := some 61, op := _, type := _, pos := _, after := _, guard := _ }) (v := ?_) rfl (by kernel_rfl) (by kernel_rfl) (by kernel_rfl) (fun _ _ _ h => h) (Or.inl ⟨by rfl, ?_⟩) (by assumption) ?_
                rotate_left
                · (intro w9 hSw; have s0 := hSw.cellp HCK.out.1; have s1 := hSw.cellp HCK.out.2.1; have s2 := hSw.cellp HCK.out.2.2.1; have s3 := hSw.cellp HCK.out.2.2.2; clear hSw; go_simp; (try with_reducible rfl))
                (try simp only [Act.put, List.setIfInBounds_toArray, List.set_cons_zero, List.set_cons_succ])
                refine wpAnyH_take (i := 4) (oi := { dst := some 62, op := _, type := _, pos := _, after := _, guard := _ }) (v := ?_) rfl (by kernel_rfl) (by kernel_rfl) (by kernel_rfl) (fun _ _ _ h => h) (Or.inl ⟨by rfl, ?_⟩) (by assumption) ?_
                rotate_left
                · (intro w9 hSw; have s0 := hSw.cellp HCK.out.1; have s1 := hSw.cellp HCK.out.2.1; have s2 := hSw.cellp HCK.out.2.2.1; have s3 := hSw.cellp HCK.out.2.2.2; clear hSw; go_simp; (try with_reducible rfl))
                (try simp only [Act.put, List.setIfInBounds_toArray, List.set_cons_zero, List.set_cons_succ])
                refine wpAnyH_take (i := 5) (oi := { dst := some 63, op := _, type := _, pos := _, after := _, guard := _ }) (v := ?_) rfl (by kernel_rfl) (by kernel_rfl) (by kernel_rfl) (fun _ _ _ h => h) (Or.inl ⟨by rfl, ?_⟩) (by assumption) ?_
                rotate_left
                · (intro w9 hSw; have s0 := hSw.cellp HCK.out.1; have s1 := hSw.cellp HCK.out.2.1; have s2 := hSw.cellp HCK.out.2.2.1; have s3 := hSw.cellp HCK.out.2.2.2; clear hSw; go_simp; (try with_reducible rfl))
                (try simp only [Act.put, List.setIfInBounds_toArray, List.set_cons_zero, List.set_cons_succ])
                refine wpAnyH_take (i := 6) (oi := { dst := some 64, op := _, type := _, pos := _, after := _, guard := _ }) (v := ?_) rfl (by kernel_rfl) (by kernel_rfl) (by kernel_rfl) (fun _ _ _ h => h) (Or.inl ⟨by rfl, ?_⟩) (by assumption) ?_
                rotate_left
                · (intro w9 hSw; have s0 := hSw.cellp HCK.out.1; have s1 := hSw.cellp HCK.out.2.1; have s2 := hSw.cellp HCK.out.2.2.1; have s3 := hSw.cellp HCK.out.2.2.2; clear hSw; go_simp; (try with_reducible rfl))
                (try simp only [Act.put, List.setIfInBounds_toArray, List.set_cons_zero, List.set_cons_succ])
                refine wpAnyH_take (i := 7) (oi := { dst := some 65, op := _, type := _, pos := _, after := _, guard := _ }) (v := ?_) rfl (by kernel_rfl) (by kernel_rfl) (by kernel_rfl) (fun _ _ _ h => h) (Or.inl ⟨by rfl, ?_⟩) (by assumption) ?_
                rotate_left
                · (intro w9 hSw; have s0 := hSw.cellp HCK.out.1; have s1 := hSw.cellp HCK.out.2.1; have s2 := hSw.cellp HCK.out.2.2.1; have s3 := hSw.cellp HCK.out.2.2.2; clear hSw; go_simp; (try with_reducible rfl))
                (try simp only [Act.put, List.setIfInBounds_toArray, List.set_cons_zero, List.set_cons_succ])
                refine wpAnyH_take (i := 8) (oi := { dst := some 66, op := _, type := _, pos := _, after := _, guard := _ }) (v := ?_) rfl (by kernel_rfl) (by kernel_rfl) (by kernel_rfl) (fun _ _ _ h => h) (Or.inl ⟨by rfl, ?_⟩) (by assumption) ?_
                rotate_left
                · (intro w9 hSw; have s0 := hSw.cellp HCK.out.1; have s1 := hSw.cellp HCK.out.2.1; have s2 := hSw.cellp HCK.out.2.2.1; have s3 := hSw.cellp HCK.out.2.2.2; clear hSw; go_simp; (try with_reducible rfl))
                (try simp only [Act.put, List.setIfInBounds_toArray, List.set_cons_zero, List.set_cons_succ])
                refine wpAnyH_take (i := 9) (oi := { dst := some 67, op := _, type := _, pos := _, after := _, guard := _ }) (v := ?_) rfl (by kernel_rfl) (by kernel_rfl) (by kernel_rfl) (fun _ _ _ h => h) (Or.inl ⟨by rfl, ?_⟩) (by assumption) ?_
                rotate_left
                · (intro w9 hSw; have s0 := hSw.cellp HCK.out.1; have s1 := hSw.cellp HCK.out.2.1; have s2 := hSw.cellp HCK.out.2.2.1; have s3 := hSw.cellp HCK.out.2.2.2; clear hSw; go_simp; (try with_reducible rfl))
                (try simp only [Act.put, List.setIfInBounds_toArray, List.set_cons_zero, List.set_cons_succ])
                refine wpAnyH_take (i := 10) (oi := { dst := some 68, op := _, type := _, pos := _, after := _, guard := _ }) (v := ?_) rfl (by kernel_rfl) (by kernel_rfl) (by kernel_rfl) (fun _ _ _ h => h) (Or.inl ⟨by rfl, ?_⟩) (by assumption) ?_
                rotate_left
                · (intro w9 hSw; have s0 := hSw.cellp HCK.out.1; have s1 := hSw.cellp HCK.out.2.1; have s2 := hSw.cellp HCK.out.2.2.1; have s3 := hSw.cellp HCK.out.2.2.2; clear hSw; go_simp; (try with_reducible rfl))
                (try simp only [Act.put, List.setIfInBounds_toArray, List.set_cons_zero, List.set_cons_succ])
                refine wpAnyH_take (i := 11) (oi := { dst := some 69, op := _, type := _, pos := _, after := _, guard := _ }) (v := ?_) rfl (by kernel_rfl) (by kernel_rfl) (by kernel_rfl) (fun _ _ _ h => h) (Or.inl ⟨by rfl, ?_⟩) (by assumption) ?_
                rotate_left
                · (intro w9 hSw; have s0 := hSw.cellp HCK.out.1; have s1 := hSw.cellp HCK.out.2.1; have s2 := hSw.cellp HCK.out.2.2.1; have s3 := hSw.cellp HCK.out.2.2.2; clear hSw; go_simp; (try with_reducible rfl))
                (try simp only [Act.put, List.setIfInBounds_toArray, List.set_cons_zero, List.set_cons_succ])
                refine wpAnyH_ready (rs := [12]) (by kernel_rfl) (by simp) ?_
                refine AllReadyH.cons (o := { dst := some 70, op := _, type := _, pos := _, after := _, guard := _ }) rfl (fun K hK => ?_) AllReadyH.nil
                go_simp
                refine (HALL.out _ hHeld).mono ?_
                rintro e wz ⟨v, rfl, hov, kz⟩
                obtain ⟨va, vc, hva⟩ := owns_shape hov
                have HKZ := hidMk kz
                subst hva
                clear hov kz
                (try go_wp2_with fail)
                refine hK.out _ _ ?_ (fun hHeld => ?_)
                · exact hHeld.trans HKZ.out
                clear hK K
                (try simp only [Act.put, List.setIfInBounds_toArray, List.set_cons_zero, List.set_cons_succ])
                refine wpAnyH_take (i := 13) (oi := { dst := some 57, op := _, type := _, pos := _, after := _, guard := _ }) (v := ?_) rfl (by kernel_rfl) (by kernel_rfl) (by kernel_rfl) (fun _ _ _ h => h) (Or.inl ⟨by rfl, ?_⟩) (by assumption) ?_
                rotate_left
                · (intro w9 hSw; have s0 := hSw.cellp HCK.out.1; have s1 := hSw.cellp HCK.out.2.1; have s2 := hSw.cellp HCK.out.2.2.1; have s3 := hSw.cellp HCK.out.2.2.2; clear hSw; go_simp; (try with_reducible rfl))
                (try simp only [Act.put, List.setIfInBounds_toArray, List.set_cons_zero, List.set_cons_succ])
                refine wpAnyH_take (i := 14) (oi := { dst := some 71, op := _, type := _, pos := _, after := _, guard := _ }) (v := ?_) rfl (by kernel_rfl) (by kernel_rfl) (by kernel_rfl) (fun _ _ _ h => h) (Or.inl ⟨by rfl, ?_⟩) (by assumption) ?_
                rotate_left
                · (intro w9 hSw; have s0 := hSw.cellp HCK.out.1; have s1 := hSw.cellp HCK.out.2.1; have s2 := hSw.cellp HCK.out.2.2.1; have s3 := hSw.cellp HCK.out.2.2.2; clear hSw; go_simp; (try with_reducible rfl))
                (try simp only [Act.put, List.setIfInBounds_toArray, List.set_cons_zero, List.set_cons_succ])
                refine wpAnyH_take (i := 15) (oi := { dst := some 72, op := _, type := _, pos := _, after := _, guard := _ }) (v := ?_) rfl (by kernel_rfl) (by kernel_rfl) (by kernel_rfl) (fun _ _ _ h => h) (Or.inl ⟨by rfl, ?_⟩) (by assumption) ?_
                rotate_left
                · (intro w9 hSw; have s0 := hSw.cellp HCK.out.1; have s1 := hSw.cellp HCK.out.2.1; have s2 := hSw.cellp HCK.out.2.2.1; have s3 := hSw.cellp HCK.out.2.2.2; clear hSw; go_simp; (try with_reducible rfl))
                (try simp only [Act.put, List.setIfInBounds_toArray, List.set_cons_zero, List.set_cons_succ])
                refine wpAnyH_take (i := 16) (oi := { dst := some 8, op := _, type := _, pos := _, after := _, guard := _ }) (v := ?_) rfl (by kernel_rfl) (by kernel_rfl) (by kernel_rfl) (fun _ _ _ h => h) (Or.inl ⟨by rfl, ?_⟩) (by assumption) ?_
                rotate_left
                · (intro w9 hSw; have s0 := hSw.cellp HCK.out.1; have s1 := hSw.cellp HCK.out.2.1; have s2 := hSw.cellp HCK.out.2.2.1; have s3 := hSw.cellp HCK.out.2.2.2; clear hSw; go_simp; (try with_reducible rfl))
                (try simp only [Act.put, List.setIfInBounds_toArray, List.set_cons_zero, List.set_cons_succ])
                refine wpAnyH_take (i := 17) (oi := { dst := some 9, op := _, type := _, pos := _, after := _, guard := _ }) (v := ?_) rfl (by kernel_rfl) (by kernel_rfl) (by kernel_rfl) (fun _ _ _ h => h) (Or.inl ⟨by rfl, ?_⟩) (by assumption) ?_
                rotate_left
                · (intro w9 hSw; have s0 := hSw.cellp HCK.out.1; have s1 := hSw.cellp HCK.out.2.1; have s2 := hSw.cellp HCK.out.2.2.1; have s3 := hSw.cellp HCK.out.2.2.2; clear hSw; go_simp; (try with_reducible rfl))
                (try simp only [Act.put, List.setIfInBounds_toArray, List.set_cons_zero, List.set_cons_succ])
                refine wpAnyH_done (by kernel_rfl) ?_ _
                clear hHeld
                have HKF := hidMk (HKA.out.drew.trans HKZ.out)
                have s1 := HKF.out.cellp HCK.out.2.1
                have s2 := HKF.out.cellp HCK.out.2.2.1
                have s3 := HKF.out.cellp HCK.out.2.2.2
                by_cases hx0 : x = 0
                · have hl0 : ((ln : Int) == 0) = true := by rw [HB1.out]; simpa using hx0
                  have hl0' : ln = 0 := by simpa using hl0
                  subst hx0 hl0'
                  clear hl0
                  go_wp2_with fail
                  go_roundg (gk - 1)
                  case measure => have := HG.out; omega
                  case rel => exact ⟨j + 1, by have := HG.out; omega, by omega, by go_num, hidMk HKF.out⟩
                · have hxb : (x == 0) = false := by simpa using hx0
                  have hl0 : ((ln : Int) == 0) = false := by rw [HB1.out]; exact hxb
                  clear hx0
                  go_wp2_with fail
                  go_roundg (gk - 1)
                  case measure => have := HG.out; omega
                  case rel => exact ⟨j + 1, by have := HG.out; omega, by omega, by go_num, hidMk HKF.out⟩
              · have HANY := hidMk (fun X (kX : Kept wq X) => js_AllAny HJ.out x kX)
                clear hx hcc q1 q2 q3 hc4
                go_upto_region 14 with fail
                clear y4 y3
                refine wp_region_held_drew (S := (fun w' => Kept wq w')) (by kernel_rfl) ?_ (fun hHeld => ?_)
                · exact HKA.out.drew
                refine wpAnyH_take (i := 0) (oi := { dst := some 58, op := _, type := _, pos := _, after := _, guard := _ }) (v := ?_) rfl (by kernel_rfl) (by kernel_rfl) (by kernel_rfl) (fun _ _ _ h => h) (Or.inl ⟨by rfl, ?_⟩) (by assumption) ?_
                rotate_left
                · (intro w9 hSw; have s0 := hSw.cellp HCK.out.1; have s1 := hSw.cellp HCK.out.2.1; have s2 := hSw.cellp HCK.out.2.2.1; have s3 := hSw.cellp HCK.out.2.2.2; clear hSw; go_simp; (try with_reducible rfl))
                (try simp only [Act.put, List.setIfInBounds_toArray, List.set_cons_zero, List.set_cons_succ])
                refine wpAnyH_take (i := 1) (oi := { dst := some 59, op := _, type := _, pos := _, after := _, guard := _ }) (v := ?_) rfl (by kernel_rfl) (by kernel_rfl) (by kernel_rfl) (fun _ _ _ h => h) (Or.inl ⟨by rfl, ?_⟩) (by assumption) ?_
                rotate_left
                · (intro w9 hSw; have s0 := hSw.cellp HCK.out.1; have s1 := hSw.cellp HCK.out.2.1; have s2 := hSw.cellp HCK.out.2.2.1; have s3 := hSw.cellp HCK.out.2.2.2; clear hSw; go_simp; (try with_reducible rfl))
                (try simp only [Act.put, List.setIfInBounds_toArray, List.set_cons_zero, List.set_cons_succ])
                refine wpAnyH_take (i := 2) (oi := { dst := some 60, op := _, type := _, pos := _, after := _, guard := _ }) (v := ?_) rfl (by kernel_rfl) (by kernel_rfl) (by kernel_rfl) (fun _ _ _ h => h) (Or.inl ⟨by rfl, ?_⟩) (by assumption) ?_
                rotate_left
                · (intro w9 hSw; have s0 := hSw.cellp HCK.out.1; have s1 := hSw.cellp HCK.out.2.1; have s2 := hSw.cellp HCK.out.2.2.1; have s3 := hSw.cellp HCK.out.2.2.2; clear hSw; go_simp; (try with_reducible rfl))
                (try simp only [Act.put, List.setIfInBounds_toArray, List.set_cons_zero, List.set_cons_succ])
                refine wpAnyH_take (i := 3) (oi := { dst := some 61, op := _, type := _, pos := _, after := _, guard := _ }) (v := ?_) rfl (by kernel_rfl) (by kernel_rfl) (by kernel_rfl) (fun _ _ _ h => h) (Or.inl ⟨by rfl, ?_⟩) (by assumption) ?_
                rotate_left
                · (intro w9 hSw; have s0 := hSw.cellp HCK.out.1; have s1 := hSw.cellp HCK.out.2.1; have s2 := hSw.cellp HCK.out.2.2.1; have s3 := hSw.cellp HCK.out.2.2.2; clear hSw; go_simp; (try with_reducible rfl))
                (try simp only [Act.put, List.setIfInBounds_toArray, List.set_cons_zero, List.set_cons_succ])
                refine wpAnyH_take (i := 4) (oi := { dst := some 62, op := _, type := _, pos := _, after := _, guard := _ }) (v := ?_) rfl (by kernel_rfl) (by kernel_rfl) (by kernel_rfl) (fun _ _ _ h => h) (Or.inl ⟨by rfl, ?_⟩) (by assumption) ?_
                rotate_left
                · (intro w9 hSw; have s0 := hSw.cellp HCK.out.1; have s1 := hSw.cellp HCK.out.2.1; have s2 := hSw.cellp HCK.out.2.2.1; have s3 := hSw.cellp HCK.out.2.2.2; clear hSw; go_simp; (try with_reducible rfl))
                (try simp only [Act.put, List.setIfInBounds_toArray, List.set_cons_zero, List.set_cons_succ])
                refine wpAnyH_take (i := 5) (oi := { dst := some 63, op := _, type := _, pos := _, after := _, guard := _ }) (v := ?_) rfl (by kernel_rfl) (by kernel_rfl) (by kernel_rfl) (fun _ _ _ h => h) (Or.inl ⟨by rfl, ?_⟩) (by assumption) ?_
                rotate_left
                · (intro w9 hSw; have s0 := hSw.cellp HCK.out.1; have s1 := hSw.cellp HCK.out.2.1; have s2 := hSw.cellp HCK.out.2.2.1; have s3 := hSw.cellp HCK.out.2.2.2; clear hSw; go_simp; (try with_reducible rfl))
                (try simp only [Act.put, List.setIfInBounds_toArray, List.set_cons_zero, List.set_cons_succ])
                refine wpAnyH_take (i := 6) (oi := { dst := some 64, op := _, type := _, pos := _, after := _, guard := _ }) (v := ?_) rfl (by kernel_rfl) (by kernel_rfl) (by kernel_rfl) (fun _ _ _ h => h) (Or.inl ⟨by rfl, ?_⟩) (by assumption) ?_
                rotate_left
                · (intro w9 hSw; have s0 := hSw.cellp HCK.out.1; have s1 := hSw.cellp HCK.out.2.1; have s2 := hSw.cellp HCK.out.2.2.1; have s3 := hSw.cellp HCK.out.2.2.2; clear hSw; go_simp; (try with_reducible rfl))
                (try simp only [Act.put, List.setIfInBounds_toArray, List.set_cons_zero, List.set_cons_succ])
                refine wpAnyH_take (i := 7) (oi := { dst := some 65, op := _, type := _, pos := _, after := _, guard := _ }) (v := ?_) rfl (by kernel_rfl) (by kernel_rfl) (by kernel_rfl) (fun _ _ _ h => h) (Or.inl ⟨by rfl, ?_⟩) (by assumption) ?_
                rotate_left
                · (intro w9 hSw; have s0 := hSw.cellp HCK.out.1; have s1 := hSw.cellp HCK.out.2.1; have s2 := hSw.cellp HCK.out.2.2.1; have s3 := hSw.cellp HCK.out.2.2.2; clear hSw; go_simp; (try with_reducible rfl))
                (try simp only [Act.put, List.setIfInBounds_toArray, List.set_cons_zero, List.set_cons_succ])
                refine wpAnyH_take (i := 8) (oi := { dst := some 66, op := _, type := _, pos := _, after := _, guard := _ }) (v := ?_) rfl (by kernel_rfl) (by kernel_rfl) (by kernel_rfl) (fun _ _ _ h => h) (Or.inl ⟨by rfl, ?_⟩) (by assumption) ?_
                rotate_left
                · (intro w9 hSw; have s0 := hSw.cellp HCK.out.1; have s1 := hSw.cellp HCK.out.2.1; have s2 := hSw.cellp HCK.out.2.2.1; have s3 := hSw.cellp HCK.out.2.2.2; clear hSw; go_simp; (try with_reducible rfl))
                (try simp only [Act.put, List.setIfInBounds_toArray, List.set_cons_zero, List.set_cons_succ])
                refine wpAnyH_take (i := 9) (oi := { dst := some 67, op := _, type := _, pos := _, after := _, guard := _ }) (v := ?_) rfl (by kernel_rfl) (by kernel_rfl) (by kernel_rfl) (fun _ _ _ h => h) (Or.inl ⟨by rfl, ?_⟩) (by assumption) ?_
                rotate_left
                · (intro w9 hSw; have s0 := hSw.cellp HCK.out.1; have s1 := hSw.cellp HCK.out.2.1; have s2 := hSw.cellp HCK.out.2.2.1; have s3 := hSw.cellp HCK.out.2.2.2; clear hSw; go_simp; (try with_reducible rfl))
                (try simp only [Act.put, List.setIfInBounds_toArray, List.set_cons_zero, List.set_cons_succ])
                refine wpAnyH_take (i := 10) (oi := { dst := some 68, op := _, type := _, pos := _, after := _, guard := _ }) (v := ?_) rfl (by kernel_rfl) (by kernel_rfl) (by kernel_rfl) (fun _ _ _ h => h) (Or.inl ⟨by rfl, ?_⟩) (by assumption) ?_
                rotate_left
                · (intro w9 hSw; have s0 := hSw.cellp HCK.out.1; have s1 := hSw.cellp HCK.out.2.1; have s2 := hSw.cellp HCK.out.2.2.1; have s3 := hSw.cellp HCK.out.2.2.2; clear hSw; go_simp; (try with_reducible rfl))
                (try simp only [Act.put, List.setIfInBounds_toArray, List.set_cons_zero, List.set_cons_succ])
                refine wpAnyH_take (i := 11) (oi := { dst := some 69, op := _, type := _, pos := _, after := _, guard := _ }) (v := ?_) rfl (by kernel_rfl) (by kernel_rfl) (by kernel_rfl) (fun _ _ _ h => h) (Or.inl ⟨by rfl, ?_⟩) (by assumption) ?_
                rotate_left
                · (intro w9 hSw; have s0 := hSw.cellp HCK.out.1; have s1 := hSw.cellp HCK.out.2.1; have s2 := hSw.cellp HCK.out.2.2.1; have s3 := hSw.cellp HCK.out.2.2.2; clear hSw; go_simp; (try with_reducible rfl))
                (try simp only [Act.put, List.setIfInBounds_toArray, List.set_cons_zero, List.set_cons_succ])
                refine wpAnyH_ready (rs := [12]) (by kernel_rfl) (by simp) ?_
                refine AllReadyH.cons (o := { dst := some 70, op := _, type := _, pos := _, after := _, guard := _ }) rfl (fun K hK => ?_) AllReadyH.nil
                go_simp
                refine (HANY.out _ hHeld).mono ?_
                rintro e wz ⟨va, vn, vc, er, rfl, kz⟩
                have HKZ := hidMk kz
                clear kz
                (try go_wp2_with fail)
                refine hK.out _ _ ?_ (fun hHeld => ?_)
                · exact hHeld.trans HKZ.out
                clear hK K
                (try simp only [Act.put, List.setIfInBounds_toArray, List.set_cons_zero, List.set_cons_succ])
                refine wpAnyH_take (i := 13) (oi := { dst := some 57, op := _, type := _, pos := _, after := _, guard := _ }) (v := ?_) rfl (by kernel_rfl) (by kernel_rfl) (by kernel_rfl) (fun _ _ _ h => h) (Or.inl ⟨by rfl, ?_⟩) (by assumption) ?_
                rotate_left
                · (intro w9 hSw; have s0 := hSw.cellp HCK.out.1; have s1 := hSw.cellp HCK.out.2.1; have s2 := hSw.cellp HCK.out.2.2.1; have s3 := hSw.cellp HCK.out.2.2.2; clear hSw; go_simp; (try with_reducible rfl))
                (try simp only [Act.put, List.setIfInBounds_toArray, List.set_cons_zero, List.set_cons_succ])
                refine wpAnyH_take (i := 14) (oi := { dst := some 71, op := _, type := _, pos := _, after := _, guard := _ }) (v := ?_) rfl (by kernel_rfl) (by kernel_rfl) (by kernel_rfl) (fun _ _ _ h => h) (Or.inl ⟨by rfl, ?_⟩) (by assumption) ?_
                rotate_left
                · (intro w9 hSw; have s0 := hSw.cellp HCK.out.1; have s1 := hSw.cellp HCK.out.2.1; have s2 := hSw.cellp HCK.out.2.2.1; have s3 := hSw.cellp HCK.out.2.2.2; clear hSw; go_simp; (try with_reducible rfl))
                (try simp only [Act.put, List.setIfInBounds_toArray, List.set_cons_zero, List.set_cons_succ])
                refine wpAnyH_take (i := 15) (oi := { dst := some 72, op := _, type := _, pos := _, after := _, guard := _ }) (v := ?_) rfl (by kernel_rfl) (by kernel_rfl) (by kernel_rfl) (fun _ _ _ h => h) (Or.inl ⟨by rfl, ?_⟩) (by assumption) ?_
                rotate_left
                · (intro w9 hSw; have s0 := hSw.cellp HCK.out.1; have s1 := hSw.cellp HCK.out.2.1; have s2 := hSw.cellp HCK.out.2.2.1; have s3 := hSw.cellp HCK.out.2.2.2; clear hSw; go_simp; (try with_reducible rfl))
                (try simp only [Act.put, List.setIfInBounds_toArray, List.set_cons_zero, List.set_cons_succ])
                refine wpAnyH_take (i := 16) (oi := { dst := some 8, op := _, type := _, pos := _, after := _, guard := _ }) (v := ?_) rfl (by kernel_rfl) (by kernel_rfl) (by kernel_rfl) (fun _ _ _ h => h) (Or.inl ⟨by rfl, ?_⟩) (by assumption) ?_
                rotate_left
                · (intro w9 hSw; have s0 := hSw.cellp HCK.out.1; have s1 := hSw.cellp HCK.out.2.1; have s2 := hSw.cellp HCK.out.2.2.1; have s3 := hSw.cellp HCK.out.2.2.2; clear hSw; go_simp; (try with_reducible rfl))
                (try simp only [Act.put, List.setIfInBounds_toArray, List.set_cons_zero, List.set_cons_succ])
                refine wpAnyH_take (i := 17) (oi := { dst := some 9, op := _, type := _, pos := _, after := _, guard := _ }) (v := ?_) rfl (by kernel_rfl) (by kernel_rfl) (by kernel_rfl) (fun _ _ _ h => h) (Or.inl ⟨by rfl, ?_⟩) (by assumption) ?_
                rotate_left
                · (intro w9 hSw; have s0 := hSw.cellp HCK.out.1; have s1 := hSw.cellp HCK.out.2.1; have s2 := hSw.cellp HCK.out.2.2.1; have s3 := hSw.cellp HCK.out.2.2.2; clear hSw; go_simp; (try with_reducible rfl))
                (try simp only [Act.put, List.setIfInBounds_toArray, List.set_cons_zero, List.set_cons_succ])
                refine wpAnyH_done (by kernel_rfl) ?_ _
                clear hHeld
                have HKF := hidMk (HKA.out.drew.trans HKZ.out)
                have s1 := HKF.out.cellp HCK.out.2.1
                have s3 := HKF.out.cellp HCK.out.2.2.2
                go_wp2_with fail
                go_roundg (gk - 1)
                case measure => have := HG.out; omega
                case rel => exact ⟨j + 1, by have := HG.out; omega, by omega, by go_num, hidMk HKF.out⟩
            · have hj' : ¬ ((j : Int) < (m : Int)) := by omega
              have HKF := hidMk (HKQ.out.trans HKA.out)
              clear hc4
              go_wp2_with fail
              refine (HKN.out _ HKF.out).mono ?_
              rintro e w20 ⟨rfl, k20⟩
              have HK20 := hidMk (HKF.out.trans k20)
              go_wp2_with fail
              go_ret
              exact ⟨rfl, HK20.out⟩
      · have hk1 : ¬ ((k : Int) < n) := by omega
        clear hkn hkg
        obtain ⟨tb, cap, l, nn, rf, nd, n2, nd2, M, lev, hj, hl1, hM1, hcs⟩ := HL.out
        have HJ := hidMk hj
        obtain ⟨m, hml⟩ : ∃ m, m = l.length := ⟨_, rfl⟩
        have HML := hidMk hml
        have hm6 : m ≤ 60 := by omega
        have HKQ := hidMk hj.ba.kept
        obtain ⟨wq, hwq⟩ : ∃ x, x = wr := ⟨_, rfl⟩
        rw [← hwq] at HJ HKQ ⊢
        clear hj hl1 hM1 hcs HL HDOX hml hwq
        go_wp2_with fail
        go_loopg [7] (m + 1) (fun gg s wr => ∃ j : Nat, j + gg = m + 1 ∧ j ≤ m ∧ s = .int .i64 j ∧ Hid (Kept wq wr))
        case atStart => exact ⟨0, by omega, by omega, rfl, hidMk (Kept.refl _)⟩
        case round =>
          obtain ⟨j, hjg, hjm, rfl, HKA⟩ := hrel
          have HG := hidMk hjg
          clear hjg
          have hc4 : wq.cell? ⟨t, 4, none⟩ = some (.slice (some ⟨tb, 0, none⟩) m cap) := by rw [HML.out]; exact HJ.out.pl.c4
          have y4 := HKA.out.cellp hc4
          by_cases hj : j < m
          · have hj' : (j : Int) < (m : Int) := by omega
            have hjl : j < l.length := by have := HML.out; omega
            obtain ⟨q1, q2, q3⟩ := HJ.out.cells hjl
            obtain ⟨x, hx⟩ : ∃ x, x = (l.getD j (0, 0)).1 := ⟨_, rfl⟩
            obtain ⟨cc, hcc⟩ : ∃ x, x = (l.getD j (0, 0)).2 := ⟨_, rfl⟩
            rw [← hx] at q1
            rw [← hcc] at q3
            have HCK := hidMk (show wq.cell? ⟨t, 0, none⟩ = some (.pointer (some ⟨g, 0, none⟩)) ∧ wq.cell? ⟨t, 4, none⟩ = some (.slice (some ⟨tb, 0, none⟩) m cap) ∧ wq.cell? ⟨tb, j * 3, none⟩ = some (.int .i64 x) ∧ wq.cell? ⟨tb, j * 3 + 2, none⟩ = some (.int .i64 cc) from ⟨HJ.out.pl.c0, hc4, q1, q3⟩)
            have y3 := HKA.out.cellp q3
            by_cases hcp : 0 < cc
            · have hcp' : 0 < (l.getD j (0, 0)).2 := by rw [← hcc]; exact hcp
              have HAK := hidMk (js_alike (HJ.out.keep HKA.out) (by have := HML.out; omega) (by have := HCD.out.2; omega) hjl hcp')
              have HALL := hidMk (fun X (kX : Kept wq X) => js_All HJ.out hjl hcp' kX)
              have hem := js_empty HJ.out hjl hcp'
              rw [← hx] at HALL hem
              generalize hln : (selL nd (lvls cd) x 0 0 cd.toNat).length = ln at HALL hem
              have hb1 : ((ln : Int) == 0) = (x == 0) := by
                by_cases e : x = 0
                · have e' := hem.2 e
                  rw [e, e']; rfl
                · have e' : ¬ ln = 0 := fun e' => e (hem.1 e')
                  have h1 : ((ln : Int) == 0) = false := by simpa using e'
                  have h2 : (x == 0) = false := by simpa using e
                  rw [h1, h2]
              have HB1 := hidMk hb1
              clear hem hln hcp' hx hcc q1 q2 q3 hc4 hb1
              go_wp2_with fail
              refine HAK.out.mono ?_
              rintro e w5 ⟨rfl, k5⟩
              have HKA := hidMk (HKA.out.trans k5)
              clear k5 HAK y4 y3
              go_upto_region 14 with fail
              refine wp_region_held_drew (S := (fun w' => Kept wq w')) (by kernel_rfl) ?_ (fun hHeld => ?_)
              · exact HKA.out.drew
              refine wpAnyH_take (i := 0) (oi := { dst := some 58, op := _, type := _, pos := _, after := _, guard := _ }) (v := ?_) rfl (by kernel_rfl) (by kernel_rfl) (by kernel_rfl) (fun _ _ _ h => h) (Or.inl ⟨by rfl, ?_⟩) (by assumption) ?_
              rotate_left
              · (intro w9 hSw; have s0 := hSw.cellp HCK.out.1; have s1 := hSw.cellp HCK.out.2.1; have s2 := hSw.cellp HCK.out.2.2.1; have s3 := hSw.cellp HCK.out.2.2.2; clear hSw; go_simp; (try with_reducible rfl))
              (try simp only [Act.put, List.setIfInBounds_toArray, List.set_cons_zero, List.set_cons_succ])
              refine wpAnyH_take (i := 1) (oi := { dst := some 59, op := _, type := _, pos := _, after := _, guard := _ }) (v := ?_) rfl (by kernel_rfl) (by kernel_rfl) (by kernel_rfl) (fun _ _ _ h => h) (Or.inl ⟨by rfl, ?_⟩) (by assumption) ?_
              rotate_left
              · (intro w9 hSw; have s0 := hSw.cellp HCK.out.1; have s1 := hSw.cellp HCK.out.2.1; have s2 := hSw.cellp HCK.out.2.2.1; have s3 := hSw.cellp HCK.out.2.2.2; clear hSw; go_simp; (try with_reducible rfl))
              (try simp only [Act.put, List.setIfInBounds_toArray, List.set_cons_zero, List.set_cons_succ])
              refine wpAnyH_take (i := 2) (oi := { dst := some 60, op := _, type := _, pos := _, after := _, guard := _ }) (v := ?_) rfl (by kernel_rfl) (by kernel_rfl) (by kernel_rfl) (fun _ _ _ h => h) (Or.inl ⟨by rfl, ?_⟩) (by assumption) ?_
              rotate_left
              · (intro w9 hSw; have s0 := hSw.cellp HCK.out.1; have s1 := hSw.cellp HCK.out.2.1; have s2 := hSw.cellp HCK.out.2.2.1; have s3 := hSw.cellp HCK.out.2.2.2; clear hSw; go_simp; (try with_reducible rfl))
              (try simp only [Act.put, List.setIfInBounds_toArray, List.set_cons_zero, List.set_cons_succ])
              refine wpAnyH_take (i := 3) (oi := { dst := some 61, op := _, type := _, pos := _, after := _, guard := _ }) (v := ?_) rfl (by kernel_rfl) (by kernel_rfl) (by kernel_rfl) (fun _ _ _ h => h) (Or.inl ⟨by rfl, ?_⟩) (by assumption) ?_
              rotate_left
              · (intro w9 hSw; have s0 := hSw.cellp HCK.out.1; have s1 := hSw.cellp HCK.out.2.1; have s2 := hSw.cellp HCK.out.2.2.1; have s3 := hSw.cellp HCK.out.2.2.2; clear hSw; go_simp; (try with_reducible rfl))
              (try simp only [Act.put, List.setIfInBounds_toArray, List.set_cons_zero, List.set_cons_succ])
              refine wpAnyH_take (i := 4) (oi := { dst := some 62, op := _, type := _, pos := _, after := _, guard := _ }) (v := ?_) rfl (by kernel_rfl) (by kernel_rfl) (by kernel_rfl) (fun _ _ _ h => h) (Or.inl ⟨by rfl, ?_⟩) (by assumption) ?_
              rotate_left
              · (intro w9 hSw; have s0 := hSw.cellp HCK.out.1; have s1 := hSw.cellp HCK.out.2.1; have s2 := hSw.cellp HCK.out.2.2.1; have s3 := hSw.cellp HCK.out.2.2.2; clear hSw; go_simp; (try with_reducible rfl))
              (try simp only [Act.put, List.setIfInBounds_toArray, List.set_cons_zero, List.set_cons_succ])
              refine wpAnyH_take (i := 5) (oi := { dst := some 63, op := _, type := _, pos := _, after := _, guard := _ }) (v := ?_) rfl (by kernel_rfl) (by kernel_rfl) (by kernel_rfl) (fun _ _ _ h => h) (Or.inl ⟨by rfl, ?_⟩) (by assumption) ?_
              rotate_left
              · (intro w9 hSw; have s0 := hSw.cellp HCK.out.1; have s1 := hSw.cellp HCK.out.2.1; have s2 := hSw.cellp HCK.out.2.2.1; have s3 := hSw.cellp HCK.out.2.2.2; clear hSw; go_simp; (try with_reducible rfl))
              (try simp only [Act.put, List.setIfInBounds_toArray, List.set_cons_zero, List.set_cons_succ])
              refine wpAnyH_take (i := 6) (oi := { dst := some 64, op := _, type := _, pos := _, after := _, guard := _ }) (v := ?_) rfl (by kernel_rfl) (by kernel_rfl) (by kernel_rfl) (fun _ _ _ h => h) (Or.inl ⟨by rfl, ?_⟩) (by assumption) ?_
              rotate_left
              · (intro w9 hSw; have s0 := hSw.cellp HCK.out.1; have s1 := hSw.cellp HCK.out.2.1; have s2 := hSw.cellp HCK.out.2.2.1; have s3 := hSw.cellp HCK.out.2.2.2; clear hSw; go_simp; (try with_reducible rfl))
              (try simp only [Act.put, List.setIfInBounds_toArray, List.set_cons_zero, List.set_cons_succ])
              refine wpAnyH_take (i := 7) (oi := { dst := some 65, op := _, type := _, pos := _, after := _, guard := _ }) (v := ?_) rfl (by kernel_rfl) (by kernel_rfl) (by kernel_rfl) (fun _ _ _ h => h) (Or.inl ⟨by rfl, ?_⟩) (by assumption) ?_
              rotate_left
              · (intro w9 hSw; have s0 := hSw.cellp HCK.out.1; have s1 := hSw.cellp HCK.out.2.1; have s2 := hSw.cellp HCK.out.2.2.1; have s3 := hSw.cellp HCK.out.2.2.2; clear hSw; go_simp; (try with_reducible rfl))
              (try simp only [Act.put, List.setIfInBounds_toArray, List.set_cons_zero, List.set_cons_succ])
              refine wpAnyH_take (i := 8) (oi := { dst := some 66, op := _, type := _, pos := _, after := _, guard := _ }) (v := ?_) rfl (by kernel_rfl) (by kernel_rfl) (by kernel_rfl) (fun _ _ _ h => h) (Or.inl ⟨by rfl, ?_⟩) (by assumption) ?_
              rotate_left
              · (intro w9 hSw; have s0 := hSw.cellp HCK.out.1; have s1 := hSw.cellp HCK.out.2.1; have s2 := hSw.cellp HCK.out.2.2.1; have s3 := hSw.cellp HCK.out.2.2.2; clear hSw; go_simp; (try with_reducible rfl))
              (try simp only [Act.put, List.setIfInBounds_toArray, List.set_cons_zero, List.set_cons_succ])
              refine wpAnyH_take (i := 9) (oi := { dst := some 67, op := _, type := _, pos := _, after := _, guard := _ }) (v := ?_) rfl (by kernel_rfl) (by kernel_rfl) (by kernel_rfl) (fun _ _ _ h => h) (Or.inl ⟨by rfl, ?_⟩) (by assumption) ?_
              rotate_left
              · (intro w9 hSw; have s0 := hSw.cellp HCK.out.1; have s1 := hSw.cellp HCK.out.2.1; have s2 := hSw.cellp HCK.out.2.2.1; have s3 := hSw.cellp HCK.out.2.2.2; clear hSw; go_simp; (try with_reducible rfl))
              (try simp only [Act.put, List.setIfInBounds_toArray, List.set_cons_zero, List.set_cons_succ])
              refine wpAnyH_take (i := 10) (oi := { dst := some 68, op := _, type := _, pos := _, after := _, guard := _ }) (v := ?_) rfl (by kernel_rfl) (by kernel_rfl) (by kernel_rfl) (fun _ _ _ h => h) (Or.inl ⟨by rfl, ?_⟩) (by assumption) ?_
              rotate_left
              · (intro w9 hSw; have s0 := hSw.cellp HCK.out.1; have s1 := hSw.cellp HCK.out.2.1; have s2 := hSw.cellp HCK.out.2.2.1; have s3 := hSw.cellp HCK.out.2.2.2; clear hSw; go_simp; (try with_reducible rfl))
              (try simp only [Act.put, List.setIfInBounds_toArray, List.set_cons_zero, List.set_cons_succ])
              refine wpAnyH_take (i := 11) (oi := { dst := some 69, op := _, type := _, pos := _, after := _, guard := _ }) (v := ?_) rfl (by kernel_rfl) (by kernel_rfl) (by kernel_rfl) (fun _ _ _ h => h) (Or.inl ⟨by rfl, ?_⟩) (by assumption) ?_
              rotate_left
              · (intro w9 hSw; have s0 := hSw.cellp HCK.out.1; have s1 := hSw.cellp HCK.out.2.1; have s2 := hSw.cellp HCK.out.2.2.1; have s3 := hSw.cellp HCK.out.2.2.2; clear hSw; go_simp; (try with_reducible rfl))
              (try simp only [Act.put, List.setIfInBounds_toArray, List.set_cons_zero, List.set_cons_succ])
              refine wpAnyH_ready (rs := [12]) (by kernel_rfl) (by simp) ?_
              refine AllReadyH.cons (o := { dst := some 70, op := _, type := _, pos := _, after := _, guard := _ }) rfl (fun K hK => ?_) AllReadyH.nil
              go_simp
              refine (HALL.out _ hHeld).mono ?_
              rintro e wz ⟨v, rfl, hov, kz⟩
              obtain ⟨va, vc, hva⟩ := owns_shape hov
              have HKZ := hidMk kz
              subst hva
              clear hov kz
              (try go_wp2_with fail)
              refine hK.out _ _ ?_ (fun hHeld => ?_)
              · exact hHeld.trans HKZ.out
              clear hK K
              (try simp only [Act.put, List.setIfInBounds_toArray, List.set_cons_zero, List.set_cons_succ])
              refine wpAnyH_take (i := 13) (oi := { dst := some 57, op := _, type := _, pos := _, after := _, guard := _ }) (v := ?_) rfl (by kernel_rfl) (by kernel_rfl) (by kernel_rfl) (fun _ _ _ h => h) (Or.inl ⟨by rfl, ?_⟩) (by assumption) ?_
              rotate_left
              · (intro w9 hSw; have s0 := hSw.cellp HCK.out.1; have s1 := hSw.cellp HCK.out.2.1; have s2 := hSw.cellp HCK.out.2.2.1; have s3 := hSw.cellp HCK.out.2.2.2; clear hSw; go_simp; (try with_reducible rfl))
              (try simp only [Act.put, List.setIfInBounds_toArray, List.set_cons_zero, List.set_cons_succ])
              refine wpAnyH_take (i := 14) (oi := { dst := some 71, op := _, type := _, pos := _, after := _, guard := _ }) (v := ?_) rfl (by kernel_rfl) (by kernel_rfl) (by kernel_rfl) (fun _ _ _ h => h) (Or.inl ⟨by rfl, ?_⟩) (by assumption) ?_
              rotate_left
              · (intro w9 hSw; have s0 := hSw.cellp HCK.out.1; have s1 := hSw.cellp HCK.out.2.1; have s2 := hSw.cellp HCK.out.2.2.1; have s3 := hSw.cellp HCK.out.2.2.2; clear hSw; go_simp; (try with_reducible rfl))
              (try simp only [Act.put, List.setIfInBounds_toArray, List.set_cons_zero, List.set_cons_succ])
              refine wpAnyH_take (i := 15) (oi := { dst := some 72, op := _, type := _, pos := _, after := _, guard := _ }) (v := ?_) rfl (by kernel_rfl) (by kernel_rfl) (by kernel_rfl) (fun _ _ _ h => h) (Or.inl ⟨by rfl, ?_⟩) (by assumption) ?_
              rotate_left
              · (intro w9 hSw; have s0 := hSw.cellp HCK.out.1; have s1 := hSw.cellp HCK.out.2.1; have s2 := hSw.cellp HCK.out.2.2.1; have s3 := hSw.cellp HCK.out.2.2.2; clear hSw; go_simp; (try with_reducible rfl))
              (try simp only [Act.put, List.setIfInBounds_toArray, List.set_cons_zero, List.set_cons_succ])
              refine wpAnyH_take (i := 16) (oi := { dst := some 8, op := _, type := _, pos := _, after := _, guard := _ }) (v := ?_) rfl (by kernel_rfl) (by kernel_rfl) (by kernel_rfl) (fun _ _ _ h => h) (Or.inl ⟨by rfl, ?_⟩) (by assumption) ?_
              rotate_left
              · (intro w9 hSw; have s0 := hSw.cellp HCK.out.1; have s1 := hSw.cellp HCK.out.2.1; have s2 := hSw.cellp HCK.out.2.2.1; have s3 := hSw.cellp HCK.out.2.2.2; clear hSw; go_simp; (try with_reducible rfl))
              (try simp only [Act.put, List.setIfInBounds_toArray, List.set_cons_zero, List.set_cons_succ])
              refine wpAnyH_take (i := 17) (oi := { dst := some 9, op := _, type := _, pos := _, after := _, guard := _ }) (v := ?_) rfl (by kernel_rfl) (by kernel_rfl) (by kernel_rfl) (fun _ _ _ h => h) (Or.inl ⟨by rfl, ?_⟩) (by assumption) ?_
              rotate_left
              · (intro w9 hSw; have s0 := hSw.cellp HCK.out.1; have s1 := hSw.cellp HCK.out.2.1; have s2 := hSw.cellp HCK.out.2.2.1; have s3 := hSw.cellp HCK.out.2.2.2; clear hSw; go_simp; (try with_reducible rfl))
              (try simp only [Act.put, List.setIfInBounds_toArray, List.set_cons_zero, List.set_cons_succ])
              refine wpAnyH_done (by kernel_rfl) ?_ _
              clear hHeld
              have HKF := hidMk (HKA.out.drew.trans HKZ.out)
              have s1 := HKF.out.cellp HCK.out.2.1
              have s2 := HKF.out.cellp HCK.out.2.2.1
              have s3 := HKF.out.cellp HCK.out.2.2.2
              by_cases hx0 : x = 0
              · have hl0 : ((ln : Int) == 0) = true := by rw [HB1.out]; simpa using hx0
                have hl0' : ln = 0 := by simpa using hl0
                subst hx0 hl0'
                clear hl0
                go_wp2_with fail
                go_roundg (gk - 1)
                case measure => have := HG.out; omega
                case rel => exact ⟨j + 1, by have := HG.out; omega, by omega, by go_num, hidMk HKF.out⟩
              · have hxb : (x == 0) = false := by simpa using hx0
                have hl0 : ((ln : Int) == 0) = false := by rw [HB1.out]; exact hxb
                clear hx0
                go_wp2_with fail
                go_roundg (gk - 1)
                case measure => have := HG.out; omega
                case rel => exact ⟨j + 1, by have := HG.out; omega, by omega, by go_num, hidMk HKF.out⟩
            · have HANY := hidMk (fun X (kX : Kept wq X) => js_AllAny HJ.out x kX)
              clear hx hcc q1 q2 q3 hc4
              go_upto_region 14 with fail
              clear y4 y3
              refine wp_region_held_drew (S := (fun w' => Kept wq w')) (by kernel_rfl) ?_ (fun hHeld => ?_)
              · exact HKA.out.drew
              refine wpAnyH_take (i := 0) (oi := { dst := some 58, op := _, type := _, pos := _, after := _, guard := _ }) (v := ?_) rfl (by kernel_rfl) (by kernel_rfl) (by kernel_rfl) (fun _ _ _ h => h) (Or.inl ⟨by rfl, ?_⟩) (by assumption) ?_
              rotate_left
              · (intro w9 hSw; have s0 := hSw.cellp HCK.out.1; have s1 := hSw.cellp HCK.out.2.1; have s2 := hSw.cellp HCK.out.2.2.1; have s3 := hSw.cellp HCK.out.2.2.2; clear hSw; go_simp; (try with_reducible rfl))
              (try simp only [Act.put, List.setIfInBounds_toArray, List.set_cons_zero, List.set_cons_succ])
              refine wpAnyH_take (i := 1) (oi := { dst := some 59, op := _, type := _, pos := _, after := _, guard := _ }) (v := ?_) rfl (by kernel_rfl) (by kernel_rfl) (by kernel_rfl) (fun _ _ _ h => h) (Or.inl ⟨by rfl, ?_⟩) (by assumption) ?_
              rotate_left
              · (intro w9 hSw; have s0 := hSw.cellp HCK.out.1; have s1 := hSw.cellp HCK.out.2.1; have s2 := hSw.cellp HCK.out.2.2.1; have s3 := hSw.cellp HCK.out.2.2.2; clear hSw; go_simp; (try with_reducible rfl))
              (try simp only [Act.put, List.setIfInBounds_toArray, List.set_cons_zero, List.set_cons_succ])
              refine wpAnyH_take (i := 2) (oi := { dst := some 60, op := _, type := _, pos := _, after := _, guard := _ }) (v := ?_) rfl (by kernel_rfl) (by kernel_rfl) (by kernel_rfl) (fun _ _ _ h => h) (Or.inl ⟨by rfl, ?_⟩) (by assumption) ?_
              rotate_left
              · (intro w9 hSw; have s0 := hSw.cellp HCK.out.1; have s1 := hSw.cellp HCK.out.2.1; have s2 := hSw.cellp HCK.out.2.2.1; have s3 := hSw.cellp HCK.out.2.2.2; clear hSw; go_simp; (try with_reducible rfl))
              (try simp only [Act.put, List.setIfInBounds_toArray, List.set_cons_zero, List.set_cons_succ])
              refine wpAnyH_take (i := 3) (oi := { dst := some 61, op := _, type := _, pos := _, after := _, guard := _ }) (v := ?_) rfl (by kernel_rfl) (by kernel_rfl) (by kernel_rfl) (fun _ _ _ h => h) (Or.inl ⟨by rfl, ?_⟩) (by assumption) ?_
              rotate_left
              · (intro w9 hSw; have s0 := hSw.cellp HCK.out.1; have s1 := hSw.cellp HCK.out.2.1; have s2 := hSw.cellp HCK.out.2.2.1; have s3 := hSw.cellp HCK.out.2.2.2; clear hSw; go_simp; (try with_reducible rfl))
              (try simp only [Act.put, List.setIfInBounds_toArray, List.set_cons_zero, List.set_cons_succ])
              refine wpAnyH_take (i := 4) (oi := { dst := some 62, op := _, type := _, pos := _, after := _, guard := _ }) (v := ?_) rfl (by kernel_rfl) (by kernel_rfl) (by kernel_rfl) (fun _ _ _ h => h) (Or.inl ⟨by rfl, ?_⟩) (by assumption) ?_
              rotate_left
              · (intro w9 hSw; have s0 := hSw.cellp HCK.out.1; have s1 := hSw.cellp HCK.out.2.1; have s2 := hSw.cellp HCK.out.2.2.1; have s3 := hSw.cellp HCK.out.2.2.2; clear hSw; go_simp; (try with_reducible rfl))
              (try simp only [Act.put, List.setIfInBounds_toArray, List.set_cons_zero, List.set_cons_succ])
              refine wpAnyH_take (i := 5) (oi := { dst := some 63, op := _, type := _, pos := _, after := _, guard := _ }) (v := ?_) rfl (by kernel_rfl) (by kernel_rfl) (by kernel_rfl) (fun _ _ _ h => h) (Or.inl ⟨by rfl, ?_⟩) (by assumption) ?_
              rotate_left
              · (intro w9 hSw; have s0 := hSw.cellp HCK.out.1; have s1 := hSw.cellp HCK.out.2.1; have s2 := hSw.cellp HCK.out.2.2.1; have s3 := hSw.cellp HCK.out.2.2.2; clear hSw; go_simp; (try with_reducible rfl))
              (try simp only [Act.put, List.setIfInBounds_toArray, List.set_cons_zero, List.set_cons_succ])
              refine wpAnyH_take (i := 6) (oi := { dst := some 64, op := _, type := _, pos := _, after := _, guard := _ }) (v := ?_) rfl (by kernel_rfl) (by kernel_rfl) (by kernel_rfl) (fun _ _ _ h => h) (Or.inl ⟨by rfl, ?_⟩) (by assumption) ?_
              rotate_left
              · (intro w9 hSw; have s0 := hSw.cellp HCK.out.1; have s1 := hSw.cellp HCK.out.2.1; have s2 := hSw.cellp HCK.out.2.2.1; have s3 := hSw.cellp HCK.out.2.2.2; clear hSw; go_simp; (try with_reducible rfl))
              (try simp only [Act.put, List.setIfInBounds_toArray, List.set_cons_zero, List.set_cons_succ])
              refine wpAnyH_take (i := 7) (oi := { dst := some 65, op := _, type := _, pos := _, after := _, guard := _ }) (v := ?_) rfl (by kernel_rfl) (by kernel_rfl) (by kernel_rfl) (fun _ _ _ h => h) (Or.inl ⟨by rfl, ?_⟩) (by assumption) ?_
              rotate_left
              · (intro w9 hSw; have s0 := hSw.cellp HCK.out.1; have s1 := hSw.cellp HCK.out.2.1; have s2 := hSw.cellp HCK.out.2.2.1; have s3 := hSw.cellp HCK.out.2.2.2; clear hSw; go_simp; (try with_reducible rfl))
              (try simp only [Act.put, List.setIfInBounds_toArray, List.set_cons_zero, List.set_cons_succ])
              refine wpAnyH_take (i := 8) (oi := { dst := some 66, op := _, type := _, pos := _, after := _, guard := _ }) (v := ?_) rfl (by kernel_rfl) (by kernel_rfl) (by kernel_rfl) (fun _ _ _ h => h) (Or.inl ⟨by rfl, ?_⟩) (by assumption) ?_
              rotate_left
              · (intro w9 hSw; have s0 := hSw.cellp HCK.out.1; have s1 := hSw.cellp HCK.out.2.1; have s2 := hSw.cellp HCK.out.2.2.1; have s3 := hSw.cellp HCK.out.2.2.2; clear hSw; go_simp; (try with_reducible rfl))
              (try simp only [Act.put, List.setIfInBounds_toArray, List.set_cons_zero, List.set_cons_succ])
              refine wpAnyH_take (i := 9) (oi := { dst := some 67, op := _, type := _, pos := _, after := _, guard := _ }) (v := ?_) rfl (by kernel_rfl) (by kernel_rfl) (by kernel_rfl) (fun _ _ _ h => h) (Or.inl ⟨by rfl, ?_⟩) (by assumption) ?_
              rotate_left
              · (intro w9 hSw; have s0 := hSw.cellp HCK.out.1; have s1 := hSw.cellp HCK.out.2.1; have s2 := hSw.cellp HCK.out.2.2.1; have s3 := hSw.cellp HCK.out.2.2.2; clear hSw; go_simp; (try with_reducible rfl))
              (try simp only [Act.put, List.setIfInBounds_toArray, List.set_cons_zero, List.set_cons_succ])
              refine wpAnyH_take (i := 10) (oi := { dst := some 68, op := _, type := _, pos := _, after := _, guard := _ }) (v := ?_) rfl (by kernel_rfl) (by kernel_rfl) (by kernel_rfl) (fun _ _ _ h => h) (Or.inl ⟨by rfl, ?_⟩) (by assumption) ?_
              rotate_left
              · (intro w9 hSw; have s0 := hSw.cellp HCK.out.1; have s1 := hSw.cellp HCK.out.2.1; have s2 := hSw.cellp HCK.out.2.2.1; have s3 := hSw.cellp HCK.out.2.2.2; clear hSw; go_simp; (try with_reducible rfl))
              (try simp only [Act.put, List.setIfInBounds_toArray, List.set_cons_zero, List.set_cons_succ])
              refine wpAnyH_take (i := 11) (oi := { dst := some 69, op := _, type := _, pos := _, after := _, guard := _ }) (v := ?_) rfl (by kernel_rfl) (by kernel_rfl) (by kernel_rfl) (fun _ _ _ h => h) (Or.inl ⟨by rfl, ?_⟩) (by assumption) ?_
              rotate_left
              · (intro w9 hSw; have s0 := hSw.cellp HCK.out.1; have s1 := hSw.cellp HCK.out.2.1; have s2 := hSw.cellp HCK.out.2.2.1; have s3 := hSw.cellp HCK.out.2.2.2; clear hSw; go_simp; (try with_reducible rfl))
              (try simp only [Act.put, List.setIfInBounds_toArray, List.set_cons_zero, List.set_cons_succ])
              refine wpAnyH_ready (rs := [12]) (by kernel_rfl) (by simp) ?_
              refine AllReadyH.cons (o := { dst := some 70, op := _, type := _, pos := _, after := _, guard := _ }) rfl (fun K hK => ?_) AllReadyH.nil
              go_simp
              refine (HANY.out _ hHeld).mono ?_
              rintro e wz ⟨va, vn, vc, er, rfl, kz⟩
              have HKZ := hidMk kz
              clear kz
              (try go_wp2_with fail)
              refine hK.out _ _ ?_ (fun hHeld => ?_)
              · exact hHeld.trans HKZ.out
              clear hK K
              (try simp only [Act.put, List.setIfInBounds_toArray, List.set_cons_zero, List.set_cons_succ])
              refine wpAnyH_take (i := 13) (oi := { dst := some 57, op := _, type := _, pos := _, after := _, guard := _ }) (v := ?_) rfl (by kernel_rfl) (by kernel_rfl) (by kernel_rfl) (fun _ _ _ h => h) (Or.inl ⟨by rfl, ?_⟩) (by assumption) ?_
              rotate_left
              · (intro w9 hSw; have s0 := hSw.cellp HCK.out.1; have s1 := hSw.cellp HCK.out.2.1; have s2 := hSw.cellp HCK.out.2.2.1; have s3 := hSw.cellp HCK.out.2.2.2; clear hSw; go_simp; (try with_reducible rfl))
              (try simp only [Act.put, List.setIfInBounds_toArray, List.set_cons_zero, List.set_cons_succ])
              refine wpAnyH_take (i := 14) (oi := { dst := some 71, op := _, type := _, pos := _, after := _, guard := _ }) (v := ?_) rfl (by kernel_rfl) (by kernel_rfl) (by kernel_rfl) (fun _ _ _ h => h) (Or.inl ⟨by rfl, ?_⟩) (by assumption) ?_
              rotate_left
              · (intro w9 hSw; have s0 := hSw.cellp HCK.out.1; have s1 := hSw.cellp HCK.out.2.1; have s2 := hSw.cellp HCK.out.2.2.1; have s3 := hSw.cellp HCK.out.2.2.2; clear hSw; go_simp; (try with_reducible rfl))
              (try simp only [Act.put, List.setIfInBounds_toArray, List.set_cons_zero, List.set_cons_succ])
              refine wpAnyH_take (i := 15) (oi := { dst := some 72, op := _, type := _, pos := _, after := _, guard := _ }) (v := ?_) rfl (by kernel_rfl) (by kernel_rfl) (by kernel_rfl) (fun _ _ _ h => h) (Or.inl ⟨by rfl, ?_⟩) (by assumption) ?_
              rotate_left
              · (intro w9 hSw; have s0 := hSw.cellp HCK.out.1; have s1 := hSw.cellp HCK.out.2.1; have s2 := hSw.cellp HCK.out.2.2.1; have s3 := hSw.cellp HCK.out.2.2.2; clear hSw; go_simp; (try with_reducible rfl))
              (try simp only [Act.put, List.setIfInBounds_toArray, List.set_cons_zero, List.set_cons_succ])
              refine wpAnyH_take (i := 16) (oi := { dst := some 8, op := _, type := _, pos := _, after := _, guard := _ }) (v := ?_) rfl (by kernel_rfl) (by kernel_rfl) (by kernel_rfl) (fun _ _ _ h => h) (Or.inl ⟨by rfl, ?_⟩) (by assumption) ?_
              rotate_left
              · (intro w9 hSw; have s0 := hSw.cellp HCK.out.1; have s1 := hSw.cellp HCK.out.2.1; have s2 := hSw.cellp HCK.out.2.2.1; have s3 := hSw.cellp HCK.out.2.2.2; clear hSw; go_simp; (try with_reducible rfl))
              (try simp only [Act.put, List.setIfInBounds_toArray, List.set_cons_zero, List.set_cons_succ])
              refine wpAnyH_take (i := 17) (oi := { dst := some 9, op := _, type := _, pos := _, after := _, guard := _ }) (v := ?_) rfl (by kernel_rfl) (by kernel_rfl) (by kernel_rfl) (fun _ _ _ h => h) (Or.inl ⟨by rfl, ?_⟩) (by assumption) ?_
              rotate_left
              · (intro w9 hSw; have s0 := hSw.cellp HCK.out.1; have s1 := hSw.cellp HCK.out.2.1; have s2 := hSw.cellp HCK.out.2.2.1; have s3 := hSw.cellp HCK.out.2.2.2; clear hSw; go_simp; (try with_reducible rfl))
              (try simp only [Act.put, List.setIfInBounds_toArray, List.set_cons_zero, List.set_cons_succ])
              refine wpAnyH_done (by kernel_rfl) ?_ _
              clear hHeld
              have HKF := hidMk (HKA.out.drew.trans HKZ.out)
              have s1 := HKF.out.cellp HCK.out.2.1
              have s3 := HKF.out.cellp HCK.out.2.2.2
              go_wp2_with fail
              go_roundg (gk - 1)
              case measure => have := HG.out; omega
              case rel => exact ⟨j + 1, by have := HG.out; omega, by omega, by go_num, hidMk HKF.out⟩
          · have hj' : ¬ ((j : Int) < (m : Int)) := by omega
            have HKF := hidMk (HKQ.out.trans HKA.out)
            clear hc4
            go_wp2_with fail
            refine (HKN.out _ HKF.out).mono ?_
            rintro e w20 ⟨rfl, k20⟩
            have HK20 := hidMk (HKF.out.trans k20)
            go_wp2_with fail
            go_ret
            exact ⟨rfl, HK20.out⟩
  · have HBG := hidMk (l10_beginBad (2000 : Int) cd w (fun e => hok ⟨e.1, e.2.1, e.2.2.1⟩))
    clear hok hb
    go_enter Tryd.func5, Tryd.ntmps5
    go_wp2_with fail
    refine HBG.out.mono ?_
    rintro e w1 ⟨rfl, k1⟩
    have HK1 := hidMk k1
    clear hw hcd
    go_wp2_with fail
    refine (HKN.out _ HK1.out).mono ?_
    rintro e w20 ⟨rfl, k20⟩
    have HK20 := hidMk (HK1.out.trans k20)
    go_wp2_with fail
    go_ret
    exact ⟨rfl, HK20.out⟩
end Go.Proofs.YtjkbhaplngnniaaDoor
