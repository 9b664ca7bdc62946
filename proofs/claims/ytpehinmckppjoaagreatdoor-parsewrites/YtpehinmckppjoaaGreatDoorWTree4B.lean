/- What is asked of a member. · A tree's members as they are first laid: tree.of. -/
import Derived.Test.YtpehinmckppjoaaGreatDoorWTree2B
import Derived.Test.YtpehinmckppjoaaGreatDoorWText2B
namespace Go.Proofs.YtpehinmckppjoaaGreatDoor
open Go.RowKit Go.Maps
set_option linter.unusedSimpArgs false
set_option linter.unusedVariables false

theorem chk_0 (l : List Nd) (i : Nat) : chk l 0 i = if nameB (nmA l i) then 0 else 3 := rfl
theorem chk_1 (l : List Nd) (i : Nat) : chk l 1 i = if fstN l (nmA l i) = i then 0 else 4 := rfl
theorem chk_2 (l : List Nd) (i : Nat) : chk l 2 i = if upA l i = -1 ∨ isP l (upA l i) then 0 else 17 := rfl
theorem chk_3 (l : List Nd) (i : Nat) : chk l 3 i = if loopB l i then 15 else 0 := rfl
theorem chk_4 (l : List Nd) (i : Nat) : chk l 4 i = if 6 ≤ dep l i then 16 else 0 := rfl
theorem fst_lt (l : List Nd) (i : Nat) (h : i < l.length) : fstN l (nmA l i) < l.length := by
  unfold fstN
  rw [List.findIdx_lt_length]
  refine ⟨l[i], List.getElem_mem h, ?_⟩
  simp [nmA, List.getD, List.getElem?_eq_getElem h]
/-- A member's six cells. -/
structure Six (w : World) (mb i : Nat) (s : ByteArray) (u : Int) (a : Option Addr) (n c : Nat) (x y z : Int) : Prop where
  c0 : w.cell? ⟨mb, i * 6, none⟩ = some (.string s)
  c1 : w.cell? ⟨mb, i * 6 + 1, none⟩ = some (.int .i64 u)
  c2 : w.cell? ⟨mb, i * 6 + 2, none⟩ = some (.slice a n c)
  c3 : w.cell? ⟨mb, i * 6 + 3, none⟩ = some (.int .i64 x)
  c4 : w.cell? ⟨mb, i * 6 + 4, none⟩ = some (.int .i64 y)
  c5 : w.cell? ⟨mb, i * 6 + 5, none⟩ = some (.int .i64 z)
theorem TM.six {w : World} {p mb pb : Nat} {l : List Nd} {kv : Nat → Option Addr × Nat × Nat} {rk fr to : Nat → Int} {ov lv : Value} (h : TM w p mb pb l kv rk fr to ov lv) {i : Nat} (hi : i < l.length) : Six w mb i (nmA l i) (upA l i) (kv i).1 (kv i).2.1 (kv i).2.2 (rk i) (fr i) (to i) :=
  ⟨h.nm i hi, h.up i hi, h.kd i hi, h.rk i hi, h.fr i hi, h.to i hi⟩

set_option maxHeartbeats 1000000 in
set_option maxRecDepth 100000 in
theorem tree_ask0 {w : World} {p mb pb : Nat} {l : List Nd} {kv : Nat → Option Addr × Nat × Nat} {rk fr to : Nat → Int} {ov lv : Value} (h : TM w p mb pb l kv rk fr to ov lv) (i : Nat) (hi : i < l.length) :
    Calls Tryz.prog 93 #[.pointer (some ⟨p, 0, none⟩), .int .i64 0, .int .i64 i] w fun e w' => e = .returned (.int .i64 (chk l 0 i)) ∧ Kept w w' := by
  obtain ⟨s0, s1, s2, s3, s4, s5⟩ := h.six hi
  have h0 := h.c0
  have hb := h.big
  have HN := hidMk (text_Name (nmA l i) (h.nmb i hi))
  rw [chk_0]
  generalize nmA l i = s at *
  generalize upA l i = u at *
  generalize (kv i).1 = ka at *
  generalize (kv i).2.1 = kn at *
  generalize (kv i).2.2 = kc at *
  generalize rk i = x at *
  generalize fr i = y at *
  generalize to i = z at *
  clear h
  cases hn : nameB s with
  | true =>
    rw [hn] at HN
    clear hn
    simp only [if_true]
    go_enter Tryz.func93, Tryz.ntmps93
    go_wp2_with (go_at_call 63; refine (HN.out _).mono ?_; rintro e w1 ⟨rfl, rfl⟩)
    go_quiet (fail)
    go_wp2_with fail
    go_ret
    exact ⟨rfl, ((Kept.refl w).alloc _).drewN _⟩
  | false =>
    rw [hn] at HN
    clear hn
    go_enter Tryz.func93, Tryz.ntmps93
    go_wp2_with (go_at_call 63; refine (HN.out _).mono ?_; rintro e w1 ⟨rfl, rfl⟩)
    go_ret
    exact ⟨rfl, (Kept.refl w).alloc _⟩
set_option maxHeartbeats 1000000 in
set_option maxRecDepth 100000 in
theorem tree_ask1 {w : World} {p mb pb : Nat} {l : List Nd} {kv : Nat → Option Addr × Nat × Nat} {rk fr to : Nat → Int} {ov lv : Value} (h : TM w p mb pb l kv rk fr to ov lv) (i : Nat) (hi : i < l.length) :
    Calls Tryz.prog 93 #[.pointer (some ⟨p, 0, none⟩), .int .i64 1, .int .i64 i] w fun e w' => e = .returned (.int .i64 (chk l 1 i)) ∧ Kept w w' := by
  obtain ⟨s0, s1, s2, s3, s4, s5⟩ := h.six hi
  have h0 := h.c0
  have hb := h.big
  obtain ⟨n, _, hm⟩ := h.pm
  have h1 : ∀ o q, ((w.alloc o).drewN q).cell? ⟨p, 1, none⟩ = some (.map (some pb)) := fun o q => ((((Kept.refl w).alloc o).drewN q).cell (p := ⟨p, 1, none⟩) (show p < w.heap.size from cell_lt h.c0)).trans h.c1
  have hf := fst_lt l i hi
  have hl : ∀ q o, (Instr.lookup 172 (.map (some pb)) (.string (nmA l i)) false).run Tryz.prog ((w.alloc o).drewN q) = .ok (.int .i64 (fstN l (nmA l i) : Nat)) ((w.alloc o).drewN q) := fun q o => by
    have := (hm.kept (((Kept.refl w).alloc o).drewN q)).look1 (h.nmb i hi)
    rw [show fstO l (nmA l i) = some (fstN l (nmA l i) : Nat) from if_pos hf] at this
    exact this
  rw [chk_1]
  generalize fstN l (nmA l i) = f at *
  generalize nmA l i = s at *
  generalize upA l i = u at *
  generalize (kv i).1 = ka at *
  generalize (kv i).2.1 = kn at *
  generalize (kv i).2.2 = kc at *
  generalize rk i = x at *
  generalize fr i = y at *
  generalize to i = z at *
  clear h hm
  by_cases hn : f = i
  · subst hn
    simp only [if_true]
    have he : ((f : Int) != (f : Int)) = false := by simp
    go_enter Tryz.func93, Tryz.ntmps93
    go_wp2_with fail
    go_quiet (fail)
    go_wp2_with fail
    go_ret
    exact ⟨rfl, ((Kept.refl w).alloc _).drewN _⟩
  · rw [if_neg hn]
    have he : ((f : Int) != (i : Int)) = true := by simp; omega
    clear hn
    go_enter Tryz.func93, Tryz.ntmps93
    go_wp2_with fail
    go_quiet (fail)
    go_wp2_with fail
    go_ret
    exact ⟨rfl, ((Kept.refl w).alloc _).drewN _⟩
set_option maxHeartbeats 1000000 in
set_option maxRecDepth 100000 in
theorem tree_ask2 {w : World} {p mb pb : Nat} {l : List Nd} {kv : Nat → Option Addr × Nat × Nat} {rk fr to : Nat → Int} {ov lv : Value} (h : TM w p mb pb l kv rk fr to ov lv) (i : Nat) (hi : i < l.length) :
    Calls Tryz.prog 93 #[.pointer (some ⟨p, 0, none⟩), .int .i64 2, .int .i64 i] w fun e w' => e = .returned (.int .i64 (chk l 2 i)) ∧ Kept w w' := by
  obtain ⟨s0, s1, s2, s3, s4, s5⟩ := h.six hi
  have h0 := h.c0
  have hb := h.big
  have HH := hidMk (show ∀ w', Kept w w' → _ from fun w' k => tree_has (h.toTB.kept k) (upA l i))
  rw [chk_2]
  generalize nmA l i = s at *
  by_cases hu1 : upA l i = -1
  · rw [if_pos (.inl hu1)]
    rw [hu1] at s1
    clear HH hu1
    generalize (kv i).1 = ka at *
    generalize (kv i).2.1 = kn at *
    generalize (kv i).2.2 = kc at *
    generalize rk i = x at *
    generalize fr i = y at *
    generalize to i = z at *
    clear h
    go_enter Tryz.func93, Tryz.ntmps93
    go_wp2_with fail
    go_quiet (fail)
    go_wp2_with fail
    go_ret
    exact ⟨rfl, ((Kept.refl w).alloc _).drewN _⟩
  · by_cases hp : isP l (upA l i)
    · rw [if_pos (.inr hp)]
      rw [decide_eq_true hp] at HH
      have hu2 : (upA l i != -1) = true := by simpa using hu1
      clear hp hu1
      generalize upA l i = u at *
      generalize (kv i).1 = ka at *
      generalize (kv i).2.1 = kn at *
      generalize (kv i).2.2 = kc at *
      generalize rk i = x at *
      generalize fr i = y at *
      generalize to i = z at *
      clear h
      go_enter Tryz.func93, Tryz.ntmps93
      go_wp2_with fail
      go_quiet (fail)
      go_wp2_with (go_at_call 110; refine (HH.out _ (((Kept.refl w).alloc _).drewN _)).mono ?_; rintro e w1 ⟨rfl, rfl⟩)
      go_ret
      exact ⟨rfl, ((Kept.refl w).alloc _).drewN _⟩
    · rw [if_neg (fun hc => hc.elim hu1 hp)]
      rw [decide_eq_false hp] at HH
      have hu2 : (upA l i != -1) = true := by simpa using hu1
      clear hp hu1
      generalize upA l i = u at *
      generalize (kv i).1 = ka at *
      generalize (kv i).2.1 = kn at *
      generalize (kv i).2.2 = kc at *
      generalize rk i = x at *
      generalize fr i = y at *
      generalize to i = z at *
      clear h
      go_enter Tryz.func93, Tryz.ntmps93
      go_wp2_with fail
      go_quiet (fail)
      go_wp2_with (go_at_call 110; refine (HH.out _ (((Kept.refl w).alloc _).drewN _)).mono ?_; rintro e w1 ⟨rfl, rfl⟩)
      go_ret
      exact ⟨rfl, ((Kept.refl w).alloc _).drewN _⟩
set_option maxHeartbeats 1000000 in
set_option maxRecDepth 100000 in
theorem tree_ask3 {w : World} {p mb pb : Nat} {l : List Nd} {kv : Nat → Option Addr × Nat × Nat} {rk fr to : Nat → Int} {ov lv : Value} (h : TM w p mb pb l kv rk fr to ov lv) (i : Nat) (hi : i < l.length) :
    Calls Tryz.prog 93 #[.pointer (some ⟨p, 0, none⟩), .int .i64 3, .int .i64 i] w fun e w' => e = .returned (.int .i64 (chk l 3 i)) ∧ Kept w w' := by
  obtain ⟨s0, s1, s2, s3, s4, s5⟩ := h.six hi
  have h0 := h.c0
  have hb := h.big
  have HH := hidMk (show ∀ w', Kept w w' → _ from fun w' k => tree_loops (h.toTB.kept k) i)
  rw [chk_3]
  generalize nmA l i = s at *
  generalize upA l i = u at *
  generalize (kv i).1 = ka at *
  generalize (kv i).2.1 = kn at *
  generalize (kv i).2.2 = kc at *
  generalize rk i = x at *
  generalize fr i = y at *
  generalize to i = z at *
  clear h
  cases hn : loopB l i with
  | true =>
    rw [hn] at HH
    clear hn
    simp only [if_true]
    go_enter Tryz.func93, Tryz.ntmps93
    go_wp2_with fail
    go_quiet (fail)
    go_wp2_with (go_at_call 111; refine (HH.out _ (((Kept.refl w).alloc _).drewN _)).mono ?_; rintro e w1 ⟨rfl, rfl⟩)
    go_ret
    exact ⟨rfl, ((Kept.refl w).alloc _).drewN _⟩
  | false =>
    rw [hn] at HH
    clear hn
    go_enter Tryz.func93, Tryz.ntmps93
    go_wp2_with fail
    go_quiet (fail)
    go_wp2_with (go_at_call 111; refine (HH.out _ (((Kept.refl w).alloc _).drewN _)).mono ?_; rintro e w1 ⟨rfl, rfl⟩)
    go_ret
    exact ⟨rfl, ((Kept.refl w).alloc _).drewN _⟩
set_option maxHeartbeats 1000000 in
set_option maxRecDepth 100000 in
theorem tree_ask4 {w : World} {p mb pb : Nat} {l : List Nd} {kv : Nat → Option Addr × Nat × Nat} {rk fr to : Nat → Int} {ov lv : Value} (h : TM w p mb pb l kv rk fr to ov lv) (i : Nat) (hi : i < l.length) (hnl : noLoop l) :
    Calls Tryz.prog 93 #[.pointer (some ⟨p, 0, none⟩), .int .i64 4, .int .i64 i] w fun e w' => e = .returned (.int .i64 (chk l 4 i)) ∧ Kept w w' := by
  obtain ⟨s0, s1, s2, s3, s4, s5⟩ := h.six hi
  have h0 := h.c0
  have hb := h.big
  obtain ⟨m, hm, he⟩ := ends_of hnl i
  have HH := hidMk (show ∀ w', Kept w w' → _ from fun w' k => tree_Depth (h.toTB.kept k) hm he)
  rw [chk_4, dep_ends he hm]
  generalize nmA l i = s at *
  generalize upA l i = u at *
  generalize (kv i).1 = ka at *
  generalize (kv i).2.1 = kn at *
  generalize (kv i).2.2 = kc at *
  generalize rk i = x at *
  generalize fr i = y at *
  generalize to i = z at *
  clear h he
  by_cases hn : 6 ≤ m - 1
  · rw [if_pos hn]
    have hn' : (6 : Int) ≤ ((m - 1 : Nat) : Int) := by omega
    generalize m - 1 = d at *
    clear hn
    go_enter Tryz.func93, Tryz.ntmps93
    go_wp2_with fail
    go_quiet (fail)
    go_wp2_with (go_at_call 112; refine (HH.out _ (((Kept.refl w).alloc _).drewN _)).mono ?_; rintro e w1 ⟨rfl, rfl⟩)
    go_ret
    exact ⟨rfl, ((Kept.refl w).alloc _).drewN _⟩
  · rw [if_neg hn]
    have hn' : ((m - 1 : Nat) : Int) < 6 := by omega
    generalize m - 1 = d at *
    clear hn
    go_enter Tryz.func93, Tryz.ntmps93
    go_wp2_with fail
    go_quiet (fail)
    go_wp2_with (go_at_call 112; refine (HH.out _ (((Kept.refl w).alloc _).drewN _)).mono ?_; rintro e w1 ⟨rfl, rfl⟩)
    go_ret
    exact ⟨rfl, ((Kept.refl w).alloc _).drewN _⟩
theorem tree_ask {w : World} {p mb pb : Nat} {l : List Nd} {kv : Nat → Option Addr × Nat × Nat} {rk fr to : Nat → Int} {ov lv : Value} (h : TM w p mb pb l kv rk fr to ov lv) (q i : Nat) (hq : q < 5) (hi : i < l.length) (hnl : q = 4 → noLoop l) :
    Calls Tryz.prog 93 #[.pointer (some ⟨p, 0, none⟩), .int .i64 q, .int .i64 i] w fun e w' => e = .returned (.int .i64 (chk l q i)) ∧ Kept w w' := by
  have key : q = 0 ∨ q = 1 ∨ q = 2 ∨ q = 3 ∨ q = 4 := by omega
  rcases key with rfl | rfl | rfl | rfl | rfl
  · exact tree_ask0 h i hi
  · exact tree_ask1 h i hi
  · exact tree_ask2 h i hi
  · exact tree_ask3 h i hi
  · exact tree_ask4 h i hi (hnl rfl)
end Go.Proofs.YtpehinmckppjoaaGreatDoor
namespace Go.Proofs.YtpehinmckppjoaaGreatDoor
open Go.RowKit Go.Maps
set_option linter.unusedSimpArgs false
set_option linter.unusedVariables false

/-- A slice of members that came in. -/
structure Ns (w : World) (a : Option Addr) (n : Nat) (l : List Nd) : Prop where
  len : l.length = n
  big : n ≤ maxLen
  nmb : ∀ i, i < l.length → (nmA l i).size ≤ maxLen
  upb : ∀ i, i < l.length → isI (upA l i)
  cells : 0 < n → ∃ b o, a = some ⟨b, o, none⟩ ∧ b < w.heap.size ∧ ∀ i, i < n → w.cell? ⟨b, o + i * 2, none⟩ = some (.string (nmA l i)) ∧ w.cell? ⟨b, o + i * 2 + 1, none⟩ = some (.int .i64 (upA l i))
theorem Ns.chg {S : Nat → Prop} {w w' : World} {a : Option Addr} {n : Nat} {l : List Nd} (h : Ns w a n l) (g : Chg S w w') (hb : 0 < n → ∀ ad, a = some ad → ¬ S ad.block) : Ns w' a n l :=
  ⟨h.len, h.big, h.nmb, h.upb, fun hp => by
    obtain ⟨c, o, h1, h2, h3⟩ := h.cells hp
    refine ⟨c, o, h1, Nat.lt_of_lt_of_le h2 g.size, fun i hi => ?_⟩
    have hne : ¬ S c := hb hp ⟨c, o, none⟩ h1
    rw [g.cell (p := ⟨c, o + i * 2, none⟩) h2 hne, g.cell (p := ⟨c, o + i * 2 + 1, none⟩) h2 hne]
    exact h3 i hi⟩
theorem Ns.kept {w w' : World} {a : Option Addr} {n : Nat} {l : List Nd} (h : Ns w a n l) (g : Kept w w') : Ns w' a n l := h.chg (S := fun _ => False) (Chg.of_kept g) (fun _ _ _ e => e)

theorem run_makeMapN (n : Nat) (hn : n ≤ 60) (w : World) : (Instr.makeMap 172 (some (.int .i64 n))).run Tryz.prog w = .ok (.map (some w.heap.size)) (w.alloc (.map #[] 0)) := by
  simp [Instr.makeMap, run_underlying Tryz.underlying172, asInt, asIntOf, newObj]
  rfl
theorem zero6 : (Tryz.prog.info? 186).map (fun i => (i.zero, i.size, i.bytes)) = some (some (.agg #[.string ⟨#[]⟩, .int .i64 0, .slice none 0 0, .int .i64 0, .int .i64 0, .int .i64 0]), 6, 72) := by kernel_rfl
theorem run_make6 (n : Nat) (hn : n ≤ 60) (w : World) : (Instr.makeSlice 171 (.int .i64 n) (.int .i64 n)).run Tryz.prog w = .ok (.slice (some ⟨w.heap.size, 0, none⟩) n n) (w.alloc (.cells (madeCells #[.string ⟨#[]⟩, .int .i64 0, .slice none 0 0, .int .i64 0, .int .i64 0, .int .i64 0] (n * 6)) 186)) := by
  obtain ⟨i0, hi0, hz0, hz1, hz2⟩ := info_parts zero6
  have h := run_make (P := Tryz.prog) w 171 186 i0 _ Tryz.underlying171 hi0 hz0 .i64 .i64 n n (by omega) (by omega) (by rw [hz2]; omega) (by omega)
  rw [h, hz1]
  rfl

theorem cell_set {w : World} {p : Addr} {v : Value} (h : w.cell? p = some v) (u : Value) (q : Addr) : (w.setCell p u).cell? q = if q = p then some u else w.cell? q := by
  by_cases e : q = p
  · subst e; rw [if_pos rfl]; exact World.cell?_setCell_same _ _ _ h
  · rw [if_neg e]; exact World.cell?_setCell_other _ _ _ _ (fun e' => e e'.symm)
theorem alloc_cell0 {x : World} {N : Nat} (h : x.heap.size = N) (v u : Value) (t : TypeId) : ((x.alloc (.cells #[v, u] t)).drew).cell? ⟨N, 0, none⟩ = some v := by subst h; simp
theorem heap_new2 {x : World} {N : Nat} {o : Obj} (h : x.heap.size = N) : (x.alloc o).heap[N]? = some o := by subst h; exact heap_alloc_new x o
theorem heap_old2 {x : World} {N : Nat} {o : Obj} (h : N < x.heap.size) : (x.alloc o).heap[N]? = x.heap[N]? := Below.heap_alloc _ _ _ h
theorem mapIs_made2 {x : World} {N : Nat} (h : x.heap.size = N) : MapIs (x.alloc (.map #[] 0)) N 0 (fun _ => none) := by subst h; exact mapIs_made x
theorem gen_world {f : World → Prop} {W : World} (P : World → Prop) (h : P W) (k : ∀ W', P W' → f W') : f W := k W h
/-- Six cells in a row are written. -/
theorem six_put {w : World} {mb k : Nat} (ex : ∀ j, j < 6 → ∃ v, w.cell? ⟨mb, k * 6 + j, none⟩ = some v) (v0 v1 v2 v3 v4 v5 : Value) :
    let W := (((((w.setCell ⟨mb, k * 6, none⟩ v0).setCell ⟨mb, k * 6 + 1, none⟩ v1).setCell ⟨mb, k * 6 + 2, none⟩ v2).setCell ⟨mb, k * 6 + 3, none⟩ v3).setCell ⟨mb, k * 6 + 4, none⟩ v4).setCell ⟨mb, k * 6 + 5, none⟩ v5
    W.cell? ⟨mb, k * 6, none⟩ = some v0 ∧ W.cell? ⟨mb, k * 6 + 1, none⟩ = some v1 ∧ W.cell? ⟨mb, k * 6 + 2, none⟩ = some v2 ∧ W.cell? ⟨mb, k * 6 + 3, none⟩ = some v3 ∧ W.cell? ⟨mb, k * 6 + 4, none⟩ = some v4 ∧ W.cell? ⟨mb, k * 6 + 5, none⟩ = some v5 ∧
    (∀ q : Addr, (q.block ≠ mb ∨ q.off < k * 6 ∨ k * 6 + 6 ≤ q.off) → W.cell? q = w.cell? q) ∧ (∀ q, W.frozen? q = w.frozen? q) ∧ Chg (· = mb) w W := by
  intro W
  obtain ⟨x0, e0⟩ := ex 0 (by omega)
  obtain ⟨x1, e1⟩ := ex 1 (by omega)
  obtain ⟨x2, e2⟩ := ex 2 (by omega)
  obtain ⟨x3, e3⟩ := ex 3 (by omega)
  obtain ⟨x4, e4⟩ := ex 4 (by omega)
  obtain ⟨x5, e5⟩ := ex 5 (by omega)
  rw [Nat.add_zero] at e0
  have d1 : (w.setCell ⟨mb, k * 6, none⟩ v0).cell? ⟨mb, k * 6 + 1, none⟩ = some x1 := by rw [cell_set e0, if_neg (by simp)]; exact e1
  have d2 : ((w.setCell ⟨mb, k * 6, none⟩ v0).setCell ⟨mb, k * 6 + 1, none⟩ v1).cell? ⟨mb, k * 6 + 2, none⟩ = some x2 := by rw [cell_set d1, if_neg (by simp), cell_set e0, if_neg (by simp)]; exact e2
  have d3 : (((w.setCell ⟨mb, k * 6, none⟩ v0).setCell ⟨mb, k * 6 + 1, none⟩ v1).setCell ⟨mb, k * 6 + 2, none⟩ v2).cell? ⟨mb, k * 6 + 3, none⟩ = some x3 := by rw [cell_set d2, if_neg (by simp), cell_set d1, if_neg (by simp), cell_set e0, if_neg (by simp)]; exact e3
  have d4 : ((((w.setCell ⟨mb, k * 6, none⟩ v0).setCell ⟨mb, k * 6 + 1, none⟩ v1).setCell ⟨mb, k * 6 + 2, none⟩ v2).setCell ⟨mb, k * 6 + 3, none⟩ v3).cell? ⟨mb, k * 6 + 4, none⟩ = some x4 := by rw [cell_set d3, if_neg (by simp), cell_set d2, if_neg (by simp), cell_set d1, if_neg (by simp), cell_set e0, if_neg (by simp)]; exact e4
  have d5 : (((((w.setCell ⟨mb, k * 6, none⟩ v0).setCell ⟨mb, k * 6 + 1, none⟩ v1).setCell ⟨mb, k * 6 + 2, none⟩ v2).setCell ⟨mb, k * 6 + 3, none⟩ v3).setCell ⟨mb, k * 6 + 4, none⟩ v4).cell? ⟨mb, k * 6 + 5, none⟩ = some x5 := by rw [cell_set d4, if_neg (by simp), cell_set d3, if_neg (by simp), cell_set d2, if_neg (by simp), cell_set d1, if_neg (by simp), cell_set e0, if_neg (by simp)]; exact e5
  have all : ∀ q, W.cell? q = if q = ⟨mb, k * 6 + 5, none⟩ then some v5 else if q = ⟨mb, k * 6 + 4, none⟩ then some v4 else if q = ⟨mb, k * 6 + 3, none⟩ then some v3 else if q = ⟨mb, k * 6 + 2, none⟩ then some v2 else if q = ⟨mb, k * 6 + 1, none⟩ then some v1 else if q = ⟨mb, k * 6, none⟩ then some v0 else w.cell? q := by
    intro q
    rw [cell_set d5, cell_set d4, cell_set d3, cell_set d2, cell_set d1, cell_set e0]
  refine ⟨by rw [all]; simp, by rw [all]; simp, by rw [all]; simp, by rw [all]; simp, by rw [all]; simp, by rw [all]; simp, fun q hq => ?_, fun q => by simp [W], ?_⟩
  · have ne : ∀ j, j < 6 → q ≠ ⟨mb, k * 6 + j, none⟩ := fun j hj e => by subst e; simp at hq; omega
    rw [all, if_neg (ne 5 (by omega)), if_neg (ne 4 (by omega)), if_neg (ne 3 (by omega)), if_neg (ne 2 (by omega)), if_neg (ne 1 (by omega)), if_neg (by simpa using ne 0 (by omega))]
  · exact (((((((Chg.refl (· = mb) w).setCell (p := ⟨mb, k * 6, none⟩) (.inl rfl) _).setCell (p := ⟨mb, k * 6 + 1, none⟩) (.inl rfl) _).setCell (p := ⟨mb, k * 6 + 2, none⟩) (.inl rfl) _).setCell (p := ⟨mb, k * 6 + 3, none⟩) (.inl rfl) _).setCell (p := ⟨mb, k * 6 + 4, none⟩) (.inl rfl) _).setCell (p := ⟨mb, k * 6 + 5, none⟩) (.inl rfl) _)
/-- The first k members are laid, and the first m names. -/
structure OfR (w wr : World) (p mb pb n k m : Nat) (l : List Nd) : Prop where
  kept : Kept w wr
  c0 : wr.cell? ⟨p, 0, none⟩ = some (.slice (some ⟨mb, 0, none⟩) n n)
  c1 : wr.cell? ⟨p, 1, none⟩ = some (.map (some pb))
  c2 : wr.cell? ⟨p, 2, none⟩ = some (.slice none 0 0)
  c3 : wr.cell? ⟨p, 3, none⟩ = some (.slice none 0 0)
  six : ∀ i, i < k → Six wr mb i (nmA l i) (upA l i) none 0 0 (-1) 0 0
  rest : ∀ j, j < n * 6 → ∃ v, wr.cell? ⟨mb, j, none⟩ = some v
  fz : ∀ j, wr.frozen? ⟨p, j, none⟩ = false
  fm : ∀ j, wr.frozen? ⟨mb, j, none⟩ = false
  map : MapIs wr pb m (fstO (l.take m))
theorem OfR.chg {S : Nat → Prop} {w x y : World} {p mb pb n k m m' : Nat} {l : List Nd} (h : OfR w x p mb pb n k m l) (g : Chg S x y) (hp : ¬ S p) (hm : ¬ S mb) (hn : 0 < n) (hk : Kept w y) (hb : MapIs y pb m' (fstO (l.take m'))) : OfR w y p mb pb n k m' l := by
  have lp : p < x.heap.size := cell_lt h.c0
  have lm : mb < x.heap.size := by obtain ⟨v, e⟩ := h.rest 0 (by omega); exact cell_lt e
  refine ⟨hk, (g.cell (p := ⟨p, 0, none⟩) lp hp).trans h.c0, (g.cell (p := ⟨p, 1, none⟩) lp hp).trans h.c1, (g.cell (p := ⟨p, 2, none⟩) lp hp).trans h.c2, (g.cell (p := ⟨p, 3, none⟩) lp hp).trans h.c3, fun i hi => ?_, fun j hj => ?_, fun j => (g.frozen (p := ⟨p, j, none⟩) lp hp).trans (h.fz j), fun j => (g.frozen (p := ⟨mb, j, none⟩) lm hm).trans (h.fm j), hb⟩
  · obtain ⟨a0, a1, a2, a3, a4, a5⟩ := h.six i hi
    exact ⟨(g.cell (p := ⟨mb, i * 6, none⟩) lm hm).trans a0, (g.cell (p := ⟨mb, i * 6 + 1, none⟩) lm hm).trans a1, (g.cell (p := ⟨mb, i * 6 + 2, none⟩) lm hm).trans a2, (g.cell (p := ⟨mb, i * 6 + 3, none⟩) lm hm).trans a3, (g.cell (p := ⟨mb, i * 6 + 4, none⟩) lm hm).trans a4, (g.cell (p := ⟨mb, i * 6 + 5, none⟩) lm hm).trans a5⟩
  · obtain ⟨v, e⟩ := h.rest j hj
    exact ⟨v, (g.cell (p := ⟨mb, j, none⟩) lm hm).trans e⟩
theorem OfR.drewN {w x : World} {p mb pb n k m : Nat} {l : List Nd} (h : OfR w x p mb pb n k m l) (hn : 0 < n) (q : Nat) : OfR w (x.drewN q) p mb pb n k m l :=
  h.chg (S := fun _ => False) (Chg.of_kept ((Kept.refl x).drewN q)) (fun e => e) (fun e => e) hn (h.kept.drewN q) h.map
theorem OfR.put {w x : World} {p mb pb n k m : Nat} {l : List Nd} (h : OfR w x p mb pb n k m l) (hk : k < n) (hpm : p ≠ mb) (hbm : pb ≠ mb) (hmw : w.heap.size ≤ mb) (o : Obj) :
    OfR w ((((((((x.setCell ⟨mb, k * 6, none⟩ (.string (nmA l k))).setCell ⟨mb, k * 6 + 1, none⟩ (.int .i64 (upA l k))).setCell ⟨mb, k * 6 + 2, none⟩ (.slice none 0 0)).setCell ⟨mb, k * 6 + 3, none⟩ (.int .i64 (-1))).setCell ⟨mb, k * 6 + 4, none⟩ (.int .i64 0)).setCell ⟨mb, k * 6 + 5, none⟩ (.int .i64 0)).alloc o).drew) p mb pb n (k + 1) m l := by
  obtain ⟨z0, z1, z2, z3, z4, z5, zo, zf, zc⟩ := six_put (w := x) (mb := mb) (k := k) (fun j hj => h.rest (k * 6 + j) (by omega)) (.string (nmA l k)) (.int .i64 (upA l k)) (.slice none 0 0) (.int .i64 (-1)) (.int .i64 0) (.int .i64 0)
  have h1 : OfR w (((((((x.setCell ⟨mb, k * 6, none⟩ (.string (nmA l k))).setCell ⟨mb, k * 6 + 1, none⟩ (.int .i64 (upA l k))).setCell ⟨mb, k * 6 + 2, none⟩ (.slice none 0 0)).setCell ⟨mb, k * 6 + 3, none⟩ (.int .i64 (-1))).setCell ⟨mb, k * 6 + 4, none⟩ (.int .i64 0)).setCell ⟨mb, k * 6 + 5, none⟩ (.int .i64 0))) p mb pb n (k + 1) m l := by
    refine ⟨zc.kept h.kept (fun j e => by subst e; exact hmw), (zo _ (.inl hpm)).trans h.c0, (zo _ (.inl hpm)).trans h.c1, (zo _ (.inl hpm)).trans h.c2, (zo _ (.inl hpm)).trans h.c3, fun i hi => ?_, fun j hj => ?_, fun j => (zf _).trans (h.fz j), fun j => (zf _).trans (h.fm j), h.map.chg zc hbm⟩
    · by_cases e : i = k
      · subst e; exact ⟨z0, z1, z2, z3, z4, z5⟩
      · obtain ⟨a0, a1, a2, a3, a4, a5⟩ := h.six i (by omega)
        exact ⟨(zo _ (.inr (by simp; omega))).trans a0, (zo _ (.inr (by simp; omega))).trans a1, (zo _ (.inr (by simp; omega))).trans a2, (zo _ (.inr (by simp; omega))).trans a3, (zo _ (.inr (by simp; omega))).trans a4, (zo _ (.inr (by simp; omega))).trans a5⟩
    · by_cases e : j < k * 6 ∨ k * 6 + 6 ≤ j
      · obtain ⟨v, e'⟩ := h.rest j hj
        exact ⟨v, (zo _ (.inr e)).trans e'⟩
      · have : j = k * 6 ∨ j = k * 6 + 1 ∨ j = k * 6 + 2 ∨ j = k * 6 + 3 ∨ j = k * 6 + 4 ∨ j = k * 6 + 5 := by omega
        rcases this with rfl | rfl | rfl | rfl | rfl | rfl
        · exact ⟨_, z0⟩
        · exact ⟨_, z1⟩
        · exact ⟨_, z2⟩
        · exact ⟨_, z3⟩
        · exact ⟨_, z4⟩
        · exact ⟨_, z5⟩
  exact h1.chg (S := fun _ => False) (Chg.of_kept (((Kept.refl _).alloc o).drew)) (fun e => e) (fun e => e) (by omega) ((h1.kept.alloc o).drew) (h1.map.kept (((Kept.refl _).alloc o).drew))
theorem fst_take (l : List Nd) (k : Nat) (hk : k < l.length) (t : ByteArray) : fstO (l.take (k + 1)) t = match fstO (l.take k) t with | some x => some x | none => if t = nmA l k then some (k : Int) else none := by
  have e1 : l.take (k + 1) = l.take k ++ [l[k]] := List.take_succ_eq_append_getElem hk
  have e2 : (l.take k).length = k := by simp; omega
  have e3 : nmA l k = l[k].1 := by simp [nmA, List.getD, List.getElem?_eq_getElem hk]
  have e4 : fstN (l.take (k + 1)) t = if fstN (l.take k) t < k then fstN (l.take k) t else (if l[k].1 = t then 0 else 1) + k := by
    unfold fstN
    rw [e1, List.findIdx_append, e2]
    simp [List.findIdx_cons, Bool.cond_decide]
  have e5 : (l.take (k + 1)).length = k + 1 := by simp; omega
  unfold fstO
  rw [e2, e5, e4]
  by_cases h : fstN (l.take k) t < k
  · rw [if_pos h, if_pos (by omega)]
    simp [h]
  · rw [if_neg h]
    simp only [h, if_false]
    rw [e3]
    by_cases e : l[k].1 = t
    · simp [e]
    · have e' : ¬ t = l[k].1 := fun x => e x.symm
      simp [e, e']
      omega
theorem OfR.tm {w x : World} {p mb pb n : Nat} {l : List Nd} (h : OfR w x p mb pb n n n l) {w0 : World} {a : Option Addr} (hs : Ns w0 a n l) (h2 : n ≤ 60) (hne : p ≠ mb ∧ p ≠ pb ∧ mb ≠ pb) :
    TM x p mb pb l (fun _ => (none, 0, 0)) (fun _ => -1) (fun _ => 0) (fun _ => 0) (.slice none 0 0) (.slice none 0 0) := by
  have hl := hs.len
  have hm := h.map
  rw [List.take_of_length_le (by omega)] at hm
  refine ⟨⟨by rw [hl]; exact h.c0, fun i hi => (h.six i (by omega)).c0, fun i hi => (h.six i (by omega)).c1, by omega, hs.nmb, hs.upb⟩, h.c1, h.c2, h.c3, fun i hi => (h.six i (by omega)).c2, fun i hi => (h.six i (by omega)).c3, fun i hi => (h.six i (by omega)).c4, fun i hi => (h.six i (by omega)).c5, h.fz, h.fm, ⟨n, h2, hm⟩, hne⟩
theorem OfR.drew {w x : World} {p mb pb n k m : Nat} {l : List Nd} (h : OfR w x p mb pb n k m l) (hn : 0 < n) : OfR w x.drew p mb pb n k m l :=
  h.chg (S := fun _ => False) (Chg.of_kept ((Kept.refl x).drew)) (fun e => e) (fun e => e) hn (h.kept.drew) h.map

/-- What of answers. -/
def OfPost (w : World) (l : List Nd) (e : Ending) (w' : World) : Prop := ∃ p mb pb, e = .returned (.pointer (some ⟨p, 0, none⟩)) ∧ w.heap.size ≤ p ∧ w.heap.size ≤ mb ∧ w.heap.size ≤ pb ∧
      TM w' p mb pb l (fun _ => (none, 0, 0)) (fun _ => -1) (fun _ => 0) (fun _ => 0) (.slice none 0 0) (.slice none 0 0) ∧ Kept w w'
theorem of_start {w W : World} {p mb pb n : Nat} {l : List Nd} {t1 t2 : TypeId} (h1 : W.heap[p]? = some (.cells #[.slice (some ⟨mb, 0, none⟩) n n, .map (some pb), .slice none 0 0, .slice none 0 0] t1))
    (h2 : W.heap[mb]? = some (.cells (madeCells #[.string ⟨#[]⟩, .int .i64 0, .slice none 0 0, .int .i64 0, .int .i64 0, .int .i64 0] (n * 6)) t2)) (hm : MapIs W pb 0 (fun _ => none)) (k : Kept w W) : OfR w W p mb pb n 0 0 l := by
  refine ⟨k, by simp [World.cell?, h1], by simp [World.cell?, h1], by simp [World.cell?, h1], by simp [World.cell?, h1], fun i hi => absurd hi (by omega), fun j hj => ?_, fun j => by simp [World.frozen?, h1], fun j => by simp [World.frozen?, h2], ?_⟩
  · simp [World.cell?, h2, madeCells, hj]
  · exact hm

set_option maxHeartbeats 2000000 in
set_option maxRecDepth 100000 in
theorem tree_of (a : Option Addr) (n c : Nat) (l : List Nd) (w : World) (hs : Ns w a n l) (h1 : 1 ≤ n) (h2 : n ≤ 60) :
    Calls Tryz.prog 92 #[.slice a n c] w (OfPost w l) := by
  have H := hidMk hs
  have hmm := run_makeMapN n h2
  have hmk := run_make6 n h2
  clear hs
  go_enter Tryz.func92, Tryz.ntmps92
  go_wp2_with fail
  go_region
  · go_wp2_with fail
    go_loopw [18] (fun i wr => ∃ k : Nat, k ≤ n ∧ i = .int .i64 k ∧ OfR w wr (w.heap.size + 2) w.heap.size (w.heap.size + 1) n k k l) (fun i _ => n - (intOf i).toNat)
    case atStart =>
      refine ⟨0, Nat.zero_le _, rfl, ?_⟩
      refine of_start (t1 := 174) (t2 := 186) ?_ ?_ ?_ (((((Kept.refl w).alloc _).alloc _).alloc _).drew)
      · exact heap_new2 (by simp)
      · exact (heap_old2 (by simp; omega)).trans ((Below.heap_alloc _ _ _ (by simp)).trans (heap_new2 (by simp)))
      · exact (mapIs_made2 (by simp)).kept (((Kept.refl _).alloc _).drew)
    case round =>
      obtain ⟨k, hk, rfl, hR⟩ := hrel
      by_cases hkn : k < n
      · obtain ⟨b, o, rfl, hb, hcs⟩ := (H.out.kept hR.kept).cells (by omega)
        obtain ⟨hc1, hc2⟩ := hcs k hkn
        clear hcs
        have HR := hidMk hR
        have r0 := hR.c0
        obtain ⟨v0, e0⟩ := hR.rest (k * 6) (by omega)
        obtain ⟨v1, e1⟩ := hR.rest (k * 6 + 1) (by omega)
        obtain ⟨v2, e2⟩ := hR.rest (k * 6 + 2) (by omega)
        obtain ⟨v3, e3⟩ := hR.rest (k * 6 + 3) (by omega)
        obtain ⟨v4, e4⟩ := hR.rest (k * 6 + 4) (by omega)
        obtain ⟨v5, e5⟩ := hR.rest (k * 6 + 5) (by omega)
        have f0 := hR.fm
        have lr := hR.kept.size
        have lm : w.heap.size < wr.heap.size := cell_lt e0
        have lp : w.heap.size + 2 < wr.heap.size := cell_lt r0
        have HB := hidMk hb
        have HS := hidMk (H.out.nmb k (by rw [H.out.len]; exact hkn))
        have HF := hidMk (fst_take l k (by rw [H.out.len]; exact hkn))
        have HPUT := hidMk (fun o => hR.put hkn (by omega) (by omega) (by omega) o)
        clear hR
        generalize nmA l k = s at *
        generalize upA l k = u at *
        go_wp2_with fail
        go_region
        refine gen_world (f := fun W => Exit.then _ _ _ _ W) (fun W' => OfR w W' (w.heap.size + 2) w.heap.size (w.heap.size + 1) n (k + 1) k l ∧ W'.cell? ⟨wr.heap.size, 0, none⟩ = some (.string s) ∧ wr.heap.size < W'.heap.size) ⟨HPUT.out _, alloc_cell0 (by simp [World.setCell]) _ _ _, by simp [World.setCell]⟩ ?_
        rintro W5 ⟨h5, c5, l5⟩
        clear e0 e1 e2 e3 e4 e5 hc1 hc2 HPUT
        have H5 := hidMk h5
        have d1 := h5.c1
        have hlk : ∀ q, (Instr.lookup 172 (.map (some (w.heap.size + 1))) (.string s) true).run Tryz.prog (W5.drewN q) = _ := fun q => (h5.drewN (by omega) q).map.look HS.out
        clear h5
        cases hx : fstO (l.take k) s with
        | some x =>
          rw [hx] at hlk
          have hlk2 : ∀ q, (Instr.lookup 172 (.map (some (w.heap.size + 1))) (.string s) true).run Tryz.prog (W5.drewN q) = .ok (.tuple #[.int .i64 x, .bool true]) (W5.drewN q) := hlk
          clear hlk
          have HX := hidMk (show fstO (l.take (k + 1)) = fstO (l.take k) from funext fun t => by
            rw [HF.out t]
            cases hy : fstO (l.take k) t with
            | some y => rfl
            | none =>
              have : ¬ t = s := fun e => by subst e; rw [hx] at hy; cases hy
              simp [this])
          clear hx
          go_wp2_with fail
          go_quiet (fail)
          go_wp2_with fail
          refine ⟨⟨k + 1, by omega, by go_num, ?_⟩, by simp [intOf]; omega⟩
          have g := H5.out.drewN (by omega) nq
          obtain ⟨D, hD1, hD2⟩ := g.map
          refine g.chg (S := fun _ => False) (Chg.refl _ _) (fun e => e) (fun e => e) (by omega) g.kept ?_
          rw [HX.out]
          exact ⟨D, hD1.mono (by omega), hD2⟩
        | none =>
          rw [hx] at hlk
          have hlk2 : ∀ q, (Instr.lookup 172 (.map (some (w.heap.size + 1))) (.string s) true).run Tryz.prog (W5.drewN q) = .ok (.tuple #[.int .i64 0, .bool false]) (W5.drewN q) := hlk
          clear hlk
          have HX := hidMk (show fstO (l.take (k + 1)) = (fun t => if t = s then some (k : Int) else fstO (l.take k) t) from funext fun t => by
            rw [HF.out t]
            cases hy : fstO (l.take k) t with
            | some y =>
              have : ¬ t = s := fun e => by subst e; rw [hx] at hy; cases hy
              simp [this]
            | none => rfl)
          clear hx
          go_wp2_with fail
          go_quiet (fail)
          go_wp2_with fail
          obtain ⟨W7, hst, hm7, hc7⟩ := (H5.out.drewN (by omega) (nq + 1)).map.store (show k < maxLen by unfold maxLen; omega) HS.out (x := (k : Int)) (WalkArith.wf_i64 (by omega))
          have H7 := hidMk hm7
          have C7 := hidMk hc7
          clear hm7 hc7
          go_region
          go_wp2_with fail
          refine ⟨⟨k + 1, by omega, by go_num, ?_⟩, by simp [intOf]; omega⟩
          have g := H5.out.drewN (by omega) (nq + 1)
          refine g.chg C7.out (by omega) (by omega) (by omega) (C7.out.kept g.kept (fun j e => by omega)) ?_
          rw [HX.out]
          exact H7.out
      · have e : k = n := by omega
        subst e
        have HR := hidMk hR
        clear hR
        have hkk : ¬ ((k : Int) < (k : Int)) := by omega
        go_wp2_with fail
        go_ret
        refine ⟨_, w.heap.size, w.heap.size + 1, rfl, by omega, by omega, by omega, ?_, HR.out.kept⟩
        exact HR.out.tm H.out (by omega) (by omega)
  · go_wp2_with fail
    go_loopw [18] (fun i wr => ∃ k : Nat, k ≤ n ∧ i = .int .i64 k ∧ OfR w wr (w.heap.size + 2) (w.heap.size + 1) w.heap.size n k k l) (fun i _ => n - (intOf i).toNat)
    case atStart =>
      refine ⟨0, Nat.zero_le _, rfl, ?_⟩
      refine of_start (t1 := 174) (t2 := 186) ?_ ?_ ?_ (((((Kept.refl w).alloc _).alloc _).alloc _).drew)
      · exact heap_new2 (by simp)
      · exact (heap_old2 (by simp)).trans (heap_new2 (by simp))
      · exact (mapIs_made2 rfl).kept ((((Kept.refl _).alloc _).alloc _).drew)
    case round =>
      obtain ⟨k, hk, rfl, hR⟩ := hrel
      by_cases hkn : k < n
      · obtain ⟨b, o, rfl, hb, hcs⟩ := (H.out.kept hR.kept).cells (by omega)
        obtain ⟨hc1, hc2⟩ := hcs k hkn
        clear hcs
        have HR := hidMk hR
        have r0 := hR.c0
        obtain ⟨v0, e0⟩ := hR.rest (k * 6) (by omega)
        obtain ⟨v1, e1⟩ := hR.rest (k * 6 + 1) (by omega)
        obtain ⟨v2, e2⟩ := hR.rest (k * 6 + 2) (by omega)
        obtain ⟨v3, e3⟩ := hR.rest (k * 6 + 3) (by omega)
        obtain ⟨v4, e4⟩ := hR.rest (k * 6 + 4) (by omega)
        obtain ⟨v5, e5⟩ := hR.rest (k * 6 + 5) (by omega)
        have f0 := hR.fm
        have lr := hR.kept.size
        have lm : w.heap.size + 1 < wr.heap.size := cell_lt e0
        have lp : w.heap.size + 2 < wr.heap.size := cell_lt r0
        have HB := hidMk hb
        have HS := hidMk (H.out.nmb k (by rw [H.out.len]; exact hkn))
        have HF := hidMk (fst_take l k (by rw [H.out.len]; exact hkn))
        have HPUT := hidMk (fun o => hR.put hkn (by omega) (by omega) (by omega) o)
        clear hR
        generalize nmA l k = s at *
        generalize upA l k = u at *
        go_wp2_with fail
        go_region
        refine gen_world (f := fun W => Exit.then _ _ _ _ W) (fun W' => OfR w W' (w.heap.size + 2) (w.heap.size + 1) w.heap.size n (k + 1) k l ∧ W'.cell? ⟨wr.heap.size, 0, none⟩ = some (.string s) ∧ wr.heap.size < W'.heap.size) ⟨HPUT.out _, alloc_cell0 (by simp [World.setCell]) _ _ _, by simp [World.setCell]⟩ ?_
        rintro W5 ⟨h5, c5, l5⟩
        clear e0 e1 e2 e3 e4 e5 hc1 hc2 HPUT
        have H5 := hidMk h5
        have d1 := h5.c1
        have hlk : ∀ q, (Instr.lookup 172 (.map (some w.heap.size)) (.string s) true).run Tryz.prog (W5.drewN q) = _ := fun q => (h5.drewN (by omega) q).map.look HS.out
        clear h5
        cases hx : fstO (l.take k) s with
        | some x =>
          rw [hx] at hlk
          have hlk2 : ∀ q, (Instr.lookup 172 (.map (some w.heap.size)) (.string s) true).run Tryz.prog (W5.drewN q) = .ok (.tuple #[.int .i64 x, .bool true]) (W5.drewN q) := hlk
          clear hlk
          have HX := hidMk (show fstO (l.take (k + 1)) = fstO (l.take k) from funext fun t => by
            rw [HF.out t]
            cases hy : fstO (l.take k) t with
            | some y => rfl
            | none =>
              have : ¬ t = s := fun e => by subst e; rw [hx] at hy; cases hy
              simp [this])
          clear hx
          go_wp2_with fail
          go_quiet (fail)
          go_wp2_with fail
          refine ⟨⟨k + 1, by omega, by go_num, ?_⟩, by simp [intOf]; omega⟩
          have g := H5.out.drewN (by omega) nq
          obtain ⟨D, hD1, hD2⟩ := g.map
          refine g.chg (S := fun _ => False) (Chg.refl _ _) (fun e => e) (fun e => e) (by omega) g.kept ?_
          rw [HX.out]
          exact ⟨D, hD1.mono (by omega), hD2⟩
        | none =>
          rw [hx] at hlk
          have hlk2 : ∀ q, (Instr.lookup 172 (.map (some w.heap.size)) (.string s) true).run Tryz.prog (W5.drewN q) = .ok (.tuple #[.int .i64 0, .bool false]) (W5.drewN q) := hlk
          clear hlk
          have HX := hidMk (show fstO (l.take (k + 1)) = (fun t => if t = s then some (k : Int) else fstO (l.take k) t) from funext fun t => by
            rw [HF.out t]
            cases hy : fstO (l.take k) t with
            | some y =>
              have : ¬ t = s := fun e => by subst e; rw [hx] at hy; cases hy
              simp [this]
            | none => rfl)
          clear hx
          go_wp2_with fail
          go_quiet (fail)
          go_wp2_with fail
          obtain ⟨W7, hst, hm7, hc7⟩ := (H5.out.drewN (by omega) (nq + 1)).map.store (show k < maxLen by unfold maxLen; omega) HS.out (x := (k : Int)) (WalkArith.wf_i64 (by omega))
          have H7 := hidMk hm7
          have C7 := hidMk hc7
          clear hm7 hc7
          go_region
          go_wp2_with fail
          refine ⟨⟨k + 1, by omega, by go_num, ?_⟩, by simp [intOf]; omega⟩
          have g := H5.out.drewN (by omega) (nq + 1)
          refine g.chg C7.out (by omega) (by omega) (by omega) (C7.out.kept g.kept (fun j e => by omega)) ?_
          rw [HX.out]
          exact H7.out
      · have e : k = n := by omega
        subst e
        have HR := hidMk hR
        clear hR
        have hkk : ¬ ((k : Int) < (k : Int)) := by omega
        go_wp2_with fail
        go_ret
        refine ⟨_, w.heap.size + 1, w.heap.size, rfl, by omega, by omega, by omega, ?_, HR.out.kept⟩
        exact HR.out.tm H.out (by omega) (by omega)
end Go.Proofs.YtpehinmckppjoaaGreatDoor
