/- What is asked of a member. -/
import Derived.Test.YtbhojgodkblflaaTree2
import Derived.Test.YtbhojgodkblflaaTextName
namespace Go.Proofs.Ytbhojgodkblflaa
open Go.RowKit Go.Maps
set_option linter.unusedSimpArgs false
set_option linter.unusedVariables false

theorem chk_0 (l : List Nd) (i : Nat) : chk l 0 i = if nameB (nmA l i) then 0 else 3 := rfl
theorem chk_1 (l : List Nd) (i : Nat) : chk l 1 i = if fstN l (nmA l i) = i then 0 else 4 := rfl
theorem chk_2 (l : List Nd) (i : Nat) : chk l 2 i = if upA l i = -1 ∨ isP l (upA l i) then 0 else 17 := rfl
theorem chk_3 (l : List Nd) (i : Nat) : chk l 3 i = if loopB l i then 15 else 0 := rfl
theorem chk_4 (l : List Nd) (i : Nat) : chk l 4 i = if 6 ≤ dep l i then 16 else 0 := rfl
theorem fst_lt (l : List Nd) (i : Nat) (h : i < l.length) : fstN l (nmA l i) < l.length := by
  unfold fstN
  rw [List.findIdx_lt_length]
  refine ⟨l[i], List.getElem_mem h, ?_⟩
  simp [nmA, List.getD, List.getElem?_eq_getElem h]
/-- A member's six cells. -/
structure Six (w : World) (mb i : Nat) (s : ByteArray) (u : Int) (a : Option Addr) (n c : Nat) (x y z : Int) : Prop where
  c0 : w.cell? ⟨mb, i * 6, none⟩ = some (.string s)
  c1 : w.cell? ⟨mb, i * 6 + 1, none⟩ = some (.int .i64 u)
  c2 : w.cell? ⟨mb, i * 6 + 2, none⟩ = some (.slice a n c)
  c3 : w.cell? ⟨mb, i * 6 + 3, none⟩ = some (.int .i64 x)
  c4 : w.cell? ⟨mb, i * 6 + 4, none⟩ = some (.int .i64 y)
  c5 : w.cell? ⟨mb, i * 6 + 5, none⟩ = some (.int .i64 z)
theorem TM.six {w : World} {p mb pb : Nat} {l : List Nd} {kv : Nat → Option Addr × Nat × Nat} {rk fr to : Nat → Int} {ov lv : Value} (h : TM w p mb pb l kv rk fr to ov lv) {i : Nat} (hi : i < l.length) : Six w mb i (nmA l i) (upA l i) (kv i).1 (kv i).2.1 (kv i).2.2 (rk i) (fr i) (to i) :=
  ⟨h.nm i hi, h.up i hi, h.kd i hi, h.rk i hi, h.fr i hi, h.to i hi⟩

set_option maxHeartbeats 1000000 in
set_option maxRecDepth 100000 in
theorem tree_ask0 {w : World} {p mb pb : Nat} {l : List Nd} {kv : Nat → Option Addr × Nat × Nat} {rk fr to : Nat → Int} {ov lv : Value} (h : TM w p mb pb l kv rk fr to ov lv) (i : Nat) (hi : i < l.length) :
    Calls Try.prog 69 #[.pointer (some ⟨p, 0, none⟩), .int .i64 0, .int .i64 i] w fun e w' => e = .returned (.int .i64 (chk l 0 i)) ∧ Kept w w' := by
  obtain ⟨s0, s1, s2, s3, s4, s5⟩ := h.six hi
  have h0 := h.c0
  have hb := h.big
  have HN := hidMk (text_Name (nmA l i) (h.nmb i hi))
  rw [chk_0]
  generalize nmA l i = s at *
  generalize upA l i = u at *
  generalize (kv i).1 = ka at *
  generalize (kv i).2.1 = kn at *
  generalize (kv i).2.2 = kc at *
  generalize rk i = x at *
  generalize fr i = y at *
  generalize to i = z at *
  clear h
  cases hn : nameB s with
  | true =>
    rw [hn] at HN
    clear hn
    simp only [if_true]
    go_enter Try.func69, Try.ntmps69
    go_wp2_with (go_at_call 47; refine (HN.out _).mono ?_; rintro e w1 ⟨rfl, rfl⟩)
    go_quiet (fail)
    go_wp2_with fail
    go_ret
    exact ⟨rfl, ((Kept.refl w).alloc _).drewN _⟩
  | false =>
    rw [hn] at HN
    clear hn
    go_enter Try.func69, Try.ntmps69
    go_wp2_with (go_at_call 47; refine (HN.out _).mono ?_; rintro e w1 ⟨rfl, rfl⟩)
    go_ret
    exact ⟨rfl, (Kept.refl w).alloc _⟩
set_option maxHeartbeats 1000000 in
set_option maxRecDepth 100000 in
theorem tree_ask1 {w : World} {p mb pb : Nat} {l : List Nd} {kv : Nat → Option Addr × Nat × Nat} {rk fr to : Nat → Int} {ov lv : Value} (h : TM w p mb pb l kv rk fr to ov lv) (i : Nat) (hi : i < l.length) :
    Calls Try.prog 69 #[.pointer (some ⟨p, 0, none⟩), .int .i64 1, .int .i64 i] w fun e w' => e = .returned (.int .i64 (chk l 1 i)) ∧ Kept w w' := by
  obtain ⟨s0, s1, s2, s3, s4, s5⟩ := h.six hi
  have h0 := h.c0
  have hb := h.big
  obtain ⟨n, _, hm⟩ := h.pm
  have h1 : ∀ o q, ((w.alloc o).drewN q).cell? ⟨p, 1, none⟩ = some (.map (some pb)) := fun o q => ((((Kept.refl w).alloc o).drewN q).cell (p := ⟨p, 1, none⟩) (show p < w.heap.size from cell_lt h.c0)).trans h.c1
  have hf := fst_lt l i hi
  have hl : ∀ q o, (Instr.lookup 119 (.map (some pb)) (.string (nmA l i)) false).run Try.prog ((w.alloc o).drewN q) = .ok (.int .i64 (fstN l (nmA l i) : Nat)) ((w.alloc o).drewN q) := fun q o => by
    have := (hm.kept (((Kept.refl w).alloc o).drewN q)).look1 (h.nmb i hi)
    rw [show fstO l (nmA l i) = some (fstN l (nmA l i) : Nat) from if_pos hf] at this
    exact this
  rw [chk_1]
  generalize fstN l (nmA l i) = f at *
  generalize nmA l i = s at *
  generalize upA l i = u at *
  generalize (kv i).1 = ka at *
  generalize (kv i).2.1 = kn at *
  generalize (kv i).2.2 = kc at *
  generalize rk i = x at *
  generalize fr i = y at *
  generalize to i = z at *
  clear h hm
  by_cases hn : f = i
  · subst hn
    simp only [if_true]
    have he : ((f : Int) != (f : Int)) = false := by simp
    go_enter Try.func69, Try.ntmps69
    go_wp2_with fail
    go_quiet (fail)
    go_wp2_with fail
    go_ret
    exact ⟨rfl, ((Kept.refl w).alloc _).drewN _⟩
  · rw [if_neg hn]
    have he : ((f : Int) != (i : Int)) = true := by simp; omega
    clear hn
    go_enter Try.func69, Try.ntmps69
    go_wp2_with fail
    go_quiet (fail)
    go_wp2_with fail
    go_ret
    exact ⟨rfl, ((Kept.refl w).alloc _).drewN _⟩
set_option maxHeartbeats 1000000 in
set_option maxRecDepth 100000 in
theorem tree_ask2 {w : World} {p mb pb : Nat} {l : List Nd} {kv : Nat → Option Addr × Nat × Nat} {rk fr to : Nat → Int} {ov lv : Value} (h : TM w p mb pb l kv rk fr to ov lv) (i : Nat) (hi : i < l.length) :
    Calls Try.prog 69 #[.pointer (some ⟨p, 0, none⟩), .int .i64 2, .int .i64 i] w fun e w' => e = .returned (.int .i64 (chk l 2 i)) ∧ Kept w w' := by
  obtain ⟨s0, s1, s2, s3, s4, s5⟩ := h.six hi
  have h0 := h.c0
  have hb := h.big
  have HH := hidMk (show ∀ w', Kept w w' → _ from fun w' k => tree_has (h.toTB.kept k) (upA l i))
  rw [chk_2]
  generalize nmA l i = s at *
  by_cases hu1 : upA l i = -1
  · rw [if_pos (.inl hu1)]
    rw [hu1] at s1
    clear HH hu1
    generalize (kv i).1 = ka at *
    generalize (kv i).2.1 = kn at *
    generalize (kv i).2.2 = kc at *
    generalize rk i = x at *
    generalize fr i = y at *
    generalize to i = z at *
    clear h
    go_enter Try.func69, Try.ntmps69
    go_wp2_with fail
    go_quiet (fail)
    go_wp2_with fail
    go_ret
    exact ⟨rfl, ((Kept.refl w).alloc _).drewN _⟩
  · by_cases hp : isP l (upA l i)
    · rw [if_pos (.inr hp)]
      rw [decide_eq_true hp] at HH
      have hu2 : (upA l i != -1) = true := by simpa using hu1
      clear hp hu1
      generalize upA l i = u at *
      generalize (kv i).1 = ka at *
      generalize (kv i).2.1 = kn at *
      generalize (kv i).2.2 = kc at *
      generalize rk i = x at *
      generalize fr i = y at *
      generalize to i = z at *
      clear h
      go_enter Try.func69, Try.ntmps69
      go_wp2_with fail
      go_quiet (fail)
      go_wp2_with (go_at_call 60; refine (HH.out _ (((Kept.refl w).alloc _).drewN _)).mono ?_; rintro e w1 ⟨rfl, rfl⟩)
      go_ret
      exact ⟨rfl, ((Kept.refl w).alloc _).drewN _⟩
    · rw [if_neg (fun hc => hc.elim hu1 hp)]
      rw [decide_eq_false hp] at HH
      have hu2 : (upA l i != -1) = true := by simpa using hu1
      clear hp hu1
      generalize upA l i = u at *
      generalize (kv i).1 = ka at *
      generalize (kv i).2.1 = kn at *
      generalize (kv i).2.2 = kc at *
      generalize rk i = x at *
      generalize fr i = y at *
      generalize to i = z at *
      clear h
      go_enter Try.func69, Try.ntmps69
      go_wp2_with fail
      go_quiet (fail)
      go_wp2_with (go_at_call 60; refine (HH.out _ (((Kept.refl w).alloc _).drewN _)).mono ?_; rintro e w1 ⟨rfl, rfl⟩)
      go_ret
      exact ⟨rfl, ((Kept.refl w).alloc _).drewN _⟩
set_option maxHeartbeats 1000000 in
set_option maxRecDepth 100000 in
theorem tree_ask3 {w : World} {p mb pb : Nat} {l : List Nd} {kv : Nat → Option Addr × Nat × Nat} {rk fr to : Nat → Int} {ov lv : Value} (h : TM w p mb pb l kv rk fr to ov lv) (i : Nat) (hi : i < l.length) :
    Calls Try.prog 69 #[.pointer (some ⟨p, 0, none⟩), .int .i64 3, .int .i64 i] w fun e w' => e = .returned (.int .i64 (chk l 3 i)) ∧ Kept w w' := by
  obtain ⟨s0, s1, s2, s3, s4, s5⟩ := h.six hi
  have h0 := h.c0
  have hb := h.big
  have HH := hidMk (show ∀ w', Kept w w' → _ from fun w' k => tree_loops (h.toTB.kept k) i)
  rw [chk_3]
  generalize nmA l i = s at *
  generalize upA l i = u at *
  generalize (kv i).1 = ka at *
  generalize (kv i).2.1 = kn at *
  generalize (kv i).2.2 = kc at *
  generalize rk i = x at *
  generalize fr i = y at *
  generalize to i = z at *
  clear h
  cases hn : loopB l i with
  | true =>
    rw [hn] at HH
    clear hn
    simp only [if_true]
    go_enter Try.func69, Try.ntmps69
    go_wp2_with fail
    go_quiet (fail)
    go_wp2_with (go_at_call 82; refine (HH.out _ (((Kept.refl w).alloc _).drewN _)).mono ?_; rintro e w1 ⟨rfl, rfl⟩)
    go_ret
    exact ⟨rfl, ((Kept.refl w).alloc _).drewN _⟩
  | false =>
    rw [hn] at HH
    clear hn
    go_enter Try.func69, Try.ntmps69
    go_wp2_with fail
    go_quiet (fail)
    go_wp2_with (go_at_call 82; refine (HH.out _ (((Kept.refl w).alloc _).drewN _)).mono ?_; rintro e w1 ⟨rfl, rfl⟩)
    go_ret
    exact ⟨rfl, ((Kept.refl w).alloc _).drewN _⟩
set_option maxHeartbeats 1000000 in
set_option maxRecDepth 100000 in
theorem tree_ask4 {w : World} {p mb pb : Nat} {l : List Nd} {kv : Nat → Option Addr × Nat × Nat} {rk fr to : Nat → Int} {ov lv : Value} (h : TM w p mb pb l kv rk fr to ov lv) (i : Nat) (hi : i < l.length) (hnl : noLoop l) :
    Calls Try.prog 69 #[.pointer (some ⟨p, 0, none⟩), .int .i64 4, .int .i64 i] w fun e w' => e = .returned (.int .i64 (chk l 4 i)) ∧ Kept w w' := by
  obtain ⟨s0, s1, s2, s3, s4, s5⟩ := h.six hi
  have h0 := h.c0
  have hb := h.big
  obtain ⟨m, hm, he⟩ := ends_of hnl i
  have HH := hidMk (show ∀ w', Kept w w' → _ from fun w' k => tree_Depth (h.toTB.kept k) hm he)
  rw [chk_4, dep_ends he hm]
  generalize nmA l i = s at *
  generalize upA l i = u at *
  generalize (kv i).1 = ka at *
  generalize (kv i).2.1 = kn at *
  generalize (kv i).2.2 = kc at *
  generalize rk i = x at *
  generalize fr i = y at *
  generalize to i = z at *
  clear h he
  by_cases hn : 6 ≤ m - 1
  · rw [if_pos hn]
    have hn' : (6 : Int) ≤ ((m - 1 : Nat) : Int) := by omega
    generalize m - 1 = d at *
    clear hn
    go_enter Try.func69, Try.ntmps69
    go_wp2_with fail
    go_quiet (fail)
    go_wp2_with (go_at_call 83; refine (HH.out _ (((Kept.refl w).alloc _).drewN _)).mono ?_; rintro e w1 ⟨rfl, rfl⟩)
    go_ret
    exact ⟨rfl, ((Kept.refl w).alloc _).drewN _⟩
  · rw [if_neg hn]
    have hn' : ((m - 1 : Nat) : Int) < 6 := by omega
    generalize m - 1 = d at *
    clear hn
    go_enter Try.func69, Try.ntmps69
    go_wp2_with fail
    go_quiet (fail)
    go_wp2_with (go_at_call 83; refine (HH.out _ (((Kept.refl w).alloc _).drewN _)).mono ?_; rintro e w1 ⟨rfl, rfl⟩)
    go_ret
    exact ⟨rfl, ((Kept.refl w).alloc _).drewN _⟩
theorem tree_ask {w : World} {p mb pb : Nat} {l : List Nd} {kv : Nat → Option Addr × Nat × Nat} {rk fr to : Nat → Int} {ov lv : Value} (h : TM w p mb pb l kv rk fr to ov lv) (q i : Nat) (hq : q < 5) (hi : i < l.length) (hnl : q = 4 → noLoop l) :
    Calls Try.prog 69 #[.pointer (some ⟨p, 0, none⟩), .int .i64 q, .int .i64 i] w fun e w' => e = .returned (.int .i64 (chk l q i)) ∧ Kept w w' := by
  have key : q = 0 ∨ q = 1 ∨ q = 2 ∨ q = 3 ∨ q = 4 := by omega
  rcases key with rfl | rfl | rfl | rfl | rfl
  · exact tree_ask0 h i hi
  · exact tree_ask1 h i hi
  · exact tree_ask2 h i hi
  · exact tree_ask3 h i hi
  · exact tree_ask4 h i hi (hnl rfl)
end Go.Proofs.Ytbhojgodkblflaa
