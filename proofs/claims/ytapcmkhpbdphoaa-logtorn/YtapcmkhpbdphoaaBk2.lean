/- block: Read, Write. -/
import Derived.Test.YtapcmkhpbdphoaaBk1
import Derived.Laws.CopyOwn
namespace Go.Proofs.Ytapcmkhpbdphoaa
open Go.RowKit Go.Maps
set_option linter.unusedSimpArgs false
set_option linter.unusedVariables false

theorem run_copyB (w : World) (ty : TypeId) (b p n c : Nat) (a' : Option Addr) (m k : Nat) (l : List Int) (hs : Sl .u8 w a' m l) (hm : m ≤ n) (ht : w.there b p m) :
    (Builtin.copy_ #[33, 33] ty #[.slice (some ⟨b, p, none⟩) n c, .slice a' m k]).run Try.prog w = .ok (goInt m) (w.setCells b p (bv l)) := by
  have hsz : (Try.prog.info? 5).map (·.size) = some 1 := by kernel_rfl
  have hl := hs.len
  by_cases h0 : m = 0
  · subst h0
    have : l = [] := List.eq_nil_of_length_eq_zero hl
    subst this
    exact run_copy_none (P := Try.prog) w _ _ ty 5 _ a' n c 0 k Try.underlying33 hsz (Nat.min_eq_left (Nat.zero_le _))
  · obtain ⟨bb, oo, rfl, _, hcs⟩ := hs.cells (by omega)
    have := run_copy_cells (P := Try.prog) w 33 33 ty 5 b p n c ⟨bb, oo, none⟩ m k (bv l) Try.underlying33 hsz (by rw [bv_len, hl]; exact (Nat.min_eq_left hm).symm) (sl_news hs rfl) (fun j hj => (ht j (by rw [bv_len] at hj; omega)).1) (fun j hj => (ht j (by rw [bv_len] at hj; omega)).2) (bv_one l)
    rwa [bv_len, hl] at this
theorem wp_copyB {o : Oper} {a : Act} {w : World} {K : Act → World → Prop} {Q : Exit → Act → World → Prop} (x y : Operand) (ho : o.op = .call { callee := .builtin .copy, args := #[x, y], argTypes := #[33, 33] })
    (b p n c : Nat) (a' : Option Addr) (m k : Nat) (l : List Int) (hx : a.eval x = .slice (some ⟨b, p, none⟩) n c) (hy : a.eval y = .slice a' m k) (hs : Sl .u8 w a' m l) (hm : m ≤ n) (ht : w.there b p m)
    (h : K (a.put o.dst (goInt m)) (w.setCells b p (bv l))) : o.wp Try.prog a w K Q := by
  have hrun := run_copyB w o.type b p n c a' m k l hs hm ht
  unfold Oper.wp
  simp [execOp, ho, resolve, invoke, builtin, hx, hy, hrun, Result.andThen]
  exact h
theorem wpList_copyB {ops : Array Oper} {rest : List Oper} {o : Oper} {a : Act} {w : World} {Q : Exit → Act → World → Prop} (hgd : o.guard = none) (x y : Operand) (ho : o.op = .call { callee := .builtin .copy, args := #[x, y], argTypes := #[33, 33] })
    (b p n c : Nat) (a' : Option Addr) (m k : Nat) (l : List Int) (hx : a.eval x = .slice (some ⟨b, p, none⟩) n c) (hy : a.eval y = .slice a' m k) (hs : Sl .u8 w a' m l) (hm : m ≤ n) (ht : w.there b p m)
    (h : ∀ w', w' = w.setCells b p (bv l) → wpList Try.prog ops Q rest (a.put o.dst (goInt m)) w') : wpList Try.prog ops Q (o :: rest) a w :=
  wpList_plain hgd fun _ hK => wp_copyB x y ho b p n c a' m k l hx hy hs hm ht (hK _ _ (h _ rfl))

theorem cell_out (w : World) (b o : Nat) (vs : List Value) {f i : Nat} (h : f ≠ b) : (w.setCells b o vs).cell? ⟨f, i, none⟩ = w.cell? ⟨f, i, none⟩ := World.cell?_setCells_out b vs o w _ (fun e _ => absurd e h)
theorem Dt.drew {w : World} {d : Nat} {F : List Int} (h : Dt w d F) : Dt w.drew d F := h.kept ((Kept.refl _).drew)
theorem Fl.drew {w : World} {f d N : Nat} {s : Bf} (h : Fl w f d N s) : Fl w.drew f d N s := h.kept ((Kept.refl _).drew)
/-- Bytes, and noughts behind them up to a block's size. -/
def whole (l : List Int) : List Int := l ++ List.replicate (32 - l.length) 0
theorem whole_len {l : List Int} (h : l.length ≤ 32) : (whole l).length = 32 := by simp [whole]; omega
theorem whole_isB {l : List Int} (h : ∀ x ∈ l, isB x) : ∀ x ∈ whole l, isB x := by
  intro x hx
  rcases List.mem_append.1 hx with hx | hx
  · exact h x hx
  · exact rep_isB _ x hx
theorem whole_put {l : List Int} (h : l.length ≤ 32) : putL (List.replicate 32 0) 0 l = whole l := by
  unfold putL whole
  rw [List.take_zero, List.nil_append, Nat.zero_add, List.drop_replicate]

theorem dsz : (Try.prog.info? 90).map (·.size) = some 32 := by kernel_rfl
theorem new_z (w : World) (t : TypeId) : Dt (w.alloc (.cells #[.int .u8 0, .int .u8 0, .int .u8 0, .int .u8 0, .int .u8 0, .int .u8 0, .int .u8 0, .int .u8 0, .int .u8 0, .int .u8 0, .int .u8 0, .int .u8 0, .int .u8 0, .int .u8 0, .int .u8 0, .int .u8 0, .int .u8 0, .int .u8 0, .int .u8 0, .int .u8 0, .int .u8 0, .int .u8 0, .int .u8 0, .int .u8 0, .int .u8 0, .int .u8 0, .int .u8 0, .int .u8 0, .int .u8 0, .int .u8 0, .int .u8 0, .int .u8 0] t)) w.heap.size (List.replicate 32 0) := by
  have e : (#[.int .u8 0, .int .u8 0, .int .u8 0, .int .u8 0, .int .u8 0, .int .u8 0, .int .u8 0, .int .u8 0, .int .u8 0, .int .u8 0, .int .u8 0, .int .u8 0, .int .u8 0, .int .u8 0, .int .u8 0, .int .u8 0, .int .u8 0, .int .u8 0, .int .u8 0, .int .u8 0, .int .u8 0, .int .u8 0, .int .u8 0, .int .u8 0, .int .u8 0, .int .u8 0, .int .u8 0, .int .u8 0, .int .u8 0, .int .u8 0, .int .u8 0, .int .u8 0] : Array Value) = Array.replicate 32 (.int .u8 0) := rfl
  rw [e]
  refine .of (by simp) (fun i hi => ?_) (fun i hi => by simp)
  rw [List.length_replicate] at hi
  have h2 : (List.replicate 32 (0 : Int)).getD i 0 = 0 := by rw [List.getD_eq_getElem?_getD, List.getElem?_replicate]; split <;> rfl
  rw [h2]
  simp [hi]
section
variable {w : World} {f d N : Nat} {s : Bf}
set_option maxHeartbeats 1000000 in
theorem bk_Read (h : Fl w f d N s) (n : Int) : Calls Try.prog 46 #[.pointer (some ⟨f, 0, none⟩), .int .i64 n] w fun e w' => ∃ v, e = .returned (.tuple #[v, .int .i64 (bad s N n)]) ∧ Owned w w' v (if bad s N n = 0 then blk s.F n.toNat else []) ∧ Kept w w' := by
  have HR := hidMk (bk_reach h n)
  have H := hidMk h
  by_cases hb : bad s N n = 0
  · rw [if_pos hb]
    rw [hb] at HR ⊢
    have hn : 0 ≤ n ∧ n < (N : Int) := by
      unfold bad at hb
      cases ho : s.off with
      | true => rw [ho] at hb; simp at hb
      | false => rw [ho] at hb; simp only [Bool.false_eq_true, if_false] at hb; by_cases q : n < 0 ∨ (N : Int) ≤ n
                 · rw [if_pos q] at hb; omega
                 · omega
    obtain ⟨k, rfl⟩ : ∃ k : Nat, n = k := ⟨n.toNat, by omega⟩
    rw [Int.toNat_natCast]
    have hk : k < N := by omega
    obtain ⟨KC, c0⟩ := h.c0
    have big := h.big
    have HSL := hidMk (h.dt.sl (k * 32) 32 (by rw [h.len]; omega) (by unfold maxLen; omega))
    clear h hb hn
    go_enter Try.func46, Try.ntmps46
    go_wp2_with (first | (go_at_call 50; refine HR.out.mono ?_; rintro e w1 ⟨rfl, rfl⟩) | (go_at_call 34; refine (slices_Clone (some ⟨d, k * 32, none⟩) 32 _ (blk s.F k) _ HSL.out (by omega)).mono ?_; rintro e w2 ⟨v2, rfl, o2, k2⟩))
    go_ret2
    exact ⟨_, rfl, o2, k2⟩
  · rw [if_neg hb]
    generalize bad s N n = q at *
    have hq : (q == 0) = false := by simpa using hb
    clear h hb
    go_enter Try.func46, Try.ntmps46
    go_wp2_with (go_at_call 50; refine HR.out.mono ?_; rintro e w1 ⟨rfl, rfl⟩)
    go_ret2
    exact ⟨_, rfl, World.ownsRow_nil _ _ _ _, Kept.refl _⟩

/-- What a write answers, and what becomes of the file. -/
def wrE (s : Bf) (N : Nat) (n : Int) (m : Nat) : Int := if bad s N n ≠ 0 then bad s N n else if 32 < m then 5 else if cmB s then 21 else 0
def wrS (s : Bf) (N : Nat) (n : Int) (l : List Int) : Bf := if bad s N n ≠ 0 then s else if 32 < l.length then s else
  if cmB s then { s with F := putL s.F (n.toNat * 32) ((whole l).take s.by_.toNat), off := true, wr := s.wr + 1 } else { cmS s with F := putL s.F (n.toNat * 32) (whole l), wr := s.wr + 1 }
structure Ok (s : Bf) : Prop where
  b0 : 0 ≤ s.be
  b1 : s.be ≤ 9223372036854775807
  y0 : 0 ≤ s.by_
  y1 : s.by_ ≤ 32
  w0 : 0 ≤ s.wr

set_option maxRecDepth 100000 in
set_option maxHeartbeats 2000000 in
theorem bk_Write (h : Fl w f d N s) (hok : Ok s) (hwr : s.wr < 1000000) (n : Int) (a : Option Addr) (m c : Nat) (l : List Int) (hs : Sl .u8 w a m l) (hlb : ∀ x ∈ l, isB x) :
    Calls Try.prog 38 #[.pointer (some ⟨f, 0, none⟩), .int .i64 n, .slice a m c] w fun e w' => e = .returned (.int .i64 (wrE s N n m)) ∧ Fl w' f d N (wrS s N n l) ∧ Chg (Of f d) w w' := by
  have HR := hidMk (bk_reach h n)
  have H := hidMk h
  have hl := hs.len
  have hmb := hs.big
  unfold maxLen at hmb
  by_cases hb : bad s N n = 0
  case neg =>
    have HE := hidMk (show wrE s N n m = bad s N n from if_pos hb)
    have HS := hidMk (show wrS s N n l = s from if_pos hb)
    generalize bad s N n = q at *
    have hq : (q == 0) = false := by simpa using hb
    clear h hb hs hlb hok
    go_enter Try.func38, Try.ntmps38
    go_wp2_with (go_at_call 50; refine HR.out.mono ?_; rintro e w1 ⟨rfl, rfl⟩)
    go_ret
    rw [HE.out, HS.out]
    exact ⟨rfl, H.out, Chg.refl _ _⟩
  by_cases hm : 32 < m
  · have HE := hidMk (show wrE s N n m = 5 by unfold wrE; rw [if_neg (by simp [hb]), if_pos hm])
    have HS := hidMk (show wrS s N n l = s by unfold wrS; rw [if_neg (by simp [hb]), if_pos (by omega)])
    rw [hb] at HR
    have hm' : (32 : Int) < (m : Int) := by omega
    clear h hb hs hlb hok
    go_enter Try.func38, Try.ntmps38
    go_wp2_with (go_at_call 50; refine HR.out.mono ?_; rintro e w1 ⟨rfl, rfl⟩)
    go_ret
    rw [HE.out, HS.out]
    exact ⟨rfl, H.out, Chg.refl _ _⟩
  have hm : l.length ≤ 32 := by omega
  have hm' : (m : Int) ≤ (32 : Int) := by omega
  have hoff : s.off = false := by
    unfold bad at hb
    cases ho : s.off with
    | true => rw [ho] at hb; simp at hb
    | false => rfl
  have hn : 0 ≤ n ∧ n < (N : Int) := by
    unfold bad at hb
    rw [hoff] at hb
    simp only [Bool.false_eq_true, if_false] at hb
    by_cases q : n < 0 ∨ (N : Int) ≤ n
    · rw [if_pos q] at hb; omega
    · omega
  obtain ⟨k, rfl⟩ : ∃ k : Nat, n = k := ⟨n.toNat, by omega⟩
  have hk : k < N := by omega
  have HE : Hid (wrE s N k m = if cmB s then 21 else 0) := hidMk (by unfold wrE; rw [if_neg (by simp [hb]), if_neg (by omega)])
  have HS : Hid (wrS s N k l = if cmB s then { s with F := putL s.F (k * 32) ((whole l).take s.by_.toNat), off := true, wr := s.wr + 1 } else { cmS s with F := putL s.F (k * 32) (whole l), wr := s.wr + 1 }) := hidMk (by unfold wrS; rw [if_neg (by simp [hb]), if_neg (by omega), Int.toNat_natCast])
  rw [hb] at HR
  have HL := hidMk h.len
  have HNE := hidMk (fun e : f = d => h.ne e.symm)
  have HSL := hidMk hs
  have HLB := hidMk hlb
  have HOK := hidMk hok
  have HWL := hidMk (whole_len hm)
  have hlt := h.lt
  have hdl := h.dt.lt
  have big := h.big
  have HWR := hidMk (show wrap64 (s.wr + 1) = s.wr + 1 by have := hok.w0; unfold wrap64; omega)
  clear h hb hn hs hlb hok
  go_enter Try.func38, Try.ntmps38
  go_wp2_with (go_at_call 50; refine HR.out.mono ?_; rintro e w1 ⟨rfl, rfl⟩)
  rw [run_copyB _ _ _ _ _ _ _ _ _ l (HSL.out.kept ((Kept.refl _).alloc _)) (by omega) ((new_z w1 _).there (o := 0) (n := m) (by simp; omega))]
  have HD1 := hidMk (show Dt _ w1.heap.size (whole l) from by rw [← whole_put hm]; exact (new_z w1 90).put 0 l (by simp; omega))
  have HK1 := hidMk (Chg.keptAll ((Chg.setCells (S := fun _ => False) (.inr (Nat.le_refl _)) (bv l) 0 _ ((Chg.refl _ w1).alloc _)) : Chg (fun _ => False) w1 ((w1.alloc (.cells #[.int .u8 0, .int .u8 0, .int .u8 0, .int .u8 0, .int .u8 0, .int .u8 0, .int .u8 0, .int .u8 0, .int .u8 0, .int .u8 0, .int .u8 0, .int .u8 0, .int .u8 0, .int .u8 0, .int .u8 0, .int .u8 0, .int .u8 0, .int .u8 0, .int .u8 0, .int .u8 0, .int .u8 0, .int .u8 0, .int .u8 0, .int .u8 0, .int .u8 0, .int .u8 0, .int .u8 0, .int .u8 0, .int .u8 0, .int .u8 0, .int .u8 0, .int .u8 0] 90)).setCells w1.heap.size 0 (bv l))))
  generalize (w1.alloc (.cells #[.int .u8 0, .int .u8 0, .int .u8 0, .int .u8 0, .int .u8 0, .int .u8 0, .int .u8 0, .int .u8 0, .int .u8 0, .int .u8 0, .int .u8 0, .int .u8 0, .int .u8 0, .int .u8 0, .int .u8 0, .int .u8 0, .int .u8 0, .int .u8 0, .int .u8 0, .int .u8 0, .int .u8 0, .int .u8 0, .int .u8 0, .int .u8 0, .int .u8 0, .int .u8 0, .int .u8 0, .int .u8 0, .int .u8 0, .int .u8 0, .int .u8 0, .int .u8 0] 90)).setCells w1.heap.size 0 (bv l) = W at *
  have hgf : w1.heap.size ≠ f := by omega
  have HGD := hidMk (show w1.heap.size ≠ d by omega)
  generalize w1.heap.size = g at *
  have HF1 := hidMk (H.out.kept HK1.out)
  obtain ⟨⟨KC0, c0⟩, c1, c2, c3, c4, c5, fz, _, _, _, _, _, _⟩ := HF1.out
  have f5 := fz 5 (by omega)
  clear fz
  go_wp2_with fail
  rw [HWR.out]
  refine (bk_comes (HF1.out.set5 (s.wr + 1)) HOK.out.b0 HOK.out.b1).mono ?_
  rintro e w3 ⟨rfl, f3, g3⟩
  have HC3 := hidMk (((Chg.refl _ W).own 5 (.int .i64 (s.wr + 1))).trans g3)
  have HF3 := hidMk f3
  have HD3 := hidMk (HD1.out.chg HC3.out hgf)
  clear f3 g3 c0 c1 c2 c3 c4 c5 f5
  obtain ⟨KC, k0⟩ := HF3.out.c0
  have k4 := HF3.out.c4
  have HCC := hidMk ((Chg.of_kept HK1.out : Chg (Of f d) w1 W).trans (HC3.out.mono (fun j _ e => .inl e)))
  rw [show cmB { s with wr := s.wr + 1 } = cmB s from rfl]
  obtain ⟨y, hy⟩ : ∃ y : Nat, s.by_ = y := ⟨s.by_.toNat, by have := HOK.out.y0; omega⟩
  have hy32 : y ≤ 32 := by have := HOK.out.y1; omega
  have hy32' : (y : Int) ≤ 32 := by omega
  change w3.cell? ⟨f, 4, none⟩ = some (.int .i64 s.by_) at k4
  rw [hy] at k4
  have HTY := hidMk (show s.by_.toNat = y by omega)
  clear hy
  cases hcm : cmB s with
  | true =>
    rw [hcm, if_pos rfl] at HE HS
    have HCM := hidMk (show cmS { s with wr := s.wr + 1 } = { s with wr := s.wr + 1 } by
      unfold cmB at hcm
      simp only [Bool.and_eq_true, decide_eq_true_eq] at hcm
      simp [cmS, hcm.2])
    rw [HCM.out] at HF3
    clear hcm HCM
    go_wp2_with fail
    refine wp_region_held_drew (S := (fun w9 => w9.cell? ⟨f, 0, none⟩ = some (.slice (some ⟨d, 0, none⟩) N KC) ∧ w9.cell? ⟨f, 4, none⟩ = some (.int .i64 (y : Int)))) (by kernel_rfl) ?_ (fun hHeld => ?_)
    · exact ⟨k0, k4⟩
    refine wpAnyH_take (i := 0) (oi := { dst := some 32, op := _, type := _, pos := _, after := _, guard := _ }) (v := ?_) rfl (by kernel_rfl) (by kernel_rfl) (by kernel_rfl) (fun _ _ _ h => h) (Or.inl ⟨by rfl, ?_⟩) (by assumption) ?_
    rotate_left
    · (intro w hSw; (try dsimp only at hSw); (try obtain ⟨hSw1, hSw2⟩ := hSw); go_simp; (try with_reducible rfl))
    (try simp only [Act.put, List.setIfInBounds_toArray, List.set_cons_zero, List.set_cons_succ])
    refine wpAnyH_take (i := 1) (oi := { dst := some 33, op := _, type := _, pos := _, after := _, guard := _ }) (v := ?_) rfl (by kernel_rfl) (by kernel_rfl) (by kernel_rfl) (fun _ _ _ h => h) (Or.inl ⟨by rfl, ?_⟩) (by assumption) ?_
    rotate_left
    · (intro w hSw; (try dsimp only at hSw); (try obtain ⟨hSw1, hSw2⟩ := hSw); go_simp; (try with_reducible rfl))
    (try simp only [Act.put, List.setIfInBounds_toArray, List.set_cons_zero, List.set_cons_succ])
    refine wpAnyH_take (i := 2) (oi := { dst := some 34, op := _, type := _, pos := _, after := _, guard := _ }) (v := ?_) rfl (by kernel_rfl) (by kernel_rfl) (by kernel_rfl) (fun _ _ _ h => h) (Or.inl ⟨by rfl, ?_⟩) (by assumption) ?_
    rotate_left
    · (intro w hSw; (try dsimp only at hSw); (try obtain ⟨hSw1, hSw2⟩ := hSw); go_simp; (try with_reducible rfl))
    (try simp only [Act.put, List.setIfInBounds_toArray, List.set_cons_zero, List.set_cons_succ])
    refine wpAnyH_take (i := 3) (oi := { dst := some 35, op := _, type := _, pos := _, after := _, guard := _ }) (v := ?_) rfl (by kernel_rfl) (by kernel_rfl) (by kernel_rfl) (fun _ _ _ h => h) (Or.inl ⟨by rfl, ?_⟩) (by assumption) ?_
    rotate_left
    · (intro w hSw; (try dsimp only at hSw); (try obtain ⟨hSw1, hSw2⟩ := hSw); go_simp; (try with_reducible rfl))
    (try simp only [Act.put, List.setIfInBounds_toArray, List.set_cons_zero, List.set_cons_succ])
    refine wpAnyH_take (i := 4) (oi := { dst := some 36, op := _, type := _, pos := _, after := _, guard := _ }) (v := ?_) rfl (by kernel_rfl) (by kernel_rfl) (by kernel_rfl) (fun _ _ _ h => h) (Or.inl ⟨by rfl, ?_⟩) (by assumption) ?_
    rotate_left
    · (intro w hSw; (try dsimp only at hSw); (try obtain ⟨hSw1, hSw2⟩ := hSw); go_simp; (try with_reducible rfl))
    (try simp only [Act.put, List.setIfInBounds_toArray, List.set_cons_zero, List.set_cons_succ])
    refine wpAnyH_take (i := 5) (oi := { dst := some 37, op := _, type := _, pos := _, after := _, guard := _ }) (v := ?_) rfl (by kernel_rfl) (by kernel_rfl) (by kernel_rfl) (fun _ _ _ h => h) (Or.inl ⟨by rfl, ?_⟩) (by assumption) ?_
    rotate_left
    · (intro w hSw; (try dsimp only at hSw); (try obtain ⟨hSw1, hSw2⟩ := hSw); go_simp; (try with_reducible rfl))
    (try simp only [Act.put, List.setIfInBounds_toArray, List.set_cons_zero, List.set_cons_succ])
    refine wpAnyH_take (i := 6) (oi := { dst := some 38, op := _, type := _, pos := _, after := _, guard := _ }) (v := ?_) rfl (by kernel_rfl) (by kernel_rfl) (by kernel_rfl) (fun _ _ _ h => h) (Or.inl ⟨by rfl, ?_⟩) (by assumption) ?_
    rotate_left
    · (intro w hSw; (try dsimp only at hSw); (try obtain ⟨hSw1, hSw2⟩ := hSw); go_simp; (try with_reducible rfl))
    (try simp only [Act.put, List.setIfInBounds_toArray, List.set_cons_zero, List.set_cons_succ])
    refine wpAnyH_take (i := 7) (oi := { dst := some 39, op := _, type := _, pos := _, after := _, guard := _ }) (v := ?_) rfl (by kernel_rfl) (by kernel_rfl) (by kernel_rfl) (fun _ _ _ h => h) (Or.inl ⟨by rfl, ?_⟩) (by assumption) ?_
    rotate_left
    · (intro w hSw; (try dsimp only at hSw); (try obtain ⟨hSw1, hSw2⟩ := hSw); go_simp; (try with_reducible rfl))
    (try simp only [Act.put, List.setIfInBounds_toArray, List.set_cons_zero, List.set_cons_succ])
    refine wpAnyH_take (i := 8) (oi := { dst := some 40, op := _, type := _, pos := _, after := _, guard := _ }) (v := ?_) rfl (by kernel_rfl) (by kernel_rfl) (by kernel_rfl) (fun _ _ _ h => h) (Or.inl ⟨by rfl, ?_⟩) (by assumption) ?_
    rotate_left
    · (intro w hSw; (try dsimp only at hSw); (try obtain ⟨hSw1, hSw2⟩ := hSw); go_simp; (try with_reducible rfl))
    (try simp only [Act.put, List.setIfInBounds_toArray, List.set_cons_zero, List.set_cons_succ])
    refine wpAnyH_take (i := 9) (oi := { dst := some 41, op := _, type := _, pos := _, after := _, guard := _ }) (v := ?_) rfl (by kernel_rfl) (by kernel_rfl) (by kernel_rfl) (fun _ _ _ h => h) (Or.inl ⟨by rfl, ?_⟩) (by assumption) ?_
    rotate_left
    · (intro w hSw; (try dsimp only at hSw); (try obtain ⟨hSw1, hSw2⟩ := hSw); go_simp; (try with_reducible rfl))
    (try simp only [Act.put, List.setIfInBounds_toArray, List.set_cons_zero, List.set_cons_succ])
    refine wpAnyH_take (i := 10) (oi := { dst := some 42, op := _, type := _, pos := _, after := _, guard := _ }) (v := ?_) rfl (by kernel_rfl) (by kernel_rfl) (by kernel_rfl) (fun _ _ _ h => h) (Or.inl ⟨by rfl, ?_⟩) (by assumption) ?_
    rotate_left
    · (intro w hSw; (try dsimp only at hSw); (try obtain ⟨hSw1, hSw2⟩ := hSw); go_simp; (try with_reducible rfl))
    (try simp only [Act.put, List.setIfInBounds_toArray, List.set_cons_zero, List.set_cons_succ])
    refine wpAnyH_take (i := 11) (oi := { dst := some 43, op := _, type := _, pos := _, after := _, guard := _ }) (v := ?_) rfl (by kernel_rfl) (by kernel_rfl) (by kernel_rfl) (fun _ _ _ h => h) (Or.inl ⟨by rfl, ?_⟩) (by assumption) ?_
    rotate_left
    · (intro w hSw; (try dsimp only at hSw); (try obtain ⟨hSw1, hSw2⟩ := hSw); go_simp; (try with_reducible rfl))
    (try simp only [Act.put, List.setIfInBounds_toArray, List.set_cons_zero, List.set_cons_succ])
    refine wpAnyH_take (i := 12) (oi := { dst := some 44, op := _, type := _, pos := _, after := _, guard := _ }) (v := ?_) rfl (by kernel_rfl) (by kernel_rfl) (by kernel_rfl) (fun _ _ _ h => h) (Or.inl ⟨by rfl, ?_⟩) (by assumption) ?_
    rotate_left
    · (intro w hSw; (try dsimp only at hSw); (try obtain ⟨hSw1, hSw2⟩ := hSw); go_simp; (try with_reducible rfl))
    (try simp only [Act.put, List.setIfInBounds_toArray, List.set_cons_zero, List.set_cons_succ])
    refine wpAnyH_ready (rs := [13]) (by kernel_rfl) (by simp) ?_
    refine AllReadyH.cons (o := { dst := some 45, op := _, type := _, pos := _, after := _, guard := _ }) rfl (fun K hK => ?_) AllReadyH.nil
    rw [if_pos (by rfl)]
    refine wp_copyB _ _ rfl d (k * 32) 32 32 (some ⟨g, 0, none⟩) y 32 ((whole l).take y) (by rfl) (by rfl) (HD3.out.drew.sl 0 y (by rw [whole_len hm]; omega) (by unfold maxLen; omega)) hy32 (HF3.out.dt.drew.there (o := k * 32) (n := y) (by rw [HL.out]; omega)) ?_
    refine hK.out _ _ ?_ (fun hHeld => ?_)
    · exact ⟨(cell_out _ _ _ _ HNE.out).trans k0, (cell_out _ _ _ _ HNE.out).trans k4⟩
    clear hK K
    (try simp only [Act.put, List.setIfInBounds_toArray, List.set_cons_zero, List.set_cons_succ])
    refine wpAnyH_done (by kernel_rfl) ?_ _
    have HF4 := hidMk (HF3.out.drew.put (k * 32) ((whole l).take y) (by rw [HL.out, List.length_take, HWL.out]; omega) (fun x hx => whole_isB HLB.out x (List.mem_of_mem_take hx)))
    have HC4 := hidMk (show Chg (Of f d) w1 (w3.drew.setCells d (k * 32) (bv ((whole l).take y))) from Chg.setCells (S := Of f d) (.inl (.inr rfl)) _ _ _ HCC.out.drew)
    generalize w3.drew.setCells d (k * 32) (bv ((whole l).take y)) = W4 at *
    have q1 := HF4.out.c1
    have q2 := HF4.out.fz 1 (by omega)
    go_wp2_with fail
    go_ret
    rw [HE.out, HS.out, HTY.out]
    exact ⟨rfl, HF4.out.set1 true, HC4.out.setCell (p := ⟨f, 1, none⟩) (.inl (.inl rfl)) _⟩
  | false =>
    rw [hcm, if_neg (by simp)] at HE HS
    clear hcm
    go_wp2_with fail
    refine wp_region_held_drew (S := (fun w9 => w9.cell? ⟨f, 0, none⟩ = some (.slice (some ⟨d, 0, none⟩) N KC) ∧ w9.rangeAt g 0 (bv (whole l)))) (by kernel_rfl) ?_ (fun hHeld => ?_)
    · exact ⟨k0, HD3.out.at_⟩
    refine wpAnyH_take (i := 0) (oi := { dst := some 49, op := _, type := _, pos := _, after := _, guard := _ }) (v := ?_) rfl (by kernel_rfl) (by kernel_rfl) (by kernel_rfl) (fun _ _ _ h => h) (Or.inl ⟨by rfl, ?_⟩) (by assumption) ?_
    rotate_left
    · (intro w hSw; (try dsimp only at hSw); (try obtain ⟨hSw1, hSw2⟩ := hSw); go_simp; (try with_reducible rfl))
    (try simp only [Act.put, List.setIfInBounds_toArray, List.set_cons_zero, List.set_cons_succ])
    refine wpAnyH_take (i := 1) (oi := { dst := some 50, op := _, type := _, pos := _, after := _, guard := _ }) (v := ?_) rfl (by kernel_rfl) (by kernel_rfl) (by kernel_rfl) (fun _ _ _ h => h) (Or.inl ⟨by rfl, ?_⟩) (by assumption) ?_
    rotate_left
    · (intro w hSw; (try dsimp only at hSw); (try obtain ⟨hSw1, hSw2⟩ := hSw); go_simp; (try with_reducible rfl))
    (try simp only [Act.put, List.setIfInBounds_toArray, List.set_cons_zero, List.set_cons_succ])
    refine wpAnyH_take (i := 2) (oi := { dst := some 51, op := _, type := _, pos := _, after := _, guard := _ }) (v := ?_) rfl (by kernel_rfl) (by kernel_rfl) (by kernel_rfl) (fun _ _ _ h => h) (Or.inl ⟨by rfl, ?_⟩) (by assumption) ?_
    rotate_left
    · (intro w hSw; (try dsimp only at hSw); (try obtain ⟨hSw1, hSw2⟩ := hSw); go_simp; (try with_reducible rfl))
    (try simp only [Act.put, List.setIfInBounds_toArray, List.set_cons_zero, List.set_cons_succ])
    refine wpAnyH_take (i := 3) (oi := { dst := some 52, op := _, type := _, pos := _, after := _, guard := _ }) (v := ?_) rfl (by kernel_rfl) (by kernel_rfl) (by kernel_rfl) (fun _ _ _ h => h) (Or.inl ⟨by rfl, ?_⟩) (by assumption) ?_
    rotate_left
    · (intro w hSw; (try dsimp only at hSw); (try obtain ⟨hSw1, hSw2⟩ := hSw); go_simp; (try with_reducible rfl))
    (try simp only [Act.put, List.setIfInBounds_toArray, List.set_cons_zero, List.set_cons_succ])
    refine wpAnyH_take (i := 4) (oi := { dst := some 53, op := _, type := _, pos := _, after := _, guard := _ }) (v := ?_) rfl (by kernel_rfl) (by kernel_rfl) (by kernel_rfl) (fun _ _ _ h => h) (Or.inl ⟨by rfl, ?_⟩) (by assumption) ?_
    rotate_left
    · (intro w hSw; (try dsimp only at hSw); (try obtain ⟨hSw1, hSw2⟩ := hSw); go_simp; (try with_reducible rfl))
    (try simp only [Act.put, List.setIfInBounds_toArray, List.set_cons_zero, List.set_cons_succ])
    refine wpAnyH_take (i := 5) (oi := { dst := some 54, op := _, type := _, pos := _, after := _, guard := _ }) (v := _) rfl (by kernel_rfl) (by kernel_rfl) (by kernel_rfl) (fun _ _ _ h => h) (yieldsIf_load_mid (by rfl) 90 _ rfl g 0 (by rfl) (bv (whole l)) _ (fun w9 h9 => h9.2) Try.underlying90 rfl (by rw [bv_len, HWL.out]; exact dsz)) (by assumption) ?_
    (try simp only [Act.put, List.setIfInBounds_toArray, List.set_cons_zero, List.set_cons_succ])
    refine wpAnyH_take (i := 6) (oi := { dst := some 55, op := _, type := _, pos := _, after := _, guard := _ }) (v := ?_) rfl (by kernel_rfl) (by kernel_rfl) (by kernel_rfl) (fun _ _ _ h => h) (Or.inl ⟨by rfl, ?_⟩) (by assumption) ?_
    rotate_left
    · (intro w hSw; (try dsimp only at hSw); (try obtain ⟨hSw1, hSw2⟩ := hSw); go_simp; (try with_reducible rfl))
    (try simp only [Act.put, List.setIfInBounds_toArray, List.set_cons_zero, List.set_cons_succ])
    refine wpAnyH_ready (rs := [7]) (by kernel_rfl) (by simp) ?_
    refine AllReadyH.cons (o := { dst := none, op := _, type := _, pos := _, after := _, guard := _ }) rfl (fun K hK => ?_) AllReadyH.nil
    rw [if_pos (by rfl)]
    refine wp_store_mid 90 _ _ rfl d (k * 32) (bv (whole l)).toArray (by rfl) (by rfl) ?_ ?_ ?_ ?_
    · rw [List.size_toArray, bv_len, HWL.out]; exact HF3.out.dt.drew.there (o := k * 32) (n := 32) (by show k * 32 + 32 ≤ s.F.length; rw [HL.out]; omega)
    · rw [List.size_toArray, bv_len, HWL.out]; exact dsz
    · exact all_oneCell_toArray (bv_one _)
    rw [List.toList_toArray]
    refine hK.out _ _ ?_ (fun hHeld => ?_)
    · exact ⟨(cell_out _ _ _ _ HNE.out).trans k0, World.rangeAt_setCells_apart HD3.out.drew.at_ _ _ _ (.inl HGD.out)⟩
    clear hK K
    (try simp only [Act.put, List.setIfInBounds_toArray, List.set_cons_zero, List.set_cons_succ])
    refine wpAnyH_done (by kernel_rfl) ?_ _
    have HF4 := hidMk (HF3.out.drew.put (k * 32) (whole l) (by show k * 32 + (whole l).length ≤ s.F.length; rw [HL.out, HWL.out]; omega) (whole_isB HLB.out))
    have HC4 := hidMk (show Chg (Of f d) w1 (w3.drew.setCells d (k * 32) (bv (whole l))) from Chg.setCells (S := Of f d) (.inl (.inr rfl)) _ _ _ HCC.out.drew)
    generalize w3.drew.setCells d (k * 32) (bv (whole l)) = W4 at *
    go_wp2_with fail
    go_ret
    rw [HE.out, HS.out]
    exact ⟨rfl, HF4.out, HC4.out⟩
end
end Go.Proofs.Ytapcmkhpbdphoaa
