/- log: read, Open. -/
import Derived.Test.YtapcmkhpbdphoaaLg5
import Derived.Test.YtapcmkhpbdphoaaLg6
namespace Go.Proofs.Ytapcmkhpbdphoaa
open Go.RowKit Go.Maps
set_option linter.unusedSimpArgs false
set_option linter.unusedVariables false

theorem log_noughtsG (a : Option Addr) (n c : Nat) (l : List Int) (w : World) (hs : Sl .u8 w a n l) : Calls Try.prog 37 #[.slice a n c] w fun e w' => (∃ b : Bool, e = .returned (.bool b) ∧ (b = true ↔ nilB l)) ∧ w' = w := by
  have HI := hidMk (ix_noughts a n c l w hs)
  have HC : Hid (Calls Try.prog 48 #[.slice a n c, .func (.func 49) #[] #[]] w fun e w' => (∃ b : Bool, e = .returned (.bool b) ∧ (b = true ↔ ¬ nilB l)) ∧ w' = w) := hidMk (by
    clear hs
    go_enter Try.func48, Try.ntmps48
    go_wp2_with (go_at_call 59; refine HI.out.mono ?_; rintro e w1 ⟨⟨x, rfl, hx⟩, rfl⟩; have HX := hidMk hx; clear hx)
    go_ret
    exact ⟨⟨_, rfl, by rw [decide_eq_true_iff]; exact HX.out⟩, rfl⟩)
  clear hs
  go_enter Try.func37, Try.ntmps37
  go_wp2_with (go_at_call 48; refine HC.out.mono ?_; rintro e w1 ⟨⟨b, rfl, hb⟩, rfl⟩; have HB := hidMk hb; clear hb)
  go_ret
  exact ⟨⟨!b, rfl, by
    have h1 := HB.out
    cases b with
    | true => simp only [Bool.not_true, Bool.false_eq_true, false_iff]; exact h1.1 rfl
    | false =>
      simp only [Bool.not_false, true_iff]
      by_cases h2 : nilB l
      · exact h2
      · exact absurd (h1.2 h2) (by simp)⟩, rfl⟩
theorem wpList_appY {ops : Array Oper} {rest : List Oper} {o : Oper} {a : Act} {Q : Exit → Act → World → Prop} (w : World) (hgd : o.guard = none) (s x : Operand)
    (ho : o.op = .call { callee := .builtin .append, args := #[s, x], argTypes := #[33, 33] })
    (w0 : World) (v : Value) (l : List Int) (hs : a.eval s = v) (hv : Owned w0 w v l) (hB : w0.heap.size ≤ w.heap.size) (ad : Addr) (n c : Nat) (m : List Int) (hx : a.eval x = .slice (some ad) n c) (hsl : Sl .u8 w (some ad) n m)
    (hbig : (l.length + n) + (l.length + n) / 4 + 192 ≤ 281474976710656)
    (h : ∀ a' c' w', Owned w0 w' (.slice a' (l.length + n) c') (l ++ m) → Chg (fun k => v.ownBlock = some k) w w' → wpList Try.prog ops Q rest (a.put o.dst (.slice a' (l.length + n) c')) w') : wpList Try.prog ops Q (o :: rest) a w := by
  obtain ⟨i0, hi0, hz0, hz1, hz2⟩ := u8info
  have hl := hsl.len
  refine wpList_append_own_wide w hgd s x 33 ho w0.heap.size 5 i0 (.int .u8 0) 1 1 Try.underlying33 hi0 hz0 hz1 hz2 rfl (by decide) v _ _ hs hv ad n c (m.map (Value.int .u8)) hx (by simpa using hl) (sl_news hsl rfl) (u8s_one m) (by unfold maxLen; omega) (by omega) hB ?_
  intro v' w' h2 h3 _
  have h4 : Owned w0 w' v' (l ++ m) := by
    unfold Owned
    rw [List.length_append, List.map_append, hl]
    exact h2
  obtain ⟨a', c', e⟩ := h4.form
  rw [List.length_append, hl] at e
  subst e
  exact h a' c' w' h4 ((Chg.refl _ w).grown h3 (fun k hk => .inl hk))
theorem Owned.chgZ {S : Nat → Prop} {w0 w w' : World} {v : Value} {l : List Int} (h : Owned w0 w v l) (g : Chg S w w') (hb : ∀ k, v.ownBlock = some k → ¬ S k) : Owned w0 w' v l := ownsRow_chgZ h g hb
theorem Owned.lt {w0 w : World} {v : Value} {l : List Int} (h : Owned w0 w v l) : ∀ g, v.ownBlock = some g → w0.heap.size ≤ g ∧ g < w.heap.size := World.ownsRow.lt h
theorem own_dtB {w0 w : World} {g n c : Nat} {l : List Int} (h : Owned w0 w (.slice (some ⟨g, 0, none⟩) n c) l) (hn : l.length = n) : Dt w g l := by
  subst hn
  have h' : w.ownsRow w0.heap.size 5 1 (.slice (some ⟨g, 0, none⟩) l.length c) l.length (l.map (Value.int .u8)) := h
  refine .of (h.lt g rfl).2 (fun i hi => ?_) (fun i hi => h'.frozenAt i)
  rw [h'.cellAt i (by omega)]
  simp [List.getD, hi]
/-- The bytes of some blocks. -/
def reg (F : List Int) (fr to : Nat) : List Int := (F.drop (fr * 32)).take ((to - fr) * 32)
theorem reg_len {F : List Int} {N fr to : Nat} (hF : F.length = N * 32) (h1 : fr ≤ to) (h2 : to ≤ N) : (reg F fr to).length = (to - fr) * 32 := by simp [reg]; omega
theorem reg_succ {F : List Int} {N fr k : Nat} (hF : F.length = N * 32) (h : fr + k < N) : reg F fr (fr + (k + 1)) = reg F fr (fr + k) ++ blk F (fr + k) := by
  unfold reg blk
  rw [show (fr + (k + 1) - fr) * 32 = k * 32 + 32 by omega, show (fr + k - fr) * 32 = k * 32 by omega, List.take_add, List.drop_drop]
  congr 3
  omega
theorem reg_isB {F : List Int} {fr to : Nat} (h : ∀ x ∈ F, isB x) : ∀ x ∈ reg F fr to, isB x := fun x hx => h x (List.mem_of_mem_drop (List.mem_of_mem_take hx))
/-- What read tells. -/
def ReadP (w : World) (wr : Int) (R : List Int) (rs : List (List Int)) (u : Nat) (e : Ending) (w' : World) : Prop := ∃ g K va vn vc qs cl, e = .returned (.agg #[.int .i64 wr, .slice (some ⟨g, 0, none⟩) R.length K, .slice va vn vc, .int .i64 (u : Int), .bool cl]) ∧
  Dt w' g R ∧ R.length ≤ K ∧ K ≤ 9223372036854775807 ∧ w.heap.size ≤ g ∧ Rz w' 0 (.slice va vn vc) qs rs ∧ (∀ k, (Value.slice va vn vc).ownBlock = some k → w.heap.size ≤ k ∧ k ≠ g) ∧ (∀ q ∈ qs, ∀ ad, q.1 = some ad → w.heap.size ≤ ad.block ∧ ad.block ≠ g) ∧ (cl = true ↔ nilB (R.drop u)) ∧ Kept w w'
theorem NewCon.out {w : World} {b c i : Nat} {v : Value} (h : NewCon w b) (hne : c ≠ b) : NewCon (w.setCell ⟨c, i, none⟩ v) b :=
  ⟨so h.c0 (by simp [hne]), so h.c1 (by simp [hne]), so h.c2 (by simp [hne]), so h.c3 (by simp [hne]), so h.c4 (by simp [hne]), fun i hi => by rw [World.frozen?_setCell]; exact h.fz i hi⟩
theorem NewCon.set {w : World} {b : Nat} (h : NewCon w b) (v0 v1 v2 v3 v4 : Value) : let W := ((((w.setCell ⟨b, 0, none⟩ v0).setCell ⟨b, 1, none⟩ v1).setCell ⟨b, 2, none⟩ v2).setCell ⟨b, 3, none⟩ v3).setCell ⟨b, 4, none⟩ v4; W.cell? ⟨b, 0, none⟩ = some v0 ∧ W.cell? ⟨b, 1, none⟩ = some v1 ∧ W.cell? ⟨b, 2, none⟩ = some v2 ∧ W.cell? ⟨b, 3, none⟩ = some v3 ∧ W.cell? ⟨b, 4, none⟩ = some v4 := by
  refine ⟨?_, ?_, ?_, ?_, ?_⟩
  · exact (so (so (so (so (World.cell?_setCell_same _ _ _ h.c0) (by simp)) (by simp)) (by simp)) (by simp))
  · exact (so (so (so (World.cell?_setCell_same _ _ _ (so h.c1 (by simp))) (by simp)) (by simp)) (by simp))
  · exact (so (so (World.cell?_setCell_same _ _ _ (so (so h.c2 (by simp)) (by simp))) (by simp)) (by simp))
  · exact (so (World.cell?_setCell_same _ _ _ (so (so (so h.c3 (by simp)) (by simp)) (by simp))) (by simp))
  · exact World.cell?_setCell_same _ _ _ (so (so (so (so h.c4 (by simp)) (by simp)) (by simp)) (by simp))
/-- While it is read. -/
structure RdJ (W2 wr : World) (hb : Nat) (x : Int) (sv : Value) : Prop where
  h0 : wr.cell? ⟨hb, 0, none⟩ = some (.int .i64 x)
  h1 : wr.cell? ⟨hb, 1, none⟩ = some sv
  h2 : wr.cell? ⟨hb, 2, none⟩ = some (.slice none 0 0)
  h3 : wr.cell? ⟨hb, 3, none⟩ = some (.int .i64 0)
  h4 : wr.cell? ⟨hb, 4, none⟩ = some (.bool false)
  fz : ∀ i, i < 5 → wr.frozen? ⟨hb, i, none⟩ = false
  c : Chg (fun j => j = hb) W2 wr
theorem RdJ.chg {S : Nat → Prop} {W2 w w' : World} {hb : Nat} {x : Int} {sv : Value} (h : RdJ W2 w hb x sv) (k : Chg S w w') (hS : ∀ j, S j → W2.heap.size ≤ j) (hb2 : hb < W2.heap.size) : RdJ W2 w' hb x sv := by
  have hn : ¬ S hb := fun e => by have := hS _ e; omega
  have hl := h.c.size
  refine ⟨k.cellp h.h0 hn, k.cellp h.h1 hn, k.cellp h.h2 hn, k.cellp h.h3 hn, k.cellp h.h4 hn, fun i hi => (k.frozen (p := ⟨hb, i, none⟩) (Nat.lt_of_lt_of_le hb2 hl) hn).trans (h.fz i hi), ?_⟩
  exact h.c.thn k (fun j hj e => by have := hS j e; omega)
theorem RdJ.set1 {W2 w : World} {hb : Nat} {x : Int} {sv : Value} (h : RdJ W2 w hb x sv) (v : Value) : RdJ W2 (w.setCell ⟨hb, 1, none⟩ v) hb x v :=
  ⟨so h.h0 (by simp), World.cell?_setCell_same _ _ _ h.h1, so h.h2 (by simp), so h.h3 (by simp), so h.h4 (by simp), fun i hi => by rw [World.frozen?_setCell]; exact h.fz i hi, h.c.setCell (p := ⟨hb, 1, none⟩) (.inl rfl) _⟩
section
variable {w : World} {f d N : Nat} {s : Bf}
set_option maxHeartbeats 2000000 in
set_option maxRecDepth 100000 in
theorem log_read (h : Fl w f d N s) (hoff : s.off = false) (fr to : Nat) (h1 : fr < to) (h2 : to ≤ N) (hN : N ≤ 1000) (rs : List (List Int)) (u : Nat) (hA : AllIs (reg s.F fr to) rs u) :
    Calls Try.prog 33 #[.pointer (some ⟨f, 0, none⟩), .int .i64 (fr : Int), .int .i64 (to : Int)] w fun e w' => ReadP w s.wr (reg s.F fr to) rs u e w' := by
  have H := hidMk h
  have HA := hidMk hA
  have HALE := hidMk hA.le
  have HOF := hidMk hoff
  obtain ⟨W2, hW2⟩ : ∃ W2, W2 = (w.alloc (.cells #[.int .i64 0, .slice none 0 0, .slice none 0 0, .int .i64 0, .bool false] 53)).alloc (.cells #[.int .i64 s.wr, .slice none 0 0, .slice none 0 0, .int .i64 0, .bool false] 53) := ⟨_, rfl⟩
  have K2 := hidMk (show Kept w W2 by rw [hW2]; exact ((Kept.refl w).alloc _).alloc _)
  have HSZ := hidMk (show W2.heap.size = w.heap.size + 2 by rw [hW2]; simp)
  have HNC := hidMk (show NewCon W2 w.heap.size from by rw [hW2]; exact ⟨by simp, by simp, by simp, by simp, by simp, fun i hi => by simp⟩)
  have HJ0 := hidMk (show RdJ W2 W2 (w.heap.size + 1) s.wr (.slice none 0 0) from by
    have hs1 : (w.alloc (.cells #[.int .i64 0, .slice none 0 0, .slice none 0 0, .int .i64 0, .bool false] 53)).heap.size = w.heap.size + 1 := by simp
    rw [hW2, ← hs1]
    exact ⟨by simp, by simp, by simp, by simp, by simp, fun i hi => by simp, Chg.refl _ _⟩)
  have HW2 := hidMk hW2
  have HLN := hidMk h.len
  have hf1 : (fr : Int) < (to : Int) := by omega
  have hto : (to : Int) ≤ 1000 := by omega
  have H1 := hidMk h1
  have H2 := hidMk h2
  have HN := hidMk hN
  clear h hA hoff hW2 h1 h2 hN
  go_enter Try.func33, Try.ntmps33
  go_wp2_with (first | (go_at_call 30; refine (bk_Writes (H.out.kept ((Kept.refl w).alloc _))).mono ?_; rintro e w1 ⟨rfl, hw1⟩; rw [hw1]; clear hw1 w1) | (go_at_call 32; refine (bk_Off (H.out.kept (((Kept.refl w).alloc _).alloc _))).mono ?_; rintro e w1 ⟨rfl, hw1⟩; rw [hw1, HOF.out]; clear hw1 w1))
  go_loopg [8] (to - fr) (fun gg x wr => ∃ (k : Nat) (sa : Option Addr) (sc : Nat), k + gg = to - fr ∧ x = .int .i64 ((fr + k : Nat) : Int) ∧ Hid (RdJ W2 wr (w.heap.size + 1) s.wr (.slice sa (k * 32) sc) ∧ Owned W2 wr (.slice sa (k * 32) sc) (reg s.F fr (fr + k))))
  case atStart => exact ⟨0, none, 0, by omega, rfl, hidMk ⟨by rw [← HW2.out]; exact HJ0.out, by rw [show reg s.F fr (fr + 0) = [] by simp [reg]]; exact World.ownsRow_nil _ _ _ _⟩⟩
  case round =>
    obtain ⟨k, sa, sc, hkg, rfl, HI⟩ := hrel
    have HKG := hidMk hkg
    clear hkg
    have HFL := hidMk (show Fl wr f d N s from (H.out.kept K2.out).chg HI.out.1.c (by have := H.out.lt; omega) (by have := H.out.dt.lt; omega))
    have HRL := hidMk (show fr + k ≤ N → (reg s.F fr (fr + k)).length = k * 32 from fun hh => by rw [reg_len HLN.out (by omega) hh, Nat.add_sub_cancel_left])
    by_cases hk : fr + k < to
    · have hk' : ((fr + k : Nat) : Int) < (to : Int) := by omega
      have hkN : fr + k < N := by have := H2.out; omega
      have HBD := hidMk (show bad s N ((fr + k : Nat) : Int) = 0 by unfold bad; rw [HOF.out, if_neg (by simp), if_neg (by omega)])
      have HRD := hidMk (bk_Read HFL.out ((fr + k : Nat) : Int))
      have HSU := hidMk (reg_succ HLN.out hkN)
      have HBL := hidMk (blk_len HLN.out hkN)
      have HK1000 := hidMk (show k ≤ 1000 by have := HN.out; omega)
      obtain ⟨j, hj⟩ : ∃ j, j = fr + k := ⟨_, rfl⟩
      have HJJ := hidMk hj
      rw [← hj] at HBD HRD HBL hk' ⊢
      clear hj
      go_wp2_with fail
      refine HRD.out.mono ?_
      rintro e w3 ⟨v3, rfl, o3, k3⟩
      rw [HBD.out] at o3 ⊢
      rw [if_pos rfl, Int.toNat_natCast] at o3
      obtain ⟨g3, c3, rfl, hg3, _⟩ := owned_at o3 (by rw [HBL.out]; omega)
      have S3 := hidMk (owned_slx o3 rfl (by rw [HBL.out]; unfold maxLen; omega))
      rw [HBL.out] at S3 ⊢
      have HI3 := hidMk (show RdJ W2 w3 (w.heap.size + 1) s.wr (.slice sa (k * 32) sc) from HI.out.1.chg (S := fun _ => False) (Chg.of_kept k3) (fun _ e => e.elim) (by have := HSZ.out; omega))
      have HO3 := hidMk (show Owned W2 w3 (.slice sa (k * 32) sc) (reg s.F fr (fr + k)) from HI.out.2.kept k3)
      have HGE := hidMk (show W2.heap.size ≤ w3.heap.size from Nat.le_trans HI.out.1.c.size k3.size)
      clear o3 k3 HI HFL HRD
      have y1 := HI3.out.h1
      have HRK := hidMk (HRL.out (by omega))
      go_wp2_with (at_builtin; refine wpList_appY _ (by rfl) _ _ (by rfl) W2 _ (reg s.F fr (fr + k)) (by rfl) HO3.out HGE.out ⟨g3, 0, none⟩ 32 c3 (blk s.F j) (by rfl) S3.out (by rw [HRK.out]; have := HK1000.out; omega) ?_; intro a9 c9 w9 o9 k9; rw [HRK.out] at o9; rw [HRK.out]; have O9 := hidMk o9; have J9 := hidMk (HI3.out.chg k9 (fun z hz => (HO3.out.lt z hz).1) (by have := HSZ.out; omega)); clear o9 k9 y1; have y1 := J9.out.h1; have y2 := J9.out.fz 1 (by omega))
      go_roundg (gk - 1)
      case measure => have := HKG.out; omega
      case rel =>
        have hjj := HJJ.out
        subst hjj
        refine ⟨k + 1, a9, c9, by have := HKG.out; omega, ?_, hidMk ⟨?_, ?_⟩⟩
        · go_num
        · rw [show (k + 1) * 32 = k * 32 + 32 by omega]
          exact J9.out.set1 _
        · rw [show (k + 1) * 32 = k * 32 + 32 by omega, HSU.out]
          refine O9.out.chgZ (S := fun j => j = w.heap.size + 1) ((Chg.refl (fun j => j = w.heap.size + 1) _).own 1 _) (fun z hz e => ?_)
          have := (O9.out.lt z hz).1
          have := HSZ.out
          omega
    · have hke : fr + k = to := by have := HKG.out; have := H1.out; omega
      have HKE := hidMk hke
      obtain ⟨j, hj⟩ : ∃ j, j = fr + k := ⟨_, rfl⟩
      have HRK := hidMk (HRL.out (by have := H2.out; omega))
      have hk' : ¬ ((j : Int) < (to : Int)) := by omega
      have HK1 := hidMk (show 1 ≤ k ∧ k ≤ 1000 by have := H1.out; have := H2.out; have := HN.out; omega)
      have HI2 := hidMk HI.out
      rw [hke] at HRK HI2
      obtain ⟨R, hR⟩ : ∃ R, R = reg s.F fr to := ⟨_, rfl⟩
      have HRB := hidMk (show ∀ x ∈ R, isB x by rw [hR]; exact reg_isB H.out.isb)
      have HFN : Hid (∀ e w', ReadP w s.wr R rs u e w' → ReadP w s.wr (reg s.F fr to) rs u e w') := hidMk (by rw [hR]; exact fun _ _ h => h)
      rw [← hR] at HRK HI2 HA HALE
      rw [← hj]
      clear hR HI HRL hke hk hj
      obtain ⟨g, cg, hge, hg1, hg2⟩ := owned_at HI2.out.2 (by rw [HRK.out]; have := HK1.out; omega)
      rw [HRK.out] at hge
      injection hge with e1 e2 e3
      subst e1 e3
      obtain ⟨L, hL⟩ : ∃ L, L = k * 32 := ⟨_, rfl⟩
      rw [← hL] at HI2 HRK
      have HLB := hidMk (show 32 ≤ L ∧ L ≤ 32000 by have := HK1.out; omega)
      have HCAP := hidMk (own_cap HI2.out.2)
      clear e2 hL
      have HDT := hidMk (own_dtB HI2.out.2 HRK.out)
      have y0 := HI2.out.1.h0
      have y1 := HI2.out.1.h1
      have y2 := HI2.out.1.h2
      have y3 := HI2.out.1.h3
      have y4 := HI2.out.1.h4
      have HAL := hidMk (rec_All g 0 L sc R wr (owned_slx HI2.out.2 HRK.out (by have := HLB.out; unfold maxLen; omega)) HRB.out (by have := HLB.out; omega) HCAP.out.1 HCAP.out.2 rs u HA.out)
      clear HA HJ0
      go_wp2_with fail
      refine HAL.out.mono ?_
      rintro e w3 ⟨v3, q3, rfl, z3, b3, k3⟩
      obtain ⟨va, vc, hv3, _, _, _⟩ := z3.shape
      subst hv3
      have HJ3 := hidMk (show RdJ W2 w3 (w.heap.size + 1) s.wr (.slice (some ⟨g, 0, none⟩) L sc) from HI2.out.1.chg (S := fun _ => False) (Chg.of_kept k3) (fun _ e => e.elim) (by have := HSZ.out; omega))
      have HNC3 := hidMk (show NewCon w3 w.heap.size from by
        have hn : ¬ (w.heap.size = w.heap.size + 1) := by omega
        have hc : Chg (fun j => j = w.heap.size + 1) W2 w3 := HJ3.out.c
        have h := HNC.out
        exact ⟨hc.cellp h.c0 hn, hc.cellp h.c1 hn, hc.cellp h.c2 hn, hc.cellp h.c3 hn, hc.cellp h.c4 hn, fun i hi => (hc.frozen (p := ⟨w.heap.size, i, none⟩) (show w.heap.size < W2.heap.size by have := HSZ.out; omega) hn).trans (h.fz i hi)⟩)
      have HKF := hidMk (show Chg (fun j => j = w.heap.size + 1) W2 w3 from HJ3.out.c)
      have Z3 := hidMk z3
      have B3 := hidMk (show (∀ q ∈ q3, ∀ ad, q.1 = some ad → wr.heap.size ≤ ad.block) ∧ (∀ k, (Value.slice va q3.length vc).ownBlock = some k → wr.heap.size ≤ k) from ⟨b3, fun k hk => (z3.olt k hk).1⟩)
      have HD3 := hidMk (HDT.out.kept k3)
      have HWS := hidMk (show w.heap.size + 2 ≤ wr.heap.size ∧ w.heap.size + 2 ≤ g ∧ g < wr.heap.size from ⟨by have := HI2.out.1.c.size; have := HSZ.out; omega, by have := HSZ.out; omega, hg2⟩)
      obtain ⟨rb, hrb⟩ : ∃ rb, rb = w.heap.size := ⟨_, rfl⟩
      obtain ⟨hb, hhb⟩ : ∃ hb, hb = w.heap.size + 1 := ⟨_, rfl⟩
      have HRBE := hidMk (show rb = w.heap.size ∧ hb = w.heap.size + 1 from ⟨hrb, hhb⟩)
      rw [← hhb] at HJ3 HKF ⊢
      rw [← hrb] at HNC3 ⊢
      have hne1 : rb ≠ hb := by omega
      have hne2 : hb ≠ rb := by omega
      have HNG := hidMk (show ∀ ad W, (u < L → ad = some ⟨g, u, none⟩) → Dt W g R → Calls Try.prog 37 #[.slice ad (L - u) (sc - u)] W fun e w' => (∃ b : Bool, e = .returned (.bool b) ∧ (b = true ↔ nilB (R.drop u))) ∧ w' = W from fun ad W had hD => by
        refine log_noughtsG ad (L - u) (sc - u) (R.drop u) W ?_
        by_cases hul : u < L
        · rw [had hul]
          have := hD.sl u (L - u) (by have := HRK.out; omega) (by have := HLB.out; unfold maxLen; omega)
          rw [List.take_of_length_le (by rw [List.length_drop]; have := HRK.out; omega)] at this
          exact this
        · rw [show L - u = 0 by omega]
          exact sl_none (List.drop_eq_nil_of_le (by have := HRK.out; omega)))
      have HUL := hidMk (show u ≤ L by have := HALE.out.1; have := HRK.out; omega)
      have huc : (u : Int) ≤ (L : Int) := by have := HUL.out; omega
      have hlc : (L : Int) ≤ (sc : Int) := by have := HCAP.out.1; omega
      have HGH := hidMk (show g ≠ hb ∧ g ≠ rb by have := HWS.out; omega)
      clear z3 b3 k3 y0 y1 y2 y3 y4 HI2 HDT HNC hhb hrb hg1 hg2 HAL H HOF HW2 hf1 hto
      have y0 := HJ3.out.h0
      have y1 := HJ3.out.h1
      have y2 := HJ3.out.h2
      have y3 := HJ3.out.h3
      have y4 := HJ3.out.h4
      have f2 := HJ3.out.fz 2 (by omega)
      have f3 := HJ3.out.fz 3 (by omega)
      have f4 := HJ3.out.fz 4 (by omega)
      obtain ⟨x0, x1, x2, x3, x4, xf⟩ := HNC3.out
      have g0 := xf 0 (by omega)
      have g1 := xf 1 (by omega)
      have g2 := xf 2 (by omega)
      have g3 := xf 3 (by omega)
      have g4 := xf 4 (by omega)
      clear xf
      have HFIN := hidMk (show ∀ cl : Bool, (cl = true ↔ nilB (R.drop u)) → ∀ W, Chg (fun j => j = hb ∨ j = rb) w3 W → ReadP w s.wr R rs u (.returned (.agg #[.int .i64 s.wr, .slice (some ⟨g, 0, none⟩) L sc, .slice va q3.length vc, .int .i64 (u : Int), .bool cl])) W from fun cl hcl W hW => by
        have h1 := HWS.out
        have h2 := HRBE.out
        have h3 := HCAP.out
        have h5 := HRK.out
        refine ⟨g, sc, va, q3.length, vc, q3, cl, by rw [h5], HD3.out.chg hW (by have := HGH.out; omega), by omega, h3.2, by omega, (Z3.out.base (Nat.zero_le _)).chg hW (fun k hk => by have := B3.out.2 k hk; omega) (fun q hq ad e => by have := B3.out.1 q hq ad e; omega), fun k hk => by have := B3.out.2 k hk; omega, fun q hq ad e => by have := B3.out.1 q hq ad e; omega, hcl, ?_⟩
        refine Chg.kept (Chg.kept K2.out HKF.out (fun j e => by omega)) hW (fun j e => by omega))
      by_cases hcu : sc = u
      · have HNX := hidMk (fun W => HNG.out (some ⟨g, 0, none⟩) W (fun h => by have := HCAP.out.1; omega))
        rw [show sc - u = 0 by omega] at HNX
        subst hcu
        go_wp2_with fail
        refine (HNX.out _ ((HD3.out.chg (S := fun j => j = hb) ((Chg.refl _ _).own 2 _) HGH.out.1).chg (S := fun j => j = hb) ((Chg.refl _ _).own 3 _) HGH.out.1)).mono ?_
        rintro e w5 ⟨⟨cl, rfl, hcl⟩, hw5⟩
        rw [hw5]
        have HCL := hidMk hcl
        clear hw5 hcl w5
        go_wp2_with fail
        have hc5 := NewCon.set (NewCon.out (c := hb) (i := 4) (v := .bool cl) (NewCon.out (c := hb) (i := 3) (v := .int .i64 (sc : Int)) (NewCon.out (c := hb) (i := 2) (v := .slice va q3.length vc) HNC3.out hne2) hne2) hne2) (.int .i64 s.wr) (.slice (some ⟨g, 0, none⟩) L sc) (.slice va q3.length vc) (.int .i64 (sc : Int)) (.bool cl)
        refine con_ret rfl rb rfl rfl hc5.1 hc5.2.1 hc5.2.2.1 hc5.2.2.2.1 hc5.2.2.2.2 (HFN.out _ _ (HFIN.out cl HCL.out _ ?_))
        have cb : ∀ {X : World} (i : Nat) (v : Value), Chg (fun j => j = hb ∨ j = rb) w3 X → Chg (fun j => j = hb ∨ j = rb) w3 (X.setCell ⟨hb, i, none⟩ v) := fun i v h => h.setCell (p := ⟨hb, i, none⟩) (.inl (.inl rfl)) v
        have cr : ∀ {X : World} (i : Nat) (v : Value), Chg (fun j => j = hb ∨ j = rb) w3 X → Chg (fun j => j = hb ∨ j = rb) w3 (X.setCell ⟨rb, i, none⟩ v) := fun i v h => h.setCell (p := ⟨rb, i, none⟩) (.inl (.inr rfl)) v
        exact cr _ _ (cr _ _ (cr _ _ (cr _ _ (cr _ _ (cb _ _ (cb _ _ (cb _ _ (Chg.refl _ _))))))))
      · have HNX := hidMk (fun W => HNG.out (some ⟨g, u, none⟩) W (fun h => rfl))
        go_wp2_with fail
        refine (HNX.out _ ((HD3.out.chg (S := fun j => j = hb) ((Chg.refl _ _).own 2 _) HGH.out.1).chg (S := fun j => j = hb) ((Chg.refl _ _).own 3 _) HGH.out.1)).mono ?_
        rintro e w5 ⟨⟨cl, rfl, hcl⟩, hw5⟩
        rw [hw5]
        have HCL := hidMk hcl
        clear hw5 hcl w5
        go_wp2_with fail
        have hc5 := NewCon.set (NewCon.out (c := hb) (i := 4) (v := .bool cl) (NewCon.out (c := hb) (i := 3) (v := .int .i64 (u : Int)) (NewCon.out (c := hb) (i := 2) (v := .slice va q3.length vc) HNC3.out hne2) hne2) hne2) (.int .i64 s.wr) (.slice (some ⟨g, 0, none⟩) L sc) (.slice va q3.length vc) (.int .i64 (u : Int)) (.bool cl)
        refine con_ret rfl rb rfl rfl hc5.1 hc5.2.1 hc5.2.2.1 hc5.2.2.2.1 hc5.2.2.2.2 (HFN.out _ _ (HFIN.out cl HCL.out _ ?_))
        have cb : ∀ {X : World} (i : Nat) (v : Value), Chg (fun j => j = hb ∨ j = rb) w3 X → Chg (fun j => j = hb ∨ j = rb) w3 (X.setCell ⟨hb, i, none⟩ v) := fun i v h => h.setCell (p := ⟨hb, i, none⟩) (.inl (.inl rfl)) v
        have cr : ∀ {X : World} (i : Nat) (v : Value), Chg (fun j => j = hb ∨ j = rb) w3 X → Chg (fun j => j = hb ∨ j = rb) w3 (X.setCell ⟨rb, i, none⟩ v) := fun i v h => h.setCell (p := ⟨rb, i, none⟩) (.inl (.inr rfl)) v
        exact cr _ _ (cr _ _ (cr _ _ (cr _ _ (cr _ _ (cb _ _ (cb _ _ (cb _ _ (Chg.refl _ _))))))))
end
end Go.Proofs.Ytapcmkhpbdphoaa
