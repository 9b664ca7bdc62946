/- show's definition: a row, a lock, an error, a clash. -/
import Derived.Test.YtbhojgodkblflaaSh1
namespace Go.Proofs.Ytbhojgodkblflaa
open Go.RowKit Go.Maps
set_option linter.unusedSimpArgs false
set_option linter.unusedVariables false

theorem addR {a b r : ByteArray} (h : a ++ b = r) (hs : a.size + b.size ≤ 9223372036854775807) : ∀ y : World, (Op.stringOp .add a b).run Try.prog y = .ok (.string r) y := fun y => by
  rw [← h]; exact run_string_add_sum (P := Try.prog) (w := y) (a := _) (b := _) (h := hs)
theorem app_assoc (a b c : ByteArray) : a ++ (b ++ c) = a ++ b ++ c := (ByteArray.append_assoc).symm
set_option maxHeartbeats 1000000 in
theorem rcell_nil (w : World) : ShP 23 (.pointer none) (fun _ _ _ _ _ => ⟨#[]⟩) w := fun y hy c0 c1 c2 c3 c4 => by
  clear hy
  go_enter Try.func23, Try.ntmps23
  go_wp2_with fail
  go_ret
  exact ⟨rfl, (Kept.refl y).alloc _⟩
set_option maxHeartbeats 1000000 in
theorem rcell_some (p : Nat) (f : Int → Int → Int → Int → Int → ByteArray) (w : World) (h : ShP 43 (.pointer (some ⟨p, 0, none⟩)) f w) : ShP 23 (.pointer (some ⟨p, 0, none⟩)) f w := fun y hy c0 c1 c2 c3 c4 => by
  have H := hidMk (show ∀ z, Kept y z → _ from fun z hz => h z (hy.trans hz) c0 c1 c2 c3 c4)
  clear h hy
  generalize f c0 c1 c2 c3 c4 = s at *
  go_enter Try.func23, Try.ntmps23
  go_wp2_with fail
  refine (H.out _ ((Kept.refl y).alloc _)).mono ?_
  rintro e w1 ⟨rfl, k1⟩
  have K1 := hidMk (((Kept.refl y).alloc _).trans k1)
  clear k1
  go_wp2_with fail
  go_ret
  exact ⟨rfl, K1.out⟩
set_option maxHeartbeats 2000000 in
set_option maxRecDepth 100000 in
theorem ref_Row (d : Value) (kind c0 c1 c2 c3 c4 a b : Int) (f : Int → Int → Int → Int → Int → ByteArray) (w : World) (hS : ShP 23 d f w) (hf : (f c0 c1 c2 c3 c4).size ≤ 1000) (ha : isI a) (hb : isI b) :
    Calls Try.prog 8 #[d, .int .i64 kind, .agg #[.int .i64 c0, .int .i64 c1, .int .i64 c2, .int .i64 c3, .int .i64 c4, .int .i64 a, .int .i64 b]] w fun e w' => e = .returned (.string (rowB kind (f c0 c1 c2 c3 c4) a b)) ∧ Kept w w' := by
  have HS := hidMk (show ∀ y, Kept w y → _ from fun y hy => hS y hy c0 c1 c2 c3 c4)
  have HN := hidMk (fun (x : Int) (hx : isI x) (y : World) => ref_Num x hx y)
  have HA := hidMk ha
  have HB := hidMk hb
  have hla := numS_le ha
  have hlb := numS_le hb
  have h1 : spB.size = 1 := rfl
  clear hS ha hb
  generalize hs : f c0 c1 c2 c3 c4 = s at *
  clear hs
  by_cases h13 : kind = 13
  · subst h13
    have HE := hidMk (show rowB 13 s a b = s ++ spB ++ numS a ++ spB ++ numS b from rfl)
    rw [HE.out]
    have ad1 := addR (a := s) (b := spB) rfl (by omega)
    have ad2 := addR (a := s ++ spB) (b := numS a) rfl (by simp only [ByteArray.size_append]; omega)
    have ad3 := addR (a := s ++ spB ++ numS a) (b := spB) rfl (by simp only [ByteArray.size_append]; omega)
    have ad4 := addR (a := s ++ spB ++ numS a ++ spB) (b := numS b) rfl (by simp only [ByteArray.size_append]; omega)
    clear HE hla hlb hf h1
    generalize (s ++ spB ++ numS a ++ spB ++ numS b) = r4 at *
    generalize (s ++ spB ++ numS a ++ spB) = r3 at *
    generalize (s ++ spB ++ numS a) = r2 at *
    generalize (s ++ spB) = r1 at *
    unfold spB at *
    go_enter Try.func8, Try.ntmps8
    go_wp2_with fail
    refine (HS.out _ ((Kept.refl w).alloc _)).mono ?_
    rintro e w1 ⟨rfl, k1⟩
    have x5 : w1.cell? ⟨w.heap.size, 5, none⟩ = some (.int .i64 a) := k1.cellp (by simp)
    have x6 : w1.cell? ⟨w.heap.size, 6, none⟩ = some (.int .i64 b) := k1.cellp (by simp)
    have K1 := hidMk (((Kept.refl w).alloc _).trans k1)
    clear k1
    go_wp2_with fail
    go_region_held3 (fun w' => w'.cell? ⟨w.heap.size, 5, none⟩ = some (.int .i64 a) ∧ w'.cell? ⟨w.heap.size, 6, none⟩ = some (.int .i64 b)) (first | (refine ⟨?_, ?_⟩ <;> assumption) | (refine ⟨Kept.cellp ?_ x5, Kept.cellp ?_ x6⟩ <;> (repeat (first | (with_reducible exact Kept.refl _) | (with_reducible refine Kept.alloc ?_ _) | (with_reducible refine Kept.drew ?_) | (with_reducible refine Kept.drewN ?_ _) | (with_reducible refine Kept.trans ?_ (by assumption))))) | go_keep)
      (first
        | (go_at_call 24; refine (HN.out _ (by first | exact HA.out | exact HB.out) _).mono ?_; rintro e y5 ⟨rfl, rfl⟩))
    go_wp2_with fail
    go_ret
    exact ⟨rfl, K1.out.trans (by (repeat (first | (with_reducible exact Kept.refl _) | (with_reducible refine Kept.alloc ?_ _) | (with_reducible refine Kept.drew ?_) | (with_reducible refine Kept.drewN ?_ _) | (with_reducible refine Kept.trans ?_ (by assumption)))))⟩
  · by_cases h17 : kind = 17 ∨ kind = 18
    · have HE := hidMk (show rowB kind s a b = s ++ spB ++ numS a by unfold rowB; rw [if_neg h13, if_pos h17])
      rw [HE.out]
      have ad1 := addR (a := s) (b := spB) rfl (by omega)
      have ad2 := addR (a := s ++ spB) (b := numS a) rfl (by simp only [ByteArray.size_append]; omega)
      clear HE hla hlb hf h1
      generalize (s ++ spB ++ numS a) = r2 at *
      generalize (s ++ spB) = r1 at *
      unfold spB at *
      rcases h17 with rfl | rfl <;>
      · go_enter Try.func8, Try.ntmps8
        go_wp2_with fail
        refine (HS.out _ ((Kept.refl w).alloc _)).mono ?_
        rintro e w1 ⟨rfl, k1⟩
        have x5 : w1.cell? ⟨w.heap.size, 5, none⟩ = some (.int .i64 a) := k1.cellp (by simp)
        have K1 := hidMk (((Kept.refl w).alloc _).trans k1)
        clear k1
        go_wp2_with fail
        refine (HN.out a HA.out _).mono ?_
        rintro e w2 ⟨rfl, rfl⟩
        go_wp2_with fail
        go_ret
        exact ⟨rfl, K1.out⟩
    · have HE := hidMk (show rowB kind s a b = s by unfold rowB; rw [if_neg h13, if_neg h17])
      rw [HE.out]
      have h18 : ¬ kind = 18 := fun e => h17 (.inr e)
      have h17' : ¬ kind = 17 := fun e => h17 (.inl e)
      have b17 : (kind == 17) = false := by simpa using h17'
      have b18 : (kind == 18) = false := by simpa using h18
      have d17 : decide (kind = 17) = false := by simpa using h17'
      have d18 : decide (kind = 18) = false := by simpa using h18
      clear HE h17 HN hla hlb h1 hf
      go_enter Try.func8, Try.ntmps8
      go_wp2_with fail
      refine (HS.out _ ((Kept.refl w).alloc _)).mono ?_
      rintro e w1 ⟨rfl, k1⟩
      have K1 := hidMk (((Kept.refl w).alloc _).trans k1)
      clear k1
      go_wp2_with fail
      go_ret
      exact ⟨rfl, K1.out⟩
set_option maxHeartbeats 2000000 in
set_option maxRecDepth 100000 in
theorem ref_Lock (d : Value) (c0 c1 c2 c3 c4 : Int) (u : ByteArray) (f : Int → Int → Int → Int → Int → ByteArray) (w : World) (hS : ShP 23 d f w) (hf : (f c0 c1 c2 c3 c4).size ≤ 1000) (hu : u.size ≤ 140737488351232) :
    Calls Try.prog 10 #[d, .agg #[.int .i64 c0, .int .i64 c1, .int .i64 c2, .int .i64 c3, .int .i64 c4, .string u]] w fun e w' => e = .returned (.string (lockB (f c0 c1 c2 c3 c4) u)) ∧ Kept w w' := by
  have HS := hidMk (show ∀ y, Kept w y → _ from fun y hy => hS y hy c0 c1 c2 c3 c4)
  have HE := hidMk (show lockB (f c0 c1 c2 c3 c4) u = f c0 c1 c2 c3 c4 ++ spB ++ u from rfl)
  rw [HE.out]
  have h1 : spB.size = 1 := rfl
  have ad1 := addR (a := f c0 c1 c2 c3 c4) (b := spB) rfl (by omega)
  have ad2 := addR (a := f c0 c1 c2 c3 c4 ++ spB) (b := u) rfl (by simp only [ByteArray.size_append]; omega)
  clear hS hf hu HE h1
  generalize (f c0 c1 c2 c3 c4 ++ spB ++ u) = r2 at *
  generalize (f c0 c1 c2 c3 c4 ++ spB) = r1 at *
  generalize f c0 c1 c2 c3 c4 = s at *
  unfold spB at *
  go_enter Try.func10, Try.ntmps10
  go_wp2_with fail
  generalize hW : (w.alloc _) = W
  have x0 : W.cell? ⟨w.heap.size, 0, none⟩ = some (.int .i64 c0) := by rw [← hW]; simp
  have x1 : W.cell? ⟨w.heap.size, 1, none⟩ = some (.int .i64 c1) := by rw [← hW]; simp
  have x2 : W.cell? ⟨w.heap.size, 2, none⟩ = some (.int .i64 c2) := by rw [← hW]; simp
  have x3 : W.cell? ⟨w.heap.size, 3, none⟩ = some (.int .i64 c3) := by rw [← hW]; simp
  have x4 : W.cell? ⟨w.heap.size, 4, none⟩ = some (.int .i64 c4) := by rw [← hW]; simp
  have x5 : W.cell? ⟨w.heap.size, 5, none⟩ = some (.string u) := by rw [← hW]; simp
  have K0 := hidMk (show Kept w W by rw [← hW]; exact (Kept.refl w).alloc _)
  have HSW := hidMk (show ∀ y, Kept W y → _ from fun y hy => HS.out y (K0.out.trans hy))
  clear hW HS
  go_region_held3 (fun w' => w'.cell? ⟨w.heap.size, 0, none⟩ = some (.int .i64 c0) ∧ w'.cell? ⟨w.heap.size, 1, none⟩ = some (.int .i64 c1) ∧ w'.cell? ⟨w.heap.size, 2, none⟩ = some (.int .i64 c2) ∧ w'.cell? ⟨w.heap.size, 3, none⟩ = some (.int .i64 c3) ∧ w'.cell? ⟨w.heap.size, 4, none⟩ = some (.int .i64 c4) ∧ w'.cell? ⟨w.heap.size, 5, none⟩ = some (.string u)) (first | (refine ⟨?_, ?_, ?_, ?_, ?_, ?_⟩ <;> assumption) | (refine ⟨Kept.cellp ?_ x0, Kept.cellp ?_ x1, Kept.cellp ?_ x2, Kept.cellp ?_ x3, Kept.cellp ?_ x4, Kept.cellp ?_ x5⟩ <;> (repeat (first | (with_reducible exact Kept.refl _) | (with_reducible refine Kept.alloc ?_ _) | (with_reducible refine Kept.drew ?_) | (with_reducible refine Kept.drewN ?_ _) | (with_reducible refine Kept.trans ?_ (by assumption))))) | go_keep)
    (first
      | (go_at_call 23; refine (HSW.out _ (by (repeat (first | (with_reducible exact Kept.refl _) | (with_reducible refine Kept.alloc ?_ _) | (with_reducible refine Kept.drew ?_) | (with_reducible refine Kept.drewN ?_ _) | (with_reducible refine Kept.trans ?_ (by assumption)))))).mono ?_; rintro e y5 ⟨rfl, k5⟩))
  go_wp2_with fail
  go_ret
  exact ⟨rfl, K0.out.trans (by (repeat (first | (with_reducible exact Kept.refl _) | (with_reducible refine Kept.alloc ?_ _) | (with_reducible refine Kept.drew ?_) | (with_reducible refine Kept.drewN ?_ _) | (with_reducible refine Kept.trans ?_ (by assumption)))))⟩
set_option maxHeartbeats 2000000 in
theorem ref_Wrong (why k : Int) (w : World) (hw : isI why) (hk : isI k) :
    Calls Try.prog 14 #[.int .i64 why, .int .i64 k] w fun e w' => e = .returned (.string (wrongB why k)) ∧ w' = w := by
  have hl1 := numS_le hw
  have hl2 := numS_le hk
  have HN1 := hidMk (ref_Num why hw)
  have HN2 := hidMk (ref_Num k hk)
  have hE : errorW ++ spB = ⟨#[101, 114, 114, 111, 114, 32]⟩ := by decide +kernel
  have hA : spB ++ atW ++ spB = ⟨#[32, 97, 116, 32]⟩ := by decide +kernel
  have h1 : (⟨#[101, 114, 114, 111, 114, 32]⟩ : ByteArray).size = 6 := rfl
  have h2 : (⟨#[32, 97, 116, 32]⟩ : ByteArray).size = 4 := rfl
  have ad1 := addR (a := ⟨#[101, 114, 114, 111, 114, 32]⟩) (b := numS why) rfl (by omega)
  have HR : wrongB why k = if 0 ≤ k then ⟨#[101, 114, 114, 111, 114, 32]⟩ ++ numS why ++ ⟨#[32, 97, 116, 32]⟩ ++ numS k else ⟨#[101, 114, 114, 111, 114, 32]⟩ ++ numS why := by
    unfold wrongB
    rw [← hA, ← hE]
    simp only [app_assoc]
  rw [HR]
  have ad2 := addR (a := ⟨#[101, 114, 114, 111, 114, 32]⟩ ++ numS why) (b := ⟨#[32, 97, 116, 32]⟩) rfl (by simp only [ByteArray.size_append]; omega)
  have ad3 := addR (a := ⟨#[101, 114, 114, 111, 114, 32]⟩ ++ numS why ++ ⟨#[32, 97, 116, 32]⟩) (b := numS k) rfl (by simp only [ByteArray.size_append]; omega)
  clear hl1 hl2 hw hk HR h1 h2 hE hA
  generalize (⟨#[101, 114, 114, 111, 114, 32]⟩ ++ numS why ++ ⟨#[32, 97, 116, 32]⟩ ++ numS k : ByteArray) = r3 at *
  generalize (⟨#[101, 114, 114, 111, 114, 32]⟩ ++ numS why ++ ⟨#[32, 97, 116, 32]⟩ : ByteArray) = r2 at *
  generalize (⟨#[101, 114, 114, 111, 114, 32]⟩ ++ numS why : ByteArray) = r1 at *
  generalize numS why = a at *
  generalize numS k = b at *
  by_cases h0 : 0 ≤ k
  · rw [if_pos h0]
    go_enter Try.func14, Try.ntmps14
    go_wp2_with fail
    refine (HN1.out _).mono ?_
    rintro e w1 ⟨rfl, rfl⟩
    go_wp2_with fail
    refine (HN2.out _).mono ?_
    rintro e w2 ⟨rfl, rfl⟩
    go_wp2_with fail
    go_ret
    exact ⟨rfl, rfl⟩
  · rw [if_neg h0]
    have h0' : k < 0 := by omega
    go_enter Try.func14, Try.ntmps14
    go_wp2_with fail
    refine (HN1.out _).mono ?_
    rintro e w1 ⟨rfl, rfl⟩
    go_wp2_with fail
    go_ret
    exact ⟨rfl, rfl⟩
set_option maxHeartbeats 4000000 in
set_option maxRecDepth 100000 in
theorem ref_Clash (d : Value) (c0 c1 c2 c3 c4 a b c : Int) (h : Bool) (f : Int → Int → Int → Int → Int → ByteArray) (w : World) (hS : ShP 23 d f w) (hf : (f c0 c1 c2 c3 c4).size ≤ 1000) (ha : isI a) (hb : isI b) (hc : isI c) :
    Calls Try.prog 12 #[d, .agg #[.int .i64 c0, .int .i64 c1, .int .i64 c2, .int .i64 c3, .int .i64 c4, .int .i64 a, .int .i64 b, .int .i64 c, .bool h]] w fun e w' => e = .returned (.string (clashB (f c0 c1 c2 c3 c4) a b c h)) ∧ Kept w w' := by
  have HS := hidMk (show ∀ y, Kept w y → _ from fun y hy => hS y hy c0 c1 c2 c3 c4)
  have HN := hidMk (fun (x : Int) (hx : isI x) (y : World) => ref_Num x hx y)
  have HA := hidMk ha
  have HB := hidMk hb
  have HC := hidMk hc
  have hla := numS_le ha
  have hlb := numS_le hb
  have hlc := numS_le hc
  clear hS ha hb hc
  have hE : clashW ++ spB = ⟨#[99, 108, 97, 115, 104, 32]⟩ := by decide +kernel
  have hH : spB ++ heldW = ⟨#[32, 104, 101, 108, 100]⟩ := by decide +kernel
  have h1 : (⟨#[99, 108, 97, 115, 104, 32]⟩ : ByteArray).size = 6 := rfl
  have h2 : (⟨#[32, 104, 101, 108, 100]⟩ : ByteArray).size = 5 := rfl
  have h3 : spB.size = 1 := rfl
  generalize f c0 c1 c2 c3 c4 = s at *
  have HR : clashB s a b c h = if h then ⟨#[99, 108, 97, 115, 104, 32]⟩ ++ s ++ spB ++ numS a ++ spB ++ numS b ++ spB ++ numS c ++ ⟨#[32, 104, 101, 108, 100]⟩ else ⟨#[99, 108, 97, 115, 104, 32]⟩ ++ s ++ spB ++ numS a ++ spB ++ numS b ++ spB ++ numS c := by
    unfold clashB
    rw [← hE, ← hH]
    simp only [app_assoc]
  rw [HR]
  obtain ⟨r1, e1⟩ : ∃ r, (⟨#[99, 108, 97, 115, 104, 32]⟩ ++ s : ByteArray) = r := ⟨_, rfl⟩
  have z1 := congrArg ByteArray.size e1
  rw [ByteArray.size_append] at z1
  obtain ⟨r2, e2⟩ : ∃ r, r1 ++ spB = r := ⟨_, rfl⟩
  have z2 := congrArg ByteArray.size e2
  rw [ByteArray.size_append] at z2
  obtain ⟨r3, e3⟩ : ∃ r, r2 ++ numS a = r := ⟨_, rfl⟩
  have z3 := congrArg ByteArray.size e3
  rw [ByteArray.size_append] at z3
  obtain ⟨r4, e4⟩ : ∃ r, r3 ++ spB = r := ⟨_, rfl⟩
  have z4 := congrArg ByteArray.size e4
  rw [ByteArray.size_append] at z4
  obtain ⟨r5, e5⟩ : ∃ r, r4 ++ numS b = r := ⟨_, rfl⟩
  have z5 := congrArg ByteArray.size e5
  rw [ByteArray.size_append] at z5
  obtain ⟨r6, e6⟩ : ∃ r, r5 ++ spB = r := ⟨_, rfl⟩
  have z6 := congrArg ByteArray.size e6
  rw [ByteArray.size_append] at z6
  obtain ⟨r7, e7⟩ : ∃ r, r6 ++ numS c = r := ⟨_, rfl⟩
  have z7 := congrArg ByteArray.size e7
  rw [ByteArray.size_append] at z7
  obtain ⟨r8, e8⟩ : ∃ r, (r7 ++ ⟨#[32, 104, 101, 108, 100]⟩ : ByteArray) = r := ⟨_, rfl⟩
  rw [e1, e2, e3, e4, e5, e6, e7, e8]
  have ad1 := addR e1 (by omega)
  have ad2 := addR e2 (by omega)
  have ad3 := addR e3 (by omega)
  have ad4 := addR e4 (by omega)
  have ad5 := addR e5 (by omega)
  have ad6 := addR e6 (by omega)
  have ad7 := addR e7 (by omega)
  have ad8 := addR e8 (by omega)
  clear e1 e2 e3 e4 e5 e6 e7 e8 z1 z2 z3 z4 z5 z6 z7 hla hlb hlc hf HR hE hH h1 h2 h3
  unfold spB at *
  go_enter Try.func12, Try.ntmps12
  go_wp2_with fail
  generalize hW : (w.alloc _) = W
  have x0 : W.cell? ⟨w.heap.size, 0, none⟩ = some (.int .i64 c0) := by rw [← hW]; simp
  have x1 : W.cell? ⟨w.heap.size, 1, none⟩ = some (.int .i64 c1) := by rw [← hW]; simp
  have x2 : W.cell? ⟨w.heap.size, 2, none⟩ = some (.int .i64 c2) := by rw [← hW]; simp
  have x3 : W.cell? ⟨w.heap.size, 3, none⟩ = some (.int .i64 c3) := by rw [← hW]; simp
  have x4 : W.cell? ⟨w.heap.size, 4, none⟩ = some (.int .i64 c4) := by rw [← hW]; simp
  have x5 : W.cell? ⟨w.heap.size, 5, none⟩ = some (.int .i64 a) := by rw [← hW]; simp
  have x6 : W.cell? ⟨w.heap.size, 6, none⟩ = some (.int .i64 b) := by rw [← hW]; simp
  have x7 : W.cell? ⟨w.heap.size, 7, none⟩ = some (.int .i64 c) := by rw [← hW]; simp
  have x8 : W.cell? ⟨w.heap.size, 8, none⟩ = some (.bool h) := by rw [← hW]; simp
  have K0 := hidMk (show Kept w W by rw [← hW]; exact (Kept.refl w).alloc _)
  have HSW := hidMk (show ∀ y, Kept W y → _ from fun y hy => HS.out y (K0.out.trans hy))
  clear hW HS
  go_region_held3 (fun w' => w'.cell? ⟨w.heap.size, 0, none⟩ = some (.int .i64 c0) ∧ w'.cell? ⟨w.heap.size, 1, none⟩ = some (.int .i64 c1) ∧ w'.cell? ⟨w.heap.size, 2, none⟩ = some (.int .i64 c2) ∧ w'.cell? ⟨w.heap.size, 3, none⟩ = some (.int .i64 c3) ∧ w'.cell? ⟨w.heap.size, 4, none⟩ = some (.int .i64 c4) ∧ w'.cell? ⟨w.heap.size, 5, none⟩ = some (.int .i64 a) ∧ w'.cell? ⟨w.heap.size, 6, none⟩ = some (.int .i64 b) ∧ w'.cell? ⟨w.heap.size, 7, none⟩ = some (.int .i64 c)) (first | (refine ⟨?_, ?_, ?_, ?_, ?_, ?_, ?_, ?_⟩ <;> assumption) | (refine ⟨Kept.cellp ?_ x0, Kept.cellp ?_ x1, Kept.cellp ?_ x2, Kept.cellp ?_ x3, Kept.cellp ?_ x4, Kept.cellp ?_ x5, Kept.cellp ?_ x6, Kept.cellp ?_ x7⟩ <;> (repeat (first | (with_reducible exact Kept.refl _) | (with_reducible refine Kept.alloc ?_ _) | (with_reducible refine Kept.drew ?_) | (with_reducible refine Kept.drewN ?_ _) | (with_reducible refine Kept.trans ?_ (by assumption))))) | go_keep)
    (first
      | (go_at_call 23; refine (HSW.out _ (by (repeat (first | (with_reducible exact Kept.refl _) | (with_reducible refine Kept.alloc ?_ _) | (with_reducible refine Kept.drew ?_) | (with_reducible refine Kept.drewN ?_ _) | (with_reducible refine Kept.trans ?_ (by assumption)))))).mono ?_; rintro e y5 ⟨rfl, k5⟩; have X8 := hidMk (Kept.cellp (show Kept W y5 by (repeat (first | (with_reducible exact Kept.refl _) | (with_reducible refine Kept.alloc ?_ _) | (with_reducible refine Kept.drew ?_) | (with_reducible refine Kept.drewN ?_ _) | (with_reducible refine Kept.trans ?_ (by assumption))))) x8))
      | (go_at_call 24; refine (HN.out _ (by first | exact HA.out | exact HB.out | exact HC.out) _).mono ?_; rintro e y8 ⟨rfl, rfl⟩))
  refine gen_world (f := fun W => Exit.then _ _ _ _ W) (fun Z => Kept W Z) (by (repeat (first | (with_reducible exact Kept.refl _) | (with_reducible refine Kept.alloc ?_ _) | (with_reducible refine Kept.drew ?_) | (with_reducible refine Kept.drewN ?_ _) | (with_reducible refine Kept.trans ?_ (by assumption))))) ?_
  rintro w3 k3
  have x8' := k3.cellp x8
  have K3 := hidMk (K0.out.trans k3)
  clear k3 x0 x1 x2 x3 x4 x5 x6 x7 x8
  cases h with
  | false =>
    go_wp2_with fail
    go_ret
    exact ⟨rfl, K3.out⟩
  | true =>
    go_wp2_with fail
    go_ret
    exact ⟨rfl, K3.out⟩
end Go.Proofs.Ytbhojgodkblflaa
