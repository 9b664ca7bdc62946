/- show: a clash. -/
import Derived.Test.YtbhojgodkblflaaSh2
namespace Go.Proofs.Ytbhojgodkblflaa
open Go.RowKit Go.Maps
set_option linter.unusedSimpArgs false
set_option linter.unusedVariables false

set_option maxHeartbeats 4000000 in
set_option maxRecDepth 100000 in
theorem show_Clash (d : Value) (c0 c1 c2 c3 c4 a b c : Int) (h : Bool) (f : Int → Int → Int → Int → Int → ByteArray) (w : World) (hS : ShP 20 d f w) (hf : (f c0 c1 c2 c3 c4).size ≤ 1000) (ha : isI a) (hb : isI b) (hc : isI c) :
    Calls Try.prog 11 #[d, .agg #[.int .i64 c0, .int .i64 c1, .int .i64 c2, .int .i64 c3, .int .i64 c4, .int .i64 a, .int .i64 b, .int .i64 c, .bool h]] w fun e w' => e = .returned (.string (clashB (f c0 c1 c2 c3 c4) a b c h)) ∧ Kept w w' := by
  have HS := hidMk (show ∀ y, Kept w y → _ from fun y hy => hS y hy c0 c1 c2 c3 c4)
  have HN := hidMk (fun (x : Int) (hx : isI x) (y : World) => text_Num x hx y)
  have HA := hidMk ha
  have HB := hidMk hb
  have HC := hidMk hc
  have hla := numS_le ha
  have hlb := numS_le hb
  have hlc := numS_le hc
  have HW5 := hidMk (fun (xa : Option Addr) (xc : Nat) (w : World) (hs : Ss w xa 5 [clashW, f c0 c1 c2 c3 c4, numS a, numS b, numS c]) (hc : 5 ≤ xc) => show_words xa 5 xc _ w hs hc (by omega) (by rw [joinB5]; simp only [ByteArray.size_append]; have h1 : spB.size = 1 := rfl; have h2 : clashW.size = 5 := rfl; omega))
  have HW6 := hidMk (fun (xa : Option Addr) (xc : Nat) (w : World) (hs : Ss w xa 6 ([clashW, f c0 c1 c2 c3 c4, numS a, numS b, numS c] ++ [heldW])) (hc : 6 ≤ xc) => show_words xa 6 xc _ w hs hc (by omega) (by show (joinB spB [clashW, f c0 c1 c2 c3 c4, numS a, numS b, numS c, heldW]).size ≤ _; rw [joinB6]; simp only [ByteArray.size_append]; have h1 : spB.size = 1 := rfl; have h2 : clashW.size = 5 := rfl; have h3 : heldW.size = 4 := rfl; omega))
  rw [joinB5] at HW5
  have HJ6 := hidMk (show joinB spB ([clashW, f c0 c1 c2 c3 c4, numS a, numS b, numS c] ++ [heldW]) = _ from joinB6 clashW (f c0 c1 c2 c3 c4) (numS a) (numS b) (numS c) heldW)
  rw [HJ6.out] at HW6
  have HE1 := hidMk (show clashB (f c0 c1 c2 c3 c4) a b c true = _ from if_pos rfl)
  have HE0 := hidMk (show clashB (f c0 c1 c2 c3 c4) a b c false = _ from if_neg (by decide))
  rw [← HE1.out] at HW6
  rw [← HE0.out] at HW5
  clear hS hf ha hb hc hla hlb hlc HE1 HE0 HJ6
  generalize hr1 : clashB (f c0 c1 c2 c3 c4) a b c true = r1 at *
  generalize hr0 : clashB (f c0 c1 c2 c3 c4) a b c false = r0 at *
  have HR := hidMk (show clashB (f c0 c1 c2 c3 c4) a b c h = if h then r1 else r0 by cases h <;> simp [hr1, hr0])
  rw [HR.out]
  clear HR hr1 hr0
  generalize f c0 c1 c2 c3 c4 = s at *
  unfold clashW heldW at *
  go_enter Try.func11, Try.ntmps11
  go_wp2_with fail
  generalize hW : (w.alloc _) = W
  have x0 : W.cell? ⟨w.heap.size, 0, none⟩ = some (.int .i64 c0) := by rw [← hW]; simp
  have x1 : W.cell? ⟨w.heap.size, 1, none⟩ = some (.int .i64 c1) := by rw [← hW]; simp
  have x2 : W.cell? ⟨w.heap.size, 2, none⟩ = some (.int .i64 c2) := by rw [← hW]; simp
  have x3 : W.cell? ⟨w.heap.size, 3, none⟩ = some (.int .i64 c3) := by rw [← hW]; simp
  have x4 : W.cell? ⟨w.heap.size, 4, none⟩ = some (.int .i64 c4) := by rw [← hW]; simp
  have x5 : W.cell? ⟨w.heap.size, 5, none⟩ = some (.int .i64 a) := by rw [← hW]; simp
  have x6 : W.cell? ⟨w.heap.size, 6, none⟩ = some (.int .i64 b) := by rw [← hW]; simp
  have x7 : W.cell? ⟨w.heap.size, 7, none⟩ = some (.int .i64 c) := by rw [← hW]; simp
  have x8 : W.cell? ⟨w.heap.size, 8, none⟩ = some (.bool h) := by rw [← hW]; simp
  have K0 := hidMk (show Kept w W by rw [← hW]; exact (Kept.refl w).alloc _)
  have HSW := hidMk (show ∀ y, Kept W y → _ from fun y hy => HS.out y (K0.out.trans hy))
  clear hW HS
  go_region_held3 (fun w' => w'.cell? ⟨w.heap.size, 0, none⟩ = some (.int .i64 c0) ∧ w'.cell? ⟨w.heap.size, 1, none⟩ = some (.int .i64 c1) ∧ w'.cell? ⟨w.heap.size, 2, none⟩ = some (.int .i64 c2) ∧ w'.cell? ⟨w.heap.size, 3, none⟩ = some (.int .i64 c3) ∧ w'.cell? ⟨w.heap.size, 4, none⟩ = some (.int .i64 c4) ∧ w'.cell? ⟨w.heap.size, 5, none⟩ = some (.int .i64 a) ∧ w'.cell? ⟨w.heap.size, 6, none⟩ = some (.int .i64 b) ∧ w'.cell? ⟨w.heap.size, 7, none⟩ = some (.int .i64 c)) (first | (refine ⟨?_, ?_, ?_, ?_, ?_, ?_, ?_, ?_⟩ <;> assumption) | (refine ⟨Kept.cellp ?_ x0, Kept.cellp ?_ x1, Kept.cellp ?_ x2, Kept.cellp ?_ x3, Kept.cellp ?_ x4, Kept.cellp ?_ x5, Kept.cellp ?_ x6, Kept.cellp ?_ x7⟩ <;> (repeat (first | (with_reducible exact Kept.refl _) | (with_reducible refine Kept.alloc ?_ _) | (with_reducible refine Kept.drew ?_) | (with_reducible refine Kept.drewN ?_ _) | (with_reducible refine Kept.trans ?_ (by assumption))))) | go_keep)
    (first
      | (go_at_call 20; refine (HSW.out _ (by (repeat (first | (with_reducible exact Kept.refl _) | (with_reducible refine Kept.alloc ?_ _) | (with_reducible refine Kept.drew ?_) | (with_reducible refine Kept.drewN ?_ _) | (with_reducible refine Kept.trans ?_ (by assumption)))))).mono ?_; rintro e y5 ⟨rfl, k5⟩)
      | (go_at_call 22; refine (HN.out _ (by first | exact HA.out | exact HB.out | exact HC.out) _).mono ?_; rintro e y8 ⟨rfl, k8⟩))
  refine gen_world (f := fun W => Exit.then _ _ _ _ W) (fun Z => OwnS Z y8.heap.size (.slice (some ⟨y8.heap.size, 0, none⟩) 5 5) [⟨#[99, 108, 97, 115, 104]⟩, s, numS a, numS b, numS c] ∧ Kept W Z) ⟨by first | exact World.ownsRow_lit y8 #[.string ⟨#[99, 108, 97, 115, 104]⟩, .string s, .string (numS a), .string (numS b), .string (numS c)] 5 (Nat.le_refl _) (by decide) rfl | exact World.ownsRow.drew (World.ownsRow_lit y8 #[.string ⟨#[99, 108, 97, 115, 104]⟩, .string s, .string (numS a), .string (numS b), .string (numS c)] 5 (Nat.le_refl _) (by decide) rfl), by (repeat (first | (with_reducible exact Kept.refl _) | (with_reducible refine Kept.alloc ?_ _) | (with_reducible refine Kept.drew ?_) | (with_reducible refine Kept.drewN ?_ _) | (with_reducible refine Kept.trans ?_ (by assumption))))⟩ ?_
  rintro w3 ⟨o3, k3⟩
  have x8' := k3.cellp x8
  have O3 := hidMk o3
  have K3 := hidMk (K0.out.trans k3)
  have HZ := hidMk (show w.heap.size ≤ y8.heap.size from Nat.le_trans K0.out.size (Below.size (show Kept W y8 by (repeat (first | (with_reducible exact Kept.refl _) | (with_reducible refine Kept.alloc ?_ _) | (with_reducible refine Kept.drew ?_) | (with_reducible refine Kept.drewN ?_ _) | (with_reducible refine Kept.trans ?_ (by assumption)))))))
  have HZ3 := hidMk (show y8.heap.size ≤ w3.heap.size from Nat.le_of_lt (o3.lt _ rfl).2)
  clear o3 k3 x0 x1 x2 x3 x4 x5 x6 x7 x8
  cases h with
  | false =>
    obtain ⟨_, _, hva, hss, _⟩ := own_ss (by simp; unfold maxLen; omega) O3.out
    simp only [Value.slice.injEq] at hva
    obtain ⟨rfl, _, rfl⟩ := hva
    have HWQ := hidMk (HW5.out _ 5 _ hss (by omega))
    clear hss
    go_wp2_with fail
    refine HWQ.out.mono ?_
    rintro e w6 ⟨rfl, k6⟩
    have K6 := hidMk k6
    clear k6
    go_wp2_with fail
    go_ret
    exact ⟨rfl, K3.out.trans K6.out⟩
  | true =>
    go_wp2_with (at_builtin; refine wpList_catS _ rfl _ _ rfl y8.heap.size _ [⟨#[99, 108, 97, 115, 104]⟩, s, numS a, numS b, numS c] rfl (O3.out.kept ((Kept.refl _).alloc _)) ?c1 _ 1 1 [⟨#[104, 101, 108, 100]⟩] rfl (one_ssS ?c2) (by omega) (by simp) _ rfl ?_)
    case c1 => simp; have h1 := HZ3.out; omega
    case c2 => simp
    intro g' cap w5 o5 c5 _ _
    have K5 := hidMk (show Kept w w5 from c5.kept (K3.out.alloc _) (fun t ht => by have h1 := (O3.out.lt t ht).1; have h2 := HZ.out; omega))
    have hcap := own_cap o5
    obtain ⟨_, _, hva, hss, _⟩ := own_ss (by simp; unfold maxLen; omega) o5
    simp only [Value.slice.injEq] at hva
    obtain ⟨rfl, _, rfl⟩ := hva
    have HWQ := hidMk (HW6.out _ _ _ hss (by simpa using hcap))
    clear o5 c5 hcap hss
    go_wp2_with fail
    refine HWQ.out.mono ?_
    rintro e w6 ⟨rfl, k6⟩
    have K6 := hidMk k6
    clear k6
    go_wp2_with fail
    go_ret
    exact ⟨rfl, K5.out.trans K6.out⟩
end Go.Proofs.Ytbhojgodkblflaa
