/- show: a lock, an error, a clash. -/
import Derived.Test.YtbhojgodkblflaaSh1
import Derived.Deep.MidRow
namespace Go.Proofs.Ytbhojgodkblflaa
open Go.RowKit Go.Maps
set_option linter.unusedSimpArgs false
set_option linter.unusedVariables false

theorem wpList_catS {ops : Array Oper} {rest : List Oper} {o : Oper} {a : Act} {Q : Exit → Act → World → Prop} (w : World) (hgd : o.guard = none) (s x : Operand)
    (ho : o.op = .call { callee := .builtin .append, args := #[s, x], argTypes := #[23, 23] })
    (B : Nat) (v : Value) (l : List ByteArray) (hs : a.eval s = v) (hv : OwnS w B v l) (hB : B ≤ w.heap.size) (xa : Option Addr) (m c : Nat) (ys : List ByteArray) (hx : a.eval x = .slice xa m c) (hy : Ss w xa m ys) (hm : 0 < m)
    (h47 : (l.length + m) * 16 ≤ 140737488355328) (H : Nat) (hH : w.heap.size = H)
    (h : ∀ g' cap w', OwnS w' B (.slice (some ⟨g', 0, none⟩) (l.length + m) cap) (l ++ ys) → Chg (fun k => v.ownBlock = some k) w w' → (v.ownBlock = some g' ∨ g' = H) → g' < w'.heap.size → wpList Try.prog ops Q rest (a.put o.dst (.slice (some ⟨g', 0, none⟩) (l.length + m) cap)) w') : wpList Try.prog ops Q (o :: rest) a w := by
  obtain ⟨i0, hi0, hz0, hz1, hz2⟩ := sinfo
  obtain ⟨b, ofs, rfl, _, hc⟩ := hy.cells hm
  have hl := hy.len
  refine wpList_append_lies w hgd s x 23 ho B 9 i0 (.string ⟨#[]⟩) 1 16 Try.underlying23 hi0 hz0 hz1 hz2 rfl (by decide) v _ _ hs hv ⟨b, ofs, none⟩ m c (ys.map .string) hx (by simp [hl]) (fun j u hu => ?_) (fun u hu => ?_) hm (by unfold maxLen; omega) (by omega) hB H hH ?_
  · obtain ⟨y, hy1, rfl⟩ : ∃ y, ys[j]? = some y ∧ Value.string y = u := by
      rw [List.getElem?_map] at hu
      cases hq : ys[j]? with
      | none => rw [hq] at hu; cases hu
      | some y => rw [hq] at hu; exact ⟨y, rfl, by simpa using hu⟩
    have hj : j < ys.length := (List.getElem?_eq_some_iff.1 hy1).1
    have := hc j (by omega)
    rw [List.getD_eq_getElem?_getD, hy1] at this
    rw [Addr.add_mid]; exact this
  · obtain ⟨y, _, rfl⟩ := List.mem_map.1 hu
    rfl
  · intro g' cap w' h2 h3 h4 h5
    refine h g' cap w' ?_ ((Chg.refl _ w).grown h3 (fun k hk => .inl hk)) h4 h5
    unfold OwnS
    rw [List.length_append, hl, List.map_append]
    exact h2
theorem one_ssS {w : World} {g : Nat} {s : ByteArray} (h1 : w.cell? ⟨g, 0, none⟩ = some (.string s)) : Ss w (some ⟨g, 0, none⟩) 1 [s] := ss_lit rfl (by omega) (fun i hi => by
  have : i = 0 := by omega
  subst this; exact h1)
theorem two_ssS {w : World} {g : Nat} {s t : ByteArray} (h1 : w.cell? ⟨g, 0, none⟩ = some (.string s)) (h2 : w.cell? ⟨g, 1, none⟩ = some (.string t)) : Ss w (some ⟨g, 0, none⟩) 2 [s, t] := ss_lit rfl (by omega) (fun i hi => by
  have : i = 0 ∨ i = 1 := by omega
  rcases this with rfl | rfl <;> assumption)
set_option maxHeartbeats 2000000 in
set_option maxRecDepth 100000 in
theorem show_Lock (d : Value) (c0 c1 c2 c3 c4 : Int) (u : ByteArray) (f : Int → Int → Int → Int → Int → ByteArray) (w : World) (hS : ShP 20 d f w) (hf : (f c0 c1 c2 c3 c4).size ≤ 1000) (hu : u.size ≤ 140737488351232) :
    Calls Try.prog 9 #[d, .agg #[.int .i64 c0, .int .i64 c1, .int .i64 c2, .int .i64 c3, .int .i64 c4, .string u]] w fun e w' => e = .returned (.string (lockB (f c0 c1 c2 c3 c4) u)) ∧ Kept w w' := by
  have HS := hidMk (show ∀ y, Kept w y → _ from fun y hy => hS y hy c0 c1 c2 c3 c4)
  have HW := hidMk (words2 (f c0 c1 c2 c3 c4) u (by omega))
  have HE := hidMk (show lockB (f c0 c1 c2 c3 c4) u = f c0 c1 c2 c3 c4 ++ spB ++ u from rfl)
  rw [HE.out]
  clear hS hf hu HE
  generalize (f c0 c1 c2 c3 c4 ++ spB ++ u) = r at *
  generalize hs : f c0 c1 c2 c3 c4 = s at *
  clear hs
  go_enter Try.func9, Try.ntmps9
  go_wp2_with fail
  generalize hW : (w.alloc _) = W
  have x0 : W.cell? ⟨w.heap.size, 0, none⟩ = some (.int .i64 c0) := by rw [← hW]; simp
  have x1 : W.cell? ⟨w.heap.size, 1, none⟩ = some (.int .i64 c1) := by rw [← hW]; simp
  have x2 : W.cell? ⟨w.heap.size, 2, none⟩ = some (.int .i64 c2) := by rw [← hW]; simp
  have x3 : W.cell? ⟨w.heap.size, 3, none⟩ = some (.int .i64 c3) := by rw [← hW]; simp
  have x4 : W.cell? ⟨w.heap.size, 4, none⟩ = some (.int .i64 c4) := by rw [← hW]; simp
  have x5 : W.cell? ⟨w.heap.size, 5, none⟩ = some (.string u) := by rw [← hW]; simp
  have K0 := hidMk (show Kept w W by rw [← hW]; exact (Kept.refl w).alloc _)
  have HSW := hidMk (show ∀ y, Kept W y → _ from fun y hy => HS.out y (K0.out.trans hy))
  clear hW HS
  go_region_held3 (fun w' => w'.cell? ⟨w.heap.size, 0, none⟩ = some (.int .i64 c0) ∧ w'.cell? ⟨w.heap.size, 1, none⟩ = some (.int .i64 c1) ∧ w'.cell? ⟨w.heap.size, 2, none⟩ = some (.int .i64 c2) ∧ w'.cell? ⟨w.heap.size, 3, none⟩ = some (.int .i64 c3) ∧ w'.cell? ⟨w.heap.size, 4, none⟩ = some (.int .i64 c4) ∧ w'.cell? ⟨w.heap.size, 5, none⟩ = some (.string u)) (first | (refine ⟨?_, ?_, ?_, ?_, ?_, ?_⟩ <;> assumption) | (refine ⟨Kept.cellp ?_ x0, Kept.cellp ?_ x1, Kept.cellp ?_ x2, Kept.cellp ?_ x3, Kept.cellp ?_ x4, Kept.cellp ?_ x5⟩ <;> (repeat (first | (with_reducible exact Kept.refl _) | (with_reducible refine Kept.alloc ?_ _) | (with_reducible refine Kept.drew ?_) | (with_reducible refine Kept.drewN ?_ _) | (with_reducible refine Kept.trans ?_ (by assumption))))) | go_keep)
    (first
      | (go_at_call 20; refine (HSW.out _ (by (repeat (first | (with_reducible exact Kept.refl _) | (with_reducible refine Kept.alloc ?_ _) | (with_reducible refine Kept.drew ?_) | (with_reducible refine Kept.drewN ?_ _) | (with_reducible refine Kept.trans ?_ (by assumption)))))).mono ?_; rintro e y5 ⟨rfl, k5⟩)
      | (go_at_call 21; refine (HW.out _ _ (by simp) (by simp)).mono ?_; rintro e y7 ⟨rfl, k7⟩; have K7 := hidMk (show Kept W y7 by (repeat (first | (with_reducible exact Kept.refl _) | (with_reducible refine Kept.alloc ?_ _) | (with_reducible refine Kept.drew ?_) | (with_reducible refine Kept.drewN ?_ _) | (with_reducible refine Kept.trans ?_ (by assumption)))))))
  go_wp2_with fail
  go_ret
  exact ⟨rfl, K0.out.trans (by first | exact K7.out | exact K7.out.drew | exact K7.out.drewN _)⟩
set_option maxHeartbeats 2000000 in
set_option maxRecDepth 100000 in
theorem show_Wrong (why k : Int) (w : World) (hw : isI why) (hk : isI k) :
    Calls Try.prog 13 #[.int .i64 why, .int .i64 k] w fun e w' => e = .returned (.string (wrongB why k)) ∧ Kept w w' := by
  have hl1 := numS_le hw
  have hl2 := numS_le hk
  have HN1 := hidMk (text_Num why hw)
  have HN2 := hidMk (text_Num k hk)
  unfold wrongB
  have HW4 := hidMk (fun (a : Option Addr) (c : Nat) (w : World) (hs : Ss w a 4 [errorW, numS why, atW, numS k]) (hc : 4 ≤ c) => show_words a 4 c _ w hs hc (by omega) (by rw [joinB4]; simp only [ByteArray.size_append]; have h1 : spB.size = 1 := rfl; have h2 : errorW.size = 5 := rfl; have h3 : atW.size = 2 := rfl; omega))
  have HW2 := hidMk (words2 errorW (numS why) (by have h2 : errorW.size = 5 := rfl; omega))
  rw [joinB4] at HW4
  clear hl1 hl2 hw hk
  by_cases h0 : 0 ≤ k
  · rw [if_pos h0]
    generalize (errorW ++ spB ++ numS why ++ spB ++ atW ++ spB ++ numS k) = r at *
    generalize numS why = a at *
    generalize numS k = b at *
    clear HW2
    have h0' : 0 ≤ k := h0
    unfold errorW atW at *
    go_enter Try.func13, Try.ntmps13
    go_wp2_with fail
    refine (HN1.out _).mono ?_
    rintro e w1 ⟨rfl, k1⟩
    have K1 := hidMk k1
    clear k1
    go_wp2_with fail
    have k3 : Kept w1 (w1.alloc (.cells #[.string ⟨#[101, 114, 114, 111, 114]⟩, .string a] 9)) := (Kept.refl w1).alloc _
    have o3 : OwnS (w1.alloc (.cells #[.string ⟨#[101, 114, 114, 111, 114]⟩, .string a] 9)) w1.heap.size (.slice (some ⟨w1.heap.size, 0, none⟩) 2 2) [⟨#[101, 114, 114, 111, 114]⟩, a] := World.ownsRow_lit w1 #[.string ⟨#[101, 114, 114, 111, 114]⟩, .string a] 2 (Nat.le_refl _) (by decide) rfl
    generalize (w1.alloc (.cells #[.string ⟨#[101, 114, 114, 111, 114]⟩, .string a] 9)) = w3 at *
    have O3 := hidMk o3
    have K3 := hidMk (K1.out.trans k3)
    have HZ := hidMk k3.size
    clear o3 k3
    refine (HN2.out _).mono ?_
    rintro e w4 ⟨rfl, k4⟩
    have K4 := hidMk k4
    clear k4
    go_wp2_with (at_builtin; refine wpList_catS _ rfl _ _ rfl w1.heap.size _ [⟨#[101, 114, 114, 111, 114]⟩, a] rfl ((O3.out.kept K4.out).kept ((Kept.refl _).alloc _)) ?c1 _ 2 2 [⟨#[97, 116]⟩, b] rfl (two_ssS ?c2 ?c3) (by omega) (by simp) _ rfl ?_)
    case c1 => simp; have h1 := HZ.out; have h2 := K4.out.size; omega
    case c2 => simp
    case c3 => simp
    intro g' cap w5 o5 c5 _ _
    have K5 := hidMk (show Kept w w5 from c5.kept ((K3.out.trans K4.out).alloc _) (fun t ht => by have h1 := (O3.out.lt t ht).1; have h2 := K1.out.size; omega))
    have hcap := own_cap o5
    obtain ⟨_, _, hva, hss, _⟩ := own_ss (by simp; unfold maxLen; omega) o5
    simp only [Value.slice.injEq] at hva
    obtain ⟨rfl, _, rfl⟩ := hva
    have HWQ := hidMk (HW4.out _ _ _ hss (by simpa using hcap))
    clear o5 c5 hcap hss
    go_wp2_with fail
    refine HWQ.out.mono ?_
    rintro e w6 ⟨rfl, k6⟩
    have K6 := hidMk k6
    clear k6
    go_wp2_with fail
    go_ret
    exact ⟨rfl, K5.out.trans K6.out⟩
  · rw [if_neg h0]
    generalize (errorW ++ spB ++ numS why) = r at *
    generalize numS why = a at *
    clear HW4
    have h0' : k < 0 := by omega
    unfold errorW at *
    go_enter Try.func13, Try.ntmps13
    go_wp2_with fail
    refine (HN1.out _).mono ?_
    rintro e w1 ⟨rfl, k1⟩
    have K1 := hidMk k1
    clear k1
    go_wp2_with fail
    refine (HW2.out _ _ ?_ ?_).mono ?_
    · simp
    · simp
    rintro e w2 ⟨rfl, k2⟩
    have K2 := hidMk k2
    clear k2
    go_wp2_with fail
    go_ret
    exact ⟨rfl, (K1.out.alloc _).trans K2.out⟩
end Go.Proofs.Ytbhojgodkblflaa
