/- ShowReplies. -/
import Derived.Test.YtbhojgodkblflaaShA
import Derived.Test.YtbhojgodkblflaaSh8
import Derived.Test.YtbhojgodkblflaaFrSh2
import Derived.Deep.RegionHeld3
import Derived.Deep.DeepMust
namespace Go.Proofs.Ytbhojgodkblflaa
open Go.RowKit Go.Maps
set_option linter.unusedSimpArgs false
set_option linter.unusedVariables false

def errB : ByteArray := ⟨#[101, 114, 114, 111, 114, 32]⟩
def lstB (l : List ByteArray) : ByteArray := l.getD (l.length - 1) ByteArray.empty
theorem lst_app (l : List ByteArray) (x : ByteArray) : lstB (l ++ [x]) = x := by
  unfold lstB
  rw [List.length_append, List.getD_eq_getElem?_getD, List.getElem?_append_right (by simp)]
  simp
theorem numS_pos' (x : Int) : 0 < (numS x).size := by
  unfold numS
  rw [str_size]
  unfold numL
  split
  · simp
  · exact digs_pos _
theorem byt_ext (s : ByteArray) : byt (s.extract 0 6) = (byt s).take 6 := by
  unfold byt
  rw [ByteArray.data_extract, Array.toList_extract, ← List.map_take]
  simp [List.extract]
theorem errB_byt : byt errB = [101, 114, 114, 111, 114, 32] := by decide +kernel
theorem wrong_err (why : Int) : 6 < (wrongB why (-1)).size ∧ (wrongB why (-1)).extract 0 6 = errB := by
  have he : errorW ++ spB = errB := by decide +kernel
  have h : wrongB why (-1) = errB ++ numS why := by unfold wrongB; rw [if_neg (by omega), he]
  have hs : errB.size = 6 := rfl
  rw [h]
  refine ⟨by rw [ByteArray.size_append]; have := numS_pos' why; omega, byt_inj ?_⟩
  have ha : byt (errB ++ numS why) = byt errB ++ byt (numS why) := by
    unfold byt
    rw [ByteArray.data_append, Array.toList_append, List.map_append]
  rw [byt_ext, ha, errB_byt]
  rfl
theorem num_noerr (x : Int) : (numS x).extract 0 6 ≠ errB := by
  intro e
  have h := congrArg byt e
  rw [byt_ext, numS_byt, errB_byt] at h
  unfold numL at h
  split at h
  · simp at h
  · cases hd : digs x.toNat with
    | nil => have := digs_pos x.toNat; rw [hd] at this; simp at this
    | cons y r =>
      have h1 := digs_dig x.toNat y (by rw [hd]; simp)
      rw [hd] at h
      simp at h
      omega
/-- The last line begins with error just if there is one. -/
theorem reply_last {f : CF} {kind why n : Int} {names : List ByteArray} {rn : Nat} {rows : Nat → Ch} {ln : Nat} {locks : Nat → Lo} {cn : Nat} {cls : Nat → Cs} (LL : List ByteArray) (h : replyL f kind why n names rn rows ln locks cn cls = LL) :
    0 < LL.length ∧ ((why ≠ 0 ∧ 6 < (lstB LL).size ∧ (lstB LL).extract 0 6 = errB) ∨ (why = 0 ∧ (lstB LL).size ≤ 6) ∨ (why = 0 ∧ 6 < (lstB LL).size ∧ (lstB LL).extract 0 6 ≠ errB)) := by
  subst h
  unfold replyL
  by_cases h0 : why ≠ 0
  · rw [if_pos h0]
    refine ⟨by simp, .inl ⟨h0, ?_⟩⟩
    rw [lst_app]
    exact wrong_err why
  · rw [if_neg h0]
    have h0' : why = 0 := by simpa using h0
    by_cases h1 : kind = 11 ∨ kind = 12
    · rw [if_pos h1]
      refine ⟨by simp, .inr ?_⟩
      have : lstB [numS n] = numS n := rfl
      rw [this]
      by_cases h2 : (numS n).size ≤ 6
      · exact .inl ⟨h0', h2⟩
      · exact .inr ⟨h0', by omega, num_noerr n⟩
    · rw [if_neg h1]
      refine ⟨by simp, .inr (.inl ⟨h0', ?_⟩)⟩
      rw [lst_app]
      decide
set_option maxHeartbeats 8000000 in
set_option maxRecDepth 100000 in
theorem law_ShowReplies (ca : Option Addr) (n c : Nat) (ds : List Dm) (na : Nat → Option Addr × Nat × Nat) (ba : Option Addr) (m d : Nat) (ms : List ByteArray) (lv sc kind : Int) (x : Rp) (w : World) (hs : Dss w ca n ds na) (hm : Ss w ba m ms) (hmz : ∀ i, i < ms.length → (msA ms i).size ≤ maxLen) (hx : RpK w x) :
    Calls Try.prog 4 #[.agg #[.slice ca n c, .slice ba m d, .int .i64 lv, .int .i64 sc], .int .i64 kind, .agg x.F.toArray] w fun e w' => e = .returned (.bool true) ∧ Kept w w' := by
  obtain ⟨why, rn_, na2, nn, nc, names, ra, rn, rc, rows, la, ln, lc, locks, ka, kn, kc, cls⟩ := x
  obtain ⟨hin, hok⟩ := hx
  dsimp only at hin hok
  unfold Rp.F
  dsimp only
  have HKN := hidMk law30_known
  have HOP := hidMk (show ∀ y, Kept w y → _ from fun y hy => law30_open ca n c ds na ba m d ms lv sc y (hs.kept hy) (hm.kept hy) hmz)
  have HIN := hidMk hin
  have HOK := hidMk hok
  have hb1 := hin.n.big
  have hb2 := hin.r.big
  have hb3 := hin.l.big
  have hb4 := hin.c.big
  unfold maxLen at hb1 hb2 hb3 hb4
  clear hs hm hmz hin hok
  go_enter Try.func4, Try.ntmps4
  go_wp2_with fail
  refine (HOP.out _ (((Kept.refl w).alloc _).alloc _)).mono ?_
  rintro e w1 ⟨⟨rfl, hns⟩ | ⟨pd, pq, at_, er, rfl, hc, hp, hq, hf⟩, k1⟩
  · have K1 := hidMk (show Kept w w1 from (((Kept.refl w).alloc _).alloc _).trans k1)
    clear k1 hns
    go_wp2_with fail
    refine (HKN.out _).mono ?_
    rintro e w2 ⟨rfl, k2⟩
    have K2 := hidMk k2
    clear k2
    go_wp2_with fail
    go_ret
    exact ⟨rfl, K1.out.trans K2.out⟩
  have z0 : w1.cell? ⟨w.heap.size + 1, 0, none⟩ = some (.int .i64 why) := k1.cellp (new_cell _ _ _ _ _ _ (by simp) rfl)
  have z1 : w1.cell? ⟨w.heap.size + 1, 1, none⟩ = some (.int .i64 rn_) := k1.cellp (new_cell _ _ _ _ _ _ (by simp) rfl)
  have z2 : w1.cell? ⟨w.heap.size + 1, 2, none⟩ = some (.slice na2 nn nc) := k1.cellp (new_cell _ _ _ _ _ _ (by simp) rfl)
  have z3 : w1.cell? ⟨w.heap.size + 1, 3, none⟩ = some (.slice ra rn rc) := k1.cellp (new_cell _ _ _ _ _ _ (by simp) rfl)
  have z4 : w1.cell? ⟨w.heap.size + 1, 4, none⟩ = some (.slice la ln lc) := k1.cellp (new_cell _ _ _ _ _ _ (by simp) rfl)
  have z5 : w1.cell? ⟨w.heap.size + 1, 5, none⟩ = some (.slice ka kn kc) := k1.cellp (new_cell _ _ _ _ _ _ (by simp) rfl)
  have K1 := hidMk (show Kept w w1 from (((Kept.refl w).alloc _).alloc _).trans k1)
  clear k1 HOP hc
  by_cases h1 : 50 < nn
  · have g1 : (50 : Int) < nn := by omega
    clear hp hq hf
    go_wp2_with fail
    refine (HKN.out _).mono ?_
    rintro e w2 ⟨rfl, k2⟩
    have K2 := hidMk k2
    clear k2
    go_wp2_with fail
    go_ret
    exact ⟨rfl, K1.out.trans K2.out⟩
  have g1 : ¬ ((50 : Int) < nn) := by omega
  by_cases h2 : 50 < rn
  · have g2 : (50 : Int) < rn := by omega
    clear hp hq hf
    go_wp2_with fail
    refine (HKN.out _).mono ?_
    rintro e w2 ⟨rfl, k2⟩
    have K2 := hidMk k2
    clear k2
    go_wp2_with fail
    go_ret
    exact ⟨rfl, K1.out.trans K2.out⟩
  have g2 : ¬ ((50 : Int) < rn) := by omega
  by_cases h3 : 50 < ln
  · have g3 : (50 : Int) < ln := by omega
    clear hp hq hf
    go_wp2_with fail
    refine (HKN.out _).mono ?_
    rintro e w2 ⟨rfl, k2⟩
    have K2 := hidMk k2
    clear k2
    go_wp2_with fail
    go_ret
    exact ⟨rfl, K1.out.trans K2.out⟩
  have g3 : ¬ ((50 : Int) < ln) := by omega
  by_cases h4 : 50 < kn
  · have g4 : (50 : Int) < kn := by omega
    clear hp hq hf
    go_wp2_with fail
    refine (HKN.out _).mono ?_
    rintro e w2 ⟨rfl, k2⟩
    have K2 := hidMk k2
    clear k2
    go_wp2_with fail
    go_ret
    exact ⟨rfl, K1.out.trans K2.out⟩
  have g4 : ¬ ((50 : Int) < kn) := by omega
  generalize fC er ms ds = f at *
  obtain ⟨LL, hLL⟩ : ∃ LL, replyL f kind why rn_ names rn rows ln locks kn cls = LL := ⟨_, rfl⟩
  have HP1 := hidMk (show ∀ y, Kept w1 y → _ from fun y hy => show_Reply hf pd kind why rn_ na2 nn nc names ra rn rc rows la ln lc locks ka kn kc cls y (hp.kept hy) (HIN.out.kept (K1.out.trans hy)) HOK.out (by omega) (by omega) (by omega) (by omega))
  have HP2 := hidMk (show ∀ y, Kept w1 y → _ from fun y hy => ref_Reply hf (.pointer pq) kind why rn_ na2 nn nc names ra rn rc rows la ln lc locks ka kn kc cls y (hq.kept hy) (HIN.out.kept (K1.out.trans hy)) HOK.out (by omega) (by omega) (by omega) (by omega))
  rw [hLL] at HP1 HP2
  obtain ⟨hlp, hlast⟩ := reply_last LL hLL
  have hl50 : LL.length ≤ 100 := by
    rw [← hLL]
    unfold replyL midL
    have l1 := lnL_len (rwB f kind rows) rn
    have l2 := lnL_len (lkB f locks) ln
    have l3 := lnL_len (clB f cls) kn
    have l4 := HIN.out.n.len
    repeat' split
    all_goals simp only [List.length_append, List.length_cons, List.length_nil, l1, l2, l3, l4]
    all_goals omega
  have HLast := hidMk hlast
  clear hp hq hf hLL hlast h1 h2 h3 h4
  go_wp2_with fail
  refine (HP1.out _ (Kept.refl _)).mono ?_
  rintro e w2 ⟨v2, rfl, o2, k2⟩
  have K2 := hidMk k2
  obtain ⟨a2, c2, rfl, s2, _⟩ := own_ss (by unfold maxLen; omega) o2
  have S2 := hidMk s2
  have y0 := k2.cellp z0
  have y1 := k2.cellp z1
  have y2 := k2.cellp z2
  have y3 := k2.cellp z3
  have y4 := k2.cellp z4
  have y5 := k2.cellp z5
  clear k2 o2 s2 z0 z1 z2 z3 z4 z5
  go_wp2_with fail
  refine (HP2.out _ K2.out).mono ?_
  rintro e w3 ⟨v3, rfl, o3, k3⟩
  have K3 := hidMk k3
  obtain ⟨a3, c3, rfl, s3, _⟩ := own_ss (by unfold maxLen; omega) o3
  have HSM := hidMk (ref3_Same a2 a3 LL.length c2 c3 LL w3 (S2.out.kept k3) s3)
  have x0 := k3.cellp y0
  clear k3 o3 s3 y0 y1 y2 y3 y4 y5
  go_wp2_with fail
  refine HSM.out.mono ?_
  rintro e w4 ⟨rfl, k4⟩
  have K4 := hidMk k4
  obtain ⟨b4, o4, rfl, _, hc4⟩ := (S2.out.kept (K3.out.trans k4)).cells hlp
  have hl4 := hc4 (LL.length - 1) (by omega)
  have u0 := k4.cellp x0
  have KK := hidMk (K1.out.trans (K2.out.trans (K3.out.trans K4.out)))
  clear k4 hc4 x0 HSM HP1 HP2
  obtain ⟨q, hq⟩ : ∃ q : Nat, LL.length = q + 1 := ⟨LL.length - 1, by omega⟩
  have HLS := hidMk (show LL.getD (LL.length - 1) ByteArray.empty = lstB LL from rfl)
  rw [HLS.out] at hl4
  rw [hq] at hl4 ⊢
  rw [show q + 1 - 1 = q from rfl] at hl4
  generalize lstB LL = last at *
  have hql : q ≤ 100 := by omega
  clear hq hlp hl50 HLS
  have e0 : ((q : Int) + 1 == 0) = false := by simp; omega
  rcases HLast.out with ⟨hw, hz, he⟩ | ⟨hw, hz⟩ | ⟨hw, hz, he⟩
  · have hz' : (6 : Int) < (last.size : Int) := by omega
    have hz2 : (6 : Int) ≤ (last.size : Int) := by omega
    have hb : (why != 0) = true := by simpa using hw
    have he1 : last.extract 0 6 = ⟨#[101, 114, 114, 111, 114, 32]⟩ := he
    have hd6 : ((6 : Int) < (last.size : Int)) = True := eq_true hz'
    have hsl : ∀ y : World, (Instr.slice 9 (.string last) none (some (.int .i64 6)) none).run Try.prog y = .ok (.string ⟨#[101, 114, 114, 111, 114, 32]⟩) y := fun y => by
      have h := run_slice_string_h y 9 last Try.underlying9 .i64 6 (by omega) hz2
      rw [show ((6 : Int)).toNat = 6 from rfl, he1] at h
      exact h
    clear he HLast he1
    go_wp2_with fail
    go_region_held3 (fun w' => w'.cell? ⟨w.heap.size + 1, 0, none⟩ = some (.int .i64 why)) (first | assumption | (refine Kept.cellp ?_ u0 <;> (repeat (first | (with_reducible exact Kept.refl _) | (with_reducible refine Kept.alloc ?_ _) | (with_reducible refine Kept.drew ?_) | (with_reducible refine Kept.drewN ?_ _) | (with_reducible refine Kept.trans ?_ (by assumption))))) | go_keep)
      ((go_at_call 6; refine (HKN.out _).mono ?_; rintro e y9 ⟨rfl, k9⟩))
    go_wp2_with fail
    go_ret
    exact ⟨rfl, KK.out.trans (by (repeat (first | (with_reducible exact Kept.refl _) | (with_reducible refine Kept.alloc ?_ _) | (with_reducible refine Kept.drew ?_) | (with_reducible refine Kept.drewN ?_ _) | (with_reducible refine Kept.trans ?_ (by assumption)))))⟩
  · subst hw
    have hz' : ¬ ((6 : Int) < (last.size : Int)) := by omega
    have hd6 : ((6 : Int) < (last.size : Int)) = False := eq_false hz'
    clear HLast
    go_wp2_with fail
    refine wp_region_held_drew (S := (fun w' => w'.cell? ⟨w.heap.size + 1, 0, none⟩ = some (.int .i64 0))) (by kernel_rfl) ?_ (fun hHeld => ?_)
    · exact u0
    refine wpAnyH_take (i := 0) (oi := { dst := some 67, op := _, type := _, pos := _, after := _, guard := _ }) (v := ?_) rfl (by kernel_rfl) (by kernel_rfl) (by kernel_rfl) (fun _ _ _ h => h) (Or.inl ⟨by rfl, ?_⟩) (by assumption) ?_
    rotate_left
    · (intro w hSw; (try dsimp only at hSw); (try obtain ⟨hSw1, hSw2⟩ := hSw); go_simp; (try with_reducible rfl))
    (try simp only [Act.put, List.setIfInBounds_toArray, List.set_cons_zero, List.set_cons_succ])
    refine wpAnyH_take (i := 1) (oi := { dst := some 68, op := _, type := _, pos := _, after := _, guard := _ }) (v := ?_) rfl (by kernel_rfl) (by kernel_rfl) (by kernel_rfl) (fun _ _ _ h => h) (Or.inl ⟨by rfl, ?_⟩) (by assumption) ?_
    rotate_left
    · (intro w hSw; (try dsimp only at hSw); (try obtain ⟨hSw1, hSw2⟩ := hSw); go_simp; (try with_reducible rfl))
    (try simp only [Act.put, List.setIfInBounds_toArray, List.set_cons_zero, List.set_cons_succ])
    refine wpAnyH_take (i := 2) (oi := { dst := some 69, op := _, type := _, pos := _, after := _, guard := _ }) (v := ?_) rfl (by kernel_rfl) (by kernel_rfl) (by kernel_rfl) (fun _ _ _ h => h) (Or.inl ⟨by rfl, ?_⟩) (by assumption) ?_
    rotate_left
    · (intro w hSw; (try dsimp only at hSw); (try obtain ⟨hSw1, hSw2⟩ := hSw); go_simp; (try with_reducible rfl))
    (try simp only [Act.put, List.setIfInBounds_toArray, List.set_cons_zero, List.set_cons_succ])
    refine wpAnyH_take (i := 3) (oi := { dst := some 70, op := _, type := _, pos := _, after := _, guard := _ }) (v := ?_) rfl (by kernel_rfl) (by kernel_rfl) (by kernel_rfl) (fun _ _ _ h => h) (Or.inl ⟨by rfl, ?_⟩) (by assumption) ?_
    rotate_left
    · (intro w hSw; (try dsimp only at hSw); (try obtain ⟨hSw1, hSw2⟩ := hSw); go_simp; (try with_reducible rfl))
    (try simp only [Act.put, List.setIfInBounds_toArray, List.set_cons_zero, List.set_cons_succ])
    refine wpAnyH_take (i := 4) (oi := { dst := some 71, op := _, type := _, pos := _, after := _, guard := _ }) (v := _) rfl (by kernel_rfl) (by kernel_rfl) (by kernel_rfl) (fun _ _ _ h => h) (Or.inr ⟨by rfl, rfl⟩) (by assumption) ?_
    (try simp only [Act.put, List.setIfInBounds_toArray, List.set_cons_zero, List.set_cons_succ])
    refine wpAnyH_take (i := 5) (oi := { dst := some 72, op := _, type := _, pos := _, after := _, guard := _ }) (v := _) rfl (by kernel_rfl) (by kernel_rfl) (by kernel_rfl) (fun _ _ _ h => h) (Or.inr ⟨by rfl, rfl⟩) (by assumption) ?_
    (try simp only [Act.put, List.setIfInBounds_toArray, List.set_cons_zero, List.set_cons_succ])
    refine wpAnyH_take (i := 6) (oi := { dst := some 73, op := _, type := _, pos := _, after := _, guard := _ }) (v := _) rfl (by kernel_rfl) (by kernel_rfl) (by kernel_rfl) (fun _ _ _ h => h) (Or.inr ⟨by rfl, rfl⟩) (by assumption) ?_
    (try simp only [Act.put, List.setIfInBounds_toArray, List.set_cons_zero, List.set_cons_succ])
    refine wpAnyH_take (i := 7) (oi := { dst := some 74, op := _, type := _, pos := _, after := _, guard := _ }) (v := ?_) rfl (by kernel_rfl) (by kernel_rfl) (by kernel_rfl) (fun _ _ _ h => h) (Or.inl ⟨by rfl, ?_⟩) (by assumption) ?_
    rotate_left
    · (intro w hSw; (try dsimp only at hSw); (try obtain ⟨hSw1, hSw2⟩ := hSw); go_simp; (try with_reducible rfl))
    (try simp only [Act.put, List.setIfInBounds_toArray, List.set_cons_zero, List.set_cons_succ])
    refine wpAnyH_take (i := 8) (oi := { dst := some 75, op := _, type := _, pos := _, after := _, guard := _ }) (v := ?_) rfl (by kernel_rfl) (by kernel_rfl) (by kernel_rfl) (fun _ _ _ h => h) (Or.inl ⟨by rfl, ?_⟩) (by assumption) ?_
    rotate_left
    · (intro w hSw; (try dsimp only at hSw); (try obtain ⟨hSw1, hSw2⟩ := hSw); go_simp; (try with_reducible rfl))
    (try simp only [Act.put, List.setIfInBounds_toArray, List.set_cons_zero, List.set_cons_succ])
    refine wpAnyH_take (i := 9) (oi := { dst := some 76, op := _, type := _, pos := _, after := _, guard := _ }) (v := ?_) rfl (by kernel_rfl) (by kernel_rfl) (by kernel_rfl) (fun _ _ _ h => h) (Or.inl ⟨by rfl, ?_⟩) (by assumption) ?_
    rotate_left
    · (intro w hSw; (try dsimp only at hSw); (try obtain ⟨hSw1, hSw2⟩ := hSw); go_simp; (try with_reducible rfl))
    (try simp only [Act.put, List.setIfInBounds_toArray, List.set_cons_zero, List.set_cons_succ])
    refine wpAnyH_take (i := 10) (oi := { dst := some 77, op := _, type := _, pos := _, after := _, guard := _ }) (v := ?_) rfl (by kernel_rfl) (by kernel_rfl) (by kernel_rfl) (fun _ _ _ h => h) (Or.inl ⟨by rfl, ?_⟩) (by assumption) ?_
    rotate_left
    · (intro w hSw; (try dsimp only at hSw); (try obtain ⟨hSw1, hSw2⟩ := hSw); go_simp; (try with_reducible rfl))
    (try simp only [Act.put, List.setIfInBounds_toArray, List.set_cons_zero, List.set_cons_succ])
    refine wpAnyH_take (i := 11) (oi := { dst := some 78, op := _, type := _, pos := _, after := _, guard := _ }) (v := ?_) rfl (by kernel_rfl) (by kernel_rfl) (by kernel_rfl) (fun _ _ _ h => h) (Or.inl ⟨by rfl, ?_⟩) (by assumption) ?_
    rotate_left
    · (intro w hSw; (try dsimp only at hSw); (try obtain ⟨hSw1, hSw2⟩ := hSw); go_simp; (try with_reducible rfl))
    (try simp only [Act.put, List.setIfInBounds_toArray, List.set_cons_zero, List.set_cons_succ])
    refine wpAnyH_take (i := 12) (oi := { dst := some 79, op := _, type := _, pos := _, after := _, guard := _ }) (v := ?_) rfl (by kernel_rfl) (by kernel_rfl) (by kernel_rfl) (fun _ _ _ h => h) (Or.inl ⟨by rfl, ?_⟩) (by assumption) ?_
    rotate_left
    · (intro w hSw; (try dsimp only at hSw); (try obtain ⟨hSw1, hSw2⟩ := hSw); go_simp; (try with_reducible rfl))
    (try simp only [Act.put, List.setIfInBounds_toArray, List.set_cons_zero, List.set_cons_succ])
    refine wpAnyH_ready (rs := [13]) (by kernel_rfl) (by simp) ?_
    refine AllReadyH.cons (o := { dst := some 80, op := _, type := _, pos := _, after := _, guard := _ }) rfl (fun K hK => ?_) AllReadyH.nil
    go_simp
    refine (HKN.out _).mono ?_
    rintro e y9 ⟨rfl, k9⟩
    (try go_wp2_with fail)
    refine hK.out _ _ ?_ (fun hHeld => ?_)
    · (refine Kept.cellp ?_ u0 <;> (repeat (first | (with_reducible exact Kept.refl _) | (with_reducible refine Kept.alloc ?_ _) | (with_reducible refine Kept.drew ?_) | (with_reducible refine Kept.drewN ?_ _) | (with_reducible refine Kept.trans ?_ (by assumption)))))
    clear hK K
    (try simp only [Act.put, List.setIfInBounds_toArray, List.set_cons_zero, List.set_cons_succ])
    refine wpAnyH_take (i := 14) (oi := { dst := some 81, op := _, type := _, pos := _, after := _, guard := _ }) (v := ?_) rfl (by kernel_rfl) (by kernel_rfl) (by kernel_rfl) (fun _ _ _ h => h) (Or.inl ⟨by rfl, ?_⟩) (by assumption) ?_
    rotate_left
    · (intro w hSw; (try dsimp only at hSw); (try obtain ⟨hSw1, hSw2⟩ := hSw); go_simp; (try with_reducible rfl))
    (try simp only [Act.put, List.setIfInBounds_toArray, List.set_cons_zero, List.set_cons_succ])
    refine wpAnyH_take (i := 15) (oi := { dst := some 6, op := _, type := _, pos := _, after := _, guard := _ }) (v := ?_) rfl (by kernel_rfl) (by kernel_rfl) (by kernel_rfl) (fun _ _ _ h => h) (Or.inl ⟨by rfl, ?_⟩) (by assumption) ?_
    rotate_left
    · (intro w hSw; (try dsimp only at hSw); (try obtain ⟨hSw1, hSw2⟩ := hSw); go_simp; (try with_reducible rfl))
    (try simp only [Act.put, List.setIfInBounds_toArray, List.set_cons_zero, List.set_cons_succ])
    refine wpAnyH_done (by kernel_rfl) ?_ _
    go_wp2_with fail
    go_ret
    exact ⟨rfl, KK.out.trans (by (repeat (first | (with_reducible exact Kept.refl _) | (with_reducible refine Kept.alloc ?_ _) | (with_reducible refine Kept.drew ?_) | (with_reducible refine Kept.drewN ?_ _) | (with_reducible refine Kept.trans ?_ (by assumption)))))⟩
  · subst hw
    have hz' : (6 : Int) < (last.size : Int) := by omega
    have hz2 : (6 : Int) ≤ (last.size : Int) := by omega
    have he1 : ((last.extract 0 6).toList == (⟨#[101, 114, 114, 111, 114, 32]⟩ : ByteArray).toList) = false := by
      rw [beq_eq_false_iff_ne]
      intro h
      apply he
      apply byt_inj
      unfold byt
      simp only [ByteArray.toList_eq] at h
      rw [h]
      rfl
    have hd6 : ((6 : Int) < (last.size : Int)) = True := eq_true hz'
    have hsl : ∀ y : World, (Instr.slice 9 (.string last) none (some (.int .i64 6)) none).run Try.prog y = .ok (.string (last.extract 0 6)) y := fun y => by
      have h := run_slice_string_h y 9 last Try.underlying9 .i64 6 (by omega) hz2
      rw [show ((6 : Int)).toNat = 6 from rfl] at h
      exact h
    have he2 : ((last.extract 0 6).toList == [101, 114, 114, 111, 114, 32]) = false := by
      have hcc : (⟨#[101, 114, 114, 111, 114, 32]⟩ : ByteArray).toList = [101, 114, 114, 111, 114, 32] := by rw [ByteArray.toList_eq]
      rw [hcc] at he1; exact he1
    have he3 : ((last.extract 0 6).toList = [101, 114, 114, 111, 114, 32]) = False := by
      rw [beq_eq_false_iff_ne] at he2
      exact eq_false he2
    generalize last.extract 0 6 = ex at *
    clear HLast he
    go_wp2_with fail
    go_region_held3 (fun w' => w'.cell? ⟨w.heap.size + 1, 0, none⟩ = some (.int .i64 0)) (first | assumption | (refine Kept.cellp ?_ u0 <;> (repeat (first | (with_reducible exact Kept.refl _) | (with_reducible refine Kept.alloc ?_ _) | (with_reducible refine Kept.drew ?_) | (with_reducible refine Kept.drewN ?_ _) | (with_reducible refine Kept.trans ?_ (by assumption))))) | go_keep)
      ((go_at_call 6; refine (HKN.out _).mono ?_; rintro e y9 ⟨rfl, k9⟩))
    go_wp2_with fail
    go_ret
    exact ⟨rfl, KK.out.trans (by (repeat (first | (with_reducible exact Kept.refl _) | (with_reducible refine Kept.alloc ?_ _) | (with_reducible refine Kept.drew ?_) | (with_reducible refine Kept.drewN ?_ _) | (with_reducible refine Kept.trans ?_ (by assumption)))))⟩
end Go.Proofs.Ytbhojgodkblflaa
