/- rec: Get. -/
import Derived.Test.YtapcmkhpbdphoaaRec3
namespace Go.Proofs.Ytapcmkhpbdphoaa
open Go.RowKit Go.Maps
set_option linter.unusedSimpArgs false
set_option linter.unusedVariables false

def ownN (l : List Int) : Nat := (numV l - 1).toNat
def mkN (l : List Int) : Nat := numS l + ownN l + 4
def body (l : List Int) : List Int := (l.drop (numS l)).take (ownN l)
/-- What Get tells of bytes. -/
def getE (l : List Int) : Int := if l.length = 0 ∨ l.getD 0 0 = 0 then 10 else if lenE l ≠ 0 then lenE l else if l.length ≤ mkN l ∨ l.getD (mkN l) 0 = 0 then 7 else
  if l.getD (mkN l) 0 ≠ 165 ∨ (l.drop (numS l + ownN l)).take 4 ≠ sb (sumN (body l)) then 6 else 0
theorem sl_mid {w : World} {b o n : Nat} {l : List Int} (h : Sl .u8 w (some ⟨b, o, none⟩) n l) (i k : Nat) (hk : i + k ≤ n) : Sl .u8 w (some ⟨b, o + i, none⟩) k ((l.drop i).take k) := sl_take (sl_drop h i (by omega)) k (by omega)
theorem lenE_zero {l : List Int} (h : lenE l = 0) : 2 ≤ numV l ∧ numV l ≤ 251 ∧ lenV l = numV l - 1 ∧ lenS l = numS l ∧ numE l = 0 := by
  have h' := h
  unfold lenE at h
  by_cases h1 : numE l ≠ 0
  · rw [if_pos h1] at h; omega
  · rw [if_neg h1] at h
    by_cases h2 : numV l < 2 ∨ 251 < numV l
    · rw [if_pos h2] at h; omega
    · refine ⟨by omega, by omega, if_pos h', if_pos h', by omega⟩
theorem numS_small (l : List Int) : numS l ≤ 10 := by
  unfold numS
  cases h : lastIx l with
  | none => simp
  | some k =>
    dsimp
    by_cases hb : numBad l k
    · rw [if_pos hb]; omega
    · rw [if_neg hb]; unfold numBad at hb; omega
theorem wrap_sm {x : Int} (h0 : 0 ≤ x) (h1 : x ≤ 1000000) : wrap64 x = x := by unfold wrap64; omega
theorem Kept.cellp' {w W : World} {p : Addr} {v : Value} (k : Kept w W) (h : w.cell? p = some v) : W.cell? p = some v := (k.cell (cell_lt h)).trans h
def GetP (w : World) (l : List Int) (e : Ending) (w' : World) : Prop := ∃ v, e = .returned (.tuple #[v, .int .i64 (if getE l = 0 then ((mkN l + 1 : Nat) : Int) else 0), .int .i64 (getE l)]) ∧ Owned w w' v (if getE l = 0 then body l else []) ∧ Kept w w'
theorem GetP.bad {w w' : World} {l : List Int} {q : Int} (h : getE l = q) (hq : q ≠ 0) (k : Kept w w') : GetP w l (.returned (.tuple #[.slice none 0 0, .int .i64 0, .int .i64 q])) w' := by
  subst h
  exact ⟨_, by rw [if_neg hq], by rw [if_neg hq]; exact World.ownsRow_nil _ _ _ _, k⟩

set_option maxHeartbeats 8000000 in
theorem rec_Get (a : Option Addr) (n c : Nat) (l : List Int) (w : World) (hs : Sl .u8 w a n l) (hb : ∀ x ∈ l, isB x) (hl : n ≤ 100000) (hc : n ≤ c) (hcm : c ≤ 9223372036854775807) :
    Calls Try.prog 58 #[.slice a n c] w fun e w' => GetP w l e w' := by
  have hlen := hs.len
  by_cases h0 : n = 0
  · subst h0
    have HE := hidMk (show getE l = 10 from if_pos (.inl (by omega)))
    clear hs hb
    go_enter Try.func58, Try.ntmps58
    go_wp2_with fail
    go_ret3
    exact GetP.bad HE.out (by decide) (Kept.refl _)
  obtain ⟨b, o, rfl, hbb, hcs⟩ := hs.cells (by omega)
  have z0 := hcs 0 (by omega)
  rw [Nat.add_zero] at z0
  have hn0 : ((n : Int) == 0) = false := by simp; omega
  have hn1 : (0 : Int) < (n : Int) := by omega
  by_cases hz : l.getD 0 0 = 0
  · have HE := hidMk (show getE l = 10 from if_pos (.inr hz))
    rw [hz] at z0
    clear hs hb hcs h0
    go_enter Try.func58, Try.ntmps58
    go_wp2_with fail
    go_ret3
    exact GetP.bad HE.out (by decide) (Kept.refl _)
  have hz' : (l.getD 0 0 == 0) = false := by simpa using hz
  have HLN := hidMk (rec_length b o n c l w hs hb (by omega) hl hc)
  by_cases hE : lenE l = 0
  case neg =>
    have HE := hidMk (show getE l = lenE l by unfold getE; rw [if_neg (by omega), if_pos hE])
    have HQ := hidMk hE
    have q : (lenE l == 0) = false := by simpa using hE
    generalize hq : lenE l = Q at *
    generalize lenV l = V at *
    generalize lenS l = S at *
    generalize l.getD 0 0 = x0 at *
    clear hs hb hcs h0 hE hz hq
    go_enter Try.func58, Try.ntmps58
    go_wp2_with (go_at_call 61; refine HLN.out.mono ?_; rintro e w1 ⟨rfl, k1⟩)
    go_ret3
    exact GetP.bad HE.out HQ.out k1
  obtain ⟨v1, v2, v3, v4, v5⟩ := lenE_zero hE
  have hS10 := numS_small l
  have hSl := numS_le l
  obtain ⟨ow, how⟩ : ∃ ow, ow = ownN l := ⟨_, rfl⟩
  have how2 : lenV l = (ow : Int) := by rw [v3, how]; unfold ownN; omega
  have how3 : 1 ≤ ow ∧ ow ≤ 250 := by rw [how]; unfold ownN; omega
  rw [how2, v4, hE] at HLN
  have HG0 : Hid (getE l = if l.length ≤ mkN l ∨ l.getD (mkN l) 0 = 0 then 7 else if l.getD (mkN l) 0 ≠ 165 ∨ (l.drop (numS l + ownN l)).take 4 ≠ sb (sumN (body l)) then 6 else 0) := hidMk (by unfold getE; rw [if_neg (by omega), if_neg (by simp [hE])])
  obtain ⟨S, hS⟩ : ∃ S, S = numS l := ⟨_, rfl⟩
  obtain ⟨E, hEE⟩ : ∃ E, E = S + ow := ⟨_, rfl⟩
  obtain ⟨M, hM⟩ : ∃ M, M = E + 4 := ⟨_, rfl⟩
  have hMk : mkN l = M := by unfold mkN; omega
  have hEk : numS l + ownN l = E := by omega
  rw [hMk, hEk] at HG0
  rw [← hS] at HLN hS10
  have HBD := hidMk (show body l = (l.drop S).take ow by unfold body; rw [← hS, ← how])
  have HMK := hidMk hMk
  have hw1' : (S : Int) + (ow : Int) = (E : Int) := by omega
  have hw2' : (E : Int) + 4 = (M : Int) := by omega
  have hSE : (S : Int) ≤ (E : Int) := by omega
  have hEM : (E : Int) ≤ (M : Int) := by omega
  have hE3 : (E : Int) ≤ 1000 := by omega
  have hM3 : (M : Int) ≤ 1000 := by omega
  have hM0 : (0 : Int) ≤ (M : Int) := by omega
  clear v1 v2 v3 v4 v5 hE how2 hSl hS how hMk hEk
  by_cases hnm : n ≤ M
  · have HE := hidMk (show getE l = 7 by rw [HG0.out, if_pos (.inl (by omega))])
    have hnm' : (n : Int) ≤ (M : Int) := by omega
    generalize l.getD 0 0 = x0 at *
    clear hs hb hcs h0 hz hEE hM HG0 hnm how3
    go_enter Try.func58, Try.ntmps58
    go_wp2_with (go_at_call 61; refine HLN.out.mono ?_; rintro e w1 ⟨rfl, k1⟩)
    go_ret3
    exact GetP.bad HE.out (by decide) k1
  have hmn : (M : Int) < (n : Int) := by omega
  have zm0 := hcs M (by omega)
  have HSL := hidMk hs
  have HSM1 := hidMk (sl_mid hs E 4 (by omega))
  have HSM2 := hidMk (sl_mid hs S ow (by omega))
  have HIB := hidMk (show ∀ x ∈ (l.drop S).take ow, isB x from take_isB (drop_isB hb S) ow)
  have hcE : ¬ c = E := by omega
  have hcS : ¬ c = S := by omega
  have hMc : (M : Int) ≤ (c : Int) := by omega
  have hEc : (E : Int) ≤ (c : Int) := by omega
  have hd1 : M - E = 4 := by omega
  have hd2 : E - S = ow := by omega
  by_cases hmz : l.getD M 0 = 0
  · have HE := hidMk (show getE l = 7 by rw [HG0.out, if_pos (.inr hmz)])
    rw [hmz] at zm0
    generalize l.getD 0 0 = x0 at *
    have HKC := hidMk (fun (W : World) (k : Kept w W) => k.cellp' zm0)
    clear hs hb hcs h0 hz hEE hM HG0 hmz how3
    go_enter Try.func58, Try.ntmps58
    go_wp2_with (go_at_call 61; refine HLN.out.mono ?_; rintro e w1 ⟨rfl, k1⟩; have z1 := HKC.out w1 k1)
    go_ret3
    exact GetP.bad HE.out (by decide) k1
  have hmz' : (l.getD M 0 == 0) = false := by simpa using hmz
  have HKC := hidMk (fun (W : World) (k : Kept w W) => k.cellp' zm0)
  have HG1 : Hid (getE l = if l.getD M 0 ≠ 165 ∨ (l.drop E).take 4 ≠ sb (sumN (body l)) then 6 else 0) := hidMk (by rw [HG0.out, if_neg (by omega)])
  by_cases hm1 : l.getD M 0 = 165
  case neg =>
    have HE := hidMk (show getE l = 6 by rw [HG1.out, if_pos (.inl hm1)])
    have hm1' : (l.getD M 0 == 165) = false := by simpa using hm1
    have hm2 : (l.getD M 0 != 165) = true := by simpa using hm1
    have hm3 : (!(l.getD M 0 == 165)) = true := by rw [hm1']; rfl
    have hm4 : decide (l.getD M 0 = 165) = false := by simpa using hm1
    generalize l.getD M 0 = xm at *
    generalize l.getD 0 0 = x0 at *
    clear hs hb hcs h0 hz hEE hM HG0 HG1 hmz how3 hm1
    go_enter Try.func58, Try.ntmps58
    go_wp2_with (go_at_call 61; refine HLN.out.mono ?_; rintro e w1 ⟨rfl, k1⟩; have z1 := HKC.out w1 k1)
    go_quiet (fail)
    go_wp2_with fail
    go_ret3
    exact GetP.bad HE.out (by decide) (k1.drewN _)
  rw [HBD.out] at HG1
  rw [hm1] at HG1 zm0 HKC
  have HSB := hidMk (show ∀ W0 W, Kept w W0 → Kept W0 W → Calls Try.prog 41 #[.slice (some ⟨b, o + S, none⟩) ow (c - S)] W fun e w' => ∃ g, e = .returned (.slice (some ⟨g, 0, none⟩) 4 4) ∧ W.heap.size ≤ g ∧ Sl .u8 w' (some ⟨g, 0, none⟩) 4 (sb (sumN ((l.drop S).take ow))) ∧ Kept W w' from fun W0 W k0 k => rec_sumBytes _ ow (c - S) _ W (HSM2.out.kept (k0.trans k)) HIB.out)
  have HEQ := hidMk (show ∀ W0 W g, Kept w W0 → Sl .u8 W (some ⟨g, 0, none⟩) 4 (sb (sumN ((l.drop S).take ow))) → Kept W0 W → Calls Try.prog 62 #[.slice (some ⟨b, o + E, none⟩) 4 (c - E), .slice (some ⟨g, 0, none⟩) 4 4] W fun e w' => e = .returned (.bool (decide ((l.drop E).take 4 = sb (sumN ((l.drop S).take ow))))) ∧ Kept W w' from fun W0 W g k0 s k => slices_EqualB _ _ 4 4 (c - E) 4 _ _ W (HSM1.out.kept (k0.trans k)) s)
  have HCL := hidMk (show ∀ W, Kept w W → Calls Try.prog 34 #[.slice (some ⟨b, o + S, none⟩) ow (c - S)] W fun e w' => ∃ v, e = .returned v ∧ Owned W w' v ((l.drop S).take ow) ∧ Kept W w' from fun W k => slices_Clone _ ow (c - S) _ W (HSM2.out.kept k) (by omega))
  have HM2 := hidMk (show ((M : Int) + 1) = ((M + 1 : Nat) : Int) by omega)
  generalize l.getD 0 0 = x0 at *
  by_cases heq : (l.drop E).take 4 = sb (sumN ((l.drop S).take ow))
  · have HE := hidMk (show getE l = 0 by rw [HG1.out, if_neg (by simp [heq])])
    rw [decide_eq_true heq] at HEQ
    clear hs hb hcs h0 hz hEE hM HG0 HG1 hmz how3 heq hmz' hm1 HSM1 HSM2
    go_enter Try.func58, Try.ntmps58
    go_wp2_with (go_at_call 61; refine HLN.out.mono ?_; rintro e w1 ⟨rfl, k1⟩; have z1 := HKC.out w1 k1)
    obtain ⟨W1, hW1⟩ : ∃ W1, W1 = w1 := ⟨_, rfl⟩
    rw [← hW1] at k1 z1 ⊢
    clear hW1 w1
    have zm := z1
    have HK1 := hidMk k1
    replace HSB := hidMk (HSB.out W1 · k1)
    replace HEQ := hidMk (HEQ.out W1 · · k1)
    clear k1 z1
    refine wp_region_held_drew (S := (fun w9 => Kept W1 w9)) (by kernel_rfl) ?_ (fun hHeld => ?_)
    · exact (Kept.refl W1).drew
    refine wpAnyH_take (i := 0) (oi := { dst := some 44, op := _, type := _, pos := _, after := _, guard := _ }) (v := ?_) rfl (by kernel_rfl) (by kernel_rfl) (by kernel_rfl) (fun _ _ _ h => h) (Or.inl ⟨by rfl, ?_⟩) (by assumption) ?_
    rotate_left
    · (intro w9 hSw; go_simp; (try with_reducible rfl))
    (try simp only [Act.put, List.setIfInBounds_toArray, List.set_cons_zero, List.set_cons_succ])
    refine wpAnyH_take (i := 1) (oi := { dst := some 45, op := _, type := _, pos := _, after := _, guard := _ }) (v := ?_) rfl (by kernel_rfl) (by kernel_rfl) (by kernel_rfl) (fun _ _ _ h => h) (Or.inl ⟨by rfl, ?_⟩) (by assumption) ?_
    rotate_left
    · (intro w9 hSw; go_simp; (try with_reducible rfl))
    (try simp only [Act.put, List.setIfInBounds_toArray, List.set_cons_zero, List.set_cons_succ])
    refine wpAnyH_take (i := 2) (oi := { dst := some 46, op := _, type := _, pos := _, after := _, guard := _ }) (v := ?_) rfl (by kernel_rfl) (by kernel_rfl) (by kernel_rfl) (fun _ _ _ h => h) (Or.inl ⟨by rfl, ?_⟩) (by assumption) ?_
    rotate_left
    · (intro w9 hSw; go_simp; (try with_reducible rfl))
    (try simp only [Act.put, List.setIfInBounds_toArray, List.set_cons_zero, List.set_cons_succ])
    refine wpAnyH_take (i := 3) (oi := { dst := some 47, op := _, type := _, pos := _, after := _, guard := _ }) (v := ?_) rfl (by kernel_rfl) (by kernel_rfl) (by kernel_rfl) (fun _ _ _ h => h) (Or.inl ⟨by rfl, ?_⟩) (by assumption) ?_
    rotate_left
    · (intro w9 hSw; have z9 := hSw.cellp' zm; go_simp; (try with_reducible rfl))
    (try simp only [Act.put, List.setIfInBounds_toArray, List.set_cons_zero, List.set_cons_succ])
    refine wpAnyH_take (i := 4) (oi := { dst := some 48, op := _, type := _, pos := _, after := _, guard := _ }) (v := ?_) rfl (by kernel_rfl) (by kernel_rfl) (by kernel_rfl) (fun _ _ _ h => h) (Or.inl ⟨by rfl, ?_⟩) (by assumption) ?_
    rotate_left
    · (intro w9 hSw; go_simp; (try with_reducible rfl))
    (try simp only [Act.put, List.setIfInBounds_toArray, List.set_cons_zero, List.set_cons_succ])
    refine wpAnyH_take (i := 5) (oi := { dst := some 49, op := _, type := _, pos := _, after := _, guard := _ }) (v := ?_) rfl (by kernel_rfl) (by kernel_rfl) (by kernel_rfl) (fun _ _ _ h => h) (Or.inl ⟨by rfl, ?_⟩) (by assumption) ?_
    rotate_left
    · (intro w9 hSw; go_simp; (try with_reducible rfl))
    (try simp only [Act.put, List.setIfInBounds_toArray, List.set_cons_zero, List.set_cons_succ])
    refine wpAnyH_take (i := 6) (oi := { dst := some 50, op := _, type := _, pos := _, after := _, guard := _ }) (v := ?_) rfl (by kernel_rfl) (by kernel_rfl) (by kernel_rfl) (fun _ _ _ h => h) (Or.inl ⟨by rfl, ?_⟩) (by assumption) ?_
    rotate_left
    · (intro w9 hSw; go_simp; (try with_reducible rfl))
    (try simp only [Act.put, List.setIfInBounds_toArray, List.set_cons_zero, List.set_cons_succ])
    refine wpAnyH_take (i := 7) (oi := { dst := some 51, op := _, type := _, pos := _, after := _, guard := _ }) (v := ?_) rfl (by kernel_rfl) (by kernel_rfl) (by kernel_rfl) (fun _ _ _ h => h) (Or.inl ⟨by rfl, ?_⟩) (by assumption) ?_
    rotate_left
    · (intro w9 hSw; go_simp; (try with_reducible rfl))
    (try simp only [Act.put, List.setIfInBounds_toArray, List.set_cons_zero, List.set_cons_succ])
    refine wpAnyH_take (i := 8) (oi := { dst := some 52, op := _, type := _, pos := _, after := _, guard := _ }) (v := ?_) rfl (by kernel_rfl) (by kernel_rfl) (by kernel_rfl) (fun _ _ _ h => h) (Or.inl ⟨by rfl, ?_⟩) (by assumption) ?_
    rotate_left
    · (intro w9 hSw; go_simp; (try with_reducible rfl))
    (try simp only [Act.put, List.setIfInBounds_toArray, List.set_cons_zero, List.set_cons_succ])
    refine wpAnyH_take (i := 9) (oi := { dst := some 53, op := _, type := _, pos := _, after := _, guard := _ }) (v := ?_) rfl (by kernel_rfl) (by kernel_rfl) (by kernel_rfl) (fun _ _ _ h => h) (Or.inl ⟨by rfl, ?_⟩) (by assumption) ?_
    rotate_left
    · (intro w9 hSw; go_simp; (try with_reducible rfl))
    (try simp only [Act.put, List.setIfInBounds_toArray, List.set_cons_zero, List.set_cons_succ])
    refine wpAnyH_take (i := 10) (oi := { dst := some 54, op := _, type := _, pos := _, after := _, guard := _ }) (v := ?_) rfl (by kernel_rfl) (by kernel_rfl) (by kernel_rfl) (fun _ _ _ h => h) (Or.inl ⟨by rfl, ?_⟩) (by assumption) ?_
    rotate_left
    · (intro w9 hSw; go_simp; (try with_reducible rfl))
    (try simp only [Act.put, List.setIfInBounds_toArray, List.set_cons_zero, List.set_cons_succ])
    refine wpAnyH_take (i := 11) (oi := { dst := some 55, op := _, type := _, pos := _, after := _, guard := _ }) (v := ?_) rfl (by kernel_rfl) (by kernel_rfl) (by kernel_rfl) (fun _ _ _ h => h) (Or.inl ⟨by rfl, ?_⟩) (by assumption) ?_
    rotate_left
    · (intro w9 hSw; go_simp; (try with_reducible rfl))
    (try simp only [Act.put, List.setIfInBounds_toArray, List.set_cons_zero, List.set_cons_succ])
    refine wpAnyH_take (i := 12) (oi := { dst := some 56, op := _, type := _, pos := _, after := _, guard := _ }) (v := ?_) rfl (by kernel_rfl) (by kernel_rfl) (by kernel_rfl) (fun _ _ _ h => h) (Or.inl ⟨by rfl, ?_⟩) (by assumption) ?_
    rotate_left
    · (intro w9 hSw; go_simp; (try with_reducible rfl))
    (try simp only [Act.put, List.setIfInBounds_toArray, List.set_cons_zero, List.set_cons_succ])
    refine wpAnyH_take (i := 13) (oi := { dst := some 57, op := _, type := _, pos := _, after := _, guard := _ }) (v := ?_) rfl (by kernel_rfl) (by kernel_rfl) (by kernel_rfl) (fun _ _ _ h => h) (Or.inl ⟨by rfl, ?_⟩) (by assumption) ?_
    rotate_left
    · (intro w9 hSw; go_simp; (try with_reducible rfl))
    (try simp only [Act.put, List.setIfInBounds_toArray, List.set_cons_zero, List.set_cons_succ])
    refine wpAnyH_ready (rs := [14]) (by kernel_rfl) (by simp) ?_
    refine AllReadyH.cons (o := { dst := some 58, op := _, type := _, pos := _, after := _, guard := _ }) rfl (fun K hK => ?_) AllReadyH.nil
    go_simp
    refine (HSB.out _ hHeld).mono ?_
    rintro e wB ⟨gB, rfl, hgB, sB, kB⟩
    have SBB := hidMk sB
    have KBB := hidMk (hHeld.trans kB)
    clear sB kB
    (try go_wp2_with fail)
    refine hK.out _ _ ?_ (fun hHeld => ?_)
    · first | exact KEE.out | exact KBB.out
    clear hK K
    (try simp only [Act.put, List.setIfInBounds_toArray, List.set_cons_zero, List.set_cons_succ])
    refine wpAnyH_ready (rs := [15]) (by kernel_rfl) (by simp) ?_
    refine AllReadyH.cons (o := { dst := some 59, op := _, type := _, pos := _, after := _, guard := _ }) rfl (fun K hK => ?_) AllReadyH.nil
    go_simp
    refine (HEQ.out _ _ SBB.out KBB.out).mono ?_
    rintro e wE ⟨rfl, kE⟩
    have KEE := hidMk (KBB.out.trans kE)
    clear kE
    (try go_wp2_with fail)
    refine hK.out _ _ ?_ (fun hHeld => ?_)
    · first | exact KEE.out | exact KBB.out
    clear hK K
    (try simp only [Act.put, List.setIfInBounds_toArray, List.set_cons_zero, List.set_cons_succ])
    refine wpAnyH_take (i := 16) (oi := { dst := some 60, op := _, type := _, pos := _, after := _, guard := _ }) (v := ?_) rfl (by kernel_rfl) (by kernel_rfl) (by kernel_rfl) (fun _ _ _ h => h) (Or.inl ⟨by rfl, ?_⟩) (by assumption) ?_
    rotate_left
    · (intro w9 hSw; go_simp; (try with_reducible rfl))
    (try simp only [Act.put, List.setIfInBounds_toArray, List.set_cons_zero, List.set_cons_succ])
    refine wpAnyH_take (i := 17) (oi := { dst := some 61, op := _, type := _, pos := _, after := _, guard := _ }) (v := ?_) rfl (by kernel_rfl) (by kernel_rfl) (by kernel_rfl) (fun _ _ _ h => h) (Or.inl ⟨by rfl, ?_⟩) (by assumption) ?_
    rotate_left
    · (intro w9 hSw; go_simp; (try with_reducible rfl))
    (try simp only [Act.put, List.setIfInBounds_toArray, List.set_cons_zero, List.set_cons_succ])
    refine wpAnyH_done (by kernel_rfl) ?_ _
    go_wp2_with fail
    refine (HCL.out _ (HK1.out.trans hHeld)).mono ?_
    rintro e w5 ⟨v5, rfl, o5, k5⟩
    have O5 := hidMk (show Owned w w5 v5 ((l.drop S).take ow) from ownsRow_base o5 (HK1.out.trans hHeld).size)
    have K5 := hidMk ((HK1.out.trans hHeld).trans k5)
    clear o5 k5
    go_wp2_with fail
    go_ret3
    refine ⟨v5, ?_, ?_, K5.out⟩
    · rw [HE.out, HMK.out, if_pos rfl]
      first | rfl | (rw [← HM2.out]; rfl)
    · rw [HE.out, HBD.out, if_pos rfl]
      exact O5.out
  · have HE := hidMk (show getE l = 6 by rw [HG1.out, if_pos (.inr heq)])
    rw [decide_eq_false heq] at HEQ
    clear hs hb hcs h0 hz hEE hM HG0 HG1 hmz how3 heq hmz' hm1 HSM1 HSM2
    go_enter Try.func58, Try.ntmps58
    go_wp2_with (go_at_call 61; refine HLN.out.mono ?_; rintro e w1 ⟨rfl, k1⟩; have z1 := HKC.out w1 k1)
    obtain ⟨W1, hW1⟩ : ∃ W1, W1 = w1 := ⟨_, rfl⟩
    rw [← hW1] at k1 z1 ⊢
    clear hW1 w1
    have zm := z1
    have HK1 := hidMk k1
    replace HSB := hidMk (HSB.out W1 · k1)
    replace HEQ := hidMk (HEQ.out W1 · · k1)
    clear k1 z1
    refine wp_region_held_drew (S := (fun w9 => Kept W1 w9)) (by kernel_rfl) ?_ (fun hHeld => ?_)
    · exact (Kept.refl W1).drew
    refine wpAnyH_take (i := 0) (oi := { dst := some 44, op := _, type := _, pos := _, after := _, guard := _ }) (v := ?_) rfl (by kernel_rfl) (by kernel_rfl) (by kernel_rfl) (fun _ _ _ h => h) (Or.inl ⟨by rfl, ?_⟩) (by assumption) ?_
    rotate_left
    · (intro w9 hSw; go_simp; (try with_reducible rfl))
    (try simp only [Act.put, List.setIfInBounds_toArray, List.set_cons_zero, List.set_cons_succ])
    refine wpAnyH_take (i := 1) (oi := { dst := some 45, op := _, type := _, pos := _, after := _, guard := _ }) (v := ?_) rfl (by kernel_rfl) (by kernel_rfl) (by kernel_rfl) (fun _ _ _ h => h) (Or.inl ⟨by rfl, ?_⟩) (by assumption) ?_
    rotate_left
    · (intro w9 hSw; go_simp; (try with_reducible rfl))
    (try simp only [Act.put, List.setIfInBounds_toArray, List.set_cons_zero, List.set_cons_succ])
    refine wpAnyH_take (i := 2) (oi := { dst := some 46, op := _, type := _, pos := _, after := _, guard := _ }) (v := ?_) rfl (by kernel_rfl) (by kernel_rfl) (by kernel_rfl) (fun _ _ _ h => h) (Or.inl ⟨by rfl, ?_⟩) (by assumption) ?_
    rotate_left
    · (intro w9 hSw; go_simp; (try with_reducible rfl))
    (try simp only [Act.put, List.setIfInBounds_toArray, List.set_cons_zero, List.set_cons_succ])
    refine wpAnyH_take (i := 3) (oi := { dst := some 47, op := _, type := _, pos := _, after := _, guard := _ }) (v := ?_) rfl (by kernel_rfl) (by kernel_rfl) (by kernel_rfl) (fun _ _ _ h => h) (Or.inl ⟨by rfl, ?_⟩) (by assumption) ?_
    rotate_left
    · (intro w9 hSw; have z9 := hSw.cellp' zm; go_simp; (try with_reducible rfl))
    (try simp only [Act.put, List.setIfInBounds_toArray, List.set_cons_zero, List.set_cons_succ])
    refine wpAnyH_take (i := 4) (oi := { dst := some 48, op := _, type := _, pos := _, after := _, guard := _ }) (v := ?_) rfl (by kernel_rfl) (by kernel_rfl) (by kernel_rfl) (fun _ _ _ h => h) (Or.inl ⟨by rfl, ?_⟩) (by assumption) ?_
    rotate_left
    · (intro w9 hSw; go_simp; (try with_reducible rfl))
    (try simp only [Act.put, List.setIfInBounds_toArray, List.set_cons_zero, List.set_cons_succ])
    refine wpAnyH_take (i := 5) (oi := { dst := some 49, op := _, type := _, pos := _, after := _, guard := _ }) (v := ?_) rfl (by kernel_rfl) (by kernel_rfl) (by kernel_rfl) (fun _ _ _ h => h) (Or.inl ⟨by rfl, ?_⟩) (by assumption) ?_
    rotate_left
    · (intro w9 hSw; go_simp; (try with_reducible rfl))
    (try simp only [Act.put, List.setIfInBounds_toArray, List.set_cons_zero, List.set_cons_succ])
    refine wpAnyH_take (i := 6) (oi := { dst := some 50, op := _, type := _, pos := _, after := _, guard := _ }) (v := ?_) rfl (by kernel_rfl) (by kernel_rfl) (by kernel_rfl) (fun _ _ _ h => h) (Or.inl ⟨by rfl, ?_⟩) (by assumption) ?_
    rotate_left
    · (intro w9 hSw; go_simp; (try with_reducible rfl))
    (try simp only [Act.put, List.setIfInBounds_toArray, List.set_cons_zero, List.set_cons_succ])
    refine wpAnyH_take (i := 7) (oi := { dst := some 51, op := _, type := _, pos := _, after := _, guard := _ }) (v := ?_) rfl (by kernel_rfl) (by kernel_rfl) (by kernel_rfl) (fun _ _ _ h => h) (Or.inl ⟨by rfl, ?_⟩) (by assumption) ?_
    rotate_left
    · (intro w9 hSw; go_simp; (try with_reducible rfl))
    (try simp only [Act.put, List.setIfInBounds_toArray, List.set_cons_zero, List.set_cons_succ])
    refine wpAnyH_take (i := 8) (oi := { dst := some 52, op := _, type := _, pos := _, after := _, guard := _ }) (v := ?_) rfl (by kernel_rfl) (by kernel_rfl) (by kernel_rfl) (fun _ _ _ h => h) (Or.inl ⟨by rfl, ?_⟩) (by assumption) ?_
    rotate_left
    · (intro w9 hSw; go_simp; (try with_reducible rfl))
    (try simp only [Act.put, List.setIfInBounds_toArray, List.set_cons_zero, List.set_cons_succ])
    refine wpAnyH_take (i := 9) (oi := { dst := some 53, op := _, type := _, pos := _, after := _, guard := _ }) (v := ?_) rfl (by kernel_rfl) (by kernel_rfl) (by kernel_rfl) (fun _ _ _ h => h) (Or.inl ⟨by rfl, ?_⟩) (by assumption) ?_
    rotate_left
    · (intro w9 hSw; go_simp; (try with_reducible rfl))
    (try simp only [Act.put, List.setIfInBounds_toArray, List.set_cons_zero, List.set_cons_succ])
    refine wpAnyH_take (i := 10) (oi := { dst := some 54, op := _, type := _, pos := _, after := _, guard := _ }) (v := ?_) rfl (by kernel_rfl) (by kernel_rfl) (by kernel_rfl) (fun _ _ _ h => h) (Or.inl ⟨by rfl, ?_⟩) (by assumption) ?_
    rotate_left
    · (intro w9 hSw; go_simp; (try with_reducible rfl))
    (try simp only [Act.put, List.setIfInBounds_toArray, List.set_cons_zero, List.set_cons_succ])
    refine wpAnyH_take (i := 11) (oi := { dst := some 55, op := _, type := _, pos := _, after := _, guard := _ }) (v := ?_) rfl (by kernel_rfl) (by kernel_rfl) (by kernel_rfl) (fun _ _ _ h => h) (Or.inl ⟨by rfl, ?_⟩) (by assumption) ?_
    rotate_left
    · (intro w9 hSw; go_simp; (try with_reducible rfl))
    (try simp only [Act.put, List.setIfInBounds_toArray, List.set_cons_zero, List.set_cons_succ])
    refine wpAnyH_take (i := 12) (oi := { dst := some 56, op := _, type := _, pos := _, after := _, guard := _ }) (v := ?_) rfl (by kernel_rfl) (by kernel_rfl) (by kernel_rfl) (fun _ _ _ h => h) (Or.inl ⟨by rfl, ?_⟩) (by assumption) ?_
    rotate_left
    · (intro w9 hSw; go_simp; (try with_reducible rfl))
    (try simp only [Act.put, List.setIfInBounds_toArray, List.set_cons_zero, List.set_cons_succ])
    refine wpAnyH_take (i := 13) (oi := { dst := some 57, op := _, type := _, pos := _, after := _, guard := _ }) (v := ?_) rfl (by kernel_rfl) (by kernel_rfl) (by kernel_rfl) (fun _ _ _ h => h) (Or.inl ⟨by rfl, ?_⟩) (by assumption) ?_
    rotate_left
    · (intro w9 hSw; go_simp; (try with_reducible rfl))
    (try simp only [Act.put, List.setIfInBounds_toArray, List.set_cons_zero, List.set_cons_succ])
    refine wpAnyH_ready (rs := [14]) (by kernel_rfl) (by simp) ?_
    refine AllReadyH.cons (o := { dst := some 58, op := _, type := _, pos := _, after := _, guard := _ }) rfl (fun K hK => ?_) AllReadyH.nil
    go_simp
    refine (HSB.out _ hHeld).mono ?_
    rintro e wB ⟨gB, rfl, hgB, sB, kB⟩
    have SBB := hidMk sB
    have KBB := hidMk (hHeld.trans kB)
    clear sB kB
    (try go_wp2_with fail)
    refine hK.out _ _ ?_ (fun hHeld => ?_)
    · first | exact KEE.out | exact KBB.out
    clear hK K
    (try simp only [Act.put, List.setIfInBounds_toArray, List.set_cons_zero, List.set_cons_succ])
    refine wpAnyH_ready (rs := [15]) (by kernel_rfl) (by simp) ?_
    refine AllReadyH.cons (o := { dst := some 59, op := _, type := _, pos := _, after := _, guard := _ }) rfl (fun K hK => ?_) AllReadyH.nil
    go_simp
    refine (HEQ.out _ _ SBB.out KBB.out).mono ?_
    rintro e wE ⟨rfl, kE⟩
    have KEE := hidMk (KBB.out.trans kE)
    clear kE
    (try go_wp2_with fail)
    refine hK.out _ _ ?_ (fun hHeld => ?_)
    · first | exact KEE.out | exact KBB.out
    clear hK K
    (try simp only [Act.put, List.setIfInBounds_toArray, List.set_cons_zero, List.set_cons_succ])
    refine wpAnyH_take (i := 16) (oi := { dst := some 60, op := _, type := _, pos := _, after := _, guard := _ }) (v := ?_) rfl (by kernel_rfl) (by kernel_rfl) (by kernel_rfl) (fun _ _ _ h => h) (Or.inl ⟨by rfl, ?_⟩) (by assumption) ?_
    rotate_left
    · (intro w9 hSw; go_simp; (try with_reducible rfl))
    (try simp only [Act.put, List.setIfInBounds_toArray, List.set_cons_zero, List.set_cons_succ])
    refine wpAnyH_take (i := 17) (oi := { dst := some 61, op := _, type := _, pos := _, after := _, guard := _ }) (v := ?_) rfl (by kernel_rfl) (by kernel_rfl) (by kernel_rfl) (fun _ _ _ h => h) (Or.inl ⟨by rfl, ?_⟩) (by assumption) ?_
    rotate_left
    · (intro w9 hSw; go_simp; (try with_reducible rfl))
    (try simp only [Act.put, List.setIfInBounds_toArray, List.set_cons_zero, List.set_cons_succ])
    refine wpAnyH_done (by kernel_rfl) ?_ _
    go_wp2_with fail
    go_ret3
    exact GetP.bad HE.out (by decide) (HK1.out.trans hHeld)
end Go.Proofs.Ytapcmkhpbdphoaa
