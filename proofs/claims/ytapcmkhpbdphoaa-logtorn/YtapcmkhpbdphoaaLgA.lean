/- log: what becomes of a file while a record is added. -/
import Derived.Test.YtapcmkhpbdphoaaLg7
namespace Go.Proofs.Ytapcmkhpbdphoaa
open Go.RowKit Go.Maps
set_option linter.unusedSimpArgs false
set_option linter.unusedVariables false

/-- A file whose blocks of a log are others. -/
def newF (F : List Int) (fr to : Nat) (NR : List Int) : List Int := F.take (fr * 32) ++ (NR ++ F.drop (to * 32))
section
variable {F NR : List Int} {N fr to : Nat}
theorem newF_len (hF : F.length = N * 32) (h1 : fr ≤ to) (h2 : to ≤ N) (hN : NR.length = (to - fr) * 32) : (newF F fr to NR).length = F.length := by simp [newF]; omega
theorem newF_take (hF : F.length = N * 32) (h1 : fr ≤ to) (h2 : to ≤ N) (hN : NR.length = (to - fr) * 32) {c : Nat} (hc : c ≤ (to - fr) * 32) : (newF F fr to NR).take (fr * 32 + c) = F.take (fr * 32) ++ NR.take c := by
  unfold newF
  rw [List.take_add, List.take_left' (by simp; omega), List.drop_left' (by simp; omega), List.take_append_of_le_length (by omega)]
theorem newF_drop (hF : F.length = N * 32) (h1 : fr ≤ to) (h2 : to ≤ N) (hN : NR.length = (to - fr) * 32) {c : Nat} (hc : c ≤ (to - fr) * 32) : (newF F fr to NR).drop (fr * 32 + c) = NR.drop c ++ F.drop (to * 32) := by
  unfold newF
  rw [← List.drop_drop, List.drop_left' (by simp; omega), List.drop_append_of_le_length (by omega)]
theorem old_newF (hF : F.length = N * 32) (h1 : fr ≤ to) (h2 : to ≤ N) : newF F fr to (reg F fr to) = F := by
  unfold newF reg
  rw [show F.drop (to * 32) = (F.drop (fr * 32)).drop ((to - fr) * 32) by rw [List.drop_drop]; congr 1; omega, List.take_append_drop, List.take_append_drop]
theorem reg_newF (hF : F.length = N * 32) (h1 : fr ≤ to) (h2 : to ≤ N) (hN : NR.length = (to - fr) * 32) : reg (newF F fr to NR) fr to = NR := by
  unfold reg newF
  rw [List.drop_left' (by simp; omega), List.take_left' hN]
theorem mix_newF (hF : F.length = N * 32) (h1 : fr ≤ to) (h2 : to ≤ N) (hN : NR.length = (to - fr) * 32) {c : Nat} (hc : c ≤ (to - fr) * 32) : mix (newF F fr to NR) F (fr * 32 + c) = newF F fr to (mix NR (reg F fr to) c) := by
  have hR := reg_len hF h1 h2
  have h := newF_drop (NR := reg F fr to) hF h1 h2 hR hc
  rw [old_newF hF h1 h2] at h
  unfold mix
  rw [newF_take hF h1 h2 hN hc, h]
  unfold newF
  simp
end
/-- The record's bytes, with those ahead of them in their first block. -/
def rowX (rs : List (List Int)) (b : List Int) : List Int := (catR rs).drop ((catR rs).length / 32 * 32) ++ recB b
theorem rowX_len (rs : List (List Int)) (b : List Int) : (rowX rs b).length = (catR rs).length - (catR rs).length / 32 * 32 + (recB b).length := by simp [rowX]
theorem logB_more {L : Nat} {rs : List (List Int)} {b : List Int} (h : (catR rs).length + (recB b).length ≤ L) : logB L (rs ++ [b]) = catR rs ++ (recB b ++ zs (L - (catR rs).length - (recB b).length)) := by
  unfold logB
  rw [catR_app, catR_one, List.append_assoc, List.length_append, Nat.sub_sub]
theorem logB_row {L : Nat} {rs : List (List Int)} {b : List Int} (h : (catR rs).length + (recB b).length ≤ L) : (logB L (rs ++ [b])).drop ((catR rs).length / 32 * 32) = rowX rs b ++ zs (L - (catR rs).length - (recB b).length) := by
  rw [logB_more h, List.drop_append_of_le_length (by omega)]
  simp [rowX]
theorem zs_take {k j : Nat} (h : j ≤ k) : (zs k).take j = zs j := by unfold zs; rw [List.take_replicate]; congr 1; omega
theorem zs_drop (k j : Nat) : (zs k).drop j = zs (k - j) := by unfold zs; rw [List.drop_replicate]
theorem part_whole {Y : List Int} {k : Nat} (h : 32 ≤ Y.length + k) : whole (Y.take 32) = (Y ++ zs k).take 32 := by
  unfold whole
  by_cases h1 : 32 ≤ Y.length
  · rw [List.take_append_of_le_length h1]
    have : (Y.take 32).length = 32 := by simp; omega
    rw [this]
    simp
  · rw [List.take_of_length_le (by omega), List.take_append, List.take_of_length_le (by omega : Y.length ≤ 32), zs_take (by omega)]
    rfl
/-- Part i of it is block i of the new log. -/
theorem row_part {L i : Nat} {rs : List (List Int)} {b : List Int} (h : (catR rs).length + (recB b).length ≤ L) (hi : ((catR rs).length / 32 + i + 1) * 32 ≤ L) (hx : i * 32 ≤ (rowX rs b).length) : whole (((rowX rs b).drop (i * 32)).take 32) = ((logB L (rs ++ [b])).drop (((catR rs).length / 32 + i) * 32)).take 32 := by
  have hl := rowX_len rs b
  rw [Nat.add_mul, ← List.drop_drop, logB_row h, List.drop_append_of_le_length hx]
  refine part_whole ?_
  rw [List.length_drop]
  omega
theorem logB_take {L c : Nat} {rs : List (List Int)} {b : List Int} (h : (catR rs).length + (recB b).length ≤ L) (hc : c ≤ (catR rs).length) : (logB L (rs ++ [b])).take c = (logB L rs).take c := by
  rw [logB_more h]
  unfold logB
  rw [List.take_append_of_le_length hc, List.take_append_of_le_length hc]
theorem logB_end {L c : Nat} {rs : List (List Int)} {b : List Int} (h : (catR rs).length + (recB b).length ≤ L) (hc : (catR rs).length + (recB b).length ≤ c) : (logB L (rs ++ [b])).drop c = zs (L - c) ∧ (logB L rs).drop c = zs (L - c) := by
  constructor
  · unfold logB
    rw [catR_app, catR_one, List.drop_append, List.drop_eq_nil_of_le (by rw [List.length_append]; omega), List.nil_append, zs_drop]
    congr 1
    rw [List.length_append]
    omega
  · unfold logB
    rw [List.drop_append, List.drop_eq_nil_of_le (by omega), List.nil_append, zs_drop]
    congr 1
    omega
/-- A log that was partly written: the records from before, or these and the one that was to be added. -/
theorem mix_torn {L c : Nat} {rs : List (List Int)} {b : List Int} (hr : ∀ r ∈ rs, RecOk r) (hb : RecOk b) (h : (catR rs).length + (recB b).length ≤ L) (hc : c ≤ L) :
    AllIs (mix (logB L (rs ++ [b])) (logB L rs) c) (if (catR rs).length + (recB b).length ≤ c then rs ++ [b] else rs) (if (catR rs).length + (recB b).length ≤ c then (catR (rs ++ [b])).length else (catR rs).length) := by
  by_cases h1 : (catR rs).length + (recB b).length ≤ c
  · rw [if_pos h1, if_pos h1]
    obtain ⟨e1, e2⟩ := logB_end h h1
    rw [mix_all (by rw [e1, e2])]
    refine logB_all (fun r hr' => ?_)
    rcases List.mem_append.1 hr' with hr' | hr'
    · exact hr r hr'
    · simp at hr'; subst hr'; exact hb
  · rw [if_neg h1, if_neg h1]
    by_cases h2 : c ≤ (catR rs).length
    · rw [mix_none (logB_take h h2)]
      exact logB_all hr
    · have e : mix (logB L (rs ++ [b])) (logB L rs) c = catR rs ++ ((recB b).take (c - (catR rs).length) ++ zs (L - c)) := by
        unfold mix
        rw [logB_more h, List.take_append, List.take_of_length_le (by omega : (catR rs).length ≤ c), List.take_append_of_le_length (by omega)]
        unfold logB
        rw [List.drop_append, List.drop_eq_nil_of_le (by omega : (catR rs).length ≤ c), List.nil_append, zs_drop, List.append_assoc]
        congr 3
        omega
      rw [e]
      exact all_cat rs _ hr (torn_get b _ _ hb.1 hb.2.1 (by omega))
/-- The file behind i writes. -/
def stI (s : Bf) (G : List Int) (b i : Nat) : Bf := ⟨mix G s.F ((b + i) * 32), false, s.wt, (if s.wt then s.be - i else s.be), s.by_, s.wr + i⟩
/-- The file when the power went in the write behind i. -/
def stX (s : Bf) (G : List Int) (b i : Nat) : Bf := ⟨mix G s.F ((b + i) * 32 + s.by_.toNat), true, s.wt, (if s.wt then s.be - i else s.be), s.by_, s.wr + i + 1⟩
section
variable {s : Bf} {G : List Int} {N b i : Nat}
theorem stI_ok (hok : Ok s) (hbe : s.wt = true → (i : Int) ≤ s.be) : Ok (stI s G b i) := by
  obtain ⟨b0, b1, y0, y1, w0⟩ := hok
  refine ⟨?_, ?_, y0, y1, by show 0 ≤ s.wr + (i : Int); omega⟩
  · show 0 ≤ (if s.wt = true then s.be - i else s.be)
    split
    · have := hbe (by assumption); omega
    · exact b0
  · show (if s.wt = true then s.be - i else s.be) ≤ _
    split <;> omega
theorem stI_zero (hoff : s.off = false) (h : mix G s.F (b * 32) = s.F) : stI s G b 0 = s := by
  obtain ⟨F, off, wt, be, by_, wr⟩ := s
  dsimp only at hoff h
  subst hoff
  simp [stI, h]
theorem stI_cm : cmB (stI s G b i) = true ↔ s.wt = true ∧ s.be = i := by
  unfold cmB stI
  dsimp only
  rw [Bool.and_eq_true, decide_eq_true_iff]
  constructor
  · rintro ⟨h1, h2⟩
    rw [if_pos h1] at h2
    exact ⟨h1, by omega⟩
  · rintro ⟨h1, h2⟩
    rw [if_pos h1]
    exact ⟨h1, by omega⟩
theorem wr_at (hG : G.length = s.F.length) (hF : s.F.length = N * 32) (hi : b + i < N) (l : List Int) (hl : l.length ≤ 32) (hw : whole l = (G.drop ((b + i) * 32)).take 32) (hok : Ok s) (hbe : s.wt = true → (i : Int) ≤ s.be) :
    wrE (stI s G b i) N ((b + i : Nat) : Int) l.length = (if cmB (stI s G b i) then 21 else 0) ∧ wrS (stI s G b i) N ((b + i : Nat) : Int) l = if cmB (stI s G b i) then stX s G b i else stI s G b (i + 1) := by
  have hb : bad (stI s G b i) N ((b + i : Nat) : Int) = 0 := by
    unfold bad
    rw [if_neg (by simp [stI]), if_neg (by omega)]
  have hwl := whole_len hl
  have y0 := hok.y0
  have y1 := hok.y1
  constructor
  · unfold wrE
    rw [if_neg (fun h => h hb), if_neg (by omega)]
  · unfold wrS
    rw [if_neg (fun h => h hb), if_neg (by omega), Int.toNat_natCast]
    by_cases hc : cmB (stI s G b i) = true
    · rw [if_pos hc, if_pos hc]
      have e : putL (mix G s.F ((b + i) * 32)) ((b + i) * 32) ((whole l).take s.by_.toNat) = mix G s.F ((b + i) * 32 + s.by_.toNat) := by
        refine mix_put hG (by omega) ?_
        rw [hw, List.take_take, Nat.min_eq_left (by omega)]
      show (⟨putL (mix G s.F ((b + i) * 32)) ((b + i) * 32) ((whole l).take s.by_.toNat), true, s.wt, _, s.by_, _⟩ : Bf) = stX s G b i
      rw [e]
      rfl
    · rw [if_neg hc, if_neg hc]
      have e : putL (mix G s.F ((b + i) * 32)) ((b + i) * 32) (whole l) = mix G s.F ((b + (i + 1)) * 32) := by
        rw [show (b + (i + 1)) * 32 = (b + i) * 32 + 32 by omega]
        exact mix_put hG (by omega) hw
      have hcm : (cmS (stI s G b i)).be = (if s.wt then s.be - ((i + 1 : Nat) : Int) else s.be) := by
        have hn := mt stI_cm.2 hc
        show (if s.wt = true ∧ (if s.wt then s.be - i else s.be) ≠ 0 then (if s.wt then s.be - i else s.be) - 1 else (if s.wt then s.be - i else s.be)) = _
        by_cases h1 : s.wt = true
        · have h2 : ¬ s.be = i := fun h2 => hn ⟨h1, h2⟩
          simp only [if_pos h1]
          rw [if_pos ⟨h1, by omega⟩]
          omega
        · simp only [if_neg h1]
          rw [if_neg (fun h => h1 h.1)]
      show (⟨putL (mix G s.F ((b + i) * 32)) ((b + i) * 32) (whole l), false, s.wt, _, s.by_, s.wr + (i : Int) + 1⟩ : Bf) = ⟨mix G s.F ((b + (i + 1)) * 32), false, s.wt, _, s.by_, s.wr + ((i + 1 : Nat) : Int)⟩
      rw [e, hcm, show s.wr + ((i + 1 : Nat) : Int) = s.wr + (i : Int) + 1 by omega]
end
end Go.Proofs.Ytapcmkhpbdphoaa
