/- log: the blocks that bytes are cut into. -/
import Derived.Test.YtapcmkhpbdphoaaLg2
namespace Go.Proofs.Ytapcmkhpbdphoaa
open Go.RowKit Go.Maps Go.Shelf
set_option linter.unusedSimpArgs false
set_option linter.unusedVariables false
attribute [local go_sem] Oper.semAt_some

set_option maxHeartbeats 4000000 in
set_option maxRecDepth 100000 in
theorem blocks_it {l vb xb xc m M : Nat} (W : World) (J Jx : Nat → World → Prop) (hm : m ≤ 1000) (hM1 : M * 32 < m + 32) (hM2 : m ≤ M * 32) (hc : m ≤ xc) (hcm : xc ≤ 9223372036854775807)
    (hJs : ∀ j X, J j X → X.cell? ⟨vb, 0, none⟩ = some (.slice (some ⟨xb, 0, none⟩) m xc))
    (n : Nat) (hY : ∀ (j k : Nat) X, J j X → j < M → (k = if j * 32 + 32 ≤ m then 32 else m - j * 32) → YieldAt Fence.wide (n - 1) Try.prog l #[.int .i64 (j : Nat), .slice (some ⟨xb, j * 32, none⟩) k k] X fun e X' => (e = .returned (.bool true) ∧ J (j + 1) X') ∨ (e = .returned (.bool false) ∧ Jx (j + 1) X'))
    (h0 : J 0 W) : CallsIn Fence.wide n Try.prog 42 #[.func (.yield l) #[] #[], .pointer (some ⟨vb, 0, none⟩)] W fun e X' => (∃ v, e = .returned v) ∧ (J M X' ∨ ∃ j, Jx j X') := by
  have HJS := hidMk hJs
  have HY := hidMk hY
  have HJ0 := hidMk h0
  have HM1 := hidMk hM1
  have HM2 := hidMk hM2
  clear hJs hY h0 hM1 hM2
  refine callsIn_of_wp Try.func42 rfl trivial ?_ rfl
  simp only [Try.ntmps42, List.size_toArray, List.length_cons, List.length_nil, Nat.reduceAdd, Nat.reduceSub, Array.replicate_succ, Array.replicate_zero, List.push_toArray, List.append_toArray, List.nil_append, List.cons_append]
  gi_wp2
  gi_loopw [3] (fun s wr => ∃ j : Nat, j ≤ M ∧ s = .int .i64 j ∧ Hid (J j wr)) (fun s _ => M - (intOf s).toNat)
  case atStart => exact ⟨0, by omega, rfl, HJ0⟩
  case round =>
    clear HJ0
    obtain ⟨j, hjm, rfl, HS⟩ := hrel
    have c0 := HJS.out _ _ HS.out
    have hw1 : wrap64 ((j : Int) * 32) = (j : Int) * 32 := by have := HM1.out; unfold wrap64; omega
    by_cases hj : j < M
    · have hj2 : j * 32 < m := by have := HM1.out; have := HM2.out; omega
      have hj' : (j : Int) * 32 < (m : Int) := by omega
      have hj3 : (j : Int) * 32 ≤ (xc : Int) := by omega
      by_cases hf : j * 32 + 32 ≤ m
      · obtain ⟨fn, tmps, assign, body, hy, hR⟩ := HY.out j 32 _ HS.out hj (by rw [if_pos hf])
        have HR := hidMk hR
        have hf1 : (j : Int) * 32 + 32 ≤ (m : Int) := by omega
        have hf2 : (j : Int) * 32 + 32 ≤ (xc : Int) := by omega
        clear hR HS
        gi_wp2
        refine ⟨fun e => (by cases e), ?_⟩
        refine HR.out.mono ?_
        rintro e X' (⟨rfl, hJ'⟩ | ⟨rfl, hJ'⟩)
        · have HF := hidMk hJ'
          clear hJ' HR
          gi_wp2
          go_roundw
          case rel => exact ⟨j + 1, by omega, by go_num, HF⟩
          case measure => simp [intOf]; omega
        · have HF := hidMk hJ'
          clear hJ' HR
          gi_wp2
          refine bodyPost_ret (v := .tuple #[]) (results_none rfl _ _ _) rfl ?_
          exact ⟨⟨_, rfl⟩, .inr ⟨_, HF.out⟩⟩
      · obtain ⟨fn, tmps, assign, body, hy, hR⟩ := HY.out j (m - j * 32) _ HS.out hj (by rw [if_neg hf])
        have HR := hidMk hR
        have hf1 : (m : Int) < (j : Int) * 32 + 32 := by omega
        have hmc : (m : Int) ≤ (xc : Int) := by omega
        clear hR HS
        gi_wp2
        refine ⟨fun e => (by cases e), ?_⟩
        refine HR.out.mono ?_
        rintro e X' (⟨rfl, hJ'⟩ | ⟨rfl, hJ'⟩)
        · have HF := hidMk hJ'
          clear hJ' HR
          gi_wp2
          go_roundw
          case rel => exact ⟨j + 1, by omega, by go_num, HF⟩
          case measure => simp [intOf]; omega
        · have HF := hidMk hJ'
          clear hJ' HR
          gi_wp2
          refine bodyPost_ret (v := .tuple #[]) (results_none rfl _ _ _) rfl ?_
          exact ⟨⟨_, rfl⟩, .inr ⟨_, HF.out⟩⟩
    · have hje : j = M := by omega
      subst hje
      have hj' : ¬ ((j : Int) * 32 < (m : Int)) := by have := HM2.out; omega
      gi_wp2
      go_end0
      exact ⟨⟨_, rfl⟩, .inl HS.out⟩
end Go.Proofs.Ytapcmkhpbdphoaa
