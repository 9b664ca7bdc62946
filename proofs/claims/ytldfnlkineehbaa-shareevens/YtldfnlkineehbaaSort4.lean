/- The library's symMergeCmpFunc where one side has one element. -/
import Derived.Test.YtldfnlkineehbaaSort3
namespace Go.Proofs.Ytldfnlkineehbaa
open Go.RowKit
set_option linter.unusedSimpArgs false
set_option linter.unusedVariables false

theorem rot_one_step (d : Nat → Int) (a k : Nat) (h : a ≤ k) : swp (rot d a (a + 1) (k + 1)) k (k + 1) = rot d a (a + 1) (k + 2) := by
  funext x
  unfold swp rot
  repeat' split
  all_goals first | rfl | (exfalso; omega) | (congr 1; omega)
theorem rot_one_start (d : Nat → Int) (a : Nat) : rot d a (a + 1) (a + 1) = d := by
  funext x
  unfold rot
  repeat' split
  all_goals first | rfl | (exfalso; omega) | (congr 1; omega)
/-- One element on the left, behind all of the right that are ahead of it. -/
theorem one_left {K : Int → Int} {d : Nat → Int} {a i b : Nat} (h1 : a + 1 ≤ i) (h2 : i ≤ b) (hs : Srt K d (a + 1) b) (hid : ∀ j, a + 1 ≤ j → j < b → d a < d j)
    (hlo : ∀ k, a + 1 ≤ k → k < i → K (d a) < K (d k)) (hhi : ∀ k, i ≤ k → k < b → K (d k) ≤ K (d a)) : Srt K (rot d a (a + 1) i) a b := by
  intro p q g1 g2 g3
  unfold rot
  repeat' split
  all_goals first
    | (exfalso; omega)
    | exact hs _ _ (by omega) (by omega) (by omega)
    | (refine LT.right ?_; rw [show q - (i - (a + 1)) = a by omega]; exact hlo _ (by omega) (by omega))
    | (rw [show p - (i - (a + 1)) = a by omega]; exact LT.left (hid _ (by omega) (by omega)) (Int.not_lt.2 (hhi _ (by omega) (by omega))))
    | exact (LT.right (hlo _ (by omega) (by omega))).trans (LT.left (hid _ (by omega) (by omega)) (Int.not_lt.2 (hhi _ (by omega) (by omega))))
theorem key_le {K : Int → Int} {x y : Int} (h : LT K x y) : K y ≤ K x := by unfold LT at h; omega

/-- What a merge makes. -/
def Merged (w0 : World) (B n a b : Nat) (K : Int → Int) (d : Nat → Int) (w' : World) : Prop := ∃ f, AW w0 B n f w' ∧ Img a b d f ∧ Srt K f a b

set_option maxHeartbeats 2000000 in
set_option maxRecDepth 100000 in
theorem symMerge_left (w0 : World) (B n a m b R : Nat) (K : Int → Int) (d : Nat → Int) (w : World) (h : AW w0 B n d w) (hc : Cmp w0 B n R K) (hrng : ∀ i, i < n → 0 ≤ d i ∧ d i < n) (ham : m = a + 1) (hmb : m < b) (hb : b ≤ n) (hn : n ≤ 1000000)
    (hs2 : Srt K d m b) (hid : ∀ i j, a ≤ i → i < m → m ≤ j → j < b → d i < d j) :
    Calls Try.prog 53 #[.slice (some ⟨B, 0, none⟩) n n, .int .i64 a, .int .i64 m, .int .i64 b, .func (.func 47) #[] #[.pointer (some ⟨R, 0, none⟩)]] w fun e w' =>
      e = .returned (.tuple #[]) ∧ Merged w0 B n a b K d w' := by
  have HC := hidMk hc
  have HI := hidMk hid
  have HS := hidMk hs2
  have HF := hidMk hrng
  clear hc hid hs2 hrng
  have ht : (((m : Int) - (a : Int) == 1) = true) := by rw [beq_iff_eq]; omega
  have HAM := hidMk ham
  have ham1 : a < m := by omega
  clear ham
  go_enter Try.func53, Try.ntmps53
  go_wp2
  go_loopw [10, 11] (fun x y wr => ∃ i j : Nat, m ≤ i ∧ i ≤ j ∧ j ≤ b ∧ x = .int .i64 i ∧ y = .int .i64 j ∧ (∀ k, m ≤ k → k < i → K (d a) < K (d k)) ∧ (∀ k, j ≤ k → k < b → K (d k) ≤ K (d a)) ∧ AW w0 B n d wr) (fun x y _ => (intOf y).toNat - (intOf x).toNat)
  case atStart => exact ⟨m, b, Nat.le_refl _, by omega, Nat.le_refl _, rfl, rfl, fun k k1 k2 => absurd k2 (by omega), fun k k1 k2 => absurd k2 (by omega), h⟩
  case round =>
    obtain ⟨i, j, hmi, hij, hjb, rfl, rfl, hlo, hhi, hw⟩ := hrel
    have HLO := hidMk hlo
    have HHI := hidMk hhi
    clear hlo hhi h
    by_cases hlt : i < j
    · have c1 := hw.cell ((i + j) / 2) (by omega)
      have c2 := hw.cell a (by omega)
      have rx := HF.out ((i + j) / 2) (by omega)
      have ry := HF.out a (by omega)
      have C := fun q => HC.out (wr.drewN q) (below_drewN hw.below q) (d ((i + j) / 2)) (d a) rx.1 rx.2 ry.1 ry.2
      clear rx ry
      have hx1 : (((i + j) / 2 : Nat) : Int) < (n : Int) := by omega
      have hx2 : (a : Int) < (n : Int) := by omega
      obtain ⟨c, hcc⟩ : ∃ c, (i + j) / 2 = c := ⟨_, rfl⟩
      by_cases hk : K (d a) < K (d ((i + j) / 2))
      · have hz := cf_neg hk
        generalize cfOf (K (d a)) (K (d ((i + j) / 2))) = z at *
        have HC1 := hidMk C
        have HK := hidMk hk
        have HCC := hidMk hcc
        clear C hk hcc
        go_wp2
        go_quiet ((go_at_call 47; exact Calls.quiet_of (HC1.out _)))
        go_wp2
        refine ⟨⟨(i + j) / 2 + 1, j, by omega, by omega, hjb, by first | (congr 1; omega) | congr 1, rfl, fun k k1 k2 => ?_, HHI.out, hw.drewN _⟩, by simp [intOf]; omega⟩
        by_cases e : k = (i + j) / 2
        · rw [e]; exact HK.out
        · have := key_le (HS.out k ((i + j) / 2) k1 (by omega) (by omega))
          have := HK.out
          omega
      · have hz := cf_pos hk
        generalize cfOf (K (d a)) (K (d ((i + j) / 2))) = z at *
        have HC1 := hidMk C
        have HK := hidMk (Int.not_lt.1 hk)
        clear C hk hcc
        go_wp2
        go_quiet ((go_at_call 47; exact Calls.quiet_of (HC1.out _)))
        go_wp2
        refine ⟨⟨i, (i + j) / 2, hmi, by omega, by omega, rfl, by first | (congr 1; omega) | congr 1, HLO.out, fun k k1 k2 => ?_, hw.drewN _⟩, by simp [intOf]; omega⟩
        by_cases e : k = (i + j) / 2
        · rw [e]; exact HK.out
        · have := key_le (HS.out ((i + j) / 2) k (by omega) (by omega) k2)
          have := HK.out
          omega
    · have e : j = i := by omega
      subst e
      clear hij hlt
      have HR := hidMk (one_left (a := a) (i := j) (b := b) (by have := HAM.out; omega) hjb (HAM.out ▸ HS.out) (fun k k1 k2 => HI.out a k (Nat.le_refl _) ham1 (by have := HAM.out; omega) k2) (fun k k1 k2 => HLO.out k (by have := HAM.out; omega) k2) HHI.out)
      clear HLO HHI
      go_wp2
      go_loopw [13] (fun x wr => ∃ k : Nat, a ≤ k ∧ k + 1 ≤ j ∧ x = .int .i64 k ∧ AW w0 B n (rot d a (a + 1) (k + 1)) wr) (fun x _ => j - (intOf x).toNat)
      case atStart => exact ⟨a, Nat.le_refl _, by have := HAM.out; omega, rfl, by rw [rot_one_start]; exact hw⟩
      case round =>
        obtain ⟨k, hak, hkj, rfl, hwk⟩ := hrel
        clear hw
        by_cases hlt : k + 1 < j
        · have c1 := hwk.cell k (by omega)
          have c2 := hwk.cell (k + 1) (by omega)
          have f1 := hwk.fr k (by omega)
          have f2 := hwk.fr (k + 1) (by omega)
          have S0 := (hwk.swap k (k + 1) (by omega) (by omega)).drew
          rw [rot_one_step d a k hak] at S0
          have S := hidMk S0
          clear S0 hwk
          generalize rot d a (a + 1) (k + 1) k = x at *
          generalize rot d a (a + 1) (k + 1) (k + 1) = y at *
          go_wp2
          go_region
          go_wp2
          exact ⟨⟨k + 1, by omega, by omega, by go_num, S.out⟩, by simp [intOf]; omega⟩
        · have e : k + 1 = j := by omega
          go_wp2
          refine bodyPost_ret (v := .tuple #[]) (by simp [results, Try.results53, go_sem]) rfl ⟨rfl, ?_⟩
          exact ⟨_, hwk, by rw [e]; exact (rot_img d a (a + 1) j (by omega) (by have := HAM.out; omega)).wider (Nat.le_refl _) hjb, by rw [e]; exact HR.out⟩

set_option maxHeartbeats 2000000 in
set_option maxRecDepth 100000 in
theorem symMerge_right (w0 : World) (B n a m b R : Nat) (K : Int → Int) (d : Nat → Int) (w : World) (h : AW w0 B n d w) (hc : Cmp w0 B n R K) (hrng : ∀ i, i < n → 0 ≤ d i ∧ d i < n) (ham : a + 1 < m) (hmb : b = m + 1) (hb : b ≤ n) (hn : n ≤ 1000000)
    (hs1 : Srt K d a m) (hid : ∀ i j, a ≤ i → i < m → m ≤ j → j < b → d i < d j) :
    Calls Try.prog 53 #[.slice (some ⟨B, 0, none⟩) n n, .int .i64 a, .int .i64 m, .int .i64 b, .func (.func 47) #[] #[.pointer (some ⟨R, 0, none⟩)]] w fun e w' =>
      e = .returned (.tuple #[]) ∧ Merged w0 B n a b K d w' := by
  have HC := hidMk hc
  have HI := hidMk hid
  have HS := hidMk hs1
  have HF := hidMk hrng
  clear hc hid hs1 hrng
  have ht : (((m : Int) - (a : Int) == 1) = false) := by rw [beq_eq_false_iff_ne]; omega
  have ht2 : (((b : Int) - (m : Int) == 1) = true) := by rw [beq_iff_eq]; omega
  have HMB := hidMk hmb
  have hmb1 : m < b := by omega
  clear hmb
  go_enter Try.func53, Try.ntmps53
  go_wp2
  go_loopw [14, 15] (fun x y wr => ∃ i j : Nat, a ≤ i ∧ i ≤ j ∧ j ≤ m ∧ x = .int .i64 i ∧ y = .int .i64 j ∧ (∀ k, a ≤ k → k < i → K (d m) ≤ K (d k)) ∧ (∀ k, j ≤ k → k < m → K (d k) < K (d m)) ∧ AW w0 B n d wr) (fun x y _ => (intOf y).toNat - (intOf x).toNat)
  case atStart => exact ⟨a, m, Nat.le_refl _, by omega, Nat.le_refl _, rfl, rfl, fun k k1 k2 => absurd k2 (by omega), fun k k1 k2 => absurd k2 (by omega), h⟩
  case round =>
    obtain ⟨i, j, hmi, hij, hjb, rfl, rfl, hlo, hhi, hw⟩ := hrel
    have HLO := hidMk hlo
    have HHI := hidMk hhi
    clear hlo hhi h
    by_cases hlt : i < j
    · have c1 := hw.cell ((i + j) / 2) (by omega)
      have c2 := hw.cell m (by omega)
      have rx := HF.out ((i + j) / 2) (by omega)
      have ry := HF.out m (by omega)
      have C := fun q => HC.out (wr.drewN q) (below_drewN hw.below q) (d m) (d ((i + j) / 2)) ry.1 ry.2 rx.1 rx.2
      clear rx ry
      have hx1 : (((i + j) / 2 : Nat) : Int) < (n : Int) := by omega
      have hx2 : (m : Int) < (n : Int) := by omega
      by_cases hk : K (d ((i + j) / 2)) < K (d m)
      · have hz := cf_neg hk
        generalize cfOf (K (d ((i + j) / 2))) (K (d m)) = z at *
        have HC1 := hidMk C
        have HK := hidMk hk
        clear C hk
        go_wp2
        go_quiet ((go_at_call 47; exact Calls.quiet_of (HC1.out _)))
        go_wp2
        refine ⟨⟨i, (i + j) / 2, hmi, by omega, by omega, rfl, by first | (congr 1; omega) | congr 1, HLO.out, fun k k1 k2 => ?_, hw.drewN _⟩, by simp [intOf]; omega⟩
        by_cases e : k = (i + j) / 2
        · rw [e]; exact HK.out
        · have := key_le (HS.out ((i + j) / 2) k (by omega) (by omega) k2)
          have := HK.out
          omega
      · have hz := cf_pos hk
        generalize cfOf (K (d ((i + j) / 2))) (K (d m)) = z at *
        have HC1 := hidMk C
        have HK := hidMk (Int.not_lt.1 hk)
        have hzb : (!decide (z < 0)) = true := by simp; omega
        clear C hk
        go_wp2
        go_quiet ((go_at_call 47; exact Calls.quiet_of (HC1.out _)))
        go_wp2
        refine ⟨⟨(i + j) / 2 + 1, j, by omega, by omega, hjb, by first | (congr 1; omega) | congr 1, rfl, fun k k1 k2 => ?_, HHI.out, hw.drewN _⟩, by simp [intOf]; omega⟩
        by_cases e : k = (i + j) / 2
        · rw [e]; exact HK.out
        · have := key_le (HS.out k ((i + j) / 2) k1 (by omega) (by omega))
          have := HK.out
          omega
    · have e : j = i := by omega
      subst e
      clear hij hlt
      have HR := hidMk (ins_srt (K := K) (f := d) (a := a) (j := j) (i := m) HS.out hmi hjb (fun k k1 k2 => LT.right (HHI.out k k1 k2)) (fun k k1 k2 => LT.left (HI.out k m k1 (by omega) (Nat.le_refl _) hmb1) (Int.not_lt.2 (HLO.out k k1 k2))))
      clear HLO HHI
      go_wp2
      go_loopw [17] (fun x wr => ∃ k : Nat, j ≤ k ∧ k ≤ m ∧ x = .int .i64 k ∧ AW w0 B n (ins d k m) wr) (fun x _ => (intOf x).toNat)
      case atStart => exact ⟨m, hjb, Nat.le_refl _, rfl, by rw [ins_self]; exact hw⟩
      case round =>
        obtain ⟨k, hak, hkj, rfl, hwk⟩ := hrel
        clear hw
        by_cases hlt : j < k
        · have c1 := hwk.cell k (by omega)
          have c2 := hwk.cell (k - 1) (by omega)
          have f1 := hwk.fr k (by omega)
          have f2 := hwk.fr (k - 1) (by omega)
          have S0 := (hwk.swap k (k - 1) (by omega) (by omega)).drew
          rw [ins_swap d k m (by omega) hkj] at S0
          have S := hidMk S0
          clear S0 hwk
          generalize ins d k m k = x at *
          generalize ins d k m (k - 1) = y at *
          go_wp2
          go_region
          go_wp2
          exact ⟨⟨k - 1, by omega, by omega, by first | (congr 1; omega) | congr 1, S.out⟩, by simp [intOf]; omega⟩
        · have e : k = j := by omega
          subst e
          go_wp2
          refine bodyPost_ret (v := .tuple #[]) (by simp [results, Try.results53, go_sem]) rfl ⟨rfl, ?_⟩
          exact ⟨_, hwk, by rw [HMB.out]; exact ins_img d a k m hmi hkj, by rw [HMB.out]; exact HR.out⟩
end Go.Proofs.Ytldfnlkineehbaa
