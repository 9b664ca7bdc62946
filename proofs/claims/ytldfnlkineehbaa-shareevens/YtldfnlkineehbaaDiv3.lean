/- bits.Div64, whole: the walk. -/
import Derived.Test.YtldfnlkineehbaaDiv2
namespace Go.Proofs.Ytldfnlkineehbaa
open Go.RowKit
set_option linter.unusedSimpArgs false
set_option linter.unusedVariables false

theorem norm_of {hi lo y : Int} {s : Nat} {Y U L : Int} (h : Shifted hi lo y s Y U L) : Norm U (L / 4294967296) (Y / 4294967296) (Y % 4294967296) := by
  obtain ⟨_, _, _, y1, y2, l0, l1, u0, ul, _, _⟩ := h
  exact ⟨u0, by omega, by omega, by omega, by omega, by omega, by omega, by omega⟩

theorem down_of {U d v1 v0 Q R : Int} (n : Norm U d v1 v0) (h : DInv U d v1 v0 Q R) (h0 : 0 ≤ Q) (r0 : 0 ≤ R) (r1 : R < 4294967296)
    (t : 4294967296 ≤ Q ∨ (Q < 4294967296 ∧ IntKind.u64.wrap (IntKind.u64.wrap (4294967296 * R) + d) < IntKind.u64.wrap (Q * v0))) : DInv U d v1 v0 (Q - 1) (R + v1) ∧ 1 ≤ Q := by
  refine dinv_down n h ?_
  rcases t with t | ⟨t1, t2⟩
  · exact .inl t
  · right
    obtain ⟨q1, q2⟩ := test_eq h0 t1 r0 r1 n.d0 n.dl n.b0 n.bl
    rw [q1, q2] at t2
    exact t2
theorem stop_of {U d v1 v0 Q R : Int} (n : Norm U d v1 v0) (h : DInv U d v1 v0 Q R) (h0 : 0 ≤ Q) (h1 : Q < 4294967296) (r0 : 0 ≤ R) (r1 : R < 4294967296)
    (t : IntKind.u64.wrap (Q * v0) ≤ IntKind.u64.wrap (IntKind.u64.wrap (4294967296 * R) + d)) : Q = digit U d v1 v0 := by
  obtain ⟨q1, q2⟩ := test_eq h0 h1 r0 r1 n.d0 n.dl n.b0 n.bl
  rw [q1, q2] at t
  exact dinv_stop n h t

set_option maxHeartbeats 2000000 in
theorem bits_Div64_high (hi lo y : Int) (s : Nat) (w : World) (Y U L v1 v0 u1 u0 : Int) (hh : isU hi) (hl : isU lo) (hy : isU y) (h0 : 1 ≤ hi) (hlt : hi < y) (hs : s ≤ 63) (hb : bitLen y.toNat = 64 - s)
    (e1 : IntKind.u64.wrap (y * 2 ^ s) = Y) (e2 : bits .or .u64 (IntKind.u64.wrap (hi * 2 ^ s)) (lo / 2 ^ (64 - s)) = U) (e3 : IntKind.u64.wrap (lo * 2 ^ s) = L)
    (e4 : Y / 4294967296 = v1) (e5 : bits .and .u64 Y 4294967295 = v0) (e6 : L / 4294967296 = u1) (e7 : bits .and .u64 L 4294967295 = u0) (n : Norm U u1 v1 v0) (hY : v1 * 4294967296 + v0 = Y) (m0 : 0 ≤ u0) (m1 : u0 < 4294967296) :
    Calls Try.prog 39 #[.int .u64 hi, .int .u64 lo, .int .u64 y] w fun e w' => e = .returned (.tuple #[.int .u64 (digit U u1 v1 v0 * 4294967296 + digit (left U u1 v1 v0) u0 v1 v0), .int .u64 (left (left U u1 v1 v0) u0 v1 v0 / 2 ^ s)]) ∧ w' = w := by
  have b3 : (y == 0) = false := by simp; omega
  have b4 : ¬ y ≤ hi := by omega
  have b5 : (hi == 0) = false := by simp; omega
  have b6 := hh.2
  have b7 := hl.1
  have b8 := hl.2
  have b9 := hy.2
  obtain ⟨n1, n2, n3, n4, n5, n6, n7, n8⟩ := id n
  have n9 : U ≤ 18446744073709551615 := by omega
  have hc := bits_LeadingZeros64 y s w hy hs hb
  have HC := hidMk hc
  have HY := hidMk hY
  clear hc hb n2 hY
  go_enter Try.func39, Try.ntmps39
  go_wp2_with fail
  refine HC.out.mono ?_
  rintro e w1 ⟨rfl, rfl⟩
  clear HC
  go_wp2_with fail
  clear e1 e2 e3 e4 e5 e6 e7 b3 b4 b5 b6 b7 b8 b9
  rw [rest_eq n]
  go_loop [15, 16] (fun q r => ∃ Q R : Int, q = .int .u64 Q ∧ r = .int .u64 R ∧ 0 ≤ Q ∧ Q ≤ 4294967297 ∧ 0 ≤ R ∧ R < 4294967296 ∧ DInv U u1 v1 v0 Q R) (fun q _ => (intOf q).toNat)
  case atStart =>
    obtain ⟨d1, d2, d3, d4, d5⟩ := dinv_start n
    exact ⟨_, _, rfl, rfl, d2, d3, d4, by omega, d1⟩
  case round =>
    obtain ⟨Q, R, rfl, rfl, hq0, hq1, hr0, hr1, hinv⟩ := hrel
    by_cases hQ : 4294967296 ≤ Q
    · obtain ⟨hd, hp⟩ := down_of n hinv hq0 hr0 hr1 (.inl hQ)
      by_cases hR : 4294967296 ≤ R + v1
      · have hD : Q - 1 = digit U u1 v1 v0 := dinv_break n hd (by omega) (by omega) hR
        have hs1 := digit_small n
        have hs0 := digit_pos n
        have hT := left_eq n
        rw [HY.out] at hT
        have nT := left_norm n m0 m1
        clear hinv hd
        generalize hD0 : digit U u1 v1 v0 = D at *
        generalize hT0 : left U u1 v1 v0 = T at *
        have HD := hidMk hD0
        have HT := hidMk hT0
        clear hD0 hT0
        obtain ⟨t1, t2, _, _, _, _, _, _⟩ := id nT
        have t3 : T ≤ 18446744073709551615 := by omega
        clear t2
        go_wp2_with fail
        rw [rest_eq nT]
        clear hT
        go_loop [18, 16] (fun q r => ∃ Q R : Int, q = .int .u64 Q ∧ r = .int .u64 R ∧ 0 ≤ Q ∧ Q ≤ 4294967297 ∧ 0 ≤ R ∧ R < 4294967296 ∧ DInv T u0 v1 v0 Q R) (fun q _ => (intOf q).toNat)
        case atStart =>
          obtain ⟨d1, d2, d3, d4, d5⟩ := dinv_start nT
          exact ⟨_, _, rfl, rfl, d2, d3, d4, by omega, d1⟩
        case round =>
          obtain ⟨F, S, rfl, rfl, fq0, fq1, fr0, fr1, finv⟩ := hrel
          by_cases fQ : 4294967296 ≤ F
          · obtain ⟨fd, fp⟩ := down_of nT finv fq0 fr0 fr1 (.inl fQ)
            by_cases fR : 4294967296 ≤ S + v1
            · have fD : F - 1 = digit T u0 v1 v0 := dinv_break nT fd (by omega) (by omega) fR
              have gs1 := digit_small nT
              have gs0 := digit_pos nT
              have gT := left_eq nT
              rw [HY.out] at gT
              clear finv fd
              generalize hE : digit T u0 v1 v0 = E at *
              generalize hZ : left T u0 v1 v0 = Z at *
              have HE := hidMk hE
              have HZ := hidMk hZ
              clear hE hZ
              go_wp2_with fail
              go_ret2
              exact ⟨ret_two (by rw [HD.out, HT.out, HE.out]) (by rw [HT.out, HZ.out]), rfl⟩
            · go_wp2_with fail
              exact ⟨⟨F - 1, S + v1, rfl, rfl, by omega, by omega, by omega, by omega, fd⟩, by simp [intOf]; omega⟩
          · obtain ⟨ft1, _⟩ := test_eq fq0 (by omega) fr0 fr1 nT.d0 nT.dl n7 n8
            obtain ⟨N, hN⟩ : ∃ N, F * v0 = N := ⟨_, rfl⟩
            have ft3 : IntKind.u64.wrap (F * v0) = N := ft1.trans hN
            clear ft1
            by_cases fT : 4294967296 * S + u0 < N
            · obtain ⟨fd, fp⟩ := dinv_down nT finv (.inr (by rw [hN]; exact fT))
              clear hN
              by_cases fR : 4294967296 ≤ S + v1
              · have fD : F - 1 = digit T u0 v1 v0 := dinv_break nT fd (by omega) (by omega) fR
                have gs1 := digit_small nT
                have gs0 := digit_pos nT
                have gT := left_eq nT
                rw [HY.out] at gT
                clear finv fd
                generalize hE : digit T u0 v1 v0 = E at *
                generalize hZ : left T u0 v1 v0 = Z at *
                have HE := hidMk hE
                have HZ := hidMk hZ
                clear hE hZ
                go_wp2_with fail
                go_ret2
                exact ⟨ret_two (by rw [HD.out, HT.out, HE.out]) (by rw [HT.out, HZ.out]), rfl⟩
              · go_wp2_with fail
                exact ⟨⟨F - 1, S + v1, rfl, rfl, by omega, by omega, by omega, by omega, fd⟩, by simp [intOf]; omega⟩
            · have fD : F = digit T u0 v1 v0 := dinv_stop nT finv (by rw [hN]; omega)
              clear hN
              have gs1 := digit_small nT
              have gs0 := digit_pos nT
              have gT := left_eq nT
              rw [HY.out] at gT
              clear finv
              generalize hE : digit T u0 v1 v0 = E at *
              generalize hZ : left T u0 v1 v0 = Z at *
              have HE := hidMk hE
              have HZ := hidMk hZ
              clear hE hZ
              subst fD
              go_wp2_with fail
              go_ret2
              exact ⟨ret_two (by rw [HD.out, HT.out, HE.out]) (by rw [HT.out, HZ.out]), rfl⟩
      · go_wp2_with fail
        exact ⟨⟨Q - 1, R + v1, rfl, rfl, by omega, by omega, by omega, by omega, hd⟩, by simp [intOf]; omega⟩
    · obtain ⟨ht1, _⟩ := test_eq hq0 (by omega) hr0 hr1 n3 n4 n7 n8
      obtain ⟨M, hM⟩ : ∃ M, Q * v0 = M := ⟨_, rfl⟩
      have ht3 : IntKind.u64.wrap (Q * v0) = M := ht1.trans hM
      clear ht1
      by_cases ht : 4294967296 * R + u1 < M
      · obtain ⟨hd, hp⟩ := dinv_down n hinv (.inr (by rw [hM]; exact ht))
        clear hM
        by_cases hR : 4294967296 ≤ R + v1
        · have hD : Q - 1 = digit U u1 v1 v0 := dinv_break n hd (by omega) (by omega) hR
          have hs1 := digit_small n
          have hs0 := digit_pos n
          have hT := left_eq n
          rw [HY.out] at hT
          have nT := left_norm n m0 m1
          clear hinv hd
          generalize hD0 : digit U u1 v1 v0 = D at *
          generalize hT0 : left U u1 v1 v0 = T at *
          have HD := hidMk hD0
          have HT := hidMk hT0
          clear hD0 hT0
          obtain ⟨t1, t2, _, _, _, _, _, _⟩ := id nT
          have t3 : T ≤ 18446744073709551615 := by omega
          clear t2
          go_wp2_with fail
          rw [rest_eq nT]
          clear hT
          go_loop [18, 16] (fun q r => ∃ Q R : Int, q = .int .u64 Q ∧ r = .int .u64 R ∧ 0 ≤ Q ∧ Q ≤ 4294967297 ∧ 0 ≤ R ∧ R < 4294967296 ∧ DInv T u0 v1 v0 Q R) (fun q _ => (intOf q).toNat)
          case atStart =>
            obtain ⟨d1, d2, d3, d4, d5⟩ := dinv_start nT
            exact ⟨_, _, rfl, rfl, d2, d3, d4, by omega, d1⟩
          case round =>
            obtain ⟨F, S, rfl, rfl, fq0, fq1, fr0, fr1, finv⟩ := hrel
            by_cases fQ : 4294967296 ≤ F
            · obtain ⟨fd, fp⟩ := down_of nT finv fq0 fr0 fr1 (.inl fQ)
              by_cases fR : 4294967296 ≤ S + v1
              · have fD : F - 1 = digit T u0 v1 v0 := dinv_break nT fd (by omega) (by omega) fR
                have gs1 := digit_small nT
                have gs0 := digit_pos nT
                have gT := left_eq nT
                rw [HY.out] at gT
                clear finv fd
                generalize hE : digit T u0 v1 v0 = E at *
                generalize hZ : left T u0 v1 v0 = Z at *
                have HE := hidMk hE
                have HZ := hidMk hZ
                clear hE hZ
                go_wp2_with fail
                go_ret2
                exact ⟨ret_two (by rw [HD.out, HT.out, HE.out]) (by rw [HT.out, HZ.out]), rfl⟩
              · go_wp2_with fail
                exact ⟨⟨F - 1, S + v1, rfl, rfl, by omega, by omega, by omega, by omega, fd⟩, by simp [intOf]; omega⟩
            · obtain ⟨ft1, _⟩ := test_eq fq0 (by omega) fr0 fr1 nT.d0 nT.dl n7 n8
              obtain ⟨N, hN⟩ : ∃ N, F * v0 = N := ⟨_, rfl⟩
              have ft3 : IntKind.u64.wrap (F * v0) = N := ft1.trans hN
              clear ft1
              by_cases fT : 4294967296 * S + u0 < N
              · obtain ⟨fd, fp⟩ := dinv_down nT finv (.inr (by rw [hN]; exact fT))
                clear hN
                by_cases fR : 4294967296 ≤ S + v1
                · have fD : F - 1 = digit T u0 v1 v0 := dinv_break nT fd (by omega) (by omega) fR
                  have gs1 := digit_small nT
                  have gs0 := digit_pos nT
                  have gT := left_eq nT
                  rw [HY.out] at gT
                  clear finv fd
                  generalize hE : digit T u0 v1 v0 = E at *
                  generalize hZ : left T u0 v1 v0 = Z at *
                  have HE := hidMk hE
                  have HZ := hidMk hZ
                  clear hE hZ
                  go_wp2_with fail
                  go_ret2
                  exact ⟨ret_two (by rw [HD.out, HT.out, HE.out]) (by rw [HT.out, HZ.out]), rfl⟩
                · go_wp2_with fail
                  exact ⟨⟨F - 1, S + v1, rfl, rfl, by omega, by omega, by omega, by omega, fd⟩, by simp [intOf]; omega⟩
              · have fD : F = digit T u0 v1 v0 := dinv_stop nT finv (by rw [hN]; omega)
                clear hN
                have gs1 := digit_small nT
                have gs0 := digit_pos nT
                have gT := left_eq nT
                rw [HY.out] at gT
                clear finv
                generalize hE : digit T u0 v1 v0 = E at *
                generalize hZ : left T u0 v1 v0 = Z at *
                have HE := hidMk hE
                have HZ := hidMk hZ
                clear hE hZ
                subst fD
                go_wp2_with fail
                go_ret2
                exact ⟨ret_two (by rw [HD.out, HT.out, HE.out]) (by rw [HT.out, HZ.out]), rfl⟩
        · go_wp2_with fail
          exact ⟨⟨Q - 1, R + v1, rfl, rfl, by omega, by omega, by omega, by omega, hd⟩, by simp [intOf]; omega⟩
      · have hD : Q = digit U u1 v1 v0 := dinv_stop n hinv (by rw [hM]; omega)
        clear hM
        have hs1 := digit_small n
        have hs0 := digit_pos n
        have hT := left_eq n
        rw [HY.out] at hT
        have nT := left_norm n m0 m1
        clear hinv
        generalize hD0 : digit U u1 v1 v0 = D at *
        generalize hT0 : left U u1 v1 v0 = T at *
        have HD := hidMk hD0
        have HT := hidMk hT0
        clear hD0 hT0
        subst hD
        obtain ⟨t1, t2, _, _, _, _, _, _⟩ := id nT
        have t3 : T ≤ 18446744073709551615 := by omega
        clear t2
        go_wp2_with fail
        rw [rest_eq nT]
        clear hT
        go_loop [18, 16] (fun q r => ∃ Q R : Int, q = .int .u64 Q ∧ r = .int .u64 R ∧ 0 ≤ Q ∧ Q ≤ 4294967297 ∧ 0 ≤ R ∧ R < 4294967296 ∧ DInv T u0 v1 v0 Q R) (fun q _ => (intOf q).toNat)
        case atStart =>
          obtain ⟨d1, d2, d3, d4, d5⟩ := dinv_start nT
          exact ⟨_, _, rfl, rfl, d2, d3, d4, by omega, d1⟩
        case round =>
          obtain ⟨F, S, rfl, rfl, fq0, fq1, fr0, fr1, finv⟩ := hrel
          by_cases fQ : 4294967296 ≤ F
          · obtain ⟨fd, fp⟩ := down_of nT finv fq0 fr0 fr1 (.inl fQ)
            by_cases fR : 4294967296 ≤ S + v1
            · have fD : F - 1 = digit T u0 v1 v0 := dinv_break nT fd (by omega) (by omega) fR
              have gs1 := digit_small nT
              have gs0 := digit_pos nT
              have gT := left_eq nT
              rw [HY.out] at gT
              clear finv fd
              generalize hE : digit T u0 v1 v0 = E at *
              generalize hZ : left T u0 v1 v0 = Z at *
              have HE := hidMk hE
              have HZ := hidMk hZ
              clear hE hZ
              go_wp2_with fail
              go_ret2
              exact ⟨ret_two (by rw [HD.out, HT.out, HE.out]) (by rw [HT.out, HZ.out]), rfl⟩
            · go_wp2_with fail
              exact ⟨⟨F - 1, S + v1, rfl, rfl, by omega, by omega, by omega, by omega, fd⟩, by simp [intOf]; omega⟩
          · obtain ⟨ft1, _⟩ := test_eq fq0 (by omega) fr0 fr1 nT.d0 nT.dl n7 n8
            obtain ⟨N, hN⟩ : ∃ N, F * v0 = N := ⟨_, rfl⟩
            have ft3 : IntKind.u64.wrap (F * v0) = N := ft1.trans hN
            clear ft1
            by_cases fT : 4294967296 * S + u0 < N
            · obtain ⟨fd, fp⟩ := dinv_down nT finv (.inr (by rw [hN]; exact fT))
              clear hN
              by_cases fR : 4294967296 ≤ S + v1
              · have fD : F - 1 = digit T u0 v1 v0 := dinv_break nT fd (by omega) (by omega) fR
                have gs1 := digit_small nT
                have gs0 := digit_pos nT
                have gT := left_eq nT
                rw [HY.out] at gT
                clear finv fd
                generalize hE : digit T u0 v1 v0 = E at *
                generalize hZ : left T u0 v1 v0 = Z at *
                have HE := hidMk hE
                have HZ := hidMk hZ
                clear hE hZ
                go_wp2_with fail
                go_ret2
                exact ⟨ret_two (by rw [HD.out, HT.out, HE.out]) (by rw [HT.out, HZ.out]), rfl⟩
              · go_wp2_with fail
                exact ⟨⟨F - 1, S + v1, rfl, rfl, by omega, by omega, by omega, by omega, fd⟩, by simp [intOf]; omega⟩
            · have fD : F = digit T u0 v1 v0 := dinv_stop nT finv (by rw [hN]; omega)
              clear hN
              have gs1 := digit_small nT
              have gs0 := digit_pos nT
              have gT := left_eq nT
              rw [HY.out] at gT
              clear finv
              generalize hE : digit T u0 v1 v0 = E at *
              generalize hZ : left T u0 v1 v0 = Z at *
              have HE := hidMk hE
              have HZ := hidMk hZ
              clear hE hZ
              subst fD
              go_wp2_with fail
              go_ret2
              exact ⟨ret_two (by rw [HD.out, HT.out, HE.out]) (by rw [HT.out, HZ.out]), rfl⟩
end Go.Proofs.Ytldfnlkineehbaa
