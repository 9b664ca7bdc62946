/- show's definition: a reply. -/
import Derived.Test.YtbhojgodkblflaaSh7
import Derived.Test.YtbhojgodkblflaaSh4
import Derived.Deep.Upon
namespace Go.Proofs.Ytbhojgodkblflaa
open Go.RowKit Go.Maps
set_option linter.unusedSimpArgs false
set_option linter.unusedVariables false

theorem wpList_nothingS {ops : Array Oper} {rest : List Oper} {o : Oper} {a : Act} {Q : Exit → Act → World → Prop} (w : World) (hgd : o.guard = none) (s x : Operand)
    (ho : o.op = .call { callee := .builtin .append, args := #[s, x], argTypes := #[23, 23] })
    (hs : a.eval s = .slice none 0 0) (xa : Option Addr) (c : Nat) (hx : a.eval x = .slice xa 0 c) (h : wpList Try.prog ops Q rest (a.put o.dst (.slice none 0 0)) w) : wpList Try.prog ops Q (o :: rest) a w := by
  obtain ⟨i0, hi0, hz0, hz1, hz2⟩ := sinfo
  refine wpList_plain hgd fun K hK => ?_
  have hsrc : Src Try.prog i0.size 23 (.slice xa 0 c) 0 [] w := by
    cases xa with
    | none => exact Src.ofNil w Try.underlying23 c
    | some ad => exact Src.ofSlice w Try.underlying23 ad 0 c [] (by simp) (by intro j u hu; simp at hu) (by simp)
  have hrun := run_append_nothing (P := Try.prog) w 23 23 o.type 9 i0 Try.underlying23 hi0 none 0 0 (Nat.le_refl _) (.slice xa 0 c) hsrc
  unfold Oper.wp
  simp [execOp, ho, resolve, invoke, builtin, hs, hx, hrun, Result.andThen]
  exact hK _ _ h
section
variable {f : CF} (hf : ∀ c0 c1 c2 c3 c4, (f c0 c1 c2 c3 c4).size ≤ 1000)
include hf
set_option maxHeartbeats 80000000 in
set_option maxRecDepth 100000 in
theorem ref_Reply (d : Value) (kind why n : Int) (na : Option Addr) (nn nc : Nat) (names : List ByteArray) (ra : Option Addr) (rn rc : Nat) (rows : Nat → Ch) (la : Option Addr) (ln lc : Nat) (locks : Nat → Lo) (ca : Option Addr) (cn cc : Nat) (cls : Nat → Cs) (w : World) (hS : ShP 23 d f w) (hR : RpIn w na nn names ra rn rows la ln locks ca cn cls) (hO : RpOk why n rn rows ln locks cn cls) (hn1 : nn ≤ 50) (hn2 : rn ≤ 50) (hn3 : ln ≤ 50) (hn4 : cn ≤ 50) :
    Calls Try.prog 17 #[d, .int .i64 kind, .agg #[.int .i64 why, .int .i64 n, .slice na nn nc, .slice ra rn rc, .slice la ln lc, .slice ca cn cc]] w fun e w' => ∃ v, e = .returned v ∧ OwnS w' w.heap.size v (replyL f kind why n names rn rows ln locks cn cls) ∧ Kept w w' := by
  have HCC := hidMk (fun (y : World) (hy : Kept w y) (i : Nat) (hi : i < cn) => show Calls Try.prog 12 #[d, .agg (csF (cls i)).toArray] y fun e w' => e = .returned (.string (clB f cls i)) ∧ Kept y w' from ref_Clash d (cls i).c0 (cls i).c1 (cls i).c2 (cls i).c3 (cls i).c4 (cls i).a (cls i).b (cls i).c (cls i).h f y (hS.kept hy) (hf _ _ _ _ _) (hO.c i hi).1 (hO.c i hi).2.1 (hO.c i hi).2.2)
  have HCR := hidMk (fun (y : World) (hy : Kept w y) (i : Nat) (hi : i < rn) => show Calls Try.prog 8 #[d, .int .i64 kind, .agg (chF (rows i)).toArray] y fun e w' => e = .returned (.string (rwB f kind rows i)) ∧ Kept y w' from ref_Row d kind (rows i).c0 (rows i).c1 (rows i).c2 (rows i).c3 (rows i).c4 (rows i).a (rows i).b f y (hS.kept hy) (hf _ _ _ _ _) (hO.r i hi).1 (hO.r i hi).2)
  have HCK := hidMk (fun (y : World) (hy : Kept w y) (i : Nat) (hi : i < ln) => show Calls Try.prog 10 #[d, .agg (loF (locks i)).toArray] y fun e w' => e = .returned (.string (lkB f locks i)) ∧ Kept y w' from ref_Lock d (locks i).c0 (locks i).c1 (locks i).c2 (locks i).c3 (locks i).c4 (locks i).u f y (hS.kept hy) (hf _ _ _ _ _) (hO.l i hi))
  have HSC := hidMk hR.c
  have HSR := hidMk hR.r
  have HSL := hidMk hR.l
  have HSN := hidMk hR.n
  have hnl := hR.n.len
  have HWR := hidMk (ref_Wrong why (-1) · hO.why (by unfold isI; omega))
  have HNU := hidMk (ref_Num n hO.n)
  have HL1 := hidMk (lnL_len (rwB f kind rows) rn)
  have HL2 := hidMk (lnL_len (lkB f locks) ln)
  have HL3 := hidMk (lnL_len (clB f cls) cn)
  have HRE := hidMk (show ¬ why = 0 → replyL f kind why n names rn rows ln locks cn cls = lnL (clB f cls) cn ++ [wrongB why (-1)] from fun h => if_pos h)
  have HRN := hidMk (show why = 0 → kind = 11 ∨ kind = 12 → replyL f kind why n names rn rows ln locks cn cls = [numS n] from fun h h' => by unfold replyL; rw [if_neg (by simpa using h), if_pos h'])
  have HRM := hidMk (show why = 0 → ¬ (kind = 11 ∨ kind = 12) → replyL f kind why n names rn rows ln locks cn cls = midL f kind names rn rows ln locks cn cls ++ [okW] from fun h h' => by unfold replyL; rw [if_neg (by simpa using h), if_neg h'])
  clear hS hR hO
  by_cases hw0 : why = 0
  case neg =>
    rw [HRE.out hw0]
    have hbw : (why == 0) = false := by simpa using hw0
    clear HCR HCK HSR HSL HSN HNU HRE HRN HRM HL1 HL2
    generalize wrongB why (-1) = wr1 at *
    go_enter Try.func17, Try.ntmps17
    go_wp2_with fail
    refine gen_world (f := fun W => Code.wp _ _ _ _ W) (fun W => Kept w W ∧ W.cell? ⟨w.heap.size, 0, none⟩ = some (.int .i64 why) ∧ W.cell? ⟨w.heap.size, 1, none⟩ = some (.int .i64 n) ∧ W.cell? ⟨w.heap.size, 2, none⟩ = some (.slice na nn nc) ∧ W.cell? ⟨w.heap.size, 3, none⟩ = some (.slice ra rn rc) ∧ W.cell? ⟨w.heap.size, 4, none⟩ = some (.slice la ln lc) ∧ W.cell? ⟨w.heap.size, 5, none⟩ = some (.slice ca cn cc)) ⟨(Kept.refl w).alloc _, by simp, by simp, by simp, by simp, by simp, by simp⟩ ?_
    rintro W ⟨kW, x0, x1, x2, x3, x4, x5⟩
    have KW := hidMk kW
    clear kW
    go_loopg [7, 8] cn (fun gg v x wr => ∃ k : Nat, k + gg = cn ∧ x = .int .i64 k ∧ Kept W wr ∧ Hid (OwnS wr W.heap.size v (lnL (clB f cls) k)))
    case atStart => exact ⟨0, by omega, rfl, Kept.refl _, hidMk (World.ownsRow_nil _ _ _ _)⟩
    case round =>
      obtain ⟨k, hkg, rfl, hk, HO⟩ := hrel
      have HKG := hidMk hkg
      have HK := hidMk hk
      have z0 := hk.cellp x0
      have z1 := hk.cellp x1
      have z2 := hk.cellp x2
      have z3 := hk.cellp x3
      have z4 := hk.cellp x4
      have z5 := hk.cellp x5
      by_cases hkn : k < cn
      · obtain ⟨bb, oo, rfl, _, hc0⟩ := (HSC.out.kept (KW.out.trans hk)).cells (by omega)
        have hc := hc0 k hkn
        have HC := hidMk (fun (y : World) (hy : Kept wr y) => HCC.out y (KW.out.trans (HK.out.trans hy)) k hkn)
        have HLn := hidMk (lnL_len (clB f cls) k)
        have HT := hidMk (lnL_succ (clB f cls) k)
        have hk1 : (k : Int) < cn := by omega
        generalize lnL (clB f cls) k = LL at *
        generalize hln : clB f cls k = lnx at *
        clear hln
        unfold csF at hc HC
        have d0 : wr.cell? ⟨bb, oo + k * 9, none⟩ = some (.int .i64 (cls k).c0) := hc 0 _ rfl
        have d1 : wr.cell? ⟨bb, oo + k * 9 + 1, none⟩ = some (.int .i64 (cls k).c1) := hc 1 _ rfl
        have d2 : wr.cell? ⟨bb, oo + k * 9 + 2, none⟩ = some (.int .i64 (cls k).c2) := hc 2 _ rfl
        have d3 : wr.cell? ⟨bb, oo + k * 9 + 3, none⟩ = some (.int .i64 (cls k).c3) := hc 3 _ rfl
        have d4 : wr.cell? ⟨bb, oo + k * 9 + 4, none⟩ = some (.int .i64 (cls k).c4) := hc 4 _ rfl
        have d5 : wr.cell? ⟨bb, oo + k * 9 + 5, none⟩ = some (.int .i64 (cls k).a) := hc 5 _ rfl
        have d6 : wr.cell? ⟨bb, oo + k * 9 + 6, none⟩ = some (.int .i64 (cls k).b) := hc 6 _ rfl
        have d7 : wr.cell? ⟨bb, oo + k * 9 + 7, none⟩ = some (.int .i64 (cls k).c) := hc 7 _ rfl
        have d8 : wr.cell? ⟨bb, oo + k * 9 + 8, none⟩ = some (.bool (cls k).h) := hc 8 _ rfl
        clear hc hc0 hk hkg
        generalize (cls k).c0 = y0 at *
        generalize (cls k).c1 = y1 at *
        generalize (cls k).c2 = y2 at *
        generalize (cls k).c3 = y3 at *
        generalize (cls k).c4 = y4 at *
        generalize (cls k).a = y5 at *
        generalize (cls k).b = y6 at *
        generalize (cls k).c = y7 at *
        generalize (cls k).h = y8 at *
        go_wp2_with fail
        refine (HC.out _ (Kept.refl _)).mono ?_
        rintro e w2 ⟨rfl, k2⟩
        have K2 := hidMk k2
        clear k2
        go_wp2_with (at_builtin; refine wpList_pushS _ rfl _ _ rfl W.heap.size _ LL rfl ((HO.out.kept K2.out).kept ((Kept.refl _).alloc _)) ?c1x1 _ lnx rfl ?c2x1 ?c3x1 _ rfl ?_)
        case c1x1 => simp; have h1 := HK.out.size; have h2 := K2.out.size; omega
        case c2x1 => simp
        case c3x1 => rw [HLn.out]; omega
        intro g' cap w3 o3 k3 _ _
        have K3 := hidMk (show Kept W w3 from k3.kept ((HK.out.trans K2.out).alloc _) (fun t ht => (HO.out.lt t ht).1))
        have O3 := hidMk o3
        clear o3 k3
        go_wp2_with fail
        go_roundg (gk - 1)
        case measure => have := HKG.out; omega
        case rel => exact ⟨k + 1, by have := HKG.out; omega, by go_num, K3.out, hidMk (by rw [HT.out]; exact O3.out)⟩
      · have e : k = cn := by omega
        subst e
        have hkk : ¬ ((k : Int) < (k : Int)) := by omega
        have K1 := hidMk (KW.out.trans hk)
        clear hk hkg x0 x1 x2 x3 x4 x5
        have HLQ := hidMk (show (lnL (clB f cls) k).length ≤ 50 by rw [lnL_len]; exact hn4)
        obtain ⟨LLQ, hq⟩ : ∃ L, lnL (clB f cls) k = L := ⟨_, rfl⟩
        rw [hq] at HO HLQ
        have HQ := hidMk hq
        clear hq
        go_wp2_with fail
        refine (HWR.out _).mono ?_
        rintro e w2 ⟨rfl, rfl⟩
        go_wp2_with (at_builtin; refine wpList_pushS _ rfl _ _ rfl W.heap.size _ LLQ rfl (HO.out.kept ((Kept.refl _).alloc _)) ?c1x2 _ wr1 rfl ?c2x2 ?c3x2 _ rfl ?_)
        case c1x2 => (try simp); have h1 := HK.out.size; omega
        try (case c2x2 => (try simp))
        try (case c3x2 => have := HLQ.out; omega)
        intro g' cap w3 o3 c3 _ _
        have K3 := hidMk (show Kept w w3 from c3.kept (K1.out.alloc _) (fun t ht => Nat.le_trans KW.out.size (HO.out.lt t ht).1))
        have O3 := hidMk (OwnS.le o3 KW.out.size)
        clear o3 c3
        go_wp2_with fail
        go_ret
        exact ⟨_, rfl, by rw [HQ.out]; exact O3.out, K3.out⟩

  case pos =>
    subst hw0
    clear HRE HWR
    by_cases e11 : kind = 11
    · subst e11
      rw [HRN.out rfl (by decide)]
      clear HCC HCR HCK
      generalize numS n = nb at *
      go_enter Try.func17, Try.ntmps17
      go_wp2_with fail
      refine (HNU.out _).mono ?_
      rintro e w1 ⟨rfl, hw1⟩
      have K1 := hidMk (show Kept w w1 by rw [hw1]; exact (Kept.refl w).alloc _)
      clear hw1
      go_wp2_with fail
      go_ret
      exact ⟨_, rfl, World.ownsRow_lit w1 #[.string nb] 1 K1.out.size (by decide) rfl, K1.out.alloc _⟩
    by_cases e12 : kind = 12
    · subst e12
      clear e11
      rw [HRN.out rfl (by decide)]
      clear HCC HCR HCK
      generalize numS n = nb at *
      go_enter Try.func17, Try.ntmps17
      go_wp2_with fail
      refine (HNU.out _).mono ?_
      rintro e w1 ⟨rfl, hw1⟩
      have K1 := hidMk (show Kept w w1 by rw [hw1]; exact (Kept.refl w).alloc _)
      clear hw1
      go_wp2_with fail
      go_ret
      exact ⟨_, rfl, World.ownsRow_lit w1 #[.string nb] 1 K1.out.size (by decide) rfl, K1.out.alloc _⟩
    by_cases e13 : kind = 13
    · subst e13
      clear e11 e12
      rw [HRM.out rfl (by decide), show midL f 13 names rn rows ln locks cn cls = lnL (rwB f 13 rows) rn from rfl]
      unfold okW
      clear HCC HCK HNU HSN
      go_enter Try.func17, Try.ntmps17
      go_wp2_with fail
      refine gen_world (f := fun W => Code.wp _ _ _ _ W) (fun W => Kept w W ∧ W.cell? ⟨w.heap.size, 0, none⟩ = some (.int .i64 0) ∧ W.cell? ⟨w.heap.size, 1, none⟩ = some (.int .i64 n) ∧ W.cell? ⟨w.heap.size, 2, none⟩ = some (.slice na nn nc) ∧ W.cell? ⟨w.heap.size, 3, none⟩ = some (.slice ra rn rc) ∧ W.cell? ⟨w.heap.size, 4, none⟩ = some (.slice la ln lc) ∧ W.cell? ⟨w.heap.size, 5, none⟩ = some (.slice ca cn cc)) ⟨(Kept.refl w).alloc _, by simp, by simp, by simp, by simp, by simp, by simp⟩ ?_
      rintro W ⟨kW, x0, x1, x2, x3, x4, x5⟩
      have KW := hidMk kW
      clear kW
      go_loopg [7, 9] rn (fun gg v x wr => ∃ k : Nat, k + gg = rn ∧ x = .int .i64 k ∧ Kept W wr ∧ Hid (OwnS wr W.heap.size v (lnL (rwB f 13 rows) k)))
      case atStart => exact ⟨0, by omega, rfl, Kept.refl _, hidMk (World.ownsRow_nil _ _ _ _)⟩
      case round =>
        obtain ⟨k, hkg, rfl, hk, HO⟩ := hrel
        have HKG := hidMk hkg
        have HK := hidMk hk
        have z0 := hk.cellp x0
        have z1 := hk.cellp x1
        have z2 := hk.cellp x2
        have z3 := hk.cellp x3
        have z4 := hk.cellp x4
        have z5 := hk.cellp x5
        by_cases hkn : k < rn
        · obtain ⟨bb, oo, rfl, _, hc0⟩ := (HSR.out.kept (KW.out.trans hk)).cells (by omega)
          have hc := hc0 k hkn
          have HC := hidMk (fun (y : World) (hy : Kept wr y) => HCR.out y (KW.out.trans (HK.out.trans hy)) k hkn)
          have HLn := hidMk (lnL_len (rwB f 13 rows) k)
          have HT := hidMk (lnL_succ (rwB f 13 rows) k)
          have hk1 : (k : Int) < rn := by omega
          generalize lnL (rwB f 13 rows) k = LL at *
          generalize hln : rwB f 13 rows k = lnx at *
          clear hln
          unfold chF at hc HC
          have d0 : wr.cell? ⟨bb, oo + k * 7, none⟩ = some (.int .i64 (rows k).c0) := hc 0 _ rfl
          have d1 : wr.cell? ⟨bb, oo + k * 7 + 1, none⟩ = some (.int .i64 (rows k).c1) := hc 1 _ rfl
          have d2 : wr.cell? ⟨bb, oo + k * 7 + 2, none⟩ = some (.int .i64 (rows k).c2) := hc 2 _ rfl
          have d3 : wr.cell? ⟨bb, oo + k * 7 + 3, none⟩ = some (.int .i64 (rows k).c3) := hc 3 _ rfl
          have d4 : wr.cell? ⟨bb, oo + k * 7 + 4, none⟩ = some (.int .i64 (rows k).c4) := hc 4 _ rfl
          have d5 : wr.cell? ⟨bb, oo + k * 7 + 5, none⟩ = some (.int .i64 (rows k).a) := hc 5 _ rfl
          have d6 : wr.cell? ⟨bb, oo + k * 7 + 6, none⟩ = some (.int .i64 (rows k).b) := hc 6 _ rfl
          clear hc hc0 hk hkg
          generalize (rows k).c0 = y0 at *
          generalize (rows k).c1 = y1 at *
          generalize (rows k).c2 = y2 at *
          generalize (rows k).c3 = y3 at *
          generalize (rows k).c4 = y4 at *
          generalize (rows k).a = y5 at *
          generalize (rows k).b = y6 at *
          go_wp2_with fail
          refine (HC.out _ (Kept.refl _)).mono ?_
          rintro e w2 ⟨rfl, k2⟩
          have K2 := hidMk k2
          clear k2
          go_wp2_with (at_builtin; refine wpList_pushS _ rfl _ _ rfl W.heap.size _ LL rfl ((HO.out.kept K2.out).kept ((Kept.refl _).alloc _)) ?c1x3 _ lnx rfl ?c2x3 ?c3x3 _ rfl ?_)
          case c1x3 => simp; have h1 := HK.out.size; have h2 := K2.out.size; omega
          case c2x3 => simp
          case c3x3 => rw [HLn.out]; omega
          intro g' cap w3 o3 k3 _ _
          have K3 := hidMk (show Kept W w3 from k3.kept ((HK.out.trans K2.out).alloc _) (fun t ht => (HO.out.lt t ht).1))
          have O3 := hidMk o3
          clear o3 k3
          go_wp2_with fail
          go_roundg (gk - 1)
          case measure => have := HKG.out; omega
          case rel => exact ⟨k + 1, by have := HKG.out; omega, by go_num, K3.out, hidMk (by rw [HT.out]; exact O3.out)⟩
        · have e : k = rn := by omega
          subst e
          have hkk : ¬ ((k : Int) < (k : Int)) := by omega
          have K1 := hidMk (KW.out.trans hk)
          clear hk hkg x0 x1 x2 x3 x4 x5
          have HLQ := hidMk (show (lnL (rwB f 13 rows) k).length ≤ 50 by rw [lnL_len]; exact hn2)
          obtain ⟨LLQ, hq⟩ : ∃ L, lnL (rwB f 13 rows) k = L := ⟨_, rfl⟩
          rw [hq] at HO HLQ
          have HQ := hidMk hq
          clear hq
          go_wp2_with (at_builtin; refine wpList_pushS _ rfl _ _ rfl W.heap.size _ LLQ rfl (HO.out.kept ((Kept.refl _).alloc _)) ?c1x4 _ ⟨#[111, 107]⟩ rfl ?c2x4 ?c3x4 _ rfl ?_)
          case c1x4 => (try simp); have h1 := HK.out.size; omega
          try (case c2x4 => (try simp))
          try (case c3x4 => have := HLQ.out; omega)
          intro g' cap w3 o3 c3 _ _
          have K3 := hidMk (show Kept w w3 from c3.kept (K1.out.alloc _) (fun t ht => Nat.le_trans KW.out.size (HO.out.lt t ht).1))
          have O3 := hidMk (OwnS.le o3 KW.out.size)
          clear o3 c3
          go_wp2_with fail
          go_ret
          exact ⟨_, rfl, by rw [HQ.out]; exact O3.out, K3.out⟩

    by_cases e14 : kind = 14
    · subst e14
      clear e11 e12 e13
      rw [HRM.out rfl (by decide), show midL f 14 names rn rows ln locks cn cls = lnL (rwB f 14 rows) rn from rfl]
      unfold okW
      clear HCC HCK HNU HSN
      go_enter Try.func17, Try.ntmps17
      go_wp2_with fail
      refine gen_world (f := fun W => Code.wp _ _ _ _ W) (fun W => Kept w W ∧ W.cell? ⟨w.heap.size, 0, none⟩ = some (.int .i64 0) ∧ W.cell? ⟨w.heap.size, 1, none⟩ = some (.int .i64 n) ∧ W.cell? ⟨w.heap.size, 2, none⟩ = some (.slice na nn nc) ∧ W.cell? ⟨w.heap.size, 3, none⟩ = some (.slice ra rn rc) ∧ W.cell? ⟨w.heap.size, 4, none⟩ = some (.slice la ln lc) ∧ W.cell? ⟨w.heap.size, 5, none⟩ = some (.slice ca cn cc)) ⟨(Kept.refl w).alloc _, by simp, by simp, by simp, by simp, by simp, by simp⟩ ?_
      rintro W ⟨kW, x0, x1, x2, x3, x4, x5⟩
      have KW := hidMk kW
      clear kW
      go_loopg [7, 9] rn (fun gg v x wr => ∃ k : Nat, k + gg = rn ∧ x = .int .i64 k ∧ Kept W wr ∧ Hid (OwnS wr W.heap.size v (lnL (rwB f 14 rows) k)))
      case atStart => exact ⟨0, by omega, rfl, Kept.refl _, hidMk (World.ownsRow_nil _ _ _ _)⟩
      case round =>
        obtain ⟨k, hkg, rfl, hk, HO⟩ := hrel
        have HKG := hidMk hkg
        have HK := hidMk hk
        have z0 := hk.cellp x0
        have z1 := hk.cellp x1
        have z2 := hk.cellp x2
        have z3 := hk.cellp x3
        have z4 := hk.cellp x4
        have z5 := hk.cellp x5
        by_cases hkn : k < rn
        · obtain ⟨bb, oo, rfl, _, hc0⟩ := (HSR.out.kept (KW.out.trans hk)).cells (by omega)
          have hc := hc0 k hkn
          have HC := hidMk (fun (y : World) (hy : Kept wr y) => HCR.out y (KW.out.trans (HK.out.trans hy)) k hkn)
          have HLn := hidMk (lnL_len (rwB f 14 rows) k)
          have HT := hidMk (lnL_succ (rwB f 14 rows) k)
          have hk1 : (k : Int) < rn := by omega
          generalize lnL (rwB f 14 rows) k = LL at *
          generalize hln : rwB f 14 rows k = lnx at *
          clear hln
          unfold chF at hc HC
          have d0 : wr.cell? ⟨bb, oo + k * 7, none⟩ = some (.int .i64 (rows k).c0) := hc 0 _ rfl
          have d1 : wr.cell? ⟨bb, oo + k * 7 + 1, none⟩ = some (.int .i64 (rows k).c1) := hc 1 _ rfl
          have d2 : wr.cell? ⟨bb, oo + k * 7 + 2, none⟩ = some (.int .i64 (rows k).c2) := hc 2 _ rfl
          have d3 : wr.cell? ⟨bb, oo + k * 7 + 3, none⟩ = some (.int .i64 (rows k).c3) := hc 3 _ rfl
          have d4 : wr.cell? ⟨bb, oo + k * 7 + 4, none⟩ = some (.int .i64 (rows k).c4) := hc 4 _ rfl
          have d5 : wr.cell? ⟨bb, oo + k * 7 + 5, none⟩ = some (.int .i64 (rows k).a) := hc 5 _ rfl
          have d6 : wr.cell? ⟨bb, oo + k * 7 + 6, none⟩ = some (.int .i64 (rows k).b) := hc 6 _ rfl
          clear hc hc0 hk hkg
          generalize (rows k).c0 = y0 at *
          generalize (rows k).c1 = y1 at *
          generalize (rows k).c2 = y2 at *
          generalize (rows k).c3 = y3 at *
          generalize (rows k).c4 = y4 at *
          generalize (rows k).a = y5 at *
          generalize (rows k).b = y6 at *
          go_wp2_with fail
          refine (HC.out _ (Kept.refl _)).mono ?_
          rintro e w2 ⟨rfl, k2⟩
          have K2 := hidMk k2
          clear k2
          go_wp2_with (at_builtin; refine wpList_pushS _ rfl _ _ rfl W.heap.size _ LL rfl ((HO.out.kept K2.out).kept ((Kept.refl _).alloc _)) ?c1x5 _ lnx rfl ?c2x5 ?c3x5 _ rfl ?_)
          case c1x5 => simp; have h1 := HK.out.size; have h2 := K2.out.size; omega
          case c2x5 => simp
          case c3x5 => rw [HLn.out]; omega
          intro g' cap w3 o3 k3 _ _
          have K3 := hidMk (show Kept W w3 from k3.kept ((HK.out.trans K2.out).alloc _) (fun t ht => (HO.out.lt t ht).1))
          have O3 := hidMk o3
          clear o3 k3
          go_wp2_with fail
          go_roundg (gk - 1)
          case measure => have := HKG.out; omega
          case rel => exact ⟨k + 1, by have := HKG.out; omega, by go_num, K3.out, hidMk (by rw [HT.out]; exact O3.out)⟩
        · have e : k = rn := by omega
          subst e
          have hkk : ¬ ((k : Int) < (k : Int)) := by omega
          have K1 := hidMk (KW.out.trans hk)
          clear hk hkg x0 x1 x2 x3 x4 x5
          have HLQ := hidMk (show (lnL (rwB f 14 rows) k).length ≤ 50 by rw [lnL_len]; exact hn2)
          obtain ⟨LLQ, hq⟩ : ∃ L, lnL (rwB f 14 rows) k = L := ⟨_, rfl⟩
          rw [hq] at HO HLQ
          have HQ := hidMk hq
          clear hq
          go_wp2_with (at_builtin; refine wpList_pushS _ rfl _ _ rfl W.heap.size _ LLQ rfl (HO.out.kept ((Kept.refl _).alloc _)) ?c1x6 _ ⟨#[111, 107]⟩ rfl ?c2x6 ?c3x6 _ rfl ?_)
          case c1x6 => (try simp); have h1 := HK.out.size; omega
          try (case c2x6 => (try simp))
          try (case c3x6 => have := HLQ.out; omega)
          intro g' cap w3 o3 c3 _ _
          have K3 := hidMk (show Kept w w3 from c3.kept (K1.out.alloc _) (fun t ht => Nat.le_trans KW.out.size (HO.out.lt t ht).1))
          have O3 := hidMk (OwnS.le o3 KW.out.size)
          clear o3 c3
          go_wp2_with fail
          go_ret
          exact ⟨_, rfl, by rw [HQ.out]; exact O3.out, K3.out⟩

    by_cases e17 : kind = 17
    · subst e17
      clear e11 e12 e13 e14
      rw [HRM.out rfl (by decide), show midL f 17 names rn rows ln locks cn cls = lnL (rwB f 17 rows) rn from rfl]
      unfold okW
      clear HCC HCK HNU HSN
      go_enter Try.func17, Try.ntmps17
      go_wp2_with fail
      refine gen_world (f := fun W => Code.wp _ _ _ _ W) (fun W => Kept w W ∧ W.cell? ⟨w.heap.size, 0, none⟩ = some (.int .i64 0) ∧ W.cell? ⟨w.heap.size, 1, none⟩ = some (.int .i64 n) ∧ W.cell? ⟨w.heap.size, 2, none⟩ = some (.slice na nn nc) ∧ W.cell? ⟨w.heap.size, 3, none⟩ = some (.slice ra rn rc) ∧ W.cell? ⟨w.heap.size, 4, none⟩ = some (.slice la ln lc) ∧ W.cell? ⟨w.heap.size, 5, none⟩ = some (.slice ca cn cc)) ⟨(Kept.refl w).alloc _, by simp, by simp, by simp, by simp, by simp, by simp⟩ ?_
      rintro W ⟨kW, x0, x1, x2, x3, x4, x5⟩
      have KW := hidMk kW
      clear kW
      go_loopg [7, 9] rn (fun gg v x wr => ∃ k : Nat, k + gg = rn ∧ x = .int .i64 k ∧ Kept W wr ∧ Hid (OwnS wr W.heap.size v (lnL (rwB f 17 rows) k)))
      case atStart => exact ⟨0, by omega, rfl, Kept.refl _, hidMk (World.ownsRow_nil _ _ _ _)⟩
      case round =>
        obtain ⟨k, hkg, rfl, hk, HO⟩ := hrel
        have HKG := hidMk hkg
        have HK := hidMk hk
        have z0 := hk.cellp x0
        have z1 := hk.cellp x1
        have z2 := hk.cellp x2
        have z3 := hk.cellp x3
        have z4 := hk.cellp x4
        have z5 := hk.cellp x5
        by_cases hkn : k < rn
        · obtain ⟨bb, oo, rfl, _, hc0⟩ := (HSR.out.kept (KW.out.trans hk)).cells (by omega)
          have hc := hc0 k hkn
          have HC := hidMk (fun (y : World) (hy : Kept wr y) => HCR.out y (KW.out.trans (HK.out.trans hy)) k hkn)
          have HLn := hidMk (lnL_len (rwB f 17 rows) k)
          have HT := hidMk (lnL_succ (rwB f 17 rows) k)
          have hk1 : (k : Int) < rn := by omega
          generalize lnL (rwB f 17 rows) k = LL at *
          generalize hln : rwB f 17 rows k = lnx at *
          clear hln
          unfold chF at hc HC
          have d0 : wr.cell? ⟨bb, oo + k * 7, none⟩ = some (.int .i64 (rows k).c0) := hc 0 _ rfl
          have d1 : wr.cell? ⟨bb, oo + k * 7 + 1, none⟩ = some (.int .i64 (rows k).c1) := hc 1 _ rfl
          have d2 : wr.cell? ⟨bb, oo + k * 7 + 2, none⟩ = some (.int .i64 (rows k).c2) := hc 2 _ rfl
          have d3 : wr.cell? ⟨bb, oo + k * 7 + 3, none⟩ = some (.int .i64 (rows k).c3) := hc 3 _ rfl
          have d4 : wr.cell? ⟨bb, oo + k * 7 + 4, none⟩ = some (.int .i64 (rows k).c4) := hc 4 _ rfl
          have d5 : wr.cell? ⟨bb, oo + k * 7 + 5, none⟩ = some (.int .i64 (rows k).a) := hc 5 _ rfl
          have d6 : wr.cell? ⟨bb, oo + k * 7 + 6, none⟩ = some (.int .i64 (rows k).b) := hc 6 _ rfl
          clear hc hc0 hk hkg
          generalize (rows k).c0 = y0 at *
          generalize (rows k).c1 = y1 at *
          generalize (rows k).c2 = y2 at *
          generalize (rows k).c3 = y3 at *
          generalize (rows k).c4 = y4 at *
          generalize (rows k).a = y5 at *
          generalize (rows k).b = y6 at *
          go_wp2_with fail
          refine (HC.out _ (Kept.refl _)).mono ?_
          rintro e w2 ⟨rfl, k2⟩
          have K2 := hidMk k2
          clear k2
          go_wp2_with (at_builtin; refine wpList_pushS _ rfl _ _ rfl W.heap.size _ LL rfl ((HO.out.kept K2.out).kept ((Kept.refl _).alloc _)) ?c1x7 _ lnx rfl ?c2x7 ?c3x7 _ rfl ?_)
          case c1x7 => simp; have h1 := HK.out.size; have h2 := K2.out.size; omega
          case c2x7 => simp
          case c3x7 => rw [HLn.out]; omega
          intro g' cap w3 o3 k3 _ _
          have K3 := hidMk (show Kept W w3 from k3.kept ((HK.out.trans K2.out).alloc _) (fun t ht => (HO.out.lt t ht).1))
          have O3 := hidMk o3
          clear o3 k3
          go_wp2_with fail
          go_roundg (gk - 1)
          case measure => have := HKG.out; omega
          case rel => exact ⟨k + 1, by have := HKG.out; omega, by go_num, K3.out, hidMk (by rw [HT.out]; exact O3.out)⟩
        · have e : k = rn := by omega
          subst e
          have hkk : ¬ ((k : Int) < (k : Int)) := by omega
          have K1 := hidMk (KW.out.trans hk)
          clear hk hkg x0 x1 x2 x3 x4 x5
          have HLQ := hidMk (show (lnL (rwB f 17 rows) k).length ≤ 50 by rw [lnL_len]; exact hn2)
          obtain ⟨LLQ, hq⟩ : ∃ L, lnL (rwB f 17 rows) k = L := ⟨_, rfl⟩
          rw [hq] at HO HLQ
          have HQ := hidMk hq
          clear hq
          go_wp2_with (at_builtin; refine wpList_pushS _ rfl _ _ rfl W.heap.size _ LLQ rfl (HO.out.kept ((Kept.refl _).alloc _)) ?c1x8 _ ⟨#[111, 107]⟩ rfl ?c2x8 ?c3x8 _ rfl ?_)
          case c1x8 => (try simp); have h1 := HK.out.size; omega
          try (case c2x8 => (try simp))
          try (case c3x8 => have := HLQ.out; omega)
          intro g' cap w3 o3 c3 _ _
          have K3 := hidMk (show Kept w w3 from c3.kept (K1.out.alloc _) (fun t ht => Nat.le_trans KW.out.size (HO.out.lt t ht).1))
          have O3 := hidMk (OwnS.le o3 KW.out.size)
          clear o3 c3
          go_wp2_with fail
          go_ret
          exact ⟨_, rfl, by rw [HQ.out]; exact O3.out, K3.out⟩

    by_cases e18 : kind = 18
    · subst e18
      clear e11 e12 e13 e14 e17
      rw [HRM.out rfl (by decide), show midL f 18 names rn rows ln locks cn cls = lnL (rwB f 18 rows) rn from rfl]
      unfold okW
      clear HCC HCK HNU HSN
      go_enter Try.func17, Try.ntmps17
      go_wp2_with fail
      refine gen_world (f := fun W => Code.wp _ _ _ _ W) (fun W => Kept w W ∧ W.cell? ⟨w.heap.size, 0, none⟩ = some (.int .i64 0) ∧ W.cell? ⟨w.heap.size, 1, none⟩ = some (.int .i64 n) ∧ W.cell? ⟨w.heap.size, 2, none⟩ = some (.slice na nn nc) ∧ W.cell? ⟨w.heap.size, 3, none⟩ = some (.slice ra rn rc) ∧ W.cell? ⟨w.heap.size, 4, none⟩ = some (.slice la ln lc) ∧ W.cell? ⟨w.heap.size, 5, none⟩ = some (.slice ca cn cc)) ⟨(Kept.refl w).alloc _, by simp, by simp, by simp, by simp, by simp, by simp⟩ ?_
      rintro W ⟨kW, x0, x1, x2, x3, x4, x5⟩
      have KW := hidMk kW
      clear kW
      go_loopg [7, 9] rn (fun gg v x wr => ∃ k : Nat, k + gg = rn ∧ x = .int .i64 k ∧ Kept W wr ∧ Hid (OwnS wr W.heap.size v (lnL (rwB f 18 rows) k)))
      case atStart => exact ⟨0, by omega, rfl, Kept.refl _, hidMk (World.ownsRow_nil _ _ _ _)⟩
      case round =>
        obtain ⟨k, hkg, rfl, hk, HO⟩ := hrel
        have HKG := hidMk hkg
        have HK := hidMk hk
        have z0 := hk.cellp x0
        have z1 := hk.cellp x1
        have z2 := hk.cellp x2
        have z3 := hk.cellp x3
        have z4 := hk.cellp x4
        have z5 := hk.cellp x5
        by_cases hkn : k < rn
        · obtain ⟨bb, oo, rfl, _, hc0⟩ := (HSR.out.kept (KW.out.trans hk)).cells (by omega)
          have hc := hc0 k hkn
          have HC := hidMk (fun (y : World) (hy : Kept wr y) => HCR.out y (KW.out.trans (HK.out.trans hy)) k hkn)
          have HLn := hidMk (lnL_len (rwB f 18 rows) k)
          have HT := hidMk (lnL_succ (rwB f 18 rows) k)
          have hk1 : (k : Int) < rn := by omega
          generalize lnL (rwB f 18 rows) k = LL at *
          generalize hln : rwB f 18 rows k = lnx at *
          clear hln
          unfold chF at hc HC
          have d0 : wr.cell? ⟨bb, oo + k * 7, none⟩ = some (.int .i64 (rows k).c0) := hc 0 _ rfl
          have d1 : wr.cell? ⟨bb, oo + k * 7 + 1, none⟩ = some (.int .i64 (rows k).c1) := hc 1 _ rfl
          have d2 : wr.cell? ⟨bb, oo + k * 7 + 2, none⟩ = some (.int .i64 (rows k).c2) := hc 2 _ rfl
          have d3 : wr.cell? ⟨bb, oo + k * 7 + 3, none⟩ = some (.int .i64 (rows k).c3) := hc 3 _ rfl
          have d4 : wr.cell? ⟨bb, oo + k * 7 + 4, none⟩ = some (.int .i64 (rows k).c4) := hc 4 _ rfl
          have d5 : wr.cell? ⟨bb, oo + k * 7 + 5, none⟩ = some (.int .i64 (rows k).a) := hc 5 _ rfl
          have d6 : wr.cell? ⟨bb, oo + k * 7 + 6, none⟩ = some (.int .i64 (rows k).b) := hc 6 _ rfl
          clear hc hc0 hk hkg
          generalize (rows k).c0 = y0 at *
          generalize (rows k).c1 = y1 at *
          generalize (rows k).c2 = y2 at *
          generalize (rows k).c3 = y3 at *
          generalize (rows k).c4 = y4 at *
          generalize (rows k).a = y5 at *
          generalize (rows k).b = y6 at *
          go_wp2_with fail
          refine (HC.out _ (Kept.refl _)).mono ?_
          rintro e w2 ⟨rfl, k2⟩
          have K2 := hidMk k2
          clear k2
          go_wp2_with (at_builtin; refine wpList_pushS _ rfl _ _ rfl W.heap.size _ LL rfl ((HO.out.kept K2.out).kept ((Kept.refl _).alloc _)) ?c1x9 _ lnx rfl ?c2x9 ?c3x9 _ rfl ?_)
          case c1x9 => simp; have h1 := HK.out.size; have h2 := K2.out.size; omega
          case c2x9 => simp
          case c3x9 => rw [HLn.out]; omega
          intro g' cap w3 o3 k3 _ _
          have K3 := hidMk (show Kept W w3 from k3.kept ((HK.out.trans K2.out).alloc _) (fun t ht => (HO.out.lt t ht).1))
          have O3 := hidMk o3
          clear o3 k3
          go_wp2_with fail
          go_roundg (gk - 1)
          case measure => have := HKG.out; omega
          case rel => exact ⟨k + 1, by have := HKG.out; omega, by go_num, K3.out, hidMk (by rw [HT.out]; exact O3.out)⟩
        · have e : k = rn := by omega
          subst e
          have hkk : ¬ ((k : Int) < (k : Int)) := by omega
          have K1 := hidMk (KW.out.trans hk)
          clear hk hkg x0 x1 x2 x3 x4 x5
          have HLQ := hidMk (show (lnL (rwB f 18 rows) k).length ≤ 50 by rw [lnL_len]; exact hn2)
          obtain ⟨LLQ, hq⟩ : ∃ L, lnL (rwB f 18 rows) k = L := ⟨_, rfl⟩
          rw [hq] at HO HLQ
          have HQ := hidMk hq
          clear hq
          go_wp2_with (at_builtin; refine wpList_pushS _ rfl _ _ rfl W.heap.size _ LLQ rfl (HO.out.kept ((Kept.refl _).alloc _)) ?c1x10 _ ⟨#[111, 107]⟩ rfl ?c2x10 ?c3x10 _ rfl ?_)
          case c1x10 => (try simp); have h1 := HK.out.size; omega
          try (case c2x10 => (try simp))
          try (case c3x10 => have := HLQ.out; omega)
          intro g' cap w3 o3 c3 _ _
          have K3 := hidMk (show Kept w w3 from c3.kept (K1.out.alloc _) (fun t ht => Nat.le_trans KW.out.size (HO.out.lt t ht).1))
          have O3 := hidMk (OwnS.le o3 KW.out.size)
          clear o3 c3
          go_wp2_with fail
          go_ret
          exact ⟨_, rfl, by rw [HQ.out]; exact O3.out, K3.out⟩

    by_cases e15 : kind = 15
    · subst e15
      clear e11 e12 e13 e14 e17 e18
      rw [HRM.out rfl (by decide), show midL f 15 names rn rows ln locks cn cls = lnL (lkB f locks) ln from rfl]
      unfold okW
      clear HCC HCR HNU HSN
      go_enter Try.func17, Try.ntmps17
      go_wp2_with fail
      refine gen_world (f := fun W => Code.wp _ _ _ _ W) (fun W => Kept w W ∧ W.cell? ⟨w.heap.size, 0, none⟩ = some (.int .i64 0) ∧ W.cell? ⟨w.heap.size, 1, none⟩ = some (.int .i64 n) ∧ W.cell? ⟨w.heap.size, 2, none⟩ = some (.slice na nn nc) ∧ W.cell? ⟨w.heap.size, 3, none⟩ = some (.slice ra rn rc) ∧ W.cell? ⟨w.heap.size, 4, none⟩ = some (.slice la ln lc) ∧ W.cell? ⟨w.heap.size, 5, none⟩ = some (.slice ca cn cc)) ⟨(Kept.refl w).alloc _, by simp, by simp, by simp, by simp, by simp, by simp⟩ ?_
      rintro W ⟨kW, x0, x1, x2, x3, x4, x5⟩
      have KW := hidMk kW
      clear kW
      go_loopg [7, 10] ln (fun gg v x wr => ∃ k : Nat, k + gg = ln ∧ x = .int .i64 k ∧ Kept W wr ∧ Hid (OwnS wr W.heap.size v (lnL (lkB f locks) k)))
      case atStart => exact ⟨0, by omega, rfl, Kept.refl _, hidMk (World.ownsRow_nil _ _ _ _)⟩
      case round =>
        obtain ⟨k, hkg, rfl, hk, HO⟩ := hrel
        have HKG := hidMk hkg
        have HK := hidMk hk
        have z0 := hk.cellp x0
        have z1 := hk.cellp x1
        have z2 := hk.cellp x2
        have z3 := hk.cellp x3
        have z4 := hk.cellp x4
        have z5 := hk.cellp x5
        by_cases hkn : k < ln
        · obtain ⟨bb, oo, rfl, _, hc0⟩ := (HSL.out.kept (KW.out.trans hk)).cells (by omega)
          have hc := hc0 k hkn
          have HC := hidMk (fun (y : World) (hy : Kept wr y) => HCK.out y (KW.out.trans (HK.out.trans hy)) k hkn)
          have HLn := hidMk (lnL_len (lkB f locks) k)
          have HT := hidMk (lnL_succ (lkB f locks) k)
          have hk1 : (k : Int) < ln := by omega
          generalize lnL (lkB f locks) k = LL at *
          generalize hln : lkB f locks k = lnx at *
          clear hln
          unfold loF at hc HC
          have d0 : wr.cell? ⟨bb, oo + k * 6, none⟩ = some (.int .i64 (locks k).c0) := hc 0 _ rfl
          have d1 : wr.cell? ⟨bb, oo + k * 6 + 1, none⟩ = some (.int .i64 (locks k).c1) := hc 1 _ rfl
          have d2 : wr.cell? ⟨bb, oo + k * 6 + 2, none⟩ = some (.int .i64 (locks k).c2) := hc 2 _ rfl
          have d3 : wr.cell? ⟨bb, oo + k * 6 + 3, none⟩ = some (.int .i64 (locks k).c3) := hc 3 _ rfl
          have d4 : wr.cell? ⟨bb, oo + k * 6 + 4, none⟩ = some (.int .i64 (locks k).c4) := hc 4 _ rfl
          have d5 : wr.cell? ⟨bb, oo + k * 6 + 5, none⟩ = some (.string (locks k).u) := hc 5 _ rfl
          clear hc hc0 hk hkg
          generalize (locks k).c0 = y0 at *
          generalize (locks k).c1 = y1 at *
          generalize (locks k).c2 = y2 at *
          generalize (locks k).c3 = y3 at *
          generalize (locks k).c4 = y4 at *
          generalize (locks k).u = y5 at *
          go_wp2_with fail
          refine (HC.out _ (Kept.refl _)).mono ?_
          rintro e w2 ⟨rfl, k2⟩
          have K2 := hidMk k2
          clear k2
          go_wp2_with (at_builtin; refine wpList_pushS _ rfl _ _ rfl W.heap.size _ LL rfl ((HO.out.kept K2.out).kept ((Kept.refl _).alloc _)) ?c1x11 _ lnx rfl ?c2x11 ?c3x11 _ rfl ?_)
          case c1x11 => simp; have h1 := HK.out.size; have h2 := K2.out.size; omega
          case c2x11 => simp
          case c3x11 => rw [HLn.out]; omega
          intro g' cap w3 o3 k3 _ _
          have K3 := hidMk (show Kept W w3 from k3.kept ((HK.out.trans K2.out).alloc _) (fun t ht => (HO.out.lt t ht).1))
          have O3 := hidMk o3
          clear o3 k3
          go_wp2_with fail
          go_roundg (gk - 1)
          case measure => have := HKG.out; omega
          case rel => exact ⟨k + 1, by have := HKG.out; omega, by go_num, K3.out, hidMk (by rw [HT.out]; exact O3.out)⟩
        · have e : k = ln := by omega
          subst e
          have hkk : ¬ ((k : Int) < (k : Int)) := by omega
          have K1 := hidMk (KW.out.trans hk)
          clear hk hkg x0 x1 x2 x3 x4 x5
          have HLQ := hidMk (show (lnL (lkB f locks) k).length ≤ 50 by rw [lnL_len]; exact hn3)
          obtain ⟨LLQ, hq⟩ : ∃ L, lnL (lkB f locks) k = L := ⟨_, rfl⟩
          rw [hq] at HO HLQ
          have HQ := hidMk hq
          clear hq
          go_wp2_with (at_builtin; refine wpList_pushS _ rfl _ _ rfl W.heap.size _ LLQ rfl (HO.out.kept ((Kept.refl _).alloc _)) ?c1x12 _ ⟨#[111, 107]⟩ rfl ?c2x12 ?c3x12 _ rfl ?_)
          case c1x12 => (try simp); have h1 := HK.out.size; omega
          try (case c2x12 => (try simp))
          try (case c3x12 => have := HLQ.out; omega)
          intro g' cap w3 o3 c3 _ _
          have K3 := hidMk (show Kept w w3 from c3.kept (K1.out.alloc _) (fun t ht => Nat.le_trans KW.out.size (HO.out.lt t ht).1))
          have O3 := hidMk (OwnS.le o3 KW.out.size)
          clear o3 c3
          go_wp2_with fail
          go_ret
          exact ⟨_, rfl, by rw [HQ.out]; exact O3.out, K3.out⟩

    by_cases e10 : kind = 10
    · subst e10
      clear e11 e12 e13 e14 e17 e18 e15
      rw [HRM.out rfl (by decide), show midL f 10 names rn rows ln locks cn cls = lnL (clB f cls) cn from rfl]
      unfold okW
      clear HCR HCK HNU HSN
      go_enter Try.func17, Try.ntmps17
      go_wp2_with fail
      refine gen_world (f := fun W => Code.wp _ _ _ _ W) (fun W => Kept w W ∧ W.cell? ⟨w.heap.size, 0, none⟩ = some (.int .i64 0) ∧ W.cell? ⟨w.heap.size, 1, none⟩ = some (.int .i64 n) ∧ W.cell? ⟨w.heap.size, 2, none⟩ = some (.slice na nn nc) ∧ W.cell? ⟨w.heap.size, 3, none⟩ = some (.slice ra rn rc) ∧ W.cell? ⟨w.heap.size, 4, none⟩ = some (.slice la ln lc) ∧ W.cell? ⟨w.heap.size, 5, none⟩ = some (.slice ca cn cc)) ⟨(Kept.refl w).alloc _, by simp, by simp, by simp, by simp, by simp, by simp⟩ ?_
      rintro W ⟨kW, x0, x1, x2, x3, x4, x5⟩
      have KW := hidMk kW
      clear kW
      go_loopg [7, 8] cn (fun gg v x wr => ∃ k : Nat, k + gg = cn ∧ x = .int .i64 k ∧ Kept W wr ∧ Hid (OwnS wr W.heap.size v (lnL (clB f cls) k)))
      case atStart => exact ⟨0, by omega, rfl, Kept.refl _, hidMk (World.ownsRow_nil _ _ _ _)⟩
      case round =>
        obtain ⟨k, hkg, rfl, hk, HO⟩ := hrel
        have HKG := hidMk hkg
        have HK := hidMk hk
        have z0 := hk.cellp x0
        have z1 := hk.cellp x1
        have z2 := hk.cellp x2
        have z3 := hk.cellp x3
        have z4 := hk.cellp x4
        have z5 := hk.cellp x5
        by_cases hkn : k < cn
        · obtain ⟨bb, oo, rfl, _, hc0⟩ := (HSC.out.kept (KW.out.trans hk)).cells (by omega)
          have hc := hc0 k hkn
          have HC := hidMk (fun (y : World) (hy : Kept wr y) => HCC.out y (KW.out.trans (HK.out.trans hy)) k hkn)
          have HLn := hidMk (lnL_len (clB f cls) k)
          have HT := hidMk (lnL_succ (clB f cls) k)
          have hk1 : (k : Int) < cn := by omega
          generalize lnL (clB f cls) k = LL at *
          generalize hln : clB f cls k = lnx at *
          clear hln
          unfold csF at hc HC
          have d0 : wr.cell? ⟨bb, oo + k * 9, none⟩ = some (.int .i64 (cls k).c0) := hc 0 _ rfl
          have d1 : wr.cell? ⟨bb, oo + k * 9 + 1, none⟩ = some (.int .i64 (cls k).c1) := hc 1 _ rfl
          have d2 : wr.cell? ⟨bb, oo + k * 9 + 2, none⟩ = some (.int .i64 (cls k).c2) := hc 2 _ rfl
          have d3 : wr.cell? ⟨bb, oo + k * 9 + 3, none⟩ = some (.int .i64 (cls k).c3) := hc 3 _ rfl
          have d4 : wr.cell? ⟨bb, oo + k * 9 + 4, none⟩ = some (.int .i64 (cls k).c4) := hc 4 _ rfl
          have d5 : wr.cell? ⟨bb, oo + k * 9 + 5, none⟩ = some (.int .i64 (cls k).a) := hc 5 _ rfl
          have d6 : wr.cell? ⟨bb, oo + k * 9 + 6, none⟩ = some (.int .i64 (cls k).b) := hc 6 _ rfl
          have d7 : wr.cell? ⟨bb, oo + k * 9 + 7, none⟩ = some (.int .i64 (cls k).c) := hc 7 _ rfl
          have d8 : wr.cell? ⟨bb, oo + k * 9 + 8, none⟩ = some (.bool (cls k).h) := hc 8 _ rfl
          clear hc hc0 hk hkg
          generalize (cls k).c0 = y0 at *
          generalize (cls k).c1 = y1 at *
          generalize (cls k).c2 = y2 at *
          generalize (cls k).c3 = y3 at *
          generalize (cls k).c4 = y4 at *
          generalize (cls k).a = y5 at *
          generalize (cls k).b = y6 at *
          generalize (cls k).c = y7 at *
          generalize (cls k).h = y8 at *
          go_wp2_with fail
          refine (HC.out _ (Kept.refl _)).mono ?_
          rintro e w2 ⟨rfl, k2⟩
          have K2 := hidMk k2
          clear k2
          go_wp2_with (at_builtin; refine wpList_pushS _ rfl _ _ rfl W.heap.size _ LL rfl ((HO.out.kept K2.out).kept ((Kept.refl _).alloc _)) ?c1x13 _ lnx rfl ?c2x13 ?c3x13 _ rfl ?_)
          case c1x13 => simp; have h1 := HK.out.size; have h2 := K2.out.size; omega
          case c2x13 => simp
          case c3x13 => rw [HLn.out]; omega
          intro g' cap w3 o3 k3 _ _
          have K3 := hidMk (show Kept W w3 from k3.kept ((HK.out.trans K2.out).alloc _) (fun t ht => (HO.out.lt t ht).1))
          have O3 := hidMk o3
          clear o3 k3
          go_wp2_with fail
          go_roundg (gk - 1)
          case measure => have := HKG.out; omega
          case rel => exact ⟨k + 1, by have := HKG.out; omega, by go_num, K3.out, hidMk (by rw [HT.out]; exact O3.out)⟩
        · have e : k = cn := by omega
          subst e
          have hkk : ¬ ((k : Int) < (k : Int)) := by omega
          have K1 := hidMk (KW.out.trans hk)
          clear hk hkg x0 x1 x2 x3 x4 x5
          have HLQ := hidMk (show (lnL (clB f cls) k).length ≤ 50 by rw [lnL_len]; exact hn4)
          obtain ⟨LLQ, hq⟩ : ∃ L, lnL (clB f cls) k = L := ⟨_, rfl⟩
          rw [hq] at HO HLQ
          have HQ := hidMk hq
          clear hq
          go_wp2_with (at_builtin; refine wpList_pushS _ rfl _ _ rfl W.heap.size _ LLQ rfl (HO.out.kept ((Kept.refl _).alloc _)) ?c1x14 _ ⟨#[111, 107]⟩ rfl ?c2x14 ?c3x14 _ rfl ?_)
          case c1x14 => (try simp); have h1 := HK.out.size; omega
          try (case c2x14 => (try simp))
          try (case c3x14 => have := HLQ.out; omega)
          intro g' cap w3 o3 c3 _ _
          have K3 := hidMk (show Kept w w3 from c3.kept (K1.out.alloc _) (fun t ht => Nat.le_trans KW.out.size (HO.out.lt t ht).1))
          have O3 := hidMk (OwnS.le o3 KW.out.size)
          clear o3 c3
          go_wp2_with fail
          go_ret
          exact ⟨_, rfl, by rw [HQ.out]; exact O3.out, K3.out⟩

    by_cases e16 : kind = 16
    · subst e16
      clear e11 e12 e13 e14 e17 e18 e15 e10
      rw [HRM.out rfl (by decide), show midL f 16 names rn rows ln locks cn cls = names from rfl]
      unfold okW
      clear HCC HCR HCK HNU
      obtain rfl : nn = names.length := hnl.symm
      by_cases h0 : 0 < names.length
      · have HSS := hidMk HSN.out
        go_enter Try.func17, Try.ntmps17
        obtain ⟨W, hW⟩ : ∃ W, W = w.alloc (.cells #[.int .i64 0, .int .i64 n, .slice na names.length nc, .slice ra rn rc, .slice la ln lc, .slice ca cn cc] 53) := ⟨_, rfl⟩
        have KW := hidMk (show Kept w W by rw [hW]; exact (Kept.refl w).alloc _)
        go_wp2_with (at_builtin; first | refine wpList_catS _ rfl _ _ rfl W.heap.size (.slice none 0 0) [] rfl (World.ownsRow_nil _ _ _ _) (by rw [hW]; exact Nat.le_refl _) na names.length nc names rfl (HSS.out.kept ((Kept.refl w).alloc _)) h0 (by simp; omega) _ rfl ?_)
        intro g2 cap2 w2 o2 c2 _ _
        rw [← hW] at c2
        have hws : W.heap.size = w.heap.size + 1 := by rw [hW]; simp
        clear hW
        have K2 := hidMk (show Kept W w2 from c2.kept (Kept.refl _) (fun t ht => by cases ht))
        try rw [List.nil_append] at o2
        have o2 : OwnS w2 W.heap.size (.slice (some ⟨g2, 0, none⟩) names.length cap2) names := by first | exact o2 | (rw [hws]; simpa using o2)
        clear hws
        have O2 := hidMk o2
        clear o2 c2
        have HK := hidMk K2.out
        have K1 := hidMk (KW.out.trans K2.out)
        have HO := hidMk O2.out
        have HLQ := hidMk (show names.length ≤ 50 by omega)
        obtain ⟨LLQ, hq⟩ : ∃ L, names = L := ⟨_, rfl⟩
        subst hq
        go_wp2_with (at_builtin; refine wpList_pushS _ rfl _ _ rfl W.heap.size _ names rfl (HO.out.kept ((Kept.refl _).alloc _)) ?c1x15 _ ⟨#[111, 107]⟩ rfl ?c2x15 ?c3x15 _ rfl ?_)
        case c1x15 => (try simp); have h1 := HK.out.size; omega
        try (case c2x15 => (try simp))
        try (case c3x15 => have := HLQ.out; omega)
        intro g' cap w3 o3 c3 _ _
        have K3 := hidMk (show Kept w w3 from c3.kept (K1.out.alloc _) (fun t ht => Nat.le_trans KW.out.size (HO.out.lt t ht).1))
        have O3 := hidMk (OwnS.le o3 KW.out.size)
        clear o3 c3
        go_wp2_with fail
        go_ret
        exact ⟨_, rfl, O3.out, K3.out⟩
      · obtain rfl : names = [] := List.length_eq_zero_iff.1 (by omega)
        rw [List.nil_append]
        go_enter Try.func17, Try.ntmps17
        go_wp2_with (at_builtin; first | refine wpList_nothingS _ rfl _ _ rfl rfl na nc rfl ?_ | refine wpList_pushS _ rfl _ _ rfl w.heap.size (.slice none 0 0) [] rfl (World.ownsRow_nil _ _ _ _) ?c1x16 _ ⟨#[111, 107]⟩ rfl ?c2x16 (by decide) _ rfl ?_)
        case c1x16 => (try simp); omega
        try (case c2x16 => exact new_cellS _ _ _ _ _ _ (by simp) rfl)
        intro g' cap w3 o3 c3 _ _
        have K3 := hidMk (show Kept w w3 from c3.kept (((Kept.refl w).alloc _).alloc _) (fun t ht => by cases ht))
        have O3 := hidMk o3
        clear o3 c3
        go_wp2_with fail
        go_ret
        exact ⟨_, rfl, O3.out, K3.out⟩
    rw [HRM.out rfl (by rintro (h | h) <;> contradiction), midL_none e13 e14 e17 e18 e15 e16 e10, List.nil_append]
    unfold okW
    clear HCC HCR HCK HNU HRM HRN
    go_enter Try.func17, Try.ntmps17
    go_wp2_with (at_builtin; refine wpList_pushS _ rfl _ _ rfl w.heap.size (.slice none 0 0) [] rfl (World.ownsRow_nil _ _ _ _) ?c1x17 _ ⟨#[111, 107]⟩ rfl ?c2x17 (by decide) _ rfl ?_)
    case c1x17 => (try simp); omega
    try (case c2x17 => exact new_cellS _ _ _ _ _ _ (by simp) rfl)
    intro g' cap w3 o3 c3 _ _
    have K3 := hidMk (show Kept w w3 from c3.kept (((Kept.refl w).alloc _).alloc _) (fun t ht => by cases ht))
    have O3 := hidMk o3
    clear o3 c3
    go_wp2_with fail
    go_ret
    exact ⟨_, rfl, O3.out, K3.out⟩
end
end Go.Proofs.Ytbhojgodkblflaa
