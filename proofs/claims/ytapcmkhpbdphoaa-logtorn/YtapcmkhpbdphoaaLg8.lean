/- log: Open; a log that can be. -/
import Derived.Test.YtapcmkhpbdphoaaLg7
namespace Go.Proofs.Ytapcmkhpbdphoaa
open Go.RowKit Go.Maps
set_option linter.unusedSimpArgs false
set_option linter.unusedVariables false

/-- What Open tells. -/
def OpnP (w : World) (f fr to : Nat) (wr : Int) (R : List Int) (rs : List (List Int)) (u : Nat) (e : Ending) (w' : World) : Prop := ∃ p g K va vn vc qs cl, e = .returned (.tuple #[.pointer (some ⟨p, 0, none⟩), .int .i64 0]) ∧
  Lc w' p f fr to false wr g R.length K va vn vc u cl ∧ Dt w' g R ∧ R.length ≤ K ∧ K ≤ 9223372036854775807 ∧ w.heap.size ≤ p ∧ w.heap.size ≤ g ∧ p ≠ g ∧ Rz w' 0 (.slice va vn vc) qs rs ∧ (∀ k, (Value.slice va vn vc).ownBlock = some k → w.heap.size ≤ k ∧ k ≠ g ∧ k ≠ p) ∧ (∀ q ∈ qs, ∀ ad, q.1 = some ad → w.heap.size ≤ ad.block ∧ ad.block ≠ g ∧ ad.block ≠ p) ∧ (cl = true ↔ nilB (R.drop u)) ∧ Kept w w'
section
variable {w : World} {f d N : Nat} {s : Bf}
set_option maxHeartbeats 2000000 in
set_option maxRecDepth 100000 in
theorem log_Open (h : Fl w f d N s) (hoff : s.off = false) (fr to : Nat) (h1 : fr < to) (h2 : to ≤ N) (hN : N ≤ 1000) (rs : List (List Int)) (u : Nat) (hA : AllIs (reg s.F fr to) rs u) :
    Calls Try.prog 8 #[.pointer (some ⟨f, 0, none⟩), .int .i64 (fr : Int), .int .i64 (to : Int)] w fun e w' => OpnP w f fr to s.wr (reg s.F fr to) rs u e w' := by
  have HAK := hidMk (ask_ok h fr to h1 h2)
  have HOF := hidMk (bk_Off h)
  rw [hoff] at HOF
  have HRD := hidMk (log_read h hoff fr to h1 h2 hN rs u hA)
  generalize reg s.F fr to = R at *
  clear h hoff h1 h2 hN hA
  go_enter Try.func8, Try.ntmps8
  go_wp2_with (first | (go_at_call 31; refine HAK.out.mono ?_; rintro e w1 ⟨rfl, hw1⟩; rw [hw1]; clear hw1 w1) | (go_at_call 32; refine HOF.out.mono ?_; rintro e w1 ⟨rfl, hw1⟩; rw [hw1]; clear hw1 w1))
  refine HRD.out.mono ?_
  rintro e w3 ⟨g, K, va, vn, vc, qs, cl, rfl, q1, q2, q3, q4, q5, q6, q7, q8, q9⟩
  have Q1 := hidMk q1
  have Q2 := hidMk q2
  have Q3 := hidMk q3
  have Q4 := hidMk q4
  have Q5 := hidMk q5
  have Q6 := hidMk q6
  have Q7 := hidMk q7
  have Q8 := hidMk q8
  have Q9 := hidMk q9
  clear q1 q2 q3 q4 q5 q6 q7 q8 q9
  go_wp2_with fail
  go_ret2
  have kA : Kept w3 (w3.alloc (.cells #[.pointer (some ⟨f, 0, none⟩), .int .i64 (fr : Int), .int .i64 (to : Int), .bool false, .int .i64 s.wr, .slice (some ⟨g, 0, none⟩) R.length K, .slice va vn vc, .int .i64 (u : Int), .bool cl] 55)) := (Kept.refl w3).alloc _
  have hs := Q9.out.size
  have hg := Q1.out.lt
  refine ⟨w3.heap.size, g, K, va, vn, vc, qs, cl, rfl, ⟨by simp, by simp, by simp, by simp, by simp, by simp, by simp, by simp, by simp, fun i hi => by simp, by simp⟩, Q1.out.kept kA, Q2.out, Q3.out, hs, Q4.out, by omega, Q5.out.kept kA, fun k hk => ?_, fun q hq ad e => ?_, Q8.out, Q9.out.trans kA⟩
  · have := Q6.out k hk
    have := Q5.out.olt k hk
    omega
  · have := Q7.out q hq ad e
    have := Q5.out.ap q hq ad e
    omega
theorem opn_nil (fr to : Int) (w : World) : Calls Try.prog 8 #[.pointer none, .int .i64 fr, .int .i64 to] w fun e w' => e = .returned (.tuple #[.pointer none, .int .i64 1]) ∧ w' = w := by
  have HAK := hidMk (ask_nil fr to w)
  go_enter Try.func8, Try.ntmps8
  go_wp2_with (go_at_call 31; refine HAK.out.mono ?_; rintro e w1 ⟨rfl, rfl⟩)
  go_ret2
  exact ⟨rfl, rfl⟩
end
/-- A log that can be, none of whose blocks is of T. -/
structure Lg (w : World) (T : Nat → Prop) (p f d g K : Nat) (va : Option Addr) (vn vc : Nat) (qs : List Sv) (N fr to : Nat) (s : Bf) (rs : List (List Int)) : Prop where
  lc : Lc w p f fr to false s.wr g ((to - fr) * 32) K va vn vc (catR rs).length true
  fl : Fl w f d N s
  dt : Dt w g (logB ((to - fr) * 32) rs)
  cap : (to - fr) * 32 ≤ K ∧ K ≤ 9223372036854775807
  rz : Rz w 0 (.slice va vn vc) qs rs
  rg : reg s.F fr to = logB ((to - fr) * 32) rs
  ok : ∀ r ∈ rs, RecOk r
  le : (catR rs).length ≤ (to - fr) * 32
  ft : fr < to ∧ to ≤ N ∧ N ≤ 1000
  sok : Ok s
  off : s.off = false
  ne : p ≠ f ∧ p ≠ d ∧ p ≠ g ∧ f ≠ g ∧ d ≠ g
  nv : ∀ k, (Value.slice va vn vc).ownBlock = some k → k ≠ p ∧ k ≠ f ∧ k ≠ d ∧ k ≠ g
  nq : ∀ q ∈ qs, ∀ ad, q.1 = some ad → ad.block ≠ p ∧ ad.block ≠ f ∧ ad.block ≠ d ∧ ad.block ≠ g
  tb : ∀ j, T j → j < w.heap.size
  tp : ¬ T p ∧ ¬ T f ∧ ¬ T d ∧ ¬ T g
  tv : ∀ k, (Value.slice va vn vc).ownBlock = some k → ¬ T k
  tq : ∀ q ∈ qs, ∀ ad, q.1 = some ad → ¬ T ad.block
section
variable {w W : World} {T : Nat → Prop} {p f d g K : Nat} {va : Option Addr} {vn vc : Nat} {qs : List Sv} {N fr to : Nat} {s : Bf} {rs : List (List Int)}
/-- What others do in their own blocks, and new ones: these are of T then. -/
theorem Lg.more (h : Lg w T p f d g K va vn vc qs N fr to s rs) (k : Chg T w W) : Lg W (fun j => T j ∨ (w.heap.size ≤ j ∧ j < W.heap.size)) p f d g K va vn vc qs N fr to s rs := by
  have hp := h.lc.lt
  have hf := h.fl.lt
  have hd := h.fl.dt.lt
  have hg := h.dt.lt
  obtain ⟨t1, t2, t3, t4⟩ := h.tp
  refine ⟨h.lc.chg k t1, h.fl.chg k t2 t3, h.dt.chg k t4, h.cap, h.rz.chg k h.tv h.tq, h.rg, h.ok, h.le, h.ft, h.sok, h.off, h.ne, h.nv, h.nq, fun j hj => ?_, ⟨?_, ?_, ?_, ?_⟩, fun j hj => ?_, fun q hq ad e => ?_⟩
  · have := k.size
    rcases hj with hj | hj
    · have := h.tb j hj; omega
    · omega
  · rintro (e | e)
    · exact t1 e
    · omega
  · rintro (e | e)
    · exact t2 e
    · omega
  · rintro (e | e)
    · exact t3 e
    · omega
  · rintro (e | e)
    · exact t4 e
    · omega
  · have := h.rz.olt j hj
    rintro (e | e)
    · exact h.tv j hj e
    · omega
  · have := (h.rz.ap q hq ad e).2
    rintro (e2 | e2)
    · exact h.tq q hq ad e e2
    · omega
/-- Nothing was written: the same of the same T. -/
theorem Lg.kept (h : Lg w T p f d g K va vn vc qs N fr to s rs) (k : Kept w W) : Lg W T p f d g K va vn vc qs N fr to s rs :=
  ⟨h.lc.kept k, h.fl.kept k, h.dt.kept k, h.cap, h.rz.kept k, h.rg, h.ok, h.le, h.ft, h.sok, h.off, h.ne, h.nv, h.nq, fun j hj => Nat.lt_of_lt_of_le (h.tb j hj) k.size, h.tp, h.tv, h.tq⟩
/-- A log that was opened, of a file that has records and noughts. -/
theorem lg_open {e : Ending} {w' : World} (hf : Fl w f d N s) (hok : Ok s) (hoff : s.off = false) (h1 : fr < to) (h2 : to ≤ N) (hN : N ≤ 1000) (hr : ∀ r ∈ rs, RecOk r) (hle : (catR rs).length ≤ (to - fr) * 32) (hrg : reg s.F fr to = logB ((to - fr) * 32) rs) (hT : ∀ j, T j → j < w.heap.size) (hTf : ¬ T f ∧ ¬ T d)
    (h : OpnP w f fr to s.wr (reg s.F fr to) rs (catR rs).length e w') : ∃ p g K va vn vc qs, e = .returned (.tuple #[.pointer (some ⟨p, 0, none⟩), .int .i64 0]) ∧ w.heap.size ≤ p ∧ Lg w' T p f d g K va vn vc qs N fr to s rs ∧ Kept w w' := by
  obtain ⟨p, g, K, va, vn, vc, qs, cl, rfl, q1, q2, q3, q4, q5, q6, q7, q8, q9, q10, q11, q12⟩ := h
  rw [hrg] at q1 q2 q3 q11
  rw [logB_len hle] at q1 q3
  have hcl : cl = true := q11.2 (by rw [logB_drop]; exact fun j _ => zs_getD _ j)
  subst hcl
  have hf1 := hf.lt
  have hf2 := hf.dt.lt
  refine ⟨p, g, K, va, vn, vc, qs, rfl, q5, ⟨q1, hf.kept q12, q2, ⟨q3, q4⟩, q8, hrg, hr, hle, ⟨h1, h2, hN⟩, hok, hoff, ⟨by omega, by omega, q7, by omega, by omega⟩, fun k hk => ?_, fun q hq ad e => ?_, fun j hj => Nat.lt_of_lt_of_le (hT j hj) q12.size, ⟨fun e => ?_, hTf.1, hTf.2, fun e => ?_⟩, fun k hk e => ?_, fun q hq ad e e2 => ?_⟩, q12⟩
  · have := q9 k hk; omega
  · have := q10 q hq ad e; omega
  · have := hT p e; omega
  · have := hT g e; omega
  · have := hT k e; have := q9 k hk; omega
  · have := hT _ e2; have := q10 q hq ad e; omega
end
end Go.Proofs.Ytapcmkhpbdphoaa
