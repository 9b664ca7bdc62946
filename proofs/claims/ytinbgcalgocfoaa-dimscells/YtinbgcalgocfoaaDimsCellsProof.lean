/-
  DimsCells holds: of every catalogue, of any names and any cell the program's answers are those of the document, and names lead back; no condition.
-/
import Derived.Test.YtinbgcalgocfoaaRows
import Derived.Test.YtinbgcalgocfoaaLawDimsCells
import Derived.WalkKit
import Derived.ProofKit
import Derived.OpenShut
import Derived.ShutString
import Derived.ChangeOld
import Derived.Below
import Derived.SizedLaws
import Derived.Deep.Strs
namespace Go.Proofs.Ytinbgcalgocfoaa.dimsCells
open Go.ChangeShapes Go.WideShapes Go.ChangeAt Go.RowKit
open Go.ChangeMaps (open_string shut_string)
set_option linter.unusedVariables false

theorem own : ownKnob Try.prog.godebug = none := by kernel_rfl
theorem laidOut : laidOutB Try.prog = true := by kernel_rfl

theorem walk (a0 : Option Addr) (n0 c0 : Nat) (l0 : List Dm) (na0 : Nat → Option Addr × Nat × Nat) (b0 : Option Addr) (m0 d0 : Nat) (ms0 : List ByteArray) (lv0 sc0 : Int) (a1 : ByteArray) (a2 : Option Addr) (n2 c2 : Nat) (l2 : List ByteArray) (cm3 : Int) (at3 : Nat → Int) (w : World) (s0 : Dss w a0 n0 l0 na0) (t0 : Ss w b0 m0 ms0) (w0 : ∀ y ∈ ms0, y.size ≤ maxLen) (w1 : a1.size ≤ maxLen) (z1 : a1.size ≤ reachBytes) (s2 : Ss w a2 n2 l2) (w2 : ∀ x ∈ l2, x.size ≤ maxLen) (e2 : a2 = none → c2 = 0) (k2 : n2 ≤ c2) :
    Calls Try.prog 3 #[.agg #[.slice a0 n0 c0, .slice b0 m0 d0, .int .i64 lv0, .int .i64 sc0], .string a1, .slice a2 n2 c2, cellV cm3 at3] w fun e w' => e = .returned (.bool true) ∧ Below w.heap.size w w' := by
  exact (law_DimsCells a0 n0 c0 l0 na0 b0 m0 d0 ms0 lv0 sc0 a1 a2 n2 c2 l2 cm3 at3 w s0 t0 (msA_le w0) s2 (msA_le w2)).mono fun e w' h => h

set_option maxRecDepth 100000 in
theorem lifted (os : Os) (started : os.Started) (H : Type) (enc : TypeId × Value → H) :
    ReturnsInHanded {} Try.checked os 3 .any (Rows.dimsCellsSpec.pre6 enc Try.prog Try.f3 Rows.dimsCellsRow.domain false) (Rows.dimsCellsSpec.post enc Try.prog Try.f3 false true false false) := by
  refine returnsInHanded_of_change_sized (C := Try.checked) own started (by kernel_rfl) Try.func3
    (ChangeSpec.witness6 (enc := enc) (C := Try.checked) false ⟨#[], #[.agg #[.slice none 0 0, .slice none 0 0, .int .i64 0, .int .i64 0], .string ByteArray.empty, .slice none 0 0, .agg #[.int .i64 0, .int .i64 0, .int .i64 0, .int .i64 0, .int .i64 0]], []⟩ 8 (by kernel_rfl) (by kernel_rfl) (by kernel_rfl) (by kernel_rfl)) ?_
  intro W base args ds gs before hval0 hW hcnd hsz0 _
  have hsz : (DataW.weightsEach Try.prog (Try.f3.params.toList ++ Rows.dimsCellsSpec.plain.varTypes Try.prog) (ds ++ gs)).all (· ≤ reachBytes) = true := hsz0
  have hval : ∀ (j : Nat) t v, Try.f3.params[j]? = some t → args[j]? = some v → Value.okWide Try.prog W .any base t v := hval0
  have hW' := hW
  obtain ⟨p, q, hA0, hV, rfl, hfz, hnd⟩ := hW
  have hA : DataW.TrodAll enc Try.prog W 0 (fun _ => true) true Try.f3.params.toList args.toList ds p := hA0
  rw [Try.params3] at hA hval hsz
  obtain ⟨v0, vs0, d0, ds0, p0, q0, hargs, rfl, rfl, h0, r0⟩ := trodAll_cons hA
  obtain ⟨v1, vs1, d1, ds1, p1, q1, rfl, rfl, rfl, h1, r1⟩ := trodAll_cons r0
  obtain ⟨v2, vs2, d2, ds2, p2, q2, rfl, rfl, rfl, h2, r2⟩ := trodAll_cons r1
  obtain ⟨v3, vs3, d3, ds3, p3, q3, rfl, rfl, rfl, h3, r3⟩ := trodAll_cons r2
  obtain ⟨rfl, rfl, rfl⟩ := trodAll_nil r3
  obtain rfl : args = #[v0, v1, v2, v3] := by cases args; simp_all
  obtain ⟨rfl, rfl⟩ := trodVars_none hV
  have q0 := h0
  have lt0 : ∀ x ∈ p0, x.block < W.heap.size := by obtain ⟨m, hm⟩ := q0; exact DataW.trod_lt m _ _ _ hm
  obtain ⟨a0, n0, c0, l0, na0, b0, m0, dd0, ms0, lv0, sc0, rfl, s0, t0, w0⟩ := cat_open (hval 0 25 v0 rfl rfl) (Classical.choose_spec h0)
  obtain ⟨a1, rfl, rfl, rfl, w1⟩ := open_string Try.underlying9 (hval 1 9 v1 rfl rfl) h1
  obtain ⟨a2, n2, c2, rfl⟩ := okWide_slice Try.underlying23 (hval 2 23 v2 rfl rfl)
  have q2 := h2
  have lt2 : ∀ x ∈ p2, x.block < W.heap.size := by obtain ⟨m, hm⟩ := q2; exact DataW.trod_lt m _ _ _ hm
  obtain ⟨l2, s2, w2, e2, k2⟩ : ∃ l, Ss W a2 n2 l ∧ (∀ x ∈ l, x.size ≤ maxLen) ∧ (a2 = none → c2 = 0) ∧ n2 ≤ c2 := by
    obtain ⟨fuel, hf⟩ := h2
    rcases Go.Deep.open_strs Try.underlying23 Try.underlying9 (by kernel_rfl) hf with ⟨hcs, _⟩ | ⟨x, l, c, m, Sx, hcs, _, hl, hm, hmm, hx, hcell⟩
    · simp [Value.cells] at hcs
      obtain ⟨rfl, rfl, rfl⟩ := hcs
      exact ⟨[], ⟨rfl, Nat.zero_le _, fun h => absurd h (by omega)⟩, by simp, fun _ => rfl, Nat.le_refl _⟩
    · simp [Value.cells] at hcs
      obtain ⟨rfl, rfl, rfl⟩ := hcs
      simp only [if_true] at hmm
      subst hmm
      obtain ⟨l, h1, h2⟩ := isStrs_ss hl hm hcell
      exact ⟨l, h1, h2, (fun h => by cases h), hl⟩
  have q3 := h3
  have lt3 : ∀ x ∈ p3, x.block < W.heap.size := by obtain ⟨m, hm⟩ := q3; exact DataW.trod_lt m _ _ _ hm
  obtain ⟨cm3, at3, rfl⟩ := cell_open (hval 3 28 v3 rfl rfl) (Classical.choose_spec h3)
  have z1 : a1.size ≤ reachBytes := by have h := sized_string hsz (j := 1) (t := 9) rfl rfl; simpa using h
  clear hA0 hval0
  refine (walk a0 n0 c0 l0 na0 b0 m0 dd0 ms0 lv0 sc0 a1 a2 n2 c2 l2 cm3 at3 W s0 t0 w0 w1 z1 s2 w2 e2 k2 ).mono fun e W' ⟨he, bel⟩ => ?_
  subst he
  exact ⟨_, rfl, _, _, _, [], _, [], hW', trodAll_mk1 (shut_bool Try.underlying4 _), (trodAll_cons_mk (Below.trod laidOut (by kernel_rfl) (of_decide_eq_true (by kernel_rfl)) q0 bel lt0) (trodAll_cons_mk (shut_string Try.underlying9 w1) (trodAll_cons_mk (Below.trod laidOut (by kernel_rfl) (of_decide_eq_true (by kernel_rfl)) q2 bel lt2) (trodAll_cons_mk (Below.trod laidOut (by kernel_rfl) (of_decide_eq_true (by kernel_rfl)) q3 bel lt3) trodAll_mk0)))), rfl, bel.frame _, fun h => by cases h⟩

theorem over : Rows.dimsCellsRow.holds Try.pinned (OpenSpec.ofChange Rows.dimsCellsSpec) :=
  OpenClaim.holds_of_wide 3 Try.f3 rfl rfl rfl rfl rfl rfl rfl ⟨rfl, rfl, rfl, rfl, rfl⟩ rfl rfl rfl rfl rfl (by kernel_rfl) Try.func3 (by kernel_rfl)
    (of_decide_eq_true (by kernel_rfl)) (by unfold Func.isWrapper; first | (rw [if_pos (by decide +kernel)]; kernel_rfl) | (rw [if_neg (by decide +kernel)]; exact ⟨rfl, rfl⟩))
    (fun os started H enc _ => lifted os started H enc)

end Go.Proofs.Ytinbgcalgocfoaa.dimsCells
namespace Go.Proofs.Ytinbgcalgocfoaa
theorem dimsCells_proved : Rows.DimsCellsSaid := dimsCells.over
end Go.Proofs.Ytinbgcalgocfoaa
