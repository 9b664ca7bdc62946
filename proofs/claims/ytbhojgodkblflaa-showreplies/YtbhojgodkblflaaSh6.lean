/- show: the closures, clashes, a reply. -/
import Derived.Test.YtbhojgodkblflaaSh3
import Derived.Test.YtbhojgodkblflaaSh5
import Derived.Lib.SmallJoins
namespace Go.Proofs.Ytbhojgodkblflaa
open Go.RowKit Go.Maps
set_option linter.unusedSimpArgs false
set_option linter.unusedVariables false

abbrev CF := Int → Int → Int → Int → Int → ByteArray
def okW : ByteArray := ⟨#[111, 107]⟩
def rwB (f : CF) (kind : Int) (g : Nat → Ch) (i : Nat) : ByteArray := rowB kind (f (g i).c0 (g i).c1 (g i).c2 (g i).c3 (g i).c4) (g i).a (g i).b
def lkB (f : CF) (g : Nat → Lo) (i : Nat) : ByteArray := lockB (f (g i).c0 (g i).c1 (g i).c2 (g i).c3 (g i).c4) (g i).u
def clB (f : CF) (g : Nat → Cs) (i : Nat) : ByteArray := clashB (f (g i).c0 (g i).c1 (g i).c2 (g i).c3 (g i).c4) (g i).a (g i).b (g i).c (g i).h
/-- A reply's lines but the last. -/
def midL (f : CF) (kind : Int) (names : List ByteArray) (rn : Nat) (rows : Nat → Ch) (ln : Nat) (locks : Nat → Lo) (cn : Nat) (cls : Nat → Cs) : List ByteArray :=
  if kind = 13 ∨ kind = 14 ∨ kind = 17 ∨ kind = 18 then lnL (rwB f kind rows) rn else if kind = 15 then lnL (lkB f locks) ln else if kind = 16 then names else if kind = 10 then lnL (clB f cls) cn else []
def replyL (f : CF) (kind why n : Int) (names : List ByteArray) (rn : Nat) (rows : Nat → Ch) (ln : Nat) (locks : Nat → Lo) (cn : Nat) (cls : Nat → Cs) : List ByteArray :=
  if why ≠ 0 then lnL (clB f cls) cn ++ [wrongB why (-1)] else if kind = 11 ∨ kind = 12 then [numS n] else midL f kind names rn rows ln locks cn cls ++ [okW]
/-- A reply that can be: its numbers fit, its texts are texts. -/
structure RpOk (why n : Int) (rn : Nat) (rows : Nat → Ch) (ln : Nat) (locks : Nat → Lo) (cn : Nat) (cls : Nat → Cs) : Prop where
  why : isI why
  n : isI n
  r : ∀ i, i < rn → isI (rows i).a ∧ isI (rows i).b
  l : ∀ i, i < ln → (locks i).u.size ≤ 140737488351232
  c : ∀ i, i < cn → isI (cls i).a ∧ isI (cls i).b ∧ isI (cls i).c
structure RpIn (w : World) (na : Option Addr) (nn : Nat) (names : List ByteArray) (ra : Option Addr) (rn : Nat) (rows : Nat → Ch) (la : Option Addr) (ln : Nat) (locks : Nat → Lo) (ca : Option Addr) (cn : Nat) (cls : Nat → Cs) : Prop where
  n : Ss w na nn names
  r : Rq chF 7 w ra rn rows
  l : Rq loF 6 w la ln locks
  c : Rq csF 9 w ca cn cls
theorem RpIn.kept {w w' : World} {na : Option Addr} {nn : Nat} {names : List ByteArray} {ra : Option Addr} {rn : Nat} {rows : Nat → Ch} {la : Option Addr} {ln : Nat} {locks : Nat → Lo} {ca : Option Addr} {cn : Nat} {cls : Nat → Cs} (h : RpIn w na nn names ra rn rows la ln locks ca cn cls) (k : Kept w w') : RpIn w' na nn names ra rn rows la ln locks ca cn cls := ⟨h.n.kept k, h.r.kept k, h.l.kept k, h.c.kept k⟩
section
variable {f : CF} (hf : ∀ c0 c1 c2 c3 c4, (f c0 c1 c2 c3 c4).size ≤ 1000)
include hf
set_option maxHeartbeats 2000000 in
set_option maxRecDepth 100000 in
theorem clo_Row (d : Value) (kind : Int) (p1 p2 : Nat) (x : Ch) (w : World) (hS : ShP 20 d f w) (ha : isI x.a) (hb : isI x.b) (h1 : w.cell? ⟨p1, 0, none⟩ = some d) (h2 : w.cell? ⟨p2, 0, none⟩ = some (.int .i64 kind)) :
    Calls Try.prog 27 #[.agg (chF x).toArray, .pointer (some ⟨p1, 0, none⟩), .pointer (some ⟨p2, 0, none⟩)] w fun e w' => e = .returned (.string (rowB kind (f x.c0 x.c1 x.c2 x.c3 x.c4) x.a x.b)) ∧ Kept w w' := by
  obtain ⟨c0, c1, c2, c3, c4, a, b⟩ := x
  have H := hidMk (fun (y : World) (hy : Kept w y) => show_Row d kind c0 c1 c2 c3 c4 a b f y (hS.kept hy) (hf _ _ _ _ _) ha hb)
  unfold chF
  clear hS ha hb
  dsimp only
  generalize rowB kind (f c0 c1 c2 c3 c4) a b = r at *
  go_enter Try.func27, Try.ntmps27
  have h1' := fun o => ((Kept.refl w).alloc o).cellp h1
  have h2' := fun o => ((Kept.refl w).alloc o).cellp h2
  go_wp2_with fail
  refine (H.out _ ((Kept.refl w).alloc _)).mono ?_
  rintro e w1 ⟨rfl, k1⟩
  have K1 := hidMk (((Kept.refl w).alloc _).trans k1)
  clear k1
  go_wp2_with fail
  go_ret
  exact ⟨rfl, K1.out⟩
set_option maxHeartbeats 2000000 in
set_option maxRecDepth 100000 in
theorem clo_Lock (d : Value) (p1 : Nat) (x : Lo) (w : World) (hS : ShP 20 d f w) (hu : x.u.size ≤ 140737488351232) (h1 : w.cell? ⟨p1, 0, none⟩ = some d) :
    Calls Try.prog 29 #[.agg (loF x).toArray, .pointer (some ⟨p1, 0, none⟩)] w fun e w' => e = .returned (.string (lockB (f x.c0 x.c1 x.c2 x.c3 x.c4) x.u)) ∧ Kept w w' := by
  obtain ⟨c0, c1, c2, c3, c4, u⟩ := x
  have H := hidMk (fun (y : World) (hy : Kept w y) => show_Lock d c0 c1 c2 c3 c4 u f y (hS.kept hy) (hf _ _ _ _ _) hu)
  unfold loF
  clear hS hu
  dsimp only
  generalize lockB (f c0 c1 c2 c3 c4) u = r at *
  go_enter Try.func29, Try.ntmps29
  have h1' := fun o => ((Kept.refl w).alloc o).cellp h1
  go_wp2_with fail
  refine (H.out _ ((Kept.refl w).alloc _)).mono ?_
  rintro e w1 ⟨rfl, k1⟩
  have K1 := hidMk (((Kept.refl w).alloc _).trans k1)
  clear k1
  go_wp2_with fail
  go_ret
  exact ⟨rfl, K1.out⟩
set_option maxHeartbeats 2000000 in
set_option maxRecDepth 100000 in
theorem clo_Clash (d : Value) (p1 : Nat) (x : Cs) (w : World) (hS : ShP 20 d f w) (ha : isI x.a) (hb : isI x.b) (hc : isI x.c) (h1 : w.cell? ⟨p1, 0, none⟩ = some d) :
    Calls Try.prog 46 #[.agg (csF x).toArray, .pointer (some ⟨p1, 0, none⟩)] w fun e w' => e = .returned (.string (clashB (f x.c0 x.c1 x.c2 x.c3 x.c4) x.a x.b x.c x.h)) ∧ Kept w w' := by
  obtain ⟨c0, c1, c2, c3, c4, a, b, c, h⟩ := x
  have H := hidMk (fun (y : World) (hy : Kept w y) => show_Clash d c0 c1 c2 c3 c4 a b c h f y (hS.kept hy) (hf _ _ _ _ _) ha hb hc)
  unfold csF
  clear hS ha hb hc
  dsimp only
  generalize clashB (f c0 c1 c2 c3 c4) a b c h = r at *
  go_enter Try.func46, Try.ntmps46
  have h1' := fun o => ((Kept.refl w).alloc o).cellp h1
  go_wp2_with fail
  refine (H.out _ ((Kept.refl w).alloc _)).mono ?_
  rintro e w1 ⟨rfl, k1⟩
  have K1 := hidMk (((Kept.refl w).alloc _).trans k1)
  clear k1
  go_wp2_with fail
  go_ret
  exact ⟨rfl, K1.out⟩
set_option maxHeartbeats 2000000 in
set_option maxRecDepth 100000 in
theorem show_clashes (pd : Option Addr) (v0 v1 v2 v3 v4 : Value) (ca : Option Addr) (cn cc : Nat) (cls : Nat → Cs) (w : World) (hS : ShP 20 (.pointer pd) f w) (hc : Rq csF 9 w ca cn cls) (hn : cn ≤ 50) (hi : ∀ i, i < cn → isI (cls i).a ∧ isI (cls i).b ∧ isI (cls i).c) :
    Calls Try.prog 25 #[.pointer pd, .agg #[v0, v1, v2, v3, v4, .slice ca cn cc]] w fun e w' => ∃ v, e = .returned v ∧ OwnS w' w.heap.size v (lnL (clB f cls) cn) ∧ Kept w w' := by
  have H := hidMk (fun (y : World) (hy : Kept w y) (p : Nat) (hp : y.cell? ⟨p, 0, none⟩ = some (.pointer pd)) => lines_Cs ca cn cc cls (clB f cls) p y (hc.kept hy) hn (fun z hz i hi' => clo_Clash hf (.pointer pd) p (cls i) z (hS.kept (hy.trans hz)) (hi i hi').1 (hi i hi').2.1 (hi i hi').2.2 (hz.cellp hp)))
  have hmf : ∀ (fn : Fn) (first cap : Array Value) (w : World), (Instr.makeFunc fn first cap).run Try.prog w = .ok (.func fn first cap) w := fun _ _ _ _ => rfl
  clear hS hc hn hi
  generalize lnL (clB f cls) cn = LL at *
  go_enter Try.func25, Try.ntmps25
  go_wp2_with fail
  refine (H.out _ (((Kept.refl w).alloc _).alloc _) _ ?_).mono ?_
  · simp
  rintro e w1 ⟨v, rfl, o1, k1⟩
  have O1 := hidMk o1
  have K1 := hidMk ((((Kept.refl w).alloc _).alloc _).trans k1)
  clear k1 o1
  go_wp2_with fail
  go_ret
  refine ⟨_, rfl, ?_, K1.out⟩
  have h := O1.out
  unfold OwnS at *
  exact Go.Joins.ownsRow_le h (by simp <;> omega)
end
end Go.Proofs.Ytbhojgodkblflaa
