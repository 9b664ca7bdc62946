/- Commands as lines: the words, what a line is read as. No function of the program is named here. -/
import Derived.Test.YtpehinmckppjoaaGreatDoorWLex2B
import Derived.Test.YtpehinmckppjoaaGreatDoorWLawDimsEB
namespace Go.Proofs.YtpehinmckppjoaaGreatDoor
open Go.RowKit Go.Maps
set_option linter.unusedSimpArgs false
set_option linter.unusedVariables false

/-- A command. -/
structure Cm where
  k : Int
  u : ByteArray
  s : ByteArray
  o : ByteArray
  c0 : Int
  c1 : Int
  c2 : Int
  c3 : Int
  c4 : Int
  n : Int
  h : Int
  m : Int
def cm0 : Cm := ⟨0, ⟨#[]⟩, ⟨#[]⟩, ⟨#[]⟩, 0, 0, 0, 0, 0, 0, 0, 0⟩
def cmL (x : Cm) : List Value := [.int .i64 x.k, .string x.u, .string x.s, .string x.o, .int .i64 x.c0, .int .i64 x.c1, .int .i64 x.c2, .int .i64 x.c3, .int .i64 x.c4, .int .i64 x.n, .int .i64 x.h, .int .i64 x.m]
def putT (b : Int) (t : ByteArray) (x : Cm) : Cm := if b = 117 then { x with u := t } else if b = 115 then { x with s := t } else { x with o := t }
def getT (b : Int) (x : Cm) : ByteArray := if b = 117 then x.u else if b = 115 then x.s else x.o
def offT (b : Int) : Nat := if b = 117 then 1 else if b = 115 then 2 else 3
def putC (c0 c1 c2 c3 c4 : Int) (x : Cm) : Cm := { x with c0 := c0, c1 := c1, c2 := c2, c3 := c3, c4 := c4 }
def kwL : List ByteArray := [⟨#[]⟩, ⟨#[115, 101, 116]⟩, ⟨#[104, 111, 108, 100]⟩, ⟨#[114, 101, 108, 101, 97, 115, 101]⟩, ⟨#[108, 111, 99, 107]⟩, ⟨#[117, 110, 108, 111, 99, 107]⟩, ⟨#[117, 110, 100, 111]⟩, ⟨#[114, 101, 100, 111]⟩, ⟨#[98, 114, 97, 110, 99, 104]⟩, ⟨#[100, 114, 111, 112]⟩, ⟨#[109, 101, 114, 103, 101]⟩, ⟨#[103, 101, 116]⟩, ⟨#[102, 114, 101, 101]⟩, ⟨#[100, 105, 102, 102]⟩, ⟨#[104, 111, 108, 100, 115]⟩, ⟨#[108, 111, 99, 107, 115]⟩, ⟨#[115, 99, 101, 110, 115]⟩, ⟨#[115, 108, 105, 99, 101]⟩, ⟨#[116, 111, 112]⟩]
def kwI (k : Int) : ByteArray := if 0 ≤ k ∧ k < 19 then kwL.getD k.toNat ByteArray.empty else ⟨#[]⟩
/-- The first k ≥ 1 whose word a text is; 0: none. -/
def kindI (t : ByteArray) : Int := if idxS kwL t < 19 then idxS kwL t else 0
def spW : List ByteArray := [⟨#[101, 113, 117, 97, 108]⟩, ⟨#[112, 114, 111, 112]⟩, ⟨#[119, 101, 105, 103, 104, 116]⟩]
def mtW : List ByteArray := [⟨#[97, 98, 111, 114, 116]⟩, ⟨#[111, 117, 114, 115]⟩, ⟨#[116, 104, 101, 105, 114, 115]⟩]
/-- The word that comes next, if it is of a kind. -/
def nx (L : List ByteArray) (kind : Int) (i : Nat) : Option ByteArray := if i < L.length ∧ rdK (L.getD i ByteArray.empty) = kind then some (L.getD i ByteArray.empty) else none
abbrev PR := Except (Int × Int) (Nat × Cm)
def cellE (ms : List ByteArray) (ds : List Dm) (s : ByteArray) (xs : List ByteArray) : Int :=
  if idxI ms s = -1 then 10 else if xs.length ≠ ds.length then 5 else if (List.range ds.length).any (fun k => decide (fdK ds xs k = -1)) then 10 else 0
theorem cellIs_e {ms : List ByteArray} {ds : List Dm} {s : ByteArray} {xs : List ByteArray} {r : Value} {er : Int} (h : CellIs ms ds s xs r er) : er = cellE ms ds s xs ∧ (er = 0 → r = cellV (idxI ms s) (atK ds xs ds.length)) ∧ ∃ i0 i1 i2 i3 i4, r = .agg #[.int .i64 i0, .int .i64 i1, .int .i64 i2, .int .i64 i3, .int .i64 i4] := by
  unfold cellE
  rcases h with ⟨h1, h2, h3⟩ | ⟨h1, h2, h3, h4⟩ | ⟨h1, h2, ⟨k, h3, h4⟩, h5, h6⟩ | ⟨h1, h2, h3, h4, h5⟩
  · rw [if_pos h1]; exact ⟨h3, fun e => by omega, _, _, _, _, _, h2⟩
  · rw [if_neg h1, if_pos h2]; exact ⟨h4, fun e => by omega, _, _, _, _, _, h3⟩
  · rw [if_neg h1, if_neg (by simpa using h2), if_pos (by rw [List.any_eq_true]; exact ⟨k, List.mem_range.2 h3, by simpa using h4⟩)]
    exact ⟨h6, fun e => by omega, _, _, _, _, _, h5⟩
  · rw [if_neg h1, if_neg (by simpa using h2), if_neg (by
      rw [List.any_eq_true]
      rintro ⟨k, hk, he⟩
      exact h3 k (List.mem_range.1 hk) (by simpa using he))]
    exact ⟨h5, fun _ => h4, _, _, _, _, _, h4⟩
section
variable (ms : List ByteArray) (ds : List Dm) (L : List ByteArray)
def nameP (b : Int) (s : Nat × Cm) : PR := match nx L 1 s.1 with
  | none => .error (s.1, 6)
  | some t => .ok (s.1 + 1, putT b t s.2)
def numP (s : Nat × Cm) : PR := match nx L 2 s.1 with
  | none => .error (s.1, 6)
  | some t => .ok (s.1 + 1, { s.2 with n := rdN t })
def cellP (s : Nat × Cm) : PR := match nx L 3 s.1 with
  | none => .error (s.1, 6)
  | some t =>
    if cellE ms ds ((rdP t).getD 0 ByteArray.empty) ((rdP t).drop 1) ≠ 0 then .error (s.1, cellE ms ds ((rdP t).getD 0 ByteArray.empty) ((rdP t).drop 1))
    else .ok (s.1 + 1, putC (idxI ms ((rdP t).getD 0 ByteArray.empty)) (atK ds ((rdP t).drop 1) ds.length 0) (atK ds ((rdP t).drop 1) ds.length 1) (atK ds ((rdP t).drop 1) ds.length 2) (atK ds ((rdP t).drop 1) ds.length 3) s.2)
def indexP (ws : List ByteArray) (s : Nat × Cm) : PR := match nx L 1 s.1 with
  | none => .error (s.1, 6)
  | some t => if idxI ws t < 0 then .error (s.1, 10) else .ok (s.1 + 1, { s.2 with m := idxI ws t })
def choiceP (ws : List ByteArray) (s : Nat × Cm) : PR := if s.1 = L.length then .ok s else match nx L 1 s.1 with
  | none => .error (s.1, 6)
  | some t => if idxI ws t < 0 then .error (s.1, 6) else .ok (s.1 + 1, { s.2 with h := idxI ws t })
def howP (s : Nat × Cm) : PR := match choiceP L spW s with
  | .error e => .error e
  | .ok s' => if s'.2.h = 2 then indexP L ms s' else .ok s'
/-- What is to stand next: u a user, s a scenario, o another one, c a cell, n a number, h how to spread, m how to merge, else a dimension. -/
def oneP (b : Int) (s : Nat × Cm) : PR :=
  if b = 117 ∨ b = 115 ∨ b = 111 then nameP L b s else if b = 99 then cellP ms ds L s else if b = 110 then numP L s else if b = 104 then howP ms L s else if b = 109 then choiceP L mtW s else indexP L (lbl ds) s
def foldP : List Int → Nat × Cm → PR
  | [], s => .ok s
  | b :: bs, s => match oneP ms ds L b s with
    | .error e => .error e
    | .ok s' => foldP bs s'
end
def shapeL (k : Int) : List Int :=
  if k = 1 then [117, 115, 99, 110, 104] else if k = 2 ∨ k = 3 ∨ k = 11 then [115, 99] else if k = 4 ∨ k = 5 ∨ k = 12 then [117, 115, 99] else if k = 6 ∨ k = 7 ∨ k = 9 ∨ k = 14 ∨ k = 15 then [115]
  else if k = 8 ∨ k = 13 then [115, 111] else if k = 10 then [117, 115, 111, 109] else if k = 17 then [115, 99, 100] else if k = 18 then [115, 99, 110] else []
/-- A line's command, the word that can not stand, and why. -/
def parseP (ms : List ByteArray) (ds : List Dm) (L : List ByteArray) : Cm × Int × Int := match nx L 1 0 with
  | none => (cm0, 0, 6)
  | some t => if kindI t = 0 then (cm0, 0, 6) else match foldP ms ds L (shapeL (kindI t)) (1, { cm0 with k := kindI t }) with
    | .error e => (cm0, e.1, e.2)
    | .ok s => if s.1 < L.length then (cm0, s.1, 6) else (s.2, 0, 0)
end Go.Proofs.YtpehinmckppjoaaGreatDoor
