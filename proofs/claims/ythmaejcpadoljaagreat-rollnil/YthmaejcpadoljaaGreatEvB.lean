/- A certified evaluator of closed calls, part B. -/
import Derived.Test.YthmaejcpadoljaaGreatEvA
set_option linter.unusedVariables false
namespace Go.Ev
open Go

inductive Opn where | t (k : Nat) (p : List Bool) | c (v : AV) | bad
def opn : Operand → Opn
  | .tmp k => .t k (pth k)
  | .const v => match ofValue v with | some x => .c x | none => .bad
  | .global g => (match Nat.ble 256 g with | true => .bad | false => .c (.ptr g 0))
  | .func f => .c (.fn (.func f) [] [])
def Opn.ev (t : T AV) : Opn → Option AV
  | .t _ p => T.getP p t
  | .c v => some v
  | .bad => none
def opns : List Operand → List Opn
  | [] => []
  | x :: l => opn x :: opns l
def Opn.evl (t : T AV) : List Opn → Option (List AV)
  | [] => some []
  | x :: l => match x.ev t with | some v => (match Opn.evl t l with | some r => some (v :: r) | none => none) | none => none
def opnps : List (Nat × Operand) → List (Nat × Opn)
  | [] => []
  | (i, x) :: l => (i, opn x) :: opnps l
def Opn.evs (t : T AV) : List (Nat × Opn) → Option (List (Nat × AV))
  | [] => some []
  | (i, x) :: l => match x.ev t with | some v => (match Opn.evs t l with | some r => some ((i, v) :: r) | none => none) | none => none
def oopn : Option Operand → Option Opn | none => none | some x => some (opn x)
def oev (t : T AV) : Option Opn → Option (Option AV) | none => some none | some x => match x.ev t with | some v => some (some v) | none => none

inductive ANext where
  | value (v : AV)
  | enter (f : FuncId) (args : List AV)
  | round (l : Nat) (r : ALoop) (t : T AV)
  | defer (d : ADef)
  | recover
inductive COp where
  | p (f : T AV → Option AV)
  | q (f : T AV → T AB → Option AV)
  | fr (f : T AV → Nat → Option (AB × AV))
  | st (f : T AV → T AB → Nat → Option (AV × T AB × Nat))
  | cl (f : T AV → T AB → Nat → Option (ANext × T AB × Nat))
  | bad

def sameK (k k' : IntKind) : Bool := match k with
  | .i64 => (match k' with | .i64 => true | _ => false)
  | .u8 => (match k' with | .u8 => true | _ => false)
  | .u64 => (match k' with | .u64 => true | _ => false)
  | .u32 => (match k' with | .u32 => true | _ => false)
  | .i32 => (match k' with | .i32 => true | _ => false)
  | _ => false
def bin2 (g : IntKind → Int → Int → Option AV) (fb : AV → AV → Option AV) (a b : Option AV) : Option AV :=
  match a with
  | none => none
  | some x => match b with
    | none => none
    | some y => match x with
      | .i k a => (match y with | .i k' b => (match sameK k k' with | true => g k a b | false => none) | _ => none)
      | x => fb x y
def bin3 (g : IntKind → Int → Int → Option AV) (a b : Option AV) : Option AV := match a, b with
  | some (.i k a), some (.i _ b) => g k a b
  | _, _ => none
def fa (off : Nat) (a : Option AV) : Option AV := match a with | some (.ptr b o) => fNat (fun o => some (.ptr b o)) (Nat.add o off) | _ => none
def ixA (n sz : Nat) (a i : Option AV) : Option AV := match a, i with
  | some (.ptr b o), some (.i _ (.ofNat k)) => (match Nat.ble (Nat.succ k) n with | true => fNat (fun o => some (.ptr b o)) (Nat.add o (Nat.mul k sz)) | false => none)
  | _, _ => none
def ixS (sz : Nat) (a i : Option AV) : Option AV := match a, i with
  | some (.sl b o n _ _), some (.i _ (.ofNat k)) => (match Nat.ble (Nat.succ k) n with | true => fNat (fun o => some (.ptr b o)) (Nat.add o (Nat.mul k sz)) | false => none)
  | _, _ => none
def pick (c : Option AV) (a b : Opn) (t : T AV) : Option AV := match c with | some (.b true) => a.ev t | some (.b false) => b.ev t | _ => none
def extA (i : Nat) (a : Option AV) : Option AV := match a with | some (.tup l) => l[i]? | _ => none
def entA (h : T AB) (x : Option AV) : Option AV := match x with
  | some (.ptr b 0) => (match h.get b with
    | some (.miter m _ seen st) => (match seen.getLast?, h.get m with
      | some stamp, some (.map es cl) => (match Nat.beq cl st, es.find? (fun e => Nat.beq e.2.2 stamp) with | true, some (k, v, _) => some (.tup [k, v]) | _, _ => none)
      | _, _ => none)
    | _ => none)
  | _ => none
def nextS (h : T AB) (nx : Nat) (x : Option AV) : Option (AV × T AB × Nat) := match x with
  | some (.ptr b 0) => (match h.get b with
    | some (.siter l p) => (match l[p]? with
      | some c => (match Nat.ble 128 c with | false => some (.tup [.b true, .i .i64 (.ofNat p), .i .i32 (.ofNat c)], h.set b (.siter l (Nat.succ p)), nx) | true => none)
      | none => some (.tup [.b false], h, nx))
    | _ => none)
  | _ => none
def nextM (h : T AB) (nx : Nat) (x : Option AV) : Option (AV × T AB × Nat) := match x with
  | some (.ptr b 0) => (match h.get b with
    | some (.miter m since seen last) => (match h.get m with
      | some (.map es cl) => (match !seen.isEmpty && !es.isEmpty && es.all (fun e => Nat.ble last e.2.2) with
        | true => none
        | false => (match es.filter (fun e => !seen.contains e.2.2) with
          | [] => some (.tup [.b false], h, nx)
          | [(k, v, bo)] => (match Nat.ble since bo with | false => some (.tup [.b true, k, v], h.set b (.miter m since (seen ++ [bo]) cl), nx) | true => none)
          | _ => none))
      | _ => none)
    | _ => none)
  | _ => none
def usStr (h : T AB) (nx : Nat) (p n : Option AV) : Option (AV × T AB × Nat) := match p, n with
  | some .np, some (.i _ (.ofNat 0)) => some (.s [], h, nx)
  | some (.ptr b o), some (.i _ (.ofNat n)) => (match n with
    | 0 => some (.s [], h, nx)
    | _ => (match h.get b with
      | some (.cells m cs op e 0 0) => (match Nat.ble (Nat.add o n) m, range cs o n with
        | true, some l => (match bytesOf l with
          | some s => some (.s s, h.set b (.cells m cs op e o (o + n)), nx)
          | none => none)
        | _, _ => none)
      | _ => none))
  | _, _ => none
def copyA (sz : Nat) (h : T AB) (nx : Nat) (d x : Option AV) : Option (AV × T AB × Nat) := match d, x with
  | some d, some x => (match lenOfA d, lenOfA x with
    | some dn, some xn => (match Nat.min xn dn with
      | 0 => some (.i .i64 0, h, nx)
      | n => (match d, x with
        | .sl b o _ _ _, .sl .. => (match firstA h sz n x with
          | some l => (match allFlat l, storeA h b o l with | true, some h => some (.i .i64 (.ofNat n), h, nx) | _, _ => none)
          | none => none)
        | .sl b o _ _ _, .s l => (match storeA h b o (strBytes (l.take n)) with | some h => some (.i .i64 (.ofNat n), h, nx) | none => none)
        | _, _ => none))
    | _, _ => none)
  | _, _ => none
def strFb (op : BinOp) (a b : AV) : Option AV := match a, b with | .s a, .s b => strOp op a b | _, _ => none
def capA (x : Option AV) : Option AV := match x with | some .ns => some (.i .i64 0) | some (.sl _ _ _ c false) => some (.i .i64 (.ofNat c)) | _ => none
def usDat (x : Option AV) : Option AV := match x with
  | some .ns => some .np
  | some (.sl b o (n + 1) _ _) => some (.ptr b o)
  | some (.sl b o 0 (c + 1) false) => some (.ptr b o)
  | _ => none
def mmA (mx : Bool) (l : Option (List AV)) : Option AV := match l with | some (x :: l) => foldMin mx x l | _ => none
def tupL (x : Option (List AV)) (k : List AV → Option AV) : Option AV := match x with | some l => k l | none => none
def on1 (x : Option AV) (k : AV → Option AV) : Option AV := match x with | some l => k l | none => none

section
variable (P : Program) (I : FuncId → List AV → Option AV)

def nilChk (a : Option AV) : Option AV := match a with
  | some (.ptr b o) => some (.ptr b o)
  | some (.fn (.method n) f c) => (match f with
    | .ifc ty v :: _ => (match P.info? ty with
      | some i => (match i.methods.find? (·.name == n) with
        | some m => (match m.path.toList, m.func with
          | [], some (_, true) => some (.fn (.method n) f c)
          | _, _ => none)
        | none => none)
      | none => none)
    | _ => none)
  | some (.fn f a b) => some (.fn f a b)
  | some (.ifc t v) => some (.ifc t v)
  | _ => none
def lookA (kt : TypeId) (z : AV) (ok : Bool) (h : T AB) (m k : Option AV) : Option AV := match m, k with
  | some .nm, some k => (match chkKey P 20 kt k with | true => some (if ok then .tup [z, .b false] else z) | false => none)
  | some (.mp b), some k => (match h.get b, chkKey P 20 kt k with
    | some (.map es _), true => (match findA P h kt k es 0 with
      | some (some (_, v)) => some (if ok then .tup [v, .b true] else v)
      | some none => some (if ok then .tup [z, .b false] else z)
      | none => none)
    | _, _ => none)
  | _, _ => none
def same0 (a b : AV) : Bool := match a with
  | .b x => (match b with | .b y => x == y | _ => false)
  | .i k x => (match b with | .i k' y => sameK k k' && eqI x y | _ => false)
  | .s x => (match b with | .s y => bytesEq x y | _ => false)
  | _ => false
def sameL : List AV → List AV → Bool
  | [], [] => true
  | a :: l, b :: m => same0 a b && sameL l m
  | _, _ => false
/-- two keys whose bits are the same -/
def keySame (k : AV) (e : Option (AV × AV × Nat)) : Bool := match e with
  | none => false
  | some e => (match k with
    | .agg l => (match e.1 with | .agg m => sameL l m | _ => false)
    | k => same0 k e.1)
def mapUpA (kt : TypeId) (h : T AB) (nx : Nat) (m k v : Option AV) : Option (AV × T AB × Nat) := match m, k, v with
  | some (.mp b), some k, some v => (match h.get b, chkKey P 20 kt k with
    | some (.map es cl), true => (match findA P h kt k es 0 with
      | some (some (i, _)) => (match keySame k es[i]? with | true => some (.undef, h.set b (.map (es.modify i fun e => (e.1, v, e.2.2)) cl), nx) | false => none)
      | some none => some (.undef, h.set b (.map (es ++ [(k, v, cl)]) (Nat.succ cl)), nx)
      | none => none)
    | _, _ => none)
  | _, _, _ => none
def delA (kt : TypeId) (h : T AB) (nx : Nat) (m k : Option AV) : Option (AV × T AB × Nat) := match m, k with
  | some (.mp b), some k => (match h.get b, chkKey P 20 kt k with
    | some (.map es cl), true => (match findA P h kt k es 0 with
      | some (some (i, _)) => some (.tup [], h.set b (.map (es.eraseIdx i) cl), nx)
      | some none => some (.tup [], h, nx)
      | none => none)
    | _, _ => none)
  | _, _ => none

def callF (h : T AB) (nx : Nat) (f : FuncId) (args : List AV) : Option (ANext × T AB × Nat) :=
  match I f args with
  | some v => some (.value v, h, nx)
  | none =>
  match P.funcs[f]? with
  | none => none
  | some fn => match fn.body with
    | some _ => (match fn.name == "runtime.NumGoroutine" with | true => none | false => some (.enter f args, h, nx))
    | none => none
def setArgs (t : T AV) : List (Tmp × AV) → T AV
  | [] => t
  | (k, v) :: l => setArgs (t.set k v) l
def callM (h : T AB) (nx : Nat) (name : String) (args : List AV) : Option (ANext × T AB × Nat) := match args with
  | .ifc ty v :: rest => (match P.info? ty with
    | some i => (match i.methods.find? (·.name == name) with
      | some m => (match m.path.toList, m.func, und P ty with
        | [], some (f, true), some (.pointer _) => callF P I h nx f (v :: rest)
        | [], some (_, false), some (.pointer _) => none
        | [], some (f, false), some _ => callF P I h nx f (v :: rest)
        | _, _, _ => none)
      | none => none)
    | none => none)
  | _ => none
def invokeA (h : T AB) (nx : Nat) (f : Fn) (cap : List AV) (args : List AV) : Option (ANext × T AB × Nat) :=
  match f with
  | .func f => callF P I h nx f (args ++ cap)
  | .yield l => (match h.get l with
    | some (.loop r) => (match Nat.beq args.length r.params.size, r.params.toList.all (fun k => Nat.ble (Nat.succ k) r.nt) with
      | true, true => some (.round l r (setArgs r.tmps (r.params.toList.zip args)), h, nx)
      | _, _ => none)
    | _ => none)
  | .method name => callM P I h nx name args
  | _ => none
def callV (h : T AB) (nx : Nat) (f : Option AV) (args : Option (List AV)) : Option (ANext × T AB × Nat) := match f, args with
  | some (.fn f first cap), some args => invokeA P I h nx f cap (first ++ args)
  | _, _ => none
def callI (name : String) (h : T AB) (nx : Nat) (r : Option AV) (args : Option (List AV)) : Option (ANext × T AB × Nat) := match r, args with
  | some r, some args => callM P I h nx name (r :: args)
  | _, _ => none
def deferA (h : T AB) (nx : Nat) (f : Option AV) (args : Option (List AV)) : Option (ANext × T AB × Nat) := match f, args with
  | some (.fn f first cap), some args => some (.defer ⟨.fn f cap, first ++ args⟩, h, nx)
  | _, _ => none
def callD (f : FuncId) (h : T AB) (nx : Nat) (args : Option (List AV)) : Option (ANext × T AB × Nat) := match args with
  | some args => callF P I h nx f args
  | none => none
/-- append(s, x...) -/
def appX (e sz : Nat) (h : T AB) (nx : Nat) (s x : Option AV) : Option (AV × T AB × Nat) := match s, x with
  | some s, some x => (match lenOfA x with
    | some n => (match firstA h sz n x with
      | some new => (match allFlat new with | true => appendA h nx e sz s n new | false => none)
      | none => none)
    | none => none)
  | _, _ => none
/-- append(s, make([]T, n)...) -/
def appZ (e sz : Nat) (z : List AV) (h : T AB) (nx : Nat) (s n : Option AV) : Option (AV × T AB × Nat) := match s, n with
  | some s, some (.i .i64 (.ofNat n)) => (match Nat.beq z.length sz, allFlat z, Nat.ble n 1048576 with | true, true, true => appendA h nx e sz s n (rep z n) | _, _, _ => none)
  | _, _ => none
end
end Go.Ev
