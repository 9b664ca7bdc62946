/- A certified evaluator of closed calls, part A. -/
import GoSem.Step
import GoSem.Claims
namespace Go.Ev
open Go

/-! tries -/
inductive T (α : Type) where
  | leaf
  | node (v : Option α) (l r : T α)
def path : Nat → Nat → List Bool
  | 0, _ => []
  | d + 1, k => match k with
    | 0 => []
    | k + 1 => Nat.beq (Nat.mod k 2) 0 :: path d (Nat.div k 2)
def pth (k : Nat) : List Bool := path (Nat.succ k) k
def T.getP {α : Type} : List Bool → T α → Option α
  | [], t => match t with | .leaf => none | .node v _ _ => v
  | b :: p, t => match t with
    | .leaf => none
    | .node _ l r => match b with | true => T.getP p l | false => T.getP p r
def T.setP {α : Type} (x : α) : List Bool → T α → T α
  | [], t => match t with | .leaf => .node (some x) .leaf .leaf | .node _ l r => .node (some x) l r
  | b :: p, t => match t with
    | .leaf => (match b with | true => .node none (T.setP x p .leaf) .leaf | false => .node none .leaf (T.setP x p .leaf))
    | .node v l r => match b with | true => .node v (T.setP x p l) r | false => .node v l (T.setP x p r)
def T.get {α : Type} (t : T α) (k : Nat) : Option α := T.getP (pth k) t
def T.set {α : Type} (t : T α) (k : Nat) (x : α) : T α := T.setP x (pth k) t

/-! values and blocks -/
inductive AV where
  | b (x : Bool) | i (k : IntKind) (n : Int) | s (l : List Nat)
  | np | ns | nm | ni | nf | undef | es
  | o (k : Nat)
  | ptr (b o : Nat)
  | sl (b o n c : Nat) (opn : Bool)
  | mp (b : Nat)
  | fn (f : Fn) (first cap : List AV)
  | ifc (t : TypeId) (v : AV)
  | agg (l : List AV)
  | tup (l : List AV)
  deriving Inhabited
def isYield : Fn → Bool | .yield _ => true | _ => false
mutual
def ofValue : Value → Option AV
  | .bool x => some (.b x)
  | .int k n => some (.i k n)
  | .string s => some (.s (s.data.toList.map UInt8.toNat))
  | .pointer none => some .np
  | .slice none 0 0 => some .ns
  | .map none => some .nm
  | .nilIface => some .ni
  | .nilFunc => some .nf
  | .agg ⟨cs⟩ => match ofValues cs with | some l => some (.agg l) | none => none
  | .tuple ⟨cs⟩ => match cs with | [] => some .undef | _ => match ofValues cs with | some l => some (.tup l) | none => none
  | .func f ⟨a⟩ ⟨b⟩ => match isYield f, ofValues a, ofValues b with | false, some l, some m => some (.fn f l m) | _, _, _ => none
  | .iface t v => match ofValue v with | some x => some (.ifc t x) | none => none
  | _ => none
def ofValues : List Value → Option (List AV)
  | [] => some []
  | v :: vs => match ofValue v, ofValues vs with | some x, some l => some (x :: l) | _, _ => none
end
inductive ATarget where
  | fn (f : Fn) (cap : List AV)
  | collected (r : Nat)
structure ADef where
  target : ATarget
  args : List AV
structure ALoop where
  state : LoopState
  pending : Option Code
  fn : FuncId
  tmps : T AV
  nt : Nat
  params : Array Tmp
  assign : Code
  body : Code
  defers : Nat
inductive AB where
  | cells (n : Nat) (c : T AV) (opn : Bool) (elem : TypeId) (lo hi : Nat)
  | ro (n : Nat) (c : T AV)
  | map (es : List (AV × AV × Nat)) (clock : Nat)
  | loop (l : ALoop)
  | defr (ds : List ADef)
  | siter (s : List Nat) (pos : Nat)
  | miter (m : Nat) (since : Nat) (seen : List Nat) (stepped : Nat)
  | dead
def cells : AV → List AV
  | .agg l => l
  | v => [v]
def fNat {α : Type} (k : Nat → α) (n : Nat) : α := match n with | 0 => k 0 | m + 1 => k (Nat.succ m)

/-! integers -/
def ltI : Int → Int → Bool
  | .ofNat a, .ofNat b => Nat.ble (Nat.succ a) b
  | .negSucc _, .ofNat _ => true
  | .ofNat _, .negSucc _ => false
  | .negSucc a, .negSucc b => Nat.ble (Nat.succ b) a
def eqI : Int → Int → Bool
  | .ofNat a, .ofNat b => Nat.beq a b
  | .negSucc a, .negSucc b => Nat.beq a b
  | _, _ => false
def topN : IntKind → Nat
  | .i8 => 128 | .i16 => 32768 | .i32 => 2147483648 | .i64 => 9223372036854775808
  | .u8 => 256 | .u16 => 65536 | .u32 => 4294967296 | .u64 => 18446744073709551616
def isS : IntKind → Bool
  | .i8 | .i16 | .i32 | .i64 => true
  | _ => false
def mkI (k : IntKind) (n : Int) : Option AV :=
  match n with
  | .ofNat m => (match Nat.ble (topN k) m with | false => fNat (fun m => some (.i k (.ofNat m))) m | true => some (.i k (k.wrap (.ofNat m))))
  | .negSucc m => (match isS k with
    | true => (match Nat.ble (topN k) m with | false => fNat (fun m => some (.i k (.negSucc m))) m | true => some (.i k (k.wrap (.negSucc m))))
    | false => some (.i k (k.wrap (.negSucc m))))
def bitI (g : Nat → Nat → Nat) (k : IntKind) (a b : Int) : Option AV :=
  match a, b with
  | .ofNat a, .ofNat b => (match Nat.ble (topN k) a, Nat.ble (topN k) b with | false, false => fNat (fun n => some (.i k (.ofNat n))) (g a b) | _, _ => none)
  | _, _ => none
def binI (op : BinOp) (k : IntKind) (a b : Int) : Option AV :=
  match op with
  | .add => mkI k (Int.add a b)
  | .sub => mkI k (Int.sub a b)
  | .mul => mkI k (Int.mul a b)
  | .quo => match eqI b 0 with | true => none | false => mkI k (Int.tdiv a b)
  | .rem => match eqI b 0 with | true => none | false => some (.i k (Int.tmod a b))
  | .eql => some (.b (eqI a b))
  | .neq => some (.b (!(eqI a b)))
  | .lss => some (.b (ltI a b))
  | .leq => some (.b (!(ltI b a)))
  | .gtr => some (.b (ltI b a))
  | .geq => some (.b (!(ltI a b)))
  | .and => bitI Nat.land k a b
  | .or => bitI Nat.lor k a b
  | .xor => bitI Nat.xor k a b
  | .andNot => bitI (fun a b => Nat.xor a (Nat.land a b)) k a b
  | _ => none
def bitsN : IntKind → Nat
  | .i8 | .u8 => 8
  | .i16 | .u16 => 16
  | .i32 | .u32 => 32
  | .i64 | .u64 => 64
def shI (op : BinOp) (k : IntKind) (a b : Int) : Option AV :=
  match b with
  | .ofNat n => (match Nat.ble n (bitsN k) with
    | false => none
    | true => (match op with
      | .shl => mkI k (Int.mul a (.ofNat (Nat.pow 2 n)))
      | .shr => (match a with
        | .ofNat a => fNat (fun n => some (.i k (.ofNat n))) (Nat.div a (Nat.pow 2 n))
        | .negSucc a => fNat (fun n => some (.i k (.negSucc n))) (Nat.div a (Nat.pow 2 n)))
      | _ => none))
  | _ => none
def unA (op : UnOp) (a : Option AV) : Option AV := match op, a with
  | .not, some (.b x) => some (.b (!x))
  | .neg, some (.i k n) => mkI k (Int.sub 0 n)
  | .xor, some (.i k (.ofNat n)) => (match Nat.ble (topN k) n, isS k with
    | false, true => some (.i k (.negSucc n))
    | false, false => fNat (fun n => some (.i k (.ofNat n))) (Nat.sub (Nat.pred (topN k)) n)
    | _, _ => none)
  | .xor, some (.i k (.negSucc n)) => (match Nat.ble (topN k) n, isS k with | false, true => some (.i k (.ofNat n)) | _, _ => none)
  | _, _ => none

/-! texts -/
def bytesLt : List Nat → List Nat → Bool
  | _, [] => false
  | [], _ :: _ => true
  | a :: x, b :: y => Nat.ble (Nat.succ a) b || (Nat.beq a b && bytesLt x y)
def bytesEq : List Nat → List Nat → Bool
  | [], [] => true
  | a :: x, b :: y => Nat.beq a b && bytesEq x y
  | _, _ => false
def strOp (op : BinOp) (a b : List Nat) : Option AV := match op with
  | .add => (match Nat.ble (Nat.add a.length b.length) 1048576 with | true => some (.s (a ++ b)) | false => none)
  | .eql => some (.b (bytesEq a b))
  | .neq => some (.b (!bytesEq a b))
  | .lss => some (.b (bytesLt a b))
  | .leq => some (.b (!bytesLt b a))
  | .gtr => some (.b (bytesLt b a))
  | .geq => some (.b (!bytesLt a b))
  | _ => none
def strBytes (l : List Nat) : List AV := l.map fun n => .i .u8 (.ofNat n)
def byteOf : AV → Option Nat
  | .i .u8 (.ofNat n) => some n
  | _ => none
def bytesOf : List AV → Option (List Nat)
  | [] => some []
  | v :: l => match byteOf v, bytesOf l with | some n, some r => (match Nat.ble 256 n with | false => some (n :: r) | true => none) | _, _ => none

/-! what is in memory -/
def range (c : T AV) (o : Nat) : Nat → Option (List AV)
  | 0 => some []
  | n + 1 => match c.get o with | some v => (match range c (Nat.succ o) n with | some l => some (v :: l) | none => none) | none => none
def setAll (c : T AV) (o : Nat) : List AV → T AV
  | [] => c
  | v :: l => setAll (c.set o v) (Nat.succ o) l
def rowOf (h : T AB) (b : Nat) : Option (Nat × T AV) := match h.get b with
  | some (.cells n c _ _ _ _) => some (n, c)
  | some (.ro n c) => some (n, c)
  | _ => none
def ld1 (h : T AB) (a : Option AV) : Option AV := match a with
  | some (.ptr b o) => (match rowOf h b with | some (n, c) => (match Nat.ble (Nat.succ o) n with | true => c.get o | false => none) | none => none)
  | _ => none
def ldN (n : Nat) (h : T AB) (a : Option AV) : Option AV := match a with
  | some (.ptr b o) => (match rowOf h b with | some (m, c) => (match Nat.ble (Nat.add o n) m with | true => (match range c o n with | some l => some (.agg l) | none => none) | false => none) | none => none)
  | _ => none
/-- cells l written from place o of block b on -/
def storeA (h : T AB) (b o : Nat) (l : List AV) : Option (T AB) :=
  match h.get b with
  | some (.cells n c op e 0 0) => (match Nat.ble (Nat.add o l.length) n with
    | true => some (h.set b (.cells n (setAll c o l) op e 0 0))
    | false => none)
  | _ => none
def isFlat : AV → Bool
  | .agg _ | .tup _ | .undef => false
  | _ => true
def allFlat : List AV → Bool
  | [] => true
  | v :: l => isFlat v && allFlat l
def stA (sz : Nat) (h : T AB) (nx : Nat) (a v : Option AV) : Option (AV × T AB × Nat) := match a, v with
  | some (.ptr b o), some v => (match Nat.beq (cells v).length sz, allFlat (cells v) with
    | true, true => (match storeA h b o (cells v) with | some h => some (.undef, h, nx) | none => none)
    | _, _ => none)
  | _, _ => none
def row (l : List AV) (e : TypeId) : AB := .cells l.length (setAll .leaf 0 l) false e 0 0
def rep (c : List AV) : Nat → List AV
  | 0 => []
  | n + 1 => c ++ rep c n

section
variable (P : Program)
def und (t : TypeId) : Option TypeDesc := P.underlying t
def size (t : TypeId) : Option Nat := match P.info? t with | some i => some i.size | none => none
def isAgg (t : TypeId) : Option Bool := match P.underlying t with | some (.struct _) | some (.array _ _) => some true | some _ => some false | none => none
def zeroA (t : TypeId) : Option AV := match P.info? t with | some i => (match i.zero with | some v => ofValue v | none => none) | none => none
def loadA (h : T AB) (t : TypeId) (a : Option AV) : Option AV :=
  match isAgg P t, size P t with
  | some true, some n => ldN n h a
  | some false, _ => ld1 h a
  | _, _ => none
def sub (l : List AV) (o n : Nat) : Option (List AV) := match Nat.ble (Nat.add o n) l.length with | true => some ((l.drop o).take n) | false => none
def part (t : TypeId) (l : List AV) (o : Nat) : Option AV :=
  match isAgg P t, size P t with
  | some true, some n => (match sub l o n with | some r => some (.agg r) | none => none)
  | some false, _ => l[o]?
  | _, _ => none
def live (h : T AB) (b : Nat) : Bool := match h.get b with | some (.cells _ _ _ _ 0 0) => true | _ => false

def eqFs (eq : TypeId → AV → AV → Option Bool) (xs ys : List AV) : List Field → Option Bool
  | [] => some true
  | f :: fs => if f.name = "_" then eqFs eq xs ys fs else
    match part P f.type xs f.offset, part P f.type ys f.offset with
    | some x, some y => (match eq f.type x y with | some true => eqFs eq xs ys fs | r => r)
    | _, _ => none
def eqEs (eq : TypeId → AV → AV → Option Bool) (e : TypeId) (m : Nat) (xs ys : List AV) : Nat → Nat → Option Bool
  | 0, _ => some true
  | n + 1, i => match part P e xs (i * m), part P e ys (i * m) with
    | some x, some y => (match eq e x y with | some true => eqEs eq e m xs ys n (i + 1) | r => r)
    | _, _ => none
def eqPtr (h : T AB) (a i b j : Nat) : Option Bool := match Nat.beq a b with
  | true => some (Nat.beq i j)
  | false => (match live h a, live h b with | true, true => some false | _, _ => none)
def eqv (h : T AB) : Nat → TypeId → AV → AV → Option Bool
  | 0, _, _, _ => none
  | d + 1, t, x, y => match und P t with
    | some .bool => (match x, y with | .b a, .b b => some (a == b) | _, _ => none)
    | some (.int _) => (match x, y with | .i k a, .i k' b => if k = k' then some (eqI a b) else none | _, _ => none)
    | some .string => (match x, y with | .s a, .s b => some (bytesEq a b) | _, _ => none)
    | some (.pointer e) => (match x, y with
      | .np, .np => some true
      | .np, .ptr _ _ => some false
      | .ptr _ _, .np => some false
      | .ptr a i, .ptr b j => (match size P e with | some (_ + 1) => eqPtr h a i b j | _ => none)
      | _, _ => none)
    | some (.interface _) => (match x, y with
      | .ni, .ni => some true
      | .ni, .ifc _ _ => some false
      | .ifc _ _, .ni => some false
      | .ifc a x, .ifc b y => if a = b then (match P.info? a with | some i => if i.comparable then eqv h d a x y else none | none => none) else some false
      | _, _ => none)
    | some (.struct fs) => (match x, y with | .agg xs, .agg ys => if P.stoodInHeld t then none else eqFs P (eqv h d) xs ys fs.toList | _, _ => none)
    | some (.array n e) => (match x, y with | .agg xs, .agg ys => (match size P e with | some m => eqEs P (eqv h d) e m xs ys n 0 | none => none) | _, _ => none)
    | some (.slice _) => (match x, y with | .ns, .ns => some true | .ns, .sl .. => some false | .sl .., .ns => some false | .ns, .es => some false | .es, .ns => some false | _, _ => none)
    | some (.map _ _) => (match x, y with | .nm, .nm => some true | .nm, .mp _ => some false | .mp _, .nm => some false | _, _ => none)
    | some (.func ..) => (match x, y with | .nf, .nf => some true | .nf, .fn .. => some false | .fn .., .nf => some false | _, _ => none)
    | _ => none
def findA (h : T AB) (kt : TypeId) (k : AV) : List (AV × AV × Nat) → Nat → Option (Option (Nat × AV))
  | [], _ => some none
  | (key, v, _) :: es, i => match eqv P h 50 kt k key with
    | some true => some (some (i, v))
    | some false => findA h kt k es (i + 1)
    | none => none
def chkFs (ck : TypeId → AV → Bool) (l : List AV) : List Field → Bool
  | [] => true
  | f :: fs => if f.name = "_" then chkFs ck l fs else (match part P f.type l f.offset with | some x => ck f.type x && chkFs ck l fs | none => false)
def chkEs (ck : TypeId → AV → Bool) (e : TypeId) (m : Nat) (l : List AV) : Nat → Nat → Bool
  | 0, _ => true
  | n + 1, i => (match part P e l (i * m) with | some x => ck e x && chkEs ck e m l n (i + 1) | none => false)
/-- can it be a key -/
def chkKey : Nat → TypeId → AV → Bool
  | 0, _, _ => false
  | d + 1, t, v => match und P t with
    | some (.int _) => true
    | some .string => true
    | some .bool => true
    | some (.struct fs) => (match v with | .agg l => chkFs P (chkKey d) l fs.toList | _ => false)
    | some (.array n e) => (match v with | .agg l => (match size P e with | some m => chkEs P (chkKey d) e m l n 0 | none => false) | _ => false)
    | _ => false
def fillA (place : Nat → Option (Nat × Nat)) (cs : List AV) : List (Nat × AV) → Option (List AV)
  | [] => some cs
  | (i, v) :: rest => match place i with
    | none => none
    | some (off, sz) => (match Nat.beq (cells v).length sz, Nat.ble (Nat.add off sz) cs.length with
      | true, true => fillA place (cs.take off ++ cells v ++ cs.drop (off + sz)) rest
      | _, _ => none)
def placeS (fs : Array Field) (i : Nat) : Option (Nat × Nat) := match fs[i]? with | some f => (match size P f.type with | some n => some (f.offset, n) | none => none) | none => none
def sizesOk : List Field → Bool
  | [] => true
  | f :: l => match size P f.type with | some _ => sizesOk l | none => false
def buildA (t : TypeId) (parts : List (Nat × AV)) : Option AV :=
  match zeroA P t, und P t with
  | some z, some (.struct fs) => (match sizesOk P fs.toList with | true => (match fillA (placeS P fs) (cells z) parts with | some l => some (.agg l) | none => none) | false => none)
  | some z, some (.array _ e) => (match size P e with | some n => (match fillA (fun i => some (i * n, n)) (cells z) parts with | some l => some (.agg l) | none => none) | none => none)
  | _, _ => none
def natOf : AV → Option Nat
  | .i _ (.ofNat n) => some n
  | _ => none
/-- a bound of a slice: none, if it is not there; else at most so much -/
def bnd (dflt most : Nat) (x : Option AV) : Option Nat := match x with
  | none => some dflt
  | some v => (match natOf v with | some n => (match Nat.ble n most with | true => some n | false => none) | none => none)
def isNone {α : Type} : Option α → Bool | none => true | some _ => false
def slStr (l : List Nat) (lo hi mx : Option AV) : Option AV := match mx with
  | some _ => none
  | none => (match bnd l.length l.length hi with
    | some h => (match bnd 0 h lo with | some a => some (.s ((l.drop a).take (h - a))) | none => none)
    | none => none)
def slRow (b o n c sz : Nat) (lo hi mx : Option AV) : Option AV := match isNone hi && !isNone mx with
  | true => none
  | false => match bnd c c mx with
  | none => none
  | some m => (match bnd n m hi with
    | none => none
    | some h => (match bnd 0 h lo with
      | none => none
      | some l => (match Nat.beq m l with
        | true => some (.sl b o (h - l) (m - l) false)
        | false => some (.sl b (o + l * sz) (h - l) (m - l) false))))
/-- of a slice whose capacity is not known -/
def slOpn (b o n c sz : Nat) (lo hi mx : Option AV) : Option AV := match mx with
  | some m => slRow b o n n sz lo hi (some m)
  | none => (match bnd n n hi with
    | none => none
    | some h => (match bnd 0 h lo with
      | none => none
      | some l => (match Nat.beq l 0, Nat.ble n l with
        | true, _ => some (.sl b o h c true)
        | false, false => some (.sl b (o + l * sz) (h - l) (c + l) true)
        | false, true => (match Nat.beq h l with | true => some .es | false => none))))
def sliceA (t : TypeId) (x : AV) (lo hi mx : Option AV) : Option AV :=
  match und P t with
  | some .string => (match x with | .s l => slStr l lo hi mx | _ => none)
  | some (.slice e) => (match size P e with
    | some sz => (match x with
      | .ns => (match slRow 0 0 0 0 sz lo hi mx with | some _ => some .ns | none => none)
      | .es => (match mx with | none => (match slRow 0 0 0 0 sz lo hi none with | some _ => some .es | none => none) | some _ => none)
      | .sl b o n c false => slRow b o n c sz lo hi mx
      | .sl b o n c true => slOpn b o n c sz lo hi mx
      | _ => none)
    | none => none)
  | some (.array n e) => (match size P e with
    | some sz => (match x with | .ptr b o => slRow b o n n sz lo hi mx | _ => none)
    | none => none)
  | _ => none
def convA (h : T AB) (src dst : TypeId) (x : AV) : Option AV :=
  match und P src, und P dst with
  | some .string, some .string => (match x with | .s l => some (.s l) | _ => none)
  | some (.slice e), some .string => (match und P e with
    | some (.int .u8) => (match x with
      | .ns => some (.s [])
      | .sl b o n _ _ => (match rowOf h b with | some (m, c) => (match Nat.ble (Nat.add o n) m with | true => (match range c o n with | some l => (match bytesOf l with | some s => some (.s s) | none => none) | none => none) | false => none) | none => none)
      | _ => none)
    | _ => none)
  | _, _ => none
def lenA (h : T AB) (t : TypeId) (x : AV) : Option Nat :=
  match und P t with
  | some .string => (match x with | .s l => some l.length | _ => none)
  | some (.array n _) => some n
  | some (.pointer a) => (match und P a with | some (.array n _) => some n | _ => none)
  | some (.slice _) => (match x with | .ns => some 0 | .es => some 0 | .sl _ _ n _ _ => some n | _ => none)
  | some (.map _ _) => (match x with | .nm => some 0 | .mp b => (match h.get b with | some (.map es _) => some es.length | _ => none) | _ => none)
  | _ => none
def foldMin (mx : Bool) : AV → List AV → Option AV
  | x, [] => some x
  | .i k a, .i _ b :: l => foldMin mx (.i k (match mx with | true => (match ltI a b with | true => b | false => a) | false => (match ltI b a with | true => b | false => a))) l
  | _, _ => none
def lenOfA : AV → Option Nat
  | .ns => some 0 | .es => some 0 | .sl _ _ n _ _ => some n | .s l => some l.length
  | _ => none
def firstA (h : T AB) (sz n : Nat) : AV → Option (List AV)
  | .ns | .es => (match n with | 0 => some [] | _ => none)
  | .sl b o _ _ _ => (match rowOf h b with | some (m, c) => (match Nat.ble (Nat.add o (n * sz)) m with | true => range c o (n * sz) | false => none) | none => none)
  | .s l => (match Nat.beq n l.length, Nat.beq sz 1 with | true, true => some (strBytes l) | _, _ => none)
  | _ => none
def mkRow (nx n e : Nat) (l : List AV) (h : T AB) : Option (AV × T AB × Nat) := match Nat.ble n 1048576 with
  | true => some (.sl nx 0 n 0 true, h.set nx (.cells l.length (setAll .leaf 0 l) true e 0 0), Nat.succ nx)
  | false => none
/-- append of n more, whose cells are new, to s -/
def appendA (h : T AB) (nx : Nat) (e sz : Nat) (s : AV) (n : Nat) (new : List AV) : Option (AV × T AB × Nat) :=
  match n with
  | 0 => (match s with | .ns | .es | .sl .. => some (s, h, nx) | _ => none)
  | _ => (match s with
    | .ns => mkRow nx n e new h
    | .sl b o sn c false => (match Nat.ble (Nat.add sn n) c with
      | true => (match storeA h b (o + sn * sz) new with | some h => some (.sl b o (sn + n) c false, h, nx) | none => none)
      | false => (match firstA h sz sn s with | some old => mkRow nx (sn + n) e (old ++ new) h | none => none))
    | .sl b 0 sn 0 true => (match h.get b with
      | some (.cells _ _ true e' 0 0) => (match Nat.beq e' e, firstA h sz sn s with
        | true, some old => mkRow nx (sn + n) e (old ++ new) (h.set b .dead)
        | _, _ => none)
      | _ => none)
    | _ => none)
/-- what append asks of the elements' type -/
def appOk (e sz : Nat) : Bool := match P.info? e, zeroA P e with
  | some i, some z => Nat.ble i.bytes 1048576 && Nat.beq (cells z).length sz
  | _, _ => false
end
end Go.Ev
