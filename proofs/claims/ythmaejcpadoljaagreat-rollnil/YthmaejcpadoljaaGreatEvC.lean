/- A certified evaluator of closed calls, part C. -/
import Derived.Test.YthmaejcpadoljaaGreatEvB
namespace Go.Ev
open Go

section
variable (P : Program) (I : FuncId → List AV → Option AV)

def isIface0 (x y : Operand) : Bool := (x matches .const _) || (y matches .const _)
/-- what '==' of two nil interfaces and of structs is asked for first -/
def okEq (c : Bool) (ty : TypeId) (a b : AV) : Bool := match a with
  | .ni => (match b with | .ni => c | _ => true)
  | .agg _ => !(P.eqGuardType P.depth ty)
  | _ => true
def eqFb (c : Bool) (ty : TypeId) (neg : Bool) (h : T AB) (a b : AV) : Option AV := match okEq P c ty a b with
  | true => (match eqv P h 50 ty a b with | some r => some (.b (match neg with | true => !r | false => r)) | none => none)
  | false => none
def noI (_ : IntKind) (_ _ : Int) : Option AV := none
def noV (_ _ : AV) : Option AV := none
def copBin (op : BinOp) (ty : TypeId) (xo yo : Operand) (x y : Opn) : COp :=
  match op with
  | .shl => .p fun t => bin3 (shI .shl) (x.ev t) (y.ev t)
  | .shr => .p fun t => bin3 (shI .shr) (x.ev t) (y.ev t)
  | op => match und P ty with
    | some (.int _) => .p fun t => bin2 (binI op) noV (x.ev t) (y.ev t)
    | some .string => .p fun t => bin2 noI (strFb op) (x.ev t) (y.ev t)
    | some _ => (match op with
      | .eql => .q fun t h => bin2 noI (eqFb P (isIface0 xo yo) ty false h) (x.ev t) (y.ev t)
      | .neq => .q fun t h => bin2 noI (eqFb P (isIface0 xo yo) ty true h) (x.ev t) (y.ev t)
      | _ => .bad)
    | none => .bad
def copLen (ty : TypeId) (x : Opn) : COp := match und P ty with
  | some (.map _ _) => .q fun t h => on1 (x.ev t) fun x => match lenA P h ty x with | some n => some (.i .i64 (.ofNat n)) | none => none
  | _ => .p fun t => on1 (x.ev t) fun x => match lenA P .leaf ty x with | some n => some (.i .i64 (.ofNat n)) | none => none
def copApp (ty : TypeId) (e sz : Nat) (s x : Opn) : COp := match appOk P e sz with
  | false => .bad
  | true => (match und P ty with
    | some (.int _) => (match zeroA P e with | some z => .st fun t h nx => appZ e sz (cells z) h nx (s.ev t) (x.ev t) | none => .bad)
    | some _ => .st fun t h nx => appX e sz h nx (s.ev t) (x.ev t)
    | none => .bad)
def copB (b : Builtin) (ats : Array TypeId) (as : List Opn) : COp :=
  match b with
  | .len => (match as, ats[0]? with | [x], some ty => copLen P ty x | _, _ => .bad)
  | .cap => (match as, ats[0]? with | [x], some ty => (match und P ty with | some (.slice _) => .p fun t => capA (x.ev t) | _ => .bad) | _, _ => .bad)
  | .min => .p fun t => mmA false (Opn.evl t as)
  | .max => .p fun t => mmA true (Opn.evl t as)
  | .unsafeSliceData => (match as with | [x] => .p fun t => usDat (x.ev t) | _ => .bad)
  | .append => (match as, ats[0]?, ats[1]? with
    | [s, x], some ty, some ty1 => (match und P ty with | some (.slice e) => (match size P e with | some sz => copApp P ty1 e sz s x | none => .bad) | _ => .bad)
    | _, _, _ => .bad)
  | .recover => .cl fun _ h nx => some (.recover, h, nx)
  | _ => .bad
def copCall (c : Call) (as : List Opn) : COp := match c.callee with
  | .builtin b => copB P b c.argTypes as
  | .value f => (match f with
    | .func f => .cl fun t h nx => callD P I f h nx (Opn.evl t as)
    | f => copV (opn f) as)
  | .invoke r name => copI name (opn r) as
where
  copV (f : Opn) (as : List Opn) : COp := .cl fun t h nx => callV P I h nx (f.ev t) (Opn.evl t as)
  copI (name : String) (r : Opn) (as : List Opn) : COp := .cl fun t h nx => callI P I name h nx (r.ev t) (Opn.evl t as)
def allFlatS (l : List AV) (k : Option (AB × AV)) : Option (AB × AV) := match allFlat l with | true => k | false => none
def mkSl (e b : Nat) (z : List AV) (l c : Option AV) : Option (AB × AV) := match l, c with
  | some (.i .i64 (.ofNat l)), some (.i .i64 (.ofNat c)) => (match Nat.ble l c, Nat.ble c 1048576 with | true, true => allFlatS z (some (row (rep z c) e, .sl b 0 l c false)) | _, _ => none)
  | _, _ => none
def slLit (e n sz b : Nat) (z : List AV) (ps : Option (List (Nat × AV))) : Option (AB × AV) := match ps with
  | some l => (match fillA (fun i => some (i * sz, sz)) (rep z n) l with | some c => allFlatS c (some (row c e, .sl b 0 n n false)) | none => none)
  | none => none
def cop (o : Oper) : COp :=
  match o.op with
  | .move x | .assign x => mv (opn x)
  | .pick c a b => pk (opn c) (opn a) (opn b)
  | .load ty a => ldC (isAgg P ty) (size P ty) (opn a)
  | .store ty a x => stC (size P ty) (opn a) (opn x)
  | .fieldAddr ty x f => (match und P ty with
    | some (.struct fs) => (match fs[f]? with
      | some fl => (match size P fl.type with | some (_ + 1) => faC fl.offset (opn x) | _ => .bad)
      | none => .bad)
    | _ => .bad)
  | .indexAddr ty x ix => (match und P ty with
    | some (.array n e) => (match size P e with | some sz => ixAC n sz (opn x) (opn ix) | none => .bad)
    | some (.slice e) => (match size P e with | some sz => ixSC sz (opn x) (opn ix) | none => .bad)
    | _ => .bad)
  | .nilCheck x => ncC (opn x)
  | .binOp op ty x y _ => copBin P op ty x y (opn x) (opn y)
  | .unOp op _ x => unC op (opn x)
  | .extract x i => exC i (opn x)
  | .call c => copCall P I c (opns c.args.toList)
  | .alloc e => (match zeroA P e with | some z => (match allFlat (cells z) with | true => .fr fun _ b => some (row (cells z) e, .ptr b 0) | false => .bad) | none => .bad)
  | .box e x => bxC e (opn x)
  | .build ty ps => buC ty (opnps ps.toList)
  | .buildSlice ty n ps => (match und P ty with
    | some (.slice e) => (match size P e, zeroA P e with
      | some sz, some z => (match Nat.ble (n * sz) 16777216, Nat.ble 1 sz, Nat.beq (cells z).length sz with | true, true, true => bsC e n sz (cells z) (opnps ps.toList) | _, _, _ => .bad)
      | _, _ => .bad)
    | _ => .bad)
  | .makeSlice ty l c => (match und P ty with
    | some (.slice e) => (match size P e, zeroA P e, P.info? e with
      | some sz, some z, some i => (match Nat.ble 1 sz, Nat.beq (cells z).length sz, Nat.ble i.bytes 1024 with | true, true, true => msC e (cells z) (opn l) (opn c) | _, _, _ => .bad)
      | _, _, _ => .bad)
    | _ => .bad)
  | .makeMap ty r => (match r with | none => .fr fun _ b => some (.map [] 0, .mp b) | some r => (match und P ty with | some (.map _ _) => mmC (opn r) | _ => .bad))
  | .makeFunc f a b => (match isYield f with | true => .bad | false => mfC f (opns a.toList) (opns b.toList))
  | .makeInterface ty x => (match und P ty with | some (.interface _) | none => .bad | some _ => miC ty (opn x))
  | .convert s d x => (match und P s with
    | some .string => (match und P d with
      | some .string => cvC s d (opn x)
      | _ => .bad)
    | some (.int _) => (match und P d with | some (.int k) => i2i k (opn x) | _ => .bad)
    | some (.slice _) => cvC s d (opn x)
    | _ => .bad)
  | .slice ty x lo hi mx => slC ty (opn x) (oopn lo) (oopn hi) (oopn mx)
  | .field ty x f => (match und P ty with
    | some (.struct fs) => (match fs[f]? with | some fl => fdC fl.type fl.offset (opn x) | none => .bad)
    | _ => .bad)
  | .index ty x ix => (match und P ty with
    | some (.array n e) => (match size P e with | some sz => inC n sz e (opn x) (opn ix) | none => .bad)
    | some .string => isC (opn x) (opn ix)
    | _ => .bad)
  | .lookup ty x ix ok => (match und P ty with
    | some (.map kt et) => (match zeroA P et, keyOk kt with | some z, true => lkC kt z ok (opn x) (opn ix) | _, _ => .bad)
    | _ => .bad)
  | .typeAssert x _ ty ok => (match und P ty with
    | some (.interface _) | none => .bad
    | some _ => taC ty ok (zeroA P ty) (opn x))
  | .entry x => enC (opn x)
  | .mapUpdate ty m k x | .insert ty m k x => (match und P ty with
    | some (.map kt _) => (match keyOk kt with | true => muC kt (opn m) (opn k) (opn x) | false => .bad)
    | _ => .bad)
  | .defer c => (match c.callee with
    | .value f => dfC (opn f) (opns c.args.toList)
    | _ => .bad)
  | _ => .bad
where
  mv (x : Opn) : COp := .p fun t => x.ev t
  pk (c a b : Opn) : COp := .p fun t => pick (c.ev t) a b t
  ldC (g : Option Bool) (n : Option Nat) (a : Opn) : COp := match g, n with
    | some true, some n => .q fun t h => ldN n h (a.ev t)
    | some false, _ => .q fun t h => ld1 h (a.ev t)
    | _, _ => .bad
  stC (n : Option Nat) (a x : Opn) : COp := match n with | some n => .st fun t h nx => stA n h nx (a.ev t) (x.ev t) | none => .bad
  faC (o : Nat) (x : Opn) : COp := .p fun t => fa o (x.ev t)
  ixAC (n sz : Nat) (x i : Opn) : COp := .p fun t => ixA n sz (x.ev t) (i.ev t)
  ixSC (sz : Nat) (x i : Opn) : COp := .p fun t => ixS sz (x.ev t) (i.ev t)
  ncC (x : Opn) : COp := .p fun t => nilChk P (x.ev t)
  unC (op : UnOp) (x : Opn) : COp := .p fun t => unA op (x.ev t)
  exC (i : Nat) (x : Opn) : COp := .p fun t => extA i (x.ev t)
  bxC (e : TypeId) (x : Opn) : COp := .fr fun t b => match x.ev t with | some v => allFlatS (cells v) (some (row (cells v) e, .ptr b 0)) | none => none
  buC (ty : TypeId) (ps : List (Nat × Opn)) : COp := .p fun t => match Opn.evs t ps with | some l => buildA P ty l | none => none
  bsC (e n sz : Nat) (z : List AV) (ps : List (Nat × Opn)) : COp := .fr fun t b => slLit e n sz b z (Opn.evs t ps)
  msC (e : Nat) (z : List AV) (l c : Opn) : COp := .fr fun t b => mkSl e b z (l.ev t) (c.ev t)
  mmC (r : Opn) : COp := .fr fun t b => match r.ev t with | some (.i _ _) => some (.map [] 0, .mp b) | _ => none
  mfC (f : Fn) (a b : List Opn) : COp := .p fun t => match Opn.evl t a, Opn.evl t b with | some x, some y => some (.fn f x y) | _, _ => none
  miC (ty : TypeId) (x : Opn) : COp := .p fun t => on1 (x.ev t) fun v => some (.ifc ty v)
  s2b (e : TypeId) (x : Opn) : COp := .st fun t h nx => match x.ev t with
    | some (.s l) => mkRow nx l.length e (strBytes l) h
    | _ => none
  cvC (s d : TypeId) (x : Opn) : COp := .q fun t h => on1 (x.ev t) fun v => convA P h s d v
  i2i (k : IntKind) (x : Opn) : COp := .p fun t => match x.ev t with | some (.i _ n) => mkI k n | _ => none
  slC (ty : TypeId) (x : Opn) (lo hi mx : Option Opn) : COp := .p fun t => match x.ev t, oev t lo, oev t hi, oev t mx with | some v, some a, some b, some c => sliceA P ty v a b c | _, _, _, _ => none
  fdC (ty o : Nat) (x : Opn) : COp := .p fun t => match x.ev t with | some (.agg l) => part P ty l o | _ => none
  inC (n sz e : Nat) (x i : Opn) : COp := .p fun t => match x.ev t, i.ev t with | some (.agg l), some (.i _ (.ofNat k)) => (match Nat.ble (Nat.succ k) n with | true => part P e l (k * sz) | false => none) | _, _ => none
  isC (x i : Opn) : COp := .p fun t => match x.ev t, i.ev t with | some (.s l), some (.i _ (.ofNat k)) => (match l[k]? with | some b => some (.i .u8 (.ofNat b)) | none => none) | _, _ => none
  lkC (kt : TypeId) (z : AV) (ok : Bool) (x i : Opn) : COp := .q fun t h => lookA P kt z ok h (x.ev t) (i.ev t)
  taC (ty : TypeId) (ok : Bool) (z : Option AV) (x : Opn) : COp := .p fun t => match x.ev t with
    | some (.ifc d v) => (match Nat.beq d ty, ok with
      | true, true => some (.tup [v, .b true])
      | true, false => some v
      | false, true => (match z with | some z => some (.tup [z, .b false]) | none => none)
      | _, _ => none)
    | _ => none
  enC (x : Opn) : COp := .q fun t h => entA h (x.ev t)
  nsC (x : Opn) : COp := .st fun t h nx => nextS h nx (x.ev t)
  nmC (x : Opn) : COp := .st fun t h nx => nextM h nx (x.ev t)
  rsC (x : Opn) : COp := .st fun t h nx => match x.ev t with | some (.s l) => some (.ptr nx 0, h.set nx (.siter l 0), Nat.succ nx) | _ => none
  rmC (x : Opn) : COp := .st fun t h nx => match x.ev t with
    | some (.mp m) => (match h.get m with | some (.map _ cl) => some (.ptr nx 0, h.set nx (.miter m cl [] cl), Nat.succ nx) | _ => none)
    | _ => none
  muC (kt : TypeId) (m k x : Opn) : COp := .st fun t h nx => mapUpA P kt h nx (m.ev t) (k.ev t) (x.ev t)
  dfC (f : Opn) (as : List Opn) : COp := .cl fun t h nx => deferA h nx (f.ev t) (Opn.evl t as)
  keyOk (kt : TypeId) : Bool := match und P kt with | some .string => true | some (.int _) => true | some (.struct _) => true | some (.array _ _) => true | _ => false

structure CO where
  guard : Option (List Bool × Bool)
  dst : Option (List Bool)
  op : COp
def okDst (nt : Nat) (d : Option Tmp) : Bool := match d with | none => true | some k => Nat.ble (Nat.succ k) nt
def pdst (d : Option Tmp) : Option (List Bool) := match d with | some k => some (pth k) | none => none
def co (nt : Nat) (ops : Array Oper) (o : Oper) : CO := match okDst nt o.dst with
  | false => ⟨none, none, .bad⟩
  | true => match o.guard with
    | none => ⟨none, pdst o.dst, cop P I o⟩
    | some (j, w) => match ops[j]? with
      | none => ⟨none, none, .bad⟩
      | some g => match g.dst with
        | none => ⟨none, none, .bad⟩
        | some d => ⟨some (pth d, w), pdst o.dst, cop P I o⟩
def cos (nt : Nat) (ops : Array Oper) : List Oper → List CO
  | [] => []
  | o :: l => co P I nt ops o :: cos nt ops l

/-! plans of drawn regions -/
inductive PS where
  | q (i : Nat) | r (i : Nat) | l (i : Nat)
inductive DS where
  | q (c : CO) | r (c : CO) | l (c : CO)
def reach (ops : Array Oper) : Nat → Nat → Nat → Bool
  | 0, _, _ => false
  | f + 1, j, i => match ops[j]? with
    | none => false
    | some o => o.after.toList.any fun e => Region.binds .any e && (Nat.beq e.on i || reach ops f e.on i)
def isLoudC (c : CO) : Bool := match c.op with | .st _ => true | .cl _ => true | _ => false
def isReadC (c : CO) : Bool := match c.op with | .q _ => true | _ => false
def dstIn (d : Option Tmp) (l : List Tmp) : Bool := match d with | none => false | some k => l.contains k
def looksO (ops : Array Oper) (o : Oper) : List Tmp :=
  (o.op.operands.toList.filterMap fun | .tmp t => some t | _ => none) ++ (match o.guard with | some (g, _) => ((ops[g]?).bind (·.dst)).toList | none => [])
def dstAt (ops : Array Oper) (i : Nat) : Option Tmp := match ops[i]? with | some o => o.dst | none => none
def looksAt (ops : Array Oper) (i : Nat) : List Tmp := match ops[i]? with | some o => looksO ops o | none => []
def anti (ops : Array Oper) (n j : Nat) : Bool := (List.range n).any fun i => !Nat.beq i j && dstIn (dstAt ops j) (looksAt ops i) && reach ops n j i
def loudAt (ops : Array Oper) (n : Nat) (c : Nat → CO) (i : Nat) : Bool := isLoudC (c i) || anti ops n i
def afterOk (o : Oper) (i : Nat) : Bool := o.after.toList.all fun e => !Region.binds .any e || Nat.ble (Nat.succ e.on) i
def eqDst (a b : Option Tmp) : Bool := match a, b with | some x, some y => Nat.beq x y | _, _ => false
def okPair (ops : Array Oper) (n : Nat) (c : Nat → CO) (i j : Nat) : Bool :=
  Nat.beq i j || (!eqDst (dstAt ops i) (dstAt ops j) && (!dstIn (dstAt ops j) (looksAt ops i) || reach ops n i j || (loudAt ops n c j && reach ops n j i)))
def okOps (ops : Array Oper) (c : Nat → CO) : Bool :=
  (List.range ops.size).all fun i => (match ops[i]? with | some o => afterOk o i | none => false) && (List.range ops.size).all fun j => okPair ops ops.size c i j
def depsIn (ops : Array Oper) (i : Nat) (Q : List Nat) : Bool := match ops[i]? with
  | none => false
  | some o => o.after.toList.all fun e => !Region.binds .any e || Q.contains e.on
def listed (ops : Array Oper) (n : Nat) (L : List Nat) (j : Nat) : Bool := L.any fun l => Nat.beq l j || reach ops n l j
def okPlan (ops : Array Oper) (n : Nat) (c : Nat → CO) : List Nat → List Nat → List Nat → List PS → Bool
  | _, L, V, [] => (List.range n).all fun j => V.contains j || listed ops n L j
  | Q, L, V, .q i :: l => !Q.contains i && Nat.ble (Nat.succ i) n && depsIn ops i Q && !loudAt ops n c i && !dstIn (dstAt ops i) (looksAt ops i) && okPlan ops n c (i :: Q) L (i :: V) l
  | Q, L, V, .r i :: l => Q.contains i && Nat.ble (Nat.succ i) n && isReadC (c i) && okPlan ops n c Q L (i :: V) l
  | Q, L, V, .l i :: l => !Q.contains i && Nat.ble (Nat.succ i) n && depsIn ops i Q && loudAt ops n c i
      && ((List.range n).all fun j => Nat.beq j i || V.contains j || reach ops n j i || listed ops n L j)
      && okPlan ops n c (i :: Q) (i :: L) (V.filter fun j => !isReadC (c j)) l
def mkPlan (ops : Array Oper) (n : Nat) (c : Nat → CO) : List PS :=
  let louds := (List.range n).filter (loudAt ops n c)
  go louds louds [] []
where
  go (all : List Nat) : List Nat → List Nat → List Nat → List PS
    | [], done, had => stage all done had
    | l :: ls, done, had => stage all done had ++ (.l l :: go all ls (l :: done) (avail all done ++ had))
  avail (all done : List Nat) : List Nat := (List.range n).filter fun i => !all.contains i && all.all (fun l => done.contains l || !reach ops n i l) && !listed ops n done i
  stage (all done had : List Nat) : List PS :=
    let av := avail all done
    (av.filter fun i => !had.contains i).map .q ++ (av.filter fun i => had.contains i && isReadC (c i)).map .r
def dsOf (c : Nat → CO) : List PS → List DS
  | [] => []
  | .q i :: l => .q (c i) :: dsOf c l
  | .r i :: l => .r (c i) :: dsOf c l
  | .l i :: l => .l (c i) :: dsOf c l
def coAt (nt : Nat) (ops : Array Oper) (i : Nat) : CO := match ops[i]? with | some o => co P I nt ops o | none => ⟨none, none, .bad⟩
def planD (nt : Nat) (ops : Array Oper) : Option (List DS) :=
  let ps := mkPlan ops ops.size (coAt P I nt ops)
  match okOps ops (coAt P I nt ops), okPlan ops ops.size (coAt P I nt ops) [] [] [] ps with
  | true, true => some (dsOf (coAt P I nt ops) ps)
  | _, _ => none

/-! the machine -/
inductive AItem where
  | code (c : Code)
  | inBlock (id : Nat)
  | inLoop (c : Code)
  | inScope (c : Code)
  | reg (l : List CO)
  | dr (l : List DS)
  | wait (d : Option (List Bool)) (l : List CO)
  | waitD (d : Option (List Bool)) (l : List DS)
  | inRF (l : Nat)
  | endRF (l : Nat)
  | begin
  | unw
inductive Fr where
  | bot
  | mk (fn : FuncId) (nt : Nat) (defers : List ADef) (kind : CallKind) (round : Option Nat) (ut : T AV) (utodo : List AItem) (up : Fr)
inductive R where
  | done (v : AV) (h : T AB) (nx : Nat)
  | fail (w : Nat) (F : Fr) (n : Nat)
abbrev K := Fr → T AV → List AItem → T AB → Nat → R
def fnOf (f : FuncId) : Option (Code × Nat) := match P.funcs[f]? with | some fn => (match fn.body with | some c => some (c, fn.ntmps) | none => none) | none => none
def put (d : Option (List Bool)) (v : AV) (t : T AV) : T AV := match d with | some p => T.setP v p t | none => t
def guardOk (g : Option (List Bool × Bool)) (t : T AV) : Option Bool := match g with
  | none => some true
  | some (p, w) => match T.getP p t with | some (.b x) => some (match x, w with | true, true => true | false, false => true | _, _ => false) | some .undef => some false | _ => none
def enter (K : K) (f : FuncId) (args : List AV) (kind : CallKind) (F : Fr) (t : T AV) (todo : List AItem) (h : T AB) (nx : Nat) : R :=
  match fnOf P f with
  | some (c, n) => K (.mk f n [] kind none t todo F) (setAll .leaf 0 args) [.code c] h nx
  | none => .fail 1 F nx
/-- what comes of a call in frame F -/
def after (K : K) (F : Fr) (t : T AV) (d : Option (List Bool)) (wait done : List AItem) (r : Option (ANext × T AB × Nat)) : R := match r with
  | some (.value v, h, nx) => K F (put d v t) done h nx
  | some (.enter f args, h, nx) => enter P K f args .normal F t wait h nx
  | some (.round l r t', h, nx) => K (.mk r.fn r.nt [] .normal (some l) t wait F) t' [.code r.assign, .begin, .code r.body] h nx
  | some (.defer a, h, nx) => (match F with
    | .mk f n ds k none ut utodo up => K (.mk f n (a :: ds) k none ut utodo up) (put d .undef t) done h nx
    | _ => .fail 38 F nx)
  | some (.recover, h, nx) => (match F with
    | .mk _ _ _ .deferred none _ (.unw :: _) (.mk ..) => K F (put d .ni t) done h nx
    | _ => .fail 2 F nx)
  | none => .fail 3 F 0
def execC (c : CO) (K : K) (F : Fr) (k : List AItem) (ih : T AV → T AB → Nat → R) (l : List CO) (t : T AV) (h : T AB) (nx : Nat) : R :=
  match c.op with
  | .p f => (match f t with | some v => ih (put c.dst v t) h nx | none => .fail 5 F nx)
  | .q f => (match f t h with | some v => ih (put c.dst v t) h nx | none => .fail 6 F nx)
  | .fr f => (match f t nx with | some (b, v) => ih (put c.dst v t) (h.set nx b) (Nat.succ nx) | none => .fail 7 F nx)
  | .st f => (match f t h nx with | some (v, h, nx) => ih (put c.dst v t) h nx | none => .fail 8 F nx)
  | .cl f => after P K F t c.dst (.wait c.dst l :: k) (.reg l :: k) (f t h nx)
  | .bad => .fail 9 F nx
def execG (g : Option Bool) (c : CO) (K : K) (F : Fr) (k : List AItem) (ih : T AV → T AB → Nat → R) (l : List CO) (t : T AV) (h : T AB) (nx : Nat) : R :=
  match g with
  | none => .fail 4 F nx
  | some false => ih (put c.dst .undef t) h nx
  | some true => execC P c K F k ih l t h nx
def exec (K : K) (F : Fr) (k : List AItem) : List CO → T AV → T AB → Nat → R
  | [], t, h, nx => K F t k h nx
  | c :: l, t, h, nx => execG P (guardOk c.guard t) c K F k (exec K F k l) l t h nx

def eq0 (a b : AV) : Bool := match a with
  | .b x => (match b with | .b y => x == y | _ => false)
  | .i k x => (match b with | .i k' y => k == k' && eqI x y | _ => false)
  | .s x => (match b with | .s y => bytesEq x y | _ => false)
  | .np => (match b with | .np => true | _ => false)
  | .ns => (match b with | .ns => true | _ => false)
  | .nm => (match b with | .nm => true | _ => false)
  | .ni => (match b with | .ni => true | _ => false)
  | .nf => (match b with | .nf => true | _ => false)
  | .es => (match b with | .es => true | _ => false)
  | .o k => (match b with | .o k' => Nat.beq k k' | _ => false)
  | .undef => (match b with | .undef => true | _ => false)
  | .ptr x y => (match b with | .ptr x' y' => Nat.beq x x' && Nat.beq y y' | _ => false)
  | .sl x y z u v => (match b with | .sl x' y' z' u' v' => Nat.beq x x' && Nat.beq y y' && Nat.beq z z' && Nat.beq u u' && v == v' | _ => false)
  | .mp x => (match b with | .mp y => Nat.beq x y | _ => false)
  | _ => false
def eqIf (a b : AV) : Bool := match a with
  | .ifc t x => (match b with | .ifc u y => Nat.beq t u && eq0 x y | _ => false)
  | a => eq0 a b
def eqL : List AV → List AV → Bool
  | [], [] => true
  | a :: l, b :: m => eqIf a b && eqL l m
  | _, _ => false
def eqAV (a b : AV) : Bool := match a with
  | .agg l => (match b with | .agg m => eqL l m | _ => false)
  | .tup l => (match b with | .tup m => eqL l m | _ => false)
  | a => eqIf a b
def same (d : Option (List Bool)) (v : AV) (t : T AV) : Bool := match d with
  | none => true
  | some p => match T.getP p t with | some u => eqAV u v | none => false
def execQ (c : CO) (F : Fr) (ih : T AV → T AB → Nat → R) (t : T AV) (h : T AB) (nx : Nat) : R := match guardOk c.guard t with
  | none => .fail 10 F nx
  | some false => (match c.op with | .fr _ => ih (put c.dst .undef t) h (Nat.succ nx) | _ => ih (put c.dst .undef t) h nx)
  | some true => match c.op with
    | .p f => (match f t with | some v => ih (put c.dst v t) h nx | none => .fail 11 F nx)
    | .q f => (match f t h with | some v => ih (put c.dst v t) h nx | none => .fail 12 F nx)
    | .fr f => (match f t nx with | some (b, v) => ih (put c.dst v t) (h.set nx b) (Nat.succ nx) | none => .fail 13 F nx)
    | _ => .fail 14 F nx
def execR (c : CO) (F : Fr) (ih : T AV → T AB → Nat → R) (t : T AV) (h : T AB) (nx : Nat) : R := match guardOk c.guard t with
  | none => .fail 15 F nx
  | some false => (match same c.dst .undef t with | true => ih t h nx | false => .fail 53 F nx)
  | some true => match c.op with
    | .q f => (match f t h with | some v => (match same c.dst v t with | true => ih t h nx | false => .fail 16 F nx) | none => .fail 17 F nx)
    | _ => .fail 18 F nx
def execL (c : CO) (K : K) (F : Fr) (k : List AItem) (ih : T AV → T AB → Nat → R) (l : List DS) (t : T AV) (h : T AB) (nx : Nat) : R := match guardOk c.guard t with
  | none => .fail 19 F nx
  | some false => ih (put c.dst .undef t) h nx
  | some true => match c.op with
    | .p f => (match f t with | some v => ih (put c.dst v t) h nx | none => .fail 20 F nx)
    | .q f => (match f t h with | some v => ih (put c.dst v t) h nx | none => .fail 21 F nx)
    | .st f => (match f t h nx with | some (v, h, nx) => ih (put c.dst v t) h nx | none => .fail 22 F nx)
    | .cl f => after P K F t c.dst (.waitD c.dst l :: k) (.dr l :: k) (f t h nx)
    | _ => .fail 23 F nx
def execD (K : K) (F : Fr) (k : List AItem) : List DS → T AV → T AB → Nat → R
  | [], t, h, nx => K F t k h nx
  | d :: l, t, h, nx => match d with
    | .q c => execQ c F (execD K F k l) t h nx
    | .r c => execR c F (execD K F k l) t h nx
    | .l c => execL P c K F k (execD K F k l) l t h nx

def exitToA (id : Nat) : List AItem → Option (List AItem)
  | [] => none
  | x :: k => match x with
    | .inBlock id' => (match Nat.beq id' id with | true => some k | false => exitToA id k)
    | _ => exitToA id k
/-- the value goes to the frame above -/
def giveUp (K : K) (v : AV) (F : Fr) (h : T AB) (nx : Nat) : R := match F with
  | .bot => .fail 24 F nx
  | .mk _ _ _ kind _ ut utodo up => match kind with
    | .normal => (match up with
      | .bot => .done v h nx
      | up => match utodo with
        | .wait d l :: k => K up (put d v ut) (.reg l :: k) h nx
        | .waitD d l :: k => K up (put d v ut) (.dr l :: k) h nx
        | .inRF l :: k => K up ut (.endRF l :: k) h nx
        | _ => .fail 25 up nx)
    | .deferred => (match up with
      | .bot => .fail 26 F nx
      | up => match utodo with
        | .unw :: _ => K up ut utodo h nx
        | _ => .fail 27 up nx)
    | _ => .fail 28 F nx
def resA (h : T AB) (t : T AV) : List ResultVar → Option (List AV)
  | [] => some []
  | .tmp k :: l => (match t.get k with | some v => (match resA h t l with | some r => some (v :: r) | none => none) | none => none)
  | .cell a ty :: l => (match loadA P h ty (t.get a) with | some v => (match resA h t l with | some r => some (v :: r) | none => none) | none => none)
def one (l : List AV) : AV := match l with | [v] => v | [] => .undef | l => .tup l
/-- a frame that returns: its deferred calls, its results -/
def unwA (K : K) (F : Fr) (t : T AV) (k : List AItem) (h : T AB) (nx : Nat) : R := match F with
  | .bot => .fail 29 F nx
  | .mk f n ds kind r ut utodo up => match r with
    | some _ => .fail 30 F nx
    | none => match ds with
    | [] => (match P.funcs[f]? with
      | some fn => (match resA P h t fn.results.toList with | some l => giveUp K (one l) F h nx | none => .fail 31 F nx)
      | none => .fail 32 F nx)
    | d :: ds => (match d.target with
      | .collected b => (match h.get b with
        | some (.defr l) => K (.mk f n (l ++ ds) kind r ut utodo up) t (.unw :: k) (h.set b .dead) nx
        | _ => .fail 33 F nx)
      | .fn g cap => (match invokeA P I h nx g cap d.args with
        | some (.enter g args, h, nx) => enter P K g args .deferred (.mk f n ds kind r ut utodo up) t (.unw :: k) h nx
        | some (.value _, h, nx) => K (.mk f n ds kind r ut utodo up) t (.unw :: k) h nx
        | _ => .fail 34 F nx))
def leave (K : K) (F : Fr) (t : T AV) (j : Option Code) (h : T AB) (nx : Nat) : R := match F with
  | .bot => .fail 35 F nx
  | .mk _ _ ds _ r _ _ _ => match r with
    | none => (match j with
      | none => K F t [.unw] h nx
      | some .ret => K F t [.unw] h nx
      | _ => .fail 36 F nx)
    | some l => match ds with
      | [] => (match h.get l with
        | some (.loop r) => giveUp K (.b j.isNone) F (h.set l (.loop { r with state := (match j with | none => .ready | some _ => .done), pending := j })) nx
        | _ => .fail 37 F nx)
      | _ => .fail 38 F nx
def beginA (K : K) (F : Fr) (t : T AV) (k : List AItem) (h : T AB) (nx : Nat) : R := match F with
  | .mk _ _ _ _ (some l) _ _ _ => (match h.get l with
    | some (.loop r) => (match r.state with | .ready => K F t k (h.set l (.loop { r with state := .busy })) nx | _ => .fail 39 F nx)
    | _ => .fail 40 F nx)
  | _ => .fail 41 F nx
def jumpTo (j : Option Code) (k : List AItem) : List AItem := match j with | some j => .code j :: k | none => k
def endRFA (K : K) (F : Fr) (t : T AV) (l : Nat) (k : List AItem) (h : T AB) (nx : Nat) : R := match h.get l with
  | some (.loop r) => (match r.state with
    | .ready => K F t (jumpTo r.pending k) (h.set l (.loop { r with state := .exhausted })) nx
    | .done => K F t (jumpTo r.pending k) (h.set l (.loop { r with state := .exhausted })) nx
    | _ => .fail 42 F nx)
  | _ => .fail 43 F nx
def rfA (K : K) (F : Fr) (t : T AV) (f : Option AV) (params : Array Tmp) (assign body : Code) (k : List AItem) (h : T AB) (nx : Nat) : R := match F with
  | .mk fn nt ds kind r ut utodo up => (match f with
    | some (.fn g first cap) => (match r with
      | some l => (match h.get l with
        | some (.loop lp) => after P K F t none (.inRF nx :: k) (.endRF nx :: k) (invokeA P I (h.set nx (.loop { state := .ready, pending := none, fn, tmps := t, nt, params, assign, body, defers := lp.defers })) (Nat.succ nx) g cap (first ++ [.fn (.yield nx) [] []]))
        | _ => .fail 44 F nx)
      | none => after P K (.mk fn nt (⟨.collected nx, []⟩ :: ds) kind r ut utodo up) t none (.inRF (Nat.succ nx) :: k) (.endRF (Nat.succ nx) :: k)
          (invokeA P I ((h.set nx (.defr [])).set (Nat.succ nx) (.loop { state := .ready, pending := none, fn, tmps := t, nt, params, assign, body, defers := nx })) (Nat.succ (Nat.succ nx)) g cap (first ++ [.fn (.yield (Nat.succ nx)) [] []])))
    | _ => .fail 45 F nx)
  | _ => .fail 46 F nx
def condA (K : K) (F : Fr) (t : T AV) (v : Option AV) (a b : Code) (k : List AItem) (h : T AB) (nx : Nat) : R := match v with
  | some (.b true) => K F t (.code a :: k) h nx
  | some (.b false) => K F t (.code b :: k) h nx
  | _ => .fail 47 F nx
def exitA (K : K) (F : Fr) (t : T AV) (id : Nat) (k : List AItem) (h : T AB) (nx : Nat) : R := match exitToA id k with
  | some k => K F t k h nx
  | none => leave K F t (some (.exit id)) h nx
def regA (K : K) (F : Fr) (t : T AV) (ops : Array Oper) (d : Bool) (k : List AItem) (h : T AB) (nx : Nat) : R := match F with
  | .bot => .fail 48 F nx
  | .mk _ nt _ _ _ _ _ _ => match d with
    | true => (match planD P I nt ops with | some l => execD P K F k l t h nx | none => .fail 49 F nx)
    | false => exec P K F k (cos P I nt ops ops.toList) t h nx
def stepC (K : K) (F : Fr) (t : T AV) (c : Code) (k : List AItem) (h : T AB) (nx : Nat) : R := match c with
  | .skip => K F t k h nx
  | .region _ ops d => regA P I K F t ops d k h nx
  | .seq a b => K F t (.code a :: .code b :: k) h nx
  | .cond c a b => condA K F t ((opn c).ev t) a b k h nx
  | .block id b => K F t (.code b :: .inBlock id :: k) h nx
  | .loop b => K F t (.code b :: .inLoop b :: k) h nx
  | .rangeFunc f ps a b => rfA P I K F t ((opn f).ev t) ps a b k h nx
  | .exit id => exitA K F t id k h nx
  | .scope b => K F t (.code b :: .inScope b :: k) h nx
  | .label _ => K F t k h nx
  | .goto _ => .fail 50 F nx
  | .ret => leave K F t (some .ret) h nx
  | .refuse _ => .fail 51 F nx
def stepI (K : K) (F : Fr) (t : T AV) (x : AItem) (k : List AItem) (h : T AB) (nx : Nat) : R := match x with
  | .code c => stepC P I K F t c k h nx
  | .inBlock _ => K F t k h nx
  | .inLoop b => K F t (.code b :: .inLoop b :: k) h nx
  | .inScope _ => K F t k h nx
  | .reg l => exec P K F k l t h nx
  | .dr l => execD P K F k l t h nx
  | .endRF l => endRFA K F t l k h nx
  | .begin => beginA K F t k h nx
  | .unw => unwA P I K F t k h nx
  | _ => .fail 52 F nx
def step (K : K) (F : Fr) (t : T AV) (todo : List AItem) (h : T AB) (nx : Nat) : R := match todo with
  | [] => leave K F t none h nx
  | x :: k => stepI P I K F t x k h nx
def run : Nat → Fr → T AV → List AItem → T AB → Nat → R
  | 0, F, _, _, _, nx => .fail 0 F nx
  | n + 1, F, t, todo, h, nx => step P I (run n) F t todo h nx
end
end Go.Ev
