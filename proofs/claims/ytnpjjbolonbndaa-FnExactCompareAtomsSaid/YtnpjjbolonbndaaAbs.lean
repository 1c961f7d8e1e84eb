/-
  Abstract values for Go code that works on numbers, strings, immutable slices and boxed structs, and an evaluator of such code: definitions alone.
  A state says of slots, of the call's own variables (boxes) and of the slices that it appends to (fr) what they hold; 'aCode c Q s' is what has to be shown.
-/
import Derived.Test.YtnpjjbolonbndaaProg
import Derived.KernelRfl
import Derived.WalkKit
import Derived.Deep.Quiet
namespace Go.Proofs.Ytnpjjbolonbndaa
namespace Abs

abbrev Str := List UInt8
def mkS (l : Str) : Value := .string ⟨l.toArray⟩

inductive AV where
  | any
  | val (v : Value)
  | str (s : Str)
  | list (o : Option Nat) (xs : List (List AV))
  | agg (cs : List AV)
  | tup (vs : List AV)
  | bptr (j off : Nat)
  | bsl (j n : Nat)
  | rptr (cs : List AV)
  | cond (g : Bool) (x : AV)

inductive ABox where
  | cells (cs : List AV)
  | iter (s : Str) (pos : Nat)

abbrev Env := List (Nat × AV)
/-- element type, cells of an element, length -/
abbrev Fr := List (Nat × Nat × Nat)
structure St where
  env : Env
  bx : List ABox
  fr : Fr

def look : Env → Nat → AV
  | [], _ => .any
  | (j, x) :: e, i => if i = j then x else look e i

def put (e : Env) (d : Option Nat) (x : AV) : Env := match d with | some d => (d, x) :: e | none => e

def norm (e : Env) : List Nat → Env
  | [] => []
  | i :: K => (i, look e i) :: norm e K

inductive AOp where
  | mv (x : Operand)
  | and (c a : Operand)
  | or (c a : Operand)
  | bin (op : BinOp) (x y : Operand)
  | binb (op : BinOp) (x y : Operand)
  | not (x : Operand)
  | conv (k : IntKind) (x : Operand)
  | b2s (x : Operand)
  | box (x : Operand)
  | alloc (zero : List Value)
  | build (zero : List Value) (places : List (Nat × Nat)) (parts : List Operand)
  | bslice (e sz : Nat) (own : Bool) (parts : List Operand)
  | make (zero : List Value) (sz bytes : Nat) (x : Operand)
  | load (agg : Bool) (size : Nat) (x : Operand)
  | store (size : Nat) (a x : Operand)
  | fadr (off : Nat) (x : Operand)
  | field (agg : Bool) (off size : Nat) (x : Operand)
  | iadr (sz : Nat) (x i : Operand)
  | index (x i : Operand)
  | slice (isS : Bool) (sz : Nat) (x : Operand) (lo hi : Option Operand)
  | extract (x : Operand) (i : Nat)
  | len (isS : Bool) (x : Operand)
  | append (e sz bytes : Nat) (x y : Operand)
  | call (f : Nat) (args : List Operand)
  | range (x : Operand)
  | next (x : Operand)
  | other

structure AO where
  dst : Option Nat
  guard : Option (Nat × Bool)
  op : AOp

inductive ACode where
  | skip
  | region (draw : Bool) (ops : List AO)
  | seq (a b : ACode)
  | cond (c : Operand) (x y : ACode)
  | block (id : Nat) (body : ACode)
  | loop (body : ACode)
  | exit (id : Nat)
  | ret
  | other

def arg (l : List Operand) (i : Nat) : Operand := l.getD i (.func 0)

def structOff (P : Program) (t : TypeId) (i : Nat) : Option Field :=
  match P.underlying t with | some (.struct fs) => fs[i]? | _ => none

/-- the fields' places and sizes, and the zero -/
def structPlaces (P : Program) (t : TypeId) : Option (List (Nat × Nat) × Value) :=
  match P.info? t, P.underlying t with
  | some it, some (.struct fields) =>
    match it.zero, fields.toList.mapM (fun f => (P.info? f.type).map fun i => (f.offset, i.size)) with
    | some z, some places => some (places, z)
    | _, _ => none
  | _, _ => none

def elemTy (P : Program) (t : TypeId) : TypeId := match P.underlying t with | some (.slice e) => e | _ => 0
def bytesOf (P : Program) (t : TypeId) : Nat := match P.info? t with | some i => i.bytes | _ => 0
def aggTy (P : Program) (t : TypeId) : Bool := match P.underlying t with | some (.struct _) => true | some (.array ..) => true | _ => false
def zeroOf (P : Program) (t : TypeId) : Option Value := match P.info? t with | some i => i.zero | _ => none
/-- the type is known, and so are its cells -/
def okTy (P : Program) (t : TypeId) : Bool := (P.underlying t).isSome && (P.info? t).isSome
def isInt (P : Program) (t : TypeId) : Option IntKind := match P.underlying t with | some (.int k) => some k | _ => none
/-- a slice type whose element type has a zero of its own size, more than no cell -/
def goodElem (P : Program) (t : TypeId) : Bool :=
  match P.underlying t with
  | some (.slice e) => match P.info? e with
    | some i => match i.zero with
      | some z => z.cells.size == i.size && decide (0 < i.size) && decide (i.size ≤ 64)
      | none => false
    | none => false
  | _ => false

def zeroCells (P : Program) (t : TypeId) : List Value := match zeroOf P t with | some z => z.cells.toList | none => []
def zeroOne (P : Program) (t : TypeId) : Bool := match zeroOf P t with | some z => z.cells.all (·.oneCell') | none => false
def sameTmp (x y : Operand) : Bool := match x, y with | .tmp i, .tmp j => i == j | _, _ => false

/-- is slot d of a region only the source of an append -/
def toAppend (ops : List Oper) (d : Option Nat) : Bool :=
  ops.any fun o => match o.op with
    | .call c => match c.callee with
      | .builtin .append => match arg c.args.toList 1, d with | .tmp t, some d => t == d | _, _ => false
      | _ => false
    | _ => false

def cOp (P : Program) (ops : List Oper) (o : Oper) : AOp :=
  match o.op with
  | .move x => .mv x
  | .assign x => .mv x
  | .pick c a b => match b with
    | .const (.bool false) => .and c a
    | _ => match a with
      | .const (.bool true) => .or c b
      | _ => .other
  | .binOp op t x y _ => match P.underlying t with | some .bool => .binb op x y | _ => .bin op x y
  | .unOp op _ x => match op with | .not => .not x | _ => .other
  | .convert src dst x => match isInt P src, isInt P dst with
    | some _, some k => .conv k x
    | _, _ => match P.underlying src, P.underlying dst with
      | some (.slice e), some .string => match isInt P e with | some .u8 => .b2s x | _ => .other
      | _, _ => .other
  | .box _ x => .box x
  | .alloc t => match zeroOf P t with | some z => if z.cells.all (·.oneCell') then .alloc z.cells.toList else .other | none => .other
  | .build t ps => match structPlaces P t with
    | some (places, z) => if z.cells.all (·.oneCell') && ps.toList.all (fun p => match places[p.1]? with | some q => decide (q.1 + q.2 ≤ z.cells.size) | none => false) then
        .build z.cells.toList (ps.toList.map fun p => places.getD p.1 (0, 0)) (ps.toList.map (·.2)) else .other
    | none => .other
  | .buildSlice t n ps => if goodElem P t && decide (n ≤ 64) && ps.toList.map (·.1) == List.range n then .bslice (elemTy P t) (P.cellsOf (elemTy P t)) (!toAppend ops o.dst) (ps.toList.map (·.2)) else .other
  | .makeSlice t l c => if goodElem P t && zeroOne P (elemTy P t) && sameTmp l c then .make (zeroCells P (elemTy P t)) (P.cellsOf (elemTy P t)) (bytesOf P (elemTy P t)) l else .other
  | .load t x => if okTy P t then .load (aggTy P t) (P.cellsOf t) x else .other
  | .store t a x => if okTy P t then .store (P.cellsOf t) a x else .other
  | .fieldAddr t x i => match structOff P t i with | some f => if P.cellsOf f.type = 0 then .other else .fadr f.offset x | none => .other
  | .field t x i => match structOff P t i with | some f => if okTy P f.type then .field (aggTy P f.type) f.offset (P.cellsOf f.type) x else .other | none => .other
  | .indexAddr t x i => if goodElem P t then .iadr (P.cellsOf (elemTy P t)) x i else .other
  | .index t x i => match P.underlying t with | some .string => .index x i | _ => .other
  | .slice t x lo hi mx => match mx with
    | none => match P.underlying t with
      | some .string => .slice true 0 x lo hi
      | some (.slice _) => if okTy P (elemTy P t) then .slice false (P.cellsOf (elemTy P t)) x lo hi else .other
      | _ => .other
    | _ => .other
  | .extract x i => .extract x i
  | .range t x => match P.underlying t with | some .string => .range x | _ => .other
  | .next x s => if s then .next x else .other
  | .call c => match c.callee with
    | .builtin b => match b with
      | .len => match P.underlying (c.argTypes.getD 0 0) with
        | some .string => if c.args.size = 1 ∧ c.argTypes.size = 1 then .len true (arg c.args.toList 0) else .other
        | some (.slice _) => if c.args.size = 1 ∧ c.argTypes.size = 1 then .len false (arg c.args.toList 0) else .other
        | _ => .other
      | .append => if goodElem P (c.argTypes.getD 0 0) && c.argTypes.toList == [c.argTypes.getD 0 0, c.argTypes.getD 0 0] && c.args.size == 2 then
          .append (elemTy P (c.argTypes.getD 0 0)) (P.cellsOf (elemTy P (c.argTypes.getD 0 0))) (bytesOf P (elemTy P (c.argTypes.getD 0 0))) (arg c.args.toList 0) (arg c.args.toList 1)
        else .other
      | _ => .other
    | .value f => match f with
      | .func f => match P.funcs[f]? with
        | some fn => if fn.name == "runtime.NumGoroutine" || fn.body.isNone then .other else .call f c.args.toList
        | none => .other
      | _ => .other
    | _ => .other
  | _ => .other

def dstAt (ops : List Oper) (j : Nat) : Nat := ((ops[j]?).bind (·.dst)).getD 0

def cOps (P : Program) (ops : List Oper) : List AO := ops.map fun o => ⟨o.dst, o.guard.map fun g => (dstAt ops g.1, g.2), cOp P ops o⟩

def guardsOk (ops : List Oper) : Bool := ops.all fun o => match o.guard with | some g => ((ops[g.1]?).bind (·.dst)).isSome | none => true

def dstsOk (n : Nat) (ops : List Oper) : Bool := ops.all fun o => match o.dst with | some d => decide (d < n) | none => true

def cCode (P : Program) (n : Nat) : Code → ACode
  | .skip => .skip
  | .region _ ops d => if guardsOk ops.toList && dstsOk n ops.toList && (!d || (Region.lexB .any ops && P.follows .mixedOrders)) then .region d (cOps P ops.toList) else .other
  | .seq a b => .seq (cCode P n a) (cCode P n b)
  | .cond c x y => .cond c (cCode P n x) (cCode P n y)
  | .block id b => .block id (cCode P n b)
  | .loop b => .loop (cCode P n b)
  | .exit id => .exit id
  | .ret => .ret
  | _ => .other

/-! what has to be shown: nodes at which the evaluation stops -/
inductive Need (p q : Prop) : Prop | mk : p → q → Need p q
inductive Fork (b : Bool) (p q : Prop) : Prop | mk : (b = true → p) → (b = false → q) → Fork b p q
inductive Stop : Prop
inductive Round (p : Prop) : Prop | mk : p → Round p

def constAV (v : Value) : AV := match v with | .string s => .str s.data.toList | v => .val v
def decodeS (l : Str) (pos : Nat) : Nat × Nat := Utf8.decode ⟨l.toArray⟩ pos

def ev (e : Env) : Operand → AV
  | .tmp t => look e t
  | .const v => constAV v
  | .global g => .val (.pointer (some ⟨g, 0, none⟩))
  | .func f => .val (.func (.func f) #[] #[])

def unG (gd : Bool) (x : AV) (k : AV → Prop) : Prop :=
  match x with
  | .cond g y => Need (gd = true → g = true) (k y)
  | .any => k .any
  | .val v => k (.val v)
  | .str s => k (.str s)
  | .list o xs => k (.list o xs)
  | .agg cs => k (.agg cs)
  | .tup vs => k (.tup vs)
  | .bptr j off => k (.bptr j off)
  | .bsl j n => k (.bsl j n)
  | .rptr cs => k (.rptr cs)

def evG (gd : Bool) (e : Env) (x : Operand) (k : AV → Prop) : Prop := unG gd (ev e x) k

def evs (gd : Bool) (e : Env) : List Operand → (List AV → Prop) → Prop
  | [], k => k []
  | x :: xs, k => evG gd e x fun v => evs gd e xs fun vs => k (v :: vs)

def gInt (x : AV) (k : IntKind → Int → Prop) : Prop := match x with | .val (.int kd n) => k kd n | _ => Stop
def gBool (x : AV) (k : Bool → Prop) : Prop := match x with | .val (.bool b) => k b | _ => Stop
def gList (x : AV) (k : List (List AV) → Prop) : Prop :=
  match x with | .list _ xs => k xs | .val (.slice none 0 0) => k [] | _ => Stop

def aInt (op : BinOp) (k : IntKind) (a b : Int) (K : Value → Prop) : Prop :=
  match op with
  | .add => K (.int k (k.wrap (a + b)))
  | .sub => K (.int k (k.wrap (a - b)))
  | .mul => K (.int k (k.wrap (a * b)))
  | .quo => Need (b ≠ 0) (K (.int k (k.wrap (a.tdiv b))))
  | .rem => Need (b ≠ 0) (K (.int k (a.tmod b)))
  | .and => K (.int k (k.wrap ((BitVec.ofInt k.bits a) &&& (BitVec.ofInt k.bits b)).toNat))
  | .or => K (.int k (k.wrap ((BitVec.ofInt k.bits a) ||| (BitVec.ofInt k.bits b)).toNat))
  | .xor => K (.int k (k.wrap ((BitVec.ofInt k.bits a) ^^^ (BitVec.ofInt k.bits b)).toNat))
  | .eql => K (.bool (a == b))
  | .neq => K (.bool (a != b))
  | .lss => K (.bool (a < b))
  | .leq => K (.bool (a ≤ b))
  | .gtr => K (.bool (b < a))
  | .geq => K (.bool (b ≤ a))
  | _ => Stop

def aStr (op : BinOp) (a b : Str) (K : AV → Prop) : Prop :=
  match op with
  | .add => Need (a.length + b.length ≤ 1099511627776) (K (.str (a ++ b)))
  | .eql => K (.val (.bool (a == b)))
  | .neq => K (.val (.bool (!(a == b))))
  | .lss => K (.val (.bool (Op.bytesLess a b)))
  | .geq => K (.val (.bool (!(Op.bytesLess a b))))
  | .gtr => K (.val (.bool (!(Op.bytesLess a b || a == b))))
  | .leq => K (.val (.bool ((Op.bytesLess a b || a == b))))
  | _ => Stop

def aBool (op : BinOp) (a b : Bool) (K : Value → Prop) : Prop :=
  match op with
  | .eql => K (.bool (a == b))
  | .neq => K (.bool (!(a == b)))
  | _ => Stop

def aBin (op : BinOp) (x y : AV) (K : AV → Prop) : Prop :=
  match x with
  | .val (.int k a) => match y with
    | .val (.int k' b) => match op with
      | .shl => Need (0 ≤ b) (K (.val (.int k (k.wrap (a * 2 ^ (min b.toNat k.bits))))))
      | .shr => Need (0 ≤ b) (K (.val (.int k (a.fdiv (2 ^ (min b.toNat k.bits))))))
      | op => Need (k' = k) (aInt op k a b fun v => K (.val v))
    | _ => Stop
  | .str a => match y with | .str b => aStr op a b K | _ => Stop
  | _ => Stop

def ptrCells (b : List ABox) (x : AV) (k : List AV → Prop) : Prop :=
  match x with
  | .rptr cs => k cs
  | .bptr j off => match b[j]? with | some (.cells cs) => k (cs.drop off) | _ => Stop
  | _ => Stop

def takeAV (agg : Bool) (n : Nat) (cs : List AV) (k : AV → Prop) : Prop :=
  match agg with
  | true => Need (n ≤ cs.length) (k (.agg (cs.take n)))
  | false => match cs with | c :: _ => k c | [] => Stop

def gStr (x : AV) (k : Str → Prop) : Prop := match x with | .str s => k s | _ => Stop
def lenK (isS : Bool) (x : AV) (k : Nat → Prop) : Prop := match isS with | true => gStr x fun s => k s.length | false => gList x fun xs => k xs.length

/-- the length, of a made slice too -/
def lenK' (isS : Bool) (x : AV) (k : Nat → Prop) : Prop :=
  match isS with
  | true => gStr x fun s => k s.length
  | false => match x with | .bsl _ n => k n | .list _ xs => k xs.length | .val (.slice none 0 0) => k 0 | _ => Stop

def bound (gd : Bool) (e : Env) (x : Option Operand) (d : Nat) (k : Int → Prop) : Prop :=
  match x with | none => k d | some x => evG gd e x fun x => gInt x fun _ n => k n

/-- an element of a slice: its cells are named by whoever proves it -/
inductive Ix (gd : Bool) (xs : List (List AV)) (i : Int) (sz : Nat) (k : List AV → Prop) : Prop
  | mk (c : List AV) (h : gd = true → 0 ≤ i ∧ xs[i.toNat]? = some c ∧ c.length = sz) (hk : k c) : Ix gd xs i sz k
/-- a part of a slice, likewise -/
inductive Cut (gd : Bool) (xs : List (List AV)) (lo hi : Int) (sz : Nat) (k : List (List AV) → Prop) : Prop
  | mk (ys : List (List AV)) (h : gd = true → 0 ≤ lo ∧ lo ≤ hi ∧ hi ≤ xs.length ∧ (∀ c ∈ xs, c.length = sz) ∧ (xs.take hi.toNat).drop lo.toNat = ys) (hk : k ys) : Cut gd xs lo hi sz k

def sliceK (isS gd : Bool) (sz : Nat) (x : AV) (lo hi : Int) (k : AV → Prop) : Prop :=
  match isS with
  | true => gStr x fun s => Need (gd = true → 0 ≤ lo ∧ lo ≤ hi ∧ hi ≤ s.length) (k (.str ((s.take hi.toNat).drop lo.toNat)))
  | false => gList x fun xs => Cut gd xs lo hi sz fun ys => k (.list none ys)

def fadrK (off : Nat) (x : AV) (k : AV → Prop) : Prop :=
  match x with
  | .rptr cs => k (.rptr (cs.drop off))
  | .bptr j o => k (.bptr j (o + off))
  | _ => Stop

def byteCell (b : UInt8) : List AV := [.val (.int .u8 b.toNat)]
/-- the bytes of a slice: named by whoever proves it -/
inductive Bytes (xs : List (List AV)) (k : List UInt8 → Prop) : Prop | mk (l : List UInt8) (h : xs = l.map byteCell) (hk : k l) : Bytes xs k

/-- operations that leave the state alone -/
def aVal (op : AOp) (gd : Bool) (e : Env) (b : List ABox) (k : AV → Prop) : Prop :=
  match op with
  | .mv x => evG gd e x k
  | .and c a => evG gd e c fun c => gBool c fun c => evG (gd && c) e a fun a => gBool a fun a => k (.val (.bool (c && a)))
  | .or c a => evG gd e c fun c => gBool c fun c => evG (gd && !c) e a fun a => gBool a fun a => k (.val (.bool (c || a)))
  | .bin op x y => evG gd e x fun x => evG gd e y fun y => aBin op x y k
  | .binb op x y => evG gd e x fun x => evG gd e y fun y => gBool x fun x => gBool y fun y => aBool op x y fun v => k (.val v)
  | .not x => evG gd e x fun x => gBool x fun x => k (.val (.bool !x))
  | .conv kd x => evG gd e x fun x => gInt x fun _ n => k (.val (.int kd (kd.wrap n)))
  | .b2s x => evG gd e x fun x => gList x fun xs => Bytes xs fun l => k (.str l)
  | .load agg n x => evG gd e x fun x => ptrCells b x fun cs => takeAV agg n cs k
  | .fadr off x => evG gd e x fun x => fadrK off x k
  | .field agg off n x => evG gd e x fun x => match x with
    | .agg cs => takeAV agg n (cs.drop off) k
    | _ => Stop
  | .iadr sz x i => evG gd e x fun x => evG gd e i fun i => match x with
    | .bsl j n => gInt i fun _ i => Need (gd = true → 0 ≤ i ∧ i < n) (k (.bptr j (i.toNat * sz)))
    | .list _ xs => gInt i fun _ i => Ix gd xs i sz fun c => k (.rptr c)
    | _ => Stop
  | .index x i => evG gd e x fun x => evG gd e i fun i => gInt i fun _ i => gStr x fun s =>
      Need (gd = true → 0 ≤ i ∧ i < s.length) (k (.val (.int .u8 (s.getD i.toNat 0).toNat)))
  | .slice s sz x lo hi => evG gd e x fun x => lenK s x fun n => bound gd e lo 0 fun lo => bound gd e hi n fun hi => sliceK s gd sz x lo hi k
  | .extract x i => evG gd e x fun x => match x with | .tup vs => (match vs[i]? with | some v => k v | none => Stop) | _ => Stop
  | .len s x => evG gd e x fun x => lenK' s x fun n => k (.val (.int .i64 n))
  | _ => Stop

/-- the cells of a made slice -/
def madeK (z : List Value) (n : Nat) : List AV := (List.range n).map fun i => constAV (z.getD (i % z.length) undef)

def setAt {α : Type} (cs : List α) (off : Nat) : List α → List α
  | [] => cs
  | x :: xs => setAt (cs.set off x) (off + 1) xs

def fillAt {α : Type} (cs : List α) : List Nat → List (List α) → List α
  | o :: os, x :: xs => fillAt (setAt cs o x) os xs
  | _, _ => cs

/-- the cells that a value takes in memory, where that is known -/
def cellsK (x : AV) (k : List AV → Prop) : Prop :=
  match x with
  | .agg cs => k cs
  | .list o xs => k [.list o xs]
  | .str s => k [.str s]
  | .val (.agg vs) => Need (vs.all (·.oneCell') = true) (k (vs.toList.map constAV))
  | .val (.tuple _) => Stop
  | .val v => k [.val v]
  | _ => Stop

def cellsKs : List AV → (List (List AV) → Prop) → Prop
  | [], k => k []
  | x :: xs, k => cellsK x fun c => cellsKs xs fun cs => k (c :: cs)

mutual
def mapT (f : Nat → Option Nat) : AV → AV
  | .list o xs => .list (o.bind f) (mapTLL f xs)
  | .agg cs => .agg (mapTL f cs)
  | .tup vs => .tup (mapTL f vs)
  | .rptr cs => .rptr (mapTL f cs)
  | .bptr _ _ => .any
  | .bsl _ _ => .any
  | .cond _ _ => .any
  | .any => .any
  | .val v => .val v
  | .str s => .str s
def mapTL (f : Nat → Option Nat) : List AV → List AV
  | [] => []
  | c :: cs => mapT f c :: mapTL f cs
def mapTLL (f : Nat → Option Nat) : List (List AV) → List (List AV)
  | [] => []
  | c :: cs => mapTL f c :: mapTLL f cs
end
def erase (x : AV) : AV := mapT (fun _ => none) x
/-! to work a state out, before it is carried on -/
def forceK (x : AV) (k : AV → Prop) : Prop :=
  match x with
  | .any => k .any
  | .val v => k (.val v)
  | .str s => k (.str s)
  | .list o xs => (match o with | none => k (.list none xs) | some j => k (.list (some j) xs))
  | .agg cs => k (.agg cs)
  | .tup vs => k (.tup vs)
  | .bptr j off => k (.bptr j off)
  | .bsl j n => k (.bsl j n)
  | .rptr cs => k (.rptr cs)
  | .cond g x => k (.cond g x)
def forceEnv : Env → List Nat → (Env → Prop) → Prop
  | _, [], k => k []
  | e, i :: K, k => forceK (look e i) fun x => forceEnv e K fun e' => k ((i, x) :: e')
def forceCells : List AV → (List AV → Prop) → Prop
  | [], k => k []
  | c :: cs, k => forceK c fun c => forceCells cs fun cs => k (c :: cs)
def forceBx : List ABox → (List ABox → Prop) → Prop
  | [], k => k []
  | .cells cs :: r, k => forceCells cs fun cs => forceBx r fun r => k (.cells cs :: r)
  | .iter s p :: r, k => forceBx r fun r => k (.iter s p :: r)

def noTok (_ : Nat) : Option Nat := none
/-- what a callee may know of an argument -/
def eraseK (x : AV) (k : AV → Prop) : Prop :=
  match x with
  | .any => k .any
  | .val v => k (.val v)
  | .str s => k (.str s)
  | .list _ xs => k (.list none (mapTLL noTok xs))
  | .agg cs => k (.agg (mapTL noTok cs))
  | .tup vs => k (.tup (mapTL noTok vs))
  | .bptr _ _ => k .any
  | .bsl _ _ => k .any
  | .rptr cs => k (.rptr (mapTL noTok cs))
  | .cond _ _ => k .any
def erases : List AV → (List AV → Prop) → Prop
  | [], k => k []
  | x :: xs, k => eraseK x fun y => erases xs fun ys => k (y :: ys)
def shift (n : Nat) (x : AV) : AV := mapT (fun k => some (k + n)) x

section
variable (R : Nat → List AV → AV → Fr → Prop) (K : List Nat)

/-- a call: what it hands back is named by whoever proves it -/
inductive ACall (f : Nat) (vs : List AV) (gd : Bool) (k : AV → Fr → Prop) : Prop
  | mk (r : AV) (frs : Fr) (h : gd = true → R f vs r frs) (hk : k r frs) : ACall f vs gd k

/-- where a call hands back a plain value and nothing of its own -/
def isScal (x : AV) : Bool := match x with | .val _ => true | .str _ => true | _ => false
def valsK (r : AV) (frs : Fr) (k : AV → Prop) : Prop :=
  match frs with
  | [] => match r with
    | .val v => k (.val v)
    | .str s => k (.str s)
    | .tup vs => match vs.all isScal with
      | true => k (.tup vs)
      | false => Stop
    | _ => Stop
  | _ => Stop

/-- operations of a region that draws its order, or under a guard -/
def aQuiet (op : AOp) (gd : Bool) (e : Env) (b : List ABox) (k : AV → Prop) : Prop :=
  match op with
  | .call g args => evs gd e args fun vs => erases vs fun vs => ACall R g vs gd fun r frs => valsK r frs k
  | op => aVal op gd e b k

def aOp (op : AOp) (e : Env) (b : List ABox) (f : Fr) (k : AV → List ABox → Fr → Prop) : Prop :=
  match op with
  | .mv x => k (ev e x) b f
  | .box x => evG true e x fun x => cellsK x fun cs => k (.bptr b.length 0) (b ++ [.cells cs]) f
  | .alloc z => k (.bptr b.length 0) (b ++ [.cells (z.map constAV)]) f
  | .make z sz bytes l => evG true e l fun l => gInt l fun _ n => Need (0 ≤ n ∧ (bytes : Int) * n ≤ 281474976710656 ∧ n ≤ 1099511627776)
      (k (.bsl b.length n.toNat) (b ++ [.cells (madeK z (n.toNat * sz))]) f)
  | .build z pl ps => evs true e ps fun vs => cellsKs vs fun cs => Need (cs.map List.length = pl.map (·.2)) (k (.agg (fillAt (z.map constAV) (pl.map (·.1)) cs)) b f)
  | .bslice t sz own ps => evs true e ps fun vs => cellsKs vs fun cs => Need (cs.all (fun c => c.length == sz) = true)
      (match own with
        | true => k (.list (some f.length) cs) b (f ++ [(t, sz, cs.length)])
        | false => k (.list none cs) b f)
  | .append t sz bytes x y => evG true e x fun x => evG true e y fun y => gList y fun ys => match x with
    | .list (some j) xs => (match f[j]? with
      | some (t', sz', n) => Need (t' = t) (Need (sz' = sz) (Need (n = xs.length) (Need (∀ c ∈ ys, c.length = sz) (Need ((xs.length + ys.length) * bytes ≤ 140737488355328 ∧ xs.length + ys.length ≤ 1099511627776)
        (k (.list (some j) (xs ++ ys)) b (f.set j (t, sz, xs.length + ys.length)))))))
      | none => Stop)
    | .val (.slice none 0 0) => Need (∀ c ∈ ys, c.length = sz) (Need (ys.length * bytes ≤ 140737488355328 ∧ ys.length ≤ 1099511627776) (k (.list (some f.length) ys) b (f ++ [(t, sz, ys.length)])))
    | _ => Stop
  | .store n p x => evG true e p fun p => evG true e x fun x => cellsK x fun cs => match p with
    | .bptr j off => match b[j]? with
      | some (.cells old) => Need (cs.length = n ∧ off + n ≤ old.length) (k (.val (.tuple #[])) (b.set j (.cells (setAt old off cs))) f)
      | _ => Stop
    | _ => Stop
  | .range x => evG true e x fun x => match x with
    | .str s => k (.bptr b.length 0) (b ++ [.iter s 0]) f
    | _ => Stop
  | .next x => evG true e x fun x => match x with
    | .bptr j 0 => match b[j]? with
      | some (.iter s pos) => Fork (decide (pos < s.length))
          (k (.tup [.val (.bool true), .val (.int .i64 pos), .val (.int .i32 (decodeS s pos).1)]) (b.set j (.iter s (pos + (decodeS s pos).2))) f)
          (k (.tup [.val (.bool false)]) b f)
      | _ => Stop
    | _ => Stop
  | .call g args => evs true e args fun vs => erases vs fun vs => ACall R g vs true fun r frs => k (shift f.length r) b (f ++ frs)
  | op => aVal op true e b fun v => k v b f

def guardOf (want : Bool) (x : AV) (k : Bool → Prop) : Prop :=
  match x with
  | .val (.bool b) => (match want with | true => k b | false => k (!b))
  | .cond g (.val (.bool b)) => (match want with | true => k (g && b) | false => k (g && !b))
  | _ => Stop

def aOps (k : Env → List ABox → Fr → Prop) : List AO → Env → List ABox → Fr → Prop
  | [], e, b, f => k e b f
  | o :: rest, e, b, f =>
    match o.guard with
    | none => aOp R o.op e b f fun v b' f' => aOps k rest (put e o.dst v) b' f'
    | some g => guardOf g.2 (look e g.1) fun gd => aQuiet R o.op gd e b fun v => aOps k rest (put e o.dst (.cond gd v)) b f

def aDraw (k : Env → Prop) (b : List ABox) : List AO → Env → Prop
  | [], e => k e
  | o :: rest, e =>
    match o.guard with
    | none => (match o.op with
      | .mv x => aDraw k b rest (put e o.dst (ev e x))
      | op => aQuiet R op true e b fun v => aDraw k b rest (put e o.dst v))
    | some g => guardOf g.2 (look e g.1) fun gd => aQuiet R o.op gd e b fun v => aDraw k b rest (put e o.dst (.cond gd v))

def agrees (e : Env) : Env → Prop
  | [] => True
  | (i, x) :: t => look e i = x ∧ agrees e t

def ptrsIn (n : Nat) : Env → Prop
  | [] => True
  | (_, .bptr j _) :: t => j < n ∧ ptrsIn n t
  | (_, .bsl j _) :: t => j < n ∧ ptrsIn n t
  | (_, .cond _ x) :: t => (match x with | .bptr _ _ => False | .bsl _ _ => False | .cond _ _ => False | _ => True) ∧ ptrsIn n t
  | _ :: t => ptrsIn n t

/-- state t says no more than state s -/
structure Weak (s t : St) : Prop where
  env : agrees s.env t.env
  bx : s.bx.take t.bx.length = t.bx
  fr : s.fr = t.fr
  ptrs : ptrsIn t.bx.length t.env

inductive ALoop (body : St → (Exit → St → Prop) → Prop) (Q : Exit → St → Prop) (s : St) : Prop
  | mk (α : Type) (I : α → St) (C : α → Prop) (μ : α → Nat) (h0 : ∃ a, C a ∧ Weak s (I a))
      (h : ∀ a, C a → body (I a) fun e s' => match e with | .normal => Round (∃ a', C a' ∧ Weak s' (I a') ∧ μ a' < μ a) | e => Q e s') : ALoop body Q s

def seqK (next : St → Prop) (Q : Exit → St → Prop) (e : Exit) (s : St) : Prop := match e with | .normal => next s | e => Q e s
def blockK (id : Nat) (Q : Exit → St → Prop) (e : Exit) (s : St) : Prop := match e with | .exit id' => if id' = id then Q .normal s else Q (.exit id') s | e => Q e s

def aCode : ACode → (Exit → St → Prop) → St → Prop
  | .skip, Q, s => Q .normal s
  | .region d ops, Q, s => match s with
    | ⟨e, b, f⟩ => match d with
      | false => aOps R (fun e b f => Q .normal ⟨e, b, f⟩) ops e b f
      | true => aDraw R (fun e => Q .normal ⟨e, b, f⟩) b ops e
  | .seq a b, Q, s => aCode a (seqK (aCode b Q) Q) s
  | .cond c x y, Q, s => match s with
    | ⟨e, b, f⟩ => evG true e c fun c => gBool c fun v => forceEnv e K fun e => forceBx b fun b => Fork v (aCode x Q ⟨e, b, f⟩) (aCode y Q ⟨e, b, f⟩)
  | .block id body, Q, s => aCode body (blockK id Q) s
  | .loop body, Q, s => ALoop (fun s Q => aCode body Q s) Q s
  | .exit id, Q, s => Q (.exit id) s
  | .ret, Q, s => Q .ret s
  | .other, _, _ => Stop
end
end Abs
end Go.Proofs.Ytnpjjbolonbndaa
