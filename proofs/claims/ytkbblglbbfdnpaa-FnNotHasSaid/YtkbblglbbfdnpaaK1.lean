/-
  Abstract values for Go code that works on numbers, strings, immutable slices and boxed structs, and an evaluator of such code: definitions alone.
  A state says of slots, of the call's own variables (boxes) and of the slices that it appends to (fr) what they hold; 'aCode c Q s' is what has to be shown.
  What abstract values say of Go's values in a world ('Rep'), and that they go on saying it while memory grows.
  Data as trees; trees as abstract values, as boxes, and as what a call owns in a world.
  What a callee may know of a value: tokens are taken off, boxes are seen as trees.
  The evaluator: what has to be shown of code.
-/
import Derived.Test.YtkbblglbbfdnpaaProg
import Derived.KernelRfl
import Derived.WalkKit
import Derived.Deep.Quiet
import Derived.StillTail
import Derived.MapKept
import Derived.Laws.StructEq
namespace Go.Proofs.Ytkbblglbbfdnpaa
namespace Abs

abbrev Str := List UInt8
def mkS (l : Str) : Value := .string ⟨l.toArray⟩

inductive AV where
  | any
  | val (v : Value)
  | str (s : Str)
  | list (o : Option Nat) (xs : List (List AV))
  | agg (cs : List AV)
  | tup (vs : List AV)
  | bptr (j off : Nat)
  | bsl (j n : Nat)
  | rptr (cs : List AV)
  | clo (f : Nat) (first caps : List AV)
  | bmap (j : Nat)
  /-- this very value, and what is known of it -/
  | tag (v : Value) (x : AV)
  | cond (g : Bool) (x : AV)

/-- numbers, truth values, texts, as keys and values of maps: their kinds, and they themselves -/
inductive MK where
  | kInt (k : IntKind)
  | kBool
  | kStr
inductive MA where
  | aInt (k : IntKind) (n : Int)
  | aBool (x : Bool)
  | aStr (x : Str)
def MA.val : MA → Value
  | .aInt k n => .int k n
  | .aBool x => .bool x
  | .aStr x => mkS x
def MA.kind : MA → MK
  | .aInt k _ => .kInt k
  | .aBool _ => .kBool
  | .aStr _ => .kStr
def MK.desc : MK → TypeDesc
  | .kInt k => .int k
  | .kBool => .bool
  | .kStr => .string
def MK.zero : MK → MA
  | .kInt k => .aInt k 0
  | .kBool => .aBool false
  | .kStr => .aStr []
def MA.dec : (x y : MA) → Decidable (x = y)
  | .aInt k n, .aInt l m => if h : k = l ∧ n = m then isTrue (by rw [h.1, h.2]) else isFalse (fun e => by cases e; exact h ⟨rfl, rfl⟩)
  | .aBool x, .aBool y => if h : x = y then isTrue (by rw [h]) else isFalse (fun e => by cases e; exact h rfl)
  | .aStr x, .aStr y => if h : x = y then isTrue (by rw [h]) else isFalse (fun e => by cases e; exact h rfl)
  | .aInt _ _, .aBool _ => isFalse (fun e => by cases e)
  | .aInt _ _, .aStr _ => isFalse (fun e => by cases e)
  | .aBool _, .aInt _ _ => isFalse (fun e => by cases e)
  | .aBool _, .aStr _ => isFalse (fun e => by cases e)
  | .aStr _, .aInt _ _ => isFalse (fun e => by cases e)
  | .aStr _, .aBool _ => isFalse (fun e => by cases e)
instance : DecidableEq MA := MA.dec

/-- a variable, or the row of a slice: element type, cells of an element -/
inductive RK where
  | var
  | row (t sz : Nat)
inductive ABox where
  | cells (k : RK) (cs : List AV)
  | iter (s : Str) (pos : Nat)
  /-- a map of texts, as its entries lie -/
  | map (m : List (Str × Str))
  /-- a map of other kinds -/
  | vmap (kk vk : MK) (m : List (MA × MA))
  | dead

abbrev Env := List (Nat × AV)
/-- element type, cells of an element, length -/
abbrev Fr := List (Nat × Nat × Nat)
structure St where
  env : Env
  bx : List ABox
  fr : Fr

def look : Env → Nat → AV
  | [], _ => .any
  | (j, x) :: e, i => if i = j then x else look e i

def put (e : Env) (d : Option Nat) (x : AV) : Env := match d with | some d => (d, x) :: e | none => e

def norm (e : Env) : List Nat → Env
  | [] => []
  | i :: K => (i, look e i) :: norm e K

inductive AOp where
  | mv (x : Operand)
  | and (c a : Operand)
  | or (c a : Operand)
  | bin (op : BinOp) (x y : Operand)
  | binb (op : BinOp) (x y : Operand)
  | not (x : Operand)
  | neg (x : Operand)
  | nilq (ne : Bool) (x : Operand)
  | conv (k : IntKind) (x : Operand)
  | b2s (x : Operand)
  | box (x : Operand)
  | alloc (zero : List Value)
  | build (zero : List Value) (places : List (Nat × Nat)) (parts : List Operand)
  | bslice (e sz : Nat) (own : Bool) (parts : List Operand)
  | make (t : Nat) (zero : List Value) (sz bytes : Nat) (x : Operand)
  | load (agg : Bool) (size : Nat) (x : Operand)
  | store (size : Nat) (a x : Operand)
  | fadr (off : Nat) (x : Operand)
  | field (agg : Bool) (off size : Nat) (x : Operand)
  | iadr (sz : Nat) (x i : Operand)
  | index (x i : Operand)
  | slice (isS : Bool) (sz : Nat) (x : Operand) (lo hi : Option Operand)
  | extract (x : Operand) (i : Nat)
  | len (isS : Bool) (x : Operand)
  | append (e sz bytes : Nat) (x y : Operand)
  | call (f : Nat) (args : List Operand)
  | callv (f : Operand) (args : List Operand)
  | clo (f : Nat) (first caps : List Operand)
  | range (x : Operand)
  | next (x : Operand)
  | mmap
  | lookup (ok : Bool) (x k : Operand)
  | mput (x k v : Operand)
  | mlen (x : Operand)
  | vmap (kk vk : MK)
  | vlook (ok : Bool) (kk vk : MK) (x k : Operand)
  | vput (kk vk : MK) (x k v : Operand)
  | mm (mx : Bool) (x y : Operand)
  | eqs (ne : Bool) (kinds : List Nat) (x y : Operand)
  | other

structure AO where
  dst : Option Nat
  guard : Option (Nat × Bool)
  op : AOp

/-- orders: an operation that may come next, what follows it, and the other ones that may come next -/
inductive HT where
  | fin
  | none
  | alt (o : AO) (r t : HT)
inductive IT where
  | fin
  | none
  | alt (i : Nat) (r t : IT)

inductive ACode where
  | skip
  | region (draw : Bool) (ops : List AO)
  | held (ops tail : List AO)
  | heldT (lend : Bool) (D : List Nat) (t : HT) (tail : List AO)
  | seq (a b : ACode)
  | cond (c : Operand) (x y : ACode)
  | block (id : Nat) (body : ACode)
  | loop (body : ACode)
  | exit (id : Nat)
  | ret
  | other

def arg (l : List Operand) (i : Nat) : Operand := l.getD i (.func 0)

def structOff (P : Program) (t : TypeId) (i : Nat) : Option Field :=
  match P.underlying t with | some (.struct fs) => fs[i]? | _ => none

/-- the fields' places and sizes, and the zero -/
def structPlaces (P : Program) (t : TypeId) : Option (List (Nat × Nat) × Value) :=
  match P.info? t, P.underlying t with
  | some it, some (.struct fields) =>
    match it.zero, fields.toList.mapM (fun f => (P.info? f.type).map fun i => (f.offset, i.size)) with
    | some z, some places => some (places, z)
    | _, _ => none
  | _, _ => none

def elemTy (P : Program) (t : TypeId) : TypeId := match P.underlying t with | some (.slice e) => e | _ => 0
def bytesOf (P : Program) (t : TypeId) : Nat := match P.info? t with | some i => i.bytes | _ => 0
def aggTy (P : Program) (t : TypeId) : Bool := match P.underlying t with | some (.struct _) => true | some (.array ..) => true | _ => false
def zeroOf (P : Program) (t : TypeId) : Option Value := match P.info? t with | some i => i.zero | _ => none
/-- the type is known, and so are its cells -/
def okTy (P : Program) (t : TypeId) : Bool := (P.underlying t).isSome && (P.info? t).isSome
/-- a map of texts -/
def strMap (P : Program) (t : TypeId) : Bool := match P.underlying t with | some (.map k e) => (match P.underlying k, P.underlying e, zeroOf P e with | some .string, some .string, some (.string s) => s.data.toList.isEmpty | _, _, _ => false) | _ => false
def mkOf (P : Program) (t : TypeId) : Option MK := match P.underlying t with | some .string => some .kStr | some .bool => some .kBool | some (.int k) => some (.kInt k) | _ => none
def zeroIs (P : Program) (t : TypeId) (k : MK) : Bool := match k with
  | .kInt k => (match zeroOf P t with | some (.int k' n) => decide (k' = k) && decide (n = 0) | _ => false)
  | .kBool => (match zeroOf P t with | some (.bool x) => !x | _ => false)
  | .kStr => (match zeroOf P t with | some (.string s) => s.data.toList.isEmpty | _ => false)
/-- a map of other kinds: those of keys and values -/
def mapKinds (P : Program) (t : TypeId) : Option (MK × MK) := match P.underlying t with
  | some (.map k e) => (match mkOf P k with
    | some a => (match mkOf P e with | some b => if zeroIs P e b then some (a, b) else none | none => none)
    | none => none)
  | _ => none
def isInt (P : Program) (t : TypeId) : Option IntKind := match P.underlying t with | some (.int k) => some k | _ => none
/-- a slice type whose element type has a zero of its own size, more than no cell -/
def goodElem (P : Program) (t : TypeId) : Bool :=
  match P.underlying t with
  | some (.slice e) => match P.info? e with
    | some i => match i.zero with
      | some z => z.cells.size == i.size && decide (0 < i.size) && decide (i.size ≤ 64)
      | none => false
    | none => false
  | _ => false

def zeroCells (P : Program) (t : TypeId) : List Value := match zeroOf P t with | some z => z.cells.toList | none => []
def zeroOne (P : Program) (t : TypeId) : Bool := match zeroOf P t with | some z => z.cells.all (·.oneCell') | none => false
def sameTmp (x y : Operand) : Bool := match x, y with | .tmp i, .tmp j => i == j | _, _ => false

/-- is slot d of a region only the source of an append -/
def toAppend (ops : List Oper) (d : Option Nat) : Bool :=
  ops.any fun o => match o.op with
    | .call c => match c.callee with
      | .builtin .append => match arg c.args.toList 1, d with | .tmp t, some d => t == d | _, _ => false
      | _ => false
    | _ => false

/-- the fields of a flat struct, one cell each: texts (0), numbers (1), truth values (2) -/
def kindsOf (P : Program) : Nat → List Field → Option (List Nat)
  | _, [] => some []
  | o, f :: fs => if f.name != "_" && f.offset == o then (match P.underlying f.type with
    | some .string => (kindsOf P (o + 1) fs).map (0 :: ·)
    | some (.int _) => (kindsOf P (o + 1) fs).map (1 :: ·)
    | some .bool => (kindsOf P (o + 1) fs).map (2 :: ·)
    | _ => none) else none
def flatKinds (P : Program) (t : TypeId) : Option (List Nat) := if P.stoodInHeld t || P.eqGuardType P.depth t then none else kindsOf P 0 (P.fieldsOf t).toList
def cOp (P : Program) (ops : List Oper) (o : Oper) : AOp :=
  match o.op with
  | .move x => .mv x
  | .assign x => .mv x
  | .pick c a b => match b with
    | .const (.bool false) => .and c a
    | _ => match a with
      | .const (.bool true) => .or c b
      | _ => .other
  | .binOp op t x y _ => match P.underlying t with
    | some .bool => .binb op x y
    | some (.slice _) => (match y with
      | .const (.slice none 0 0) => (match op with | .eql => .nilq false x | .neq => .nilq true x | _ => .other)
      | _ => .other)
    | some (.struct _) => (match flatKinds P t with
      | some ks => (match op with | .eql => .eqs false ks x y | .neq => .eqs true ks x y | _ => .other)
      | none => .other)
    | _ => .bin op x y
  | .unOp op _ x => match op with | .not => .not x | .neg => .neg x | _ => .other
  | .convert src dst x => match isInt P src, isInt P dst with
    | some _, some k => .conv k x
    | _, _ => match P.underlying src, P.underlying dst with
      | some (.slice e), some .string => match isInt P e with | some .u8 => .b2s x | _ => .other
      | _, _ => .other
  | .box _ x => .box x
  | .alloc t => match zeroOf P t with | some z => if z.cells.all (·.oneCell') then .alloc z.cells.toList else .other | none => .other
  | .build t ps => match structPlaces P t with
    | some (places, z) => if z.cells.all (·.oneCell') && ps.toList.all (fun p => match places[p.1]? with | some q => decide (q.1 + q.2 ≤ z.cells.size) | none => false) then
        .build z.cells.toList (ps.toList.map fun p => places.getD p.1 (0, 0)) (ps.toList.map (·.2)) else .other
    | none => .other
  | .buildSlice t n ps => if goodElem P t && decide (n ≤ 64) && ps.toList.map (·.1) == List.range n then .bslice (elemTy P t) (P.cellsOf (elemTy P t)) (!toAppend ops o.dst) (ps.toList.map (·.2)) else .other
  | .makeSlice t l c => if goodElem P t && zeroOne P (elemTy P t) && sameTmp l c then .make (elemTy P t) (zeroCells P (elemTy P t)) (P.cellsOf (elemTy P t)) (bytesOf P (elemTy P t)) l else .other
  | .load t x => if okTy P t then .load (aggTy P t) (P.cellsOf t) x else .other
  | .store t a x => if okTy P t then .store (P.cellsOf t) a x else .other
  | .fieldAddr t x i => match structOff P t i with | some f => if P.cellsOf f.type = 0 then .other else .fadr f.offset x | none => .other
  | .nilCheck x => .fadr 0 x
  | .field t x i => match structOff P t i with | some f => if okTy P f.type then .field (aggTy P f.type) f.offset (P.cellsOf f.type) x else .other | none => .other
  | .indexAddr t x i => if goodElem P t then .iadr (P.cellsOf (elemTy P t)) x i else .other
  | .index t x i => match P.underlying t with | some .string => .index x i | _ => .other
  | .slice t x lo hi mx => match mx with
    | none => match P.underlying t with
      | some .string => .slice true 0 x lo hi
      | some (.slice _) => if okTy P (elemTy P t) then .slice false (P.cellsOf (elemTy P t)) x lo hi else .other
      | _ => .other
    | _ => .other
  | .extract x i => .extract x i
  | .range t x => match P.underlying t with | some .string => .range x | _ => .other
  | .next x s => if s then .next x else .other
  | .makeMap t r => (match r with | none => if strMap P t then .mmap else (match mapKinds P t with | some q => .vmap q.1 q.2 | none => .other) | some _ => .other)
  | .lookup t x k ok => if strMap P t then .lookup ok x k else (match mapKinds P t with | some q => .vlook ok q.1 q.2 x k | none => .other)
  | .mapUpdate t m k x => if strMap P t then .mput m k x else (match mapKinds P t with | some q => .vput q.1 q.2 m k x | none => .other)
  | .makeFunc fn first caps => match fn with
    | .func f => match P.funcs[f]? with
      | some fn => if fn.name == "runtime.NumGoroutine" || fn.body.isNone then .other else .clo f first.toList caps.toList
      | none => .other
    | _ => .other
  | .call c => match c.callee with
    | .builtin b => match b with
      | .len => match P.underlying (c.argTypes.getD 0 0) with
        | some .string => if c.args.size = 1 ∧ c.argTypes.size = 1 then .len true (arg c.args.toList 0) else .other
        | some (.slice _) => if c.args.size = 1 ∧ c.argTypes.size = 1 then .len false (arg c.args.toList 0) else .other
        | some (.map _ _) => if c.args.size = 1 ∧ c.argTypes.size = 1 then .mlen (arg c.args.toList 0) else .other
        | _ => .other
      | .append => if goodElem P (c.argTypes.getD 0 0) && c.argTypes.toList == [c.argTypes.getD 0 0, c.argTypes.getD 0 0] && c.args.size == 2 then
          .append (elemTy P (c.argTypes.getD 0 0)) (P.cellsOf (elemTy P (c.argTypes.getD 0 0))) (bytesOf P (elemTy P (c.argTypes.getD 0 0))) (arg c.args.toList 0) (arg c.args.toList 1)
        else .other
      | .max => if c.args.size = 2 then .mm true (arg c.args.toList 0) (arg c.args.toList 1) else .other
      | .min => if c.args.size = 2 then .mm false (arg c.args.toList 0) (arg c.args.toList 1) else .other
      | _ => .other
    | .value f => match f with
      | .func f => match P.funcs[f]? with
        | some fn => if fn.name == "runtime.NumGoroutine" || fn.body.isNone then .other else .call f c.args.toList
        | none => .other
      | .tmp t => .callv (.tmp t) c.args.toList
      | _ => .other
    | _ => .other
  | _ => .other

def dstAt (ops : List Oper) (j : Nat) : Nat := ((ops[j]?).bind (·.dst)).getD 0

def cOps (P : Program) (ops : List Oper) : List AO := ops.map fun o => ⟨o.dst, o.guard.map fun g => (dstAt ops g.1, g.2), cOp P ops o⟩

def guardsOk (ops : List Oper) : Bool := ops.all fun o => match o.guard with | some g => ((ops[g.1]?).bind (·.dst)).isSome | none => true

def dstsOk (n : Nat) (ops : List Oper) : Bool := ops.all fun o => match o.dst with | some d => decide (d < n) | none => true

/-! a region that draws its order: reads and arithmetic first, then one call after the other -/
def quietOp (o : Oper) : Bool :=
  match o.op with
  | .move _ => true
  | .assign _ => true
  | .pick .. => true
  | .binOp .. => true
  | .unOp .. => true
  | .convert .. => true
  | .load .. => true
  | .fieldAddr .. => true
  | .nilCheck _ => true
  | .field .. => true
  | .indexAddr .. => true
  | .index .. => true
  | .slice .. => true
  | .extract .. => true
  | .build .. => true
  | .call c => (match c.callee with | .builtin .len => true | _ => false)
  | _ => false
def quietIx (ops : Array Oper) (i : Nat) : Bool := match ops[i]? with | some o => quietOp o | none => false
/-- what looks at no memory -/
def pureOp (o : Oper) : Bool := match o.op with | .move _ => true | .assign _ => true | .extract .. => true | .build .. => true | _ => false
def pureIx (ops : Array Oper) (i : Nat) : Bool := match ops[i]? with | some o => pureOp o | none => false
/-- below z: which comes next; at the end number z is the only one that may come -/
def heldGo (ops : Array Oper) (z : Nat) : Nat → Bool → Array Bool → Option (List Nat)
  | 0, _, listed => if Region.ready .any ops listed == [z] then some [] else none
  | n + 1, fresh, listed =>
    match Region.ready .any ops listed with
    | [i] => if i < z then (match heldGo ops z n (fresh && quietIx ops i) (listed.setIfInBounds i true) with | some l => some (i :: l) | none => none) else none
    | rs => (match rs.find? (fun i => decide (i < z) && (fresh && quietIx ops i || pureIx ops i) && Region.free .any ops listed i) with
      | some i => (match heldGo ops z n fresh (listed.setIfInBounds i true) with | some l => some (i :: l) | none => none)
      | none => none)
/-- from z on one after the other -/
def tailB (ops : Array Oper) (z : Nat) : Bool :=
  (List.range ops.size).all fun t => decide (t < z) || (match ops[t]? with | some o => o.after.all fun e => !Region.binds .any e || decide (e.on < t) | none => false)
def nCalls (ops : Array Oper) : Nat := (ops.toList.filter fun o => match o.op with | .call c => (match c.callee with | .value _ => true | _ => false) | _ => false).length
def aoOf (P : Program) (ops : List Oper) (o : Oper) : AO := ⟨o.dst, o.guard.map fun g => (dstAt ops g.1, g.2), cOp P ops o⟩
def aoAt (P : Program) (ops : Array Oper) (i : Nat) : AO := match ops[i]? with | some o => aoOf P ops.toList o | none => ⟨none, none, .other⟩
def isStore (o : Oper) : Bool := match o.op with | .store .. => true | _ => false
/-- a call that hands back a slice or a struct -/
def bigCall (P : Program) (o : Oper) : Bool := match o.op with
  | .call c => (match c.callee with
    | .value (.func f) => (match P.funcs[f]? with | some fn => fn.resultTypes.any fun t => (match P.underlying t with | some (.slice _) => true | some (.struct _) => true | _ => false) | none => false)
    | _ => false)
  | _ => false
/-- what lays new memory, without a call -/
def isGrow (o : Oper) : Bool := match o.op with
  | .buildSlice .. => true
  | .call c => (match c.callee with | .builtin .append => true | _ => false)
  | _ => false
def heldZ (P : Program) (ops : Array Oper) : Option Nat :=
  if (decide (2 ≤ nCalls ops) || (decide (1 ≤ nCalls ops) && ops.toList.any isStore) || ops.toList.any (bigCall P) || ops.toList.any isGrow) && Region.noSelect ops then
    (List.range ops.size).find? fun z => Region.sinkB .any ops z && Region.chainB .any ops z && tailB ops z
  else none
def heldOrd (P : Program) (ops : Array Oper) : Option (Nat × List Nat) :=
  match heldZ P ops with
  | some z => (match heldGo ops z z true (Array.replicate ops.size false) with | some l => some (z, l) | none => none)
  | none => none
/-- what lays a box, and may come at any time -/
def boxOp (o : Oper) : Bool := match o.op with
  | .alloc .. => true
  | .box .. => true
  | .makeSlice .. => true
  | .store .. => true
  | _ => false
/-- below z, whichever order: what is quiet first, else each of those that may come next -/
def treeGo (ops : Array Oper) (z : Nat) : Nat → Bool → Array Bool → Option IT
  | 0, _, listed => if Region.ready .any ops listed == [z] then some .fin else none
  | n + 1, fresh, listed =>
    match (Region.ready .any ops listed).find? (fun i => decide (i < z) && (fresh && quietIx ops i || pureIx ops i) && Region.free .any ops listed i) with
    | some i => (match treeGo ops z n fresh (listed.setIfInBounds i true) with | some r => some (.alt i r .none) | none => none)
    | none => if (Region.ready .any ops listed).isEmpty || (Region.ready .any ops listed).any (fun i => decide (z ≤ i)) then none else
        (Region.ready .any ops listed).foldr (fun i acc => match treeGo ops z n (fresh && quietIx ops i) (listed.setIfInBounds i true), acc with | some r, some t => some (.alt i r t) | _, _ => none) (some .none)
def IT.map (f : Nat → AO) : IT → HT
  | .fin => .fin
  | .none => .none
  | .alt i r t => .alt (f i) (r.map f) (t.map f)
def treeZ (ops : Array Oper) : Option Nat :=
  if Region.noSelect ops then (List.range ops.size).find? fun z => Region.sinkB .any ops z && Region.chainB .any ops z && tailB ops z else none
def treeOrd (lend : Bool) (ops : Array Oper) : Option (Nat × IT) :=
  match treeZ ops with
  | some z => (match treeGo ops z z (!lend) (Array.replicate ops.size false) with | some t => some (z, t) | none => none)
  | none => none
def dsts (ops : List Oper) : List Nat := ops.filterMap (·.dst)
def cTree (P : Program) (lend : Bool) (ops : Array Oper) : ACode :=
  match treeOrd lend ops with
  | some zt => .heldT lend (dsts ops.toList) (zt.2.map (aoAt P ops)) (cOps P ops.toList |>.drop zt.1)
  | none => .other
/-- a store ahead of the tail -/
def headStore (ops : Array Oper) : Bool := match treeZ ops with
  | some z => (List.range z).any fun i => (match ops[i]? with | some o => isStore o | none => false)
  | none => false
/-- a call that is handed an address -/
def ptrCall (P : Program) (o : Oper) : Bool := match o.op with
  | .call c => (match c.callee with
    | .value (.func f) => (match P.funcs[f]? with | some fn => fn.params.any fun t => (match P.underlying t with | some (.pointer _) => true | _ => false) | none => false)
    | _ => false)
  | _ => false
def cDraw (P : Program) (ops : Array Oper) : ACode :=
  if ops.toList.any (ptrCall P) then cTree P true ops else
  match heldOrd P ops with
  | some zl => .held (zl.2.map (aoAt P ops)) (cOps P ops.toList |>.drop zl.1)
  | none => if Region.lexB .any ops && !ops.toList.any (fun o => boxOp o || decide (ops.size ≤ 12) && isGrow o) then .region true (cOps P ops.toList) else cTree P (headStore ops) ops

def cCode (P : Program) (n : Nat) : Code → ACode
  | .skip => .skip
  | .region _ ops d => if guardsOk ops.toList && dstsOk n ops.toList then
      (match d with
        | false => .region false (cOps P ops.toList)
        | true => if P.follows .mixedOrders then cDraw P ops else .other)
      else .other
  | .seq a b => .seq (cCode P n a) (cCode P n b)
  | .cond c x y => .cond c (cCode P n x) (cCode P n y)
  | .block id b => .block id (cCode P n b)
  | .loop b => .loop (cCode P n b)
  | .exit id => .exit id
  | .ret => .ret
  | _ => .other

end Abs
end Go.Proofs.Ytkbblglbbfdnpaa
namespace Go.Proofs.Ytkbblglbbfdnpaa
namespace Abs
open Go.RowKit

/-- The slice is the one whose length its token has: it owns its block. -/
def OwnerP (B : Nat) (w : World) (F : Nat → Nat) (tok : List (Option Nat)) (k t : Nat) (a : Option Addr) (n cap sz sz' : Nat) : Prop :=
  sz = sz' ∧ (∃ vals, w.ownsRow B t sz (.slice a n cap) n vals) ∧ tok[k]? = some (a.map (·.block)) ∧ (∀ b, a.map (·.block) = some b → F b = n * sz)

/-- where a box lies: a block and how many elements fit, or nil -/
inductive BId where
  | blk (b cap : Nat)
  | nil

inductive Rep (B : Nat) (w : World) (F : Nat → Nat) (tok : List (Option Nat)) (fr : Fr) : List BId → AV → Value → Prop
  | any {box : List BId} (v : Value) : Rep B w F tok fr box .any v
  | val {box : List BId} (v : Value) : Rep B w F tok fr box (.val v) v
  | str {box : List BId} (s : Str) : Rep B w F tok fr box (.str s) (mkS s)
  | list {box : List BId} (o : Option Nat) (xs : List (List AV)) (a : Option Addr) (cap sz b off : Nat) (vs : Nat → Nat → Value)
      (hcap : xs.length ≤ cap)
      (ha : xs ≠ [] → a = some ⟨b, off, none⟩)
      (hsz : ∀ e ∈ xs, e.length = sz)
      (hF : xs ≠ [] → off + xs.length * sz ≤ F b)
      (hc : ∀ i e j c, xs[i]? = some e → e[j]? = some c → w.cell? ⟨b, off + i * sz + j, none⟩ = some (vs i j) ∧ (vs i j).oneCell' = true)
      (hr : ∀ i e j c, xs[i]? = some e → e[j]? = some c → Rep B w F tok fr [] c (vs i j))
      (ho : ∀ k, o = some k → ∃ t s n : Nat, fr[k]? = some (t, s, n) ∧ xs.length ≤ n ∧ (xs.length = n → OwnerP B w F tok k t a xs.length cap s sz)) :
      Rep B w F tok fr box (.list o xs) (.slice a xs.length cap)
  | agg {box : List BId} (cs : List AV) (vs : Array Value) (h : cs.length = vs.size) (h1 : ∀ i, i < vs.size → (vs.getD i undef).oneCell' = true)
      (hr : ∀ i c, cs[i]? = some c → Rep B w F tok fr box c (vs.getD i undef)) : Rep B w F tok fr box (.agg cs) (.agg vs)
  | tup {box : List BId} (cs : List AV) (vs : Array Value) (h : cs.length = vs.size)
      (hr : ∀ i c, cs[i]? = some c → Rep B w F tok fr box c (vs.getD i undef)) : Rep B w F tok fr box (.tup cs) (.tuple vs)
  | rptr {box : List BId} (cs : List AV) (b off : Nat) (vs : Nat → Value)
      (hF : cs ≠ [] → off + cs.length ≤ F b)
      (hc : ∀ j c, cs[j]? = some c → w.cell? ⟨b, off + j, none⟩ = some (vs j) ∧ (vs j).oneCell' = true)
      (hr : ∀ j c, cs[j]? = some c → Rep B w F tok fr [] c (vs j)) : Rep B w F tok fr box (.rptr cs) (.pointer (some ⟨b, off, none⟩))
  | bptr {box : List BId} (j off b cap : Nat) (h : box[j]? = some (.blk b cap)) : Rep B w F tok fr box (.bptr j off) (.pointer (some ⟨b, off, none⟩))
  | bsl {box : List BId} (j n b cap : Nat) (h : box[j]? = some (.blk b cap)) (hn : n ≤ cap) : Rep B w F tok fr box (.bsl j n) (.slice (some ⟨b, 0, none⟩) n cap)
  | bnil {box : List BId} (j : Nat) (h : box[j]? = some .nil) : Rep B w F tok fr box (.bsl j 0) (.slice none 0 0)
  | clo {box : List BId} (f : Nat) (first caps : List AV) (vf vc : Array Value) (h1 : first.length = vf.size) (h2 : caps.length = vc.size)
      (hr1 : ∀ i c, first[i]? = some c → Rep B w F tok fr box c (vf.getD i undef)) (hr2 : ∀ i c, caps[i]? = some c → Rep B w F tok fr box c (vc.getD i undef)) :
      Rep B w F tok fr box (.clo f first caps) (.func (.func f) vf vc)
  | bmap {box : List BId} (j b cap : Nat) (h : box[j]? = some (.blk b cap)) : Rep B w F tok fr box (.bmap j) (.map (some b))
  | tag {box : List BId} (x : AV) (v : Value) (h : Rep B w F tok fr box x v) (h1 : v.oneCell' = true) : Rep B w F tok fr box (.tag v x) v

inductive RepT (B : Nat) (w : World) (F : Nat → Nat) (tok : List (Option Nat)) (fr : Fr) (box : List BId) : AV → Value → Prop
  | rep (x : AV) (v : Value) (h : Rep B w F tok fr box x v) : RepT B w F tok fr box x v
  | cond (g : Bool) (x : AV) (v : Value) (h : g = true → RepT B w F tok fr box x v) (hn : g = false → v = undef) : RepT B w F tok fr box (.cond g x) v

/-- tables of the library's: block and cells -/
def tabs : List (Nat × Array Value) := []
/-- They are as they were laid, and no box lies there. -/
def CondB (w : World) (box : List BId) : Prop := ∀ p ∈ tabs, (∃ t m, w.heap[p.1]? = some (.cells p.2 t m)) ∧ ∀ (j c : Nat), box[j]? ≠ some (.blk p.1 c)
theorem CondB.sub {w : World} {box box' : List BId} (h : CondB w box) (hs : ∀ (j b c : Nat), box'[j]? = some (.blk b c) → ∃ i : Nat, box[i]? = some (.blk b c)) : CondB w box' :=
  fun p hp => ⟨(h p hp).1, fun j c hj => by obtain ⟨i, hi⟩ := hs j _ c hj; exact (h p hp).2 i c hi⟩
theorem CondB.none {w : World} {box : List BId} (h : CondB w box) : CondB w [] := h.sub (fun j b c hj => by simp at hj)

structure Later (w : World) (F : Nat → Nat) (tok : List (Option Nat)) (fr : Fr) (w' : World) (F' : Nat → Nat) (tok' : List (Option Nat)) (fr' : Fr) : Prop where
  cell : ∀ b i, i < F b → w'.cell? ⟨b, i, none⟩ = w.cell? ⟨b, i, none⟩
  le : ∀ b, F b ≤ F' b
  tok : ∀ (k t s n : Nat), fr[k]? = some (t, s, n) → ∃ n' : Nat, fr'[k]? = some (t, s, n') ∧ n ≤ n' ∧
    (n' = n → tok'[k]? = tok[k]? ∧ ∀ b, tok[k]? = some (some b) → w'.heap[b]? = w.heap[b]? ∧ F' b = F b)

theorem idx_lt {off i j sz n m : Nat} (hi : i < n) (hj : j < sz) (h : off + n * sz ≤ m) : off + i * sz + j < m := by
  have : (i + 1) * sz ≤ n * sz := Nat.mul_le_mul_right _ hi
  rw [Nat.add_mul] at this
  omega

theorem getElem?_lt {α : Type} {l : List α} {i : Nat} {x : α} (h : l[i]? = some x) : i < l.length := (List.getElem?_eq_some_iff.1 h).1

theorem OwnerP.same {B : Nat} {w w' : World} {F F' : Nat → Nat} {tok tok' : List (Option Nat)} {k t : Nat} {a : Option Addr} {n cap s sz : Nat}
    (h : OwnerP B w F tok k t a n cap s sz) (ht : tok'[k]? = tok[k]?) (hb : ∀ b, tok[k]? = some (some b) → w'.heap[b]? = w.heap[b]? ∧ F' b = F b) :
    OwnerP B w' F' tok' k t a n cap s sz := by
  obtain ⟨rfl, ⟨vals, hv⟩, hk, hf⟩ := h
  refine ⟨rfl, ⟨vals, ?_⟩, by rw [ht, hk], fun b hb' => ?_⟩
  · refine ⟨hv.1, ?_⟩
    rcases hv.2 with hn | ⟨g, cap', cur, he, hB, hg, rest⟩
    · exact Or.inl hn
    · refine Or.inr ⟨g, cap', cur, he, hB, ?_, rest⟩
      simp only [Value.slice.injEq] at he
      rw [he.1] at hk
      rw [(hb g hk).1]; exact hg
  · rw [(hb b (by rw [hk, hb'])).2]; exact hf b hb'

theorem Rep.later {B : Nat} {w w' : World} {F F' : Nat → Nat} {tok tok' : List (Option Nat)} {fr fr' : Fr} {box box' : List BId} (L : Later w F tok fr w' F' tok' fr')
    (hb : ∀ (j : Nat) d, box[j]? = some d → box'[j]? = some d) {x : AV} {v : Value} (h : Rep B w F tok fr box x v) : Rep B w' F' tok' fr' box' x v := by
  induction h generalizing box' with
  | any v => exact .any v
  | val v => exact .val v
  | str s => exact .str s
  | list o xs a cap sz b off vs hcap ha hsz hF hc hr ho ih =>
    refine .list o xs a cap sz b off vs hcap ha hsz (fun hx => Nat.le_trans (hF hx) (L.le b)) (fun i e j c hi hj => ?_) (fun i e j c hi hj => ih i e j c hi hj (by simp)) (fun k hk => ?_)
    · have hin := getElem?_lt hi
      have hjn := getElem?_lt hj
      have hne : xs ≠ [] := by intro h0; subst h0; simp at hin
      rw [hsz e (List.mem_of_getElem? hi)] at hjn
      rw [L.cell b _ (idx_lt hin hjn (hF hne))]
      exact hc i e j c hi hj
    · obtain ⟨t, s, n, hf, hle, hown⟩ := ho k hk
      obtain ⟨n', hf', hn', hsame⟩ := L.tok k t s n hf
      refine ⟨t, s, n', hf', Nat.le_trans hle hn', fun he => ?_⟩
      have e1 : n' = n := by omega
      exact (hown (by omega)).same (hsame e1).1 (hsame e1).2
  | agg cs vs h h1 _ ih => exact .agg cs vs h h1 (fun i c hc => ih i c hc hb)
  | tup cs vs h _ ih => exact .tup cs vs h (fun i c hc => ih i c hc hb)
  | rptr cs b off vs hF hc hr ih =>
    refine .rptr cs b off vs (fun hx => Nat.le_trans (hF hx) (L.le b)) (fun j c hj => ?_) (fun j c hj => ih j c hj (by simp))
    have hjn := getElem?_lt hj
    have hne : cs ≠ [] := by intro h0; subst h0; simp at hjn
    rw [L.cell b _ (by have := hF hne; omega)]
    exact hc j c hj
  | bptr j off b cap h => exact .bptr j off b cap (hb _ _ h)
  | bsl j n b cap h hn => exact .bsl j n b cap (hb _ _ h) hn
  | bnil j h => exact .bnil j (hb _ _ h)
  | clo f first caps vf vc h1 h2 _ _ ih1 ih2 => exact .clo f first caps vf vc h1 h2 (fun i c hc => ih1 i c hc hb) (fun i c hc => ih2 i c hc hb)
  | bmap j b cap h => exact .bmap j b cap (hb _ _ h)
  | tag x v _ h1 ih => exact .tag x v (ih hb) h1

theorem RepT.later {B : Nat} {w w' : World} {F F' : Nat → Nat} {tok tok' : List (Option Nat)} {fr fr' : Fr} {box box' : List BId} (L : Later w F tok fr w' F' tok' fr')
    (hb : ∀ (j : Nat) d, box[j]? = some d → box'[j]? = some d) {x : AV} {v : Value} (h : RepT B w F tok fr box x v) : RepT B w' F' tok' fr' box' x v := by
  induction h with
  | rep x v h => exact .rep x v (h.later L hb)
  | cond g x v _ hn ih => exact .cond g x v ih hn

theorem Later.refl (w : World) (F : Nat → Nat) (tok : List (Option Nat)) (fr : Fr) : Later w F tok fr w F tok fr :=
  ⟨fun _ _ _ => rfl, fun _ => Nat.le_refl _, fun _ _ _ n h => ⟨n, h, Nat.le_refl _, fun _ => ⟨rfl, fun _ _ => ⟨rfl, rfl⟩⟩⟩⟩

/-- no address of a box in it -/
def noRef : AV → Bool
  | .bptr _ _ => false
  | .bsl _ _ => false
  | .bmap _ => false
  | .tag _ x => noRef x
  | .agg cs => noRefL cs
  | .tup cs => noRefL cs
  | .clo _ a b => noRefL a && noRefL b
  | .cond _ _ => false
  | .any => true
  | .val _ => true
  | .str _ => true
  | .list _ _ => true
  | .rptr _ => true
where noRefL : List AV → Bool
  | [] => true
  | c :: cs => noRef c && noRefL cs
theorem noRefL_all : ∀ (cs : List AV), noRef.noRefL cs = cs.all noRef
  | [] => rfl
  | c :: cs => by rw [noRef.noRefL, noRefL_all cs]; rfl

theorem Rep.anyBox {B : Nat} {w : World} {F : Nat → Nat} {tok : List (Option Nat)} {fr : Fr} {box : List BId} (box' : List BId) {x : AV} {v : Value} (h : Rep B w F tok fr box x v) (hn : noRef x = true) : Rep B w F tok fr box' x v := by
  induction h with
  | any v => exact .any v
  | val v => exact .val v
  | str s => exact .str s
  | list o xs a cap sz b off vs hcap ha hsz hF hc hr ho => exact .list o xs a cap sz b off vs hcap ha hsz hF hc hr ho
  | agg cs vs h h1 _ ih =>
    rw [noRef, noRefL_all] at hn
    exact .agg cs vs h h1 (fun i c hc => ih i c hc (List.all_eq_true.1 hn c (List.mem_of_getElem? hc)))
  | tup cs vs h _ ih =>
    rw [noRef, noRefL_all] at hn
    exact .tup cs vs h (fun i c hc => ih i c hc (List.all_eq_true.1 hn c (List.mem_of_getElem? hc)))
  | rptr cs b off vs hF hc hr => exact .rptr cs b off vs hF hc hr
  | bptr => cases hn
  | bsl => cases hn
  | bnil => cases hn
  | bmap => cases hn
  | tag x v _ h1 ih => rw [noRef] at hn; exact .tag x v (ih hn) h1
  | clo f first caps vf vc h1 h2 _ _ ih1 ih2 =>
    rw [noRef, noRefL_all, noRefL_all, Bool.and_eq_true] at hn
    exact .clo f first caps vf vc h1 h2 (fun i c hc => ih1 i c hc (List.all_eq_true.1 hn.1 c (List.mem_of_getElem? hc))) (fun i c hc => ih2 i c hc (List.all_eq_true.1 hn.2 c (List.mem_of_getElem? hc)))

section inv
variable {B : Nat} {w : World} {F : Nat → Nat} {tok : List (Option Nat)} {fr : Fr} {box : List BId}
theorem RepT.plain {x : AV} {v : Value} (h : RepT B w F tok fr box x v) (h1 : ∀ g y, x ≠ .cond g y) : Rep B w F tok fr box x v := by
  cases h with
  | rep _ _ h => exact h
  | cond g y => exact absurd rfl (h1 g y)
theorem Rep.val_inv {u v : Value} (h : Rep B w F tok fr box (.val u) v) : v = u := by cases h; rfl
theorem RepT.val_inv {u v : Value} (h : RepT B w F tok fr box (.val u) v) : v = u := by
  cases h with | rep _ _ h => cases h; rfl
theorem RepT.str_inv {s : Str} {v : Value} (h : RepT B w F tok fr box (.str s) v) : v = mkS s := by
  cases h with | rep _ _ h => cases h; rfl
theorem RepT.list_inv {o : Option Nat} {xs : List (List AV)} {v : Value} (h : RepT B w F tok fr box (.list o xs) v) : Rep B w F tok fr box (.list o xs) v := by
  cases h with | rep _ _ h => exact h
theorem RepT.agg_inv {cs : List AV} {v : Value} (h : RepT B w F tok fr box (.agg cs) v) : Rep B w F tok fr box (.agg cs) v := by
  cases h with | rep _ _ h => exact h
theorem RepT.tup_inv {cs : List AV} {v : Value} (h : RepT B w F tok fr box (.tup cs) v) : Rep B w F tok fr box (.tup cs) v := by
  cases h with | rep _ _ h => exact h
theorem RepT.rptr_inv {cs : List AV} {v : Value} (h : RepT B w F tok fr box (.rptr cs) v) : Rep B w F tok fr box (.rptr cs) v := by
  cases h with | rep _ _ h => exact h
theorem RepT.clo_inv {f : Nat} {xs ys : List AV} {v : Value} (h : RepT B w F tok fr box (.clo f xs ys) v) : Rep B w F tok fr box (.clo f xs ys) v := by
  cases h with | rep _ _ h => exact h
theorem Rep.bptr_inv {j off : Nat} {v : Value} (h : Rep B w F tok fr box (.bptr j off) v) : ∃ b cap, box[j]? = some (.blk b cap) ∧ v = .pointer (some ⟨b, off, none⟩) := by
  cases h with
  | bptr _ _ b cap h => exact ⟨b, cap, h, rfl⟩
theorem RepT.bptr_inv {j off : Nat} {v : Value} (h : RepT B w F tok fr box (.bptr j off) v) : ∃ b cap, box[j]? = some (.blk b cap) ∧ v = .pointer (some ⟨b, off, none⟩) := by
  cases h with | rep _ _ h => exact h.bptr_inv
theorem Rep.bsl_inv {j n : Nat} {v : Value} (h : Rep B w F tok fr box (.bsl j n) v) :
    (∃ b cap, box[j]? = some (.blk b cap) ∧ n ≤ cap ∧ v = .slice (some ⟨b, 0, none⟩) n cap) ∨ (box[j]? = some .nil ∧ n = 0 ∧ v = .slice none 0 0) := by
  cases h with
  | bsl _ _ b cap h hn => exact .inl ⟨b, cap, h, hn, rfl⟩
  | bnil _ h => exact .inr ⟨h, rfl, rfl⟩
theorem RepT.bsl_inv {j n : Nat} {v : Value} (h : RepT B w F tok fr box (.bsl j n) v) :
    (∃ b cap, box[j]? = some (.blk b cap) ∧ n ≤ cap ∧ v = .slice (some ⟨b, 0, none⟩) n cap) ∨ (box[j]? = some .nil ∧ n = 0 ∧ v = .slice none 0 0) := by
  cases h with | rep _ _ h => exact h.bsl_inv
theorem RepT.cond_inv {g : Bool} {x : AV} {v : Value} (h : RepT B w F tok fr box (.cond g x) v) : (g = true → RepT B w F tok fr box x v) ∧ (g = false → v = undef) := by
  cases h with
  | rep _ _ h => cases h
  | cond _ _ _ h hn => exact ⟨h, hn⟩
end inv
end Abs
end Go.Proofs.Ytkbblglbbfdnpaa
namespace Go.Proofs.Ytkbblglbbfdnpaa
namespace Abs
open Go.RowKit

/-- a number and the like, a text, a slice (element type, cells of an element; each element's cells), a struct's cells, several results -/
inductive Tr where
  | v (x : Value)
  | s (x : Str)
  | l (t sz : Nat) (xs : List (List Tr))
  | a (fs : List Tr)
  | p (fs : List Tr)

mutual
def old : Tr → AV
  | .v x => .val x
  | .s x => .str x
  | .l _ _ xs => .list none (oldLL xs)
  | .a fs => .agg (oldL fs)
  | .p fs => .tup (oldL fs)
def oldL : List Tr → List AV
  | [] => []
  | x :: xs => old x :: oldL xs
def oldLL : List (List Tr) → List (List AV)
  | [] => []
  | x :: xs => oldL x :: oldLL xs
end
theorem oldL_eq : ∀ xs, oldL xs = xs.map old
  | [] => rfl
  | x :: xs => by rw [oldL, oldL_eq xs]; rfl
theorem oldLL_eq : ∀ xs, oldLL xs = xs.map fun e => e.map old
  | [] => rfl
  | x :: xs => by rw [oldLL, oldLL_eq xs, oldL_eq]; rfl

/-! each element of a slice has its number of cells -/
mutual
def okT : Tr → Bool
  | .v _ => true
  | .s _ => true
  | .l _ sz xs => xs.all (fun e => e.length == sz) && okTLL xs
  | .a fs => okTL fs
  | .p fs => okTL fs
def okTL : List Tr → Bool
  | [] => true
  | x :: xs => okT x && okTL xs
def okTLL : List (List Tr) → Bool
  | [] => true
  | x :: xs => okTL x && okTLL xs
end

/-! how many boxes, what stands for the tree, and the boxes, from box n on -/
mutual
def nb : Tr → Nat
  | .v _ => 0
  | .s _ => 0
  | .l _ _ xs => nbLL xs + 1
  | .a fs => nbL fs
  | .p fs => nbL fs
def nbL : List Tr → Nat
  | [] => 0
  | x :: xs => nb x + nbL xs
def nbLL : List (List Tr) → Nat
  | [] => 0
  | x :: xs => nbL x + nbLL xs
end
mutual
def gv : Tr → Nat → AV
  | .v x, _ => .val x
  | .s x, _ => .str x
  | .l _ _ xs, n => .bsl n xs.length
  | .a fs, n => .agg (gvL fs n)
  | .p fs, n => .tup (gvL fs n)
def gvL : List Tr → Nat → List AV
  | [], _ => []
  | x :: xs, n => gv x n :: gvL xs (n + nb x)
end
def gvLL : List (List Tr) → Nat → List AV
  | [], _ => []
  | x :: xs, n => gvL x n ++ gvLL xs (n + nbL x)
mutual
def gb : Tr → Nat → List ABox
  | .v _, _ => []
  | .s _, _ => []
  | .l t sz xs, n => .cells (.row t sz) (gvLL xs (n + 1)) :: gbLL xs (n + 1)
  | .a fs, n => gbL fs n
  | .p fs, n => gbL fs n
def gbL : List Tr → Nat → List ABox
  | [], _ => []
  | x :: xs, n => gb x n ++ gbL xs (n + nb x)
def gbLL : List (List Tr) → Nat → List ABox
  | [], _ => []
  | x :: xs, n => gbL x n ++ gbLL xs (n + nbL x)
end
mutual
theorem length_gb : ∀ (x : Tr) (n : Nat), (gb x n).length = nb x
  | .v _, _ => rfl
  | .s _, _ => rfl
  | .l _ _ xs, n => by simp only [gb, nb, List.length_cons, length_gbLL xs]
  | .a fs, n => by simp only [gb, nb, length_gbL fs]
  | .p fs, n => by simp only [gb, nb, length_gbL fs]
theorem length_gbL : ∀ (x : List Tr) (n : Nat), (gbL x n).length = nbL x
  | [], _ => rfl
  | x :: xs, n => by simp only [gbL, nbL, List.length_append, length_gb x, length_gbL xs]
theorem length_gbLL : ∀ (x : List (List Tr)) (n : Nat), (gbLL x n).length = nbLL x
  | [], _ => rfl
  | x :: xs, n => by simp only [gbLL, nbLL, List.length_append, length_gbL x, length_gbLL xs]
end
theorem nbL_append : ∀ xs ys, nbL (xs ++ ys) = nbL xs + nbL ys
  | [], ys => by simp [nbL]
  | x :: xs, ys => by simp only [List.cons_append, nbL, nbL_append xs]; omega
theorem nbLL_flatten : ∀ xs, nbLL xs = nbL xs.flatten
  | [] => rfl
  | x :: xs => by simp only [nbLL, List.flatten_cons, nbL_append, nbLL_flatten xs]
theorem gvL_append : ∀ xs ys n, gvL (xs ++ ys) n = gvL xs n ++ gvL ys (n + nbL xs)
  | [], ys, n => by simp [nbL, gvL]
  | x :: xs, ys, n => by simp only [List.cons_append, gvL, nbL, gvL_append xs, Nat.add_assoc]
theorem gvLL_flatten : ∀ xs n, gvLL xs n = gvL xs.flatten n
  | [], _ => rfl
  | x :: xs, n => by simp only [gvLL, List.flatten_cons, gvL_append, gvLL_flatten xs]
theorem gbL_append : ∀ xs ys n, gbL (xs ++ ys) n = gbL xs n ++ gbL ys (n + nbL xs)
  | [], ys, n => by simp [nbL, gbL]
  | x :: xs, ys, n => by simp only [List.cons_append, gbL, nbL, gbL_append xs, Nat.add_assoc, List.append_assoc]
theorem gbLL_flatten : ∀ xs n, gbLL xs n = gbL xs.flatten n
  | [], _ => rfl
  | x :: xs, n => by simp only [gbLL, List.flatten_cons, gbL_append, gbLL_flatten xs]
theorem length_gvL : ∀ xs n, (gvL xs n).length = xs.length
  | [], _ => rfl
  | x :: xs, n => by simp [gvL, length_gvL xs]

/-- a value without memory of its own -/
def plainV : Value → Bool
  | .bool _ => true
  | .int _ _ => true
  | .string _ => true
  | _ => false

/-- The value is the tree, in blocks of its own. -/
inductive OwnL (w : World) : List Tr → List Value → List Nat → Prop
  | nil : OwnL w [] [] []
  | v (x : Value) (hp : plainV x = true) {xs : List Tr} {vs : List Value} {ds : List Nat} (h : OwnL w xs vs ds) : OwnL w (.v x :: xs) (x :: vs) ds
  | s (x : Str) {xs : List Tr} {vs : List Value} {ds : List Nat} (h : OwnL w xs vs ds) : OwnL w (.s x :: xs) (mkS x :: vs) ds
  | none (t sz : Nat) {xs : List Tr} {vs : List Value} {ds : List Nat} (h : OwnL w xs vs ds) : OwnL w (.l t sz [] :: xs) (.slice none 0 0 :: vs) ds
  | l (t sz : Nat) (es : List (List Tr)) (b cap : Nat) (c : Array Value) (us : List Value) (hb : w.heap[b]? = some (.cells c t (0, 0))) (hc : c.size = cap * sz) (hl : es.length ≤ cap) (hm : cap ≤ maxLen)
      (hs : ∀ e ∈ es, e.length = sz) (hu : c.toList.take (es.length * sz) = us) (h1 : ∀ u ∈ us, u.oneCell' = true) {d1 : List Nat} (he : OwnL w es.flatten us d1)
      {xs : List Tr} {vs : List Value} {ds : List Nat} (h : OwnL w xs vs ds) : OwnL w (.l t sz es :: xs) (.slice (some ⟨b, 0, Option.none⟩) es.length cap :: vs) (b :: d1 ++ ds)
  | a (fs : List Tr) (us : Array Value) (h1 : ∀ u ∈ us.toList, u.oneCell' = true) {d1 : List Nat} (he : OwnL w fs us.toList d1)
      {xs : List Tr} {vs : List Value} {ds : List Nat} (h : OwnL w xs vs ds) : OwnL w (.a fs :: xs) (.agg us :: vs) (d1 ++ ds)
  | p (fs : List Tr) (us : Array Value) {d1 : List Nat} (he : OwnL w fs us.toList d1)
      {xs : List Tr} {vs : List Value} {ds : List Nat} (h : OwnL w xs vs ds) : OwnL w (.p fs :: xs) (.tuple us :: vs) (d1 ++ ds)

theorem OwnL.length {w : World} {xs : List Tr} {vs : List Value} {ds : List Nat} (h : OwnL w xs vs ds) : xs.length = vs.length := by
  induction h <;> simp_all

theorem OwnL.world {w w' : World} {xs : List Tr} {vs : List Value} {ds : List Nat} (h : OwnL w xs vs ds) (hw : ∀ d ∈ ds, w'.heap[d]? = w.heap[d]?) : OwnL w' xs vs ds := by
  induction h with
  | nil => exact .nil
  | v x hp _ ih => exact .v x hp (ih hw)
  | s x _ ih => exact .s x (ih hw)
  | none t sz _ ih => exact .none t sz (ih hw)
  | l t sz es b cap c us hb hc hl hm hs hu h1 _ _ ih1 ih2 =>
    exact .l t sz es b cap c us (by rw [hw b (by simp)]; exact hb) hc hl hm hs hu h1 (ih1 fun d hd => hw d (by simp [hd])) (ih2 fun d hd => hw d (by simp [hd]))
  | a fs us h1 _ _ ih1 ih2 => exact .a fs us h1 (ih1 fun d hd => hw d (by simp [hd])) (ih2 fun d hd => hw d (by simp [hd]))
  | p fs us _ _ ih1 ih2 => exact .p fs us (ih1 fun d hd => hw d (by simp [hd])) (ih2 fun d hd => hw d (by simp [hd]))

/-- a map's entries, as they lie -/
structure MapIs (es : Array MapEntry) (clock : Nat) (m : List (Str × Str)) : Prop where
  stamped : MapKept.Stamped es clock
  ent : es.toList.map (fun x => (x.key, x.val)) = m.map fun p => (mkS p.1, mkS p.2)
  size : m.length ≤ maxLen
  len : ∀ p ∈ m, p.1.length ≤ maxLen ∧ p.2.length ≤ maxLen

structure VMapIs (kk vk : MK) (es : Array MapEntry) (clock : Nat) (m : List (MA × MA)) : Prop where
  stamped : MapKept.Stamped es clock
  ent : es.toList.map (fun x => (x.key, x.val)) = m.map fun p => (p.1.val, p.2.val)
  kinds : ∀ p ∈ m, p.1.kind = kk ∧ p.2.kind = vk

/-! what is known of a box -/
def BoxOk (B : Nat) (w : World) (F : Nat → Nat) (tok : List (Option Nat)) (fr : Fr) (box : List BId) : BId → ABox → Prop
  | .blk b cap, .cells k cs => ∃ (c : Array Value) (t : TypeId), w.heap[b]? = some (.cells c t (0, 0)) ∧ cs.length ≤ c.size ∧
      (∀ i x, cs[i]? = some x → Rep B w F tok fr box x (c.getD i undef) ∧ (c.getD i undef).oneCell' = true) ∧
      (match k with | .var => True | .row t' sz => t = t' ∧ c.size = cap * sz ∧ cap ≤ maxLen)
  | .blk b _, .iter s pos => w.heap[b]? = some (.stringIter ⟨s.toArray⟩ pos)
  | .blk b _, .map m => ∃ es clock, w.heap[b]? = some (.map es clock) ∧ MapIs es clock m
  | .blk b _, .vmap kk vk m => ∃ es clock, w.heap[b]? = some (.map es clock) ∧ VMapIs kk vk es clock m
  | .nil, .cells _ cs => cs = []
  | _, .dead => True
  | .nil, .iter _ _ => False
  | .nil, .map _ => False
  | .nil, .vmap _ _ _ => False

def BoxesOk (B : Nat) (w : World) (F : Nat → Nat) (tok : List (Option Nat)) (fr : Fr) (box : List BId) (bx : List ABox) : Prop :=
  ∀ (j : Nat) d x, box[j]? = some d → bx[j]? = some x → BoxOk B w F tok fr box d x

def bidIn (ds : List Nat) : BId → Prop
  | .blk b _ => b ∈ ds
  | .nil => True

theorem getD_take {c : Array Value} {us : List Value} {m i : Nat} (hu : c.toList.take m = us) (hi : i < us.length) : us[i]? = some (c.getD i undef) ∧ i < c.size := by
  subst hu
  have h2 : i < c.size := by simp at hi; omega
  have h3 : i < m := by simp at hi; omega
  exact ⟨by rw [List.getElem?_take, if_pos h3]; simp [Array.getD, h2], h2⟩

/-- The tree as boxes. -/
theorem OwnL.boxes {w : World} (B : Nat) (F : Nat → Nat) (tok : List (Option Nat)) (fr : Fr) {xs : List Tr} {vs : List Value} {ds : List Nat} (h : OwnL w xs vs ds) :
    ∃ ids : List BId, ids.length = nbL xs ∧ (∀ (i b c : Nat), ids[i]? = some (.blk b c) → b ∈ ds) ∧ (ds.Nodup → ∀ (i j b c c' : Nat), ids[i]? = some (.blk b c) → ids[j]? = some (.blk b c') → i = j) ∧
      ∀ (n : Nat) (box : List BId), (∀ (i : Nat) d, ids[i]? = some d → box[n + i]? = some d) →
        (∀ (i : Nat) x v, (gvL xs n)[i]? = some x → vs[i]? = some v → Rep B w F tok fr box x v) ∧
        (∀ (i : Nat) d x, ids[i]? = some d → (gbL xs n)[i]? = some x → BoxOk B w F tok fr box d x) := by
  -- one more member: its own boxes, then the others'
  have step : ∀ {x : Tr} {v : Value} {xs : List Tr} {vs : List Value} {d1 ds : List Nat} (ids1 : List BId), ids1.length = nb x → (∀ (i b c : Nat), ids1[i]? = some (.blk b c) → b ∈ d1) →
      (d1.Nodup → ∀ (i j b c c' : Nat), ids1[i]? = some (.blk b c) → ids1[j]? = some (.blk b c') → i = j) →
      (∀ (n : Nat) (box : List BId), (∀ (i : Nat) d, ids1[i]? = some d → box[n + i]? = some d) → Rep B w F tok fr box (gv x n) v ∧ (∀ (i : Nat) d y, ids1[i]? = some d → (gb x n)[i]? = some y → BoxOk B w F tok fr box d y)) →
      (∃ ids : List BId, ids.length = nbL xs ∧ (∀ (i b c : Nat), ids[i]? = some (.blk b c) → b ∈ ds) ∧ (ds.Nodup → ∀ (i j b c c' : Nat), ids[i]? = some (.blk b c) → ids[j]? = some (.blk b c') → i = j) ∧
        ∀ (n : Nat) (box : List BId), (∀ (i : Nat) d, ids[i]? = some d → box[n + i]? = some d) →
          (∀ (i : Nat) x v, (gvL xs n)[i]? = some x → vs[i]? = some v → Rep B w F tok fr box x v) ∧
          (∀ (i : Nat) d x, ids[i]? = some d → (gbL xs n)[i]? = some x → BoxOk B w F tok fr box d x)) →
      ∃ ids : List BId, ids.length = nbL (x :: xs) ∧ (∀ (i b c : Nat), ids[i]? = some (.blk b c) → b ∈ d1 ++ ds) ∧ ((d1 ++ ds).Nodup → ∀ (i j b c c' : Nat), ids[i]? = some (.blk b c) → ids[j]? = some (.blk b c') → i = j) ∧
        ∀ (n : Nat) (box : List BId), (∀ (i : Nat) d, ids[i]? = some d → box[n + i]? = some d) →
          (∀ (i : Nat) y u, (gvL (x :: xs) n)[i]? = some y → (v :: vs)[i]? = some u → Rep B w F tok fr box y u) ∧
          (∀ (i : Nat) d y, ids[i]? = some d → (gbL (x :: xs) n)[i]? = some y → BoxOk B w F tok fr box d y) := by
    intro x v xs vs d1 ds ids1 hl1 hd1 hj1 hr1 ⟨ids2, hl2, hd2, hj2, hr2⟩
    refine ⟨ids1 ++ ids2, by simp [nbL, hl1, hl2], fun i b c hi => ?_, fun hnd i j b c c' hi hj => ?_, fun n box hbox => ?_⟩
    · rw [List.getElem?_append] at hi
      split at hi
      · exact List.mem_append_left _ (hd1 _ _ _ hi)
      · exact List.mem_append_right _ (hd2 _ _ _ hi)
    · obtain ⟨n1, n2, n3⟩ := List.nodup_append.1 hnd
      rw [List.getElem?_append] at hi hj
      split at hi <;> split at hj
      · exact hj1 n1 _ _ _ _ _ hi hj
      · exact absurd rfl (n3 b (hd1 _ _ _ hi) b (hd2 _ _ _ hj))
      · exact absurd rfl (n3 b (hd1 _ _ _ hj) b (hd2 _ _ _ hi))
      · have := hj2 n2 _ _ _ _ _ hi hj; omega
    · obtain ⟨r1, r2⟩ := hr1 n box (fun i d hi => hbox i d (by rw [List.getElem?_append_left (getElem?_lt hi)]; exact hi))
      obtain ⟨r3, r4⟩ := hr2 (n + nb x) box (fun i d hi => by
        have := hbox (ids1.length + i) d (by rw [List.getElem?_append_right (by omega), Nat.add_sub_cancel_left]; exact hi)
        rw [hl1, ← Nat.add_assoc] at this; exact this)
      refine ⟨fun i y u hy hu => ?_, fun i d y hi hy => ?_⟩
      · cases i with
        | zero => simp [gvL] at hy hu; subst hy; subst hu; exact r1
        | succ i => exact r3 i y u (by simpa [gvL] using hy) (by simpa using hu)
      · rw [gbL] at hy
        rw [List.getElem?_append] at hi
        rw [List.getElem?_append, length_gb] at hy
        split at hi
        · rename_i h; rw [if_pos (by omega)] at hy; exact r2 i d y hi hy
        · rename_i h; rw [if_neg (by omega)] at hy; exact r4 _ d y hi (by rw [hl1]; exact hy)
  have flat : ∀ {x : Tr} {v : Value} {xs : List Tr} {vs : List Value} {ds : List Nat}, nb x = 0 → (∀ n, gb x n = []) → (∀ n box, Rep B w F tok fr box (gv x n) v) → _ → _ :=
    fun {x v xs vs ds} h0 hg hr => step (x := x) (v := v) (xs := xs) (vs := vs) (d1 := []) (ds := ds) [] (by simp [h0]) (by simp) (by simp) (fun n box _ => ⟨hr n box, by simp⟩)
  induction h with
  | nil => exact ⟨[], rfl, by simp, by simp, fun n box _ => ⟨by simp [gvL], by simp⟩⟩
  | v x hp _ ih => exact flat rfl (fun _ => rfl) (fun _ _ => .val _) ih
  | s x _ ih => exact flat rfl (fun _ => rfl) (fun _ _ => .str _) ih
  | none t sz _ ih =>
    refine step (d1 := []) [.nil] rfl (fun i b c hi => ?_) (fun _ i j b c c' hi _ => ?_) (fun n box hb => ⟨.bnil n (hb 0 .nil rfl), fun i d y hi hy => ?_⟩) ih
    · cases i <;> simp at hi
    · cases i <;> simp at hi
    · cases i with
      | zero => simp at hi; subst hi; simp [gb, gvLL] at hy; subst hy; rfl
      | succ i => simp at hi
  | l t sz es b cap c us hb hc hl hm hs hu h1 he _ ih1 ih2 =>
    obtain ⟨ids, i1, i2, i3, i4⟩ := ih1
    refine step (d1 := b :: _) (.blk b cap :: ids) (by simp [nb, nbLL_flatten, i1]) (fun i b' c' hi => ?_) (fun hnd i j b' c1 c2 hi hj => ?_) (fun n box hbox => ?_) ih2
    · cases i with
      | zero => simp at hi; rw [hi.1]; simp
      | succ i => exact List.mem_cons_of_mem _ (i2 i b' c' (by simpa using hi))
    · obtain ⟨n1, n2⟩ := List.nodup_cons.1 hnd
      cases i <;> cases j
      · rfl
      · simp at hi hj; exact absurd (hi.1 ▸ i2 _ _ _ hj) n1
      · simp at hi hj; exact absurd (hj.1 ▸ i2 _ _ _ hi) n1
      · have := i3 n2 _ _ _ _ _ (by simpa using hi) (by simpa using hj); omega
    · obtain ⟨r1, r2⟩ := i4 (n + 1) box (fun i d hi => by have := hbox (i + 1) d (by simpa using hi); rw [show n + 1 + i = n + (i + 1) by omega]; exact this)
      refine ⟨.bsl n es.length b cap (hbox 0 _ rfl) hl, fun i d y hi hy => ?_⟩
      cases i with
      | succ i => simp [gb, gbLL_flatten] at hi hy; exact r2 i d y hi hy
      | zero =>
        simp [gb] at hi hy
        subst hi; subst hy
        have hlen : (gvLL es (n + 1)).length = us.length := by rw [gvLL_flatten, length_gvL, he.length]
        have hus : us.length ≤ c.size := by rw [← hu]; simp; omega
        refine ⟨c, t, hb, by omega, fun i x hx => ?_, rfl, hc, hm⟩
        have hi : i < us.length := by have := getElem?_lt hx; omega
        obtain ⟨g1, g2⟩ := getD_take hu hi
        exact ⟨r1 i x _ (by rw [← gvLL_flatten]; exact hx) g1, h1 _ (List.mem_of_getElem? g1)⟩
  | a fs us h1 he _ ih1 ih2 =>
    obtain ⟨ids, i1, i2, i3, i4⟩ := ih1
    refine step ids (by simp [nb, i1]) i2 i3 (fun n box hbox => ?_) ih2
    obtain ⟨r1, r2⟩ := i4 n box hbox
    have hl := he.length
    have hg : ∀ i, i < us.size → us.toList[i]? = some (us.getD i undef) := fun i hi => by simp [Array.getD, hi]
    refine ⟨.agg _ _ (by rw [length_gvL]; simpa using hl) (fun i hi => h1 _ (List.mem_of_getElem? (hg i hi))) (fun i c hc => ?_), r2⟩
    have hi := getElem?_lt hc
    rw [length_gvL] at hi
    exact r1 i c _ hc (hg i (by simp at hl; omega))
  | p fs us he _ ih1 ih2 =>
    obtain ⟨ids, i1, i2, i3, i4⟩ := ih1
    refine step ids (by simp [nb, i1]) i2 i3 (fun n box hbox => ?_) ih2
    obtain ⟨r1, r2⟩ := i4 n box hbox
    have hl := he.length
    have hg : ∀ i, i < us.size → us.toList[i]? = some (us.getD i undef) := fun i hi => by simp [Array.getD, hi]
    refine ⟨.tup _ _ (by rw [length_gvL]; simpa using hl) (fun i c hc => ?_), r2⟩
    have hi := getElem?_lt hc
    rw [length_gvL] at hi
    exact r1 i c _ hc (hg i (by simp at hl; omega))
end Abs
end Go.Proofs.Ytkbblglbbfdnpaa
namespace Go.Proofs.Ytkbblglbbfdnpaa
namespace Abs
open Go.RowKit

mutual
def mapT (f : Nat → Option Nat) : AV → AV
  | .list o xs => .list (o.bind f) (mapTLL f xs)
  | .agg cs => .agg (mapTL f cs)
  | .tup vs => .tup (mapTL f vs)
  | .rptr cs => .rptr (mapTL f cs)
  | .clo g xs ys => .clo g (mapTL f xs) (mapTL f ys)
  | .bptr _ _ => .any
  | .bsl _ _ => .any
  | .bmap _ => .any
  | .tag v x => .tag v (mapT f x)
  | .cond _ _ => .any
  | .any => .any
  | .val v => .val v
  | .str s => .str s
def mapTL (f : Nat → Option Nat) : List AV → List AV
  | [] => []
  | c :: cs => mapT f c :: mapTL f cs
def mapTLL (f : Nat → Option Nat) : List (List AV) → List (List AV)
  | [] => []
  | c :: cs => mapTL f c :: mapTLL f cs
end
/-- .. boxes stay -/
def mapK (f : Nat → Option Nat) : AV → AV
  | .list o xs => .list (o.bind f) (mapTLL f xs)
  | .agg cs => .agg (mapKL cs)
  | .tup vs => .tup (mapKL vs)
  | .rptr cs => .rptr (mapTL f cs)
  | .clo g xs ys => .clo g (mapKL xs) (mapKL ys)
  | .bptr j o => .bptr j o
  | .bsl j n => .bsl j n
  | .bmap j => .bmap j
  | .tag v x => .tag v (mapK f x)
  | .cond _ _ => .any
  | .any => .any
  | .val v => .val v
  | .str s => .str s
where mapKL : List AV → List AV
  | [] => []
  | c :: cs => mapK f c :: mapKL cs
def noTok (_ : Nat) : Option Nat := none
def erase (x : AV) : AV := mapT noTok x
def shift (n : Nat) (x : AV) : AV := mapT (fun k => some (k + n)) x
def shiftK (n : Nat) (x : AV) : AV := match n with | 0 => x | n + 1 => mapK (fun k => some (k + (n + 1))) x

theorem mapTL_eq (f : Nat → Option Nat) : ∀ cs, mapTL f cs = cs.map (mapT f)
  | [] => rfl
  | c :: cs => by rw [mapTL, mapTL_eq f cs]; rfl
theorem mapTLL_eq (f : Nat → Option Nat) : ∀ xs, mapTLL f xs = xs.map fun e => e.map (mapT f)
  | [] => rfl
  | c :: cs => by rw [mapTLL, mapTLL_eq f cs, mapTL_eq]; rfl

theorem mapTLL_get {f : Nat → Option Nat} {xs : List (List AV)} {i j : Nat} {e : List AV} {c : AV} (hi : (mapTLL f xs)[i]? = some e) (hj : e[j]? = some c) :
    ∃ e' c', xs[i]? = some e' ∧ e'[j]? = some c' ∧ e = e'.map (mapT f) ∧ c = mapT f c' := by
  rw [mapTLL_eq, List.getElem?_map] at hi
  obtain ⟨e', he, rfl⟩ := Option.map_eq_some_iff.1 hi
  rw [List.getElem?_map] at hj
  obtain ⟨c', hc, rfl⟩ := Option.map_eq_some_iff.1 hj
  exact ⟨e', c', he, hc, rfl, rfl⟩

theorem mapTL_get {f : Nat → Option Nat} {cs : List AV} {j : Nat} {c : AV} (hj : (mapTL f cs)[j]? = some c) : ∃ c', cs[j]? = some c' ∧ c = mapT f c' := by
  rw [mapTL_eq, List.getElem?_map] at hj
  obtain ⟨c', hc, rfl⟩ := Option.map_eq_some_iff.1 hj
  exact ⟨c', hc, rfl⟩

theorem length_mapTLL (f : Nat → Option Nat) (xs : List (List AV)) : (mapTLL f xs).length = xs.length := by rw [mapTLL_eq]; simp
theorem length_mapTL (f : Nat → Option Nat) (xs : List AV) : (mapTL f xs).length = xs.length := by rw [mapTL_eq]; simp

/-- A reading goes over to other tokens, and to other boxes. -/
theorem Rep.mapT {B B' : Nat} {w : World} {F : Nat → Nat} {tok tok' : List (Option Nat)} {fr fr' : Fr} {box : List BId} (f : Nat → Option Nat)
    (hf : ∀ k l, f k = some l → ∀ (t s n : Nat), fr[k]? = some (t, s, n) → fr'[l]? = some (t, s, n) ∧ tok'[l]? = tok[k]?) (hB : ∀ k l, f k = some l → B' ≤ B)
    {x : AV} {v : Value} (h : Rep B w F tok fr box x v) : ∀ box', Rep B' w F tok' fr' box' (Abs.mapT f x) v := by
  induction h with
  | any v => exact fun _ => .any v
  | val v => exact fun _ => .val v
  | str s => exact fun _ => .str s
  | list o xs a cap sz b off vs hcap ha hsz hF hc hr ho ih =>
    intro box'
    have hne : mapTLL f xs ≠ [] → xs ≠ [] := by rintro h rfl; exact h rfl
    show Rep B' w F tok' fr' box' (.list (o.bind f) (mapTLL f xs)) (.slice a xs.length cap)
    rw [← length_mapTLL f xs]
    refine .list (o.bind f) (mapTLL f xs) a cap sz b off vs (by rw [length_mapTLL]; exact hcap) (fun h => ha (hne h)) (fun e he => ?_) (fun h => by rw [length_mapTLL]; exact hF (hne h)) (fun i e j c hi hj => ?_) (fun i e j c hi hj => ?_) (fun l hl => ?_)
    · rw [mapTLL_eq] at he
      obtain ⟨e', he', rfl⟩ := List.mem_map.1 he
      rw [List.length_map]; exact hsz e' he'
    · obtain ⟨e', c', h1, h2, _, _⟩ := mapTLL_get hi hj
      exact hc i e' j c' h1 h2
    · obtain ⟨e', c', h1, h2, _, rfl⟩ := mapTLL_get hi hj
      exact ih i e' j c' h1 h2 []
    · obtain ⟨k, rfl, hk⟩ := Option.bind_eq_some_iff.1 hl
      obtain ⟨t, s, n, hfr, hle, hown⟩ := ho k rfl
      obtain ⟨h1, h2⟩ := hf k l hk t s n hfr
      refine ⟨t, s, n, h1, by rw [length_mapTLL]; exact hle, fun he => ?_⟩
      rw [length_mapTLL] at he ⊢
      obtain ⟨e1, ⟨vals, hv⟩, hk', hFb⟩ := hown he
      refine ⟨e1, ⟨vals, hv.1, ?_⟩, by rw [h2]; exact hk', hFb⟩
      rcases hv.2 with hn | ⟨g, cap', cur, he', hBg, rest⟩
      · exact Or.inl hn
      · exact Or.inr ⟨g, cap', cur, he', Nat.le_trans (hB k l hk) hBg, rest⟩
  | agg cs vs h h1 _ ih =>
    refine fun box' => .agg _ _ (by rw [length_mapTL]; exact h) h1 (fun i c hc => ?_)
    obtain ⟨c', h2, rfl⟩ := mapTL_get hc
    exact ih i c' h2 box'
  | tup cs vs h _ ih =>
    refine fun box' => .tup _ _ (by rw [length_mapTL]; exact h) (fun i c hc => ?_)
    obtain ⟨c', h2, rfl⟩ := mapTL_get hc
    exact ih i c' h2 box'
  | rptr cs b off vs hF hc hr ih =>
    refine fun box' => .rptr _ b off vs (fun h => by rw [length_mapTL]; exact hF (by rintro rfl; exact h rfl)) (fun j c hj => ?_) (fun j c hj => ?_)
    · obtain ⟨c', h2, _⟩ := mapTL_get hj
      exact hc j c' h2
    · obtain ⟨c', h2, rfl⟩ := mapTL_get hj
      exact ih j c' h2 []
  | bptr => exact fun _ => .any _
  | bsl => exact fun _ => .any _
  | bnil => exact fun _ => .any _
  | bmap => exact fun _ => .any _
  | tag x v _ h1 ih => exact fun box' => .tag _ v (ih box') h1
  | clo g xs ys vf vc h1 h2 _ _ ih1 ih2 =>
    refine fun box' => .clo g _ _ vf vc (by rw [length_mapTL]; exact h1) (by rw [length_mapTL]; exact h2) (fun i c hc => ?_) (fun i c hc => ?_)
    · obtain ⟨c', h3, rfl⟩ := mapTL_get hc
      exact ih1 i c' h3 box'
    · obtain ⟨c', h3, rfl⟩ := mapTL_get hc
      exact ih2 i c' h3 box'

theorem mapKL_eq (f : Nat → Option Nat) : ∀ cs, mapK.mapKL f cs = cs.map (mapK f)
  | [] => rfl
  | c :: cs => by rw [mapK.mapKL, mapKL_eq f cs]; rfl
theorem mapKL_get {f : Nat → Option Nat} {cs : List AV} {j : Nat} {c : AV} (hj : (mapK.mapKL f cs)[j]? = some c) : ∃ c', cs[j]? = some c' ∧ c = mapK f c' := by
  rw [mapKL_eq, List.getElem?_map] at hj
  obtain ⟨c', hc, rfl⟩ := Option.map_eq_some_iff.1 hj
  exact ⟨c', hc, rfl⟩
theorem length_mapKL (f : Nat → Option Nat) (xs : List AV) : (mapK.mapKL f xs).length = xs.length := by rw [mapKL_eq]; simp
theorem Rep.mapK {B B' : Nat} {w : World} {F : Nat → Nat} {tok tok' : List (Option Nat)} {fr fr' : Fr} {box : List BId} (f : Nat → Option Nat)
    (hf : ∀ k l, f k = some l → ∀ (t s n : Nat), fr[k]? = some (t, s, n) → fr'[l]? = some (t, s, n) ∧ tok'[l]? = tok[k]?) (hB : ∀ k l, f k = some l → B' ≤ B)
    {x : AV} {v : Value} (h : Rep B w F tok fr box x v) : Rep B' w F tok' fr' box (Abs.mapK f x) v := by
  induction h with
  | any v => exact .any v
  | val v => exact .val v
  | str s => exact .str s
  | list o xs a cap sz b off vs hcap ha hsz hF hc hr ho ih => exact Rep.mapT f hf hB (Rep.list (box := []) o xs a cap sz b off vs hcap ha hsz hF hc hr ho) _
  | agg cs vs h h1 _ ih =>
    refine .agg _ _ (by rw [length_mapKL]; exact h) h1 (fun i c hc => ?_)
    obtain ⟨c', h2, rfl⟩ := mapKL_get hc
    exact ih i c' h2
  | tup cs vs h _ ih =>
    refine .tup _ _ (by rw [length_mapKL]; exact h) (fun i c hc => ?_)
    obtain ⟨c', h2, rfl⟩ := mapKL_get hc
    exact ih i c' h2
  | rptr cs b off vs hF hc hr ih => exact Rep.mapT f hf hB (Rep.rptr (box := []) cs b off vs hF hc hr) _
  | bptr j off b cap h => exact .bptr j off b cap h
  | bsl j n b cap h hn => exact .bsl j n b cap h hn
  | bnil j h => exact .bnil j h
  | bmap j b cap h => exact .bmap j b cap h
  | tag x v _ h1 ih => exact .tag _ v ih h1
  | clo g xs ys vf vc h1 h2 _ _ ih1 ih2 =>
    refine .clo g _ _ vf vc (by rw [length_mapKL]; exact h1) (by rw [length_mapKL]; exact h2) (fun i c hc => ?_) (fun i c hc => ?_)
    · obtain ⟨c', h3, rfl⟩ := mapKL_get hc
      exact ih1 i c' h3
    · obtain ⟨c', h3, rfl⟩ := mapKL_get hc
      exact ih2 i c' h3

theorem Rep.less {B B' : Nat} {w : World} {F : Nat → Nat} {tok : List (Option Nat)} {fr : Fr} {box : List BId} (hB : B' ≤ B) {x : AV} {v : Value} (h : Rep B w F tok fr box x v) : Rep B' w F tok fr box x v := by
  induction h with
  | any v => exact .any v
  | val v => exact .val v
  | str s => exact .str s
  | list o xs a cap sz b off vs hcap ha hsz hF hc hr ho ih =>
    refine .list o xs a cap sz b off vs hcap ha hsz hF hc ih (fun k hk => ?_)
    obtain ⟨t, s, n, hfr, hle, hown⟩ := ho k hk
    refine ⟨t, s, n, hfr, hle, fun he => ?_⟩
    obtain ⟨e1, ⟨vals, hv⟩, hk', hFb⟩ := hown he
    refine ⟨e1, ⟨vals, hv.1, ?_⟩, hk', hFb⟩
    rcases hv.2 with hn | ⟨g, cap', cur, he', hBg, rest⟩
    · exact Or.inl hn
    · exact Or.inr ⟨g, cap', cur, he', Nat.le_trans hB hBg, rest⟩
  | agg cs vs h h1 _ ih => exact .agg cs vs h h1 ih
  | tup cs vs h _ ih => exact .tup cs vs h ih
  | rptr cs b off vs hF hc hr ih => exact .rptr cs b off vs hF hc ih
  | bptr j off b cap h => exact .bptr j off b cap h
  | bsl j n b cap h hn => exact .bsl j n b cap h hn
  | bnil j h => exact .bnil j h
  | bmap j b cap h => exact .bmap j b cap h
  | tag x v _ h1 ih => exact .tag x v ih h1
  | clo f first caps vf vc h1 h2 _ _ ih1 ih2 => exact .clo f first caps vf vc h1 h2 ih1 ih2
theorem Rep.shiftK {B B' : Nat} {w : World} {F : Nat → Nat} {tok tok0 : List (Option Nat)} {fr fr0 : Fr} {box : List BId} (hB : B' ≤ B) (ht : tok0.length = fr0.length) {x : AV} {v : Value} (h : Rep B w F tok fr box x v) :
    Rep B' w F (tok0 ++ tok) (fr0 ++ fr) box (Abs.shiftK fr0.length x) v := by
  cases hn : fr0.length with
  | zero =>
    have e1 : fr0 = [] := List.eq_nil_of_length_eq_zero hn
    have e2 : tok0 = [] := List.eq_nil_of_length_eq_zero (by omega)
    subst e1; subst e2
    exact h.less hB
  | succ n =>
    refine h.mapK _ (fun k l hkl t s m hk => ?_) (fun _ _ _ => hB)
    cases hkl
    refine ⟨?_, ?_⟩
    · rw [List.getElem?_append_right (by omega), hn, Nat.add_sub_cancel]; exact hk
    · rw [List.getElem?_append_right (by omega), ht, hn, Nat.add_sub_cancel]

theorem RepT.erase {B : Nat} {w : World} {F : Nat → Nat} {tok : List (Option Nat)} {fr : Fr} {box : List BId} {x : AV} {v : Value} (h : RepT B w F tok fr box x v) (B' : Nat) (box' : List BId) : Rep B' w F [] [] box' (Abs.erase x) v := by
  cases h with
  | rep _ _ h => exact h.mapT _ (fun _ _ h => by cases h) (fun _ _ h => by cases h) box'
  | cond g x v h hn => exact .any _

/-! what is seen of a value without boxes, and with them -/
def Sees0 (x y : AV) : Prop := ∀ {B : Nat} {w : World} {F : Nat → Nat} {tok : List (Option Nat)} {fr : Fr} {box : List BId} {v : Value}, RepT B w F tok fr box x v → ∀ B' box', Rep B' w F [] [] box' y v
def SeesB (bx : List ABox) (x y : AV) : Prop := ∀ {B : Nat} {w : World} {F : Nat → Nat} {tok : List (Option Nat)} {fr : Fr} {box : List BId} {v : Value} (F' : Nat → Nat),
  BoxesOk B w F tok fr box bx → (∀ b, F b ≤ F' b) → (∀ (b : Nat) c t z, w.heap[b]? = some (.cells c t z) → c.size ≤ F' b) → RepT B w F tok fr box x v → ∀ B' box', Rep B' w F' [] [] box' y v

theorem Sees0.erase {x y : AV} (h : Abs.erase x = y) : Sees0 x y := fun hx B' box' => h ▸ hx.erase B' box'
theorem Sees0.val (v : Value) : Sees0 (.val v) (.val v) := Sees0.erase rfl
theorem Sees0.str (s : Str) : Sees0 (.str s) (.str s) := Sees0.erase rfl
theorem Sees0.any (x : AV) : Sees0 x .any := fun _ _ _ => .any _
theorem Sees0.list {o : Option Nat} {xs ys : List (List AV)} (h : mapTLL noTok xs = ys) : Sees0 (.list o xs) (.list none ys) := Sees0.erase (by
  subst h; simp only [Abs.erase, Abs.mapT]; congr 1; cases o <;> rfl)
theorem Sees0.nil : Sees0 (.val (.slice none 0 0)) (.list none []) := fun hx B' box' => by
  rw [hx.val_inv]
  exact .list none [] none 0 0 0 0 (fun _ _ => undef) (Nat.le_refl _) (fun h => absurd rfl h) (by simp) (fun h => absurd rfl h) (by simp) (by simp) (fun k hk => by cases hk)

theorem RepT.tag_inv {B : Nat} {w : World} {F : Nat → Nat} {tok : List (Option Nat)} {fr : Fr} {box : List BId} {x : AV} {u v : Value} (h : RepT B w F tok fr box (.tag u x) v) : Rep B w F tok fr box (.tag u x) v := by
  cases h with | rep _ _ h => exact h
theorem Sees0.tag {u : Value} {x y : AV} (h : Sees0 x y) : Sees0 (.tag u x) y := fun hx B' box' => by
  cases hx.tag_inv with | tag _ _ h2 _ => exact h (.rep _ _ h2) B' box'

/-- members, one by one -/
inductive SeesL (S : AV → AV → Prop) : List AV → List AV → Prop
  | nil : SeesL S [] []
  | cons {x y : AV} {xs ys : List AV} (h : S x y) (hs : SeesL S xs ys) : SeesL S (x :: xs) (y :: ys)
theorem SeesL.length {S : AV → AV → Prop} {xs ys : List AV} (h : SeesL S xs ys) : xs.length = ys.length := by induction h <;> simp_all
theorem SeesL.get {S : AV → AV → Prop} {xs ys : List AV} (h : SeesL S xs ys) : ∀ (i : Nat) x y, xs[i]? = some x → ys[i]? = some y → S x y := by
  induction h with
  | nil => simp
  | cons h _ ih =>
    intro i x y hx hy
    cases i with
    | zero => simp at hx hy; subst hx; subst hy; exact h
    | succ i => exact ih i x y (by simpa using hx) (by simpa using hy)
theorem SeesL.get' {S : AV → AV → Prop} {xs ys : List AV} (h : SeesL S xs ys) {i : Nat} {y : AV} (hy : ys[i]? = some y) : ∃ x, xs[i]? = some x ∧ S x y := by
  have hi : i < xs.length := by have := getElem?_lt hy; rw [h.length]; exact this
  exact ⟨_, List.getElem?_eq_getElem hi, h.get i _ y (List.getElem?_eq_getElem hi) hy⟩

theorem Sees0.agg {xs ys : List AV} (h : SeesL Sees0 xs ys) : Sees0 (.agg xs) (.agg ys) := fun hx B' box' => by
  have hx := hx.agg_inv
  cases hx with
  | agg _ vs hl h1 hr =>
    refine .agg _ _ (by rw [← h.length]; exact hl) h1 (fun i c hc => ?_)
    obtain ⟨x, hx, hs⟩ := h.get' hc
    exact hs (.rep _ _ (hr i x hx)) B' box'

theorem Sees0.clo {f : Nat} {xs ys xs' ys' : List AV} (h : SeesL Sees0 xs ys) (h' : SeesL Sees0 xs' ys') : Sees0 (.clo f xs xs') (.clo f ys ys') := fun hx B' box' => by
  have hx := hx.clo_inv
  cases hx with
  | clo _ _ _ vf vc h1 h2 hr1 hr2 =>
    refine .clo f _ _ vf vc (by rw [← h.length]; exact h1) (by rw [← h'.length]; exact h2) (fun i c hc => ?_) (fun i c hc => ?_)
    · obtain ⟨x, hx, hs⟩ := h.get' hc
      exact hs (.rep _ _ (hr1 i x hx)) B' box'
    · obtain ⟨x, hx, hs⟩ := h'.get' hc
      exact hs (.rep _ _ (hr2 i x hx)) B' box'

theorem Rep.more {B : Nat} {w : World} {F F' : Nat → Nat} {box : List BId} {x : AV} {v : Value} (h : Rep B w F [] [] box x v) (hF : ∀ b, F b ≤ F' b) : Rep B w F' [] [] box x v :=
  h.later ⟨fun _ _ _ => rfl, hF, fun k t s n hk => by simp at hk⟩ (fun _ _ h => h)

theorem SeesB.of0 {bx : List ABox} {x y : AV} (h : Sees0 x y) : SeesB bx x y := fun _ _ hF _ hx B' box' => (h hx B' box').more hF

theorem SeesB.agg {bx : List ABox} {xs ys : List AV} (h : SeesL (SeesB bx) xs ys) : SeesB bx (.agg xs) (.agg ys) := fun F' hb hF hc hx B' box' => by
  have hx := hx.agg_inv
  cases hx with
  | agg _ vs hl h1 hr =>
    refine .agg _ _ (by rw [← h.length]; exact hl) h1 (fun i c hc' => ?_)
    obtain ⟨x, hx, hs⟩ := h.get' hc'
    exact hs F' hb hF hc (.rep _ _ (hr i x hx)) B' box'

theorem SeesB.clo {bx : List ABox} {f : Nat} {xs ys xs' ys' : List AV} (h : SeesL (SeesB bx) xs ys) (h' : SeesL (SeesB bx) xs' ys') : SeesB bx (.clo f xs xs') (.clo f ys ys') := fun F' hb hF hc hx B' box' => by
  have hx := hx.clo_inv
  cases hx with
  | clo _ _ _ vf vc h1 h2 hr1 hr2 =>
    refine .clo f _ _ vf vc (by rw [← h.length]; exact h1) (by rw [← h'.length]; exact h2) (fun i c hc' => ?_) (fun i c hc' => ?_)
    · obtain ⟨x, hx, hs⟩ := h.get' hc'
      exact hs F' hb hF hc (.rep _ _ (hr1 i x hx)) B' box'
    · obtain ⟨x, hx, hs⟩ := h'.get' hc'
      exact hs F' hb hF hc (.rep _ _ (hr2 i x hx)) B' box'

/-- a variable, read through its address -/
theorem SeesB.bptr {bx : List ABox} {j off : Nat} {k : RK} {cs ys : List AV} (hj : bx[j]? = some (.cells k cs)) (h : SeesL (SeesB bx) (cs.drop off) ys) (_hn : ∀ y ∈ ys, noRef y = true) : SeesB bx (.bptr j off) (.rptr ys) := fun F' hb hF hc hx B' box' => by
  obtain ⟨b, cap, hbj, rfl⟩ := hx.bptr_inv
  obtain ⟨c, t, hh, hle, hr, _⟩ := hb j _ _ hbj hj
  refine .rptr _ b off (fun i => c.getD (off + i) undef) (fun hne => ?_) (fun i y hy => ?_) (fun i y hy => ?_)
  · have h1 := h.length
    rw [List.length_drop] at h1
    have h2 := hc b c t _ hh
    have h3 : 0 < ys.length := List.length_pos_iff.2 hne
    omega
  · obtain ⟨x, hx, _⟩ := h.get' hy
    rw [List.getElem?_drop] at hx
    have hlt : off + i < c.size := by have := getElem?_lt hx; omega
    exact ⟨by simp [World.cell?, hh, hlt, Array.getD], (hr _ x hx).2⟩
  · obtain ⟨x, hx, hs⟩ := h.get' hy
    rw [List.getElem?_drop] at hx
    exact hs F' hb hF hc (.rep _ _ (hr _ x hx).1) B' []

/-- the row of a slice, read as a list -/
theorem SeesB.bsl {bx : List ABox} {j n t sz : Nat} {cs : List AV} {ys : List (List AV)} (hj : bx[j]? = some (.cells (.row t sz) cs)) (hn : ys.length = n) (hs : ∀ e ∈ ys, e.length = sz)
    (h : SeesL (SeesB bx) cs ys.flatten) : SeesB bx (.bsl j n) (.list none ys) := fun F' hb hF hc hx B' box' => by
  rcases hx.bsl_inv with ⟨b, cap, hbj, hcap, rfl⟩ | ⟨hbj, rfl, rfl⟩
  · obtain ⟨c, t', hh, hle, hr, _⟩ := hb j _ _ hbj hj
    subst hn
    have key : ∀ (i : Nat) e (q : Nat) y, ys[i]? = some e → e[q]? = some y → ∃ x, cs[i * sz + q]? = some x ∧ SeesB bx x y := by
      intro i e q y hi hq
      have : ∀ (ys : List (List AV)) (i : Nat) e, (∀ e ∈ ys, e.length = sz) → ys[i]? = some e → e[q]? = some y → ys.flatten[i * sz + q]? = some y := by
        intro ys
        induction ys with
        | nil => intro i e _ h; simp at h
        | cons d ys ih =>
          intro i e hall hi hq
          have hd := hall d (by simp)
          cases i with
          | zero => simp at hi; subst hi; rw [List.flatten_cons, Nat.zero_mul, Nat.zero_add, List.getElem?_append_left (getElem?_lt hq)]; exact hq
          | succ i =>
            rw [List.flatten_cons, List.getElem?_append_right (by rw [hd, Nat.add_mul]; omega), hd, show (i + 1) * sz + q - sz = i * sz + q by rw [Nat.add_mul]; omega]
            exact ih i e (fun e he => hall e (by simp [he])) (by simpa using hi) hq
      exact h.get' (this ys i e hs hi hq)
    have hlen : cs.length = ys.length * sz := by
      rw [h.length, List.length_flatten]
      have : ys.map List.length = List.replicate ys.length sz := List.eq_replicate_iff.2 ⟨by simp, fun b hb => by obtain ⟨e, he, rfl⟩ := List.mem_map.1 hb; exact hs e he⟩
      rw [this]; simp
    refine .list none ys _ cap sz b 0 (fun i q => c.getD (i * sz + q) undef) hcap (fun _ => rfl) hs (fun _ => ?_) (fun i e q y hi hq => ?_) (fun i e q y hi hq => ?_) (fun k hk => by cases hk)
    · have := hc b c t' _ hh; omega
    · obtain ⟨x, hx, _⟩ := key i e q y hi hq
      have hlt : i * sz + q < c.size := by have := getElem?_lt hx; omega
      exact ⟨by rw [Nat.zero_add]; simp [World.cell?, hh, hlt, Array.getD], (hr _ x hx).2⟩
    · obtain ⟨x, hx, hs'⟩ := key i e q y hi hq
      exact hs' F' hb hF hc (.rep _ _ (hr _ x hx).1) B' []
  · have : ys = [] := List.eq_nil_of_length_eq_zero hn
    subst this
    exact .list none [] none 0 0 0 0 (fun _ _ => undef) (Nat.le_refl _) (fun h => absurd rfl h) (by simp) (fun h => absurd rfl h) (by simp) (by simp) (fun k hk => by cases hk)

/-! trees -/
def BoxIn (bx : List ABox) (n : Nat) (bs : List ABox) : Prop := ∀ (i : Nat) b, bs[i]? = some b → bx[n + i]? = some b
theorem BoxIn.left {bx : List ABox} {n : Nat} {bs cs : List ABox} (h : BoxIn bx n (bs ++ cs)) : BoxIn bx n bs := fun i b hi => h i b (by rw [List.getElem?_append_left (getElem?_lt hi)]; exact hi)
theorem BoxIn.right {bx : List ABox} {n m : Nat} {bs cs : List ABox} (h : BoxIn bx n (bs ++ cs)) (hm : bs.length = m) : BoxIn bx (n + m) cs := fun i b hi => by
  have := h (m + i) b (by rw [List.getElem?_append_right (by omega), hm, Nat.add_sub_cancel_left]; exact hi)
  rw [Nat.add_assoc]; exact this
theorem BoxIn.mid (pre bs post : List ABox) : BoxIn (pre ++ bs ++ post) pre.length bs := fun i b hi => by
  rw [List.append_assoc, List.getElem?_append_right (by omega), Nat.add_sub_cancel_left, List.getElem?_append_left (getElem?_lt hi)]; exact hi

mutual
theorem sees_gv : ∀ (x : Tr) (bx : List ABox) (n : Nat), okT x = true → BoxIn bx n (gb x n) → SeesB bx (gv x n) (old x)
  | .v x, _, _, _, _ => SeesB.of0 (Sees0.val x)
  | .s x, _, _, _, _ => SeesB.of0 (Sees0.str x)
  | .l t sz xs, bx, n, ho, h => by
    rw [okT, Bool.and_eq_true] at ho
    refine SeesB.bsl (t := t) (sz := sz) (cs := gvLL xs (n + 1)) (h 0 _ rfl) (by rw [oldLL_eq]; simp) (fun e he => ?_) ?_
    · rw [oldLL_eq] at he
      obtain ⟨e', he', rfl⟩ := List.mem_map.1 he
      have := List.all_eq_true.1 ho.1 e' he'
      simpa using this
    · have h' : BoxIn bx (n + 1) (gbLL xs (n + 1)) := fun i b hi => by have := h (i + 1) b (by simpa [gb] using hi); rw [show n + 1 + i = n + (i + 1) by omega]; exact this
      exact sees_gvLL xs bx (n + 1) ho.2 h'
  | .a fs, bx, n, ho, h => SeesB.agg (sees_gvL fs bx n (by simpa [okT] using ho) h)
  | .p fs, bx, n, ho, h => fun F' hb hF hc hx B' box' => by
    have hs := sees_gvL fs bx n (by simpa [okT] using ho) h
    have hx := hx.tup_inv
    cases hx with
    | tup _ vs hl hr =>
      refine .tup _ _ (by rw [← hs.length]; exact hl) (fun i c hc' => ?_)
      obtain ⟨x, hx, hs'⟩ := hs.get' hc'
      exact hs' F' hb hF hc (.rep _ _ (hr i x hx)) B' box'
theorem sees_gvL : ∀ (xs : List Tr) (bx : List ABox) (n : Nat), okTL xs = true → BoxIn bx n (gbL xs n) → SeesL (SeesB bx) (gvL xs n) (oldL xs)
  | [], _, _, _, _ => .nil
  | x :: xs, bx, n, ho, h => by
    rw [okTL, Bool.and_eq_true] at ho
    exact .cons (sees_gv x bx n ho.1 h.left) (sees_gvL xs bx (n + nb x) ho.2 (h.right (length_gb x n)))
theorem sees_gvLL : ∀ (xs : List (List Tr)) (bx : List ABox) (n : Nat), okTLL xs = true → BoxIn bx n (gbLL xs n) → SeesL (SeesB bx) (gvLL xs n) (oldLL xs).flatten
  | [], _, _, _, _ => .nil
  | x :: xs, bx, n, ho, h => by
    rw [okTLL, Bool.and_eq_true] at ho
    have h1 := sees_gvL x bx n ho.1 h.left
    have h2 := sees_gvLL xs bx (n + nbL x) ho.2 (h.right (length_gbL x n))
    have app : ∀ {k1 k2 k3 k4 : List AV}, SeesL (SeesB bx) k1 k2 → SeesL (SeesB bx) k3 k4 → SeesL (SeesB bx) (k1 ++ k3) (k2 ++ k4) := by
      intro k1 k2 k3 k4 h1 h2
      induction h1 with
      | nil => exact h2
      | cons h _ ih => exact .cons h ih
    exact app h1 h2
end
end Abs
end Go.Proofs.Ytkbblglbbfdnpaa
namespace Go.Proofs.Ytkbblglbbfdnpaa
namespace Abs

/-! what has to be shown: nodes at which the evaluation stops -/
inductive Need (p q : Prop) : Prop | mk : p → q → Need p q
inductive Fork (b : Bool) (p q : Prop) : Prop | mk : (b = true → p) → (b = false → q) → Fork b p q
inductive Stop : Prop
inductive Round (p : Prop) : Prop | mk : p → Round p

def constAV (v : Value) : AV := match v with | .string s => .str s.data.toList | v => .val v
def decodeS (l : Str) (pos : Nat) : Nat × Nat := Utf8.decode ⟨l.toArray⟩ pos

def ev (e : Env) : Operand → AV
  | .tmp t => look e t
  | .const v => constAV v
  | .global g => .val (.pointer (some ⟨g, 0, none⟩))
  | .func f => .clo f [] []

def unG (gd : Bool) (x : AV) (k : AV → Prop) : Prop :=
  match x with
  | .cond g y => Need (gd = true → g = true) (k y)
  | .any => k .any
  | .val v => k (.val v)
  | .str s => k (.str s)
  | .list o xs => k (.list o xs)
  | .agg cs => k (.agg cs)
  | .tup vs => k (.tup vs)
  | .bptr j off => k (.bptr j off)
  | .bsl j n => k (.bsl j n)
  | .rptr cs => k (.rptr cs)
  | .clo f xs ys => k (.clo f xs ys)
  | .bmap j => k (.bmap j)
  | .tag v x => k (.tag v x)

def evG (gd : Bool) (e : Env) (x : Operand) (k : AV → Prop) : Prop := unG gd (ev e x) k

def evs (gd : Bool) (e : Env) : List Operand → (List AV → Prop) → Prop
  | [], k => k []
  | x :: xs, k => evG gd e x fun v => evs gd e xs fun vs => k (v :: vs)

def gInt (x : AV) (k : IntKind → Int → Prop) : Prop := match x with | .val (.int kd n) => k kd n | _ => Stop
def gBool (x : AV) (k : Bool → Prop) : Prop := match x with | .val (.bool b) => k b | _ => Stop
def gList (x : AV) (k : List (List AV) → Prop) : Prop :=
  match x with | .list _ xs => k xs | .val (.slice none 0 0) => k [] | _ => Stop

def aInt (op : BinOp) (k : IntKind) (a b : Int) (K : Value → Prop) : Prop :=
  match op with
  | .add => K (.int k (k.wrap (a + b)))
  | .sub => K (.int k (k.wrap (a - b)))
  | .mul => K (.int k (k.wrap (a * b)))
  | .quo => Need (b ≠ 0) (K (.int k (k.wrap (a.tdiv b))))
  | .rem => Need (b ≠ 0) (K (.int k (a.tmod b)))
  | .and => K (.int k (k.wrap ((BitVec.ofInt k.bits a) &&& (BitVec.ofInt k.bits b)).toNat))
  | .or => K (.int k (k.wrap ((BitVec.ofInt k.bits a) ||| (BitVec.ofInt k.bits b)).toNat))
  | .xor => K (.int k (k.wrap ((BitVec.ofInt k.bits a) ^^^ (BitVec.ofInt k.bits b)).toNat))
  | .eql => K (.bool (a == b))
  | .neq => K (.bool (a != b))
  | .lss => K (.bool (a < b))
  | .leq => K (.bool (a ≤ b))
  | .gtr => K (.bool (b < a))
  | .geq => K (.bool (b ≤ a))
  | _ => Stop

def aStr (op : BinOp) (a b : Str) (K : AV → Prop) : Prop :=
  match op with
  | .add => Need (a.length + b.length ≤ 1099511627776) (K (.str (a ++ b)))
  | .eql => K (.val (.bool (a == b)))
  | .neq => K (.val (.bool (!(a == b))))
  | .lss => K (.val (.bool (Op.bytesLess a b)))
  | .geq => K (.val (.bool (!(Op.bytesLess a b))))
  | .gtr => K (.val (.bool (!(Op.bytesLess a b || a == b))))
  | .leq => K (.val (.bool ((Op.bytesLess a b || a == b))))
  | _ => Stop

def aBool (op : BinOp) (a b : Bool) (K : Value → Prop) : Prop :=
  match op with
  | .eql => K (.bool (a == b))
  | .neq => K (.bool (!(a == b)))
  | _ => Stop

def aBin (op : BinOp) (x y : AV) (K : AV → Prop) : Prop :=
  match x with
  | .val (.int k a) => match y with
    | .val (.int k' b) => match op with
      | .shl => Need (0 ≤ b) (K (.val (.int k (k.wrap (a * 2 ^ (min b.toNat k.bits))))))
      | .shr => Need (0 ≤ b) (K (.val (.int k (a.fdiv (2 ^ (min b.toNat k.bits))))))
      | op => Need (k' = k) (aInt op k a b fun v => K (.val v))
    | _ => Stop
  | .str a => match y with | .str b => aStr op a b K | _ => Stop
  | _ => Stop

def ptrCells (b : List ABox) (x : AV) (k : List AV → Prop) : Prop :=
  match x with
  | .rptr cs => k cs
  | .bptr j off => match b[j]? with | some (.cells _ cs) => k (cs.drop off) | _ => Stop
  | _ => Stop

def takeAV (agg : Bool) (n : Nat) (cs : List AV) (k : AV → Prop) : Prop :=
  match agg with
  | true => Need (n ≤ cs.length) (k (.agg (cs.take n)))
  | false => match cs with | c :: _ => k c | [] => Stop

def gStr (x : AV) (k : Str → Prop) : Prop := match x with | .str s => k s | _ => Stop
def lenK (isS : Bool) (x : AV) (k : Nat → Prop) : Prop := match isS with | true => gStr x fun s => k s.length | false => gList x fun xs => k xs.length

/-- the length, of a made slice too -/
def lenK' (isS : Bool) (x : AV) (k : Nat → Prop) : Prop :=
  match isS with
  | true => gStr x fun s => k s.length
  | false => match x with | .bsl _ n => k n | .list _ xs => k xs.length | .val (.slice none 0 0) => k 0 | _ => Stop

def bound (gd : Bool) (e : Env) (x : Option Operand) (d : Nat) (k : Int → Prop) : Prop :=
  match x with | none => k d | some x => evG gd e x fun x => gInt x fun _ n => k n

/-- an element of a slice: its cells are named by whoever proves it -/
inductive Ix (gd : Bool) (xs : List (List AV)) (i : Int) (sz : Nat) (k : List AV → Prop) : Prop
  | mk (c : List AV) (h : gd = true → 0 ≤ i ∧ xs[i.toNat]? = some c ∧ c.length = sz) (hk : k c) : Ix gd xs i sz k
/-- a part of a slice, likewise -/
inductive Cut (gd : Bool) (xs : List (List AV)) (lo hi : Int) (sz : Nat) (k : List (List AV) → Prop) : Prop
  | mk (ys : List (List AV)) (h : gd = true → 0 ≤ lo ∧ lo ≤ hi ∧ hi ≤ xs.length ∧ (∀ c ∈ xs, c.length = sz) ∧ (xs.take hi.toNat).drop lo.toNat = ys) (hk : k ys) : Cut gd xs lo hi sz k

def sliceK (isS gd : Bool) (sz : Nat) (x : AV) (lo hi : Int) (k : AV → Prop) : Prop :=
  match isS with
  | true => gStr x fun s => Need (gd = true → 0 ≤ lo ∧ lo ≤ hi ∧ hi ≤ s.length) (k (.str ((s.take hi.toNat).drop lo.toNat)))
  | false => gList x fun xs => Cut gd xs lo hi sz fun ys => k (.list none ys)

def fadrK (off : Nat) (x : AV) (k : AV → Prop) : Prop :=
  match x with
  | .rptr cs => k (.rptr (cs.drop off))
  | .bptr j o => k (.bptr j (o + off))
  | _ => Stop

def byteCell (b : UInt8) : List AV := [.val (.int .u8 b.toNat)]
/-- the bytes of a slice: named by whoever proves it -/
inductive Bytes (xs : List (List AV)) (k : List UInt8 → Prop) : Prop | mk (l : List UInt8) (h : xs = l.map byteCell) (hk : k l) : Bytes xs k

/-- a slice held against nil: what is without an element may be either -/
inductive NilQ (n : Nat) (ne : Bool) (k : AV → Prop) : Prop | mk (h : ∀ b : Bool, (b = true → n = 0) → k (.val (.bool (b != ne)))) : NilQ n ne k
def nilK (ne : Bool) (x : AV) (k : AV → Prop) : Prop :=
  match x with
  | .list _ xs => NilQ xs.length ne k
  | .bsl _ n => NilQ n ne k
  | .val (.slice none 0 0) => k (.val (.bool !ne))
  | _ => Stop

/-! maps of texts -/
def mget : List (Str × Str) → Str → Option Str
  | [], _ => none
  | p :: m, k => if p.1 = k then some p.2 else mget m k
def mput : List (Str × Str) → Str → Str → List (Str × Str)
  | [], k, v => [(k, v)]
  | p :: m, k, v => if p.1 = k then (k, v) :: m else p :: mput m k v
def mbox (b : List ABox) (x : AV) (k : Nat → List (Str × Str) → Prop) : Prop :=
  match x with
  | .bmap j => match b[j]? with | some (.map m) => k j m | _ => Stop
  | _ => Stop
def mgetK (ok : Bool) (m : List (Str × Str)) (x : Str) (k : AV → Prop) : Prop :=
  match ok with
  | true => k (.tup [.str ((mget m x).getD []), .val (.bool (mget m x).isSome)])
  | false => k (.str ((mget m x).getD []))
/-! maps of other kinds -/
def vget : List (MA × MA) → MA → Option MA
  | [], _ => none
  | p :: m, k => if p.1 = k then some p.2 else vget m k
def vput : List (MA × MA) → MA → MA → List (MA × MA)
  | [], k, v => [(k, v)]
  | p :: m, k, v => if p.1 = k then (k, v) :: m else p :: vput m k v
def vbox (b : List ABox) (kk vk : MK) (x : AV) (k : Nat → List (MA × MA) → Prop) : Prop :=
  match x with
  | .bmap j => match b[j]? with | some (.vmap kk' vk' m) => Need (kk' = kk) (Need (vk' = vk) (k j m)) | _ => Stop
  | _ => Stop
def mlenK (b : List ABox) (x : AV) (k : Nat → Prop) : Prop :=
  match x with
  | .bmap j => match b[j]? with | some (.map m) => k m.length | some (.vmap _ _ m) => k m.length | _ => Stop
  | _ => Stop
def gMA (kk : MK) (x : AV) (k : MA → Prop) : Prop :=
  match kk with
  | .kInt kd => gInt x fun kd' n => Need (kd' = kd) (k (.aInt kd n))
  | .kBool => gBool x fun b => k (.aBool b)
  | .kStr => gStr x fun s => k (.aStr s)
def intOf (o : Option MA) : Int := match o with | some (.aInt _ n) => n | _ => 0
def boolOf (o : Option MA) : Bool := match o with | some (.aBool x) => x | _ => false
def strOf (o : Option MA) : Str := match o with | some (.aStr x) => x | _ => []
def vgetK (ok : Bool) (vk : MK) (o : Option MA) (k : AV → Prop) : Prop :=
  match vk with
  | .kInt kd => (match ok with | true => k (.tup [.val (.int kd (intOf o)), .val (.bool o.isSome)]) | false => k (.val (.int kd (intOf o))))
  | .kBool => (match ok with | true => k (.tup [.val (.bool (boolOf o)), .val (.bool o.isSome)]) | false => k (.val (.bool (boolOf o))))
  | .kStr => (match ok with | true => k (.tup [.str (strOf o), .val (.bool o.isSome)]) | false => k (.str (strOf o)))

/-- flat structs, cell by cell -/
def eqC : List Nat → List AV → List AV → (Bool → Prop) → Prop
  | [], _, _, k => k true
  | q :: ks, cs, ds, k => match cs with
    | [] => Stop
    | x :: cs => match ds with
      | [] => Stop
      | y :: ds => match q with
        | 0 => gStr x fun a => gStr y fun b => eqC ks cs ds fun r => k (a == b && r)
        | 1 => gInt x fun k1 a => gInt y fun k2 b => Need (k1 = k2) (eqC ks cs ds fun r => k (a == b && r))
        | _ => gBool x fun a => gBool y fun b => eqC ks cs ds fun r => k (a == b && r)
def eqsK (ne : Bool) (ks : List Nat) (x y : AV) (k : AV → Prop) : Prop :=
  match x with
  | .agg cs => (match y with
    | .agg ds => eqC ks cs ds fun r => (match ne with | true => k (.val (.bool (!r))) | false => k (.val (.bool r)))
    | _ => Stop)
  | _ => Stop
/-- operations that leave the state alone -/
def aVal (op : AOp) (gd : Bool) (e : Env) (b : List ABox) (k : AV → Prop) : Prop :=
  match op with
  | .mv x => evG gd e x k
  | .and c a => evG gd e c fun c => gBool c fun c => evG (gd && c) e a fun a => gBool a fun a => k (.val (.bool (c && a)))
  | .or c a => evG gd e c fun c => gBool c fun c => evG (gd && !c) e a fun a => gBool a fun a => k (.val (.bool (c || a)))
  | .bin op x y => evG gd e x fun x => evG gd e y fun y => aBin op x y k
  | .binb op x y => evG gd e x fun x => evG gd e y fun y => gBool x fun x => gBool y fun y => aBool op x y fun v => k (.val v)
  | .not x => evG gd e x fun x => gBool x fun x => k (.val (.bool !x))
  | .eqs ne ks x y => evG gd e x fun x => evG gd e y fun y => eqsK ne ks x y k
  | .neg x => evG gd e x fun x => gInt x fun kd n => k (.val (.int kd (kd.wrap (-n))))
  | .nilq ne x => evG gd e x fun x => nilK ne x k
  | .conv kd x => evG gd e x fun x => gInt x fun _ n => k (.val (.int kd (kd.wrap n)))
  | .b2s x => evG gd e x fun x => gList x fun xs => Bytes xs fun l => k (.str l)
  | .load agg n x => evG gd e x fun x => ptrCells b x fun cs => takeAV agg n cs k
  | .fadr off x => evG gd e x fun x => fadrK off x k
  | .field agg off n x => evG gd e x fun x => match x with
    | .agg cs => takeAV agg n (cs.drop off) k
    | _ => Stop
  | .iadr sz x i => evG gd e x fun x => evG gd e i fun i => match x with
    | .bsl j n => gInt i fun _ i => Need (gd = true → 0 ≤ i ∧ i < n) (k (.bptr j (i.toNat * sz)))
    | .list _ xs => gInt i fun _ i => Ix gd xs i sz fun c => k (.rptr c)
    | _ => Stop
  | .index x i => evG gd e x fun x => evG gd e i fun i => gInt i fun _ i => gStr x fun s =>
      Need (gd = true → 0 ≤ i ∧ i < s.length) (k (.val (.int .u8 (s.getD i.toNat 0).toNat)))
  | .slice s sz x lo hi => evG gd e x fun x => lenK s x fun n => bound gd e lo 0 fun lo => bound gd e hi n fun hi => sliceK s gd sz x lo hi k
  | .extract x i => evG gd e x fun x => match x with | .tup vs => (match vs[i]? with | some v => k v | none => Stop) | _ => Stop
  | .len s x => evG gd e x fun x => lenK' s x fun n => k (.val (.int .i64 n))
  | .lookup ok x i => evG gd e x fun x => evG gd e i fun i => mbox b x fun _ m => gStr i fun i => Need (gd = true → i.length ≤ maxLen) (mgetK ok m i k)
  | .mlen x => evG gd e x fun x => mlenK b x fun n => k (.val (.int .i64 n))
  | .vlook ok kk vk x i => evG gd e x fun x => evG gd e i fun i => vbox b kk vk x fun _ m => gMA kk i fun i => vgetK ok vk (vget m i) k
  | .mm mx x y => evG gd e x fun x => evG gd e y fun y => gInt x fun kd a => gInt y fun _ b => (match mx with | true => k (.val (.int kd (max a b))) | false => k (.val (.int kd (min a b))))
  | _ => Stop

/-- the cells of a made slice -/
def madeK (z : List Value) (n : Nat) : List AV := (List.range n).map fun i => constAV (z.getD (i % z.length) undef)

def setAt {α : Type} (cs : List α) (off : Nat) : List α → List α
  | [] => cs
  | x :: xs => setAt (cs.set off x) (off + 1) xs

def fillAt {α : Type} (cs : List α) : List Nat → List (List α) → List α
  | o :: os, x :: xs => fillAt (setAt cs o x) os xs
  | _, _ => cs

/-- the cells that a value takes in memory, where that is known -/
def cellsK (x : AV) (k : List AV → Prop) : Prop :=
  match x with
  | .agg cs => k cs
  | .list o xs => k [.list o xs]
  | .str s => k [.str s]
  | .bptr j off => k [.bptr j off]
  | .bsl j n => k [.bsl j n]
  | .rptr cs => k [.rptr cs]
  | .clo f xs ys => k [.clo f xs ys]
  | .bmap j => k [.bmap j]
  | .tag v x => k [.tag v x]
  | .val (.agg vs) => Need (vs.all (·.oneCell') = true) (k (vs.toList.map constAV))
  | .val (.tuple _) => Stop
  | .val v => k [.val v]
  | _ => Stop

def cellsKs : List AV → (List (List AV) → Prop) → Prop
  | [], k => k []
  | x :: xs, k => cellsK x fun c => cellsKs xs fun cs => k (c :: cs)

/-! to work a state out, before it is carried on -/
def ap (k : AV → Prop) (x : AV) : Prop := k x
def forceK (x : AV) (k : AV → Prop) : Prop :=
  match x with
  | .any => ap k .any
  | .val v => ap k (.val v)
  | .str s => ap k (.str s)
  | .list o xs => (match o with | none => ap k (.list none xs) | some j => ap k (.list (some j) xs))
  | .agg cs => ap k (.agg cs)
  | .tup vs => ap k (.tup vs)
  | .bptr j off => ap k (.bptr j off)
  | .bsl j n => ap k (.bsl j n)
  | .rptr cs => ap k (.rptr cs)
  | .clo f xs ys => ap k (.clo f xs ys)
  | .bmap j => ap k (.bmap j)
  | .tag v x => ap k (.tag v x)
  | .cond g x => ap k (.cond g x)
def forceEnv : Env → List Nat → (Env → Prop) → Prop
  | _, [], k => k []
  | e, i :: K, k => forceK (look e i) fun x => forceEnv e K fun e' => k ((i, x) :: e')
def forceBx : List ABox → (List ABox → Prop) → Prop
  | [], k => k []
  | .cells rk cs :: r, k => forceBx r fun r => k (.cells rk cs :: r)
  | .iter s p :: r, k => forceBx r fun r => k (.iter s p :: r)
  | .map m :: r, k => forceBx r fun r => k (.map m :: r)
  | .vmap kk vk m :: r, k => forceBx r fun r => k (.vmap kk vk m :: r)
  | .dead :: r, k => forceBx r fun r => k (.dead :: r)

/-- where a call hands back a plain value and nothing of its own -/
def isScal (x : AV) : Bool := match x with | .val _ => true | .str _ => true | _ => false
def isScalR (r : AV) : Bool := match r with | .tup vs => vs.all isScal | r => isScal r

/-- what is known of functions: what they hand back (and which slices are new), trees of their own, and what they turn in boxes that are lent to them -/
structure Con where
  ret : Nat → List AV → AV → Fr → Prop
  own : Nat → List AV → Tr → Prop
  turn : Nat → List ABox → List AV → AV → List ABox → Prop
  ctx : Nat → List ABox → List AV → (AV → List ABox → Prop) → Prop
  lent : Nat → List ABox → List AV → (AV → List ABox → Fr → Prop) → Prop
  /-- the caller's own memory handed on -/
  ins : Nat → List ABox → Fr → List AV → (AV → List ABox → Fr → Prop) → Prop

def SeesM (x : Tr) (n : Nat) (u y : AV) : Prop := (u = gv x n ∧ y = gv x 0) ∨ Sees0 u y

/-! no slices of the caller's own in it -/
mutual
def noTk : AV → Bool
  | .list none xs => noTkLL xs
  | .list (some _) _ => false
  | .rptr cs => noTkL cs
  | .cond _ _ => false
  | .agg cs => noTkL cs
  | .tup cs => noTkL cs
  | .clo _ a b => noTkL a && noTkL b
  | .any => true
  | .val _ => true
  | .str _ => true
  | .bptr _ _ => true
  | .bsl _ _ => true
  | .bmap _ => true
  | .tag _ x => noTk x
def noTkL : List AV → Bool
  | [] => true
  | c :: cs => noTk c && noTkL cs
def noTkLL : List (List AV) → Bool
  | [] => true
  | c :: cs => noTkL c && noTkLL cs
end
/-- a callee that is lent boxes sees a value as it is, or as data -/
def SeesC (u y : AV) : Prop := (u = y ∧ noTk y = true) ∨ Sees0 u y
/-- boxes that are lent: some of them, the others are not seen -/
inductive Lends : List ABox → List ABox → Prop
  | nil : Lends [] []
  | hide (x : ABox) {b b0 : List ABox} (h : Lends b b0) : Lends (x :: b) (.dead :: b0)
  | lend (k : RK) (cs : List AV) (hc : ∀ c ∈ cs, noTk c = true) {b b0 : List ABox} (h : Lends b b0) : Lends (.cells k cs :: b) (.cells k cs :: b0)
  | map (m : List (Str × Str)) {b b0 : List ABox} (h : Lends b b0) : Lends (.map m :: b) (.map m :: b0)
  | vmap (kk vk : MK) (m : List (MA × MA)) {b b0 : List ABox} (h : Lends b b0) : Lends (.vmap kk vk m :: b) (.vmap kk vk m :: b0)
/-- what becomes of the boxes, some of which were lent -/
def merge : List ABox → List ABox → List ABox → List ABox
  | [], _, b1 => b1
  | x :: b, .dead :: b0, _ :: b1 => x :: merge b b0 b1
  | _ :: b, .cells _ _ :: b0, y :: b1 => y :: merge b b0 b1
  | _ :: b, .iter _ _ :: b0, y :: b1 => y :: merge b b0 b1
  | _ :: b, .map _ :: b0, y :: b1 => y :: merge b b0 b1
  | _ :: b, .vmap _ _ _ :: b0, y :: b1 => y :: merge b b0 b1
  | b, _, _ => b
def noCond (xs : List AV) : Bool := xs.all fun x => match x with | .cond _ _ => false | _ => true

section
variable (C : Con) (K : List Nat) (nb : Nat)

/-- values with tags -/
def tags (us : List Value) (zs : List AV) : List AV := List.zipWith AV.tag us zs
/-- what is handed back, some of which is what was handed in: where a value lies (us) stands what is known of it (cs) -/
inductive SubR (n : Nat) (us : List Value) (cs : List AV) : AV → AV → Prop
  | tag (i : Nat) (u : Value) (y c : AV) (hu : us[i]? = some u) (hc : cs[i]? = some c) : SubR n us cs (.tag u y) c
  | val (v : Value) : SubR n us cs (.val v) (.val v)
  | str (s : Str) : SubR n us cs (.str s) (.str s)
  | list (o : Option Nat) (ys zs : List (List AV)) (hl : ys.length = zs.length) (hs : ∀ (i : Nat) y z, ys[i]? = some y → zs[i]? = some z → y.length = z.length)
      (he : ∀ (i j : Nat) y z a b, ys[i]? = some y → zs[i]? = some z → y[j]? = some a → z[j]? = some b → SubR n us cs a b) : SubR n us cs (.list o ys) (.list (o.map (· + n)) zs)
  | agg (xs ys : List AV) (hl : xs.length = ys.length) (h : ∀ (i : Nat) a b, xs[i]? = some a → ys[i]? = some b → SubR n us cs a b) : SubR n us cs (.agg xs) (.agg ys)
  | tup (xs ys : List AV) (hl : xs.length = ys.length) (h : ∀ (i : Nat) a b, xs[i]? = some a → ys[i]? = some b → SubR n us cs a b) : SubR n us cs (.tup xs) (.tup ys)

/-- a call: what it hands back is named by whoever proves it -/
inductive ACall (lend : Bool) (f : Nat) (vs : List AV) (b : List ABox) (fr : Fr) (k : AV → List ABox → Fr → Prop) : Prop
  | mk (ys : List AV) (r : AV) (frs : Fr) (h : C.ret f ys r frs) (hv : SeesL Sees0 vs ys) (hk : k (shift fr.length r) b (fr ++ frs)) : ACall lend f vs b fr k
  | scal (ys : List AV) (r : AV) (h : C.ret f ys r []) (hr : isScalR r = true) (hv : SeesL (SeesB b) vs ys) (hk : k r b fr) : ACall lend f vs b fr k
  | old (ys : List AV) (x : Tr) (h : C.own f ys x) (hv : SeesL (SeesB b) vs ys) (ho : okT x = true) (hk : k (old x) b fr) : ACall lend f vs b fr k
  | unb (ys : List AV) (x : Tr) (h : C.own f ys x) (hv : SeesL (SeesB b) vs ys) (hk : k (gv x b.length) (b ++ gb x b.length) fr) : ACall lend f vs b fr k
  | turn (hl : lend = true) (ys : List AV) (x x' : Tr) (r : AV) (pre post : List ABox) (h : C.turn f (gb x 0) ys r (gb x' 0)) (hr : isScalR r = true) (hb : b = pre ++ gb x pre.length ++ post) (hn : Abs.nb x' = Abs.nb x)
      (hv : SeesL (SeesM x pre.length) vs ys) (hk : k r (pre ++ gb x' pre.length ++ post) fr) : ACall lend f vs b fr k
  /-- boxes are lent as they lie: what is known afterwards is named by whoever proves it -/
  | ctx (hl : lend = true) (b0 : List ABox) (ys : List AV) (Φ : AV → List ABox → Prop) (h : C.ctx f b0 ys Φ) (hb : Lends b b0) (hv : SeesL SeesC vs ys) (hk : ∀ r b1, Φ r b1 → k r (merge b b0 b1) fr) : ACall lend f vs b fr k
  /-- likewise, and with slices of its own among what is handed back -/
  | lent (hl : lend = true) (b0 : List ABox) (ys : List AV) (Φ : AV → List ABox → Fr → Prop) (h : C.lent f b0 ys Φ) (hb : Lends b b0) (hv : SeesL SeesC vs ys) (hk : ∀ r b1 frs, Φ r b1 frs → k (shiftK fr.length r) (merge b b0 b1) (fr ++ frs)) : ACall lend f vs b fr k
  /-- all that is known is handed on -/
  | ins (hl : lend = true) (Φ : AV → List ABox → Fr → Prop) (h : C.ins f b fr vs Φ) (hn : noCond vs = true) (hk : ∀ r b1 f1, Φ r b1 f1 → k r b1 f1) : ACall lend f vs b fr k
  /-- a struct whose cells the callee may hand on: it is handed values with tags -/
  | alias (v1 v2 y1 y2 cs zs : List AV) (r : List Value → AV) (r' : AV) (frs : Fr) (hvs : vs = v1 ++ .agg cs :: v2) (hc : ∀ c ∈ cs, noRef c = true) (h1 : SeesL Sees0 v1 y1) (h2 : SeesL Sees0 v2 y2) (hz : SeesL Sees0 cs zs)
      (h : ∀ us : List Value, us.length = cs.length → C.ret f (y1 ++ .agg (tags us zs) :: y2) (r us) frs) (hr : ∀ us : List Value, us.length = cs.length → SubR fr.length us cs (r us) r') (hk : k r' b (fr ++ frs)) : ACall lend f vs b fr k

/-- a call in a region that draws its order, or under a guard -/
inductive AQCall (f : Nat) (vs : List AV) (gd : Bool) (b : List ABox) (k : AV → Prop) : Prop
  | mk (ys : List AV) (r : AV) (h : gd = true → C.ret f ys r []) (hr : isScalR r = true) (hv : gd = true → SeesL (SeesB b) vs ys) (hk : k r) : AQCall f vs gd b k

/-- .. struct literals too -/
def aValB (op : AOp) (gd : Bool) (e : Env) (b : List ABox) (k : AV → Prop) : Prop :=
  match op with
  | .build z pl ps => evs gd e ps fun vs => cellsKs vs fun cs => Need (cs.map List.length = pl.map (·.2)) (k (.agg (fillAt (z.map constAV) (pl.map (·.1)) cs)))
  | .clo g xs ys => evs gd e xs fun xs => evs gd e ys fun ys => Need (noCond xs = true ∧ noCond ys = true) (k (.clo g xs ys))
  | op => aVal op gd e b k
/-- operations of a region that draws its order, or under a guard -/
def aQuiet (op : AOp) (gd : Bool) (e : Env) (b : List ABox) (k : AV → Prop) : Prop :=
  match op with
  | .call g args => evs gd e args fun vs => AQCall C g vs gd b k
  | op => aValB op gd e b k

/-- a literal that is only read, or the literal's row as a box -/
inductive Lit (t sz : Nat) (cs : List (List AV)) (b : List ABox) (f : Fr) (k : AV → List ABox → Fr → Prop) : Prop
  | read (h : cs.all (fun c => c.all noRef) = true) (hk : k (.list none cs) b f) : Lit t sz cs b f k
  | box (hk : k (.bsl b.length cs.length) (b ++ [.cells (.row t sz) cs.flatten]) f) : Lit t sz cs b f k

/-- a literal that is one's own slice, or a row in a box -/
inductive LitO (t sz : Nat) (cs : List (List AV)) (b : List ABox) (f : Fr) (k : AV → List ABox → Fr → Prop) : Prop
  | own (h : cs.all (fun c => c.all noRef) = true) (hk : k (.list (some f.length) cs) b (f ++ [(t, sz, cs.length)])) : LitO t sz cs b f k
  | box (hk : k (.bsl b.length cs.length) (b ++ [.cells (.row t sz) cs.flatten]) f) : LitO t sz cs b f k

/-- .. under a guard, where operations come in order: a call may hand back a tree of its own, which is only read -/
inductive AGCall (f : Nat) (vs : List AV) (gd : Bool) (b : List ABox) (k : AV → Prop) : Prop
  | scal (h : AQCall C f vs gd b k) : AGCall f vs gd b k
  | old (ys : List AV) (x : Tr) (h : gd = true → C.own f ys x) (hv : gd = true → SeesL (SeesB b) vs ys) (ho : okT x = true) (hk : k (old x)) : AGCall f vs gd b k
def aGuard (op : AOp) (gd : Bool) (e : Env) (b : List ABox) (k : AV → Prop) : Prop :=
  match op with
  | .call g args => evs gd e args fun vs => AGCall C g vs gd b k
  | op => aValB op gd e b k

/-- the cells of what is appended -/
def elemsK (b : List ABox) (sz : Nat) (y : AV) (k : List AV → Nat → Prop) : Prop :=
  match y with
  | .bsl j m => (match b[j]? with
    | some (.cells (.row _ sz') cs) => Need (sz' = sz) (Need (cs.length = m * sz) (k cs m))
    | _ => Stop)
  | .list _ ys => Need (∀ c ∈ ys, c.length = sz) (k ys.flatten ys.length)
  | .val (.slice none 0 0) => k [] 0
  | _ => Stop

def appK (t sz bytes : Nat) (x y : AV) (b : List ABox) (f : Fr) (k : AV → List ABox → Fr → Prop) : Prop :=
  match x with
  | .list (some j) xs => gList y fun ys => (match f[j]? with
    | some (t', sz', n) => Need (t' = t) (Need (sz' = sz) (Need (n = xs.length) (Need (∀ c ∈ ys, c.length = sz) (Need ((xs.length + ys.length) * bytes ≤ 140737488355328 ∧ xs.length + ys.length ≤ 1099511627776)
      (k (.list (some j) (xs ++ ys)) b (f.set j (t, sz, xs.length + ys.length)))))))
    | none => Stop)
  | .val (.slice none 0 0) => (match y with
    | .bsl j m => elemsK b sz (.bsl j m) fun cs m => Need (m * bytes ≤ 140737488355328 ∧ m ≤ 1099511627776) (k (.bsl (b.length + 1) m) (b ++ [.dead, .cells (.row t sz) cs]) f)
    | .list o ys => Need (∀ c ∈ ys, c.length = sz) (Need (ys.length * bytes ≤ 140737488355328 ∧ ys.length ≤ 1099511627776) (k (.list (some f.length) ys) b (f ++ [(t, sz, ys.length)])))
    | .val (.slice none 0 0) => k (.list (some f.length) []) b (f ++ [(t, sz, 0)])
    | _ => Stop)
  | .bsl j n => (match b[j]? with
    | some (.cells (.row t' sz') xs) => Need (t' = t) (Need (sz' = sz) (Need (xs.length = n * sz) (elemsK b sz y fun cs m => Need ((n + m) * bytes ≤ 140737488355328 ∧ n + m ≤ 1099511627776)
      (k (.bsl b.length (n + m)) (b.set j .dead ++ [.cells (.row t sz) (xs ++ cs)]) f))))
    | _ => Stop)
  | _ => Stop

def aOp (op : AOp) (e : Env) (b : List ABox) (f : Fr) (k : AV → List ABox → Fr → Prop) : Prop :=
  match op with
  | .mv x => k (ev e x) b f
  | .box x => evG true e x fun x => cellsK x fun cs => k (.bptr b.length 0) (b ++ [.cells .var cs]) f
  | .alloc z => k (.bptr b.length 0) (b ++ [.cells .var (z.map constAV)]) f
  | .make t z sz bytes l => evG true e l fun l => gInt l fun _ n => Need (0 ≤ n ∧ (bytes : Int) * n ≤ 281474976710656 ∧ n ≤ 1099511627776)
      (k (.bsl b.length n.toNat) (b ++ [.cells (.row t sz) (madeK z (n.toNat * sz))]) f)
  | .build z pl ps => evs true e ps fun vs => cellsKs vs fun cs => Need (cs.map List.length = pl.map (·.2)) (k (.agg (fillAt (z.map constAV) (pl.map (·.1)) cs)) b f)
  | .bslice t sz own ps => evs true e ps fun vs => cellsKs vs fun cs => Need (cs.all (fun c => c.length == sz) = true)
      (match own with
        | true => LitO t sz cs b f k
        | false => Lit t sz cs b f k)
  | .append t sz bytes x y => evG true e x fun x => evG true e y fun y => appK t sz bytes x y b f k
  | .store n p x => evG true e p fun p => evG true e x fun x => cellsK x fun cs => match p with
    | .bptr j off => match b[j]? with
      | some (.cells rk old) => Need (cs.length = n ∧ off + n ≤ old.length) (k (.val (.tuple #[])) (b.set j (.cells rk (setAt old off cs))) f)
      | _ => Stop
    | _ => Stop
  | .range x => evG true e x fun x => match x with
    | .str s => k (.bptr b.length 0) (b ++ [.iter s 0]) f
    | _ => Stop
  | .next x => evG true e x fun x => match x with
    | .bptr j 0 => match b[j]? with
      | some (.iter s pos) => Fork (decide (pos < s.length))
          (k (.tup [.val (.bool true), .val (.int .i64 pos), .val (.int .i32 (decodeS s pos).1)]) (b.set j (.iter s (pos + (decodeS s pos).2))) f)
          (k (.tup [.val (.bool false)]) b f)
      | _ => Stop
    | _ => Stop
  | .mmap => k (.bmap b.length) (b ++ [.map []]) f
  | .mput x i v => evG true e x fun x => evG true e i fun i => evG true e v fun v => mbox b x fun j m => gStr i fun i => gStr v fun v =>
      Need (i.length ≤ maxLen ∧ v.length ≤ maxLen ∧ m.length < maxLen) (k (.val (.tuple #[])) (b.set j (.map (mput m i v))) f)
  | .vmap kk vk => k (.bmap b.length) (b ++ [.vmap kk vk []]) f
  | .vput kk vk x i v => evG true e x fun x => evG true e i fun i => evG true e v fun v => vbox b kk vk x fun j m => gMA kk i fun i => gMA vk v fun v =>
      k (.val (.tuple #[])) (b.set j (.vmap kk vk (vput m i v))) f
  | .call g args => evs true e args fun vs => ACall C true g vs b f k
  | .callv x args => evG true e x fun x => evs true e args fun vs => match x with
    | .clo g xs ys => ACall C true g (xs ++ vs ++ ys) b f k
    | _ => Stop
  | .clo g xs ys => evs true e xs fun xs => evs true e ys fun ys => Need (noCond xs = true ∧ noCond ys = true) (k (.clo g xs ys) b f)
  | op => aVal op true e b fun v => k v b f

def guardOf (want : Bool) (x : AV) (k : Bool → Prop) : Prop :=
  match x with
  | .val (.bool b) => (match want with | true => k b | false => k (!b))
  | .cond g (.val (.bool b)) => (match want with | true => k (g && b) | false => k (g && !b))
  | _ => Stop

/-- an operation under a guard: whatever the guard is, or each case for itself (a call that is handed an address) -/
inductive GFork (gd : Bool) (q t : Prop) (f : AV → Prop) : Prop
  | quiet (h : q) : GFork gd q t f
  | fork (x : AV) (ht : gd = true → t) (hf : gd = false → f x) : GFork gd q t f
def isPtrV : AV → Bool
  | .bptr _ _ => true
  | .cond _ (.bptr _ _) => true
  | _ => false
def forks (e : Env) : AOp → Bool
  | .call _ args => args.any fun a => isPtrV (ev e a)
  | _ => false
def aOps (k : Env → List ABox → Fr → Prop) : List AO → Env → List ABox → Fr → Prop
  | [], e, b, f => k e b f
  | o :: rest, e, b, f =>
    match o.guard with
    | none => aOp C o.op e b f fun v b' f' => aOps k rest (put e o.dst v) b' f'
    | some g => guardOf g.2 (look e g.1) fun gd => match forks e o.op with
      | true => GFork gd (aGuard C o.op gd e b fun v => aOps k rest (put e o.dst (.cond gd v)) b f) (aOp C o.op e b f fun v b' f' => aOps k rest (put e o.dst v) b' f') fun x => aOps k rest (put e o.dst (.cond false x)) b f
      | false => aGuard C o.op gd e b fun v => aOps k rest (put e o.dst (.cond gd v)) b f

def aDraw (k : Env → Prop) (b : List ABox) : List AO → Env → Prop
  | [], e => k e
  | o :: rest, e =>
    match o.guard with
    | none => (match o.op with
      | .mv x => aDraw k b rest (put e o.dst (ev e x))
      | op => aQuiet C op true e b fun v => aDraw k b rest (put e o.dst v))
    | some g => guardOf g.2 (look e g.1) fun gd => aQuiet C o.op gd e b fun v => aDraw k b rest (put e o.dst (.cond gd v))

/-- .. where orders are drawn: appended to is what was laid since token m0 -/
def appH (m0 t sz bytes : Nat) (x y : AV) (b : List ABox) (f : Fr) (k : AV → List ABox → Fr → Prop) : Prop :=
  match x with
  | .list (some j) xs => Need (m0 ≤ j) (appK t sz bytes (.list (some j) xs) y b f k)
  | _ => Stop
/-- a region that draws its order, where reads come first and calls wait for one another -/
def aHeld (lend : Bool) (m0 : Nat) (k : Env → List ABox → Fr → Prop) : List AO → Env → List ABox → Fr → Prop
  | [], e, b, f => k e b f
  | o :: rest, e, b, f =>
    match o.guard with
    | none => (match o.op with
      | .call g args => evs true e args fun vs => ACall C lend g vs b f fun v b' f' => aHeld lend m0 k rest (put e o.dst v) b' f'
      | .mv x => aHeld lend m0 k rest (put e o.dst (ev e x)) b f
      | .bslice t sz own ps => evs true e ps fun vs => cellsKs vs fun cs => Need (cs.all (fun c => c.length == sz) = true)
          (match own with
            | true => LitO t sz cs b f fun v b' f' => aHeld lend m0 k rest (put e o.dst v) b' f'
            | false => Lit t sz cs b f fun v b' f' => aHeld lend m0 k rest (put e o.dst v) b' f')
      | .alloc z => aHeld lend m0 k rest (put e o.dst (.bptr b.length 0)) (b ++ [.cells .var (z.map constAV)]) f
      | .box x => evG true e x fun x => cellsK x fun cs => aHeld lend m0 k rest (put e o.dst (.bptr b.length 0)) (b ++ [.cells .var cs]) f
      | .make t z sz bytes l => evG true e l fun l => gInt l fun _ n => Need (0 ≤ n ∧ (bytes : Int) * n ≤ 281474976710656 ∧ n ≤ 1099511627776)
          (aHeld lend m0 k rest (put e o.dst (.bsl b.length n.toNat)) (b ++ [.cells (.row t sz) (madeK z (n.toNat * sz))]) f)
      | .append t sz bytes x y => evG true e x fun x => evG true e y fun y => appH m0 t sz bytes x y b f fun v b' f' => aHeld lend m0 k rest (put e o.dst v) b' f'
      | .store m p x => (match lend with
          | true => aOp C (.store m p x) e b f fun v b' f' => aHeld lend m0 k rest (put e o.dst v) b' f'
          | false => Stop)
      | op => aValB op true e b fun v => aHeld lend m0 k rest (put e o.dst v) b f)
    | some g => guardOf g.2 (look e g.1) fun gd => aGuard C o.op gd e b fun v => aHeld lend m0 k rest (put e o.dst (.cond gd v)) b f

inductive HAlt (p q : Prop) : Prop | mk : p → q → HAlt p q
/-- whichever order -/
def aHT (lend : Bool) (m0 : Nat) (k : Env → List ABox → Fr → Prop) : HT → Env → List ABox → Fr → Prop
  | .fin, e, b, f => k e b f
  | .none, _, _, _ => True
  | .alt o r t, e, b, f => HAlt (aHeld C lend m0 (fun e b f => aHT lend m0 k r e b f) [o] e b f) (aHT lend m0 k t e b f)
/-- all orders end in one state -/
structure HEnd (e : Env) (b : List ABox) (f : Fr) (st : St) : Prop where
  env : e = st.env
  bx : b = st.bx
  fr : f = st.fr
inductive HJoin (tree : (Env → List ABox → Fr → Prop) → Prop) (next : St → Prop) : Prop
  | mk (st : St) (h : tree fun e b f => HEnd e b f st) (hk : next st) : HJoin tree next
  /-- or each order goes its own way -/
  | split (h : tree fun e b f => next ⟨e, b, f⟩) : HJoin tree next

def agrees (e : Env) : Env → Prop
  | [] => True
  | (i, x) :: t => look e i = x ∧ agrees e t

/-- boxes below m alone -/
def inB (m : Nat) : AV → Prop
  | .bptr j _ => j < m
  | .bsl j _ => j < m
  | .bmap j => j < m
  | .tag _ x => inB m x
  | .agg cs => inBL m cs
  | .tup cs => inBL m cs
  | .clo _ a b => inBL m a ∧ inBL m b
  | .cond _ x => inB m x
  | .any => True
  | .val _ => True
  | .str _ => True
  | .list _ _ => True
  | .rptr _ => True
where inBL (m : Nat) : List AV → Prop
  | [] => True
  | c :: cs => inB m c ∧ inBL m cs
def inBE (m : Nat) : Env → Prop
  | [] => True
  | p :: e => inB m p.2 ∧ inBE m e
def inBX (m : Nat) : List ABox → Prop
  | [] => True
  | x :: b => (match x with | .cells _ cs => inB.inBL m cs | _ => True) ∧ inBX m b

/-- boxes under other numbers: box j is the one that was π j -/
def renB (π : List Nat) : AV → AV
  | .bptr j o => .bptr (π.getD j 0) o
  | .bsl j n => .bsl (π.getD j 0) n
  | .bmap j => .bmap (π.getD j 0)
  | .tag v x => .tag v (renB π x)
  | .agg cs => .agg (renBL cs)
  | .tup cs => .tup (renBL cs)
  | .clo f a b => .clo f (renBL a) (renBL b)
  | .cond g x => .cond g (renB π x)
  | .any => .any
  | .val v => .val v
  | .str s => .str s
  | .list o xs => .list o xs
  | .rptr cs => .rptr cs
where renBL : List AV → List AV
  | [] => []
  | c :: cs => renB π c :: renBL cs
inductive BoxSame (π : List Nat) : ABox → ABox → Prop
  | cells (k : RK) (cs : List AV) (h : noRef.noRefL cs = true) : BoxSame π (.cells k cs) (.cells k cs)
  | iter (s : Str) (p : Nat) : BoxSame π (.iter s p) (.iter s p)
  | map (m : List (Str × Str)) : BoxSame π (.map m) (.map m)
  | vmap (kk vk : MK) (m : List (MA × MA)) : BoxSame π (.vmap kk vk m) (.vmap kk vk m)
  | dead : BoxSame π .dead .dead
  | ren (k : RK) (cs : List AV) : BoxSame π (.cells k (renB.renBL π cs)) (.cells k cs)
def bxR (s : List ABox) (π0 : List Nat) : List Nat → List ABox → Prop
  | [], [] => True
  | j :: π, x :: b => (∃ y, s[j]? = some y ∧ BoxSame π0 y x) ∧ bxR s π0 π b
  | [], _ :: _ => False
  | _ :: _, [] => False
def agreesR (π : List Nat) (e : Env) : Env → Prop
  | [] => True
  | (i, x) :: t => look e i = renB π x ∧ agreesR π e t
/-- state t says no more than state s, its boxes having other numbers -/
structure WeakR (π : List Nat) (s t : St) : Prop where
  env : agreesR π s.env t.env
  bx : bxR s.bx π π t.bx
  fr : s.fr = t.fr
  pre : nb ≤ t.bx.length ∧ π.take nb = List.range nb
  inj : π.Nodup
  refs : inBE t.bx.length t.env ∧ inBX t.bx.length t.bx

/-- state t says no more than state s -/
structure Weak (s t : St) : Prop where
  env : agrees s.env t.env
  bx : s.bx.take t.bx.length = t.bx
  fr : s.fr = t.fr
  nb : nb ≤ t.bx.length
  refs : s.bx.length ≤ t.bx.length ∨ (inBE t.bx.length t.env ∧ inBX t.bx.length t.bx)

inductive ALoop (body : St → (Exit → St → Prop) → Prop) (Q : Exit → St → Prop) (s : St) : Prop
  | mk (α : Type) (I : α → St) (D : α → Prop) (μ : α → Nat) (h0 : ∃ a, D a ∧ Weak nb s (I a))
      (h : ∀ a, D a → body (I a) fun e s' => match e with | .normal => Round (∃ a', D a' ∧ Weak nb s' (I a') ∧ μ a' < μ a) | e => Q e s') : ALoop body Q s
  | ren (α : Type) (I : α → St) (D : α → Prop) (μ : α → Nat) (h0 : ∃ a, D a ∧ ∃ π, WeakR nb π s (I a))
      (h : ∀ a, D a → body (I a) fun e s' => match e with | .normal => Round (∃ a', D a' ∧ (∃ π, WeakR nb π s' (I a')) ∧ μ a' < μ a) | e => Q e s') : ALoop body Q s

def seqK (next : St → Prop) (Q : Exit → St → Prop) (e : Exit) (s : St) : Prop := match e with | .normal => next s | e => Q e s
def blockK (id : Nat) (Q : Exit → St → Prop) (e : Exit) (s : St) : Prop := match e with | .exit id' => if id' = id then Q .normal s else Q (.exit id') s | e => Q e s

def aCode : ACode → (Exit → St → Prop) → St → Prop
  | .skip, Q, s => Q .normal s
  | .region d ops, Q, s => match s with
    | ⟨e, b, f⟩ => match d with
      | false => aOps C (fun e b f => Q .normal ⟨e, b, f⟩) ops e b f
      | true => aDraw C (fun e => Q .normal ⟨e, b, f⟩) b ops e
  | .held ops tail, Q, s => match s with
    | ⟨e, b, f⟩ => aHeld C false f.length (fun e b f => aOps C (fun e b f => Q .normal ⟨e, b, f⟩) tail e b f) ops e b f
  | .heldT lend D t tail, Q, s => match s with
    | ⟨e, b, f⟩ => HJoin (fun k => aHT C lend f.length (fun e b f => forceEnv e (K ++ D) fun e => forceBx b fun b => k e b f) t e b f) (fun st => match st with | ⟨e, b, f⟩ => aOps C (fun e b f => Q .normal ⟨e, b, f⟩) tail e b f)
  | .seq a b, Q, s => aCode a (seqK (aCode b Q) Q) s
  | .cond c x y, Q, s => match s with
    | ⟨e, b, f⟩ => evG true e c fun c => gBool c fun v => forceEnv e K fun e => forceBx b fun b => Fork v (aCode x Q ⟨e, b, f⟩) (aCode y Q ⟨e, b, f⟩)
  | .block id body, Q, s => aCode body (blockK id Q) s
  | .loop body, Q, s => ALoop nb (fun s Q => aCode body Q s) Q s
  | .exit id, Q, s => Q (.exit id) s
  | .ret, Q, s => Q .ret s
  | .other, _, _ => Stop
end
end Abs
end Go.Proofs.Ytkbblglbbfdnpaa
