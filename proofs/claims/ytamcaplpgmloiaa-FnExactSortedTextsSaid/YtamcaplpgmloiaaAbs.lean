/-
  Abstract values for Go code that works on numbers, strings, immutable slices and boxed structs, and an evaluator of such code: definitions alone.
  A state says of slots, of the call's own variables (boxes) and of the slices that it appends to (fr) what they hold; 'aCode c Q s' is what has to be shown.
-/
import Derived.Test.YtamcaplpgmloiaaProg
import Derived.KernelRfl
import Derived.WalkKit
import Derived.Deep.Quiet
import Derived.StillTail
namespace Go.Proofs.Ytamcaplpgmloiaa
namespace Abs

abbrev Str := List UInt8
def mkS (l : Str) : Value := .string ⟨l.toArray⟩

inductive AV where
  | any
  | val (v : Value)
  | str (s : Str)
  | list (o : Option Nat) (xs : List (List AV))
  | agg (cs : List AV)
  | tup (vs : List AV)
  | bptr (j off : Nat)
  | bsl (j n : Nat)
  | rptr (cs : List AV)
  | clo (f : Nat) (first caps : List AV)
  | cond (g : Bool) (x : AV)

/-- a variable, or the row of a slice: element type, cells of an element -/
inductive RK where
  | var
  | row (t sz : Nat)
inductive ABox where
  | cells (k : RK) (cs : List AV)
  | iter (s : Str) (pos : Nat)
  | dead

abbrev Env := List (Nat × AV)
/-- element type, cells of an element, length -/
abbrev Fr := List (Nat × Nat × Nat)
structure St where
  env : Env
  bx : List ABox
  fr : Fr

def look : Env → Nat → AV
  | [], _ => .any
  | (j, x) :: e, i => if i = j then x else look e i

def put (e : Env) (d : Option Nat) (x : AV) : Env := match d with | some d => (d, x) :: e | none => e

def norm (e : Env) : List Nat → Env
  | [] => []
  | i :: K => (i, look e i) :: norm e K

inductive AOp where
  | mv (x : Operand)
  | and (c a : Operand)
  | or (c a : Operand)
  | bin (op : BinOp) (x y : Operand)
  | binb (op : BinOp) (x y : Operand)
  | not (x : Operand)
  | neg (x : Operand)
  | nilq (ne : Bool) (x : Operand)
  | conv (k : IntKind) (x : Operand)
  | b2s (x : Operand)
  | box (x : Operand)
  | alloc (zero : List Value)
  | build (zero : List Value) (places : List (Nat × Nat)) (parts : List Operand)
  | bslice (e sz : Nat) (own : Bool) (parts : List Operand)
  | make (t : Nat) (zero : List Value) (sz bytes : Nat) (x : Operand)
  | load (agg : Bool) (size : Nat) (x : Operand)
  | store (size : Nat) (a x : Operand)
  | fadr (off : Nat) (x : Operand)
  | field (agg : Bool) (off size : Nat) (x : Operand)
  | iadr (sz : Nat) (x i : Operand)
  | index (x i : Operand)
  | slice (isS : Bool) (sz : Nat) (x : Operand) (lo hi : Option Operand)
  | extract (x : Operand) (i : Nat)
  | len (isS : Bool) (x : Operand)
  | append (e sz bytes : Nat) (x y : Operand)
  | call (f : Nat) (args : List Operand)
  | callv (f : Operand) (args : List Operand)
  | clo (f : Nat) (first caps : List Operand)
  | range (x : Operand)
  | next (x : Operand)
  | other

structure AO where
  dst : Option Nat
  guard : Option (Nat × Bool)
  op : AOp

inductive ACode where
  | skip
  | region (draw : Bool) (ops : List AO)
  | held (ops tail : List AO)
  | seq (a b : ACode)
  | cond (c : Operand) (x y : ACode)
  | block (id : Nat) (body : ACode)
  | loop (body : ACode)
  | exit (id : Nat)
  | ret
  | other

def arg (l : List Operand) (i : Nat) : Operand := l.getD i (.func 0)

def structOff (P : Program) (t : TypeId) (i : Nat) : Option Field :=
  match P.underlying t with | some (.struct fs) => fs[i]? | _ => none

/-- the fields' places and sizes, and the zero -/
def structPlaces (P : Program) (t : TypeId) : Option (List (Nat × Nat) × Value) :=
  match P.info? t, P.underlying t with
  | some it, some (.struct fields) =>
    match it.zero, fields.toList.mapM (fun f => (P.info? f.type).map fun i => (f.offset, i.size)) with
    | some z, some places => some (places, z)
    | _, _ => none
  | _, _ => none

def elemTy (P : Program) (t : TypeId) : TypeId := match P.underlying t with | some (.slice e) => e | _ => 0
def bytesOf (P : Program) (t : TypeId) : Nat := match P.info? t with | some i => i.bytes | _ => 0
def aggTy (P : Program) (t : TypeId) : Bool := match P.underlying t with | some (.struct _) => true | some (.array ..) => true | _ => false
def zeroOf (P : Program) (t : TypeId) : Option Value := match P.info? t with | some i => i.zero | _ => none
/-- the type is known, and so are its cells -/
def okTy (P : Program) (t : TypeId) : Bool := (P.underlying t).isSome && (P.info? t).isSome
def isInt (P : Program) (t : TypeId) : Option IntKind := match P.underlying t with | some (.int k) => some k | _ => none
/-- a slice type whose element type has a zero of its own size, more than no cell -/
def goodElem (P : Program) (t : TypeId) : Bool :=
  match P.underlying t with
  | some (.slice e) => match P.info? e with
    | some i => match i.zero with
      | some z => z.cells.size == i.size && decide (0 < i.size) && decide (i.size ≤ 64)
      | none => false
    | none => false
  | _ => false

def zeroCells (P : Program) (t : TypeId) : List Value := match zeroOf P t with | some z => z.cells.toList | none => []
def zeroOne (P : Program) (t : TypeId) : Bool := match zeroOf P t with | some z => z.cells.all (·.oneCell') | none => false
def sameTmp (x y : Operand) : Bool := match x, y with | .tmp i, .tmp j => i == j | _, _ => false

/-- is slot d of a region only the source of an append -/
def toAppend (ops : List Oper) (d : Option Nat) : Bool :=
  ops.any fun o => match o.op with
    | .call c => match c.callee with
      | .builtin .append => match arg c.args.toList 1, d with | .tmp t, some d => t == d | _, _ => false
      | _ => false
    | _ => false

def cOp (P : Program) (ops : List Oper) (o : Oper) : AOp :=
  match o.op with
  | .move x => .mv x
  | .assign x => .mv x
  | .pick c a b => match b with
    | .const (.bool false) => .and c a
    | _ => match a with
      | .const (.bool true) => .or c b
      | _ => .other
  | .binOp op t x y _ => match P.underlying t with
    | some .bool => .binb op x y
    | some (.slice _) => (match y with
      | .const (.slice none 0 0) => (match op with | .eql => .nilq false x | .neq => .nilq true x | _ => .other)
      | _ => .other)
    | _ => .bin op x y
  | .unOp op _ x => match op with | .not => .not x | .neg => .neg x | _ => .other
  | .convert src dst x => match isInt P src, isInt P dst with
    | some _, some k => .conv k x
    | _, _ => match P.underlying src, P.underlying dst with
      | some (.slice e), some .string => match isInt P e with | some .u8 => .b2s x | _ => .other
      | _, _ => .other
  | .box _ x => .box x
  | .alloc t => match zeroOf P t with | some z => if z.cells.all (·.oneCell') then .alloc z.cells.toList else .other | none => .other
  | .build t ps => match structPlaces P t with
    | some (places, z) => if z.cells.all (·.oneCell') && ps.toList.all (fun p => match places[p.1]? with | some q => decide (q.1 + q.2 ≤ z.cells.size) | none => false) then
        .build z.cells.toList (ps.toList.map fun p => places.getD p.1 (0, 0)) (ps.toList.map (·.2)) else .other
    | none => .other
  | .buildSlice t n ps => if goodElem P t && decide (n ≤ 64) && ps.toList.map (·.1) == List.range n then .bslice (elemTy P t) (P.cellsOf (elemTy P t)) (!toAppend ops o.dst) (ps.toList.map (·.2)) else .other
  | .makeSlice t l c => if goodElem P t && zeroOne P (elemTy P t) && sameTmp l c then .make (elemTy P t) (zeroCells P (elemTy P t)) (P.cellsOf (elemTy P t)) (bytesOf P (elemTy P t)) l else .other
  | .load t x => if okTy P t then .load (aggTy P t) (P.cellsOf t) x else .other
  | .store t a x => if okTy P t then .store (P.cellsOf t) a x else .other
  | .fieldAddr t x i => match structOff P t i with | some f => if P.cellsOf f.type = 0 then .other else .fadr f.offset x | none => .other
  | .field t x i => match structOff P t i with | some f => if okTy P f.type then .field (aggTy P f.type) f.offset (P.cellsOf f.type) x else .other | none => .other
  | .indexAddr t x i => if goodElem P t then .iadr (P.cellsOf (elemTy P t)) x i else .other
  | .index t x i => match P.underlying t with | some .string => .index x i | _ => .other
  | .slice t x lo hi mx => match mx with
    | none => match P.underlying t with
      | some .string => .slice true 0 x lo hi
      | some (.slice _) => if okTy P (elemTy P t) then .slice false (P.cellsOf (elemTy P t)) x lo hi else .other
      | _ => .other
    | _ => .other
  | .extract x i => .extract x i
  | .range t x => match P.underlying t with | some .string => .range x | _ => .other
  | .next x s => if s then .next x else .other
  | .makeFunc fn first caps => match fn with
    | .func f => match P.funcs[f]? with
      | some fn => if fn.name == "runtime.NumGoroutine" || fn.body.isNone then .other else .clo f first.toList caps.toList
      | none => .other
    | _ => .other
  | .call c => match c.callee with
    | .builtin b => match b with
      | .len => match P.underlying (c.argTypes.getD 0 0) with
        | some .string => if c.args.size = 1 ∧ c.argTypes.size = 1 then .len true (arg c.args.toList 0) else .other
        | some (.slice _) => if c.args.size = 1 ∧ c.argTypes.size = 1 then .len false (arg c.args.toList 0) else .other
        | _ => .other
      | .append => if goodElem P (c.argTypes.getD 0 0) && c.argTypes.toList == [c.argTypes.getD 0 0, c.argTypes.getD 0 0] && c.args.size == 2 then
          .append (elemTy P (c.argTypes.getD 0 0)) (P.cellsOf (elemTy P (c.argTypes.getD 0 0))) (bytesOf P (elemTy P (c.argTypes.getD 0 0))) (arg c.args.toList 0) (arg c.args.toList 1)
        else .other
      | _ => .other
    | .value f => match f with
      | .func f => match P.funcs[f]? with
        | some fn => if fn.name == "runtime.NumGoroutine" || fn.body.isNone then .other else .call f c.args.toList
        | none => .other
      | .tmp t => .callv (.tmp t) c.args.toList
      | _ => .other
    | _ => .other
  | _ => .other

def dstAt (ops : List Oper) (j : Nat) : Nat := ((ops[j]?).bind (·.dst)).getD 0

def cOps (P : Program) (ops : List Oper) : List AO := ops.map fun o => ⟨o.dst, o.guard.map fun g => (dstAt ops g.1, g.2), cOp P ops o⟩

def guardsOk (ops : List Oper) : Bool := ops.all fun o => match o.guard with | some g => ((ops[g.1]?).bind (·.dst)).isSome | none => true

def dstsOk (n : Nat) (ops : List Oper) : Bool := ops.all fun o => match o.dst with | some d => decide (d < n) | none => true

/-! a region that draws its order: reads and arithmetic first, then one call after the other -/
def quietOp (o : Oper) : Bool :=
  match o.op with
  | .move _ => true
  | .assign _ => true
  | .pick .. => true
  | .binOp .. => true
  | .unOp .. => true
  | .convert .. => true
  | .load .. => true
  | .fieldAddr .. => true
  | .field .. => true
  | .indexAddr .. => true
  | .index .. => true
  | .slice .. => true
  | .extract .. => true
  | .call c => (match c.callee with | .builtin .len => true | _ => false)
  | _ => false
def quietIx (ops : Array Oper) (i : Nat) : Bool := match ops[i]? with | some o => quietOp o | none => false
/-- below z: which comes next; at the end number z is the only one that may come -/
def heldGo (ops : Array Oper) (z : Nat) : Nat → Bool → Array Bool → Option (List Nat)
  | 0, _, listed => if Region.ready .any ops listed == [z] then some [] else none
  | n + 1, fresh, listed =>
    match Region.ready .any ops listed with
    | [i] => if i < z then (match heldGo ops z n (fresh && quietIx ops i) (listed.setIfInBounds i true) with | some l => some (i :: l) | none => none) else none
    | rs => (match rs.find? (fun i => decide (i < z) && fresh && quietIx ops i && Region.free .any ops listed i) with
      | some i => (match heldGo ops z n fresh (listed.setIfInBounds i true) with | some l => some (i :: l) | none => none)
      | none => none)
/-- from z on one after the other -/
def tailB (ops : Array Oper) (z : Nat) : Bool :=
  (List.range ops.size).all fun t => decide (t < z) || (match ops[t]? with | some o => o.after.all fun e => !Region.binds .any e || decide (e.on < t) | none => false)
def nCalls (ops : Array Oper) : Nat := (ops.toList.filter fun o => match o.op with | .call c => (match c.callee with | .value _ => true | _ => false) | _ => false).length
def aoOf (P : Program) (ops : List Oper) (o : Oper) : AO := ⟨o.dst, o.guard.map fun g => (dstAt ops g.1, g.2), cOp P ops o⟩
def aoAt (P : Program) (ops : Array Oper) (i : Nat) : AO := match ops[i]? with | some o => aoOf P ops.toList o | none => ⟨none, none, .other⟩
def isStore (o : Oper) : Bool := match o.op with | .store .. => true | _ => false
def heldZ (ops : Array Oper) : Option Nat :=
  if (decide (2 ≤ nCalls ops) || (decide (1 ≤ nCalls ops) && ops.toList.any isStore)) && Region.noSelect ops then
    (List.range ops.size).find? fun z => Region.sinkB .any ops z && Region.chainB .any ops z && tailB ops z
  else none
def heldOrd (ops : Array Oper) : Option (Nat × List Nat) :=
  match heldZ ops with
  | some z => (match heldGo ops z z true (Array.replicate ops.size false) with | some l => some (z, l) | none => none)
  | none => none
def cDraw (P : Program) (ops : Array Oper) : ACode :=
  match heldOrd ops with
  | some zl => .held (zl.2.map (aoAt P ops)) (cOps P ops.toList |>.drop zl.1)
  | none => if Region.lexB .any ops then .region true (cOps P ops.toList) else .other

def cCode (P : Program) (n : Nat) : Code → ACode
  | .skip => .skip
  | .region _ ops d => if guardsOk ops.toList && dstsOk n ops.toList then
      (match d with
        | false => .region false (cOps P ops.toList)
        | true => if P.follows .mixedOrders then cDraw P ops else .other)
      else .other
  | .seq a b => .seq (cCode P n a) (cCode P n b)
  | .cond c x y => .cond c (cCode P n x) (cCode P n y)
  | .block id b => .block id (cCode P n b)
  | .loop b => .loop (cCode P n b)
  | .exit id => .exit id
  | .ret => .ret
  | _ => .other

end Abs
end Go.Proofs.Ytamcaplpgmloiaa
