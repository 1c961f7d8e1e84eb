/-
  The evaluator: what has to be shown of code.
-/
import Derived.Test.YtamcaplpgmloiaaSees
namespace Go.Proofs.Ytamcaplpgmloiaa
namespace Abs

/-! what has to be shown: nodes at which the evaluation stops -/
inductive Need (p q : Prop) : Prop | mk : p → q → Need p q
inductive Fork (b : Bool) (p q : Prop) : Prop | mk : (b = true → p) → (b = false → q) → Fork b p q
inductive Stop : Prop
inductive Round (p : Prop) : Prop | mk : p → Round p

def constAV (v : Value) : AV := match v with | .string s => .str s.data.toList | v => .val v
def decodeS (l : Str) (pos : Nat) : Nat × Nat := Utf8.decode ⟨l.toArray⟩ pos

def ev (e : Env) : Operand → AV
  | .tmp t => look e t
  | .const v => constAV v
  | .global g => .val (.pointer (some ⟨g, 0, none⟩))
  | .func f => .clo f [] []

def unG (gd : Bool) (x : AV) (k : AV → Prop) : Prop :=
  match x with
  | .cond g y => Need (gd = true → g = true) (k y)
  | .any => k .any
  | .val v => k (.val v)
  | .str s => k (.str s)
  | .list o xs => k (.list o xs)
  | .agg cs => k (.agg cs)
  | .tup vs => k (.tup vs)
  | .bptr j off => k (.bptr j off)
  | .bsl j n => k (.bsl j n)
  | .rptr cs => k (.rptr cs)
  | .clo f xs ys => k (.clo f xs ys)

def evG (gd : Bool) (e : Env) (x : Operand) (k : AV → Prop) : Prop := unG gd (ev e x) k

def evs (gd : Bool) (e : Env) : List Operand → (List AV → Prop) → Prop
  | [], k => k []
  | x :: xs, k => evG gd e x fun v => evs gd e xs fun vs => k (v :: vs)

def gInt (x : AV) (k : IntKind → Int → Prop) : Prop := match x with | .val (.int kd n) => k kd n | _ => Stop
def gBool (x : AV) (k : Bool → Prop) : Prop := match x with | .val (.bool b) => k b | _ => Stop
def gList (x : AV) (k : List (List AV) → Prop) : Prop :=
  match x with | .list _ xs => k xs | .val (.slice none 0 0) => k [] | _ => Stop

def aInt (op : BinOp) (k : IntKind) (a b : Int) (K : Value → Prop) : Prop :=
  match op with
  | .add => K (.int k (k.wrap (a + b)))
  | .sub => K (.int k (k.wrap (a - b)))
  | .mul => K (.int k (k.wrap (a * b)))
  | .quo => Need (b ≠ 0) (K (.int k (k.wrap (a.tdiv b))))
  | .rem => Need (b ≠ 0) (K (.int k (a.tmod b)))
  | .and => K (.int k (k.wrap ((BitVec.ofInt k.bits a) &&& (BitVec.ofInt k.bits b)).toNat))
  | .or => K (.int k (k.wrap ((BitVec.ofInt k.bits a) ||| (BitVec.ofInt k.bits b)).toNat))
  | .xor => K (.int k (k.wrap ((BitVec.ofInt k.bits a) ^^^ (BitVec.ofInt k.bits b)).toNat))
  | .eql => K (.bool (a == b))
  | .neq => K (.bool (a != b))
  | .lss => K (.bool (a < b))
  | .leq => K (.bool (a ≤ b))
  | .gtr => K (.bool (b < a))
  | .geq => K (.bool (b ≤ a))
  | _ => Stop

def aStr (op : BinOp) (a b : Str) (K : AV → Prop) : Prop :=
  match op with
  | .add => Need (a.length + b.length ≤ 1099511627776) (K (.str (a ++ b)))
  | .eql => K (.val (.bool (a == b)))
  | .neq => K (.val (.bool (!(a == b))))
  | .lss => K (.val (.bool (Op.bytesLess a b)))
  | .geq => K (.val (.bool (!(Op.bytesLess a b))))
  | .gtr => K (.val (.bool (!(Op.bytesLess a b || a == b))))
  | .leq => K (.val (.bool ((Op.bytesLess a b || a == b))))
  | _ => Stop

def aBool (op : BinOp) (a b : Bool) (K : Value → Prop) : Prop :=
  match op with
  | .eql => K (.bool (a == b))
  | .neq => K (.bool (!(a == b)))
  | _ => Stop

def aBin (op : BinOp) (x y : AV) (K : AV → Prop) : Prop :=
  match x with
  | .val (.int k a) => match y with
    | .val (.int k' b) => match op with
      | .shl => Need (0 ≤ b) (K (.val (.int k (k.wrap (a * 2 ^ (min b.toNat k.bits))))))
      | .shr => Need (0 ≤ b) (K (.val (.int k (a.fdiv (2 ^ (min b.toNat k.bits))))))
      | op => Need (k' = k) (aInt op k a b fun v => K (.val v))
    | _ => Stop
  | .str a => match y with | .str b => aStr op a b K | _ => Stop
  | _ => Stop

def ptrCells (b : List ABox) (x : AV) (k : List AV → Prop) : Prop :=
  match x with
  | .rptr cs => k cs
  | .bptr j off => match b[j]? with | some (.cells _ cs) => k (cs.drop off) | _ => Stop
  | _ => Stop

def takeAV (agg : Bool) (n : Nat) (cs : List AV) (k : AV → Prop) : Prop :=
  match agg with
  | true => Need (n ≤ cs.length) (k (.agg (cs.take n)))
  | false => match cs with | c :: _ => k c | [] => Stop

def gStr (x : AV) (k : Str → Prop) : Prop := match x with | .str s => k s | _ => Stop
def lenK (isS : Bool) (x : AV) (k : Nat → Prop) : Prop := match isS with | true => gStr x fun s => k s.length | false => gList x fun xs => k xs.length

/-- the length, of a made slice too -/
def lenK' (isS : Bool) (x : AV) (k : Nat → Prop) : Prop :=
  match isS with
  | true => gStr x fun s => k s.length
  | false => match x with | .bsl _ n => k n | .list _ xs => k xs.length | .val (.slice none 0 0) => k 0 | _ => Stop

def bound (gd : Bool) (e : Env) (x : Option Operand) (d : Nat) (k : Int → Prop) : Prop :=
  match x with | none => k d | some x => evG gd e x fun x => gInt x fun _ n => k n

/-- an element of a slice: its cells are named by whoever proves it -/
inductive Ix (gd : Bool) (xs : List (List AV)) (i : Int) (sz : Nat) (k : List AV → Prop) : Prop
  | mk (c : List AV) (h : gd = true → 0 ≤ i ∧ xs[i.toNat]? = some c ∧ c.length = sz) (hk : k c) : Ix gd xs i sz k
/-- a part of a slice, likewise -/
inductive Cut (gd : Bool) (xs : List (List AV)) (lo hi : Int) (sz : Nat) (k : List (List AV) → Prop) : Prop
  | mk (ys : List (List AV)) (h : gd = true → 0 ≤ lo ∧ lo ≤ hi ∧ hi ≤ xs.length ∧ (∀ c ∈ xs, c.length = sz) ∧ (xs.take hi.toNat).drop lo.toNat = ys) (hk : k ys) : Cut gd xs lo hi sz k

def sliceK (isS gd : Bool) (sz : Nat) (x : AV) (lo hi : Int) (k : AV → Prop) : Prop :=
  match isS with
  | true => gStr x fun s => Need (gd = true → 0 ≤ lo ∧ lo ≤ hi ∧ hi ≤ s.length) (k (.str ((s.take hi.toNat).drop lo.toNat)))
  | false => gList x fun xs => Cut gd xs lo hi sz fun ys => k (.list none ys)

def fadrK (off : Nat) (x : AV) (k : AV → Prop) : Prop :=
  match x with
  | .rptr cs => k (.rptr (cs.drop off))
  | .bptr j o => k (.bptr j (o + off))
  | _ => Stop

def byteCell (b : UInt8) : List AV := [.val (.int .u8 b.toNat)]
/-- the bytes of a slice: named by whoever proves it -/
inductive Bytes (xs : List (List AV)) (k : List UInt8 → Prop) : Prop | mk (l : List UInt8) (h : xs = l.map byteCell) (hk : k l) : Bytes xs k

/-- a slice held against nil: what is without an element may be either -/
inductive NilQ (n : Nat) (ne : Bool) (k : AV → Prop) : Prop | mk (h : ∀ b : Bool, (b = true → n = 0) → k (.val (.bool (b != ne)))) : NilQ n ne k
def nilK (ne : Bool) (x : AV) (k : AV → Prop) : Prop :=
  match x with
  | .list _ xs => NilQ xs.length ne k
  | .bsl _ n => NilQ n ne k
  | .val (.slice none 0 0) => k (.val (.bool !ne))
  | _ => Stop

/-- operations that leave the state alone -/
def aVal (op : AOp) (gd : Bool) (e : Env) (b : List ABox) (k : AV → Prop) : Prop :=
  match op with
  | .mv x => evG gd e x k
  | .and c a => evG gd e c fun c => gBool c fun c => evG (gd && c) e a fun a => gBool a fun a => k (.val (.bool (c && a)))
  | .or c a => evG gd e c fun c => gBool c fun c => evG (gd && !c) e a fun a => gBool a fun a => k (.val (.bool (c || a)))
  | .bin op x y => evG gd e x fun x => evG gd e y fun y => aBin op x y k
  | .binb op x y => evG gd e x fun x => evG gd e y fun y => gBool x fun x => gBool y fun y => aBool op x y fun v => k (.val v)
  | .not x => evG gd e x fun x => gBool x fun x => k (.val (.bool !x))
  | .neg x => evG gd e x fun x => gInt x fun kd n => k (.val (.int kd (kd.wrap (-n))))
  | .nilq ne x => evG gd e x fun x => nilK ne x k
  | .conv kd x => evG gd e x fun x => gInt x fun _ n => k (.val (.int kd (kd.wrap n)))
  | .b2s x => evG gd e x fun x => gList x fun xs => Bytes xs fun l => k (.str l)
  | .load agg n x => evG gd e x fun x => ptrCells b x fun cs => takeAV agg n cs k
  | .fadr off x => evG gd e x fun x => fadrK off x k
  | .field agg off n x => evG gd e x fun x => match x with
    | .agg cs => takeAV agg n (cs.drop off) k
    | _ => Stop
  | .iadr sz x i => evG gd e x fun x => evG gd e i fun i => match x with
    | .bsl j n => gInt i fun _ i => Need (gd = true → 0 ≤ i ∧ i < n) (k (.bptr j (i.toNat * sz)))
    | .list _ xs => gInt i fun _ i => Ix gd xs i sz fun c => k (.rptr c)
    | _ => Stop
  | .index x i => evG gd e x fun x => evG gd e i fun i => gInt i fun _ i => gStr x fun s =>
      Need (gd = true → 0 ≤ i ∧ i < s.length) (k (.val (.int .u8 (s.getD i.toNat 0).toNat)))
  | .slice s sz x lo hi => evG gd e x fun x => lenK s x fun n => bound gd e lo 0 fun lo => bound gd e hi n fun hi => sliceK s gd sz x lo hi k
  | .extract x i => evG gd e x fun x => match x with | .tup vs => (match vs[i]? with | some v => k v | none => Stop) | _ => Stop
  | .len s x => evG gd e x fun x => lenK' s x fun n => k (.val (.int .i64 n))
  | _ => Stop

/-- the cells of a made slice -/
def madeK (z : List Value) (n : Nat) : List AV := (List.range n).map fun i => constAV (z.getD (i % z.length) undef)

def setAt {α : Type} (cs : List α) (off : Nat) : List α → List α
  | [] => cs
  | x :: xs => setAt (cs.set off x) (off + 1) xs

def fillAt {α : Type} (cs : List α) : List Nat → List (List α) → List α
  | o :: os, x :: xs => fillAt (setAt cs o x) os xs
  | _, _ => cs

/-- the cells that a value takes in memory, where that is known -/
def cellsK (x : AV) (k : List AV → Prop) : Prop :=
  match x with
  | .agg cs => k cs
  | .list o xs => k [.list o xs]
  | .str s => k [.str s]
  | .bptr j off => k [.bptr j off]
  | .bsl j n => k [.bsl j n]
  | .rptr cs => k [.rptr cs]
  | .clo f xs ys => k [.clo f xs ys]
  | .val (.agg vs) => Need (vs.all (·.oneCell') = true) (k (vs.toList.map constAV))
  | .val (.tuple _) => Stop
  | .val v => k [.val v]
  | _ => Stop

def cellsKs : List AV → (List (List AV) → Prop) → Prop
  | [], k => k []
  | x :: xs, k => cellsK x fun c => cellsKs xs fun cs => k (c :: cs)

/-! to work a state out, before it is carried on -/
def ap (k : AV → Prop) (x : AV) : Prop := k x
def forceK (x : AV) (k : AV → Prop) : Prop :=
  match x with
  | .any => ap k .any
  | .val v => ap k (.val v)
  | .str s => ap k (.str s)
  | .list o xs => (match o with | none => ap k (.list none xs) | some j => ap k (.list (some j) xs))
  | .agg cs => ap k (.agg cs)
  | .tup vs => ap k (.tup vs)
  | .bptr j off => ap k (.bptr j off)
  | .bsl j n => ap k (.bsl j n)
  | .rptr cs => ap k (.rptr cs)
  | .clo f xs ys => ap k (.clo f xs ys)
  | .cond g x => ap k (.cond g x)
def forceEnv : Env → List Nat → (Env → Prop) → Prop
  | _, [], k => k []
  | e, i :: K, k => forceK (look e i) fun x => forceEnv e K fun e' => k ((i, x) :: e')
def forceBx : List ABox → (List ABox → Prop) → Prop
  | [], k => k []
  | .cells rk cs :: r, k => forceBx r fun r => k (.cells rk cs :: r)
  | .iter s p :: r, k => forceBx r fun r => k (.iter s p :: r)
  | .dead :: r, k => forceBx r fun r => k (.dead :: r)

/-- where a call hands back a plain value and nothing of its own -/
def isScal (x : AV) : Bool := match x with | .val _ => true | .str _ => true | _ => false
def isScalR (r : AV) : Bool := match r with | .tup vs => vs.all isScal | r => isScal r

/-- what is known of functions: what they hand back (and which slices are new), trees of their own, and what they turn in boxes that are lent to them -/
structure Con where
  ret : Nat → List AV → AV → Fr → Prop
  own : Nat → List AV → Tr → Prop
  turn : Nat → List ABox → List AV → AV → List ABox → Prop
  ctx : Nat → List ABox → List AV → (AV → List ABox → Prop) → Prop

def SeesM (x : Tr) (n : Nat) (u y : AV) : Prop := (u = gv x n ∧ y = gv x 0) ∨ Sees0 u y

/-! no slices of the caller's own in it -/
mutual
def noTk : AV → Bool
  | .list none xs => noTkLL xs
  | .list (some _) _ => false
  | .rptr cs => noTkL cs
  | .cond _ _ => false
  | .agg cs => noTkL cs
  | .tup cs => noTkL cs
  | .clo _ a b => noTkL a && noTkL b
  | .any => true
  | .val _ => true
  | .str _ => true
  | .bptr _ _ => true
  | .bsl _ _ => true
def noTkL : List AV → Bool
  | [] => true
  | c :: cs => noTk c && noTkL cs
def noTkLL : List (List AV) → Bool
  | [] => true
  | c :: cs => noTkL c && noTkLL cs
end
/-- a callee that is lent boxes sees a value as it is, or as data -/
def SeesC (u y : AV) : Prop := (u = y ∧ noTk y = true) ∨ Sees0 u y
/-- boxes that are lent: some of them, the others are not seen -/
inductive Lends : List ABox → List ABox → Prop
  | nil : Lends [] []
  | hide (x : ABox) {b b0 : List ABox} (h : Lends b b0) : Lends (x :: b) (.dead :: b0)
  | lend (k : RK) (cs : List AV) (hc : ∀ c ∈ cs, noTk c = true) {b b0 : List ABox} (h : Lends b b0) : Lends (.cells k cs :: b) (.cells k cs :: b0)
/-- what becomes of the boxes, some of which were lent -/
def merge : List ABox → List ABox → List ABox → List ABox
  | [], _, b1 => b1
  | x :: b, .dead :: b0, _ :: b1 => x :: merge b b0 b1
  | _ :: b, .cells _ _ :: b0, y :: b1 => y :: merge b b0 b1
  | _ :: b, .iter _ _ :: b0, y :: b1 => y :: merge b b0 b1
  | b, _, _ => b
def noCond (xs : List AV) : Bool := xs.all fun x => match x with | .cond _ _ => false | _ => true

section
variable (C : Con) (K : List Nat) (nb : Nat)

/-- a call: what it hands back is named by whoever proves it -/
inductive ACall (lend : Bool) (f : Nat) (vs : List AV) (b : List ABox) (fr : Fr) (k : AV → List ABox → Fr → Prop) : Prop
  | mk (ys : List AV) (r : AV) (frs : Fr) (h : C.ret f ys r frs) (hv : SeesL Sees0 vs ys) (hk : k (shift fr.length r) b (fr ++ frs)) : ACall lend f vs b fr k
  | scal (ys : List AV) (r : AV) (h : C.ret f ys r []) (hr : isScalR r = true) (hv : SeesL (SeesB b) vs ys) (hk : k r b fr) : ACall lend f vs b fr k
  | old (ys : List AV) (x : Tr) (h : C.own f ys x) (hv : SeesL (SeesB b) vs ys) (ho : okT x = true) (hk : k (old x) b fr) : ACall lend f vs b fr k
  | unb (ys : List AV) (x : Tr) (h : C.own f ys x) (hv : SeesL (SeesB b) vs ys) (hk : k (gv x b.length) (b ++ gb x b.length) fr) : ACall lend f vs b fr k
  | turn (hl : lend = true) (ys : List AV) (x x' : Tr) (r : AV) (pre post : List ABox) (h : C.turn f (gb x 0) ys r (gb x' 0)) (hr : isScalR r = true) (hb : b = pre ++ gb x pre.length ++ post) (hn : Abs.nb x' = Abs.nb x)
      (hv : SeesL (SeesM x pre.length) vs ys) (hk : k r (pre ++ gb x' pre.length ++ post) fr) : ACall lend f vs b fr k
  /-- boxes are lent as they lie: what is known afterwards is named by whoever proves it -/
  | ctx (hl : lend = true) (b0 : List ABox) (ys : List AV) (Φ : AV → List ABox → Prop) (h : C.ctx f b0 ys Φ) (hb : Lends b b0) (hv : SeesL SeesC vs ys) (hk : ∀ r b1, Φ r b1 → k r (merge b b0 b1) fr) : ACall lend f vs b fr k

/-- a call in a region that draws its order, or under a guard -/
inductive AQCall (f : Nat) (vs : List AV) (gd : Bool) (b : List ABox) (k : AV → Prop) : Prop
  | mk (ys : List AV) (r : AV) (h : gd = true → C.ret f ys r []) (hr : isScalR r = true) (hv : gd = true → SeesL (SeesB b) vs ys) (hk : k r) : AQCall f vs gd b k

/-- operations of a region that draws its order, or under a guard -/
def aQuiet (op : AOp) (gd : Bool) (e : Env) (b : List ABox) (k : AV → Prop) : Prop :=
  match op with
  | .call g args => evs gd e args fun vs => AQCall C g vs gd b k
  | op => aVal op gd e b k

/-- a literal that is only read, or the literal's row as a box -/
inductive Lit (t sz : Nat) (cs : List (List AV)) (b : List ABox) (f : Fr) (k : AV → List ABox → Fr → Prop) : Prop
  | read (h : cs.all (fun c => c.all noRef) = true) (hk : k (.list none cs) b f) : Lit t sz cs b f k
  | box (hk : k (.bsl b.length cs.length) (b ++ [.cells (.row t sz) cs.flatten]) f) : Lit t sz cs b f k

/-- the cells of what is appended -/
def elemsK (b : List ABox) (sz : Nat) (y : AV) (k : List AV → Nat → Prop) : Prop :=
  match y with
  | .bsl j m => (match b[j]? with
    | some (.cells (.row _ sz') cs) => Need (sz' = sz) (Need (cs.length = m * sz) (k cs m))
    | _ => Stop)
  | .list _ ys => Need (∀ c ∈ ys, c.length = sz) (k ys.flatten ys.length)
  | .val (.slice none 0 0) => k [] 0
  | _ => Stop

def appK (t sz bytes : Nat) (x y : AV) (b : List ABox) (f : Fr) (k : AV → List ABox → Fr → Prop) : Prop :=
  match x with
  | .list (some j) xs => gList y fun ys => (match f[j]? with
    | some (t', sz', n) => Need (t' = t) (Need (sz' = sz) (Need (n = xs.length) (Need (∀ c ∈ ys, c.length = sz) (Need ((xs.length + ys.length) * bytes ≤ 140737488355328 ∧ xs.length + ys.length ≤ 1099511627776)
      (k (.list (some j) (xs ++ ys)) b (f.set j (t, sz, xs.length + ys.length)))))))
    | none => Stop)
  | .val (.slice none 0 0) => (match y with
    | .bsl j m => elemsK b sz (.bsl j m) fun cs m => Need (m * bytes ≤ 140737488355328 ∧ m ≤ 1099511627776) (k (.bsl (b.length + 1) m) (b ++ [.dead, .cells (.row t sz) cs]) f)
    | .list o ys => Need (∀ c ∈ ys, c.length = sz) (Need (ys.length * bytes ≤ 140737488355328 ∧ ys.length ≤ 1099511627776) (k (.list (some f.length) ys) b (f ++ [(t, sz, ys.length)])))
    | .val (.slice none 0 0) => k (.list (some f.length) []) b (f ++ [(t, sz, 0)])
    | _ => Stop)
  | .bsl j n => (match b[j]? with
    | some (.cells (.row t' sz') xs) => Need (t' = t) (Need (sz' = sz) (Need (xs.length = n * sz) (elemsK b sz y fun cs m => Need ((n + m) * bytes ≤ 140737488355328 ∧ n + m ≤ 1099511627776)
      (k (.bsl b.length (n + m)) (b.set j .dead ++ [.cells (.row t sz) (xs ++ cs)]) f))))
    | _ => Stop)
  | _ => Stop

def aOp (op : AOp) (e : Env) (b : List ABox) (f : Fr) (k : AV → List ABox → Fr → Prop) : Prop :=
  match op with
  | .mv x => k (ev e x) b f
  | .box x => evG true e x fun x => cellsK x fun cs => k (.bptr b.length 0) (b ++ [.cells .var cs]) f
  | .alloc z => k (.bptr b.length 0) (b ++ [.cells .var (z.map constAV)]) f
  | .make t z sz bytes l => evG true e l fun l => gInt l fun _ n => Need (0 ≤ n ∧ (bytes : Int) * n ≤ 281474976710656 ∧ n ≤ 1099511627776)
      (k (.bsl b.length n.toNat) (b ++ [.cells (.row t sz) (madeK z (n.toNat * sz))]) f)
  | .build z pl ps => evs true e ps fun vs => cellsKs vs fun cs => Need (cs.map List.length = pl.map (·.2)) (k (.agg (fillAt (z.map constAV) (pl.map (·.1)) cs)) b f)
  | .bslice t sz own ps => evs true e ps fun vs => cellsKs vs fun cs => Need (cs.all (fun c => c.length == sz) = true)
      (match own with
        | true => Need (cs.all (fun c => c.all noRef) = true) (k (.list (some f.length) cs) b (f ++ [(t, sz, cs.length)]))
        | false => Lit t sz cs b f k)
  | .append t sz bytes x y => evG true e x fun x => evG true e y fun y => appK t sz bytes x y b f k
  | .store n p x => evG true e p fun p => evG true e x fun x => cellsK x fun cs => match p with
    | .bptr j off => match b[j]? with
      | some (.cells rk old) => Need (cs.length = n ∧ off + n ≤ old.length) (k (.val (.tuple #[])) (b.set j (.cells rk (setAt old off cs))) f)
      | _ => Stop
    | _ => Stop
  | .range x => evG true e x fun x => match x with
    | .str s => k (.bptr b.length 0) (b ++ [.iter s 0]) f
    | _ => Stop
  | .next x => evG true e x fun x => match x with
    | .bptr j 0 => match b[j]? with
      | some (.iter s pos) => Fork (decide (pos < s.length))
          (k (.tup [.val (.bool true), .val (.int .i64 pos), .val (.int .i32 (decodeS s pos).1)]) (b.set j (.iter s (pos + (decodeS s pos).2))) f)
          (k (.tup [.val (.bool false)]) b f)
      | _ => Stop
    | _ => Stop
  | .call g args => evs true e args fun vs => ACall C true g vs b f k
  | .callv x args => evG true e x fun x => evs true e args fun vs => match x with
    | .clo g xs ys => ACall C true g (xs ++ vs ++ ys) b f k
    | _ => Stop
  | .clo g xs ys => evs true e xs fun xs => evs true e ys fun ys => Need (noCond xs = true ∧ noCond ys = true) (k (.clo g xs ys) b f)
  | op => aVal op true e b fun v => k v b f

def guardOf (want : Bool) (x : AV) (k : Bool → Prop) : Prop :=
  match x with
  | .val (.bool b) => (match want with | true => k b | false => k (!b))
  | .cond g (.val (.bool b)) => (match want with | true => k (g && b) | false => k (g && !b))
  | _ => Stop

def aOps (k : Env → List ABox → Fr → Prop) : List AO → Env → List ABox → Fr → Prop
  | [], e, b, f => k e b f
  | o :: rest, e, b, f =>
    match o.guard with
    | none => aOp C o.op e b f fun v b' f' => aOps k rest (put e o.dst v) b' f'
    | some g => guardOf g.2 (look e g.1) fun gd => aQuiet C o.op gd e b fun v => aOps k rest (put e o.dst (.cond gd v)) b f

def aDraw (k : Env → Prop) (b : List ABox) : List AO → Env → Prop
  | [], e => k e
  | o :: rest, e =>
    match o.guard with
    | none => (match o.op with
      | .mv x => aDraw k b rest (put e o.dst (ev e x))
      | op => aQuiet C op true e b fun v => aDraw k b rest (put e o.dst v))
    | some g => guardOf g.2 (look e g.1) fun gd => aQuiet C o.op gd e b fun v => aDraw k b rest (put e o.dst (.cond gd v))

/-- a region that draws its order, where reads come first and calls wait for one another -/
def aHeld (k : Env → List ABox → Fr → Prop) : List AO → Env → List ABox → Fr → Prop
  | [], e, b, f => k e b f
  | o :: rest, e, b, f =>
    match o.guard with
    | none => (match o.op with
      | .call g args => evs true e args fun vs => ACall C false g vs b f fun v b' f' => aHeld k rest (put e o.dst v) b' f'
      | .mv x => aHeld k rest (put e o.dst (ev e x)) b f
      | op => aVal op true e b fun v => aHeld k rest (put e o.dst v) b f)
    | some g => guardOf g.2 (look e g.1) fun gd => aQuiet C o.op gd e b fun v => aHeld k rest (put e o.dst (.cond gd v)) b f

def agrees (e : Env) : Env → Prop
  | [] => True
  | (i, x) :: t => look e i = x ∧ agrees e t

/-- boxes below m alone -/
def inB (m : Nat) : AV → Prop
  | .bptr j _ => j < m
  | .bsl j _ => j < m
  | .agg cs => inBL m cs
  | .tup cs => inBL m cs
  | .clo _ a b => inBL m a ∧ inBL m b
  | .cond _ x => inB m x
  | .any => True
  | .val _ => True
  | .str _ => True
  | .list _ _ => True
  | .rptr _ => True
where inBL (m : Nat) : List AV → Prop
  | [] => True
  | c :: cs => inB m c ∧ inBL m cs
def inBE (m : Nat) : Env → Prop
  | [] => True
  | p :: e => inB m p.2 ∧ inBE m e
def inBX (m : Nat) : List ABox → Prop
  | [] => True
  | x :: b => (match x with | .cells _ cs => inB.inBL m cs | _ => True) ∧ inBX m b

/-- state t says no more than state s -/
structure Weak (s t : St) : Prop where
  env : agrees s.env t.env
  bx : s.bx.take t.bx.length = t.bx
  fr : s.fr = t.fr
  nb : nb ≤ t.bx.length
  refs : s.bx.length ≤ t.bx.length ∨ (inBE t.bx.length t.env ∧ inBX t.bx.length t.bx)

inductive ALoop (body : St → (Exit → St → Prop) → Prop) (Q : Exit → St → Prop) (s : St) : Prop
  | mk (α : Type) (I : α → St) (D : α → Prop) (μ : α → Nat) (h0 : ∃ a, D a ∧ Weak nb s (I a))
      (h : ∀ a, D a → body (I a) fun e s' => match e with | .normal => Round (∃ a', D a' ∧ Weak nb s' (I a') ∧ μ a' < μ a) | e => Q e s') : ALoop body Q s

def seqK (next : St → Prop) (Q : Exit → St → Prop) (e : Exit) (s : St) : Prop := match e with | .normal => next s | e => Q e s
def blockK (id : Nat) (Q : Exit → St → Prop) (e : Exit) (s : St) : Prop := match e with | .exit id' => if id' = id then Q .normal s else Q (.exit id') s | e => Q e s

def aCode : ACode → (Exit → St → Prop) → St → Prop
  | .skip, Q, s => Q .normal s
  | .region d ops, Q, s => match s with
    | ⟨e, b, f⟩ => match d with
      | false => aOps C (fun e b f => Q .normal ⟨e, b, f⟩) ops e b f
      | true => aDraw C (fun e => Q .normal ⟨e, b, f⟩) b ops e
  | .held ops tail, Q, s => match s with
    | ⟨e, b, f⟩ => aHeld C (fun e b f => aOps C (fun e b f => Q .normal ⟨e, b, f⟩) tail e b f) ops e b f
  | .seq a b, Q, s => aCode a (seqK (aCode b Q) Q) s
  | .cond c x y, Q, s => match s with
    | ⟨e, b, f⟩ => evG true e c fun c => gBool c fun v => forceEnv e K fun e => forceBx b fun b => Fork v (aCode x Q ⟨e, b, f⟩) (aCode y Q ⟨e, b, f⟩)
  | .block id body, Q, s => aCode body (blockK id Q) s
  | .loop body, Q, s => ALoop nb (fun s Q => aCode body Q s) Q s
  | .exit id, Q, s => Q (.exit id) s
  | .ret, Q, s => Q .ret s
  | .other, _, _ => Stop
end
end Abs
end Go.Proofs.Ytamcaplpgmloiaa
